/- MetricAll (P9.1): the law answers true of every metric, two vectors and two hits. No condition but what the row itself lists: errors.errorType reads as the program's text lays it. -/
import Derived.Test.YteaacodloabdcaaGreatDoorLaid
import Derived.Test.YteaacodloabdcaaGreatDoorMqA
import Derived.Test.YteaacodloabdcaaGreatDoorArgV
import Derived.Test.YteaacodloabdcaaGreatDoorArgs
import Derived.Test.YteaacodloabdcaaGreatDoorTie
import Derived.Test.YteaacodloabdcaaGreatDoorCards
import Derived.SevenTiedAt
import Derived.Carry
import Derived.ChangeMaps5
namespace Go.Proofs.YteaacodloabdcaaGreatDoor
open Go.ChangeShapes Go.WideShapes Go.RowKit

set_option maxRecDepth 100000 in
theorem metricAll_lifted (os : Os) (started : os.Started) (H : Type) (enc : TypeId × Value → H) :
    ReturnsInHanded {} Tryz.checked os 3 .any (fun w args => (Rows.metricAllSpec.pre enc Tryz.prog Tryz.f3 [] false w args ∧ laidMetH Tryz.prog theLaid w) ∧ sizedMet enc Tryz.prog Tryz.f3 (OpenSpec.ofChange Rows.metricAllSpec) false w args)
      (Rows.metricAllSpec.post enc Tryz.prog Tryz.f3 false true false false) := by
  refine returnsInHanded_of_change_and (C := Tryz.checked) (X := fun w _ => laidMetH Tryz.prog theLaid w) (fun _ _ _ hh h => h.of_heap hh) Tryz.own started (by kernel_rfl) Tryz.func3
    (ChangeSpec.witness_at (enc := enc) (C := Tryz.checked) (os := os) (X := fun w _ => laidMetH Tryz.prog theLaid w) false ({ World.holding Tryz.prog os ⟨#[], #[], []⟩ with heap := laidHeap (World.holding Tryz.prog os ⟨#[], #[], []⟩).heap } : World) #[.int .i64 0, .slice none 0 0, .slice none 0 0, .agg #[.int .i64 0, .int .i64 0], .agg #[.int .i64 0, .int .i64 0]] 8 rfl (by kernel_rfl) (by kernel_rfl) (by kernel_rfl) (by kernel_rfl) (by kernel_rfl) (laidWorld_met os _)) ?_
  intro W base args ds gs before hval0 hW _ _ hL _
  have hval : ∀ (j : Nat) t v, Tryz.f3.params[j]? = some t → args[j]? = some v → Value.okWide Tryz.prog W .any base t v := hval0
  have hW' := hW
  obtain ⟨p, q, hA0, hV0, rfl, hfz, hnd⟩ := hW
  have hA : DataW.TrodAll enc Tryz.prog W 0 (fun _ => true) true Tryz.f3.params.toList args.toList ds p := hA0
  have hV : DataW.TrodVars enc Tryz.prog W (fun _ => true) [] gs q := hV0
  rw [Tryz.params3] at hA hval
  obtain ⟨v1, v2, v3, v4, v5, d1, d2, d3, d4, d5, p1, p2, p3, p4, p5, rfl, rfl, rfl, h1, h2, h3, h4, h5⟩ := trodAll_five hA
  obtain ⟨n1, rfl, rfl, rfl, hw1⟩ := open_int Tryz.underlying3 (hval 0 3 v1 rfl rfl) h1
  obtain ⟨a2, l2, c2, rfl⟩ := okWide_slice Tryz.underlying23 (hval 1 23 v2 rfl rfl)
  obtain ⟨a3, l3, c3, rfl⟩ := okWide_slice Tryz.underlying23 (hval 2 23 v3 rfl rfl)
  obtain ⟨x4, y4, rfl, hb4⟩ := hit_open h4 (okWide_struct Tryz.underlying25 (hval 3 25 v4 rfl rfl))
  obtain ⟨x5, y5, rfl, hb5⟩ := hit_open h5 (okWide_struct Tryz.underlying25 (hval 4 25 v5 rfl rfl))
  have hg := handle_of_laid hL
  obtain ⟨rfl, rfl⟩ : gs = [] ∧ q = [] := by
    cases gs with
    | nil => exact ⟨rfl, hV⟩
    | cons g r => exact absurd hV (by intro h; cases h)
  obtain ⟨A2, hK2, hf2⟩ := vec_arg h2
  have hlt2 : ∀ y ∈ p2, y.block < W.heap.size := fun y hy => hW'.lt y (by simp [hy])
  obtain ⟨A3, hK3, hf3⟩ := vec_arg h3
  have hlt3 : ∀ y ∈ p3, y.block < W.heap.size := fun y hy => hW'.lt y (by simp [hy])
  have hlt4 : ∀ y ∈ p4, y.block < W.heap.size := fun y hy => hW'.lt y (by simp [hy])
  have hlt5 : ∀ y ∈ p5, y.block < W.heap.size := fun y hy => hW'.lt y (by simp [hy])
  have e1 : Rows.metricAllSpec.fn H ([.lit (.int .i64 n1), d2, d3, d4, d5] ++ []) = { results := [.lit (.bool true)], args := [.lit (.int .i64 n1), d2, d3, d4, d5] } := by simp [Rows.metricAllSpec]
  refine (metricAll_true n1 x4 y4 x5 y5 hK2 hK3 hf2 hf3 hg).mono fun e W' ⟨he, hbel⟩ => ?_
  subst he
  refine ⟨_, rfl, _, _, _, [], [] ++ (p2 ++ (p3 ++ (p4 ++ p5))), [], hW', ?_, ?_, ?_, hbel.frame _, fun h => by cases h⟩
  · rw [e1]; exact trodAll_mk1 (shut_bool Tryz.underlying4 true)
  · rw [e1]; exact trodAll_mk5 (shut_int Tryz.underlying3 hw1) (Go.RowKit.Below.trod (by kernel_rfl) (by kernel_rfl) (show 23 < Tryz.prog.types.size by rw [Tryz.tsize]; omega) h2 hbel hlt2) (Go.RowKit.Below.trod (by kernel_rfl) (by kernel_rfl) (show 23 < Tryz.prog.types.size by rw [Tryz.tsize]; omega) h3 hbel hlt3) (Go.RowKit.Below.trod (by kernel_rfl) (by kernel_rfl) (show 25 < Tryz.prog.types.size by rw [Tryz.tsize]; omega) h4 hbel hlt4) (Go.RowKit.Below.trod (by kernel_rfl) (by kernel_rfl) (show 25 < Tryz.prog.types.size by rw [Tryz.tsize]; omega) h5 hbel hlt5)
  · rw [e1]; rfl

theorem metricAll_said : Rows.MetricAllSaid :=
  OpenClaim.holds_of_wide 3 Tryz.f3 rfl rfl rfl rfl rfl rfl rfl ⟨rfl, rfl, rfl, rfl, rfl⟩ rfl rfl rfl rfl rfl (by kernel_rfl) Tryz.func3 (by kernel_rfl)
    (of_decide_eq_true (by kernel_rfl)) (by unfold Func.isWrapper; rw [if_neg (of_decide_eq_false (by kernel_rfl))]; exact ⟨rfl, rfl⟩)
    (fun os started H enc _ => metricAll_lifted os started H enc)

theorem metricAll_card : Rows.MetricAllCardSaid :=
  Claim7.holds_tied_plain_at .later [] [.handle] true (true, "c74a502fbae736bd998b2968f8ffe20484fb8efe2245af724c21757aebab5afb") true
    metricAll_said (fun _ h => by cases h) (by kernel_rfl) (fun _ h => by cases h) metricAll_row_tie rfl ⟨rfl, rfl⟩ (by kernel_rfl) rfl
    (fun f fn hf hfn => by
      obtain rfl : f = 3 := Option.some.inj ((show Tryz.prog.funcNamed Rows.metricAllRow.func = some 3 by kernel_rfl).symm.trans hf) |>.symm
      obtain rfl : fn = Tryz.f3 := (Option.some.inj (Tryz.func3.symm.trans hfn)).symm
      exact ⟨by kernel_rfl, fun j t ht => by
        rw [Tryz.params3] at ht
        rcases j with _ | _ | _ | _ | _ | j
        · obtain rfl : t = 3 := by simpa using ht.symm
          exact (show Tryz.prog.wantsStandIn 3 = false by kernel_rfl)
        · obtain rfl : t = 23 := by simpa using ht.symm
          exact (show Tryz.prog.wantsStandIn 23 = false by kernel_rfl)
        · obtain rfl : t = 23 := by simpa using ht.symm
          exact (show Tryz.prog.wantsStandIn 23 = false by kernel_rfl)
        · obtain rfl : t = 25 := by simpa using ht.symm
          exact (show Tryz.prog.wantsStandIn 25 = false by kernel_rfl)
        · obtain rfl : t = 25 := by simpa using ht.symm
          exact (show Tryz.prog.wantsStandIn 25 = false by kernel_rfl)
        · simp at ht⟩)
    (by kernel_rfl)
#print axioms metricAll_card
end Go.Proofs.YteaacodloabdcaaGreatDoor
