/- MetricOrder is true of any three hits (P9.1). No condition but what the row itself lists: errors.errorType reads as the program's text lays it. -/
import Derived.Test.YteehcffmccgciaaGreatDoorLaid
import Derived.Test.YteehcffmccgciaaGreatDoorMoA
import Derived.Test.YteehcffmccgciaaGreatDoorArgV
import Derived.Test.YteehcffmccgciaaGreatDoorTie
import Derived.Test.YteehcffmccgciaaGreatDoorCards
import Derived.SevenTiedAt
import Derived.Carry
import Derived.ChangeMaps5
namespace Go.Proofs.YteehcffmccgciaaGreatDoor
open Go.ChangeShapes Go.WideShapes Go.RowKit

set_option maxRecDepth 100000 in
theorem metricOrder_lifted (os : Os) (started : os.Started) (H : Type) (enc : TypeId × Value → H) :
    ReturnsInHanded {} Tryz.checked os 8 .any (fun w args => (Rows.metricOrderSpec.pre enc Tryz.prog Tryz.f8 [] false w args ∧ laidMetH Tryz.prog theLaid w) ∧ sizedMet enc Tryz.prog Tryz.f8 (OpenSpec.ofChange Rows.metricOrderSpec) false w args)
      (Rows.metricOrderSpec.post enc Tryz.prog Tryz.f8 false true false false) := by
  refine returnsInHanded_of_change_and (C := Tryz.checked) (X := fun w _ => laidMetH Tryz.prog theLaid w) (fun _ _ _ hh h => h.of_heap hh) Tryz.own started (by kernel_rfl) Tryz.func8
    (ChangeSpec.witness_at (enc := enc) (C := Tryz.checked) (os := os) (X := fun w _ => laidMetH Tryz.prog theLaid w) false ({ World.holding Tryz.prog os ⟨#[], #[], []⟩ with heap := laidHeap (World.holding Tryz.prog os ⟨#[], #[], []⟩).heap } : World) #[.agg #[.int .i64 0, .int .i64 0], .agg #[.int .i64 0, .int .i64 0], .agg #[.int .i64 0, .int .i64 0]] 8 rfl (by kernel_rfl) (by kernel_rfl) (by kernel_rfl) (by kernel_rfl) (by kernel_rfl) (laidWorld_met os _)) ?_
  intro W base args ds gs before hval0 hW _ _ hL _
  have hval : ∀ (j : Nat) t v, Tryz.f8.params[j]? = some t → args[j]? = some v → Value.okWide Tryz.prog W .any base t v := hval0
  have hW' := hW
  obtain ⟨p, q, hA0, hV0, rfl, hfz, hnd⟩ := hW
  have hA : DataW.TrodAll enc Tryz.prog W 0 (fun _ => true) true Tryz.f8.params.toList args.toList ds p := hA0
  have hV : DataW.TrodVars enc Tryz.prog W (fun _ => true) [] gs q := hV0
  rw [Tryz.params8] at hA hval
  obtain ⟨v1, v2, v3, d1, d2, d3, p1, p2, p3, rfl, rfl, rfl, h1, h2, h3⟩ := trodAll_three hA
  obtain ⟨x1, y1, rfl, hb1⟩ := hit_open h1 (okWide_struct Tryz.underlying46 (hval 0 46 v1 rfl rfl))
  obtain ⟨x2, y2, rfl, hb2⟩ := hit_open h2 (okWide_struct Tryz.underlying46 (hval 1 46 v2 rfl rfl))
  obtain ⟨x3, y3, rfl, hb3⟩ := hit_open h3 (okWide_struct Tryz.underlying46 (hval 2 46 v3 rfl rfl))
  have hg := handle_of_laid hL
  obtain ⟨rfl, rfl⟩ : gs = [] ∧ q = [] := by
    cases gs with
    | nil => exact ⟨rfl, hV⟩
    | cons g r => exact absurd hV (by intro h; cases h)
  have hlt1 : ∀ y ∈ p1, y.block < W.heap.size := fun y hy => hW'.lt y (by simp [hy])
  have hlt2 : ∀ y ∈ p2, y.block < W.heap.size := fun y hy => hW'.lt y (by simp [hy])
  have hlt3 : ∀ y ∈ p3, y.block < W.heap.size := fun y hy => hW'.lt y (by simp [hy])
  have e1 : Rows.metricOrderSpec.fn H ([d1, d2, d3] ++ []) = { results := [.lit (.bool true)], args := [d1, d2, d3] } := by simp [Rows.metricOrderSpec]
  refine (metricOrder_true x1 y1 x2 y2 x3 y3 hb1 hb2 hb3 W hg).mono fun e W' ⟨he, hbel⟩ => ?_
  subst he
  refine ⟨_, rfl, _, _, _, [], p1 ++ (p2 ++ p3), [], hW', ?_, ?_, ?_, hbel.frame _, fun h => by cases h⟩
  · rw [e1]; exact trodAll_mk1 (shut_bool Tryz.underlying4 true)
  · rw [e1]; exact trodAll_mk3 (Go.RowKit.Below.trod (by kernel_rfl) (by kernel_rfl) (show 46 < Tryz.prog.types.size by rw [Tryz.tsize]; omega) h1 hbel hlt1) (Go.RowKit.Below.trod (by kernel_rfl) (by kernel_rfl) (show 46 < Tryz.prog.types.size by rw [Tryz.tsize]; omega) h2 hbel hlt2) (Go.RowKit.Below.trod (by kernel_rfl) (by kernel_rfl) (show 46 < Tryz.prog.types.size by rw [Tryz.tsize]; omega) h3 hbel hlt3)
  · rw [e1]; rfl

theorem metricOrder_said : Rows.MetricOrderSaid :=
  OpenClaim.holds_of_wide 8 Tryz.f8 rfl rfl rfl rfl rfl rfl rfl ⟨rfl, rfl, rfl, rfl, rfl⟩ rfl rfl rfl rfl rfl (by kernel_rfl) Tryz.func8 (by kernel_rfl)
    (of_decide_eq_true (by kernel_rfl)) (by unfold Func.isWrapper; rw [if_neg (of_decide_eq_false (by kernel_rfl))]; exact ⟨rfl, rfl⟩)
    (fun os started H enc _ => metricOrder_lifted os started H enc)

theorem metricOrder_card : Rows.MetricOrderCardSaid :=
  Claim7.holds_tied_plain_at .later [] [.handle] true (true, "dc0ee22b34999a26beef32f94a468c6f085297a03f55193b1059807d28355406") true
    metricOrder_said (fun _ h => by cases h) (by kernel_rfl) (fun _ h => by cases h) metricOrder_row_tie rfl ⟨rfl, rfl⟩ (by kernel_rfl) rfl
    (fun f fn hf hfn => by
      obtain rfl : f = 8 := Option.some.inj ((show Tryz.prog.funcNamed Rows.metricOrderRow.func = some 8 by kernel_rfl).symm.trans hf) |>.symm
      obtain rfl : fn = Tryz.f8 := (Option.some.inj (Tryz.func8.symm.trans hfn)).symm
      exact ⟨by kernel_rfl, fun j t ht => by
        rw [Tryz.params8] at ht
        rcases j with _ | _ | _ | j
        · obtain rfl : t = 46 := by simpa using ht.symm
          exact (show Tryz.prog.wantsStandIn 46 = false by kernel_rfl)
        · obtain rfl : t = 46 := by simpa using ht.symm
          exact (show Tryz.prog.wantsStandIn 46 = false by kernel_rfl)
        · obtain rfl : t = 46 := by simpa using ht.symm
          exact (show Tryz.prog.wantsStandIn 46 = false by kernel_rfl)
        · simp at ht⟩)
    (by kernel_rfl)
#print axioms metricOrder_card
end Go.Proofs.YteehcffmccgciaaGreatDoor
