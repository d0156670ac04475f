/- SlotMake answers true for all lists of numbers a and b, every number of sets, every fuse and all keep: behind a make that was cut off there is what was there, or the new numbers. No condition but what the row itself lists: errors.errorType reads as the program's text lays it. -/
import Derived.Test.YtmgdkaohdpdmkaaGreatDoorLaid
import Derived.Test.YtmgdkaohdpdmkaaGreatDoorSlO
import Derived.Test.YtmgdkaohdpdmkaaGreatDoorArgsS
import Derived.Test.YtmgdkaohdpdmkaaGreatDoorTie
import Derived.Test.YtmgdkaohdpdmkaaGreatDoorCards
import Derived.SevenTiedAt
import Derived.Carry
import Derived.ChangeMaps5
namespace Go.Proofs.YtmgdkaohdpdmkaaGreatDoor
open Go.ChangeShapes Go.WideShapes Go.RowKit

set_option maxRecDepth 100000 in
theorem slotMake_lifted (os : Os) (started : os.Started) (H : Type) (enc : TypeId × Value → H) :
    ReturnsInHanded {} Tryz.checked os 4 .any (fun w args => (Rows.slotMakeSpec.pre enc Tryz.prog Tryz.f4 [] false w args ∧ laidMetH Tryz.prog theLaid w) ∧ sizedMet enc Tryz.prog Tryz.f4 (OpenSpec.ofChange Rows.slotMakeSpec) false w args)
      (Rows.slotMakeSpec.post enc Tryz.prog Tryz.f4 false true false false) := by
  refine returnsInHanded_of_change_and (C := Tryz.checked) (X := fun w _ => laidMetH Tryz.prog theLaid w) (fun _ _ _ hh h => h.of_heap hh) Tryz.own started (by kernel_rfl) Tryz.func4
    (ChangeSpec.witness_at (enc := enc) (C := Tryz.checked) (os := os) (X := fun w _ => laidMetH Tryz.prog theLaid w) false ({ World.holding Tryz.prog os ⟨#[], #[], []⟩ with heap := laidHeap (World.holding Tryz.prog os ⟨#[], #[], []⟩).heap } : World) #[.slice none 0 0, .slice none 0 0, .int .i64 0, .int .i64 0, .slice none 0 0] 8 rfl (by kernel_rfl) (by kernel_rfl) (by kernel_rfl) (by kernel_rfl) (by kernel_rfl) (laidWorld_met os _)) ?_
  intro W base args ds gs before hval0 hW _ _ hL _
  have hval : ∀ (j : Nat) t v, Tryz.f4.params[j]? = some t → args[j]? = some v → Value.okWide Tryz.prog W .any base t v := hval0
  have hW' := hW
  obtain ⟨p, q, hA0, hV0, rfl, hfz, hnd⟩ := hW
  have hA : DataW.TrodAll enc Tryz.prog W 0 (fun _ => true) true Tryz.f4.params.toList args.toList ds p := hA0
  have hV : DataW.TrodVars enc Tryz.prog W (fun _ => true) [] gs q := hV0
  rw [Tryz.params4] at hA hval
  obtain ⟨v1, v2, v3, v4, v5, d1, d2, d3, d4, d5, p1, p2, p3, p4, p5, rfl, rfl, rfl, h1, h2, h3, h4, h5⟩ := trodAll_five hA
  obtain ⟨a1, l1, c1, rfl⟩ := okWide_slice Tryz.underlying31 (hval 0 31 v1 rfl rfl)
  obtain ⟨a2, l2, c2, rfl⟩ := okWide_slice Tryz.underlying31 (hval 1 31 v2 rfl rfl)
  obtain ⟨n3, rfl, rfl, rfl, hw3⟩ := open_int Tryz.underlying3 (hval 2 3 v3 rfl rfl) h3
  obtain ⟨n4, rfl, rfl, rfl, hw4⟩ := open_int Tryz.underlying3 (hval 3 3 v4 rfl rfl) h4
  obtain ⟨a5, l5, c5, rfl⟩ := okWide_slice Tryz.underlying23 (hval 4 23 v5 rfl rfl)
  have hg := handle_of_laid hL
  obtain ⟨rfl, rfl⟩ : gs = [] ∧ q = [] := by
    cases gs with
    | nil => exact ⟨rfl, hV⟩
    | cons g r => exact absurd hV (by intro h; cases h)
  obtain ⟨A1, hK1, hf1⟩ := ints_arg Tryz.underlying31 Tryz.underlying2 (by kernel_rfl) h1
  have hlt1 : ∀ y ∈ p1, y.block < W.heap.size := fun y hy => hW'.lt y (by simp [hy])
  obtain ⟨A2, hK2, hf2⟩ := ints_arg Tryz.underlying31 Tryz.underlying2 (by kernel_rfl) h2
  have hlt2 : ∀ y ∈ p2, y.block < W.heap.size := fun y hy => hW'.lt y (by simp [hy])
  obtain ⟨A5, hK5⟩ := keepb_arg Tryz.underlying23 Tryz.underlying4 (by kernel_rfl) h5
  have hlt5 : ∀ y ∈ p5, y.block < W.heap.size := fun y hy => hW'.lt y (by simp [hy])
  have e1 : Rows.slotMakeSpec.fn H ([d1, d2, .lit (.int .i64 n3), .lit (.int .i64 n4), d5] ++ []) = { results := [.lit (.bool true)], args := [d1, d2, .lit (.int .i64 n3), .lit (.int .i64 n4), d5] } := by simp [Rows.slotMakeSpec]
  refine (slotMake_true a1 a2 l1 l2 c1 c2 A1 A2 n3 n4 W hK1 hK2 hf1 hf2 a5 l5 c5 A5 hK5 hg).mono fun e W' ⟨he, hbel⟩ => ?_
  subst he
  refine ⟨_, rfl, _, _, _, [], p1 ++ (p2 ++ ([] ++ ([] ++ p5))), [], hW', ?_, ?_, ?_, hbel.frame _, fun h => by cases h⟩
  · rw [e1]; exact trodAll_mk1 (shut_bool Tryz.underlying4 true)
  · rw [e1]; exact trodAll_mk5 (Go.RowKit.Below.trod (by kernel_rfl) (by kernel_rfl) (show 31 < Tryz.prog.types.size by rw [Tryz.tsize]; omega) h1 hbel hlt1) (Go.RowKit.Below.trod (by kernel_rfl) (by kernel_rfl) (show 31 < Tryz.prog.types.size by rw [Tryz.tsize]; omega) h2 hbel hlt2) (shut_int Tryz.underlying3 hw3) (shut_int Tryz.underlying3 hw4) (Go.RowKit.Below.trod (by kernel_rfl) (by kernel_rfl) (show 23 < Tryz.prog.types.size by rw [Tryz.tsize]; omega) h5 hbel hlt5)
  · rw [e1]; rfl

theorem slotMake_said : Rows.SlotMakeSaid :=
  OpenClaim.holds_of_wide 4 Tryz.f4 rfl rfl rfl rfl rfl rfl rfl ⟨rfl, rfl, rfl, rfl, rfl⟩ rfl rfl rfl rfl rfl (by kernel_rfl) Tryz.func4 (by kernel_rfl)
    (of_decide_eq_true (by kernel_rfl)) (by unfold Func.isWrapper; rw [if_neg (of_decide_eq_false (by kernel_rfl))]; exact ⟨rfl, rfl⟩)
    (fun os started H enc _ => slotMake_lifted os started H enc)

theorem slotMake_card : Rows.SlotMakeCardSaid :=
  Claim7.holds_tied_plain_at .later [] [.handle] true (true, "640c02e0b035eeed6ee27a66c6105ade5f7060a9f99e03cdfb868413f4cd57ae") true
    slotMake_said (fun _ h => by cases h) (by kernel_rfl) (fun _ h => by cases h) slotMake_row_tie rfl ⟨rfl, rfl⟩ (by kernel_rfl) rfl
    (fun f fn hf hfn => by
      obtain rfl : f = 4 := Option.some.inj ((show Tryz.prog.funcNamed Rows.slotMakeRow.func = some 4 by kernel_rfl).symm.trans hf) |>.symm
      obtain rfl : fn = Tryz.f4 := (Option.some.inj (Tryz.func4.symm.trans hfn)).symm
      exact ⟨by kernel_rfl, fun j t ht => by
        rw [Tryz.params4] at ht
        rcases j with _ | _ | _ | _ | _ | j
        · obtain rfl : t = 31 := by simpa using ht.symm
          exact (show Tryz.prog.wantsStandIn 31 = false by kernel_rfl)
        · obtain rfl : t = 31 := by simpa using ht.symm
          exact (show Tryz.prog.wantsStandIn 31 = false by kernel_rfl)
        · obtain rfl : t = 3 := by simpa using ht.symm
          exact (show Tryz.prog.wantsStandIn 3 = false by kernel_rfl)
        · obtain rfl : t = 3 := by simpa using ht.symm
          exact (show Tryz.prog.wantsStandIn 3 = false by kernel_rfl)
        · obtain rfl : t = 23 := by simpa using ht.symm
          exact (show Tryz.prog.wantsStandIn 23 = false by kernel_rfl)
        · simp at ht⟩)
    (by kernel_rfl)
#print axioms slotMake_card
end Go.Proofs.YtmgdkaohdpdmkaaGreatDoor
