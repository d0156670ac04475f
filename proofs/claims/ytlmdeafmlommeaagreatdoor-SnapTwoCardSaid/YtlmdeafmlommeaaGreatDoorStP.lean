/- SnapTwo answers true for every list of sizes and all keep: texts go to the one area and to the other; the log goes on behind each. No condition but what the row itself lists: errors.errorType reads as the program's text lays it. -/
import Derived.Test.YtlmdeafmlommeaaGreatDoorLaid
import Derived.Test.YtlmdeafmlommeaaGreatDoorStA
import Derived.Test.YtlmdeafmlommeaaGreatDoorArgsS
import Derived.Test.YtlmdeafmlommeaaGreatDoorTie
import Derived.Test.YtlmdeafmlommeaaGreatDoorCards
import Derived.SevenTiedAt
import Derived.Carry
import Derived.ChangeMaps5
namespace Go.Proofs.YtlmdeafmlommeaaGreatDoor
open Go.ChangeShapes Go.WideShapes Go.RowKit

set_option maxRecDepth 100000 in
theorem snapTwo_lifted (os : Os) (started : os.Started) (H : Type) (enc : TypeId × Value → H) :
    ReturnsInHanded {} Tryz.checked os 13 .any (fun w args => (Rows.snapTwoSpec.pre enc Tryz.prog Tryz.f13 [] false w args ∧ laidMetH Tryz.prog theLaid w) ∧ sizedMet enc Tryz.prog Tryz.f13 (OpenSpec.ofChange Rows.snapTwoSpec) false w args)
      (Rows.snapTwoSpec.post enc Tryz.prog Tryz.f13 false true false false) := by
  refine returnsInHanded_of_change_and (C := Tryz.checked) (X := fun w _ => laidMetH Tryz.prog theLaid w) (fun _ _ _ hh h => h.of_heap hh) Tryz.own started (by kernel_rfl) Tryz.func13
    (ChangeSpec.witness_at (enc := enc) (C := Tryz.checked) (os := os) (X := fun w _ => laidMetH Tryz.prog theLaid w) false ({ World.holding Tryz.prog os ⟨#[], #[], []⟩ with heap := laidHeap (World.holding Tryz.prog os ⟨#[], #[], []⟩).heap } : World) #[.slice none 0 0, .slice none 0 0] 8 rfl (by kernel_rfl) (by kernel_rfl) (by kernel_rfl) (by kernel_rfl) (by kernel_rfl) (laidWorld_met os _)) ?_
  intro W base args ds gs before hval0 hW _ _ hL _
  have hval : ∀ (j : Nat) t v, Tryz.f13.params[j]? = some t → args[j]? = some v → Value.okWide Tryz.prog W .any base t v := hval0
  have hW' := hW
  obtain ⟨p, q, hA0, hV0, rfl, hfz, hnd⟩ := hW
  have hA : DataW.TrodAll enc Tryz.prog W 0 (fun _ => true) true Tryz.f13.params.toList args.toList ds p := hA0
  have hV : DataW.TrodVars enc Tryz.prog W (fun _ => true) [] gs q := hV0
  rw [Tryz.params13] at hA hval
  obtain ⟨v1, v2, d1, d2, p1, p2, rfl, rfl, rfl, h1, h2⟩ := trodAll_two hA
  obtain ⟨a1, l1, c1, rfl⟩ := okWide_slice Tryz.underlying49 (hval 0 49 v1 rfl rfl)
  obtain ⟨a2, l2, c2, rfl⟩ := okWide_slice Tryz.underlying31 (hval 1 31 v2 rfl rfl)
  have hg := handle_of_laid hL
  obtain ⟨rfl, rfl⟩ : gs = [] ∧ q = [] := by
    cases gs with
    | nil => exact ⟨rfl, hV⟩
    | cons g r => exact absurd hV (by intro h; cases h)
  obtain ⟨A1, hK1, hf1⟩ := ints_arg Tryz.underlying49 Tryz.underlying3 (by kernel_rfl) h1
  have hlt1 : ∀ y ∈ p1, y.block < W.heap.size := fun y hy => hW'.lt y (by simp [hy])
  obtain ⟨A2, hK2⟩ := keepb_arg Tryz.underlying31 Tryz.underlying4 (by kernel_rfl) h2
  have hlt2 : ∀ y ∈ p2, y.block < W.heap.size := fun y hy => hW'.lt y (by simp [hy])
  have e1 : Rows.snapTwoSpec.fn H ([d1, d2] ++ []) = { results := [.lit (.bool true)], args := [d1, d2] } := by simp [Rows.snapTwoSpec]
  refine (snapTwo_true a1 l1 c1 A1 W hK1 hf1 a2 l2 c2 A2 hK2 hg).mono fun e W' ⟨he, hbel⟩ => ?_
  subst he
  refine ⟨_, rfl, _, _, _, [], p1 ++ p2, [], hW', ?_, ?_, ?_, hbel.frame _, fun h => by cases h⟩
  · rw [e1]; exact trodAll_mk1 (shut_bool Tryz.underlying4 true)
  · rw [e1]; exact trodAll_mk2 (Go.RowKit.Below.trod (by kernel_rfl) (by kernel_rfl) (show 49 < Tryz.prog.types.size by rw [Tryz.tsize]; omega) h1 hbel hlt1) (Go.RowKit.Below.trod (by kernel_rfl) (by kernel_rfl) (show 31 < Tryz.prog.types.size by rw [Tryz.tsize]; omega) h2 hbel hlt2)
  · rw [e1]; rfl

theorem snapTwo_said : Rows.SnapTwoSaid :=
  OpenClaim.holds_of_wide 13 Tryz.f13 rfl rfl rfl rfl rfl rfl rfl ⟨rfl, rfl, rfl, rfl, rfl⟩ rfl rfl rfl rfl rfl (by kernel_rfl) Tryz.func13 (by kernel_rfl)
    (of_decide_eq_true (by kernel_rfl)) (by unfold Func.isWrapper; rw [if_neg (of_decide_eq_false (by kernel_rfl))]; exact ⟨rfl, rfl⟩)
    (fun os started H enc _ => snapTwo_lifted os started H enc)

theorem snapTwo_card : Rows.SnapTwoCardSaid :=
  Claim7.holds_tied_plain_at .later [] [.handle] true (true, "96310c1de3f0ec8367d5caeced5321b977c86cffa9be5e2ed4c1f4c155802770") true
    snapTwo_said (fun _ h => by cases h) (by kernel_rfl) (fun _ h => by cases h) snapTwo_row_tie rfl ⟨rfl, rfl⟩ (by kernel_rfl) rfl
    (fun f fn hf hfn => by
      obtain rfl : f = 13 := Option.some.inj ((show Tryz.prog.funcNamed Rows.snapTwoRow.func = some 13 by kernel_rfl).symm.trans hf) |>.symm
      obtain rfl : fn = Tryz.f13 := (Option.some.inj (Tryz.func13.symm.trans hfn)).symm
      exact ⟨by kernel_rfl, fun j t ht => by
        rw [Tryz.params13] at ht
        rcases j with _ | _ | j
        · obtain rfl : t = 49 := by simpa using ht.symm
          exact (show Tryz.prog.wantsStandIn 49 = false by kernel_rfl)
        · obtain rfl : t = 31 := by simpa using ht.symm
          exact (show Tryz.prog.wantsStandIn 31 = false by kernel_rfl)
        · simp at ht⟩)
    (by kernel_rfl)
#print axioms snapTwo_card
end Go.Proofs.YtlmdeafmlommeaaGreatDoor
