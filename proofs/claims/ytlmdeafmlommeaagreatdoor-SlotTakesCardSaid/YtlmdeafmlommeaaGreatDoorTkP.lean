/- SlotTakes answers true for every list of sectors and every byte: what was loose besides lasts, once a set is told to be done. No condition but what the row itself lists: errors.errorType reads as the program's text lays it. -/
import Derived.Test.YtlmdeafmlommeaaGreatDoorLaid
import Derived.Test.YtlmdeafmlommeaaGreatDoorTkA
import Derived.Test.YtlmdeafmlommeaaGreatDoorArgsS
import Derived.Test.YtlmdeafmlommeaaGreatDoorTie
import Derived.Test.YtlmdeafmlommeaaGreatDoorCards
import Derived.SevenTiedAt
import Derived.Carry
import Derived.ChangeMaps5
namespace Go.Proofs.YtlmdeafmlommeaaGreatDoor
open Go.ChangeShapes Go.WideShapes Go.RowKit

set_option maxRecDepth 100000 in
theorem slotTakes_lifted (os : Os) (started : os.Started) (H : Type) (enc : TypeId × Value → H) :
    ReturnsInHanded {} Tryz.checked os 7 .any (fun w args => (Rows.slotTakesSpec.pre enc Tryz.prog Tryz.f7 [] false w args ∧ laidMetH Tryz.prog theLaid w) ∧ sizedMet enc Tryz.prog Tryz.f7 (OpenSpec.ofChange Rows.slotTakesSpec) false w args)
      (Rows.slotTakesSpec.post enc Tryz.prog Tryz.f7 false true false false) := by
  refine returnsInHanded_of_change_and (C := Tryz.checked) (X := fun w _ => laidMetH Tryz.prog theLaid w) (fun _ _ _ hh h => h.of_heap hh) Tryz.own started (by kernel_rfl) Tryz.func7
    (ChangeSpec.witness_at (enc := enc) (C := Tryz.checked) (os := os) (X := fun w _ => laidMetH Tryz.prog theLaid w) false ({ World.holding Tryz.prog os ⟨#[], #[], []⟩ with heap := laidHeap (World.holding Tryz.prog os ⟨#[], #[], []⟩).heap } : World) #[.slice none 0 0, .int .u8 0] 8 rfl (by kernel_rfl) (by kernel_rfl) (by kernel_rfl) (by kernel_rfl) (by kernel_rfl) (laidWorld_met os _)) ?_
  intro W base args ds gs before hval0 hW _ _ hL _
  have hval : ∀ (j : Nat) t v, Tryz.f7.params[j]? = some t → args[j]? = some v → Value.okWide Tryz.prog W .any base t v := hval0
  have hW' := hW
  obtain ⟨p, q, hA0, hV0, rfl, hfz, hnd⟩ := hW
  have hA : DataW.TrodAll enc Tryz.prog W 0 (fun _ => true) true Tryz.f7.params.toList args.toList ds p := hA0
  have hV : DataW.TrodVars enc Tryz.prog W (fun _ => true) [] gs q := hV0
  rw [Tryz.params7] at hA hval
  obtain ⟨v1, v2, d1, d2, p1, p2, rfl, rfl, rfl, h1, h2⟩ := trodAll_two hA
  obtain ⟨a1, l1, c1, rfl⟩ := okWide_slice Tryz.underlying49 (hval 0 49 v1 rfl rfl)
  obtain ⟨n2, rfl, rfl, rfl, hw2⟩ := open_int Tryz.underlying5 (hval 1 5 v2 rfl rfl) h2
  have hg := handle_of_laid hL
  obtain ⟨rfl, rfl⟩ : gs = [] ∧ q = [] := by
    cases gs with
    | nil => exact ⟨rfl, hV⟩
    | cons g r => exact absurd hV (by intro h; cases h)
  obtain ⟨A1, hK1, hf1⟩ := ints_arg Tryz.underlying49 Tryz.underlying3 (by kernel_rfl) h1
  have hlt1 : ∀ y ∈ p1, y.block < W.heap.size := fun y hy => hW'.lt y (by simp [hy])
  have hb2 : 0 ≤ n2 ∧ n2 ≤ 255 := by
    simpa [Lit.wf, IntKind.min, IntKind.max, IntKind.signed, IntKind.bits] using hw2
  obtain ⟨x2, rfl⟩ : ∃ x : UInt8, n2 = (x.toNat : Int) := ⟨UInt8.ofNat n2.toNat, by rw [UInt8.toNat_ofNat']; omega⟩
  have e1 : Rows.slotTakesSpec.fn H ([d1, .lit (.int .u8 x2.toNat)] ++ []) = { results := [.lit (.bool true)], args := [d1, .lit (.int .u8 x2.toNat)] } := by simp [Rows.slotTakesSpec]
  refine (slotTakes_true a1 l1 c1 A1 x2 W hK1 hf1 hg).mono fun e W' ⟨he, hbel⟩ => ?_
  subst he
  refine ⟨_, rfl, _, _, _, [], p1 ++ [], [], hW', ?_, ?_, ?_, hbel.frame _, fun h => by cases h⟩
  · rw [e1]; exact trodAll_mk1 (shut_bool Tryz.underlying4 true)
  · rw [e1]; exact trodAll_mk2 (Go.RowKit.Below.trod (by kernel_rfl) (by kernel_rfl) (show 49 < Tryz.prog.types.size by rw [Tryz.tsize]; omega) h1 hbel hlt1) (shut_int Tryz.underlying5 hw2)
  · rw [e1]; rfl

theorem slotTakes_said : Rows.SlotTakesSaid :=
  OpenClaim.holds_of_wide 7 Tryz.f7 rfl rfl rfl rfl rfl rfl rfl ⟨rfl, rfl, rfl, rfl, rfl⟩ rfl rfl rfl rfl rfl (by kernel_rfl) Tryz.func7 (by kernel_rfl)
    (of_decide_eq_true (by kernel_rfl)) (by unfold Func.isWrapper; rw [if_neg (of_decide_eq_false (by kernel_rfl))]; exact ⟨rfl, rfl⟩)
    (fun os started H enc _ => slotTakes_lifted os started H enc)

theorem slotTakes_card : Rows.SlotTakesCardSaid :=
  Claim7.holds_tied_plain_at .later [] [.handle] true (true, "96310c1de3f0ec8367d5caeced5321b977c86cffa9be5e2ed4c1f4c155802770") true
    slotTakes_said (fun _ h => by cases h) (by kernel_rfl) (fun _ h => by cases h) slotTakes_row_tie rfl ⟨rfl, rfl⟩ (by kernel_rfl) rfl
    (fun f fn hf hfn => by
      obtain rfl : f = 7 := Option.some.inj ((show Tryz.prog.funcNamed Rows.slotTakesRow.func = some 7 by kernel_rfl).symm.trans hf) |>.symm
      obtain rfl : fn = Tryz.f7 := (Option.some.inj (Tryz.func7.symm.trans hfn)).symm
      exact ⟨by kernel_rfl, fun j t ht => by
        rw [Tryz.params7] at ht
        rcases j with _ | _ | j
        · obtain rfl : t = 49 := by simpa using ht.symm
          exact (show Tryz.prog.wantsStandIn 49 = false by kernel_rfl)
        · obtain rfl : t = 5 := by simpa using ht.symm
          exact (show Tryz.prog.wantsStandIn 5 = false by kernel_rfl)
        · simp at ht⟩)
    (by kernel_rfl)
#print axioms slotTakes_card
end Go.Proofs.YtlmdeafmlommeaaGreatDoor
