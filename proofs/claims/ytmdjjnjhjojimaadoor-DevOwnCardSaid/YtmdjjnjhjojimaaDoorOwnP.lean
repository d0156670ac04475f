/- DevOwn (P1.1): for every int i, byte x and slice of bools keep the law answers true, and they read as they did: what is read and what was written is the device's own, and a crash leaves it as it is. No condition but what the row itself lists: errors.errorType reads as the program's text lays it. -/
import Derived.Test.YtmdjjnjhjojimaaDoorLaid
import Derived.Test.YtmdjjnjhjojimaaDoorOwnB
import Derived.Test.YtmdjjnjhjojimaaDoorTie
import Derived.Test.YtmdjjnjhjojimaaDoorCards
import Derived.SevenTiedAt
import Derived.Carry
import Derived.Deep.Grids
namespace Go.Proofs.YtmdjjnjhjojimaaDoor
open Go.ChangeShapes Go.WideShapes Go.RowKit

set_option maxRecDepth 100000 in
theorem devOwn_lifted (os : Os) (started : os.Started) (H : Type) (enc : TypeId × Value → H) :
    ReturnsInHanded {} Tryd.checked os 5 .any (fun w args => (Rows.devOwnSpec.pre enc Tryd.prog Tryd.f5 [] false w args ∧ laidMetH Tryd.prog theLaid w) ∧ sizedMet enc Tryd.prog Tryd.f5 (OpenSpec.ofChange Rows.devOwnSpec) false w args)
      (Rows.devOwnSpec.post enc Tryd.prog Tryd.f5 false true false false) := by
  refine returnsInHanded_of_change_and (C := Tryd.checked) (X := fun w _ => laidMetH Tryd.prog theLaid w) (fun _ _ _ hh h => h.of_heap hh) Tryd.own started (by kernel_rfl) Tryd.func5
    (ChangeSpec.witness_at (enc := enc) (C := Tryd.checked) (os := os) (X := fun w _ => laidMetH Tryd.prog theLaid w) false ({ World.holding Tryd.prog os ⟨#[], #[], []⟩ with heap := laidHeap (World.holding Tryd.prog os ⟨#[], #[], []⟩).heap } : World) #[.int .i64 0, .int .u8 0, .slice none 0 0] 8 rfl (by kernel_rfl) (by kernel_rfl) (by kernel_rfl) (by kernel_rfl) (by kernel_rfl) (laidWorld_met os _)) ?_
  intro W base args ds gs before hval0 hW _ _ hL _
  have hval : ∀ (j : Nat) t v, Tryd.f5.params[j]? = some t → args[j]? = some v → Value.okWide Tryd.prog W .any base t v := hval0
  have hW' := hW
  obtain ⟨p, q, hA0, hV0, rfl, hfz, hnd⟩ := hW
  have hA : DataW.TrodAll enc Tryd.prog W 0 (fun _ => true) true Tryd.f5.params.toList args.toList ds p := hA0
  have hV : DataW.TrodVars enc Tryd.prog W (fun _ => true) [] gs q := hV0
  rw [Tryd.params5] at hA hval
  obtain ⟨v1, v2, v3, d1, d2, d3, p1, p2, p3, rfl, rfl, rfl, h1, h2, h3⟩ := trodAll_three hA
  obtain ⟨n1, rfl, rfl, rfl, hw1⟩ := open_int Tryd.underlying3 (hval 0 3 v1 rfl rfl) h1
  obtain ⟨n2, rfl, rfl, rfl, hw2⟩ := open_int Tryd.underlying5 (hval 1 5 v2 rfl rfl) h2
  obtain ⟨ka, kl, kc, rfl⟩ := okWide_slice Tryd.underlying28 (hval 2 28 v3 rfl rfl)
  have hg := handle_of_laid hL
  obtain ⟨rfl, rfl⟩ : gs = [] ∧ q = [] := by
    cases gs with
    | nil => exact ⟨rfl, hV⟩
    | cons g r => exact absurd hV (by intro h; cases h)
  have hb2 : 0 ≤ n2 ∧ n2 ≤ 255 := by
    simpa [Lit.wf, IntKind.min, IntKind.max, IntKind.signed, IntKind.bits] using hw2
  obtain ⟨x, rfl⟩ : ∃ x : UInt8, n2 = (x.toNat : Int) := ⟨UInt8.ofNat n2.toNat, by rw [UInt8.toNat_ofNat']; omega⟩
  have hK : KeepAt W (.slice ka kl kc) := by
    obtain ⟨fuel, hf⟩ := h3
    rcases Go.Deep.open_bools Tryd.underlying28 Tryd.underlying4 (by kernel_rfl) hf with ⟨hcs, _⟩ | ⟨a, len, cap, B, hcs, _, hl, _, _, hcell⟩
    · simp only [Value.cells, List.cons.injEq, and_true, Value.slice.injEq] at hcs
      obtain ⟨rfl, rfl, rfl⟩ := hcs
      exact Or.inl ⟨none, 0, rfl⟩
    · simp only [Value.cells, List.cons.injEq, and_true, Value.slice.injEq] at hcs
      obtain ⟨rfl, rfl, rfl⟩ := hcs
      rcases Nat.eq_zero_or_pos kl with h0 | h0
      · subst h0; exact Or.inl ⟨_, _, rfl⟩
      · have hsp := World.cell?_spot (hcell 0 (by omega))
        obtain ⟨ab, ao, asp⟩ := a
        simp only [Addr.add, if_true] at hsp
        subst hsp
        refine Or.inr ⟨ab, ao, kc, (List.range kl).map B, by simp, by simpa using h0, ?_⟩
        intro j v hv
        simp only [List.getElem?_map, List.map_map] at hv
        cases hj : (List.range kl)[j]? with
        | none => simp [hj] at hv
        | some i =>
          simp only [hj, Option.map_some, Option.some.injEq, Function.comp] at hv
          subst hv
          have hi := List.getElem?_eq_some_iff.1 hj
          obtain ⟨hjl, hje⟩ := hi
          simp only [List.length_range] at hjl
          simp only [List.getElem_range] at hje
          subst hje
          rw [← Addr.add_mid]
          exact hcell j (by omega)
  have hlt : ∀ y ∈ p3, y.block < W.heap.size := fun y hy => hW'.lt y (by simpa using hy)
  have e1 : Rows.devOwnSpec.fn H ([.lit (.int .i64 n1), .lit (.int .u8 x.toNat), d3] ++ []) = { results := [.lit (.bool true)], args := [.lit (.int .i64 n1), .lit (.int .u8 x.toNat), d3] } := by simp [Rows.devOwnSpec]
  refine (devOwn_true n1 x ka kl kc W hK hg).mono fun e W' ⟨he, hbel⟩ => ?_
  subst he
  refine ⟨_, rfl, _, _, _, [], [] ++ ([] ++ p3), [], hW', ?_, ?_, ?_, hbel.frame _, fun h => by cases h⟩
  · rw [e1]; exact trodAll_mk1 (shut_bool Tryd.underlying4 true)
  · rw [e1]; exact trodAll_mk3 (shut_int Tryd.underlying3 hw1) (shut_int Tryd.underlying5 hw2) (Go.RowKit.Below.trod (by kernel_rfl) (by kernel_rfl) (show 28 < Tryd.prog.types.size by rw [Tryd.tsize]; omega) h3 hbel hlt)
  · rw [e1]; rfl

theorem devOwn_said : Rows.DevOwnSaid :=
  OpenClaim.holds_of_wide 5 Tryd.f5 rfl rfl rfl rfl rfl rfl rfl ⟨rfl, rfl, rfl, rfl, rfl⟩ rfl rfl rfl rfl rfl (by kernel_rfl) Tryd.func5 (by kernel_rfl)
    (of_decide_eq_true (by kernel_rfl)) (by unfold Func.isWrapper; rw [if_neg (of_decide_eq_false (by kernel_rfl))]; exact ⟨rfl, rfl⟩)
    (fun os started H enc _ => devOwn_lifted os started H enc)

theorem devOwn_card : Rows.DevOwnCardSaid :=
  Claim7.holds_tied_plain_at .later [] [.handle] true (true, "e0f4ae2f81960756713bd8f2886f18c5087cbb3d66e642d6c2b00961d8c0c7b5") true
    devOwn_said (fun _ h => by cases h) (by kernel_rfl) (fun _ h => by cases h) devOwn_row_tie rfl ⟨rfl, rfl⟩ (by kernel_rfl) rfl
    (fun f fn hf hfn => by
      obtain rfl : f = 5 := Option.some.inj ((show Tryd.prog.funcNamed Rows.devOwnRow.func = some 5 by kernel_rfl).symm.trans hf) |>.symm
      obtain rfl : fn = Tryd.f5 := (Option.some.inj (Tryd.func5.symm.trans hfn)).symm
      exact ⟨by kernel_rfl, fun j t ht => by
        rw [Tryd.params5] at ht
        rcases j with _ | _ | _ | j
        · obtain rfl : t = 3 := by simpa using ht.symm
          exact (show Tryd.prog.wantsStandIn 3 = false by kernel_rfl)
        · obtain rfl : t = 5 := by simpa using ht.symm
          exact (show Tryd.prog.wantsStandIn 5 = false by kernel_rfl)
        · obtain rfl : t = 28 := by simpa using ht.symm
          exact (show Tryd.prog.wantsStandIn 28 = false by kernel_rfl)
        · simp at ht⟩)
    (by kernel_rfl)
#print axioms devOwn_card
end Go.Proofs.YtmdjjnjhjojimaaDoor
