import Derived.Test.YtlmdeafmlommeaaGreatDoorUnlikeA
namespace Go.Proofs.YtlmdeafmlommeaaGreatDoor
open Go.RowKit Go.Maps

/-- A Writer stays while other blocks turn. -/
theorem WrAt.keeps {S : Nat → Prop} {w w' : World} {wb base : Nat} {s : List UInt8} {a : Option Addr} {c : Nat} (h : WrAt w wb base s a c) (hk : Keeps S w w') (s1 : ¬ S wb) (s2 : ∀ g, (Value.slice a s.length c).ownBlock = some g → ¬ S g) : WrAt w' wb base s a c := {
  c0 := (hk.cell (p := ⟨wb, 0, none⟩) h.lt s1).trans h.c0
  f0 := (hk.frozen (p := ⟨wb, 0, none⟩) h.lt s1).trans h.f0
  row := by
    obtain ⟨hl, ⟨e, h0⟩ | ⟨g, cap, cur, e, r1, r2, r3⟩⟩ := h.row
    · exact ⟨hl, Or.inl ⟨e, h0⟩⟩
    · refine ⟨hl, Or.inr ⟨g, cap, cur, e, r1, ?_, r3⟩⟩
      rw [hk.block g (Array.getElem?_eq_some_iff.1 r2).1 (s2 g (by rw [e]; rfl))]; exact r2
  bs := Nat.le_trans h.bs hk.size
  ne := h.ne }

/-- Int of no numbers. -/
theorem int_zero {w : World} {wb : Nat} (ka : Option Addr) (kc : Nat) :
    Calls Tryz.prog 73 #[.pointer (some ⟨wb, 0, none⟩), .slice ka 0 kc] w fun e w' => e = .returned (.tuple #[]) ∧ w' = w := by
  go_enter Tryz.func73, Tryz.ntmps73
  go_wp2
  refine wp_loop_rounds 1 ?_
  rw [rounds_succ]
  go_wp2
  first | go_end0 | refine bodyPost_ret (results_none rfl _ _ _) rfl ?_
  exact ⟨rfl, rfl⟩
end Go.Proofs.YtlmdeafmlommeaaGreatDoor
