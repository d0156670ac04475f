import Derived.Test.YtlmdeafmlommeaaGreatDoorUnlikeB
namespace Go.Proofs.YtlmdeafmlommeaaGreatDoor
open Go.RowKit Go.Maps

theorem elem57 : Tryz.prog.elem 69 = 2 := by kernel_rfl
/-- 'x[:k]' of a slice of int64. -/
theorem slice_head (a : Option Addr) (n c k : Nat) (hk : k ≤ c) (W : World) : (Instr.sliceAt 69 (.slice a n c) none (some (.int .i64 (k : Int))) none).run Tryz.prog W = .ok (.slice a k c) W := by
  have hu : Tryz.prog.underlying 69 = some (.slice (Tryz.prog.elem 69)) := by rw [elem57]; exact Tryz.underlying69
  have hs := Tryz.sizeOf2 W
  rw [run_sliceAt_slice W 69 _ _ _ _ hu, run_slice_h W 69 _ n c hu .i64 k (by omega) (by omega), elem57, hs]
  cases a with
  | none => simp [Result.andThen, sliced]
  | some p => simp [Result.andThen, sliced, Addr.add]
/-- Numbers that a slice reads. -/
structure IntsAt (w : World) (L : Nat) (a : Option Addr) (n : Nat) (A : List Int) : Prop where
  len : A.length = n
  fit : AllFit A
  at_ : n = 0 ∨ ∃ b o, a = some ⟨b, o, none⟩ ∧ b < L ∧ w.rangeAt b o (A.map (Value.int .i64))
theorem IntsAt.head {w : World} {L : Nat} {a : Option Addr} {n : Nat} {A : List Int} (h : IntsAt w L a n A) (k : Nat) (hk : k ≤ n) : IntsAt w L a k (A.take k) := {
  len := by rw [List.length_take, h.len]; omega
  fit := fun x hx => h.fit x (List.mem_of_mem_take hx)
  at_ := by
    rcases h.at_ with h0 | ⟨b, o, e, hb, hr⟩
    · exact Or.inl (by omega)
    · refine Or.inr ⟨b, o, e, hb, fun j v hv => hr j v ?_⟩
      rw [List.map_take, List.getElem?_take] at hv
      split at hv
      · exact hv
      · cases hv }
theorem IntsAt.below {w w' : World} {L : Nat} {a : Option Addr} {n : Nat} {A : List Int} (h : IntsAt w L a n A) (hb : Below L w w') : IntsAt w' L a n A := {
  len := h.len
  fit := h.fit
  at_ := by
    rcases h.at_ with h0 | ⟨b, o, e, hl, hr⟩
    · exact Or.inl h0
    · exact Or.inr ⟨b, o, e, hl, fun j v hv => (hb.cell (p := ⟨b, o + j, none⟩) hl).trans (hr j v hv)⟩ }
theorem IntsAt.cell {w : World} {L : Nat} {a : Option Addr} {n : Nat} {A : List Int} (h : IntsAt w L a n A) (j : Nat) (hj : j < n) : ∃ b o, a = some ⟨b, o, none⟩ ∧ w.cell? ⟨b, o + j, none⟩ = some (.int .i64 (A.getD j 0)) := by
  rcases h.at_ with h0 | ⟨b, o, e, hl, hr⟩
  · omega
  · have := h.len
    exact ⟨b, o, e, hr j _ (by rw [List.getElem?_map, List.getElem?_eq_getElem (by omega)]; simp [List.getD, List.getElem?_eq_getElem (show j < A.length by omega)])⟩

/-- Int of numbers that a slice reads. -/
theorem int_ints {w : World} {wb base : Nat} {s : List UInt8} {a : Option Addr} {c : Nat} (h : WrAt w wb base s a c) {L : Nat} (ka : Option Addr) (kn kc : Nat) (A : List Int) (hA : IntsAt w L ka kn A) (hL1 : L ≤ wb) (hL2 : L ≤ base) (hm : s.length + 10 * kn ≤ 1000000000) :
    Calls Tryz.prog 73 #[.pointer (some ⟨wb, 0, none⟩), .slice ka kn kc] w fun e w' => ∃ a' c', e = .returned (.tuple #[]) ∧ WrAt w' wb base (s ++ A.flatMap encInt) a' c' ∧ Keeps (WrMay wb (.slice a s.length c)) w w' := by
  rcases hA.at_ with h0 | ⟨b, o, rfl, hl, hr⟩
  · subst h0
    have hA0 : A = [] := List.eq_nil_of_length_eq_zero hA.len
    subst hA0
    refine (int_zero ka kc).mono ?_
    rintro e w' ⟨rfl, rfl⟩
    exact ⟨a, c, rfl, by simpa using h, Keeps.refl _ _⟩
  · have := hA.len
    subst this
    refine (int_any h b o kc A hr (by omega) (fun e => by have := (h.own e).1; omega) hA.fit hm).mono ?_
    rintro e w' ⟨a', c', rfl, h1, h2, _⟩
    exact ⟨a', c', rfl, h1, h2⟩
end Go.Proofs.YtlmdeafmlommeaaGreatDoor
