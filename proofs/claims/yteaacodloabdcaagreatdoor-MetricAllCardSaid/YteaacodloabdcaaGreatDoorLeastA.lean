import Derived.Test.YteaacodloabdcaaGreatDoorUnlikeA
import Derived.Test.YteaacodloabdcaaGreatDoorBegA
import Derived.Test.YteaacodloabdcaaGreatDoorTextA
namespace Go.Proofs.YteaacodloabdcaaGreatDoor
open Go.RowKit Go.Maps

theorem elem57 : Tryz.prog.elem 98 = 2 := by kernel_rfl
/-- 'x[:k]' of a slice of int64. -/
theorem slice_head (a : Option Addr) (n c k : Nat) (hk : k ≤ c) (W : World) : (Instr.sliceAt 98 (.slice a n c) none (some (.int .i64 (k : Int))) none).run Tryz.prog W = .ok (.slice a k c) W := by
  have hu : Tryz.prog.underlying 98 = some (.slice (Tryz.prog.elem 98)) := by rw [elem57]; exact Tryz.underlying98
  have hs := Tryz.sizeOf2 W
  rw [run_sliceAt_slice W 98 _ _ _ _ hu, run_slice_h W 98 _ n c hu .i64 k (by omega) (by omega), elem57, hs]
  cases a with
  | none => simp [Result.andThen, sliced]
  | some p => simp [Result.andThen, sliced, Addr.add]
/-- Numbers that a slice reads. -/
structure IntsAt (w : World) (L : Nat) (a : Option Addr) (n : Nat) (A : List Int) : Prop where
  len : A.length = n
  fit : AllFit A
  at_ : n = 0 ∨ ∃ b o, a = some ⟨b, o, none⟩ ∧ b < L ∧ w.rangeAt b o (A.map (Value.int .i64))
theorem IntsAt.head {w : World} {L : Nat} {a : Option Addr} {n : Nat} {A : List Int} (h : IntsAt w L a n A) (k : Nat) (hk : k ≤ n) : IntsAt w L a k (A.take k) := {
  len := by rw [List.length_take, h.len]; omega
  fit := fun x hx => h.fit x (List.mem_of_mem_take hx)
  at_ := by
    rcases h.at_ with h0 | ⟨b, o, e, hb, hr⟩
    · exact Or.inl (by omega)
    · refine Or.inr ⟨b, o, e, hb, fun j v hv => hr j v ?_⟩
      rw [List.map_take, List.getElem?_take] at hv
      split at hv
      · exact hv
      · cases hv }
theorem IntsAt.below {w w' : World} {L : Nat} {a : Option Addr} {n : Nat} {A : List Int} (h : IntsAt w L a n A) (hb : Below L w w') : IntsAt w' L a n A := {
  len := h.len
  fit := h.fit
  at_ := by
    rcases h.at_ with h0 | ⟨b, o, e, hl, hr⟩
    · exact Or.inl h0
    · exact Or.inr ⟨b, o, e, hl, fun j v hv => (hb.cell (p := ⟨b, o + j, none⟩) hl).trans (hr j v hv)⟩ }
theorem IntsAt.cell {w : World} {L : Nat} {a : Option Addr} {n : Nat} {A : List Int} (h : IntsAt w L a n A) (j : Nat) (hj : j < n) : ∃ b o, a = some ⟨b, o, none⟩ ∧ w.cell? ⟨b, o + j, none⟩ = some (.int .i64 (A.getD j 0)) := by
  rcases h.at_ with h0 | ⟨b, o, e, hl, hr⟩
  · omega
  · have := h.len
    exact ⟨b, o, e, hr j _ (by rw [List.getElem?_map, List.getElem?_eq_getElem (by omega)]; simp [List.getD, List.getElem?_eq_getElem (show j < A.length by omega)])⟩

/-- Int of numbers that a slice reads. -/
theorem int_ints {w : World} {wb base : Nat} {s : List UInt8} {a : Option Addr} {c : Nat} (h : WrAt w wb base s a c) {L : Nat} (ka : Option Addr) (kn kc : Nat) (A : List Int) (hA : IntsAt w L ka kn A) (hL1 : L ≤ wb) (hL2 : L ≤ base) (hm : s.length + 10 * kn ≤ 1000000000) :
    Calls Tryz.prog 63 #[.pointer (some ⟨wb, 0, none⟩), .slice ka kn kc] w fun e w' => ∃ a' c', e = .returned (.tuple #[]) ∧ WrAt w' wb base (s ++ A.flatMap encInt) a' c' ∧ Keeps (WrMay wb (.slice a s.length c)) w w' := by
  rcases hA.at_ with h0 | ⟨b, o, rfl, hl, hr⟩
  · subst h0
    have hA0 : A = [] := List.eq_nil_of_length_eq_zero hA.len
    subst hA0
    refine (int_zero ka kc).mono ?_
    rintro e w' ⟨rfl, rfl⟩
    exact ⟨a, c, rfl, by simpa using h, Keeps.refl _ _⟩
  · have := hA.len
    subst this
    refine (int_any h b o kc A hr (by omega) (fun e => by have := (h.own e).1; omega) hA.fit hm).mono ?_
    rintro e w' ⟨a', c', rfl, h1, h2, _⟩
    exact ⟨a', c', rfl, h1, h2⟩
end Go.Proofs.YteaacodloabdcaaGreatDoor

namespace Go.Proofs.YteaacodloabdcaaGreatDoor
open Go.RowKit Go.Maps

/-- The padding byte of a number. -/
theorem byteAt_pad (n : Int) (h0 : -9223372036854775808 ≤ n) (h1 : n ≤ 9223372036854775807) (h8 : wid n < 8) : byteAt n (wid n) = if n < 0 then 255 else 0 := by
  apply UInt8.toNat_inj.1
  have h := byteAt_nat n (wid n)
  have hp : (0 : Int) < 256 ^ wid n := Int.pow_pos (by omega)
  by_cases hn0 : n = 0
  · subst hn0
    rw [if_neg (by omega)]
    simp at h
    have : (byteAt 0 (wid 0)).toNat = 0 := by omega
    rw [this]; rfl
  · have hf := wid_fits n h0 h1 hn0
    have hw := wid_pos n hn0
    have he : (256 : Int) ^ wid n = 2 * 2 ^ (8 * wid n - 1) := by
      rw [show (256 : Int) = 2 ^ 8 from rfl, ← Int.pow_mul, show 8 * wid n = (8 * wid n - 1) + 1 from by omega, Int.pow_succ, Int.mul_comm]
      rfl
    unfold fits at hf
    rw [he] at h hp
    generalize (2 : Int) ^ (8 * wid n - 1) = p at *
    by_cases hn : n < 0
    · rw [if_pos hn]
      have e : n / (2 * p) = -1 := by
        apply Int.ediv_eq_iff_of_pos hp |>.2
        omega
      rw [e] at h
      have : (byteAt n (wid n)).toNat = 255 := by omega
      rw [this]; rfl
    · rw [if_neg hn]
      have e : n / (2 * p) = 0 := Int.ediv_eq_zero_of_lt (by omega) (by omega)
      rw [e] at h
      have : (byteAt n (wid n)).toNat = 0 := by omega
      rw [this]; rfl
/-- A number in more bytes than it needs is none. -/
theorem rd_long (n : Int) (h0 : -9223372036854775808 ≤ n) (h1 : n ≤ 9223372036854775807) (h8 : wid n < 8) (pad : UInt8) (hpad : pad = if n < 0 then 255 else 0) :
    rdInt (UInt8.ofNat (wid n + 1) :: (encTo n (wid n) ++ [pad])) 0 = (0, [], 1) := by
  have hb : (UInt8.ofNat (wid n + 1)).toNat = wid n + 1 := by simp [UInt8.toNat_ofNat']; omega
  have he : encTo n (wid n) ++ [pad] = encTo n (wid n + 1) := by rw [encTo_succ, byteAt_pad n h0 h1 h8, hpad]
  have hf : fits (wid n + 1) n := by
    by_cases hn : n = 0
    · subst hn; unfold fits; have : (0 : Int) < 2 ^ (8 * (wid 0 + 1) - 1) := Int.pow_pos (by omega)
      omega
    · exact fits_mono (wid n) _ n (by omega) (wid_fits n h0 h1 hn)
  have hj : joinB (encTo n (wid n + 1)) = n := joinB_encTo n (wid n + 1) (by omega) hf (by omega)
  have hc : cutS (UInt8.ofNat (wid n + 1) :: (encTo n (wid n) ++ [pad])) = none := by
    rw [he]
    simp only [cutS, hb, encTo_length]
    rw [if_neg (by omega), List.take_of_length_le (by rw [encTo_length]; omega), hj, if_neg (by omega)]
  simp only [rdInt, hc, if_true]

/-- A row of bytes, its shape written out. -/
theorem row_shape {w : World} {base m : Nat} {v : Value} {xs : List Value} (h : w.ownsRow base 5 1 v m xs) (hne : v ≠ .slice none 0 0) : ∃ g c, v = .slice (some ⟨g, 0, none⟩) m c := by
  obtain ⟨_, ⟨e, _⟩ | ⟨g, c, _, e, _⟩⟩ := h
  · exact absurd e hne
  · exact ⟨g, c, e⟩
theorem row_base {w : World} {base m g c : Nat} {xs : List Value} (h : w.ownsRow base 5 1 (.slice (some ⟨g, 0, none⟩) m c) m xs) : base ≤ g ∧ g < w.heap.size ∧ w.rangeAt g 0 xs ∧ m ≤ c ∧ (∀ o, w.frozen? ⟨g, o, none⟩ = false) := by
  obtain ⟨hl, ⟨e, _⟩ | ⟨g', c', cur, e, r1, r2, r3, r4, r5, r6⟩⟩ := h
  · cases e
  · injection e with e1 e2 e3
    injection e1 with e4
    injection e4 with e5
    subst e5 e3
    refine ⟨r1, (Array.getElem?_eq_some_iff.1 r2).1, ?_, r3, fun o => by simp [World.frozen?, r2]⟩
    intro j v hv
    rw [cell_of_row _ _ (0 + j) cur 5 (0, 0) r2]
    rw [← r6, List.getElem?_take] at hv
    split at hv
    · simpa using hv
    · cases hv
/-- 'append' onto a slice of bytes, the new value's shape written out. -/
theorem wpList_append_b {w : World} {ops : Array Oper} {rest : List Oper} {o : Oper} {a : Act} {Q : Exit → Act → World → Prop} (hgd : o.guard = none) (sl x : Operand) (ho : o.op = .call { callee := .builtin .append, args := #[sl, x], argTypes := #[67, 67] })
    (base : Nat) (v : Value) (n : Nat) (xs : List Value) (hs : a.eval sl = v) (hown : w.ownsRow base 5 1 v n xs) (ad : Addr) (m c : Nat) (news : List Value) (hx : a.eval x = .slice (some ad) m c) (hl : news.length = m) (hm : 0 < m) (hnews : ∀ j u, news[j]? = some u → w.cell? (ad.add j) = some u) (h1 : ∀ u ∈ news, u.oneCell' = true)
    (h63 : n + m ≤ 100000000000) (hbase : base ≤ w.heap.size)
    (h : ∀ g c' w', w'.ownsRow base 5 1 (.slice (some ⟨g, 0, none⟩) (n + m) c') (n + m) (xs ++ news) → w.grownBy w' v.ownBlock → wpList Tryz.prog ops Q rest (a.put o.dst (.slice (some ⟨g, 0, none⟩) (n + m) c')) w') : wpList Tryz.prog ops Q (o :: rest) a w := by
  obtain ⟨i0, hi, hz0, hz1, hz2⟩ := info_parts info5
  refine wpList_append_own _ hgd sl x 67 ho base 5 i0 (.int .u8 0) 1 1 Tryz.underlying67 hi hz0 hz1 hz2 rfl (by decide) v n xs hs hown ad m c news hx (by omega) hnews h1 (by unfold maxLen; omega) (by omega) hbase ?_
  intro v' w' hrow hg hnil
  obtain ⟨g, c', rfl⟩ := row_shape hrow (fun e => by have := (hnil.1 e).2; omega)
  exact h g c' w' hrow hg
/-- The first byte of a row is written anew. -/
theorem row_set0 {w : World} {base m g c : Nat} {x y : Value} {xs : List Value} (h : w.ownsRow base 5 1 (.slice (some ⟨g, 0, none⟩) m c) m (x :: xs)) : (w.setCell ⟨g, 0, none⟩ y).ownsRow base 5 1 (.slice (some ⟨g, 0, none⟩) m c) m (y :: xs) := by
  obtain ⟨hl, ⟨e, _⟩ | ⟨g', c', cur, e, r1, r2, r3, r4, r5, r6⟩⟩ := h
  · cases e
  · refine ⟨by simpa using hl, Or.inr ⟨g', c', cur.setIfInBounds 0 y, e, r1, ?_, r3, r4, by simpa using r5, ?_⟩⟩
    · injection e with e1
      injection e1 with e4
      injection e4 with e5
      subst e5
      simp [World.setCell, Array.getElem?_modify, r2]
    · have hm : 0 < m := by have : (x :: xs).length = m * 1 := hl; simp at this; omega
      have e0 : (cur.setIfInBounds 0 y).toList = cur.toList.set 0 y := by simp
      rw [e0, List.take_set, r6]
      simp
theorem newreader_len (b o c k : Nat) (s : List UInt8) (w : World) (hk : s.length = k) (hbig : k ≤ 1000000000) (hr : w.rangeAt b o (bytesV s)) :
    Calls Tryz.prog 20 #[.slice (some ⟨b, o, none⟩) k c] w fun e w' => ∃ rb a' c', e = .returned (.pointer (some ⟨rb, 0, none⟩)) ∧ w.heap.size ≤ rb ∧ RdAt w' rb s a' c' 0 ∧ Below w.heap.size w w' := by
  subst hk; exact newreader_some b o c s w hbig hr
end Go.Proofs.YteaacodloabdcaaGreatDoor
