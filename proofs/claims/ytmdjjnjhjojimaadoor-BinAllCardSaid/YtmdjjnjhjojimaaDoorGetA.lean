import Derived.Test.YtmdjjnjhjojimaaDoorRefA
import Derived.Test.YtmdjjnjhjojimaaDoorBinF
namespace Go.Proofs.YtmdjjnjhjojimaaDoor
open Go.RowKit Go.Maps

/-- What the reference reads: a number, how many bytes it takes. -/
def getI (s : List UInt8) : Int × Nat := match cutS s with | some (n, r) => (n, s.length - r.length) | none => (0, 0)

theorem wrap_step (U x : Int) : wrap64 (wrap64 (wrap64 U * 256) + x) = wrap64 (x + 256 * U) := by unfold wrap64; omega
theorem uB_drop (t : List UInt8) (j : Nat) (h : j < t.length) : uB (t.drop j) = (t.getD j 0).toNat + 256 * uB (t.drop (j + 1)) := by
  rw [List.drop_eq_getElem_cons h, uB]
  simp [List.getD, List.getElem?_eq_getElem h]
theorem uB_last (t : List UInt8) (k : Nat) (h : t.length = k + 1) : uB t = uB (t.take k) + (t.getD k 0).toNat * 256 ^ k := by
  have e : t = t.take k ++ [t.getD k 0] := by
    have h2 := List.take_succ_eq_append_getElem (l := t) (i := k) (by omega)
    rw [List.take_of_length_le (by omega)] at h2
    rw [show t.getD k 0 = t[k] by simp [List.getD, List.getElem?_eq_getElem (show k < t.length by omega)]]
    exact h2
  conv => lhs; rw [e]
  rw [uB_snoc, List.length_take, Nat.min_eq_left (by omega)]
/-- The number that one to seven bytes make. -/
theorem joinB_small (t : List UInt8) (k : Nat) (hk : k ≤ 6) (h : t.length = k + 1) : joinB t = if 128 ≤ (t.getD k 0).toNat then (uB t : Int) - 256 ^ (k + 1) else (uB t : Int) := by
  have hl := uB_last t k h
  have h1 := uB_lt (t.take k)
  rw [List.length_take, Nat.min_eq_left (by omega)] at h1
  have hx : (t.getD k 0).toNat < 256 := (t.getD k 0).toNat_lt
  unfold joinB
  rw [h]
  generalize (t.getD k 0).toNat = x at hl hx ⊢
  generalize uB (t.take k) = V at hl h1
  generalize uB t = U at hl ⊢
  subst hl
  have hw : ∀ y : Int, IntKind.u64.wrap y = y % 18446744073709551616 := fun y => by simp [IntKind.wrap, IntKind.bits, IntKind.signed]
  rw [hw]
  unfold wrap64
  have hcase : k = 0 ∨ k = 1 ∨ k = 2 ∨ k = 3 ∨ k = 4 ∨ k = 5 ∨ k = 6 := by omega
  rcases hcase with rfl | rfl | rfl | rfl | rfl | rfl | rfl
  all_goals
    simp only [Nat.reduceAdd, Nat.reduceSub, Nat.reduceMul, Nat.reducePow, Int.reducePow] at h1 ⊢
    split <;> omega
theorem joinB_eight (t : List UInt8) (h : t.length = 8) : joinB t = wrap64 (uB t) := by
  unfold joinB
  rw [h]
  have hw : ∀ y : Int, IntKind.u64.wrap y = y % 18446744073709551616 := fun y => by simp [IntKind.wrap, IntKind.bits, IntKind.signed]
  rw [hw]
  unfold wrap64
  simp only [Nat.reduceSub, Nat.reduceMul, Int.reducePow]
  omega
theorem uB_small (t : List UInt8) (h : t.length ≤ 7) : wrap64 (uB t) = uB t := by
  have h1 := uB_lt t
  have h2 : 256 ^ t.length ≤ 256 ^ 7 := Nat.pow_le_pow_right (by omega) h
  have h3 : (256 : Nat) ^ 7 = 72057594037927936 := by decide
  unfold wrap64
  omega
theorem cutS_cons (b : UInt8) (r : List UInt8) : cutS (b :: r) = if 8 < b.toNat ∨ r.length < b.toNat then none else if wid (joinB (r.take b.toNat)) = b.toNat then some (joinB (r.take b.toNat), r.drop b.toNat) else none := rfl
theorem getI_bad (b : UInt8) (r : List UInt8) (h : 8 < b.toNat ∨ r.length < b.toNat) : getI (b :: r) = (0, 0) := by
  unfold getI; rw [cutS_cons, if_pos h]
theorem getI_wid (b : UInt8) (r : List UInt8) (h : ¬ (8 < b.toNat ∨ r.length < b.toNat)) (hw : wid (joinB (r.take b.toNat)) ≠ b.toNat) : getI (b :: r) = (0, 0) := by
  unfold getI; rw [cutS_cons, if_neg h, if_neg hw]
theorem getI_yes (b : UInt8) (r : List UInt8) (h : ¬ (8 < b.toNat ∨ r.length < b.toNat)) (hw : wid (joinB (r.take b.toNat)) = b.toNat) : getI (b :: r) = (joinB (r.take b.toNat), b.toNat + 1) := by
  unfold getI
  rw [cutS_cons, if_neg h, if_pos hw]
  simp only [List.length_cons, List.length_drop]
  congr 1
  omega

theorem getint_nil (a : Option Addr) (c : Nat) (w : World) : Calls Tryd.prog 37 #[.slice a 0 c] w fun e w' => e = .returned (.tuple #[.int .i64 0, .int .i64 0]) ∧ w' = w := by
  go_enter Tryd.func37, Tryd.ntmps37
  go_wp2
  go_ret2
  exact ⟨rfl, rfl⟩

set_option maxRecDepth 100000 in
set_option maxHeartbeats 1000000 in
theorem getint_bad (g o c : Nat) (b : UInt8) (r : List UInt8) (w : World) (hr : w.rangeAt g o (bytesV (b :: r))) (hl : r.length ≤ 1000000) (h : 8 < b.toNat ∨ r.length < b.toNat) :
    Calls Tryd.prog 37 #[.slice (some ⟨g, o, none⟩) (r.length + 1) c] w fun e w' => e = .returned (.tuple #[.int .i64 0, .int .i64 0]) ∧ w' = w := by
  have hc0 : w.cell? ⟨g, o, none⟩ = some (.int .u8 b.toNat) := hr 0 _ rfl
  have hbx := b.toNat_lt
  generalize b.toNat = x at hc0 h hbx
  have hz : ((r.length : Int) + 1 == 0) = false := by simp; omega
  by_cases h8 : 8 < x
  · go_enter Tryd.func37, Tryd.ntmps37
    go_wp2
    go_ret2
    exact ⟨rfl, rfl⟩
  · have h9 : r.length < x := by omega
    go_enter Tryd.func37, Tryd.ntmps37
    go_wp2
    go_ret2
    exact ⟨rfl, rfl⟩
end Go.Proofs.YtmdjjnjhjojimaaDoor
