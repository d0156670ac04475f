import Derived.Test.YteaacodloabdcaaGreatDoorBinA
import Derived.Lib.ItoaNum
import Derived.Test.YteaacodloabdcaaGreatDoorBegA
import Derived.Test.YteaacodloabdcaaGreatDoorDevI
namespace Go.Proofs.YteaacodloabdcaaGreatDoor
open Go.RowKit

/-- n fits in k bytes with its sign. -/
def fits (k : Nat) (n : Int) : Prop := -(2 ^ (8 * k - 1)) ≤ n ∧ n < 2 ^ (8 * k - 1)
theorem pow_int (j : Nat) : ((2 ^ j : Nat) : Int) = 2 ^ j := by simp
theorem mag_fits (k : Nat) (n : Int) : fits k n ↔ mag n < 2 ^ (8 * k - 1) := by
  unfold fits mag
  have h := pow_int (8 * k - 1)
  generalize (2 : Int) ^ (8 * k - 1) = p at h ⊢
  generalize 2 ^ (8 * k - 1) = q at h ⊢
  split <;> omega
theorem wid_of_fits (k : Nat) (n : Int) (hk : 1 ≤ k) (hk8 : k ≤ 8) (h : fits k n) : wid n ≤ k := by
  have h1 := (mag_fits k n).1 h
  have h2 := Lib.bitLen_le (mag n) (8 * k - 1) (by omega) h1
  unfold wid
  split
  · omega
  · omega
theorem wid_of_not (k : Nat) (n : Int) (hk : 1 ≤ k) (h0 : -9223372036854775808 ≤ n) (h1 : n ≤ 9223372036854775807) (h : ¬ fits k n) : k < wid n := by
  have hm : ¬ mag n < 2 ^ (8 * k - 1) := fun x => h ((mag_fits k n).2 x)
  have hml := mag_le n h0 h1
  have hp : 0 < 2 ^ (8 * k - 1) := Nat.pow_pos (by omega)
  have hne : mag n ≠ 0 := by omega
  have e64 : (2:Nat) ^ 64 = 18446744073709551616 := by decide
  have hm64 : mag n < 2 ^ 64 := by omega
  obtain ⟨b1, b2, b3⟩ := Lib.bitLenAux_bounds 64 (mag n) hm64 hne
  have hb : 8 * k ≤ Lib.bitLen (mag n) := by
    refine Nat.le_of_not_lt (fun hlt => ?_)
    have : 2 ^ Lib.bitLenAux 64 (mag n) ≤ 2 ^ (8 * k - 1) := Nat.pow_le_pow_right (by omega) (by unfold Lib.bitLen at hlt; omega)
    omega
  have hn0 : n ≠ 0 := fun e => by subst e; simp [mag] at hne
  unfold wid
  rw [if_neg hn0]
  omega
theorem wid_le8 (n : Int) (h0 : -9223372036854775808 ≤ n) (h1 : n ≤ 9223372036854775807) : wid n ≤ 8 := by
  have e63 : (2:Int) ^ (8 * 8 - 1) = 9223372036854775808 := by decide
  refine wid_of_fits 8 n (by omega) (by omega) ⟨?_, ?_⟩
  · rw [e63]; exact h0
  · rw [e63]; omega
theorem wid_pos (n : Int) (h : n ≠ 0) : 1 ≤ wid n := by unfold wid; rw [if_neg h]; omega
theorem wid_fits (n : Int) (h0 : -9223372036854775808 ≤ n) (h1 : n ≤ 9223372036854775807) (h : n ≠ 0) : fits (wid n) n := by
  refine Classical.byContradiction (fun x => ?_)
  have := wid_of_not (wid n) n (wid_pos n h) h0 h1 x
  omega
theorem fits_mono (j k : Nat) (n : Int) (hjk : j ≤ k) (h : fits j n) : fits k n := by
  rw [mag_fits] at h ⊢
  exact Nat.lt_of_lt_of_le h (Nat.pow_le_pow_right (by omega) (by omega))

theorem emod_step (n p : Int) (hp : 0 < p) : n % (p * 256) = n % p + n / p % 256 * p := by
  have h1 := Int.emod_add_mul_ediv n p
  have h2 := Int.emod_add_mul_ediv (n / p) 256
  have r0 := Int.emod_nonneg n (Int.ne_of_gt hp)
  have r1 := Int.emod_lt_of_pos n hp
  have s0 : 0 ≤ n / p % 256 := Int.emod_nonneg _ (by omega)
  have s1 : n / p % 256 < 256 := Int.emod_lt_of_pos _ (by omega)
  generalize n % p = r at *
  generalize n / p = q at *
  generalize q % 256 = s at *
  generalize q / 256 = t at *
  have e : n = (r + s * p) + p * 256 * t := by
    rw [← h1, ← h2, Int.mul_add, Int.mul_comm p s, Int.mul_assoc, Int.add_assoc]
  have hsp : s * p ≤ 255 * p := Int.mul_le_mul_of_nonneg_right (by omega) (by omega)
  have hsp0 : 0 ≤ s * p := Int.mul_nonneg s0 (by omega)
  rw [e, Int.add_mul_emod_self_left]
  exact Int.emod_eq_of_lt (by omega) (by omega)
theorem byteAt_nat (n : Int) (j : Nat) : ((byteAt n j).toNat : Int) = n / 256 ^ j % 256 := by
  have h0 : 0 ≤ n / 256 ^ j % 256 := Int.emod_nonneg _ (by omega)
  have h1 : n / 256 ^ j % 256 < 256 := Int.emod_lt_of_pos _ (by omega)
  simp only [byteAt, UInt8.toNat_ofNat', Nat.reducePow]
  rw [Nat.mod_eq_of_lt (by omega)]
  omega
theorem uB_encTo (n : Int) : ∀ k : Nat, (uB (encTo n k) : Int) = n % 256 ^ k
  | 0 => by simp [encTo, uB, Int.emod_one]
  | k + 1 => by
    have ih := uB_encTo n k
    rw [encTo_succ, uB_snoc, encTo_length, Int.pow_succ, emod_step n (256 ^ k) (Int.pow_pos (by omega)), ← ih, ← byteAt_nat]
    simp
theorem joinB_encTo (n : Int) (k : Nat) (hk : k ≤ 8) (h : fits k n) (h0 : k = 0 → n = 0) : joinB (encTo n k) = n := by
  unfold joinB
  rw [uB_encTo, encTo_length]
  have hw : ∀ y : Int, IntKind.u64.wrap y = y % 18446744073709551616 := fun y => by simp [IntKind.wrap, IntKind.bits, IntKind.signed]
  rw [hw]
  unfold wrap64
  unfold fits at h
  have hcase : k = 0 ∨ k = 1 ∨ k = 2 ∨ k = 3 ∨ k = 4 ∨ k = 5 ∨ k = 6 ∨ k = 7 ∨ k = 8 := by omega
  rcases hcase with rfl | rfl | rfl | rfl | rfl | rfl | rfl | rfl | rfl
  · rw [h0 rfl]; decide
  all_goals (simp only [Nat.reduceMul, Nat.reduceSub, Int.reducePow, Int.reduceNeg] at h ⊢; omega)
end Go.Proofs.YteaacodloabdcaaGreatDoor

namespace Go.Proofs.YteaacodloabdcaaGreatDoor
open Go.RowKit Go.Maps

theorem cutS_enc (n : Int) (r : List UInt8) (h0 : -9223372036854775808 ≤ n) (h1 : n ≤ 9223372036854775807) : cutS (encInt n ++ r) = some (n, r) := by
  have h8 := wid_le8 n h0 h1
  have hb : (UInt8.ofNat (wid n)).toNat = wid n := by rw [UInt8.toNat_ofNat']; omega
  have hl := encTo_length n (wid n)
  show cutS (UInt8.ofNat (wid n) :: (encTo n (wid n) ++ r)) = _
  unfold cutS
  simp only [hb]
  rw [if_neg (by rw [List.length_append, hl]; omega)]
  have ht : (encTo n (wid n) ++ r).take (wid n) = encTo n (wid n) := by rw [List.take_append_of_le_length (by omega), List.take_of_length_le (by omega)]
  have hd : (encTo n (wid n) ++ r).drop (wid n) = r := by rw [List.drop_append_of_le_length (by omega), List.drop_of_length_le (by omega), List.nil_append]
  have hj : joinB (encTo n (wid n)) = n := by
    by_cases hn : n = 0
    · subst hn; decide +kernel
    · exact joinB_encTo n (wid n) h8 (wid_fits n h0 h1 hn) (fun h => by have := wid_pos n hn; omega)
  rw [ht, hd, hj, if_pos rfl]
theorem rdInt_enc (n : Int) (r : List UInt8) (h0 : -9223372036854775808 ≤ n) (h1 : n ≤ 9223372036854775807) : rdInt (encInt n ++ r) 0 = (n, r, 0) := by
  unfold rdInt
  rw [if_pos rfl, cutS_enc n r h0 h1]
theorem rdText_enc (u r : List UInt8) (most : Int) (hu : u.length ≤ 1000000) : rdText (encInt u.length ++ (u ++ r)) 0 most = if most < u.length then ([], [], 1) else (u, r, 0) := by
  unfold rdText
  rw [rdInt_enc _ _ (by omega) (by omega), if_pos rfl]
  by_cases h : most < (u.length : Int)
  · rw [if_pos (by simp; omega), if_pos h]
  · rw [if_neg (by simp; omega), if_neg h]
    simp

theorem WrAt.own {w : World} {wb base : Nat} {s : List UInt8} {a : Option Addr} {c : Nat} (h : WrAt w wb base s a c) {g : Nat} (hg : (Value.slice a s.length c).ownBlock = some g) : base ≤ g ∧ g < w.heap.size := by
  obtain ⟨_, ⟨e, _⟩ | ⟨g', cap, cur, e, r1, r2, _⟩⟩ := h.row
  · rw [e] at hg; cases hg
  · rw [e] at hg
    cases hg
    exact ⟨r1, (Array.getElem?_eq_some_iff.1 r2).1⟩
theorem WrAt.alloc {w : World} {wb base : Nat} {s : List UInt8} {a : Option Addr} {c : Nat} (h : WrAt w wb base s a c) (o : Obj) : WrAt (w.alloc o) wb base s a c := {
  c0 := by rw [World.cell?_alloc_lt _ _ ⟨wb, 0, none⟩ h.lt]; exact h.c0
  f0 := ((Keeps.refl (fun _ => False) w).alloc o).frozen (p := ⟨wb, 0, none⟩) h.lt (fun e => e) |>.trans h.f0
  row := h.row.alloc _
  bs := by have := h.bs; simp; omega
  ne := h.ne }
theorem rtext_bad' {w : World} {rb : Nat} {s u r : List UInt8} {a : Option Addr} {c : Nat} {most : Int} (h : RdAt w rb s a c 0) (hs : s = encInt u.length ++ (u ++ r)) (hu : u.length ≤ 1000000) (hm : most < u.length) :
    Calls Tryz.prog 168 #[.pointer (some ⟨rb, 0, none⟩), .int .i64 most] w fun e w' => ∃ a' c', e = .returned (.string ⟨#[]⟩) ∧ RdAt w' rb [] a' c' 1 ∧ Keeps (fun i => i = rb) w w' := by
  have := rtext_any h most
  rw [hs, rdText_enc u r most hu, if_pos hm] at this
  exact this
theorem rtext_yes' {w : World} {rb : Nat} {s u r : List UInt8} {a : Option Addr} {c : Nat} {most : Int} (h : RdAt w rb s a c 0) (hs : s = encInt u.length ++ (u ++ r)) (hu : u.length ≤ 1000000) (hm : ¬ most < u.length) :
    Calls Tryz.prog 168 #[.pointer (some ⟨rb, 0, none⟩), .int .i64 most] w fun e w' => ∃ a' c', e = .returned (.string ⟨u.toArray⟩) ∧ RdAt w' rb r a' c' 0 ∧ Keeps (fun i => i = rb) w w' := by
  have := rtext_any h most
  rw [hs, rdText_enc u r most hu, if_neg hm] at this
  exact this
theorem rint_enc {w : World} {rb : Nat} {a : Option Addr} {c : Nat} {n : Int} (h : RdAt w rb (encInt n) a c 0) (h0 : -9223372036854775808 ≤ n) (h1 : n ≤ 9223372036854775807) :
    Calls Tryz.prog 57 #[.pointer (some ⟨rb, 0, none⟩)] w fun e w' => ∃ a' c', e = .returned (.int .i64 n) ∧ RdAt w' rb [] a' c' 0 ∧ Keeps (fun i => i = rb) w w' := by
  have := rint_any h
  rw [← List.append_nil (encInt n), rdInt_enc n [] h0 h1] at this
  exact this.mono (fun e w' ⟨a', c', x, y, z, _⟩ => ⟨a', c', x, y, z⟩)
theorem rend_at {w : World} {rb : Nat} {a : Option Addr} {c : Nat} {err : Int} (h : RdAt w rb [] a c err) : Calls Tryz.prog 169 #[.pointer (some ⟨rb, 0, none⟩)] w fun e w' => e = .returned (.int .i64 err) ∧ w' = w := by
  have := rend_any h
  rw [show rdEnd [] err = err from by unfold rdEnd; split <;> simp_all] at this
  exact this
end Go.Proofs.YteaacodloabdcaaGreatDoor
