import Derived.Test.YtmdjjnjhjojimaaDoorDevH
import Derived.Test.YtmdjjnjhjojimaaDoorBegA
namespace Go.Proofs.YtmdjjnjhjojimaaDoor
open Go.RowKit Go.Maps

/-- The first j of 64 bytes are b. -/
def fillA (b : UInt8) (j : Nat) : Array Value := (bytesV (List.replicate j b ++ List.replicate (64 - j) 0)).toArray
theorem fillA_size (b : UInt8) (j : Nat) (h : j ≤ 64) : (fillA b j).size = 64 := by simp [fillA, bytesV]; omega
theorem fillA_zero (b : UInt8) : fillA b 0 = zb := by simp [fillA, zb]
theorem fillA_set (b : UInt8) (j : Nat) (h : j < 64) : (fillA b j).setIfInBounds j (.int .u8 b.toNat) = fillA b (j + 1) := by
  unfold fillA
  rw [List.setIfInBounds_toArray]
  congr 1
  apply List.ext_getElem?
  intro k
  simp only [bytesV, List.map_append, List.map_replicate, List.getElem?_set, List.getElem?_append, List.getElem?_replicate, List.length_append, List.length_replicate]
  by_cases h1 : j = k
  · subst h1
    rw [if_pos rfl, if_pos (by omega), if_pos (by omega), if_pos (by omega)]; rfl
  · rw [if_neg h1]
    by_cases h2 : k < j
    · rw [if_pos h2, if_pos h2, if_pos (by omega), if_pos (by omega)]
    · rw [if_neg h2, if_neg (show ¬ k < j + 1 by omega)]
      by_cases h3 : k < 64
      · rw [if_pos (by omega), if_pos (by omega)]
      · rw [if_neg (by omega), if_neg (by omega)]
theorem fillA_full (b : UInt8) : fillA b 64 = (bytesV (List.replicate 64 b)).toArray := by simp [fillA]

set_option maxRecDepth 100000 in
set_option maxHeartbeats 1000000 in
theorem bytes_eq (b : UInt8) (w : World) :
    Calls Tryd.prog 12 #[.int .u8 b.toNat] w fun e w' => e = .returned (.slice (some ⟨w.heap.size, 0, none⟩) 64 64) ∧ w' = w.alloc (.cells (bytesV (List.replicate 64 b)).toArray 5) := by
  have hmk := mk33
  have hzs := zb_size
  go_enter Tryd.func12, Tryd.ntmps12
  go_wp2
  clear hmk hzs
  go_loopw [8] (fun k wr => ∃ kn : Nat, kn ≤ 64 ∧ k = .int .i64 kn ∧ wr = w.alloc (.cells (fillA b kn) 5)) (fun k _ => 64 - (RowKit.intOf k).toNat)
  case atStart => exact ⟨0, by omega, rfl, by rw [fillA_zero]⟩
  case round =>
    obtain ⟨kn, hkn, rfl, rfl⟩ := hrel
    by_cases hlt : kn < 64
    · have hsz := fillA_size b kn hkn
      go_wp2
      go_roundw
      case rel => exact ⟨kn + 1, by omega, by go_num, by rw [← fillA_set b kn hlt]⟩
      case measure => simp [RowKit.intOf]; omega
    · have : kn = 64 := by omega
      subst this
      go_wp2
      go_ret
      exact ⟨rfl, by rw [fillA_full]⟩

/-- Bytes, the world left open. -/
theorem bytes_at (b : UInt8) (w : World) :
    Calls Tryd.prog 12 #[.int .u8 b.toNat] w fun e w' => ∃ g, e = .returned (.slice (some ⟨g, 0, none⟩) 64 64) ∧ w.heap.size ≤ g ∧ g < w'.heap.size ∧ w'.rangeAt g 0 (bytesV (List.replicate 64 b)) ∧ w'.there g 0 64 ∧ Below w.heap.size w w' := by
  refine (bytes_eq b w).mono ?_
  rintro e w' ⟨rfl, rfl⟩
  refine ⟨_, rfl, Nat.le_refl _, by simp, ?_, ?_, (Below.refl _ w).alloc (Nat.le_refl _) _⟩
  · intro j v hv
    rw [cell_of_row _ _ (0 + j) _ 5 (0, 0) (heap_alloc_last w _)]
    simpa using hv
  · intro j hj
    refine ⟨?_, by simp⟩
    rw [cell_of_row _ _ (0 + j) _ 5 (0, 0) (heap_alloc_last w _)]
    simp [bytesV]; omega

/-- Write, whether the sector is loose or not. -/
theorem write_ok {w : World} {db nb mb n cap : Nat} {B : List UInt8} {k : Nat} {D : DataW Unit} {left : Int} (h : DevAt w db nb mb n cap B k D left false) (i : Nat) (hi : i < n) (s : List UInt8) (hs : s.length = 64)
    (sb so sc : Nat) (hsrc : w.rangeAt sb so (bytesV s)) (hsm : sb ≠ mb) (hkm : k < maxLen) :
    Calls Tryd.prog 11 #[.pointer (some ⟨db, 0, none⟩), .int .i64 i, .slice (some ⟨sb, so, none⟩) 64 sc] w fun e w' => ∃ k' D', e = .returned (.int .i64 0) ∧ k' ≤ k + 1 ∧
      DevAt w' db nb mb n cap (put B i s) k' D' (burnL left) (burnD left false) ∧ Keeps (fun j => j = db ∨ j = nb ∨ j = mb) w w' := by
  cases hh : Maps.has D (.int .i64 i)
  · exact (write_new h i hi s hs sb so sc hsrc hsm hkm hh).mono (fun e w' ⟨h1, h2, h3⟩ => ⟨_, _, h1, Nat.le_refl _, h2, h3⟩)
  · exact (write_loose h i hi s hs sb so sc hsrc hh).mono (fun e w' ⟨h1, h2, h3⟩ => ⟨_, _, h1, Nat.le_succ _, h2, h3⟩)
theorem errOf_any (b : Bool) (w : World) : Calls Tryd.prog 23 #[.bool b] w fun e w' => e = .returned (.int .i64 (if b then 9 else 2)) ∧ w' = w := by
  cases b
  all_goals
    go_enter Tryd.func23, Tryd.ntmps23
    go_wp2
    go_ret
    exact ⟨rfl, rfl⟩
theorem rem_any (x m : Int) (hm : 0 < m) : -m < x.tmod m ∧ x.tmod m < m := by
  refine ⟨?_, Int.tmod_lt_of_pos x hm⟩
  rcases Int.le_total 0 x with h | h
  · have := Int.tmod_nonneg m h; omega
  · have h2 : 0 ≤ (-x).tmod m := Int.tmod_nonneg m (by omega)
    have h3 := Int.tmod_lt_of_pos (-x) hm
    rw [Int.neg_tmod] at h2 h3
    omega
end Go.Proofs.YtmdjjnjhjojimaaDoor
