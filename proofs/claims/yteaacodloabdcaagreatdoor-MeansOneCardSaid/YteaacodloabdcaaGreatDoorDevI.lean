import Derived.Test.YteaacodloabdcaaGreatDoorDevH
import Derived.Test.YteaacodloabdcaaGreatDoorBegA
namespace Go.Proofs.YteaacodloabdcaaGreatDoor
open Go.RowKit Go.Maps

/-- The first j of 64 bytes are b. -/
def fillA (b : UInt8) (j : Nat) : Array Value := (bytesV (List.replicate j b ++ List.replicate (64 - j) 0)).toArray
theorem fillA_size (b : UInt8) (j : Nat) (h : j ≤ 64) : (fillA b j).size = 64 := by simp [fillA, bytesV]; omega
theorem fillA_zero (b : UInt8) : fillA b 0 = zb := by simp [fillA, zb]
theorem fillA_set (b : UInt8) (j : Nat) (h : j < 64) : (fillA b j).setIfInBounds j (.int .u8 b.toNat) = fillA b (j + 1) := by
  unfold fillA
  rw [List.setIfInBounds_toArray]
  congr 1
  apply List.ext_getElem?
  intro k
  simp only [bytesV, List.map_append, List.map_replicate, List.getElem?_set, List.getElem?_append, List.getElem?_replicate, List.length_append, List.length_replicate]
  by_cases h1 : j = k
  · subst h1
    rw [if_pos rfl, if_pos (by omega), if_pos (by omega), if_pos (by omega)]; rfl
  · rw [if_neg h1]
    by_cases h2 : k < j
    · rw [if_pos h2, if_pos h2, if_pos (by omega), if_pos (by omega)]
    · rw [if_neg h2, if_neg (show ¬ k < j + 1 by omega)]
      by_cases h3 : k < 64
      · rw [if_pos (by omega), if_pos (by omega)]
      · rw [if_neg (by omega), if_neg (by omega)]
theorem fillA_full (b : UInt8) : fillA b 64 = (bytesV (List.replicate 64 b)).toArray := by simp [fillA]

/-- Write, whether the sector is loose or not. -/
theorem write_ok {w : World} {db nb mb n cap : Nat} {B : List UInt8} {k : Nat} {D : DataW Unit} {left : Int} (h : DevAt w db nb mb n cap B k D left false) (i : Nat) (hi : i < n) (s : List UInt8) (hs : s.length = 64)
    (sb so sc : Nat) (hsrc : w.rangeAt sb so (bytesV s)) (hsm : sb ≠ mb) (hkm : k < maxLen) :
    Calls Tryz.prog 154 #[.pointer (some ⟨db, 0, none⟩), .int .i64 i, .slice (some ⟨sb, so, none⟩) 64 sc] w fun e w' => ∃ k' D', e = .returned (.int .i64 0) ∧ k' ≤ k + 1 ∧
      DevAt w' db nb mb n cap (put B i s) k' D' (burnL left) (burnD left false) ∧ Keeps (fun j => j = db ∨ j = nb ∨ j = mb) w w' := by
  cases hh : Maps.has D (.int .i64 i)
  · exact (write_new h i hi s hs sb so sc hsrc hsm hkm hh).mono (fun e w' ⟨h1, h2, h3⟩ => ⟨_, _, h1, Nat.le_refl _, h2, h3⟩)
  · exact (write_loose h i hi s hs sb so sc hsrc hh).mono (fun e w' ⟨h1, h2, h3⟩ => ⟨_, _, h1, Nat.le_succ _, h2, h3⟩)
theorem rem_any (x m : Int) (hm : 0 < m) : -m < x.tmod m ∧ x.tmod m < m := by
  refine ⟨?_, Int.tmod_lt_of_pos x hm⟩
  rcases Int.le_total 0 x with h | h
  · have := Int.tmod_nonneg m h; omega
  · have h2 : 0 ≤ (-x).tmod m := Int.tmod_nonneg m (by omega)
    have h3 := Int.tmod_lt_of_pos (-x) hm
    rw [Int.neg_tmod] at h2 h3
    omega
end Go.Proofs.YteaacodloabdcaaGreatDoor
