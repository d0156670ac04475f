import Derived.Test.YtmdjjnjhjojimaaDoorIntsA
namespace Go.Proofs.YtmdjjnjhjojimaaDoor
open Go.RowKit Go.Maps

/-- What a reader of S, cut off at cut, has left behind p bytes: the rest, and no error; or nothing, and one. -/
def cutSt (S : List UInt8) (p cut : Nat) : List UInt8 × Int := if p ≤ cut then ((S.take cut).drop p, 0) else ([], 1)
def flat (A : List Int) (j : Nat) : List UInt8 := (A.take j).flatMap encInt
theorem flat_succ (A : List Int) (j : Nat) (hj : j < A.length) : flat A (j + 1) = flat A j ++ encInt (A.getD j 0) := by
  unfold flat
  rw [List.take_succ_eq_append_getElem hj, List.flatMap_append]
  simp [List.getD, List.getElem?_eq_getElem hj]
theorem flat_split (A : List Int) (j : Nat) (hj : j < A.length) : A.flatMap encInt = flat A j ++ (encInt (A.getD j 0) ++ (A.drop (j + 1)).flatMap encInt) := by
  unfold flat
  conv => lhs; rw [← List.take_append_drop j A, List.flatMap_append]
  rw [List.drop_eq_getElem_cons hj, List.flatMap_cons]
  simp [List.getD, List.getElem?_eq_getElem hj]
theorem cutS_part (n : Int) (k : Nat) (h : k < (encInt n).length) (hw : wid n ≤ 8) : cutS ((encInt n).take k) = none := by
  rw [encInt_length] at h
  cases k with
  | zero => rfl
  | succ k =>
    show cutS (UInt8.ofNat (wid n) :: (encTo n (wid n)).take k) = none
    have hb : (UInt8.ofNat (wid n)).toNat = wid n := by rw [UInt8.toNat_ofNat']; omega
    unfold cutS
    simp only [hb]
    rw [if_pos]
    rw [List.length_take, encTo_length]
    omega
theorem cut_step (A : List Int) (S : List UInt8) (j cut : Nat) (hj : j < A.length) (hA : AllFit A) (hS : S = A.flatMap encInt) :
    rdInt (cutSt S (flat A j).length cut).1 (cutSt S (flat A j).length cut).2 = if (flat A (j + 1)).length ≤ cut then (A.getD j 0, (cutSt S (flat A (j + 1)).length cut).1, 0) else (0, [], 1) := by
  have hx : -9223372036854775808 ≤ A.getD j 0 ∧ A.getD j 0 ≤ 9223372036854775807 := by
    have := hA A[j] (List.getElem_mem hj)
    simpa [List.getD, List.getElem?_eq_getElem hj] using this
  have hs := flat_split A j hj
  have hl : (flat A (j + 1)).length = (flat A j).length + (encInt (A.getD j 0)).length := by rw [flat_succ A j hj, List.length_append]
  rw [← hS] at hs
  generalize A.getD j 0 = x at hx hs hl ⊢
  generalize (A.drop (j + 1)).flatMap encInt = F at hs
  generalize flat A (j + 1) = F2 at hl ⊢
  generalize flat A j = F1 at hs hl ⊢
  unfold cutSt
  by_cases h1 : F1.length ≤ cut
  · rw [if_pos h1]
    have e1 : (S.take cut).drop F1.length = (encInt x ++ F).take (cut - F1.length) := by
      rw [List.drop_take, hs, List.drop_left]
    simp only [e1]
    by_cases h2 : F2.length ≤ cut
    · rw [if_pos h2, if_pos h2]
      have e2 : (S.take cut).drop F2.length = F.take (cut - F2.length) := by
        rw [List.drop_take, hs, ← List.append_assoc, show F2.length = (F1 ++ encInt x).length by rw [List.length_append, hl], List.drop_left]
      simp only [e2]
      rw [List.take_append, List.take_of_length_le (by omega), rdInt_enc x _ hx.1 hx.2]
      rw [show cut - F1.length - (encInt x).length = cut - F2.length by omega]
    · rw [if_neg h2]
      rw [List.take_append_of_le_length (by omega)]
      unfold rdInt
      rw [if_pos rfl, cutS_part x _ (by omega) (wid_le8 x hx.1 hx.2)]
  · rw [if_neg h1, if_neg (by omega)]
    rfl
end Go.Proofs.YtmdjjnjhjojimaaDoor
