import Derived.Test.YteehcffmccgciaaGreatDoorPlA
namespace Go.Proofs.YteehcffmccgciaaGreatDoor
theorem count_reps (o : Int) (x : Option Int) (m : Nat) : (List.replicate m x).countP (isO o) = if isO o x then m else 0 := by rw [List.countP_replicate]
theorem ofL_append (A B : List (Option Int)) (o : Int) : ofL (A ++ B) o = ofL A o ++ idxs (isO o) A.length B := by
  unfold ofL
  rw [idxs_append, Nat.zero_add]
theorem isO_self (o : Int) : isO o (some o) = true := by simp [isO]
theorem isO_other {o p : Int} (h : p ≠ o) : isO o (some p) = false := by simp [isO, h]
theorem isO_none (o : Int) : isO o none = false := by simp [isO]
theorem least_one (a : Nat) (ha : a ≤ 100) : (sizeL (List.replicate 100 none) 1 a).1 = List.replicate a (some 1) ++ List.replicate (100 - a) none := by
  have h0 : ofL (List.replicate 100 none) 1 = [] := List.eq_nil_of_length_eq_zero (by rw [ofL_length, count_reps, isO_none]; rfl)
  rw [sizeL_give, h0, frees_reps, if_neg (by omega), if_neg (by simp; omega), if_neg (by simp)]
  show takeL 1 _ _ = _
  rw [takeL_reps]
  congr 2 <;> simp <;> omega
theorem least_two (a b : Nat) (hab : a + b ≤ 100) : (sizeL (List.replicate a (some 1) ++ List.replicate (100 - a) none) 2 b).1 = List.replicate a (some 1) ++ (List.replicate b (some 2) ++ List.replicate (100 - a - b) none) := by
  have h0 : ofL (List.replicate a (some 1) ++ List.replicate (100 - a) none) 2 = [] := List.eq_nil_of_length_eq_zero (by
    rw [ofL_length, List.countP_append, count_reps, count_reps, isO_none, isO_other (by decide)]; rfl)
  rw [sizeL_give, h0, frees_append, frees_reps, frees_some, if_neg (by omega), if_neg (by simp; omega), if_neg (by simp)]
  show takeL 2 _ _ = _
  rw [takeL_append, takeL_some, frees_some, takeL_reps]
  congr 2
  congr 2 <;> simp <;> omega
theorem least_three (a b h : Nat) (hh : h ≤ a) (hab : a + b ≤ 100) : (sizeL (List.replicate a (some 1) ++ (List.replicate b (some 2) ++ List.replicate (100 - a - b) none)) 1 h).1 = List.replicate h (some 1) ++ (List.replicate (a - h) none ++ (List.replicate b (some 2) ++ List.replicate (100 - a - b) none)) := by
  have h0 : (ofL (List.replicate a (some 1) ++ (List.replicate b (some 2) ++ List.replicate (100 - a - b) none)) 1).length = a := by
    rw [ofL_length, List.countP_append, List.countP_append, count_reps, count_reps, count_reps, isO_none, isO_self, isO_other (by decide)]; rfl
  rw [sizeL_give, h0, if_neg (by omega), if_neg (by omega)]
  by_cases hl : h < a
  · rw [if_pos (by omega)]
    show giveL 1 _ _ = _
    rw [giveL_append, giveL_reps, giveL_none 1 _ (List.replicate b (some 2) ++ _) (by rw [List.countP_append, count_reps, count_reps, isO_none, isO_other (by decide)]; rfl), List.append_assoc]
    congr 2
    simp; omega
  · have : h = a := by omega
    subst this
    rw [if_neg (by omega)]
    show takeL 1 _ _ = _
    rw [show ((h : Int)).toNat - h = 0 by omega, takeL_zero, Nat.sub_self]
    rfl
theorem least_four (a b c h : Nat) (hh : h ≤ a) (hab : a + b + c ≤ 100) : (sizeL (List.replicate h (some 1) ++ (List.replicate (a - h) none ++ (List.replicate b (some 2) ++ List.replicate (100 - a - b) none))) 3 c).1 =
    List.replicate h (some 1) ++ ((List.replicate (min c (a - h)) (some 3) ++ List.replicate (a - h - c) none) ++ (List.replicate b (some 2) ++ (List.replicate (c - (a - h)) (some 3) ++ List.replicate (100 - a - b - (c - (a - h))) none))) := by
  have h0 : ofL (List.replicate h (some 1) ++ (List.replicate (a - h) none ++ (List.replicate b (some 2) ++ List.replicate (100 - a - b) none))) 3 = [] := List.eq_nil_of_length_eq_zero (by
    rw [ofL_length, List.countP_append, List.countP_append, List.countP_append, count_reps, count_reps, count_reps, count_reps, isO_none, isO_other (by decide), isO_other (by decide)]; rfl)
  rw [sizeL_give, h0, frees_append, frees_append, frees_append, frees_reps, frees_reps, frees_some, frees_some, if_neg (by omega), if_neg (by simp; omega), if_neg (by simp)]
  show takeL 3 _ _ = _
  rw [takeL_append, takeL_append, takeL_append, takeL_some, takeL_some, frees_some, frees_reps, frees_some, takeL_reps, takeL_reps]
  have e1 : ((c : Int)).toNat - ([] : List Nat).length - 0 = c := by simp
  rw [e1]
  congr 5
  omega
theorem least_of3 (a b c h : Nat) (hh : h ≤ a) : ofL (List.replicate h (some 1) ++ ((List.replicate (min c (a - h)) (some 3) ++ List.replicate (a - h - c) none) ++ (List.replicate b (some 2) ++ (List.replicate (c - (a - h)) (some 3) ++ List.replicate (100 - a - b - (c - (a - h))) none)))) 3 =
    List.range' h (min c (a - h)) ++ List.range' (a + b) (c - (a - h)) := by
  unfold ofL
  simp only [idxs_append, idxs_reps, isO_self, isO_none, isO_other (show (1 : Int) ≠ 3 by decide), isO_other (show (2 : Int) ≠ 3 by decide), List.length_replicate, List.length_append, if_true, Bool.false_eq_true, if_false, List.nil_append, List.append_nil, Nat.zero_add]
  by_cases hc : c ≤ a - h
  · rw [show c - (a - h) = 0 by omega]; simp
  · rw [show h + (min c (a - h) + (a - h - c)) + b = a + b by omega]
theorem least_len1 (a b c h : Nat) : (ofL (List.replicate h (some 1) ++ ((List.replicate (min c (a - h)) (some 3) ++ List.replicate (a - h - c) none) ++ (List.replicate b (some 2) ++ (List.replicate (c - (a - h)) (some 3) ++ List.replicate (100 - a - b - (c - (a - h))) none)))) 1).length = h := by
  rw [ofL_length]
  simp only [List.countP_append, count_reps, isO_self, isO_none, isO_other (show (3 : Int) ≠ 1 by decide), isO_other (show (2 : Int) ≠ 1 by decide), if_true, Bool.false_eq_true, if_false]
  omega
theorem least_len2 (a b c h : Nat) : (ofL (List.replicate h (some 1) ++ ((List.replicate (min c (a - h)) (some 3) ++ List.replicate (a - h - c) none) ++ (List.replicate b (some 2) ++ (List.replicate (c - (a - h)) (some 3) ++ List.replicate (100 - a - b - (c - (a - h))) none)))) 2).length = b := by
  rw [ofL_length]
  simp only [List.countP_append, count_reps, isO_self, isO_none, isO_other (show (3 : Int) ≠ 2 by decide), isO_other (show (1 : Int) ≠ 2 by decide), if_true, Bool.false_eq_true, if_false]
  omega
/-- What is told of the third one's blocks. -/
theorem least_at (a b c h i : Nat) (hi : i < c) : (List.range' h (min c (a - h)) ++ List.range' (a + b) (c - (a - h))).getD i 0 = if i < a - h then h + i else a + b + (i - (a - h)) := by
  rw [List.getD_eq_getElem?_getD]
  by_cases hlt : i < a - h
  · rw [if_pos hlt, List.getElem?_append_left (by simp; omega), List.getElem?_range' (by omega)]; simp
  · rw [if_neg hlt, List.getElem?_append_right (by simp; omega), List.length_range', List.getElem?_range' (by omega)]
    simp; omega
end Go.Proofs.YteehcffmccgciaaGreatDoor
