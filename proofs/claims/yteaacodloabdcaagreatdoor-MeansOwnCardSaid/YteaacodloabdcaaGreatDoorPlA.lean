import Derived.Test.YteaacodloabdcaaGreatDoorBinA
import Derived.Deep.MidRow
import Derived.Laws.AppendOwn
import Derived.BigQuiet
namespace Go.Proofs.YteaacodloabdcaaGreatDoor
/-- The places, from n on, at which P holds. -/
def idxs {α : Type} (P : α → Bool) : Nat → List α → List Nat
  | _, [] => []
  | n, x :: r => if P x then n :: idxs P (n + 1) r else idxs P (n + 1) r
theorem idxs_append {α : Type} (P : α → Bool) (A B : List α) (n : Nat) : idxs P n (A ++ B) = idxs P n A ++ idxs P (n + A.length) B := by
  induction A generalizing n with
  | nil => simp [idxs]
  | cons x r ih =>
    simp only [List.cons_append, idxs, ih, List.length_cons]
    have : n + 1 + r.length = n + (r.length + 1) := by omega
    rw [this]
    split <;> simp
theorem idxs_snoc {α : Type} (P : α → Bool) (A : List α) (x : α) (n : Nat) : idxs P n (A ++ [x]) = idxs P n A ++ (if P x then [n + A.length] else []) := by
  rw [idxs_append]
  simp only [idxs]
theorem idxs_ge {α : Type} (P : α → Bool) (A : List α) (n i : Nat) (h : i ∈ idxs P n A) : n ≤ i ∧ i < n + A.length := by
  induction A generalizing n with
  | nil => simp [idxs] at h
  | cons x r ih =>
    simp only [idxs] at h
    simp only [List.length_cons]
    split at h
    · rcases List.mem_cons.1 h with rfl | h
      · omega
      · have := ih (n + 1) h; omega
    · have := ih (n + 1) h; omega
theorem idxs_length_le {α : Type} (P : α → Bool) (A : List α) (n : Nat) : (idxs P n A).length ≤ A.length := by
  induction A generalizing n with
  | nil => simp [idxs]
  | cons x r ih =>
    simp only [idxs, List.length_cons]
    have := ih (n + 1)
    split
    · simp only [List.length_cons]; omega
    · omega
theorem idxs_length {α : Type} (P : α → Bool) (A : List α) (n : Nat) : (idxs P n A).length = A.countP P := by
  induction A generalizing n with
  | nil => simp [idxs]
  | cons x r ih =>
    simp only [idxs, List.countP_cons]
    split
    · rw [List.length_cons, ih]
    · rw [ih]; rfl
theorem idxs_mem {α : Type} (P : α → Bool) (A : List α) (n i : Nat) : i ∈ idxs P n A ↔ n ≤ i ∧ ∃ x, A[i - n]? = some x ∧ P x = true := by
  induction A generalizing n with
  | nil => simp [idxs]
  | cons x r ih =>
    have step : i ∈ idxs P (n + 1) r ↔ n < i ∧ ∃ y, (x :: r)[i - n]? = some y ∧ P y = true := by
      rw [ih (n + 1)]
      constructor
      · rintro ⟨h1, y, h2, h3⟩
        refine ⟨by omega, y, ?_, h3⟩
        rw [show i - n = (i - (n + 1)) + 1 by omega, List.getElem?_cons_succ]
        exact h2
      · rintro ⟨h1, y, h2, h3⟩
        refine ⟨by omega, y, ?_, h3⟩
        rw [show i - n = (i - (n + 1)) + 1 by omega, List.getElem?_cons_succ] at h2
        exact h2
    simp only [idxs]
    split
    · rename_i hx
      rw [List.mem_cons, step]
      constructor
      · rintro (rfl | ⟨h1, h2⟩)
        · exact ⟨Nat.le_refl _, x, by simp, hx⟩
        · exact ⟨by omega, h2⟩
      · rintro ⟨h1, y, h2, h3⟩
        rcases Nat.lt_or_ge n i with h | h
        · exact Or.inr ⟨h, y, h2, h3⟩
        · exact Or.inl (by omega)
    · rename_i hx
      rw [step]
      constructor
      · rintro ⟨h1, h2⟩; exact ⟨by omega, h2⟩
      · rintro ⟨h1, y, h2, h3⟩
        refine ⟨?_, y, h2, h3⟩
        rcases Nat.lt_or_ge n i with h | h
        · exact h
        · have : i - n = 0 := by omega
          rw [this] at h2
          simp at h2
          subst h2
          exact absurd h3 hx
theorem idxs_sorted {α : Type} (P : α → Bool) (A : List α) (n : Nat) : (idxs P n A).Pairwise (· < ·) := by
  induction A generalizing n with
  | nil => simp [idxs]
  | cons x r ih =>
    simp only [idxs]
    split
    · exact List.pairwise_cons.2 ⟨fun i hi => by have := idxs_ge P r (n + 1) i hi; omega, ih _⟩
    · exact ih _
theorem idxs_succ {α : Type} (P : α → Bool) (A : List α) (n : Nat) : idxs P (n + 1) A = (idxs P n A).map (· + 1) := by
  induction A generalizing n with
  | nil => rfl
  | cons x r ih =>
    simp only [idxs, ih (n + 1)]
    split <;> simp
theorem idxs_map {α β : Type} (P : β → Bool) (Q : α → Bool) (f : α → β) (A : List α) (n : Nat) (h : ∀ x ∈ A, P (f x) = Q x) : idxs P n (A.map f) = idxs Q n A := by
  induction A generalizing n with
  | nil => rfl
  | cons x r ih =>
    simp only [List.map_cons, idxs, h x (List.mem_cons_self ..), ih (n + 1) (fun y hy => h y (List.mem_cons_of_mem _ hy))]
/-- These places, set to x. -/
def sets {α : Type} (x : α) (is : List Nat) (L : List α) : List α := is.foldl (fun L i => L.set i x) L
theorem sets_length {α : Type} (x : α) (is : List Nat) (L : List α) : (sets x is L).length = L.length := by
  unfold sets
  induction is generalizing L with
  | nil => rfl
  | cons i r ih => rw [List.foldl_cons, ih, List.length_set]
theorem sets_snoc {α : Type} (x : α) (is : List Nat) (i : Nat) (L : List α) : sets x (is ++ [i]) L = (sets x is L).set i x := by
  unfold sets
  rw [List.foldl_append]; rfl
theorem sets_succ {α : Type} (x y : α) (is : List Nat) (L : List α) : sets x (is.map (· + 1)) (y :: L) = y :: sets x is L := by
  unfold sets
  induction is generalizing L with
  | nil => rfl
  | cons i r ih => simp only [List.map_cons, List.foldl_cons, List.set_cons_succ, ih]
theorem sets_map {α β : Type} (f : α → β) (x : α) (is : List Nat) (L : List α) : sets (f x) is (L.map f) = (sets x is L).map f := by
  unfold sets
  induction is generalizing L with
  | nil => rfl
  | cons i r ih => simp only [List.foldl_cons, ← List.map_set, ih]
theorem sets_get {α : Type} (x : α) (is : List Nat) (L : List α) (j : Nat) : (sets x is L)[j]? = if j ∈ is ∧ j < L.length then some x else L[j]? := by
  induction is generalizing L with
  | nil => simp [sets]
  | cons i r ih =>
    have : sets x (i :: r) L = sets x r (L.set i x) := rfl
    rw [this, ih, List.length_set]
    by_cases hj : j < L.length
    · by_cases hr : j ∈ r
      · simp [hr, hj]
      · by_cases hi : j = i
        · subst hi; simp [hr, hj]
        · simp [hr, hi, Ne.symm hi]
    · simp [hj]
theorem sets_eq {α : Type} (x : α) (is : List Nat) (L M : List α) (hl : M.length = L.length) (h : ∀ j, j < L.length → M[j]? = if j ∈ is then some x else L[j]?) : M = sets x is L := by
  apply List.ext_getElem?
  intro j
  rw [sets_get]
  by_cases hj : j < L.length
  · rw [h j hj]; simp [hj]
  · rw [List.getElem?_eq_none (by omega), if_neg (by simp [hj]), List.getElem?_eq_none (by omega)]
/-- The first n free ones are o's. -/
def takeL (o : Int) : Nat → List (Option Int) → List (Option Int)
  | _, [] => []
  | 0, L => L
  | n + 1, none :: r => some o :: takeL o n r
  | n + 1, some x :: r => some x :: takeL o (n + 1) r
def frees (L : List (Option Int)) : Nat := L.countP (·.isNone)
theorem takeL_zero (o : Int) (L : List (Option Int)) : takeL o 0 L = L := by
  cases L <;> rfl
theorem takeL_length (o : Int) (n : Nat) (L : List (Option Int)) : (takeL o n L).length = L.length := by
  induction L generalizing n with
  | nil => cases n <;> rfl
  | cons x r ih =>
    cases n with
    | zero => rfl
    | succ n => cases x with
      | none => simp only [takeL, List.length_cons, ih]
      | some x => simp only [takeL, List.length_cons, ih]
theorem takeL_append (o : Int) (n : Nat) (A B : List (Option Int)) : takeL o n (A ++ B) = takeL o n A ++ takeL o (n - frees A) B := by
  induction A generalizing n with
  | nil => cases n <;> simp [takeL, frees, takeL_zero]
  | cons x r ih =>
    cases n with
    | zero => simp [takeL_zero]
    | succ n => cases x with
      | none =>
        have : n + 1 - frees (none :: r) = n - frees r := by simp [frees]
        rw [this]
        simp only [List.cons_append, takeL, ih]
      | some x =>
        have : n + 1 - frees (some x :: r) = n + 1 - frees r := by simp [frees]
        rw [this]
        simp only [List.cons_append, takeL, ih]
theorem takeL_sets (o : Int) (n : Nat) (L : List (Option Int)) : takeL o n L = sets (some o) ((idxs (·.isNone) 0 L).take n) L := by
  induction L generalizing n with
  | nil => cases n <;> simp [takeL, idxs, sets]
  | cons x r ih =>
    cases n with
    | zero => simp [takeL_zero, sets]
    | succ n => cases x with
      | none =>
        simp only [takeL, idxs, Option.isNone_none, if_true, idxs_succ, List.take_succ_cons]
        rw [← List.map_take]
        have : sets (some o) (0 :: ((idxs (·.isNone) 0 r).take n).map (· + 1)) (none :: r) = sets (some o) (((idxs (·.isNone) 0 r).take n).map (· + 1)) (some o :: r) := rfl
        rw [this, sets_succ, ih]
      | some x =>
        simp only [takeL, idxs, Option.isNone_some, Bool.false_eq_true, if_false, idxs_succ]
        rw [← List.map_take, sets_succ, ih]
def isO (o : Int) (x : Option Int) : Bool := x == some o
/-- An owner's blocks. -/
def ofL (L : List (Option Int)) (o : Int) : List Nat := idxs (isO o) 0 L
/-- What Size leaves: the blocks and the error's number. -/
def sizeL (L : List (Option Int)) (o k : Int) : List (Option Int) × Int :=
  if k < 0 then (L, 2)
  else if (ofL L o).length + frees L < k.toNat then (L, 6)
  else if k.toNat < (ofL L o).length then (sets none ((ofL L o).drop k.toNat) L, 0)
  else (takeL o (k.toNat - (ofL L o).length) L, 0)
theorem sizeL_length (L : List (Option Int)) (o k : Int) : (sizeL L o k).1.length = L.length := by
  unfold sizeL
  split
  · rfl
  · split
    · rfl
    · split
      · exact sets_length _ _ _
      · exact takeL_length _ _ _

/-- All but the first k of o's are free. -/
def giveL (o : Int) : Nat → List (Option Int) → List (Option Int)
  | _, [] => []
  | 0, x :: r => (if isO o x then none else x) :: giveL o 0 r
  | k + 1, x :: r => x :: giveL o (if isO o x then k else k + 1) r
theorem giveL_sets (o : Int) (k : Nat) (L : List (Option Int)) : giveL o k L = sets none ((ofL L o).drop k) L := by
  unfold ofL
  induction L generalizing k with
  | nil => cases k <;> rfl
  | cons x r ih =>
    cases k with
    | zero =>
      simp only [giveL, idxs, List.drop_zero, idxs_succ]
      have ih0 := ih 0
      rw [List.drop_zero] at ih0
      split
      · have : sets none (0 :: (idxs (isO o) 0 r).map (· + 1)) (x :: r) = sets none ((idxs (isO o) 0 r).map (· + 1)) (none :: r) := rfl
        rw [this, sets_succ, ih0]
      · rw [sets_succ, ih0]
    | succ k =>
      simp only [giveL, idxs, idxs_succ]
      split
      · rw [List.drop_succ_cons, ← List.map_drop, sets_succ, ih]
      · rw [← List.map_drop, sets_succ, ih]
theorem giveL_length (o : Int) (k : Nat) (L : List (Option Int)) : (giveL o k L).length = L.length := by rw [giveL_sets, sets_length]
theorem ofL_length (L : List (Option Int)) (o : Int) : (ofL L o).length = L.countP (isO o) := idxs_length _ _ _
theorem takeL_frees (o : Int) (n : Nat) (L : List (Option Int)) : frees (takeL o n L) = frees L - n := by
  unfold frees
  induction L generalizing n with
  | nil => cases n <;> simp [takeL]
  | cons x r ih =>
    cases n with
    | zero => simp [takeL_zero]
    | succ n => cases x with
      | none => simp [takeL, ih]
      | some x => simp [takeL, ih]
theorem takeL_count (o p : Int) (n : Nat) (L : List (Option Int)) : (takeL o n L).countP (isO p) = L.countP (isO p) + (if p = o then min n (frees L) else 0) := by
  unfold frees
  induction L generalizing n with
  | nil => cases n <;> simp [takeL]
  | cons x r ih =>
    cases n with
    | zero => simp [takeL_zero]
    | succ n => cases x with
      | none =>
        have e : (some o == some p) = decide (p = o) := by
          by_cases h : p = o
          · subst h; simp
          · simp [h, Ne.symm h]
        simp only [takeL, List.countP_cons, ih, isO, e, Option.isNone_none, if_true]
        by_cases h : p = o
        · simp [h]; omega
        · simp [h]
      | some x =>
        simp only [takeL, List.countP_cons, ih, Option.isNone_some, Bool.false_eq_true, if_false, Nat.add_zero]
        omega
theorem giveL_frees (o : Int) (k : Nat) (L : List (Option Int)) : frees (giveL o k L) = frees L + (L.countP (isO o) - k) := by
  unfold frees
  induction L generalizing k with
  | nil => cases k <;> simp [giveL]
  | cons x r ih =>
    cases k with
    | zero =>
      simp only [giveL, List.countP_cons, ih]
      cases x with
      | none => simp [isO]; omega
      | some y =>
        by_cases h : (some y == some o) = true
        · simp [isO, h]; omega
        · simp [isO, h]
    | succ k =>
      simp only [giveL, List.countP_cons, ih]
      cases x with
      | none => simp [isO]; omega
      | some y =>
        by_cases h : (some y == some o) = true
        · simp [isO, h]
        · simp [isO, h]
theorem giveL_count (o p : Int) (k : Nat) (L : List (Option Int)) : (giveL o k L).countP (isO p) = if p = o then min k (L.countP (isO p)) else L.countP (isO p) := by
  induction L generalizing k with
  | nil => cases k <;> simp [giveL]
  | cons x r ih =>
    cases k with
    | zero =>
      simp only [giveL, List.countP_cons, ih]
      by_cases hp : p = o
      · subst hp
        by_cases h : isO p x = true
        · simp [isO]
        · simp [h]
      · by_cases h : isO o x = true
        · have hx : x = some o := by simpa [isO] using h
          subst hx
          simp [isO, hp, Ne.symm hp]
        · simp [h, hp]
    | succ k =>
      simp only [giveL, List.countP_cons, ih]
      by_cases hp : p = o
      · subst hp
        by_cases h : isO p x = true
        · simp [h]
        · simp [h]
      · simp [hp]
theorem sizeL_give (L : List (Option Int)) (o k : Int) : sizeL L o k =
    if k < 0 then (L, 2) else if (ofL L o).length + frees L < k.toNat then (L, 6)
    else if k.toNat < (ofL L o).length then (giveL o k.toNat L, 0) else (takeL o (k.toNat - (ofL L o).length) L, 0) := by
  unfold sizeL
  rw [giveL_sets]
theorem frees_le (L : List (Option Int)) : frees L ≤ L.length := List.countP_le_length
/-- Of a Size that is done. -/
theorem sizeL_ok {L : List (Option Int)} {o k : Int} (h0 : 0 ≤ k) (h1 : k.toNat ≤ (ofL L o).length + frees L) : (sizeL L o k).2 = 0 ∧ (ofL (sizeL L o k).1 o).length = k.toNat ∧ frees (sizeL L o k).1 = (ofL L o).length + frees L - k.toNat := by
  rw [sizeL_give, if_neg (by omega), if_neg (by omega)]
  split
  · rename_i h
    have e := ofL_length L o
    refine ⟨rfl, ?_, ?_⟩
    · show (ofL (giveL o k.toNat L) o).length = _
      rw [ofL_length, giveL_count, if_pos rfl]; omega
    · show frees (giveL o k.toNat L) = _
      rw [giveL_frees]; omega
  · rename_i h
    have e := ofL_length L o
    refine ⟨rfl, ?_, ?_⟩
    · show (ofL (takeL o _ L) o).length = _
      rw [ofL_length, takeL_count, if_pos rfl]; omega
    · show frees (takeL o _ L) = _
      rw [takeL_frees]; omega
theorem sizeL_many {L : List (Option Int)} {o k : Int} (h1 : ((ofL L o).length + frees L : Nat) < k) : sizeL L o k = (L, 6) := by
  unfold sizeL
  rw [if_neg (by omega), if_pos (by omega)]
theorem sizeL_below {L : List (Option Int)} {o k : Int} (h1 : k < 0) : sizeL L o k = (L, 2) := by
  unfold sizeL
  rw [if_pos h1]
/-- Whose they are, of a new one. -/
theorem sizeL_mem {L : List (Option Int)} {o k : Int} {x : Int} (h : some x ∈ (sizeL L o k).1) : x = o ∨ some x ∈ L := by
  unfold sizeL at h
  split at h
  · exact Or.inr h
  · split at h
    · exact Or.inr h
    · split at h
      · obtain ⟨i, hi⟩ := List.mem_iff_getElem?.1 h
        simp only [sets_get] at hi
        split at hi
        · simp at hi
        · exact Or.inr (List.mem_of_getElem? hi)
      · simp only [takeL_sets] at h
        obtain ⟨i, hi⟩ := List.mem_iff_getElem?.1 h
        rw [sets_get] at hi
        split at hi
        · simp at hi; exact Or.inl hi.symm
        · exact Or.inr (List.mem_of_getElem? hi)
theorem takeL_reps (o : Int) (n m : Nat) : takeL o n (List.replicate m none) = List.replicate (min n m) (some o) ++ List.replicate (m - n) none := by
  induction m generalizing n with
  | zero => cases n <;> simp [takeL]
  | succ m ih =>
    cases n with
    | zero => simp [takeL_zero]
    | succ n =>
      rw [List.replicate_succ]
      simp only [takeL, ih]
      have e1 : min (n + 1) (m + 1) = min n m + 1 := by omega
      have e2 : m + 1 - (n + 1) = m - n := by omega
      rw [e1, e2, List.replicate_succ]; rfl
theorem takeL_some (o p : Int) (n m : Nat) : takeL o n (List.replicate m (some p)) = List.replicate m (some p) := by
  induction m with
  | zero => cases n <;> rfl
  | succ m ih =>
    cases n with
    | zero => exact takeL_zero _ _
    | succ n => rw [List.replicate_succ]; simp only [takeL, ih]
theorem frees_reps (m : Nat) : frees (List.replicate m none) = m := by simp [frees, List.countP_replicate]
theorem frees_some (p : Int) (m : Nat) : frees (List.replicate m (some p)) = 0 := by simp [frees]
theorem frees_append (A B : List (Option Int)) : frees (A ++ B) = frees A + frees B := by simp [frees]
theorem giveL_append (o : Int) (k : Nat) (A B : List (Option Int)) : giveL o k (A ++ B) = giveL o k A ++ giveL o (k - A.countP (isO o)) B := by
  induction A generalizing k with
  | nil => cases k <;> simp [giveL]
  | cons x r ih =>
    cases k with
    | zero => simp only [List.cons_append, giveL, ih, Nat.zero_sub]
    | succ k =>
      simp only [List.cons_append, giveL, ih, List.countP_cons]
      by_cases h : isO o x = true
      · simp only [h, if_true]
        rw [show k + 1 - (r.countP (isO o) + 1) = k - r.countP (isO o) by omega]
      · simp only [h, if_false, Bool.false_eq_true, Nat.add_zero]
theorem giveL_none (o : Int) (k : Nat) (L : List (Option Int)) (h : L.countP (isO o) = 0) : giveL o k L = L := by
  rw [giveL_sets]
  have : ofL L o = [] := List.eq_nil_of_length_eq_zero (by rw [ofL_length]; exact h)
  rw [this, List.drop_nil]; rfl
theorem giveL_reps (o : Int) (k m : Nat) : giveL o k (List.replicate m (some o)) = List.replicate (min k m) (some o) ++ List.replicate (m - k) none := by
  induction m generalizing k with
  | zero => cases k <;> simp [giveL]
  | succ m ih =>
    cases k with
    | zero =>
      rw [List.replicate_succ]
      simp only [giveL, ih, isO, beq_self_eq_true, if_true, Nat.zero_min, List.replicate_zero, List.nil_append, Nat.sub_zero]
      rw [List.replicate_succ]
    | succ k =>
      rw [List.replicate_succ]
      simp only [giveL, ih, isO, beq_self_eq_true, if_true]
      rw [show min (k + 1) (m + 1) = min k m + 1 by omega, show m + 1 - (k + 1) = m - k by omega, List.replicate_succ]; rfl
theorem idxs_reps {α : Type} (P : α → Bool) (x : α) (n m : Nat) : idxs P n (List.replicate m x) = if P x then List.range' n m else [] := by
  induction m generalizing n with
  | zero => simp [idxs]
  | succ m ih =>
    rw [List.replicate_succ]
    simp only [idxs, ih]
    split
    · rw [List.range'_succ]
    · rfl
end Go.Proofs.YteaacodloabdcaaGreatDoor

namespace Go.Proofs.YteaacodloabdcaaGreatDoor
open Go.RowKit Go.Maps

/-- A block of the pool as cells. -/
def blkC (x : Option Int) : List Value := [.bool x.isSome, .int .i64 (x.getD 0)]
def blksV (L : List (Option Int)) : List Value := L.flatMap blkC
theorem blksV_length (L : List (Option Int)) : (blksV L).length = L.length * 2 := by
  induction L with
  | nil => rfl
  | cons x r ih => simp only [blksV, List.flatMap_cons, List.length_append, List.length_cons] at *; simp only [blkC, List.length_cons, List.length_nil]; omega
theorem blksV_cons (x : Option Int) (L : List (Option Int)) : blksV (x :: L) = .bool x.isSome :: .int .i64 (x.getD 0) :: blksV L := rfl
theorem blksV_at (L : List (Option Int)) (j : Nat) (x : Option Int) (h : L[j]? = some x) : (blksV L)[2 * j]? = some (.bool x.isSome) ∧ (blksV L)[2 * j + 1]? = some (.int .i64 (x.getD 0)) := by
  induction L generalizing j with
  | nil => simp at h
  | cons y r ih =>
    cases j with
    | zero => simp at h; subst h; exact ⟨rfl, rfl⟩
    | succ j =>
      rw [blksV_cons]
      have := ih j (by simpa using h)
      rw [show 2 * (j + 1) = 2 * j + 1 + 1 by omega]
      simpa using this
/-- A pool in memory: its block pb, its blocks' row gb. -/
structure PoolAt (w : World) (pb gb n : Nat) (L : List (Option Int)) : Prop where
  c0 : w.cell? ⟨pb, 0, none⟩ = some (.slice (some ⟨gb, 0, none⟩) n n)
  row : w.rangeAt gb 0 (blksV L)
  thr : w.there gb 0 (n * 2)
  len : L.length = n
  ne : pb ≠ gb
  gl : gb < w.heap.size
  n1 : n ≤ 1000
theorem PoolAt.pl {w : World} {pb gb n : Nat} {L : List (Option Int)} (h : PoolAt w pb gb n L) : pb < w.heap.size := World.block_lt_of_cell? w _ h.c0
theorem PoolAt.keeps {S : Nat → Prop} {w w' : World} {pb gb n : Nat} {L : List (Option Int)} (h : PoolAt w pb gb n L) (hk : Keeps S w w') (s1 : ¬ S pb) (s2 : ¬ S gb) : PoolAt w' pb gb n L :=
  { h with
    c0 := (hk.cell (p := ⟨pb, 0, none⟩) h.pl s1).trans h.c0
    row := fun j v hv => (hk.cell (p := ⟨gb, 0 + j, none⟩) h.gl s2).trans (h.row j v hv)
    thr := fun j hj => ⟨by rw [hk.cell (p := ⟨gb, 0 + j, none⟩) h.gl s2]; exact (h.thr j hj).1, by rw [hk.frozen (p := ⟨gb, 0 + j, none⟩) h.gl s2]; exact (h.thr j hj).2⟩
    gl := Nat.lt_of_lt_of_le h.gl hk.size }
theorem PoolAt.below {w w' : World} {pb gb n : Nat} {L : List (Option Int)} (h : PoolAt w pb gb n L) (hb : Below w.heap.size w w') : PoolAt w' pb gb n L :=
  h.keeps (Keeps.of_below (S := fun _ => False) hb) (fun e => e) (fun e => e)
theorem PoolAt.cells {w : World} {pb gb n : Nat} {L : List (Option Int)} (h : PoolAt w pb gb n L) (j : Nat) (x : Option Int) (hx : L[j]? = some x) :
    w.cell? ⟨gb, j * 2, none⟩ = some (.bool x.isSome) ∧ w.cell? ⟨gb, j * 2 + 1, none⟩ = some (.int .i64 (x.getD 0)) := by
  obtain ⟨a, b⟩ := blksV_at L j x hx
  have h1 := h.row _ _ a
  have h2 := h.row _ _ b
  rw [Nat.zero_add] at h1 h2
  rw [Nat.mul_comm j 2]
  exact ⟨h1, h2⟩
theorem free_nil (w : World) : Calls Tryz.prog 23 #[.pointer none] w fun e w' => e = .returned (.int .i64 0) ∧ w' = w := by
  go_enter Tryz.func23, Tryz.ntmps23
  go_wp2
  go_ret
  exact ⟨rfl, rfl⟩
theorem sizeBlk : (Tryz.prog.info? 89).map (·.size) = some 2 := by kernel_rfl
set_option maxRecDepth 100000 in
set_option maxHeartbeats 1000000 in
theorem free_at {w : World} {pb gb n : Nat} {L : List (Option Int)} (h : PoolAt w pb gb n L) :
    Calls Tryz.prog 23 #[.pointer (some ⟨pb, 0, none⟩)] w fun e w' => e = .returned (.int .i64 (frees L)) ∧ Below w.heap.size w w' := by
  have H : Hid (PoolAt w pb gb n L) := h
  have c0 := h.c0
  have hn := h.n1
  clear h
  go_enter Tryz.func23, Tryz.ntmps23
  go_wp2_with fail
  go_loopw [3, 13] (fun s3 s13 wr => ∃ j : Nat, j ≤ n ∧ s13 = .int .i64 j ∧ s3 = .int .i64 (frees (L.take j)) ∧ Below w.heap.size w wr) (fun _ s13 _ => n - (RowKit.intOf s13).toNat)
  case atStart => exact ⟨0, Nat.zero_le _, rfl, rfl, Below.refl _ _⟩
  case round =>
    obtain ⟨j, hj, rfl, rfl, hb⟩ := hrel
    by_cases hlt : j < n
    · have hP := H.out.below hb
      have hjL : j < L.length := by have := hP.len; omega
      obtain ⟨f0, f1⟩ := hP.cells j L[j] (List.getElem?_eq_getElem hjL)
      have hfl : frees (L.take (j + 1)) = frees (L.take j) + (if L[j].isSome then 0 else 1) := by
        rw [List.take_succ_eq_append_getElem hjL, frees_append]
        congr 1
        cases L[j] <;> rfl
      have hfb : frees (L.take j) ≤ 1000 := by
        have := frees_le (L.take j)
        rw [List.length_take] at this; omega
      have HF : Hid (frees (L.take (j + 1)) = frees (L.take j) + (if L[j].isSome then 0 else 1)) := hfl
      clear hfl
      generalize L[j] = x at f0 f1 HF
      generalize frees (L.take j) = q at *
      cases x with
      | none =>
        go_wp2_with fail
        exact ⟨⟨j + 1, hlt, rfl, by rw [HF.out]; rfl, hb.alloc hb.size _⟩, by simp [RowKit.intOf]; omega⟩
      | some o =>
        go_wp2_with fail
        exact ⟨⟨j + 1, hlt, rfl, by rw [HF.out]; rfl, hb.alloc hb.size _⟩, by simp [RowKit.intOf]; omega⟩
    · obtain rfl : j = n := by omega
      have hl := H.out.len
      rw [← hl, List.take_length] at *
      go_wp2_with fail
      go_ret
      exact ⟨rfl, hb⟩
theorem ownsRow_stay {S : Nat → Prop} {w w' : World} {lo e z n : Nat} {v : Value} {V : List Value} (h : w.ownsRow lo e z v n V) (hk : Keeps S w w') (hs : ∀ i, lo ≤ i → ¬ S i) : w'.ownsRow lo e z v n V := by
  refine ⟨h.1, ?_⟩
  rcases h.2 with q | ⟨g, cap, cur, hv, hb, hg, rest⟩
  · exact .inl q
  · exact .inr ⟨g, cap, cur, hv, hb, (hk.block g (Array.getElem?_eq_some_iff.1 hg).1 (hs g hb)).trans hg, rest⟩
theorem ownsRow_low {w : World} {lo e z n : Nat} {v : Value} {V : List Value} (h : w.ownsRow lo e z v n V) (k : Nat) (hk : v.ownBlock = some k) : lo ≤ k := by
  rcases h.2 with ⟨rfl, _⟩ | ⟨g, cap, cur, rfl, hb, _⟩
  · cases hk
  · cases hk; exact hb
/-- A slice of numbers that a call has made. -/
def IntsR (w : World) (lo : Nat) (v : Value) (A : List Int) : Prop := w.ownsRow lo 3 1 v A.length (A.map (Value.int .i64))
theorem IntsR.nil (w : World) (lo : Nat) : IntsR w lo (.slice none 0 0) [] := World.ownsRow_nil _ _ _ _
theorem IntsR.keep {S : Nat → Prop} {w w' : World} {lo : Nat} {v : Value} {A : List Int} (h : IntsR w lo v A) (hk : Keeps S w w') (hs : ∀ i, lo ≤ i → ¬ S i) : IntsR w' lo v A := ownsRow_stay h hk hs
theorem IntsR.below {w w' : World} {lo : Nat} {v : Value} {A : List Int} (h : IntsR w lo v A) (hb : Below w.heap.size w w') : IntsR w' lo v A := h.keep (Keeps.of_below (S := fun _ => False) hb) (fun _ _ e => e)
theorem IntsR.shape {w : World} {lo : Nat} {v : Value} {A : List Int} (h : IntsR w lo v A) : ∃ p c, v = .slice p A.length c ∧ (p = none → A = []) := by
  rcases h.2 with ⟨rfl, h0⟩ | ⟨g, cap, cur, rfl, _⟩
  · rw [h0]; exact ⟨none, 0, rfl, fun _ => List.eq_nil_of_length_eq_zero h0⟩
  · exact ⟨_, _, rfl, fun e => by cases e⟩
theorem IntsR.at_ {w : World} {lo : Nat} {v : Value} {A : List Int} (h : IntsR w lo v A) (h0 : 0 < A.length) : ∃ g c, v = .slice (some ⟨g, 0, none⟩) A.length c ∧ A.length ≤ c ∧ lo ≤ g ∧ g < w.heap.size ∧ ∀ j, j < A.length → w.cell? ⟨g, j, none⟩ = some (.int .i64 (A.getD j 0)) := by
  rcases h.2 with ⟨_, h1⟩ | ⟨g, cap, cur, rfl, hg, hH, hc, _, _, htk⟩
  · omega
  · refine ⟨g, cap, rfl, hc, hg, (Array.getElem?_eq_some_iff.1 hH).1, fun j hj => ?_⟩
    rw [cell_of_row _ _ j _ 3 (0, 0) hH]
    have : (cur.toList.take (A.length * 1))[j]? = some (.int .i64 (A.getD j 0)) := by
      rw [htk, List.getElem?_map, List.getElem?_eq_getElem hj]; simp [List.getD, hj]
    rw [List.getElem?_take, if_pos (by omega)] at this
    simpa using this
theorem one_newW (w : World) (b : Nat) (v : Value) (t : TypeId) (hb : w.heap.size = b := by simp) : ∀ j u, [v][j]? = some u → (w.alloc (.cells #[v] t)).cell? (Addr.add ⟨b, 0, none⟩ j) = some u := by
  intro j u hu
  subst hb
  match j, hu with
  | 0, hu => rw [Addr.add_mid, cell_of_row _ _ (0 + 0) _ t (0, 0) (heap_alloc_last w _)]; simpa using hu
  | k + 1, hu => simp at hu
theorem infoInt : (Tryz.prog.info? 3).map (fun i => (i.zero, i.size, i.bytes)) = some (some (.int .i64 0), 1, 8) := by kernel_rfl
def natsI (A : List Nat) : List Int := A.map (fun i : Nat => (i : Int))
theorem natsI_length (A : List Nat) : (natsI A).length = A.length := by simp [natsI]
theorem natsI_getD (A : List Nat) (j : Nat) : (natsI A).getD j 0 = ((A.getD j 0 : Nat) : Int) := by
  simp only [natsI, List.getD, List.getElem?_map]
  cases A[j]? <;> rfl
theorem of_nil (o : Int) (w : World) : Calls Tryz.prog 22 #[.pointer none, .int .i64 o] w fun e w' => e = .returned (.slice none 0 0) ∧ w' = w := by
  go_enter Tryz.func22, Tryz.ntmps22
  go_wp2
  go_ret
  exact ⟨rfl, rfl⟩
/-- The state of Of. -/
def OfI (o : Int) (L : List (Option Int)) (j : Nat) (v : Value) (w wr : World) : Prop := IntsR wr w.heap.size v (natsI (ofL (L.take j) o)) ∧ Below w.heap.size w wr
theorem ofL_step (o : Int) (L : List (Option Int)) (j : Nat) (h : j < L.length) : ofL (L.take (j + 1)) o = ofL (L.take j) o ++ (if isO o L[j] then [j] else []) := by
  unfold ofL
  rw [List.take_succ_eq_append_getElem h, idxs_snoc, List.length_take, Nat.zero_add, Nat.min_eq_left (by omega)]
set_option maxRecDepth 100000 in
set_option maxHeartbeats 2000000 in
theorem of_at {w : World} {pb gb n : Nat} {L : List (Option Int)} (h : PoolAt w pb gb n L) (o : Int) :
    Calls Tryz.prog 22 #[.pointer (some ⟨pb, 0, none⟩), .int .i64 o] w fun e w' => ∃ v, e = .returned v ∧ IntsR w' w.heap.size v (natsI (ofL L o)) ∧ Below w.heap.size w w' := by
  have H : Hid (PoolAt w pb gb n L) := h
  have c0 := h.c0
  have hn := h.n1
  have HI0 : Hid (OfI o L 0 (.slice none 0 0) w w) := ⟨IntsR.nil w _, Below.refl _ _⟩
  obtain ⟨i0, hi, hz0, hz1, hz2⟩ := info_parts infoInt
  clear h
  go_enter Tryz.func22, Tryz.ntmps22
  go_wp2_with fail
  go_loopw [5, 15] (fun s5 s15 wr => ∃ j : Nat, j ≤ n ∧ s15 = .int .i64 j ∧ Hid (OfI o L j s5 w wr)) (fun _ s15 _ => n - (RowKit.intOf s15).toNat)
  case atStart => exact ⟨0, Nat.zero_le _, rfl, HI0⟩
  case round =>
    clear HI0
    obtain ⟨j, hj, rfl, HI⟩ := hrel
    by_cases hlt : j < n
    · have hb := HI.out.2
      have hP := H.out.below hb
      have hjL : j < L.length := by have := hP.len; omega
      obtain ⟨f0, f1⟩ := hP.cells j L[j] (List.getElem?_eq_getElem hjL)
      have HF : Hid (ofL (L.take (j + 1)) o = ofL (L.take j) o ++ (if isO o L[j] then [j] else [])) := ofL_step o L j hjL
      generalize L[j] = x at f0 f1 HF
      clear hb hP
      cases x with
      | none =>
        have HN : Hid (OfI o L (j + 1) u5 w (wr.alloc (.cells #[.bool false, .int .i64 0] 89))) := by
          have hbA : Below wr.heap.size wr (wr.alloc (.cells #[.bool false, .int .i64 0] 89)) := (Below.refl _ _).alloc (Nat.le_refl _) _
          refine ⟨?_, HI.out.2.trans (hbA.mono HI.out.2.size)⟩
          rw [HF.out, if_neg (by simp [isO]), List.append_nil]
          exact HI.out.1.below hbA
        clear HI HF
        go_wp2_with fail
        exact ⟨⟨j + 1, hlt, rfl, HN⟩, by simp [RowKit.intOf]; omega⟩
      | some p =>
        have hbA : Below wr.heap.size wr (wr.alloc (.cells #[.bool true, .int .i64 p] 89)) := (Below.refl _ _).alloc (Nat.le_refl _) _
        have hbwA : Below w.heap.size w (wr.alloc (.cells #[.bool true, .int .i64 p] 89)) := HI.out.2.trans (hbA.mono HI.out.2.size)
        have hRA := HI.out.1.below hbA
        by_cases hpo : p = o
        · subst hpo
          have HF2 : Hid (ofL (L.take (j + 1)) p = ofL (L.take j) p ++ [j]) := by
            have := HF.out
            rwa [if_pos (by simp [isO])] at this
          have hbB : Below (wr.alloc (.cells #[.bool true, .int .i64 p] 89)).heap.size (wr.alloc (.cells #[.bool true, .int .i64 p] 89)) ((wr.alloc (.cells #[.bool true, .int .i64 p] 89)).alloc (.cells #[.int .i64 j] 3)) := (Below.refl _ _).alloc (Nat.le_refl _) _
          have HO : Hid (((wr.alloc (.cells #[.bool true, .int .i64 p] 89)).alloc (.cells #[.int .i64 j] 3)).ownsRow w.heap.size 3 1 u5 (natsI (ofL (L.take j) p)).length ((natsI (ofL (L.take j) p)).map (Value.int .i64))) := hRA.below hbB
          have HB : Hid (Below w.heap.size w ((wr.alloc (.cells #[.bool true, .int .i64 p] 89)).alloc (.cells #[.int .i64 j] 3))) := hbwA.trans (hbB.mono hbwA.size)
          have hal : (natsI (ofL (L.take j) p)).length ≤ 1000 := by
            rw [natsI_length]
            have := idxs_length_le (isO p) (L.take j) 0
            rw [List.length_take] at this
            unfold ofL; omega
          have hq2 : (natsI (ofL (L.take j) p)).length + 1 ≤ maxLen := by unfold maxLen; omega
          have hq3 : ((natsI (ofL (L.take j) p)).length + 1) * 8 ≤ 140737488355328 := by omega
          have hq4 : w.heap.size ≤ ((wr.alloc (.cells #[.bool true, .int .i64 p] 89)).alloc (.cells #[.int .i64 j] 3)).heap.size := HB.out.size
          clear hRA hbA hbwA hbB HI HF hal
          go_wp2_with (at_builtin; refine wpList_append_own _ rfl _ _ 47 rfl w.heap.size 3 i0 (.int .i64 0) 1 8 Tryz.underlying47 hi hz0 hz1 hz2 rfl (by decide) _ _ _ rfl HO.out ⟨wr.heap.size + 1, 0, none⟩ 1 1 [.int .i64 j] rfl rfl (one_newW _ _ _ _) (fun u hu => by cases hu with | head => rfl | tail _ h => cases h) hq2 hq3 hq4 ?_)
          intro v1 w5 hown1 hg1 hnil1
          have HN : Hid (OfI p L (j + 1) v1 w w5) := by
            refine ⟨?_, HB.out.grown hg1 hq4 (fun k e => ownsRow_low HO.out k e)⟩
            rw [HF2.out]
            unfold IntsR
            rw [show natsI (ofL (L.take j) p ++ [j]) = natsI (ofL (L.take j) p) ++ [(j : Int)] by simp [natsI], List.length_append, List.map_append]
            exact hown1
          clear hown1 hg1 hnil1 HO HB hq2 hq3 hq4 HF2
          go_wp2_with fail
          exact ⟨⟨j + 1, hlt, rfl, HN⟩, by simp [RowKit.intOf]; omega⟩
        · have HN : Hid (OfI o L (j + 1) u5 w (wr.alloc (.cells #[.bool true, .int .i64 p] 89))) := by
            refine ⟨?_, hbwA⟩
            rw [HF.out, if_neg (by simpa [isO] using hpo), List.append_nil]
            exact hRA
          clear HI HF hRA hbA hbwA
          go_wp2_with fail
          exact ⟨⟨j + 1, hlt, rfl, HN⟩, by simp [RowKit.intOf]; omega⟩
    · obtain rfl : j = n := by omega
      have HN : Hid (IntsR wr w.heap.size u5 (natsI (ofL L o)) ∧ Below w.heap.size w wr) := by
        have := HI.out
        unfold OfI at this
        rw [← H.out.len, List.take_length] at this
        exact this
      clear HI
      go_wp2_with fail
      go_ret
      exact ⟨_, rfl, HN.out.1, HN.out.2⟩
end Go.Proofs.YteaacodloabdcaaGreatDoor

namespace Go.Proofs.YteaacodloabdcaaGreatDoor
open Go.RowKit Go.Maps

theorem blksV_reps (m : Nat) : blksV (List.replicate m none) = (List.replicate m [Value.bool false, Value.int .i64 0]).flatten := by
  unfold blksV
  rw [List.flatMap_def, List.map_replicate]; rfl
theorem infoBlk : (Tryz.prog.info? 89).map (fun i => (i.zero, i.size, i.bytes)) = some (some (.agg #[.bool false, .int .i64 0]), 2, 16) := by kernel_rfl
def prow (n : Nat) : Array Value := (blksV (List.replicate n none)).toArray
theorem blksV_nones (n i : Nat) (h : i < n * 2) : (blksV (List.replicate n none))[i]? = some (if i % 2 = 0 then .bool false else .int .i64 0) := by
  induction n generalizing i with
  | zero => omega
  | succ n ih =>
    rw [List.replicate_succ, blksV_cons]
    match i with
    | 0 => rfl
    | 1 => rfl
    | i + 2 =>
      rw [List.getElem?_cons_succ, List.getElem?_cons_succ, ih i (by omega)]
      have : (i + 2) % 2 = i % 2 := by omega
      rw [this]
theorem mkBlks (n : Nat) (h : n ≤ 1000) (w : World) : (Instr.makeSlice 85 (.int .i64 n) (.int .i64 n)).run Tryz.prog w = .ok (.slice (some ⟨w.heap.size, 0, none⟩) n n) (w.alloc (.cells (prow n) 89)) := by
  have hx := infoBlk
  cases hq : Tryz.prog.info? 89 with
  | none => rw [hq] at hx; cases hx
  | some i =>
    rw [hq] at hx
    simp only [Option.map_some, Option.some.injEq, Prod.mk.injEq] at hx
    obtain ⟨h1, h2, h3⟩ := hx
    rw [run_make w 85 89 i _ Tryz.underlying85 hq h1 .i64 .i64 n n (by omega) (by omega) (by rw [h3]; omega) (by omega)]
    have e : madeCells (Value.agg #[.bool false, .int .i64 0]).cells ((n : Int).toNat * i.size) = prow n := by
      rw [h2]
      show madeCells #[.bool false, .int .i64 0] (n * 2) = _
      unfold madeCells prow
      apply Array.ext
      · simp [blksV_length]
      · intro j hj1 hj2
        have hj : j < n * 2 := by simpa using hj1
        have e1 := blksV_nones n j hj
        rw [List.getElem?_eq_getElem (by rw [blksV_length, List.length_replicate]; exact hj)] at e1
        have e2 := Option.some.inj e1
        rw [Array.getElem_map, Array.getElem_range]
        show _ = (blksV (List.replicate n none))[j]'(by rw [blksV_length, List.length_replicate]; exact hj)
        rw [e2]
        rcases Nat.mod_two_eq_zero_or_one j with h0 | h0 <;> simp [h0]
    rw [e]
    simp
theorem new_pool (n : Nat) (h : n ≤ 1000) (w : World) : PoolAt ((w.alloc (.cells (prow n) 89)).alloc (.cells #[.slice (some ⟨w.heap.size, 0, none⟩) n n] 87)) (w.heap.size + 1) w.heap.size n (List.replicate n none) := {
  c0 := by rw [World.cell?_alloc_at _ _ _ _ (by simp)]; rfl
  row := by
    refine World.rangeAt_alloc ?_ _
    intro j v hv
    rw [cell_of_row _ _ (0 + j) (prow n) 89 (0, 0) (heap_alloc_last w _)]
    simpa [prow] using hv
  thr := by
    refine World.there_alloc ?_ _
    intro j hj
    refine ⟨?_, by simp⟩
    rw [cell_of_row _ _ (0 + j) (prow n) 89 (0, 0) (heap_alloc_last w _)]
    simp [prow, blksV_length, hj]
  len := by simp
  ne := by omega
  gl := by simp; omega
  n1 := h }
theorem PoolAt.soft {w : World} {pb gb n : Nat} {L : List (Option Int)} (h : PoolAt w pb gb n L) (j : Nat) (hj : j < n) : w.frozen? ⟨gb, j * 2, none⟩ = false ∧ w.frozen? ⟨gb, j * 2 + 1, none⟩ = false := by
  have a := (h.thr (j * 2) (by omega)).2
  have b := (h.thr (j * 2 + 1) (by omega)).2
  rw [Nat.zero_add] at a b
  exact ⟨a, b⟩
theorem PoolAt.set {w : World} {pb gb n : Nat} {L : List (Option Int)} (h : PoolAt w pb gb n L) (j : Nat) (hj : j < n) (x : Option Int) :
    PoolAt ((w.setCell ⟨gb, j * 2, none⟩ (.bool x.isSome)).setCell ⟨gb, j * 2 + 1, none⟩ (.int .i64 (x.getD 0))) pb gb n (L.set j x) := by
  have e : (w.setCell ⟨gb, j * 2, none⟩ (.bool x.isSome)).setCell ⟨gb, j * 2 + 1, none⟩ (.int .i64 (x.getD 0)) = w.setCells gb (j * 2) (blkC x) := rfl
  rw [e]
  have hth : w.there gb (j * 2) (blkC x).length := fun i hi => by
    have := h.thr (j * 2 + i) (by simp [blkC] at hi; omega)
    rwa [Nat.zero_add] at this
  have hl := h.len
  refine { c0 := ?_, row := ?_, thr := World.there_setCells h.thr _ _ _, len := by rw [List.length_set]; exact hl, ne := h.ne, gl := ?_, n1 := h.n1 }
  · rw [World.cell?_setCells_out _ _ _ _ _ (fun e => absurd e h.ne)]; exact h.c0
  · intro i v hv
    have hi : i < n * 2 := by
      have := (List.getElem?_eq_some_iff.1 hv).1
      rw [blksV_length, List.length_set] at this; omega
    have hk : i / 2 < L.length := by omega
    have hi2 : i = 2 * (i / 2) ∨ i = 2 * (i / 2) + 1 := by omega
    by_cases hkj : i / 2 = j
    · have hs : (L.set j x)[i / 2]? = some x := by rw [hkj, List.getElem?_set_self (by omega)]
      obtain ⟨a, b⟩ := blksV_at _ _ _ hs
      have hr := World.rangeAt_setCells_same w gb (j * 2) (blkC x) hth
      rcases hi2 with hi2 | hi2
      · rw [hi2, a] at hv
        have := hr 0 _ rfl
        rw [hi2, Nat.zero_add, hkj, ← hv, Nat.mul_comm 2 j]; exact this
      · rw [hi2, b] at hv
        have := hr 1 _ rfl
        rw [hi2, Nat.zero_add, hkj, ← hv, Nat.mul_comm 2 j]; exact this
    · have hs : (L.set j x)[i / 2]? = L[i / 2]? := by rw [List.getElem?_set_ne (Ne.symm hkj)]
      rw [List.getElem?_eq_getElem hk] at hs
      obtain ⟨a, b⟩ := blksV_at _ _ _ hs
      obtain ⟨a', b'⟩ := blksV_at L _ _ (List.getElem?_eq_getElem hk)
      rw [World.cell?_setCells_out _ _ _ _ _ (fun _ _ => by simp [blkC]; omega)]
      refine h.row i v ?_
      rcases hi2 with hi2 | hi2
      · rw [hi2] at hv ⊢
        exact (a'.trans a.symm).trans hv
      · rw [hi2] at hv ⊢
        exact (b'.trans b.symm).trans hv
  · have : (w.setCells gb (j * 2) (blkC x)).heap.size = w.heap.size := by simp [blkC, World.setCells, World.setCell]
    rw [this]; exact h.gl
/-- How many New makes of it. -/
def poolN (n : Int) : Nat := (min (max n 0) 1000).toNat
theorem poolN_le (n : Int) : poolN n ≤ 1000 := by unfold poolN; omega
set_option maxRecDepth 100000 in
theorem new_at_pool (n : Int) (w : World) : Calls Tryz.prog 35 #[.int .i64 n] w fun e w' => ∃ pb gb, e = .returned (.pointer (some ⟨pb, 0, none⟩)) ∧ PoolAt w' pb gb (poolN n) (List.replicate (poolN n) none) ∧ w.heap.size ≤ pb ∧ w.heap.size ≤ gb ∧ Below w.heap.size w w' := by
  have hmk := fun w => mkBlks (poolN n) (poolN_le n) w
  have hp : min (max n 0) 1000 = (poolN n : Int) := by unfold poolN; omega
  go_enter Tryz.func35, Tryz.ntmps35
  go_wp2_with fail
  go_ret
  exact ⟨_, _, rfl, new_pool _ (poolN_le n) w, by omega, Nat.le_refl _, ((Below.refl _ w).alloc (Nat.le_refl _) _).alloc (by simp) _⟩
theorem takeL_cut (o : Int) (m : Nat) (L : List (Option Int)) (j : Nat) (h : m - frees (L.take j) = 0) : takeL o m (L.take j) ++ L.drop j = takeL o m L := by
  conv => rhs; rw [← List.take_append_drop j L]
  rw [takeL_append, h, takeL_zero]
theorem takeL_on (o : Int) (m : Nat) (L : List (Option Int)) (j : Nat) (hj : j < L.length) (hm : m - frees (L.take j) ≠ 0) : (takeL o m (L.take (j + 1)) ++ L.drop (j + 1)) = if L[j].isSome then takeL o m (L.take j) ++ L.drop j else (takeL o m (L.take j) ++ L.drop j).set j (some o) := by
  have hl : (takeL o m (L.take j)).length = j := by rw [takeL_length, List.length_take]; omega
  rw [List.take_succ_eq_append_getElem hj, takeL_append, List.drop_eq_getElem_cons hj]
  obtain ⟨q, hq⟩ : ∃ q, m - frees (L.take j) = q + 1 := ⟨m - frees (L.take j) - 1, by omega⟩
  rw [hq]
  generalize L[j] = x
  cases x with
  | none => 
    rw [if_neg (by simp), List.set_append_right _ _ (by omega), hl, Nat.sub_self, List.set_cons_zero]
    simp [takeL]
  | some p => simp [takeL]
set_option maxRecDepth 100000 in
set_option maxHeartbeats 2000000 in
theorem take_at {w : World} {pb gb n : Nat} {L : List (Option Int)} (h : PoolAt w pb gb n L) (o : Int) (m : Nat) (hm : m ≤ 1000) :
    Calls Tryz.prog 49 #[.pointer (some ⟨pb, 0, none⟩), .int .i64 o, .int .i64 m] w fun e w' => e = .returned (.tuple #[]) ∧ PoolAt w' pb gb n (takeL o m L) ∧ Keeps (fun i => i = gb) w w' := by
  have hL := h.len
  have hn := h.n1
  have HI0 : Hid (PoolAt w pb gb n (takeL o m (L.take 0) ++ L.drop 0) ∧ Keeps (fun i => i = gb) w w) := ⟨by cases m <;> exact h, Keeps.refl _ _⟩
  clear h
  go_enter Tryz.func49, Tryz.ntmps49
  go_wp2_with fail
  go_loopw [2, 6] (fun s2 s6 wr => ∃ j q : Nat, j ≤ n ∧ s6 = .int .i64 j ∧ s2 = .int .i64 q ∧ Hid (q = m - frees (L.take j)) ∧ Hid (PoolAt wr pb gb n (takeL o m (L.take j) ++ L.drop j) ∧ Keeps (fun i => i = gb) w wr)) (fun _ s6 _ => n - (RowKit.intOf s6).toNat)
  case atStart => exact ⟨0, m, Nat.zero_le _, rfl, rfl, by simp [Hid, frees], HI0⟩
  case round =>
    clear HI0
    obtain ⟨j, q, hj, rfl, rfl, HQ, HI⟩ := hrel
    have c0 := HI.out.1.c0
    by_cases hlt : j < n
    · by_cases hz : q = 0
      · have HN : Hid (PoolAt wr pb gb n (takeL o m L) ∧ Keeps (fun i => i = gb) w wr) := by
          rw [← takeL_cut o m L j (by rw [← HQ.out]; exact hz)]
          exact HI.out
        subst hz
        clear HI HQ
        go_wp2_with fail
        go_end0
        exact ⟨rfl, HN.out⟩
      · have hjL : j < L.length := by omega
        have hq1 : 1 ≤ q := by omega
        have hget : (takeL o m (L.take j) ++ L.drop j)[j]? = some L[j] := by
          rw [List.getElem?_append_right (by rw [takeL_length, List.length_take]; omega), takeL_length, List.length_take, Nat.min_eq_left (by omega), Nat.sub_self, List.getElem?_drop, Nat.add_zero, List.getElem?_eq_getElem hjL]
        obtain ⟨f0, f1⟩ := HI.out.1.cells j L[j] hget
        obtain ⟨z0, z1⟩ := HI.out.1.soft j hlt
        have HT : Hid ((takeL o m (L.take (j + 1)) ++ L.drop (j + 1)) = if L[j].isSome then takeL o m (L.take j) ++ L.drop j else (takeL o m (L.take j) ++ L.drop j).set j (some o)) := takeL_on o m L j hjL (by have := HQ.out; omega)
        have HF : Hid (frees (L.take (j + 1)) = frees (L.take j) + (if L[j].isSome then 0 else 1)) := by
          show _ = _
          rw [List.take_succ_eq_append_getElem hjL, frees_append]
          congr 1
          cases L[j] <;> rfl
        clear hget hz
        have hqm : q ≤ 1000 := by have := HQ.out; omega
        generalize L[j] = x at f0 f1 HT HF
        cases x with
        | none =>
          have HN : Hid (PoolAt ((wr.setCell ⟨gb, j * 2, none⟩ (.bool true)).setCell ⟨gb, j * 2 + 1, none⟩ (.int .i64 o)) pb gb n (takeL o m (L.take (j + 1)) ++ L.drop (j + 1)) ∧ Keeps (fun i => i = gb) w ((wr.setCell ⟨gb, j * 2, none⟩ (.bool true)).setCell ⟨gb, j * 2 + 1, none⟩ (.int .i64 o))) := by
            refine ⟨?_, (HI.out.2.setCell rfl _).setCell rfl _⟩
            rw [HT.out]
            exact HI.out.1.set j hlt (some o)
          have HQ2 : Hid (q - 1 = m - frees (L.take (j + 1))) := by
            show _ = _
            rw [HF.out]
            have := HQ.out
            show q - 1 = m - (_ + 1)
            omega
          clear HI HT HF HQ
          go_wp2_with fail
          exact ⟨⟨j + 1, q - 1, hlt, rfl, by congr 1; omega, HQ2, HN⟩, by simp [RowKit.intOf]; omega⟩
        | some p =>
          have HN : Hid (PoolAt wr pb gb n (takeL o m (L.take (j + 1)) ++ L.drop (j + 1)) ∧ Keeps (fun i => i = gb) w wr) := by
            refine ⟨?_, HI.out.2⟩
            rw [HT.out]
            exact HI.out.1
          have HQ2 : Hid (q = m - frees (L.take (j + 1))) := by
            show _ = _
            rw [HF.out]
            exact HQ.out
          clear HI HT HF HQ
          go_wp2_with fail
          exact ⟨⟨j + 1, q, hlt, rfl, rfl, HQ2, HN⟩, by simp [RowKit.intOf]; omega⟩
    · obtain rfl : j = n := by omega
      have HN : Hid (PoolAt wr pb gb j (takeL o m L) ∧ Keeps (fun i => i = gb) w wr) := by
        have := HI.out
        rw [← hL, List.take_length, List.drop_length, List.append_nil] at this
        rw [← hL]
        exact this
      clear HI HQ
      go_wp2_with fail
      go_end0
      exact ⟨rfl, HN.out⟩
end Go.Proofs.YteaacodloabdcaaGreatDoor

namespace Go.Proofs.YteaacodloabdcaaGreatDoor
open Go.RowKit Go.Maps

theorem sets_take {α : Type} (x : α) (is : List Nat) (L : List α) (j : Nat) (h : j < is.length) : sets x (is.take (j + 1)) L = (sets x (is.take j) L).set is[j] x := by
  rw [List.take_succ_eq_append_getElem h, sets_snoc]
set_option maxRecDepth 100000 in
set_option maxHeartbeats 2000000 in
theorem give_at {w : World} {pb gb n : Nat} {L : List (Option Int)} (h : PoolAt w pb gb n L) (g o c : Nat) (is : List Nat) (hm : is.length ≤ 1000) (hi : ∀ i ∈ is, i < n) (hg : g ≠ gb) (hgl : g < w.heap.size)
    (hr : ∀ j, j < is.length → w.cell? ⟨g, o + j, none⟩ = some (.int .i64 (is.getD j 0 : Nat))) :
    Calls Tryz.prog 48 #[.pointer (some ⟨pb, 0, none⟩), .slice (some ⟨g, o, none⟩) is.length c] w fun e w' => e = .returned (.tuple #[]) ∧ PoolAt w' pb gb n (sets none is L) ∧ Keeps (fun i => i = gb) w w' := by
  have hn := h.n1
  have HI0 : Hid (PoolAt w pb gb n (sets none (is.take 0) L) ∧ Keeps (fun i => i = gb) w w) := ⟨h, Keeps.refl _ _⟩
  have HR : Hid (∀ j, j < is.length → w.cell? ⟨g, o + j, none⟩ = some (.int .i64 (is.getD j 0 : Nat))) := hr
  have HX : Hid (∀ i ∈ is, i < n) := hi
  obtain ⟨m, hmm⟩ : ∃ m, m = is.length := ⟨_, rfl⟩
  have HM : Hid (m = is.length) := hmm
  rw [← hmm] at hm ⊢
  clear h hr hi hmm
  go_enter Tryz.func48, Tryz.ntmps48
  go_wp2_with fail
  go_loopw [8] (fun s8 wr => ∃ j : Nat, j ≤ m ∧ s8 = .int .i64 j ∧ Hid (PoolAt wr pb gb n (sets none (is.take j) L) ∧ Keeps (fun i => i = gb) w wr)) (fun s8 _ => m - (RowKit.intOf s8).toNat)
  case atStart => exact ⟨0, Nat.zero_le _, rfl, HI0⟩
  case round =>
    clear HI0
    obtain ⟨j, hj, rfl, HI⟩ := hrel
    by_cases hlt : j < m
    · have hjm : j < is.length := by have := HM.out; omega
      have c0 := HI.out.1.c0
      have r0 := (HI.out.2.cell (p := ⟨g, o + j, none⟩) hgl hg).trans (HR.out j hjm)
      have hx : is.getD j 0 = is[j] := by simp [List.getD, hjm]
      rw [hx] at r0
      have hxn := HX.out is[j] (List.getElem_mem hjm)
      obtain ⟨z0, z1⟩ := HI.out.1.soft is[j] hxn
      have hPl : L.length = n := by have := HI.out.1.len; rwa [sets_length] at this
      have hget : (sets none (is.take j) L)[is[j]]? = some ((sets none (is.take j) L)[is[j]]'(by rw [sets_length]; omega)) := List.getElem?_eq_getElem _
      obtain ⟨f0, f1⟩ := HI.out.1.cells is[j] _ hget
      have HN : Hid (PoolAt ((wr.setCell ⟨gb, is[j] * 2, none⟩ (.bool false)).setCell ⟨gb, is[j] * 2 + 1, none⟩ (.int .i64 0)) pb gb n (sets none (is.take (j + 1)) L) ∧ Keeps (fun i => i = gb) w ((wr.setCell ⟨gb, is[j] * 2, none⟩ (.bool false)).setCell ⟨gb, is[j] * 2 + 1, none⟩ (.int .i64 0))) := by
        refine ⟨?_, (HI.out.2.setCell rfl _).setCell rfl _⟩
        rw [sets_take none is L j hjm]
        exact HI.out.1.set is[j] hxn none
      clear hget HI hx
      generalize (sets none (is.take j) L)[is[j]]'(by rw [sets_length]; omega) = y at f0 f1
      generalize is[j] = x at *
      go_wp2_with fail
      exact ⟨⟨j + 1, hlt, rfl, HN⟩, by simp [RowKit.intOf]; omega⟩
    · obtain rfl : j = m := by omega
      have HN : Hid (PoolAt wr pb gb n (sets none is L) ∧ Keeps (fun i => i = gb) w wr) := by
        have := HI.out
        rw [HM.out, List.take_length] at this
        exact this
      clear HI
      go_wp2_with fail
      go_end0
      exact ⟨rfl, HN.out⟩
theorem psize_nil (o k : Int) (w : World) : Calls Tryz.prog 21 #[.pointer none, .int .i64 o, .int .i64 k] w fun e w' => e = .returned (.int .i64 9) ∧ w' = w := by
  go_enter Tryz.func21, Tryz.ntmps21
  go_wp2
  go_ret
  exact ⟨rfl, rfl⟩
theorem elemInts : Tryz.prog.elem 47 = 3 := by kernel_rfl
/-- 'x[k:]' of a slice of int that has room behind. -/
theorem tailInts (g o n c k : Nat) (hk : k ≤ n) (hc : k < c) (W : World) : (Instr.sliceAt 47 (.slice (some ⟨g, o, none⟩) n c) (some (.int .i64 (k : Int))) none none).run Tryz.prog W = .ok (.slice (some ⟨g, o + k, none⟩) (n - k) (c - k)) W := by
  have hu : Tryz.prog.underlying 47 = some (.slice (Tryz.prog.elem 47)) := by rw [elemInts]; exact Tryz.underlying47
  have hs := Tryz.sizeOf3 W
  rw [run_sliceAt_slice W 47 _ _ _ _ hu, run_slice_l W 47 _ n c hu .i64 k (by omega) (by omega), elemInts, hs]
  have : ¬ c = k := by omega
  simp [Result.andThen, sliced, Addr.add, this]
theorem ofL_lt {L : List (Option Int)} {o : Int} {i : Nat} (h : i ∈ ofL L o) : i < L.length := by
  have := idxs_ge _ _ _ _ h
  omega
theorem ofL_len (L : List (Option Int)) (o : Int) : (ofL L o).length ≤ L.length := idxs_length_le _ _ _
set_option maxRecDepth 100000 in
set_option maxHeartbeats 2000000 in
theorem psize_at {w : World} {pb gb n : Nat} {L : List (Option Int)} (h : PoolAt w pb gb n L) (o k : Int) (hk : -9223372036854775808 ≤ k ∧ k ≤ 9223372036854775807) :
    Calls Tryz.prog 21 #[.pointer (some ⟨pb, 0, none⟩), .int .i64 o, .int .i64 k] w fun e w' => e = .returned (.int .i64 (sizeL L o k).2) ∧ PoolAt w' pb gb n (sizeL L o k).1 ∧ Keeps (fun i => i = gb) w w' := by
  have hn := h.n1
  have hL := h.len
  have HP : Hid (PoolAt w pb gb n L) := h
  clear h
  by_cases h0 : k < 0
  · rw [sizeL_below h0]
    go_enter Tryz.func21, Tryz.ntmps21
    go_wp2_with fail
    go_ret
    exact ⟨rfl, HP.out, Keeps.refl _ _⟩
  · go_enter Tryz.func21, Tryz.ntmps21
    go_wp2_with fail
    refine (of_at HP.out o).mono ?_
    rintro e w1 ⟨v, rfl, hv1, hb1⟩
    obtain ⟨p, c, rfl, hpn⟩ := hv1.shape
    have HP1 : Hid (PoolAt w1 pb gb n L) := HP.out.below hb1
    have HV1 : Hid (IntsR w1 w.heap.size (.slice p (natsI (ofL L o)).length c) (natsI (ofL L o))) := hv1
    have HB1 : Hid (Below w.heap.size w w1) := hb1
    have HA : Hid ((natsI (ofL L o)).length = (ofL L o).length) := natsI_length _
    have ha : (natsI (ofL L o)).length ≤ 1000 := by rw [natsI_length]; have := ofL_len L o; omega
    have hf : frees L ≤ 1000 := by have := frees_le L; omega
    clear hv1 hb1 hpn
    generalize ha' : (natsI (ofL L o)).length = a at *
    go_wp2_with fail
    refine (free_at HP1.out).mono ?_
    rintro e w2 ⟨rfl, hb2⟩
    have HP2 : Hid (PoolAt w2 pb gb n L) := HP1.out.below hb2
    have HB2 : Hid (Below w.heap.size w w2) := HB1.out.trans (hb2.mono HB1.out.size)
    have HV2 : Hid (IntsR w2 w.heap.size (.slice p a c) (natsI (ofL L o))) := HV1.out.below hb2
    clear HV1 HB1 hb2 HP1
    have HFr : Hid (frees L = frees L) := rfl
    generalize hf' : frees L = f at hf ⊢
    have HFf : Hid (frees L = f) := hf'
    clear hf' HFr
    by_cases hc : (a : Int) + f < k
    · have HS : Hid (sizeL L o k = (L, 6)) := sizeL_many (by rw [← HA.out, HFf.out]; omega)
      go_wp2_with fail
      go_ret
      rw [HS.out]
      exact ⟨rfl, HP2.out, Keeps.of_below HB2.out⟩
    · by_cases hka : k < a
      · have hpos : 0 < (natsI (ofL L o)).length := by omega
        obtain ⟨g, c', e1, hac, hg1, hg2, hcell⟩ := HV2.out.at_ hpos
        rw [ha'] at e1
        obtain ⟨rfl, rfl⟩ : p = some ⟨g, 0, none⟩ ∧ c = c' := by injection e1 with x y z; exact ⟨x, z⟩
        obtain ⟨q, rfl⟩ : ∃ q : Nat, k = q := ⟨k.toNat, by omega⟩
        have hsl : ∀ W : World, (Instr.sliceAt 47 (.slice (some ⟨g, 0, none⟩) a c) (some (.int .i64 (q : Int))) none none).run Tryz.prog W = .ok (.slice (some ⟨g, q, none⟩) (a - q) (c - q)) W := by
          intro W
          have := tailInts g 0 a c q (by omega) (by omega) W
          rwa [Nat.zero_add] at this
        have HG : Hid (∀ c2, Calls Tryz.prog 48 #[.pointer (some ⟨pb, 0, none⟩), .slice (some ⟨g, q, none⟩) (a - q) c2] w2 fun e w' => e = .returned (.tuple #[]) ∧ PoolAt w' pb gb n (sizeL L o q).1 ∧ Keeps (fun i => i = gb) w w') := by
          intro c2
          have hdl : ((ofL L o).drop q).length = a - q := by rw [List.length_drop, ← HA.out]
          rw [← hdl]
          have hgb : g ≠ gb := by have := HP.out.gl; omega
          refine (give_at HP2.out g q c2 ((ofL L o).drop q) (by rw [hdl]; omega) (fun i hi => by rw [← hL]; exact ofL_lt (List.mem_of_mem_drop hi)) hgb hg2 ?_).mono ?_
          · intro j hj
            rw [hdl] at hj
            rw [hcell (q + j) (by omega), natsI_getD]
            congr 2
            simp [List.getD]
          · rintro e w' ⟨rfl, h1, h2⟩
            refine ⟨rfl, ?_, (Keeps.of_below HB2.out).trans h2⟩
            have : (sizeL L o q).1 = sets none ((ofL L o).drop q) L := by
              unfold sizeL
              rw [if_neg (by omega), if_neg (by rw [← HA.out, HFf.out]; omega), if_pos (by rw [← HA.out]; omega)]
              rfl
            rw [this]
            exact h1
        have HS2 : Hid ((sizeL L o q).2 = 0) := (sizeL_ok (by omega) (by rw [← HA.out, HFf.out]; omega)).1
        clear hcell
        go_wp2_with fail
        refine (HG.out _).mono ?_
        rintro e w3 ⟨rfl, h1, h2⟩
        go_wp2_with fail
        go_ret
        exact ⟨by rw [HS2.out]; rfl, h1, h2⟩
      · obtain ⟨q, hq⟩ : ∃ q : Nat, k - a = q := ⟨(k - a).toNat, by omega⟩
        have HT := take_at HP2.out o q (by omega)
        have HS : Hid (sizeL L o k = (takeL o q L, 0)) := by
          show _ = _
          unfold sizeL
          rw [if_neg (by omega), if_neg (by rw [← HA.out, HFf.out]; omega), if_neg (by rw [← HA.out]; omega)]
          rw [show k.toNat - (ofL L o).length = q by rw [← HA.out]; omega]
        go_wp2_with fail
        refine HT.mono ?_
        rintro e w3 ⟨rfl, h1, h2⟩
        go_wp2_with fail
        go_ret
        rw [HS.out]
        exact ⟨rfl, h1, (Keeps.of_below HB2.out).trans h2⟩
end Go.Proofs.YteaacodloabdcaaGreatDoor
