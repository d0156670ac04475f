import Derived.Test.YteaacodloabdcaaGreatDoorBinA
import Derived.Test.YteaacodloabdcaaGreatDoorDevA
import Derived.Deep.QuietTactic
import Derived.BigQuiet
namespace Go.Proofs.YteaacodloabdcaaGreatDoor
def sqZ : List Int → List Int → Int
  | a :: A, b :: B => (a - b) * (a - b) + sqZ A B
  | _, _ => 0
def prZ : List Int → List Int → Int
  | a :: A, b :: B => a * b + prZ A B
  | _, _ => 0
theorem sqZ_nil (B : List Int) : sqZ [] B = 0 := by cases B <;> rfl
theorem prZ_nil (B : List Int) : prZ [] B = 0 := by cases B <;> rfl
theorem sqZ_snoc : ∀ (A B : List Int) (a b : Int), A.length = B.length → sqZ (A ++ [a]) (B ++ [b]) = sqZ A B + (a - b) * (a - b)
  | [], [], a, b, _ => by simp [sqZ]
  | x :: A, y :: B, a, b, h => by
    have := sqZ_snoc A B a b (by simpa using h)
    simp only [List.cons_append, sqZ, this]; omega
theorem prZ_snoc : ∀ (A B : List Int) (a b : Int), A.length = B.length → prZ (A ++ [a]) (B ++ [b]) = prZ A B + a * b
  | [], [], a, b, _ => by simp [prZ]
  | x :: A, y :: B, a, b, h => by
    have := prZ_snoc A B a b (by simpa using h)
    simp only [List.cons_append, prZ, this]; omega
theorem take_snoc {A : List Int} {k : Nat} (h : k < A.length) : A.take (k + 1) = A.take k ++ [A.getD k 0] := by
  rw [List.take_succ_eq_append_getElem h]
  simp [List.getD, h]
theorem sqZ_step {A B : List Int} {k : Nat} (h1 : k < A.length) (h2 : k < B.length) : sqZ (A.take (k + 1)) (B.take (k + 1)) = sqZ (A.take k) (B.take k) + (A.getD k 0 - B.getD k 0) * (A.getD k 0 - B.getD k 0) := by
  rw [take_snoc h1, take_snoc h2, sqZ_snoc]
  rw [List.length_take, List.length_take]; omega
theorem prZ_step {A B : List Int} {k : Nat} (h1 : k < A.length) (h2 : k < B.length) : prZ (A.take (k + 1)) (B.take (k + 1)) = prZ (A.take k) (B.take k) + A.getD k 0 * B.getD k 0 := by
  rw [take_snoc h1, take_snoc h2, prZ_snoc]
  rw [List.length_take, List.length_take]; omega
theorem sqZ_short (A B : List Int) : sqZ (A.take (min A.length B.length)) (B.take (min A.length B.length)) = sqZ A B := by
  induction A generalizing B with
  | nil => simp [sqZ_nil]
  | cons a A ih =>
    cases B with
    | nil => simp [sqZ]
    | cons b B =>
      have : min (a :: A).length (b :: B).length = min A.length B.length + 1 := by simp only [List.length_cons]; omega
      rw [this]
      simp only [List.take_succ_cons, sqZ, ih]
theorem prZ_short (A B : List Int) : prZ (A.take (min A.length B.length)) (B.take (min A.length B.length)) = prZ A B := by
  induction A generalizing B with
  | nil => simp [prZ_nil]
  | cons a A ih =>
    cases B with
    | nil => simp [prZ]
    | cons b B =>
      have : min (a :: A).length (b :: B).length = min A.length B.length + 1 := by simp only [List.length_cons]; omega
      rw [this]
      simp only [List.take_succ_cons, prZ, ih]
theorem sqZ_comm (A B : List Int) : sqZ A B = sqZ B A := by
  induction A generalizing B with
  | nil => cases B <;> rfl
  | cons a A ih =>
    cases B with
    | nil => rfl
    | cons b B =>
      simp only [sqZ, ih B]
      have : (a - b) * (a - b) = (b - a) * (b - a) := by
        rw [← Int.neg_sub b a, Int.neg_mul_neg]
      rw [this]
theorem prZ_comm (A B : List Int) : prZ A B = prZ B A := by
  induction A generalizing B with
  | nil => cases B <;> rfl
  | cons a A ih =>
    cases B with
    | nil => rfl
    | cons b B => simp only [prZ, ih B, Int.mul_comm a b]
theorem sqZ_self (A : List Int) : sqZ A A = 0 := by
  induction A with
  | nil => rfl
  | cons a A ih => simp [sqZ, ih]
/-- The score of two lists of numbers, as a number. -/
def scoreZ (m : Int) (A B : List Int) : Int := if m = 1 then sqZ A B else if m = 2 then -prZ A B else 0
theorem scoreZ_comm (m : Int) (A B : List Int) : scoreZ m A B = scoreZ m B A := by
  unfold scoreZ
  rw [sqZ_comm, prZ_comm]
/-- Numbers that may be in a vector. -/
def Fits (M : Int) (A : List Int) : Prop := ∀ x ∈ A, -M ≤ x ∧ x ≤ M
theorem sq_le {x N : Int} (h1 : -N ≤ x) (h2 : x ≤ N) : 0 ≤ x * x ∧ x * x ≤ N * N := by
  rcases Int.le_total 0 x with h | h
  · exact ⟨Int.mul_nonneg h h, Int.mul_le_mul h2 h2 h (Int.le_trans h h2)⟩
  · have e : x * x = (-x) * (-x) := (Int.neg_mul_neg x x).symm
    have h' : 0 ≤ -x := by omega
    have h2' : -x ≤ N := by omega
    rw [e]
    exact ⟨Int.mul_nonneg h' h', Int.mul_le_mul h2' h2' h' (Int.le_trans h' h2')⟩
theorem sqZ_bound {M : Int} (A B : List Int) (ha : Fits M A) (hb : Fits M B) : 0 ≤ sqZ A B ∧ sqZ A B ≤ A.length * (2 * M * (2 * M)) := by
  induction A generalizing B with
  | nil => rw [sqZ_nil]; simp
  | cons a A ih =>
    have h1 := ha a (List.mem_cons_self ..)
    have hM : 0 ≤ 2 * M * (2 * M) := Int.mul_nonneg (by omega) (by omega)
    cases B with
    | nil =>
      have : sqZ (a :: A) [] = 0 := rfl
      rw [this]
      exact ⟨Int.le_refl _, Int.mul_nonneg (by omega) hM⟩
    | cons b B =>
      have h2 := hb b (List.mem_cons_self ..)
      have := ih B (fun x hx => ha x (List.mem_cons_of_mem _ hx)) (fun x hx => hb x (List.mem_cons_of_mem _ hx))
      have hq := sq_le (x := a - b) (N := 2 * M) (by omega) (by omega)
      simp only [sqZ, List.length_cons]
      have e : ((A.length + 1 : Nat) : Int) * (2 * M * (2 * M)) = A.length * (2 * M * (2 * M)) + 2 * M * (2 * M) := by
        rw [Int.natCast_add, Int.add_mul]; simp
      rw [e]
      omega
theorem mul_le {x y N : Int} (h1 : -N ≤ x) (h2 : x ≤ N) (h3 : -N ≤ y) (h4 : y ≤ N) : -(N * N) ≤ x * y ∧ x * y ≤ N * N := by
  have a := sq_le h1 h2
  have b := sq_le h3 h4
  have c : 0 ≤ (x + y) * (x + y) := by
    rcases Int.le_total 0 (x + y) with h | h
    · exact Int.mul_nonneg h h
    · rw [← Int.neg_mul_neg]; exact Int.mul_nonneg (by omega) (by omega)
  have d : 0 ≤ (x - y) * (x - y) := by
    rcases Int.le_total 0 (x - y) with h | h
    · exact Int.mul_nonneg h h
    · rw [← Int.neg_mul_neg]; exact Int.mul_nonneg (by omega) (by omega)
  rw [Int.add_mul, Int.mul_add, Int.mul_add, Int.mul_comm y x] at c
  rw [Int.sub_mul, Int.mul_sub, Int.mul_sub, Int.mul_comm y x] at d
  omega
theorem prZ_bound {M : Int} (A B : List Int) (hM : 0 ≤ M) (ha : Fits M A) (hb : Fits M B) : -(A.length * (M * M)) ≤ prZ A B ∧ prZ A B ≤ A.length * (M * M) := by
  have h0 : 0 ≤ M * M := Int.mul_nonneg hM hM
  induction A generalizing B with
  | nil => rw [prZ_nil]; simp
  | cons a A ih =>
    have h1 := ha a (List.mem_cons_self ..)
    have e : ((A.length + 1 : Nat) : Int) * (M * M) = A.length * (M * M) + M * M := by
      rw [Int.natCast_add, Int.add_mul]; simp
    cases B with
    | nil =>
      have : prZ (a :: A) [] = 0 := rfl
      rw [this]
      have : 0 ≤ (((a :: A).length : Nat) : Int) * (M * M) := Int.mul_nonneg (by omega) h0
      omega
    | cons b B =>
      have h2 := hb b (List.mem_cons_self ..)
      have := ih B (fun x hx => ha x (List.mem_cons_of_mem _ hx)) (fun x hx => hb x (List.mem_cons_of_mem _ hx))
      have hq := mul_le h1.1 h1.2 h2.1 h2.2
      simp only [prZ, List.length_cons]
      rw [e]
      omega
end Go.Proofs.YteaacodloabdcaaGreatDoor

namespace Go.Proofs.YteaacodloabdcaaGreatDoor
open Go.RowKit Go.Maps

/-- Numbers of 32 bits that a slice reads. -/
structure VecAt (w : World) (a : Option Addr) (n c : Nat) (A : List Int) : Prop where
  len : A.length = n
  cap : n ≤ c
  fit : ∀ x ∈ A, -2147483648 ≤ x ∧ x ≤ 2147483647
  at_ : n = 0 ∨ ∃ b o, a = some ⟨b, o, none⟩ ∧ b < w.heap.size ∧ ∀ j, j < n → w.cell? ⟨b, o + j, none⟩ = some (.int .i32 (A.getD j 0))
theorem VecAt.keep {S : Nat → Prop} {w w' : World} {a : Option Addr} {n c : Nat} {A : List Int} (h : VecAt w a n c A) (hk : Keeps S w w') (hs : ∀ q : Addr, a = some q → ¬ S q.block) : VecAt w' a n c A :=
  { h with
    at_ := by
      rcases h.at_ with h0 | ⟨b, o, e, hb, hc⟩
      · exact Or.inl h0
      · exact Or.inr ⟨b, o, e, Nat.lt_of_lt_of_le hb hk.size, fun j hj => (hk.cell (p := ⟨b, o + j, none⟩) hb (hs ⟨b, o, none⟩ e)).trans (hc j hj)⟩ }
theorem VecAt.below {w w' : World} {L : Nat} {a : Option Addr} {n c : Nat} {A : List Int} (h : VecAt w a n c A) (hb : Below L w w') (hl : ∀ q : Addr, a = some q → q.block < L) : VecAt w' a n c A :=
  { h with
    at_ := by
      rcases h.at_ with h0 | ⟨b, o, e, h1, hc⟩
      · exact Or.inl h0
      · exact Or.inr ⟨b, o, e, Nat.lt_of_lt_of_le h1 hb.size, fun j hj => (hb.cell (p := ⟨b, o + j, none⟩) (hl ⟨b, o, none⟩ e)).trans (hc j hj)⟩ }
theorem VecAt.all {w w' : World} {a : Option Addr} {n c : Nat} {A : List Int} (h : VecAt w a n c A) (hb : Below w.heap.size w w') : VecAt w' a n c A :=
  { h with
    at_ := by
      rcases h.at_ with h0 | ⟨b, o, e, h1, hc⟩
      · exact Or.inl h0
      · exact Or.inr ⟨b, o, e, Nat.lt_of_lt_of_le h1 hb.size, fun j hj => (hb.cell (p := ⟨b, o + j, none⟩) h1).trans (hc j hj)⟩ }
theorem VecAt.head {w : World} {a : Option Addr} {n c : Nat} {A : List Int} (h : VecAt w a n c A) (k : Nat) (hk : k ≤ n) : VecAt w a k c (A.take k) := {
  len := by rw [List.length_take, h.len]; omega
  cap := by have := h.cap; omega
  fit := fun x hx => h.fit x (List.mem_of_mem_take hx)
  at_ := by
    rcases h.at_ with h0 | ⟨b, o, e, h1, hc⟩
    · exact Or.inl (by omega)
    · refine Or.inr ⟨b, o, e, h1, fun j hj => ?_⟩
      rw [hc j (by omega)]
      simp [List.getD, hj] }
theorem VecAt.cell {w : World} {a : Option Addr} {n c : Nat} {A : List Int} (h : VecAt w a n c A) (j : Nat) (hj : j < n) : ∃ b o, a = some ⟨b, o, none⟩ ∧ b < w.heap.size ∧ w.cell? ⟨b, o + j, none⟩ = some (.int .i32 (A.getD j 0)) ∧ -2147483648 ≤ A.getD j 0 ∧ A.getD j 0 ≤ 2147483647 := by
  rcases h.at_ with h0 | ⟨b, o, e, h1, hc⟩
  · omega
  · have hl := h.len
    have hm : A.getD j 0 ∈ A := by
      rw [List.getD_eq_getElem?_getD, List.getElem?_eq_getElem (by omega)]; exact List.getElem_mem _
    exact ⟨b, o, e, h1, hc j hj, h.fit _ hm⟩
theorem wrap_step (s x : Int) : wrap64 (wrap64 s + wrap64 x) = wrap64 (s + x) := by
  unfold wrap64; omega
theorem wrap_minus (s x : Int) : wrap64 (wrap64 s - wrap64 x) = wrap64 (s - x) := by
  unfold wrap64; omega
theorem wrap_neg (s : Int) : wrap64 (-(wrap64 s)) = wrap64 (-s) := by
  unfold wrap64; omega
theorem wrap_zero : wrap64 0 = 0 := by unfold wrap64; omega
set_option maxRecDepth 100000 in
set_option maxHeartbeats 1000000 in
theorem squares_at {w : World} {a b : Option Addr} {n c d : Nat} {A B : List Int} (ha : VecAt w a n c A) (hb : VecAt w b n d B) (hn : n ≤ 1000000000) :
    Calls Tryz.prog 42 #[.slice a n c, .slice b n d] w fun e w' => e = .returned (.int .i64 (wrap64 (sqZ A B))) ∧ w' = w := by
  have HA : Hid (VecAt w a n c A) := ha
  have HB : Hid (VecAt w b n d B) := hb
  clear ha hb
  go_enter Tryz.func42, Tryz.ntmps42
  go_wp2_with fail
  go_loopw [5, 11] (fun s5 s11 wr => ∃ j : Nat, j ≤ n ∧ s11 = .int .i64 j ∧ s5 = .int .i64 (wrap64 (sqZ (A.take j) (B.take j))) ∧ Hid (wr = w)) (fun _ s11 _ => n - (RowKit.intOf s11).toNat)
  case atStart => exact ⟨0, Nat.zero_le _, rfl, by simp [sqZ, wrap_zero], rfl⟩
  case round =>
    obtain ⟨j, hj, rfl, rfl, hwr⟩ := hrel
    have hw := hwr.out
    subst hw
    clear hwr
    by_cases hlt : j < n
    · obtain ⟨g1, o1, rfl, _, c1, x1, x2⟩ := HA.out.cell j hlt
      obtain ⟨g2, o2, rfl, _, c2, y1, y2⟩ := HB.out.cell j hlt
      have HS : Hid (sqZ (A.take (j + 1)) (B.take (j + 1)) = sqZ (A.take j) (B.take j) + (A.getD j 0 - B.getD j 0) * (A.getD j 0 - B.getD j 0)) := sqZ_step (by rw [HA.out.len]; exact hlt) (by rw [HB.out.len]; exact hlt)
      generalize A.getD j 0 = x at *
      generalize B.getD j 0 = y at *
      generalize sqZ (A.take j) (B.take j) = s at *
      go_wp2_with fail
      exact ⟨⟨j + 1, hlt, rfl, by rw [HS.out, wrap_step], trivial⟩, by simp [RowKit.intOf]; omega⟩
    · obtain rfl : j = n := by omega
      have HE : Hid (sqZ (A.take j) (B.take j) = sqZ A B) := by
        show _ = _
        rw [List.take_of_length_le (by rw [HA.out.len]; exact Nat.le_refl _), List.take_of_length_le (by rw [HB.out.len]; exact Nat.le_refl _)]
      rw [HE.out]
      go_wp2_with fail
      go_ret
      exact ⟨rfl, rfl⟩
set_option maxRecDepth 100000 in
set_option maxHeartbeats 1000000 in
theorem products_at {w : World} {a b : Option Addr} {n c d : Nat} {A B : List Int} (ha : VecAt w a n c A) (hb : VecAt w b n d B) (hn : n ≤ 1000000000) :
    Calls Tryz.prog 43 #[.slice a n c, .slice b n d] w fun e w' => e = .returned (.int .i64 (wrap64 (prZ A B))) ∧ w' = w := by
  have HA : Hid (VecAt w a n c A) := ha
  have HB : Hid (VecAt w b n d B) := hb
  clear ha hb
  go_enter Tryz.func43, Tryz.ntmps43
  go_wp2_with fail
  go_loopw [5, 10] (fun s5 s11 wr => ∃ j : Nat, j ≤ n ∧ s11 = .int .i64 j ∧ s5 = .int .i64 (wrap64 (prZ (A.take j) (B.take j))) ∧ Hid (wr = w)) (fun _ s11 _ => n - (RowKit.intOf s11).toNat)
  case atStart => exact ⟨0, Nat.zero_le _, rfl, by simp [prZ, wrap_zero], rfl⟩
  case round =>
    obtain ⟨j, hj, rfl, rfl, hwr⟩ := hrel
    have hw := hwr.out
    subst hw
    clear hwr
    by_cases hlt : j < n
    · obtain ⟨g1, o1, rfl, _, c1, x1, x2⟩ := HA.out.cell j hlt
      obtain ⟨g2, o2, rfl, _, c2, y1, y2⟩ := HB.out.cell j hlt
      have HS : Hid (prZ (A.take (j + 1)) (B.take (j + 1)) = prZ (A.take j) (B.take j) + A.getD j 0 * B.getD j 0) := prZ_step (by rw [HA.out.len]; exact hlt) (by rw [HB.out.len]; exact hlt)
      generalize A.getD j 0 = x at *
      generalize B.getD j 0 = y at *
      generalize prZ (A.take j) (B.take j) = s at *
      go_wp2_with fail
      exact ⟨⟨j + 1, hlt, rfl, by rw [HS.out, wrap_step], trivial⟩, by simp [RowKit.intOf]; omega⟩
    · obtain rfl : j = n := by omega
      have HE : Hid (prZ (A.take j) (B.take j) = prZ A B) := by
        show _ = _
        rw [List.take_of_length_le (by rw [HA.out.len]; exact Nat.le_refl _), List.take_of_length_le (by rw [HB.out.len]; exact Nat.le_refl _)]
      rw [HE.out]
      go_wp2_with fail
      go_ret
      exact ⟨rfl, rfl⟩
end Go.Proofs.YteaacodloabdcaaGreatDoor
