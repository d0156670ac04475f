import Derived.Test.YtlmdeafmlommeaaGreatDoorSlA
namespace Go.Proofs.YtlmdeafmlommeaaGreatDoor
open Go.RowKit

def newerT (a b : Int) : Bool := decide (a ≠ b) && decide ((a - b + turns) % turns < 549755813888)
def afterT (t : Int) : Int := (t + 1) % turns
/-- Which slot counts, and what it says. -/
def newestOf (s0 s1 : List UInt8) : Nat × Option (Int × List Int) := match loadOf s1 with
  | none => (0, loadOf s0)
  | some g => match loadOf s0 with
    | none => (1, some g)
    | some f => if newerT g.1 f.1 = true then (1, some g) else (0, some f)
def turnOf (c : Option (Int × List Int)) : Int := match c with
  | none => 0
  | some x => x.1
theorem afterT_fine (t : Int) : 0 ≤ afterT t ∧ afterT t < turns := by
  unfold afterT turns; omega
theorem newer_after {t : Int} (h0 : 0 ≤ t) (h1 : t < turns) : newerT (afterT t) t = true := by
  unfold newerT
  rw [Bool.and_eq_true, decide_eq_true_eq, decide_eq_true_eq]
  unfold afterT turns at *
  have := h0
  have := h1
  omega
theorem not_newer_after {t : Int} (h0 : 0 ≤ t) (h1 : t < turns) : ¬ newerT t (afterT t) = true := by
  unfold newerT
  rw [Bool.and_eq_true, decide_eq_true_eq, decide_eq_true_eq]
  unfold afterT turns at *
  have := h0
  have := h1
  omega
theorem turnOf_bound (s0 s1 : List UInt8) : 0 ≤ turnOf (newestOf s0 s1).2 ∧ turnOf (newestOf s0 s1).2 < turns := by
  have hb : ∀ s, 0 ≤ turnOf (loadOf s) ∧ turnOf (loadOf s) < turns := fun s => by
    cases h : loadOf s with
    | none => exact ⟨Int.le_refl 0, by unfold turns turnOf; decide⟩
    | some c =>
      obtain ⟨t, ns⟩ := c
      have := (loadOf_some h).1
      exact ⟨this.t0, this.t1⟩
  unfold newestOf
  cases h1 : loadOf s1 with
  | none => exact hb s0
  | some g =>
    have hg := hb s1
    rw [h1] at hg
    cases h0 : loadOf s0 with
    | none => exact hg
    | some f =>
      have hf := hb s0
      rw [h0] at hf
      simp only
      split
      · exact hg
      · exact hf
theorem newestOf_at (s0 s1 : List UInt8) : (newestOf s0 s1).1 = 0 ∨ (newestOf s0 s1).1 = 1 := by
  unfold newestOf
  cases loadOf s1 with
  | none => exact Or.inl rfl
  | some g =>
    cases loadOf s0 with
    | none => exact Or.inr rfl
    | some f =>
      simp only
      split
      · exact Or.inr rfl
      · exact Or.inl rfl
/-- The sectors behind a save. -/
def saved (s0 s1 : List UInt8) (ns : List Int) : List UInt8 × List UInt8 :=
  if (newestOf s0 s1).1 = 0 then (s0, secOf (afterT (turnOf (newestOf s0 s1).2)) ns) else (secOf (afterT (turnOf (newestOf s0 s1).2)) ns, s1)
theorem saved_newest (s0 s1 : List UInt8) (ns : List Int) (hl : ns.length ≤ 4) (hf : AllFit ns) :
    newestOf (saved s0 s1 ns).1 (saved s0 s1 ns).2 = (1 - (newestOf s0 s1).1, some (afterT (turnOf (newestOf s0 s1).2), ns)) := by
  have hb := turnOf_bound s0 s1
  have ha := afterT_fine (turnOf (newestOf s0 s1).2)
  have hfine : Fine (afterT (turnOf (newestOf s0 s1).2)) ns := ⟨ha.1, ha.2, hl, hf⟩
  have hld := loadOf_sec hfine
  have hn1 := newer_after hb.1 hb.2
  have hn2 := not_newer_after hb.1 hb.2
  unfold saved
  cases h1 : loadOf s1 with
  | none =>
    have e : newestOf s0 s1 = (0, loadOf s0) := by unfold newestOf; rw [h1]
    rw [e] at hld hn1 ⊢
    simp only [if_true]
    unfold newestOf
    rw [hld]
    cases h0 : loadOf s0 with
    | none => rfl
    | some f =>
      rw [h0] at hn1
      simp only [turnOf] at hn1 ⊢
      exact if_pos hn1
  | some g =>
    cases h0 : loadOf s0 with
    | none =>
      have e : newestOf s0 s1 = (1, some g) := by unfold newestOf; rw [h1, h0]
      rw [e] at hld hn2 ⊢
      simp only [if_neg (show ¬ (1 : Nat) = 0 by decide)]
      unfold newestOf
      rw [hld, h1]
      simp only [turnOf] at hn2 ⊢
      exact if_neg hn2
    | some f =>
      by_cases hc : newerT g.1 f.1 = true
      · have e : newestOf s0 s1 = (1, some g) := by unfold newestOf; rw [h1, h0]; simp only; rw [if_pos hc]
        rw [e] at hld hn2 ⊢
        simp only [if_neg (show ¬ (1 : Nat) = 0 by decide)]
        unfold newestOf
        rw [hld, h1]
        simp only [turnOf] at hn2 ⊢
        exact if_neg hn2
      · have e : newestOf s0 s1 = (0, some f) := by unfold newestOf; rw [h1, h0]; simp only; rw [if_neg hc]
        rw [e] at hld hn1 ⊢
        simp only [if_true]
        unfold newestOf
        rw [hld, h0]
        simp only [turnOf] at hn1 ⊢
        exact if_pos hn1
theorem newest_zero : newestOf zsec zsec = (0, none) := by unfold newestOf; rw [loadOf_zero]
theorem newest_fine {s0 s1 : List UInt8} {t : Int} {ns : List Int} (h : (newestOf s0 s1).2 = some (t, ns)) : Fine t ns := by
  unfold newestOf at h
  cases h1 : loadOf s1 with
  | none => rw [h1] at h; exact (loadOf_some h).1
  | some g =>
    rw [h1] at h
    cases h0 : loadOf s0 with
    | none => rw [h0] at h; simp only [Option.some.injEq] at h; subst h; exact (loadOf_some h1).1
    | some f =>
      rw [h0] at h
      simp only at h
      split at h
      · simp only [Option.some.injEq] at h; subst h; exact (loadOf_some h1).1
      · simp only [Option.some.injEq] at h; subst h; exact (loadOf_some h0).1
end Go.Proofs.YtlmdeafmlommeaaGreatDoor
