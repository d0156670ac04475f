import Derived.Test.YteaacodloabdcaaGreatDoorTextA
import Derived.Test.YteaacodloabdcaaGreatDoorUnlikeA
import Derived.Test.YteaacodloabdcaaGreatDoorDevI
namespace Go.Proofs.YteaacodloabdcaaGreatDoor
open Go.RowKit

/-- One step of the sum, eight of a byte, all. -/
def crcBit (s : Nat) : Nat := if s &&& 1 = 1 then s / 2 ^^^ 14514072000185962306 else s / 2
def crcBits : Nat → Nat → Nat
  | 0, s => s
  | k + 1, s => crcBit (crcBits k s)
def crcByte (s : Nat) (x : UInt8) : Nat := crcBits 8 (s ^^^ x.toNat)
def crcAll (b : List UInt8) : Nat := b.foldl crcByte 18446744073709551615
theorem crcBit_lt {s : Nat} (h : s < 18446744073709551616) : crcBit s < 18446744073709551616 := by
  unfold crcBit
  split
  · exact Nat.xor_lt_two_pow (n := 64) (by omega) (by decide)
  · omega
theorem crcBits_lt : ∀ (k : Nat) {s : Nat}, s < 18446744073709551616 → crcBits k s < 18446744073709551616
  | 0, _, h => h
  | k + 1, _, h => crcBit_lt (crcBits_lt k h)
theorem crcXor_lt {s : Nat} (x : UInt8) (h : s < 18446744073709551616) : s ^^^ x.toNat < 18446744073709551616 := Nat.xor_lt_two_pow (n := 64) (by omega) (by have := x.toNat_lt; omega)
theorem crcFold_lt : ∀ (b : List UInt8) {s : Nat}, s < 18446744073709551616 → b.foldl crcByte s < 18446744073709551616
  | [], _, h => h
  | x :: r, _, h => crcFold_lt r (crcBits_lt 8 (crcXor_lt x h))
theorem crcAll_lt (b : List UInt8) : crcAll b < 18446744073709551616 := crcFold_lt b (by decide)
/-- A slot's sum, as a number of 64 bits with a sign. -/
def sumOf (b : List UInt8) : Int := wrap64 (crcAll b)
theorem sumOf_fit (b : List UInt8) : -9223372036854775808 ≤ sumOf b ∧ sumOf b ≤ 9223372036854775807 := by
  unfold sumOf wrap64
  omega
def bodyOf (turn : Int) (ns : List Int) : List UInt8 := encInt turn ++ (encInt ns.length ++ ns.flatMap encInt)
def fullOf (turn : Int) (ns : List Int) : List UInt8 := bodyOf turn ns ++ encInt (sumOf (bodyOf turn ns))
/-- A slot's sector. -/
def secOf (turn : Int) (ns : List Int) : List UInt8 := fullOf turn ns ++ List.replicate (64 - (fullOf turn ns).length) 0
def turns : Int := 1099511627776
structure Fine (t : Int) (ns : List Int) : Prop where
  t0 : 0 ≤ t
  t1 : t < turns
  len : ns.length ≤ 4
  fit : AllFit ns
theorem encInt_le (n : Int) (h0 : -9223372036854775808 ≤ n) (h1 : n ≤ 9223372036854775807) : (encInt n).length ≤ 9 := by
  rw [encInt_length]; have := wid_le8 n h0 h1; omega
theorem flat_le : ∀ ns : List Int, AllFit ns → (ns.flatMap encInt).length ≤ 9 * ns.length
  | [], _ => by simp
  | n :: r, h => by
    have hn := h n (by simp)
    have h1 := encInt_le n hn.1 hn.2
    have h2 := flat_le r (fun x hx => h x (by simp [hx]))
    rw [List.flatMap_cons, List.length_append, List.length_cons]
    omega
theorem full_le {t : Int} {ns : List Int} (h : Fine t ns) : (fullOf t ns).length ≤ 54 := by
  have ht := h.t1
  have h0 := h.t0
  unfold turns at ht
  have e1 : (encInt t).length ≤ 7 := by
    rw [encInt_length]
    have : wid t ≤ 6 := wid_of_fits 6 t (by decide) (by decide) ⟨by simp <;> omega, by simp <;> omega⟩
    omega
  have e2 : (encInt ns.length).length ≤ 2 := by
    rw [encInt_length]
    have := h.len
    have : wid (ns.length : Int) ≤ 1 := wid_of_fits 1 _ (by decide) (by decide) ⟨by simp <;> omega, by simp <;> omega⟩
    omega
  have e3 := flat_le ns h.fit
  have e4 := encInt_le (sumOf (bodyOf t ns)) (sumOf_fit _).1 (sumOf_fit _).2
  have := h.len
  unfold fullOf
  rw [List.length_append]
  have e5 : (bodyOf t ns).length ≤ 45 := by unfold bodyOf; rw [List.length_append, List.length_append]; omega
  omega
theorem secOf_len {t : Int} {ns : List Int} (h : Fine t ns) : (secOf t ns).length = 64 := by
  unfold secOf
  have := full_le h
  rw [List.length_append, List.length_replicate]; omega

/-- Some numbers, one behind the other. -/
def rdInts : Nat → List UInt8 → Int → List Int × Int
  | 0, _, e => ([], e)
  | k + 1, s, e => let r := rdInt s e; let q := rdInts k r.2.1 r.2.2; (r.1 :: q.1, q.2)
/-- What a sector would say if its sum were right. -/
def parseOf (s : List UInt8) : Option (Int × List Int) :=
  let t := rdInt s 0
  let c := rdInt t.2.1 t.2.2
  if t.1 < 0 ∨ turns ≤ t.1 ∨ c.1 < 0 ∨ 4 < c.1 then none
  else let q := rdInts c.1.toNat c.2.1 c.2.2
    if q.2 = 0 then some (t.1, q.1) else none
/-- What stands in a slot. -/
def loadOf (s : List UInt8) : Option (Int × List Int) := match parseOf s with
  | some c => if s = secOf c.1 c.2 then some c else none
  | none => none
theorem rdInt_fit (s : List UInt8) (e : Int) : -9223372036854775808 ≤ (rdInt s e).1 ∧ (rdInt s e).1 ≤ 9223372036854775807 := by
  unfold rdInt
  split
  · cases s with
    | nil => simp [cutS]
    | cons b r =>
      simp only [cutS]
      split
      · rename_i h; split at h
        · cases h
        · split at h
          · simp only [Option.some.injEq, Prod.mk.injEq] at h
            rw [← h.1]; exact joinB_bound _
          · cases h
      · simp
  · simp
theorem rdInts_len : ∀ (k : Nat) (s : List UInt8) (e : Int), (rdInts k s e).1.length = k
  | 0, _, _ => rfl
  | k + 1, s, e => by simp only [rdInts, List.length_cons]; rw [rdInts_len k]
theorem rdInts_fit : ∀ (k : Nat) (s : List UInt8) (e : Int), AllFit (rdInts k s e).1
  | 0, _, _ => fun _ h => by simp [rdInts] at h
  | k + 1, s, e => fun x hx => by
    simp only [rdInts, List.mem_cons] at hx
    rcases hx with rfl | hx
    · exact rdInt_fit s e
    · exact rdInts_fit k _ _ x hx
theorem parseOf_fine {s : List UInt8} {t : Int} {ns : List Int} (h : parseOf s = some (t, ns)) : Fine t ns := by
  unfold parseOf at h
  simp only at h
  split at h
  · cases h
  · rename_i hb
    split at h
    · simp only [Option.some.injEq, Prod.mk.injEq] at h
      obtain ⟨rfl, rfl⟩ := h
      refine ⟨by omega, by omega, ?_, rdInts_fit _ _ _⟩
      rw [rdInts_len]; omega
    · cases h
theorem loadOf_some {s : List UInt8} {t : Int} {ns : List Int} (h : loadOf s = some (t, ns)) : Fine t ns ∧ s = secOf t ns := by
  unfold loadOf at h
  cases hp : parseOf s with
  | none => rw [hp] at h; cases h
  | some c =>
    rw [hp] at h
    simp only at h
    split at h
    · rename_i he
      cases h
      exact ⟨parseOf_fine hp, he⟩
    · cases h
theorem rdInts_enc : ∀ (ns : List Int) (r : List UInt8), AllFit ns → rdInts ns.length (ns.flatMap encInt ++ r) 0 = (ns, 0)
  | [], _, _ => rfl
  | n :: l, r, h => by
    have hn := h n (by simp)
    simp only [List.length_cons, rdInts, List.flatMap_cons, List.append_assoc]
    rw [rdInt_enc n _ hn.1 hn.2, rdInts_enc l r (fun x hx => h x (by simp [hx]))]
theorem parseOf_enc {t : Int} {ns : List Int} (h : Fine t ns) (r : List UInt8) : parseOf (bodyOf t ns ++ r) = some (t, ns) := by
  have h0 := h.t0
  have h1 := h.t1
  have hl := h.len
  have ht : turns ≤ 9223372036854775807 := by unfold turns; omega
  unfold parseOf bodyOf
  simp only [List.append_assoc]
  rw [rdInt_enc t _ (by omega) (by omega)]
  simp only
  rw [rdInt_enc (ns.length : Int) _ (by omega) (by omega)]
  simp only
  rw [if_neg (by omega), Int.toNat_natCast, rdInts_enc ns r h.fit]
  simp
theorem loadOf_sec {t : Int} {ns : List Int} (h : Fine t ns) : loadOf (secOf t ns) = some (t, ns) := by
  have hp : parseOf (secOf t ns) = some (t, ns) := by
    unfold secOf fullOf
    rw [List.append_assoc]
    exact parseOf_enc h _
  unfold loadOf
  rw [hp]
  simp
theorem loadOf_zero : loadOf zsec = none := by decide +kernel
theorem secOf_inj {t u : Int} {ns ms : List Int} (h : Fine t ns) (k : Fine u ms) (e : secOf t ns = secOf u ms) : t = u ∧ ns = ms := by
  have := loadOf_sec h
  rw [e, loadOf_sec k] at this
  simp only [Option.some.injEq, Prod.mk.injEq] at this
  exact ⟨this.1.symm, this.2.symm⟩
end Go.Proofs.YteaacodloabdcaaGreatDoor

namespace Go.Proofs.YteaacodloabdcaaGreatDoor
open Go.RowKit

def newerT (a b : Int) : Bool := decide (a ≠ b) && decide ((a - b + turns) % turns < 549755813888)
def afterT (t : Int) : Int := (t + 1) % turns
/-- Which slot counts, and what it says. -/
def newestOf (s0 s1 : List UInt8) : Nat × Option (Int × List Int) := match loadOf s1 with
  | none => (0, loadOf s0)
  | some g => match loadOf s0 with
    | none => (1, some g)
    | some f => if newerT g.1 f.1 = true then (1, some g) else (0, some f)
def turnOf (c : Option (Int × List Int)) : Int := match c with
  | none => 0
  | some x => x.1
theorem afterT_fine (t : Int) : 0 ≤ afterT t ∧ afterT t < turns := by
  unfold afterT turns; omega
theorem newer_after {t : Int} (h0 : 0 ≤ t) (h1 : t < turns) : newerT (afterT t) t = true := by
  unfold newerT
  rw [Bool.and_eq_true, decide_eq_true_eq, decide_eq_true_eq]
  unfold afterT turns at *
  have := h0
  have := h1
  omega
theorem not_newer_after {t : Int} (h0 : 0 ≤ t) (h1 : t < turns) : ¬ newerT t (afterT t) = true := by
  unfold newerT
  rw [Bool.and_eq_true, decide_eq_true_eq, decide_eq_true_eq]
  unfold afterT turns at *
  have := h0
  have := h1
  omega
theorem turnOf_bound (s0 s1 : List UInt8) : 0 ≤ turnOf (newestOf s0 s1).2 ∧ turnOf (newestOf s0 s1).2 < turns := by
  have hb : ∀ s, 0 ≤ turnOf (loadOf s) ∧ turnOf (loadOf s) < turns := fun s => by
    cases h : loadOf s with
    | none => exact ⟨Int.le_refl 0, by unfold turns turnOf; decide⟩
    | some c =>
      obtain ⟨t, ns⟩ := c
      have := (loadOf_some h).1
      exact ⟨this.t0, this.t1⟩
  unfold newestOf
  cases h1 : loadOf s1 with
  | none => exact hb s0
  | some g =>
    have hg := hb s1
    rw [h1] at hg
    cases h0 : loadOf s0 with
    | none => exact hg
    | some f =>
      have hf := hb s0
      rw [h0] at hf
      simp only
      split
      · exact hg
      · exact hf
theorem newestOf_at (s0 s1 : List UInt8) : (newestOf s0 s1).1 = 0 ∨ (newestOf s0 s1).1 = 1 := by
  unfold newestOf
  cases loadOf s1 with
  | none => exact Or.inl rfl
  | some g =>
    cases loadOf s0 with
    | none => exact Or.inr rfl
    | some f =>
      simp only
      split
      · exact Or.inr rfl
      · exact Or.inl rfl
/-- The sectors behind a save. -/
def saved (s0 s1 : List UInt8) (ns : List Int) : List UInt8 × List UInt8 :=
  if (newestOf s0 s1).1 = 0 then (s0, secOf (afterT (turnOf (newestOf s0 s1).2)) ns) else (secOf (afterT (turnOf (newestOf s0 s1).2)) ns, s1)
theorem saved_newest (s0 s1 : List UInt8) (ns : List Int) (hl : ns.length ≤ 4) (hf : AllFit ns) :
    newestOf (saved s0 s1 ns).1 (saved s0 s1 ns).2 = (1 - (newestOf s0 s1).1, some (afterT (turnOf (newestOf s0 s1).2), ns)) := by
  have hb := turnOf_bound s0 s1
  have ha := afterT_fine (turnOf (newestOf s0 s1).2)
  have hfine : Fine (afterT (turnOf (newestOf s0 s1).2)) ns := ⟨ha.1, ha.2, hl, hf⟩
  have hld := loadOf_sec hfine
  have hn1 := newer_after hb.1 hb.2
  have hn2 := not_newer_after hb.1 hb.2
  unfold saved
  cases h1 : loadOf s1 with
  | none =>
    have e : newestOf s0 s1 = (0, loadOf s0) := by unfold newestOf; rw [h1]
    rw [e] at hld hn1 ⊢
    simp only [if_true]
    unfold newestOf
    rw [hld]
    cases h0 : loadOf s0 with
    | none => rfl
    | some f =>
      rw [h0] at hn1
      simp only [turnOf] at hn1 ⊢
      exact if_pos hn1
  | some g =>
    cases h0 : loadOf s0 with
    | none =>
      have e : newestOf s0 s1 = (1, some g) := by unfold newestOf; rw [h1, h0]
      rw [e] at hld hn2 ⊢
      simp only [if_neg (show ¬ (1 : Nat) = 0 by decide)]
      unfold newestOf
      rw [hld, h1]
      simp only [turnOf] at hn2 ⊢
      exact if_neg hn2
    | some f =>
      by_cases hc : newerT g.1 f.1 = true
      · have e : newestOf s0 s1 = (1, some g) := by unfold newestOf; rw [h1, h0]; simp only; rw [if_pos hc]
        rw [e] at hld hn2 ⊢
        simp only [if_neg (show ¬ (1 : Nat) = 0 by decide)]
        unfold newestOf
        rw [hld, h1]
        simp only [turnOf] at hn2 ⊢
        exact if_neg hn2
      · have e : newestOf s0 s1 = (0, some f) := by unfold newestOf; rw [h1, h0]; simp only; rw [if_neg hc]
        rw [e] at hld hn1 ⊢
        simp only [if_true]
        unfold newestOf
        rw [hld, h0]
        simp only [turnOf] at hn1 ⊢
        exact if_pos hn1
theorem newest_zero : newestOf zsec zsec = (0, none) := by unfold newestOf; rw [loadOf_zero]
theorem newest_fine {s0 s1 : List UInt8} {t : Int} {ns : List Int} (h : (newestOf s0 s1).2 = some (t, ns)) : Fine t ns := by
  unfold newestOf at h
  cases h1 : loadOf s1 with
  | none => rw [h1] at h; exact (loadOf_some h).1
  | some g =>
    rw [h1] at h
    cases h0 : loadOf s0 with
    | none => rw [h0] at h; simp only [Option.some.injEq] at h; subst h; exact (loadOf_some h1).1
    | some f =>
      rw [h0] at h
      simp only at h
      split at h
      · simp only [Option.some.injEq] at h; subst h; exact (loadOf_some h1).1
      · simp only [Option.some.injEq] at h; subst h; exact (loadOf_some h0).1
end Go.Proofs.YteaacodloabdcaaGreatDoor
