namespace Go.Proofs.YteaacodloabdcaaGreatDoor

/-- The place of the least one of f 0, .. f (j - 1), the first of alike ones; -1 of none. -/
def argT (f : Nat → Int) : Nat → Int
  | 0 => -1
  | j + 1 => if argT f j < 0 ∨ f j < f (argT f j).toNat then (j : Int) else argT f j
theorem argT_zero (f : Nat → Int) : argT f 0 = -1 := rfl
theorem argT_succ (f : Nat → Int) (j : Nat) : argT f (j + 1) = if argT f j < 0 ∨ f j < f (argT f j).toNat then (j : Int) else argT f j := rfl
theorem argT_low (f : Nat → Int) (j : Nat) : -1 ≤ argT f j ∧ argT f j < j ∧ (argT f j < 0 → j = 0) := by
  induction j with
  | zero => rw [argT_zero]; exact ⟨by omega, by omega, fun _ => rfl⟩
  | succ j ih =>
    rw [argT_succ]
    split
    · exact ⟨by omega, by omega, fun h => by omega⟩
    · rename_i h
      exact ⟨ih.1, by omega, fun h2 => by omega⟩
theorem argT_yes (f : Nat → Int) (j : Nat) (h : j = 0 ∨ f j < f (argT f j).toNat) : argT f (j + 1) = j := by
  rw [argT_succ, if_pos]
  rcases h with h | h
  · subst h; exact Or.inl (by rw [argT_zero]; omega)
  · exact Or.inr h
theorem argT_no (f : Nat → Int) (j : Nat) (h0 : 0 < j) (h : ¬ f j < f (argT f j).toNat) : argT f (j + 1) = argT f j := by
  rw [argT_succ, if_neg]
  rintro (q | q)
  · have := (argT_low f j).2.2 q; omega
  · exact h q
/-- The least one so far; 0 of none. -/
def lstT (f : Nat → Int) (j : Nat) : Int := if j = 0 then 0 else f (argT f j).toNat
theorem lst_first (f : Nat → Int) : argT f 1 = 0 ∧ lstT f 1 = f 0 := by
  have h : argT f 1 = (0 : Nat) := argT_yes f 0 (Or.inl rfl)
  refine ⟨h, ?_⟩
  unfold lstT
  rw [if_neg (by omega), h]
  rfl
theorem lst_yes (f : Nat → Int) (j : Nat) (h0 : 0 < j) (h : f j < lstT f j) : argT f (j + 1) = j ∧ lstT f (j + 1) = f j := by
  unfold lstT at h
  rw [if_neg (by omega)] at h
  have h1 := argT_yes f j (Or.inr h)
  refine ⟨h1, ?_⟩
  unfold lstT
  rw [if_neg (by omega), h1]
  rfl
theorem lst_no (f : Nat → Int) (j : Nat) (h0 : 0 < j) (h : ¬ f j < lstT f j) : argT f (j + 1) = argT f j ∧ lstT f (j + 1) = lstT f j := by
  unfold lstT at h
  rw [if_neg (by omega)] at h
  have h1 := argT_no f j h0 h
  refine ⟨h1, ?_⟩
  unfold lstT
  rw [if_neg (by omega), if_neg (by omega), h1]
theorem argT_least (f : Nat → Int) (j : Nat) : ∀ i, i < j → f (argT f j).toNat ≤ f i ∧ ((i : Int) < argT f j → f (argT f j).toNat < f i) := by
  induction j with
  | zero => intro i h; omega
  | succ j ih =>
    intro i hi
    by_cases hc : j = 0 ∨ f j < f (argT f j).toNat
    · rw [argT_yes f j hc]
      rw [show ((j : Int)).toNat = j by omega]
      rcases Nat.lt_or_ge i j with h | h
      · have h1 := ih i h
        rcases hc with hc | hc
        · omega
        · exact ⟨by omega, fun _ => by omega⟩
      · have : i = j := by omega
        subst this
        exact ⟨by omega, fun h => by omega⟩
    · rw [argT_no f j (by omega) (by omega)]
      rcases Nat.lt_or_ge i j with h | h
      · exact ih i h
      · have : i = j := by omega
        subst this
        have := argT_low f i
        exact ⟨by omega, fun h => by omega⟩
theorem argT_congr {f g : Nat → Int} {j : Nat} (h : ∀ i, i < j → f i = g i) : argT f j = argT g j := by
  induction j with
  | zero => rfl
  | succ j ih =>
    have e := ih (fun i hi => h i (by omega))
    rw [argT_succ, argT_succ, e]
    have hl := argT_low g j
    by_cases h0 : argT g j < 0
    · simp [h0]
    · rw [h j (by omega), h (argT g j).toNat (by omega)]
/-- A place with that is the one. -/
theorem argT_is {f : Nat → Int} {j k : Nat} (hk : k < j) (h1 : ∀ i, i < j → f k ≤ f i) (h2 : ∀ i, i < k → f k < f i) : argT f j = k := by
  have hl := argT_low f j
  have h3 := argT_least f j
  obtain ⟨a, ha⟩ : ∃ a : Nat, argT f j = a := ⟨(argT f j).toNat, by omega⟩
  rw [ha] at hl h3 ⊢
  rw [show ((a : Int)).toNat = a by omega] at h3
  rcases Nat.lt_trichotomy a k with h | h | h
  · have := h2 a h
    have := (h3 k hk).1
    omega
  · omega
  · have := (h3 k hk).2 (by omega)
    have := h1 a (by omega)
    omega

/-- How many of VS go to the middle k, by near; their sum at the place j. -/
def cntL (near : List Int → Int) (VS : List (List Int)) (k : Nat) : Int := VS.foldl (fun s v => if near v = k then s + 1 else s) 0
def sumL (near : List Int → Int) (VS : List (List Int)) (k j : Nat) : Int := VS.foldl (fun s v => if near v = k then s + v.getD j 0 else s) 0
theorem cntL_snoc (near : List Int → Int) (VS : List (List Int)) (v : List Int) (k : Nat) : cntL near (VS ++ [v]) k = if near v = k then cntL near VS k + 1 else cntL near VS k := by
  unfold cntL; rw [List.foldl_append]; rfl
theorem sumL_snoc (near : List Int → Int) (VS : List (List Int)) (v : List Int) (k j : Nat) : sumL near (VS ++ [v]) k j = if near v = k then sumL near VS k j + v.getD j 0 else sumL near VS k j := by
  unfold sumL; rw [List.foldl_append]; rfl
theorem snoc_ind {α : Type} {p : List α → Prop} (h0 : p []) (h1 : ∀ l x, p l → p (l ++ [x])) (l : List α) : p l := by
  have : ∀ n, ∀ l : List α, l.length = n → p l := by
    intro n
    induction n with
    | zero => intro l hl; rw [List.eq_nil_of_length_eq_zero hl]; exact h0
    | succ n ih =>
      intro l hl
      have hne : l ≠ [] := by intro e; rw [e] at hl; cases hl
      rw [← List.dropLast_concat_getLast hne]
      exact h1 _ _ (ih _ (by rw [List.length_dropLast]; omega))
  exact this l.length l rfl
theorem cntL_low (near : List Int → Int) (VS : List (List Int)) (k : Nat) : 0 ≤ cntL near VS k ∧ cntL near VS k ≤ VS.length := by
  refine snoc_ind (p := fun VS => 0 ≤ cntL near VS k ∧ cntL near VS k ≤ VS.length) ⟨Int.le_refl 0, Int.le_refl 0⟩ (fun l x ih => ?_) VS
  rw [cntL_snoc, List.length_append]
  simp only [List.length_cons, List.length_nil]
  split <;> omega
theorem getD_fit {v : List Int} {B : Int} (hB : 0 ≤ B) (h : ∀ x ∈ v, -B ≤ x ∧ x ≤ B) (j : Nat) : -B ≤ v.getD j 0 ∧ v.getD j 0 ≤ B := by
  simp only [List.getD]
  cases hj : v[j]? with
  | none => exact ⟨by simp only [Option.getD]; omega, by simp only [Option.getD]; omega⟩
  | some x => exact h x (List.mem_of_getElem? hj)
theorem sumL_fit (near : List Int → Int) (VS : List (List Int)) (B : Int) (hB : 0 ≤ B) (h : ∀ v ∈ VS, ∀ x ∈ v, -B ≤ x ∧ x ≤ B) (k j : Nat) :
    -B * cntL near VS k ≤ sumL near VS k j ∧ sumL near VS k j ≤ B * cntL near VS k := by
  revert h
  refine snoc_ind (p := fun VS => (∀ v ∈ VS, ∀ x ∈ v, -B ≤ x ∧ x ≤ B) → -B * cntL near VS k ≤ sumL near VS k j ∧ sumL near VS k j ≤ B * cntL near VS k) (fun _ => ⟨by simp [cntL, sumL], by simp [cntL, sumL]⟩) (fun l v ih h => ?_) VS
  have i1 := ih (fun u hu => h u (List.mem_append_left _ hu))
  have f1 := getD_fit hB (h v (by simp)) j
  rw [cntL_snoc, sumL_snoc]
  split
  · rw [Int.mul_add, Int.mul_add, Int.mul_one, Int.mul_one]
    omega
  · exact i1
theorem div_fit {s c B : Int} (hc : 0 < c) (h1 : -B * c ≤ s) (h2 : s ≤ B * c) : -B ≤ s / c ∧ s / c ≤ B := by
  constructor
  · exact (Int.le_ediv_iff_mul_le hc).2 h1
  · exact Int.ediv_le_of_le_mul hc h2
/-- What the text makes of a sum and a count. -/
theorem part_at {s c : Int} (hc : 0 < c) : (if s.tmod c < 0 then s.tdiv c - 1 else s.tdiv c) = s / c := by
  have h1 := Int.mul_tdiv_add_tmod s c
  have h3 := Int.emod_add_mul_ediv s c
  have h4 := Int.emod_nonneg s (by omega : c ≠ 0)
  have h5 := Int.emod_lt_of_pos s hc
  have h6 : s.tmod c < c := Int.tmod_lt_of_pos s hc
  have h7 : -c < s.tmod c := by
    have := Int.lt_tmod_of_pos s hc
    omega
  rw [Int.tdiv_eq_ediv]
  have h8 := Int.tmod_eq_emod (a := s) (b := c)
  by_cases h0 : 0 ≤ s
  · rw [if_neg]
    · simp [h0]
    · have := Int.tmod_nonneg c h0
      omega
  · by_cases hd : c ∣ s
    · have : s.tmod c = 0 := Int.tmod_eq_zero_of_dvd hd
      simp [hd, this]
    · have hs : Int.sign c = 1 := Int.sign_eq_one_of_pos hc
      simp only [h0, hd, or_self, if_false] at h8 ⊢
      rw [hs]
      have hn : ((c.natAbs : Nat) : Int) = c := by omega
      rw [if_pos (by omega)]
      omega
/-- A round. -/
def moveL (near : List Int → Int) (MS VS : List (List Int)) : List (List Int) :=
  (List.range MS.length).map fun k => if cntL near VS k = 0 then MS.getD k [] else (List.range (MS.getD k []).length).map fun j => sumL near VS k j / cntL near VS k
theorem moveL_length (near : List Int → Int) (MS VS : List (List Int)) : (moveL near MS VS).length = MS.length := by simp [moveL]
theorem moveL_getD (near : List Int → Int) (MS VS : List (List Int)) (k : Nat) (h : k < MS.length) : (moveL near MS VS).getD k [] = if cntL near VS k = 0 then MS.getD k [] else (List.range (MS.getD k []).length).map fun j => sumL near VS k j / cntL near VS k := by
  unfold moveL
  simp [List.getD, h]
/-- The first n unlike ones. -/
def firstL (n : Nat) (VS : List (List Int)) : List (List Int) := VS.foldl (fun ms v => if ms.length = n ∨ v ∈ ms then ms else ms ++ [v]) []
theorem firstL_snoc (n : Nat) (VS : List (List Int)) (v : List Int) : firstL n (VS ++ [v]) = if (firstL n VS).length = n ∨ v ∈ firstL n VS then firstL n VS else firstL n VS ++ [v] := by
  unfold firstL; rw [List.foldl_append]; rfl
theorem firstL_mem (n : Nat) (VS : List (List Int)) : ∀ v ∈ firstL n VS, v ∈ VS := by
  refine snoc_ind (p := fun VS => ∀ v ∈ firstL n VS, v ∈ VS) (fun v h => by simp [firstL] at h) (fun l x ih v h => ?_) VS
  rw [firstL_snoc] at h
  split at h
  · exact List.mem_append_left _ (ih v h)
  · rcases List.mem_append.1 h with q | q
    · exact List.mem_append_left _ (ih v q)
    · exact List.mem_append_right _ q
theorem firstL_len (n : Nat) (VS : List (List Int)) : (firstL n VS).length ≤ n ∧ (firstL n VS).length ≤ VS.length := by
  refine snoc_ind (p := fun VS => (firstL n VS).length ≤ n ∧ (firstL n VS).length ≤ VS.length) ⟨Nat.zero_le _, Nat.zero_le _⟩ (fun l x ih => ?_) VS
  rw [firstL_snoc, List.length_append]
  split
  · exact ⟨ih.1, by omega⟩
  · rename_i h
    rw [List.length_append]
    simp only [List.length_cons, List.length_nil]
    have : ¬ (firstL n l).length = n := fun e => h (Or.inl e)
    omega
theorem firstL_full (n : Nat) (VS T : List (List Int)) (h : (firstL n VS).length = n) : firstL n (VS ++ T) = firstL n VS := by
  refine snoc_ind (p := fun T => firstL n (VS ++ T) = firstL n VS) (by simp) (fun l x ih => ?_) T
  rw [← List.append_assoc, firstL_snoc, ih, if_pos (Or.inl h)]
theorem firstL_nodup (n : Nat) (VS : List (List Int)) : (firstL n VS).Nodup := by
  refine snoc_ind (p := fun VS => (firstL n VS).Nodup) List.nodup_nil (fun l x ih => ?_) VS
  rw [firstL_snoc]
  split
  · exact ih
  · rename_i h
    rw [List.nodup_append]
    exact ⟨ih, by simp, fun a ha b hb e => by simp at hb; subst hb; subst e; exact h (Or.inr ha)⟩
/-- So many rounds. -/
def roundsL (near : List (List Int) → List Int → Int) (VS : List (List Int)) : Nat → List (List Int) → List (List Int)
  | 0, MS => MS
  | r + 1, MS => moveL (near (roundsL near VS r MS)) (roundsL near VS r MS) VS
theorem roundsL_length (near : List (List Int) → List Int → Int) (VS : List (List Int)) (r : Nat) (MS : List (List Int)) : (roundsL near VS r MS).length = MS.length := by
  induction r with
  | zero => rfl
  | succ r ih => rw [roundsL, moveL_length, ih]
/-- All of one length, no number too great. -/
def FitL (d : Nat) (B : Int) (VS : List (List Int)) : Prop := ∀ v ∈ VS, v.length = d ∧ ∀ x ∈ v, -B ≤ x ∧ x ≤ B
theorem FitL.getD {d : Nat} {B : Int} {VS : List (List Int)} (h : FitL d B VS) (k : Nat) (hk : k < VS.length) : (VS.getD k []).length = d ∧ ∀ x ∈ VS.getD k [], -B ≤ x ∧ x ≤ B := by
  have : VS.getD k [] = VS[k] := by simp [List.getD, hk]
  rw [this]
  exact h _ (List.getElem_mem _)
theorem FitL.move {d : Nat} {B : Int} {MS VS : List (List Int)} (hB : 0 ≤ B) (h : FitL d B MS) (hv : FitL d B VS) (near : List Int → Int) : FitL d B (moveL near MS VS) := by
  intro v hm
  obtain ⟨k, hk, rfl⟩ := List.mem_map.1 hm
  have hk := List.mem_range.1 hk
  obtain ⟨h1, h2⟩ := h.getD k hk
  split
  · exact ⟨h1, h2⟩
  · rename_i hc
    refine ⟨by simpa using h1, fun x hx => ?_⟩
    obtain ⟨j, _, rfl⟩ := List.mem_map.1 hx
    obtain ⟨q1, q2⟩ := sumL_fit near VS B hB (fun v hv' => (hv v hv').2) k j
    have := cntL_low near VS k
    exact div_fit (by omega) q1 q2
theorem FitL.first {d : Nat} {B : Int} {VS : List (List Int)} (hv : FitL d B VS) (n : Nat) : FitL d B (firstL n VS) := fun v hm => hv v (firstL_mem n VS v hm)
theorem FitL.rounds {d : Nat} {B : Int} {MS VS : List (List Int)} (hB : 0 ≤ B) (h : FitL d B MS) (hv : FitL d B VS) (near : List (List Int) → List Int → Int) (r : Nat) : FitL d B (roundsL near VS r MS) := by
  induction r with
  | zero => exact h
  | succ r ih => exact ih.move hB hv _
end Go.Proofs.YteaacodloabdcaaGreatDoor

namespace Go.Proofs.YteaacodloabdcaaGreatDoor
/-- The code of a number at a place. -/
def codeZ (lo st n : Int) : Int := max 0 (min ((n - lo + st / 2) / st) 255)
theorem codeZ_range (lo st n : Int) : 0 ≤ codeZ lo st n ∧ codeZ lo st n ≤ 255 := by unfold codeZ; omega
theorem tdiv_pos {x s : Int} (_ : 1 ≤ s) (hx : 0 ≤ x) : x.tdiv s = x / s := Int.tdiv_eq_ediv_of_nonneg hx
theorem tdiv_neg {x s : Int} (hs : 1 ≤ s) (hx : x < 0) : x.tdiv s ≤ 0 := by
  have h : (-x).tdiv s = -(x.tdiv s) := Int.neg_tdiv x s
  have h2 : 0 ≤ (-x).tdiv s := Int.tdiv_nonneg (by omega) (by omega)
  omega
theorem codeZ_trunc {lo st n : Int} (hs : 1 ≤ st) : min (max ((n - lo + st / 2).tdiv st) 0) 255 = codeZ lo st n := by
  unfold codeZ
  generalize n - lo + st / 2 = x
  by_cases hx : 0 ≤ x
  · rw [tdiv_pos hs hx]; omega
  · have h1 := tdiv_neg hs (show x < 0 by omega)
    have h2 : x / st < 0 := Int.ediv_neg_of_neg_of_pos (by omega) (by omega)
    omega
/-- The whole part, towards below. -/
theorem down_eq {a b : Int} (hb : 1 ≤ b) : (if a.tmod b < 0 then a.tdiv b - 1 else a.tdiv b) = a / b := by
  by_cases ha : 0 ≤ a
  · rw [if_neg (by have := Int.tmod_nonneg b ha; omega), tdiv_pos hb ha]
  · have h1 : a.tdiv b = -((-a) / b) := by
      rw [← tdiv_pos hb (by omega), Int.neg_tdiv, Int.neg_neg]
    have h2 : a.tmod b = -((-a) % b) := by
      rw [← Int.tmod_eq_emod_of_nonneg (show 0 ≤ -a by omega), Int.neg_tmod, Int.neg_neg]
    have h3 := Int.emod_nonneg (-a) (show b ≠ 0 by omega)
    have h4 := Int.emod_lt_of_pos (-a) (show 0 < b by omega)
    have h5 := Int.mul_ediv_add_emod (-a) b
    have h6 := Int.emod_nonneg a (show b ≠ 0 by omega)
    have h7 := Int.emod_lt_of_pos a (show 0 < b by omega)
    have h8 := Int.mul_ediv_add_emod a b
    rw [h1, h2]
    generalize (-a) / b = q at *
    generalize (-a) % b = r at *
    generalize a / b = q' at *
    generalize a % b = r' at *
    have h9 : b * (q + q') = -(r + r') := by rw [Int.mul_add]; omega
    by_cases hr : r = 0
    · rw [if_neg (by omega)]
      have : q + q' = 0 := by
        by_cases hz : q + q' = 0
        · exact hz
        · exfalso
          rcases (show q + q' ≤ -1 ∨ 1 ≤ q + q' by omega) with hq | hq
          · have := Int.mul_le_mul_of_nonneg_left hq (show 0 ≤ b by omega); omega
          · have := Int.mul_le_mul_of_nonneg_left hq (show 0 ≤ b by omega); omega
      omega
    · rw [if_pos (by omega)]
      have : q + q' = -1 := by
        rcases (show q + q' ≤ -2 ∨ q + q' = -1 ∨ 0 ≤ q + q' by omega) with hq | hq | hq
        · have := Int.mul_le_mul_of_nonneg_left hq (show 0 ≤ b by omega); omega
        · exact hq
        · have := Int.mul_le_mul_of_nonneg_left hq (show 0 ≤ b by omega); omega
      omega
theorem codeZ_mono {lo st a b : Int} (hs : 1 ≤ st) (h : a ≤ b) : codeZ lo st a ≤ codeZ lo st b := by
  have : (a - lo + st / 2) / st ≤ (b - lo + st / 2) / st := Int.ediv_le_ediv (by omega) (by omega)
  unfold codeZ; omega
/-- A code of what is in reach: not cut off, and back by no more than half a step. -/
theorem codeZ_near {lo hi st n : Int} (hs : 1 ≤ st) (h1 : lo ≤ n) (h2 : n ≤ hi) (hr : hi - lo ≤ 255 * st) : n - (lo + st * codeZ lo st n) ≤ (st + 1) / 2 ∧ (lo + st * codeZ lo st n) - n ≤ (st + 1) / 2 := by
  have e : codeZ lo st n = (n - lo + st / 2) / st := by
    have a1 : 0 ≤ (n - lo + st / 2) / st := Int.ediv_nonneg (by omega) (by omega)
    have a2 : (n - lo + st / 2) / st < 256 := by
      rw [Int.ediv_lt_iff_lt_mul (by omega)]; omega
    unfold codeZ; omega
  rw [e]
  have h5 := Int.mul_ediv_add_emod (n - lo + st / 2) st
  have h6 := Int.emod_nonneg (n - lo + st / 2) (show st ≠ 0 by omega)
  have h7 := Int.emod_lt_of_pos (n - lo + st / 2) (show 0 < st by omega)
  generalize st * ((n - lo + st / 2) / st) = z at *
  omega
/-- A number on a step. -/
theorem codeZ_on {lo st k : Int} (hs : 1 ≤ st) (h0 : 0 ≤ k) (h1 : k ≤ 255) : codeZ lo st (lo + k * st) = k := by
  have e : (lo + k * st - lo + st / 2) / st = k := by
    have : lo + k * st - lo + st / 2 = st / 2 + st * k := by rw [Int.mul_comm]; omega
    rw [this, Int.add_mul_ediv_left _ _ (by omega), Int.ediv_eq_zero_of_lt (by omega) (by omega)]; omega
  unfold codeZ; rw [e]; omega
def clampQ (x : Int) : Int := max (-1048576) (min x 1048576)
def codesZ (L S V : List Int) : List Int := (List.range L.length).map (fun k => if k < V.length then codeZ (L.getD k 0) (S.getD k 0) (V.getD k 0) else 0)
def backsZ (L S C : List Int) : List Int := (List.range L.length).map (fun k => clampQ (L.getD k 0 + S.getD k 0 * C.getD k 0))
def boundZ (S : List Int) : Int := S.foldl (fun m s => max m ((s + 1) / 2)) 0
def fineB (L S : List Int) : Bool := decide (L.length = S.length) && S.all (fun s => decide (1 ≤ s))
theorem codesZ_length (L S V : List Int) : (codesZ L S V).length = L.length := by simp [codesZ]
theorem backsZ_length (L S V : List Int) : (backsZ L S V).length = L.length := by simp [backsZ]
theorem codesZ_getD (L S V : List Int) (k : Nat) (h : k < L.length) : (codesZ L S V).getD k 0 = if k < V.length then codeZ (L.getD k 0) (S.getD k 0) (V.getD k 0) else 0 := by
  unfold codesZ
  rw [List.getD_eq_getElem?_getD, List.getElem?_map, List.getElem?_range h]
  rfl
theorem backsZ_getD (L S C : List Int) (k : Nat) (h : k < L.length) : (backsZ L S C).getD k 0 = clampQ (L.getD k 0 + S.getD k 0 * C.getD k 0) := by
  unfold backsZ
  rw [List.getD_eq_getElem?_getD, List.getElem?_map, List.getElem?_range h]
  rfl
theorem codesZ_range (L S V : List Int) : ∀ x ∈ codesZ L S V, 0 ≤ x ∧ x ≤ 255 := by
  intro x hx
  obtain ⟨k, _, rfl⟩ := List.mem_map.1 hx
  split
  · exact codeZ_range _ _ _
  · omega
theorem backsZ_range (L S V : List Int) : ∀ x ∈ backsZ L S V, -1048576 ≤ x ∧ x ≤ 1048576 := by
  intro x hx
  obtain ⟨k, _, rfl⟩ := List.mem_map.1 hx
  unfold clampQ; omega
theorem boundZ_snoc (S : List Int) (s : Int) : boundZ (S ++ [s]) = max (boundZ S) ((s + 1) / 2) := by
  unfold boundZ; rw [List.foldl_append]; rfl
theorem boundZ_go (S : List Int) : ∀ m : Int, m ≤ S.foldl (fun m s => max m ((s + 1) / 2)) m ∧ ∀ s ∈ S, (s + 1) / 2 ≤ S.foldl (fun m s => max m ((s + 1) / 2)) m := by
  induction S with
  | nil => intro m; exact ⟨Int.le_refl _, fun s h => by cases h⟩
  | cons x S ih =>
    intro m
    obtain ⟨h1, h2⟩ := ih (max m ((x + 1) / 2))
    rw [List.foldl_cons]
    refine ⟨by omega, fun s h => ?_⟩
    rcases List.mem_cons.1 h with rfl | h
    · omega
    · exact h2 s h
theorem boundZ_le (S : List Int) : ∀ s ∈ S, (s + 1) / 2 ≤ boundZ S := (boundZ_go S 0).2
theorem boundZ_pos (S : List Int) : 0 ≤ boundZ S := (boundZ_go S 0).1
theorem boundZ_top (S : List Int) (h : ∀ s ∈ S, s ≤ 2147483647) : boundZ S ≤ 1073741824 := by
  unfold boundZ
  have : ∀ (S : List Int) (m : Int), m ≤ 1073741824 → (∀ s ∈ S, s ≤ 2147483647) → S.foldl (fun m s => max m ((s + 1) / 2)) m ≤ 1073741824 := by
    intro S
    induction S with
    | nil => intro m hm _; exact hm
    | cons x S ih =>
      intro m hm h
      exact ih _ (by have := h x (List.mem_cons_self ..); show max m ((x + 1) / 2) ≤ _; omega) (fun s hs => h s (List.mem_cons_of_mem _ hs))
  exact this S 0 (by omega) h
/-- The least, the greatest number of a place. -/
def loZ : List (List Int) → Nat → Int
  | [], _ => 0
  | v :: G, k => G.foldl (fun m u => min m (u.getD k 0)) (v.getD k 0)
def hiZ : List (List Int) → Nat → Int
  | [], _ => 0
  | v :: G, k => G.foldl (fun m u => max m (u.getD k 0)) (v.getD k 0)
theorem loZ_snoc (G : List (List Int)) (v : List Int) (k : Nat) : loZ (G ++ [v]) k = if G = [] then v.getD k 0 else min (loZ G k) (v.getD k 0) := by
  cases G with
  | nil => rfl
  | cons u G => simp [loZ, List.foldl_append]
theorem hiZ_snoc (G : List (List Int)) (v : List Int) (k : Nat) : hiZ (G ++ [v]) k = if G = [] then v.getD k 0 else max (hiZ G k) (v.getD k 0) := by
  cases G with
  | nil => rfl
  | cons u G => simp [hiZ, List.foldl_append]
theorem lo_go (k : Nat) (G : List (List Int)) : ∀ m : Int, G.foldl (fun m u => min m (u.getD k 0)) m ≤ m ∧ (∀ u ∈ G, G.foldl (fun m u => min m (u.getD k 0)) m ≤ u.getD k 0) ∧ (G.foldl (fun m u => min m (u.getD k 0)) m = m ∨ ∃ u ∈ G, G.foldl (fun m u => min m (u.getD k 0)) m = u.getD k 0) := by
  induction G with
  | nil => intro m; exact ⟨Int.le_refl _, (fun s h => nomatch h), Or.inl rfl⟩
  | cons x G ih =>
    intro m
    obtain ⟨h1, h2, h3⟩ := ih (min m (x.getD k 0))
    rw [List.foldl_cons]
    refine ⟨by omega, fun s h => ?_, ?_⟩
    · rcases List.mem_cons.1 h with rfl | h
      · omega
      · exact h2 s h
    · rcases h3 with h3 | ⟨u, hu, h3⟩
      · rcases (show min m (x.getD k 0) = m ∨ min m (x.getD k 0) = x.getD k 0 by omega) with e | e
        · exact Or.inl (h3.trans e)
        · exact Or.inr ⟨x, List.mem_cons_self .., h3.trans e⟩
      · exact Or.inr ⟨u, List.mem_cons_of_mem _ hu, h3⟩
theorem hi_go (k : Nat) (G : List (List Int)) : ∀ m : Int, m ≤ G.foldl (fun m u => max m (u.getD k 0)) m ∧ (∀ u ∈ G, u.getD k 0 ≤ G.foldl (fun m u => max m (u.getD k 0)) m) ∧ (G.foldl (fun m u => max m (u.getD k 0)) m = m ∨ ∃ u ∈ G, G.foldl (fun m u => max m (u.getD k 0)) m = u.getD k 0) := by
  induction G with
  | nil => intro m; exact ⟨Int.le_refl _, (fun s h => nomatch h), Or.inl rfl⟩
  | cons x G ih =>
    intro m
    obtain ⟨h1, h2, h3⟩ := ih (max m (x.getD k 0))
    rw [List.foldl_cons]
    refine ⟨by omega, fun s h => ?_, ?_⟩
    · rcases List.mem_cons.1 h with rfl | h
      · omega
      · exact h2 s h
    · rcases h3 with h3 | ⟨u, hu, h3⟩
      · rcases (show max m (x.getD k 0) = m ∨ max m (x.getD k 0) = x.getD k 0 by omega) with e | e
        · exact Or.inl (h3.trans e)
        · exact Or.inr ⟨x, List.mem_cons_self .., h3.trans e⟩
      · exact Or.inr ⟨u, List.mem_cons_of_mem _ hu, h3⟩
theorem loZ_le {G : List (List Int)} (k : Nat) : ∀ u ∈ G, loZ G k ≤ u.getD k 0 := by
  cases G with
  | nil => intro u h; cases h
  | cons v G =>
    intro u h
    rcases List.mem_cons.1 h with rfl | h
    · exact (lo_go k G _).1
    · exact (lo_go k G _).2.1 u h
theorem loZ_is {G : List (List Int)} (k : Nat) (hG : G ≠ []) : ∃ u ∈ G, loZ G k = u.getD k 0 := by
  cases G with
  | nil => exact absurd rfl hG
  | cons v G =>
    rcases (lo_go k G (v.getD k 0)).2.2 with e | ⟨u, hu, e⟩
    · exact ⟨v, List.mem_cons_self .., e⟩
    · exact ⟨u, List.mem_cons_of_mem _ hu, e⟩
theorem hiZ_le {G : List (List Int)} (k : Nat) : ∀ u ∈ G, u.getD k 0 ≤ hiZ G k := by
  cases G with
  | nil => intro u h; cases h
  | cons v G =>
    intro u h
    rcases List.mem_cons.1 h with rfl | h
    · exact (hi_go k G _).1
    · exact (hi_go k G _).2.1 u h
theorem hiZ_is {G : List (List Int)} (k : Nat) (hG : G ≠ []) : ∃ u ∈ G, hiZ G k = u.getD k 0 := by
  cases G with
  | nil => exact absurd rfl hG
  | cons v G =>
    rcases (hi_go k G (v.getD k 0)).2.2 with e | ⟨u, hu, e⟩
    · exact ⟨v, List.mem_cons_self .., e⟩
    · exact ⟨u, List.mem_cons_of_mem _ hu, e⟩
theorem loZ_set {G H : List (List Int)} (k : Nat) (h1 : ∀ u ∈ G, u ∈ H) (h2 : ∀ u ∈ H, u ∈ G) : loZ G k = loZ H k := by
  by_cases hG : G = []
  · have : H = [] := by
      cases H with
      | nil => rfl
      | cons v H => have := h2 v (List.mem_cons_self ..); rw [hG] at this; cases this
    rw [hG, this]
  · have hH : H ≠ [] := by
      intro e
      cases G with
      | nil => exact hG rfl
      | cons v G => have := h1 v (List.mem_cons_self ..); rw [e] at this; cases this
    obtain ⟨u, hu, e1⟩ := loZ_is k hG
    obtain ⟨t, ht, e2⟩ := loZ_is k hH
    have a := loZ_le k t (h2 t ht)
    have b := loZ_le k u (h1 u hu)
    omega
theorem hiZ_set {G H : List (List Int)} (k : Nat) (h1 : ∀ u ∈ G, u ∈ H) (h2 : ∀ u ∈ H, u ∈ G) : hiZ G k = hiZ H k := by
  by_cases hG : G = []
  · have : H = [] := by
      cases H with
      | nil => rfl
      | cons v H => have := h2 v (List.mem_cons_self ..); rw [hG] at this; cases this
    rw [hG, this]
  · have hH : H ≠ [] := by
      intro e
      cases G with
      | nil => exact hG rfl
      | cons v G => have := h1 v (List.mem_cons_self ..); rw [e] at this; cases this
    obtain ⟨u, hu, e1⟩ := hiZ_is k hG
    obtain ⟨t, ht, e2⟩ := hiZ_is k hH
    have a := hiZ_le k t (h2 t ht)
    have b := hiZ_le k u (h1 u hu)
    omega
def stepZ (lo hi : Int) : Int := max ((hi - lo + 254) / 255) 1
theorem stepZ_pos (lo hi : Int) : 1 ≤ stepZ lo hi := by unfold stepZ; omega
theorem stepZ_reach (lo hi : Int) : hi - lo ≤ 255 * stepZ lo hi := by unfold stepZ; omega
theorem stepZ_least (lo hi : Int) (h : 1 < stepZ lo hi) : 255 * (stepZ lo hi - 1) < hi - lo := by unfold stepZ at *; omega
theorem stepZ_one {lo hi : Int} (h : hi - lo ≤ 255) : stepZ lo hi = 1 := by unfold stepZ; omega
theorem stepZ_more {lo hi : Int} (h : 255 < hi - lo) : max ((hi - lo + 254) / 255) 2 = stepZ lo hi ∧ hi - lo ≤ 255 * stepZ lo hi := by unfold stepZ; omega
def lowsZ (G : List (List Int)) (d : Nat) : List Int := (List.range d).map (fun k => loZ G k)
def highsZ (G : List (List Int)) (d : Nat) : List Int := (List.range d).map (fun k => hiZ G k)
def stepsZ (G : List (List Int)) (d : Nat) : List Int := (List.range d).map (fun k => stepZ (loZ G k) (hiZ G k))
theorem range_getD (f : Nat → Int) (d k : Nat) (h : k < d) : ((List.range d).map f).getD k 0 = f k := by
  rw [List.getD_eq_getElem?_getD, List.getElem?_map, List.getElem?_range h]
  rfl
/-- What a book of a vector tells back of it. -/
theorem near_all {G : List (List Int)} {d : Nat} {v : List Int} (hv : v ∈ G) (hl : v.length = d) (hf : ∀ x ∈ v, -1048576 ≤ x ∧ x ≤ 1048576) (k : Nat) (hk : k < d) :
    v.getD k 0 - (backsZ (lowsZ G d) (stepsZ G d) (codesZ (lowsZ G d) (stepsZ G d) v)).getD k 0 ≤ boundZ (stepsZ G d) ∧
    (backsZ (lowsZ G d) (stepsZ G d) (codesZ (lowsZ G d) (stepsZ G d) v)).getD k 0 - v.getD k 0 ≤ boundZ (stepsZ G d) := by
  have hL : (lowsZ G d).length = d := by simp [lowsZ]
  rw [backsZ_getD _ _ _ _ (by rw [hL]; exact hk), codesZ_getD _ _ _ _ (by rw [hL]; exact hk), if_pos (by rw [hl]; exact hk)]
  have e1 : (lowsZ G d).getD k 0 = loZ G k := range_getD _ _ _ hk
  have e2 : (stepsZ G d).getD k 0 = stepZ (loZ G k) (hiZ G k) := range_getD _ _ _ hk
  rw [e1, e2]
  have h1 := codeZ_near (stepZ_pos (loZ G k) (hiZ G k)) (loZ_le k v hv) (hiZ_le k v hv) (stepZ_reach _ _)
  have h2 : (stepZ (loZ G k) (hiZ G k) + 1) / 2 ≤ boundZ (stepsZ G d) := boundZ_le _ _ (List.mem_map.2 ⟨k, List.mem_range.2 hk, rfl⟩)
  have h3 := boundZ_pos (stepsZ G d)
  have h4 : -1048576 ≤ v.getD k 0 ∧ v.getD k 0 ≤ 1048576 := by
    refine hf _ ?_
    rw [List.getD_eq_getElem?_getD, List.getElem?_eq_getElem (by omega)]; exact List.getElem_mem _
  unfold clampQ
  generalize loZ G k + stepZ (loZ G k) (hiZ G k) * codeZ (loZ G k) (stepZ (loZ G k) (hiZ G k)) (v.getD k 0) = z at *
  omega
end Go.Proofs.YteaacodloabdcaaGreatDoor
