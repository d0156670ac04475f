import Derived.Test.YteaacodloabdcaaGreatDoorBinA
import Derived.Test.YteaacodloabdcaaGreatDoorMtA
namespace Go.Proofs.YteaacodloabdcaaGreatDoor
/-- A hit: its Id, its Score. -/
abbrev Hit := Int × Int
def lessH (a b : Hit) : Bool := if a.2 = b.2 then decide (a.1 < b.1) else decide (a.2 < b.2)
theorem lessH_iff (a b : Hit) : lessH a b = true ↔ a.2 < b.2 ∨ (a.2 = b.2 ∧ a.1 < b.1) := by
  unfold lessH
  split
  · rw [decide_eq_true_iff]; omega
  · rw [decide_eq_true_iff]; omega
theorem lessH_no (a b : Hit) : lessH a b = false ↔ b.2 < a.2 ∨ (a.2 = b.2 ∧ b.1 ≤ a.1) := by
  unfold lessH
  split
  · rw [decide_eq_false_iff_not]; omega
  · rw [decide_eq_false_iff_not]; omega
theorem lessH_irrefl (a : Hit) : lessH a a = false := by rw [lessH_no]; omega
theorem lessH_trans {a b c : Hit} (h1 : lessH a b = true) (h2 : lessH b c = true) : lessH a c = true := by
  rw [lessH_iff] at *; omega
theorem noH_trans {a b c : Hit} (h1 : lessH a b = false) (h2 : lessH b c = false) : lessH a c = false := by
  rw [lessH_no] at *; omega
theorem lessH_asymm {a b : Hit} (h : lessH a b = true) : lessH b a = false := by
  rw [lessH_iff] at h; rw [lessH_no]; omega
theorem noH_both {a b : Hit} (h1 : lessH a b = false) (h2 : lessH b a = false) : a = b := by
  rw [lessH_no] at *
  obtain ⟨a1, a2⟩ := a
  obtain ⟨b1, b2⟩ := b
  simp only [Prod.mk.injEq] at *
  omega
def hat (H : List Hit) (i : Nat) : Hit := H.getD i (0, 0)
theorem hat_lt {H : List Hit} {i : Nat} (h : i < H.length) : hat H i = H[i] := by simp [hat, List.getD, h]
theorem hat_set (H : List Hit) (i j : Nat) (x : Hit) (hi : i < H.length) : hat (H.set i x) j = if i = j then x else hat H j := by
  simp only [hat, List.getD, List.getElem?_set]
  split
  · subst i; simp
  · rfl
theorem hat_append_left {H K : List Hit} {i : Nat} (h : i < H.length) : hat (H ++ K) i = hat H i := by
  simp [hat, List.getD, List.getElem?_append_left h]
theorem hat_append_last {H : List Hit} {x : Hit} : hat (H ++ [x]) H.length = x := by
  simp [hat, List.getD]
/-- None is better than the one above it .. worse, that is. -/
def HeapL (H : List Hit) : Prop := ∀ i, 0 < i → i < H.length → lessH (hat H ((i - 1) / 2)) (hat H i) = false
def swapL (H : List Hit) (i j : Nat) : List Hit := (H.set i (hat H j)).set j (hat H i)
theorem swapL_length (H : List Hit) (i j : Nat) : (swapL H i j).length = H.length := by simp [swapL]
theorem hat_swap (H : List Hit) (i j k : Nat) (hi : i < H.length) (hj : j < H.length) : hat (swapL H i j) k = if j = k then hat H i else if i = k then hat H j else hat H k := by
  unfold swapL
  rw [hat_set _ _ _ _ (by simpa using hj), hat_set _ _ _ _ hi]
theorem swapL_perm (H : List Hit) (i j : Nat) (hi : i < H.length) (hj : j < H.length) : (swapL H i j).Perm H := by
  unfold swapL
  by_cases h : i = j
  · subst h
    have : (H.set i (hat H i)).set i (hat H i) = H := by
      rw [List.set_set, hat_lt hi, List.set_getElem_self]
    rw [this]
  · rw [hat_lt hi, hat_lt hj]
    exact List.set_set_perm hi hj
structure RiseI (H : List Hit) (t : Nat) : Prop where
  lt : t < H.length
  a : ∀ i, i ≠ t → 0 < i → i < H.length → lessH (hat H ((i - 1) / 2)) (hat H i) = false
  b : 0 < t → ∀ i, 0 < i → i < H.length → (i - 1) / 2 = t → lessH (hat H ((t - 1) / 2)) (hat H i) = false
theorem RiseI.done {H : List Hit} {t : Nat} (h : RiseI H t) (ht : t = 0 ∨ lessH (hat H ((t - 1) / 2)) (hat H t) = false) : HeapL H := by
  intro i h0 hi
  by_cases e : i = t
  · subst e
    rcases ht with rfl | ht
    · omega
    · exact ht
  · exact h.a i e h0 hi
theorem RiseI.start {H : List Hit} (h : HeapL H) (x : Hit) : RiseI (H ++ [x]) H.length := {
  lt := by simp
  a := fun i hi h0 hl => by
    have : i < H.length := by simp at hl; omega
    rw [hat_append_left this, hat_append_left (by omega)]
    exact h i h0 this
  b := fun h0 i hi hl e => by simp at hl; omega }
theorem RiseI.step {H : List Hit} {t : Nat} (h : RiseI H t) (h0 : 0 < t) (hn : lessH (hat H t) (hat H ((t - 1) / 2)) = false) : RiseI (swapL H t ((t - 1) / 2)) ((t - 1) / 2) := by
  have hl := h.lt
  have hp : (t - 1) / 2 < H.length := by omega
  have hne : (t - 1) / 2 ≠ t := by omega
  have S := fun k => hat_swap H t ((t - 1) / 2) k hl hp
  refine ⟨by rw [swapL_length]; exact hp, ?_, ?_⟩
  · intro i hi h1 h2
    rw [swapL_length] at h2
    rw [S i, S ((i - 1) / 2), if_neg (Ne.symm hi)]
    by_cases e : i = t
    · subst e
      rw [if_pos rfl, if_pos rfl]; exact hn
    · rw [if_neg (Ne.symm e)]
      by_cases e1 : (i - 1) / 2 = t
      · rw [e1, if_neg hne, if_pos rfl]
        exact h.b h0 i h1 h2 e1
      · by_cases e2 : (i - 1) / 2 = (t - 1) / 2
        · rw [e2, if_pos rfl]
          have := h.a i e h1 h2
          rw [e2] at this
          exact noH_trans hn this
        · rw [if_neg (Ne.symm e2), if_neg (Ne.symm e1)]
          exact h.a i e h1 h2
  · intro hg i h1 h2 e
    rw [swapL_length] at h2
    rw [S i, S (((t - 1) / 2 - 1) / 2)]
    have g1 : (t - 1) / 2 ≠ ((t - 1) / 2 - 1) / 2 := by omega
    have g2 : t ≠ ((t - 1) / 2 - 1) / 2 := by omega
    rw [if_neg g1, if_neg g2]
    have hpar := h.a ((t - 1) / 2) hne hg hp
    have i1 : (t - 1) / 2 ≠ i := by omega
    rw [if_neg i1]
    by_cases e3 : t = i
    · rw [if_pos e3]; exact hpar
    · rw [if_neg e3]
      have := h.a i (Ne.symm e3) h1 h2
      rw [e] at this
      exact noH_trans hpar this
structure SinkI (H : List Hit) (t : Nat) : Prop where
  lt : t < H.length
  a : ∀ i, (i - 1) / 2 ≠ t → 0 < i → i < H.length → lessH (hat H ((i - 1) / 2)) (hat H i) = false
  b : 0 < t → ∀ i, 0 < i → i < H.length → (i - 1) / 2 = t → lessH (hat H ((t - 1) / 2)) (hat H i) = false
theorem SinkI.start {H : List Hit} (h : HeapL H) (x : Hit) (hl : 0 < H.length) : SinkI (H.set 0 x) 0 := {
  lt := by simpa using hl
  a := fun i hi h0 h2 => by
    rw [List.length_set] at h2
    rw [hat_set _ _ _ _ hl, hat_set _ _ _ _ hl, if_neg (by omega), if_neg (by omega)]
    exact h i h0 h2
  b := fun h0 => by omega }
/-- The worst of t and those beneath it, up to m. -/
structure WorstI (H : List Hit) (t m v : Nat) : Prop where
  lt : v < H.length
  at_ : v = t ∨ (v = 2 * t + 1 ∨ v = 2 * t + 2)
  top : lessH (hat H v) (hat H t) = false
  all : ∀ i, 2 * t + 1 ≤ i → i < m → i < H.length → lessH (hat H v) (hat H i) = false
theorem SinkI.done {H : List Hit} {t : Nat} (h : SinkI H t) (hv : WorstI H t (2 * t + 3) t) : HeapL H := by
  intro i h0 hi
  by_cases e : (i - 1) / 2 = t
  · rw [e]
    exact hv.all i (by omega) (by omega) hi
  · exact h.a i e h0 hi
theorem SinkI.step {H : List Hit} {t v : Nat} (h : SinkI H t) (hv : WorstI H t (2 * t + 3) v) (hne : v ≠ t) : SinkI (swapL H t v) v := by
  have hl := h.lt
  have hvl := hv.lt
  have hvat : v = 2 * t + 1 ∨ v = 2 * t + 2 := by rcases hv.at_ with e | e; · exact absurd e hne
                                                  · exact e
  have S := fun k => hat_swap H t v k hl hvl
  have hpv : (v - 1) / 2 = t := by omega
  refine ⟨by rw [swapL_length]; exact hvl, ?_, ?_⟩
  · intro i hi h1 h2
    rw [swapL_length] at h2
    rw [S i, S ((i - 1) / 2), if_neg (Ne.symm hi)]
    by_cases e : v = i
    · subst e
      rw [if_pos rfl, hpv, if_pos rfl]
      exact hv.top
    · rw [if_neg e]
      by_cases e1 : (i - 1) / 2 = t
      · rw [e1, if_pos rfl, if_neg (by omega)]
        exact hv.all i (by omega) (by omega) h2
      · rw [if_neg (Ne.symm e1)]
        by_cases e2 : t = i
        · subst e2
          rw [if_pos rfl]
          exact h.b h1 v (by omega) hvl hpv
        · rw [if_neg e2]
          exact h.a i e1 h1 h2
  · intro h0 i h1 h2 e
    rw [swapL_length] at h2
    rw [hpv, S t, S i, if_neg hne, if_pos rfl, if_neg (by omega), if_neg (by omega)]
    have := h.a i (by omega) h1 h2
    rw [e] at this
    exact this
theorem WorstI.start {H : List Hit} {t : Nat} (h : t < H.length) : WorstI H t (2 * t + 1) t := ⟨h, Or.inl rfl, lessH_irrefl _, fun i h1 h2 => by omega⟩
theorem WorstI.stay {H : List Hit} {t m v : Nat} (h : WorstI H t m v) (hn : lessH (hat H v) (hat H m) = false) : WorstI H t (m + 1) v :=
  ⟨h.lt, h.at_, h.top, fun i h1 h2 h3 => by
    by_cases e : i = m
    · subst e; exact hn
    · exact h.all i h1 (by omega) h3⟩
theorem WorstI.new {H : List Hit} {t m v : Nat} (h : WorstI H t m v) (hm : m = 2 * t + 1 ∨ m = 2 * t + 2) (hl : m < H.length) (hn : lessH (hat H v) (hat H m) = true) : WorstI H t (m + 1) m :=
  ⟨hl, Or.inr hm, noH_trans (lessH_asymm hn) h.top, fun i h1 h2 h3 => by
    by_cases e : i = m
    · subst e; exact lessH_irrefl _
    · exact noH_trans (lessH_asymm hn) (h.all i h1 (by omega) h3)⟩
theorem WorstI.short {H : List Hit} {t m v : Nat} (h : WorstI H t m v) (hm : H.length ≤ m) : WorstI H t (2 * t + 3) v :=
  ⟨h.lt, h.at_, h.top, fun i h1 h2 h3 => h.all i h1 (by omega) h3⟩
theorem HeapL.nil : HeapL [] := fun i _ h => by simp at h
/-- The first one is the worst. -/
theorem HeapL.top {H : List Hit} (h : HeapL H) (i : Nat) (hi : i < H.length) : lessH (hat H 0) (hat H i) = false := by
  induction i using Nat.strongRecOn with
  | _ i ih =>
    by_cases h0 : i = 0
    · subst h0; exact lessH_irrefl _
    · exact noH_trans (ih ((i - 1) / 2) (by omega) (by omega)) (h i (by omega) hi)

/-- In order, none alike. -/
def SortH (W : List Hit) : Prop := W.Pairwise (fun a b => lessH a b = true)
theorem SortH.perm_eq {A B : List Hit} (ha : SortH A) (hb : SortH B) (hp : A.Perm B) : A = B := by
  induction A generalizing B with
  | nil => exact (List.nil_perm.1 hp).symm
  | cons x r ih =>
    cases B with
    | nil => exact absurd hp.symm (by simp)
    | cons y s =>
      have ha' := List.pairwise_cons.1 ha
      have hb' := List.pairwise_cons.1 hb
      have hxy : x = y := by
        rcases List.mem_cons.1 (hp.subset (List.mem_cons_self ..)) with h | h
        · exact h
        · rcases List.mem_cons.1 (hp.symm.subset (List.mem_cons_self ..)) with g | g
          · exact g.symm
          · have h1 := hb'.1 x h
            have h2 := lessH_asymm (ha'.1 y g)
            rw [h1] at h2; cases h2
      subst hxy
      rw [ih ha'.2 hb'.2 (List.Perm.cons_inv hp)]
/-- The hit, put where it belongs. -/
def ins (h : Hit) (W : List Hit) : List Hit := W.takeWhile (fun x => !lessH h x) ++ h :: W.dropWhile (fun x => !lessH h x)
theorem ins_perm (h : Hit) (W : List Hit) : (ins h W).Perm (h :: W) := by
  unfold ins
  refine List.perm_middle.trans ?_
  rw [List.takeWhile_append_dropWhile]
theorem ins_length (h : Hit) (W : List Hit) : (ins h W).length = W.length + 1 := by rw [(ins_perm h W).length_eq]; rfl
theorem ins_nil (h : Hit) : ins h [] = [h] := rfl
theorem ins_cons (h x : Hit) (W : List Hit) : ins h (x :: W) = if lessH h x then h :: x :: W else x :: ins h W := by
  unfold ins
  cases hx : lessH h x <;> simp [hx]
theorem ins_sort {h : Hit} {W : List Hit} (hs : SortH W) (hid : ∀ x ∈ W, x.1 ≠ h.1) : SortH (ins h W) := by
  induction W with
  | nil => rw [ins_nil]; exact List.pairwise_singleton _ _
  | cons x r ih =>
    have hs' := List.pairwise_cons.1 hs
    rw [ins_cons]
    split
    · rename_i hx
      refine List.pairwise_cons.2 ⟨fun y hy => ?_, hs⟩
      rcases List.mem_cons.1 hy with rfl | hy
      · exact hx
      · exact lessH_trans hx (hs'.1 y hy)
    · rename_i hx
      have hx' : lessH h x = false := by simpa using hx
      have hne := hid x (List.mem_cons_self ..)
      refine List.pairwise_cons.2 ⟨fun y hy => ?_, ih hs'.2 (fun y hy => hid y (List.mem_cons_of_mem _ hy))⟩
      rcases List.mem_cons.1 ((ins_perm h r).subset hy) with rfl | hy
      · rw [lessH_no] at hx'; rw [lessH_iff]; omega
      · exact hs'.1 y hy
theorem ins_last {h z : Hit} {W : List Hit} (hz : lessH h z = true) : ins h (W ++ [z]) = ins h W ++ [z] := by
  induction W with
  | nil => rw [List.nil_append, ins_cons, if_pos hz, ins_nil]; rfl
  | cons x r ih =>
    rw [List.cons_append, ins_cons, ins_cons]
    split
    · rfl
    · rw [ih]; rfl
def hasId (W : List Hit) (i : Int) : Bool := W.any (fun x => x.1 == i)
theorem hasId_perm {A B : List Hit} (h : A.Perm B) (i : Int) : hasId A i = hasId B i := by
  unfold hasId
  rw [Bool.eq_iff_iff, List.any_eq_true, List.any_eq_true]
  exact ⟨fun ⟨x, h1, h2⟩ => ⟨x, h.subset h1, h2⟩, fun ⟨x, h1, h2⟩ => ⟨x, h.symm.subset h1, h2⟩⟩
theorem hasId_no {W : List Hit} {i : Int} (h : hasId W i = false) : ∀ x ∈ W, x.1 ≠ i := by
  intro x hx e
  unfold hasId at h
  rw [List.any_eq_false] at h
  exact h x hx (by simpa using e)
def zeroH : Hit := (0, 0)
/-- The worst of them. -/
def lastH (W : List Hit) : Hit := W.getLastD zeroH
/-- One more. -/
def putL (k : Nat) (W : List Hit) (h : Hit) : List Hit × Bool :=
  if hasId W h.1 then (W, false)
  else if k = 0 ∨ (k ≤ W.length ∧ lessH h (lastH W) = false) then (W, false)
  else ((ins h W).take k, true)
/-- What there is: in order, each Id once, no more than may be. -/
structure OkW (k : Nat) (W : List Hit) : Prop where
  len : W.length ≤ k
  sort : SortH W
  ids : (W.map (·.1)).Nodup
theorem OkW.nil (k : Nat) : OkW k [] := ⟨Nat.zero_le _, List.Pairwise.nil, List.nodup_nil⟩
theorem OkW.put {k : Nat} {W : List Hit} (h : OkW k W) (x : Hit) : OkW k (putL k W x).1 := by
  unfold putL
  split
  · exact h
  · split
    · exact h
    · rename_i h1 h2
      have hid := hasId_no (by simpa using h1)
      refine ⟨List.length_take_le _ _, (ins_sort h.sort hid).sublist (List.take_sublist k (ins x W)), ?_⟩
      have hn : ((ins x W).map (·.1)).Nodup := by
        rw [((ins_perm x W).map _).nodup_iff, List.map_cons, List.nodup_cons]
        refine ⟨fun hm => ?_, h.ids⟩
        obtain ⟨y, hy, e⟩ := List.mem_map.1 hm
        exact hid y hy e
      exact ((List.take_sublist k (ins x W)).map _).nodup hn
theorem lastH_snoc (W : List Hit) (z : Hit) : lastH (W ++ [z]) = z := by simp [lastH]
theorem snoc_of {W : List Hit} (h : W ≠ []) : W = W.dropLast ++ [lastH W] := by
  rw [lastH, List.getLastD_eq_getLast?, List.getLast?_eq_some_getLast h, Option.getD_some]
  exact (List.dropLast_concat_getLast h).symm
/-- The first of a heap is the last one in order. -/
theorem heap_last {H W : List Hit} (hh : HeapL H) (hp : H.Perm W) (hs : SortH W) (h0 : 0 < H.length) : hat H 0 = lastH W := by
  have hW : W ≠ [] := by
    rintro rfl
    rw [hp.length_eq] at h0
    exact absurd h0 (by simp)
  have hsn := snoc_of hW
  have hm : hat H 0 ∈ W := hp.subset (by rw [hat_lt h0]; exact List.getElem_mem _)
  have hl : lastH W ∈ H := hp.symm.subset (by rw [hsn, lastH_snoc]; simp)
  obtain ⟨i, hi, e⟩ := List.getElem_of_mem hl
  have ht := hh.top i hi
  rw [hat_lt hi, e] at ht
  rw [hsn] at hm hs
  rcases List.mem_append.1 hm with hm | hm
  · have := (List.pairwise_append.1 hs).2.2 _ hm (lastH W) (by simp)
    rw [this] at ht; cases ht
  · simpa using hm
/-- One more, of fewer than may be. -/
theorem putL_add {k : Nat} {H H' W : List Hit} {x : Hit} (hp : H.Perm W) (hid : hasId W x.1 = false) (hk : W.length < k) (hp' : H'.Perm (H ++ [x])) : H'.Perm (putL k W x).1 ∧ (putL k W x).2 = true := by
  have e : putL k W x = ((ins x W).take k, true) := by
    unfold putL
    rw [if_neg (by simp [hid]), if_neg (by omega)]
  rw [e]
  refine ⟨?_, rfl⟩
  show H'.Perm ((ins x W).take k)
  rw [List.take_of_length_le (by rw [ins_length]; omega)]
  refine hp'.trans ?_
  refine List.Perm.trans ?_ (ins_perm x W).symm
  exact (List.perm_append_comm (l₁ := H) (l₂ := [x])).trans (hp.cons x)
/-- One more, in the worst one's place. -/
theorem putL_full {k : Nat} {H H' W : List Hit} {x : Hit} (hh : HeapL H) (hp : H.Perm W) (hs : SortH W) (hid : hasId W x.1 = false) (hk0 : 0 < k) (hk : W.length = k) (hl : lessH x (hat H 0) = true) (hp' : H'.Perm (H.set 0 x)) : H'.Perm (putL k W x).1 ∧ (putL k W x).2 = true := by
  have hlen := hp.length_eq
  have h0 : 0 < H.length := by omega
  have hw := heap_last hh hp hs h0
  rw [hw] at hl
  have hW : W ≠ [] := by
    rintro rfl
    simp at hk; omega
  have e : putL k W x = ((ins x W).take k, true) := by
    unfold putL
    rw [if_neg (by simp [hid]), if_neg (by rw [hl]; simp; omega)]
  rw [e]
  refine ⟨?_, rfl⟩
  show H'.Perm ((ins x W).take k)
  have hsn := snoc_of hW
  have hdl : W.dropLast.length + 1 = k := by rw [List.length_dropLast]; omega
  have ei : (ins x W).take k = ins x W.dropLast := by
    rw [hsn, List.dropLast_concat, ins_last hl, List.take_left' (by rw [ins_length]; exact hdl)]
  rw [ei]
  refine hp'.trans (List.Perm.trans ?_ (ins_perm x W.dropLast).symm)
  cases H with
  | nil => exact absurd h0 (by simp)
  | cons y r =>
    rw [List.set_cons_zero]
    refine List.Perm.cons x ?_
    have hy : y = lastH W := hw
    have : (y :: r).Perm (y :: W.dropLast) := by
      refine hp.trans ?_
      rw [hy]
      conv => lhs; rw [hsn]
      exact List.perm_append_comm
    exact this.cons_inv
theorem putL_has {k : Nat} {W : List Hit} {x : Hit} (hid : hasId W x.1 = true) : putL k W x = (W, false) := by
  unfold putL; rw [if_pos hid]
theorem putL_zero {W : List Hit} {x : Hit} : putL 0 W x = (W, false) := by
  unfold putL
  split
  · rfl
  · rw [if_pos (Or.inl rfl)]
theorem putL_worse {k : Nat} {W : List Hit} {x : Hit} (hk : k ≤ W.length) (hl : lessH x (lastH W) = false) : putL k W x = (W, false) := by
  unfold putL
  split
  · rfl
  · rw [if_pos (Or.inr ⟨hk, hl⟩)]
/-- Of all of them. -/
def bestOf (k : Nat) (hs : List Hit) : List Hit := hs.foldl (fun W x => (putL k W x).1) []

theorem ins_at {h : Hit} {W : List Hit} {t : Nat} (ht : t ≤ W.length) (h1 : ∀ i, i < t → lessH h (hat W i) = false) (h2 : t = W.length ∨ lessH h (hat W t) = true) : W.take t ++ h :: W.drop t = ins h W := by
  induction W generalizing t with
  | nil => simp [ins_nil]
  | cons x r ih =>
    cases t with
    | zero =>
      rcases h2 with h2 | h2
      · simp at h2
      · have : lessH h x = true := h2
        rw [ins_cons, if_pos this]; rfl
    | succ t =>
      have hx : lessH h x = false := h1 0 (by omega)
      rw [ins_cons, if_neg (by simp [hx])]
      have := ih (t := t) (by simpa using ht) (fun i hi => h1 (i + 1) (by omega)) (by
        rcases h2 with h2 | h2
        · exact Or.inl (by simpa using h2)
        · exact Or.inr h2)
      simp only [List.take_succ_cons, List.drop_succ_cons, List.cons_append, this]
theorem hasId_at {W : List Hit} {i : Int} (h : ∀ j, j < W.length → (hat W j).1 ≠ i) : hasId W i = false := by
  unfold hasId
  rw [List.any_eq_false]
  intro x hx
  obtain ⟨j, hj, rfl⟩ := List.getElem_of_mem hx
  have := h j hj
  rw [hat_lt hj] at this
  simpa using this
theorem hasId_yes {W : List Hit} {i : Int} {j : Nat} (hj : j < W.length) (h : (hat W j).1 = i) : hasId W i = true := by
  unfold hasId
  rw [List.any_eq_true]
  rw [hat_lt hj] at h
  exact ⟨W[j], List.getElem_mem hj, by simpa using h⟩
theorem lastH_hat (W : List Hit) : lastH W = hat W (W.length - 1) := by
  rw [lastH, List.getLastD_eq_getLast?, hat, List.getD, List.getLast?_eq_getElem?]; rfl
theorem lastH_nil : lastH [] = zeroH := rfl
theorem putL_len {k : Nat} {W : List Hit} {x : Hit} (h : W.length ≤ k) : (putL k W x).1.length ≤ k := by
  unfold putL
  split
  · exact h
  · split
    · exact h
    · exact List.length_take_le _ _
theorem bestOf_nil (k : Nat) : bestOf k [] = [] := rfl
theorem bestOf_snoc (k : Nat) (hs : List Hit) (x : Hit) : bestOf k (hs ++ [x]) = (putL k (bestOf k hs) x).1 := by
  unfold bestOf; rw [List.foldl_append]; rfl
theorem bestOf_ok (k : Nat) (hs : List Hit) : OkW k (bestOf k hs) := by
  unfold bestOf
  have : ∀ (hs W : List Hit), OkW k W → OkW k (hs.foldl (fun W x => (putL k W x).1) W) := by
    intro hs
    induction hs with
    | nil => intro W h; exact h
    | cons x r ih => intro W h; exact ih _ (h.put x)
  exact this hs [] (OkW.nil k)
/-- The order in the form that a sort asks for. -/
def cmpH (a b : Hit) : Int := if lessH a b then -1 else if lessH b a then 1 else 0
theorem cmpH_neg (a b : Hit) : decide (cmpH a b < 0) = lessH a b := by
  unfold cmpH
  cases h : lessH a b
  · rw [if_neg (by simp)]
    split <;> simp
  · simp
end Go.Proofs.YteaacodloabdcaaGreatDoor

namespace Go.Proofs.YteaacodloabdcaaGreatDoor
open Go.RowKit Go.Maps

theorem elemVec : Tryz.prog.elem 23 = 21 := by kernel_rfl
/-- 'v[:k]' of a vector. -/
theorem headVec (a : Option Addr) (n c k : Nat) (hk : k ≤ c) (W : World) : (Instr.sliceAt 23 (.slice a n c) none (some (.int .i64 (k : Int))) none).run Tryz.prog W = .ok (.slice a k c) W := by
  have hu : Tryz.prog.underlying 23 = some (.slice (Tryz.prog.elem 23)) := by rw [elemVec]; exact Tryz.underlying23
  have hs := Tryz.sizeOf21 W
  rw [run_sliceAt_slice W 23 _ _ _ _ hu, run_slice_h W 23 _ n c hu .i64 k (by omega) (by omega), elemVec, hs]
  cases a with
  | none => simp [Result.andThen, sliced]
  | some p => simp [Result.andThen, sliced, Addr.add]
/-- The score as Go tells it. -/
def scoreW (m : Int) (A B : List Int) : Int := wrap64 (scoreZ m A B)
set_option maxRecDepth 100000 in
set_option maxHeartbeats 1000000 in
theorem score_at {w : World} {a b : Option Addr} {n1 n2 c d : Nat} {A B : List Int} (m : Int) (ha : VecAt w a n1 c A) (hb : VecAt w b n2 d B) (h1 : n1 ≤ 1000000000) :
    Calls Tryz.prog 9 #[.int .i64 m, .slice a n1 c, .slice b n2 d] w fun e w' => e = .returned (.int .i64 (scoreW m A B)) ∧ Below w.heap.size w w' := by
  obtain ⟨s, hs, hs1, hs2⟩ : ∃ s : Nat, min (n1 : Int) n2 = s ∧ s ≤ n1 ∧ s ≤ n2 := ⟨min n1 n2, by omega, by omega, by omega⟩
  have hse : s = min A.length B.length := by rw [ha.len, hb.len]; omega
  have hc := ha.cap
  have hd := hb.cap
  have q1 := fun W => headVec a n1 c s (by omega) W
  have q2 := fun W => headVec b n2 d s (by omega) W
  have HA : Hid (VecAt w a s c (A.take s)) := ha.head s hs1
  have HB : Hid (VecAt w b s d (B.take s)) := hb.head s hs2
  have HQ : Hid (sqZ (A.take s) (B.take s) = sqZ A B ∧ prZ (A.take s) (B.take s) = prZ A B) := by
    rw [hse]; exact ⟨sqZ_short A B, prZ_short A B⟩
  have hbd : ∀ q, Below w.heap.size w (w.drewN q) := fun q => ⟨rfl, rfl, rfl, Nat.le_refl _, fun _ _ => rfl⟩
  have HBd : Hid (∀ q, Below w.heap.size w (w.drewN q)) := hbd
  clear ha hb hse hbd
  go_enter Tryz.func9, Tryz.ntmps9
  go_wp2_with fail
  go_quiet (fail)
  clear q1 q2
  by_cases hm1 : m = 1
  · subst hm1
    go_wp2_with fail
    refine (squares_at (HA.out.all (HBd.out nq)) (HB.out.all (HBd.out nq)) (by omega)).mono ?_
    rintro e w2 ⟨rfl, rfl⟩
    rw [HQ.out.1]
    go_wp2_with fail
    go_ret
    exact ⟨by unfold scoreW scoreZ; simp, HBd.out nq⟩
  · by_cases hm2 : m = 2
    · subst hm2
      go_wp2_with fail
      refine (products_at (HA.out.all (HBd.out nq)) (HB.out.all (HBd.out nq)) (by omega)).mono ?_
      rintro e w2 ⟨rfl, rfl⟩
      rw [HQ.out.2]
      go_wp2_with fail
      go_ret
      refine ⟨?_, HBd.out nq⟩
      show Ending.returned (.int .i64 (wrap64 (-wrap64 (prZ A B)))) = _
      unfold scoreW scoreZ
      rw [wrap_neg, if_neg hm1, if_pos rfl]
    · go_wp2_with fail
      go_ret
      refine ⟨?_, HBd.out nq⟩
      unfold scoreW scoreZ
      rw [if_neg hm1, if_neg hm2, wrap_zero]
      rfl
set_option maxRecDepth 100000 in
set_option maxHeartbeats 1000000 in
theorem rscore_at {w : World} {a b : Option Addr} {n1 n2 c d : Nat} {A B : List Int} (m : Int) (ha : VecAt w a n1 c A) (hb : VecAt w b n2 d B) (h1 : n1 ≤ 1000000000) :
    Calls Tryz.prog 10 #[.int .i64 m, .slice a n1 c, .slice b n2 d] w fun e w' => e = .returned (.int .i64 (scoreW m A B)) ∧ Below w.heap.size w w' := by
  obtain ⟨s, hs, hs1, hs2⟩ : ∃ s : Nat, min (n1 : Int) n2 = s ∧ s ≤ n1 ∧ s ≤ n2 := ⟨min n1 n2, by omega, by omega, by omega⟩
  have hse : s = min A.length B.length := by rw [ha.len, hb.len]; omega
  have HQ : Hid (scoreZ m (A.take s) (B.take s) = scoreZ m A B) := by
    show _ = _
    rw [hse]
    unfold scoreZ
    rw [sqZ_short, prZ_short]
  have HA : Hid (VecAt w a n1 c A) := ha
  have HB : Hid (VecAt w b n2 d B) := hb
  clear ha hb hse
  go_enter Tryz.func10, Tryz.ntmps10
  go_wp2_with fail
  go_loopw [7, 8] (fun s7 s8 wr => ∃ j : Nat, j ≤ s ∧ s8 = .int .i64 j ∧ s7 = .int .i64 (wrap64 (scoreZ m (A.take j) (B.take j))) ∧ Hid (Below w.heap.size w wr)) (fun _ s8 _ => s - (RowKit.intOf s8).toNat)
  case atStart => exact ⟨0, Nat.zero_le _, rfl, by simp [scoreZ, sqZ, prZ, wrap_zero], Below.refl _ _⟩
  case round =>
    obtain ⟨j, hj, rfl, rfl, HW⟩ := hrel
    by_cases hlt : j < s
    · obtain ⟨g1, o1, rfl, hg1, c1, x1, x2⟩ := HA.out.cell j (by omega)
      obtain ⟨g2, o2, rfl, hg2, c2, y1, y2⟩ := HB.out.cell j (by omega)
      have d1 := (HW.out.cell (p := ⟨g1, o1 + j, none⟩) hg1).trans c1
      have d2 := (HW.out.cell (p := ⟨g2, o2 + j, none⟩) hg2).trans c2
      have HS1 : Hid (sqZ (A.take (j + 1)) (B.take (j + 1)) = sqZ (A.take j) (B.take j) + (A.getD j 0 - B.getD j 0) * (A.getD j 0 - B.getD j 0)) := sqZ_step (by rw [HA.out.len]; omega) (by rw [HB.out.len]; omega)
      have HS2 : Hid (prZ (A.take (j + 1)) (B.take (j + 1)) = prZ (A.take j) (B.take j) + A.getD j 0 * B.getD j 0) := prZ_step (by rw [HA.out.len]; omega) (by rw [HB.out.len]; omega)
      have hj1 : (j : Int) < (n1 : Int) := by omega
      have hj2 : (j : Int) < (n2 : Int) := by omega
      have HD : Hid (∀ q, Below w.heap.size w (wr.drewN q)) := fun q => ⟨HW.out.os, HW.out.tape, HW.out.output, HW.out.size, HW.out.block⟩
      clear c1 c2 hg1 hg2 HW
      generalize A.getD j 0 = x at *
      generalize B.getD j 0 = y at *
      by_cases hm1 : m = 1
      · subst hm1
        have HT : Hid (scoreZ 1 (A.take (j + 1)) (B.take (j + 1)) = scoreZ 1 (A.take j) (B.take j) + (x - y) * (x - y)) := HS1.out
        clear HS1 HS2
        generalize scoreZ 1 (A.take j) (B.take j) = z at *
        go_wp2_with fail
        go_quiet (fail)
        go_wp2_with fail
        exact ⟨⟨j + 1, hlt, rfl, by rw [HT.out, wrap_step], HD.out nq⟩, by simp [RowKit.intOf]; omega⟩
      · by_cases hm2 : m = 2
        · subst hm2
          have HT : Hid (scoreZ 2 (A.take (j + 1)) (B.take (j + 1)) = scoreZ 2 (A.take j) (B.take j) - x * y) := by
            show -prZ _ _ = -prZ _ _ - _
            rw [HS2.out]; omega
          clear HS1 HS2
          generalize scoreZ 2 (A.take j) (B.take j) = z at *
          go_wp2_with fail
          go_quiet (fail)
          go_wp2_with fail
          exact ⟨⟨j + 1, hlt, rfl, by rw [HT.out, wrap_minus], HD.out nq⟩, by simp [RowKit.intOf]; omega⟩
        · have HT : Hid (scoreZ m (A.take (j + 1)) (B.take (j + 1)) = scoreZ m (A.take j) (B.take j)) := by
            show _ = _
            unfold scoreZ
            rw [if_neg hm1, if_neg hm2, if_neg hm1, if_neg hm2]
          clear HS1 HS2
          generalize scoreZ m (A.take j) (B.take j) = z at *
          go_wp2_with fail
          go_quiet (fail)
          go_wp2_with fail
          exact ⟨⟨j + 1, hlt, rfl, by rw [HT.out], HD.out nq⟩, by simp [RowKit.intOf]; omega⟩
    · obtain rfl : j = s := by omega
      rw [HQ.out]
      go_wp2_with fail
      go_ret
      exact ⟨rfl, HW.out⟩
theorem known_at (m : Int) (w : World) : Calls Tryz.prog 11 #[.int .i64 m] w fun e w' => e = .returned (.bool (decide (m = 1 ∨ m = 2))) ∧ w' = w := by
  by_cases h1 : m = 1
  · subst h1
    go_enter Tryz.func11, Tryz.ntmps11
    go_wp2
    go_ret
    exact ⟨rfl, rfl⟩
  · by_cases h2 : m = 2
    · subst h2
      go_enter Tryz.func11, Tryz.ntmps11
      go_wp2
      go_ret
      exact ⟨rfl, rfl⟩
    · have hd : decide (m = 1 ∨ m = 2) = false := by simp [h1, h2]
      rw [hd]
      go_enter Tryz.func11, Tryz.ntmps11
      go_wp2
      go_ret
      refine ⟨?_, rfl⟩
      show Ending.returned (.bool (m == 1 || m == 2)) = _
      simp [h1, h2]
/-- A hit as a value. -/
def hitV (h : Hit) : Value := .agg #[.int .i64 h.1, .int .i64 h.2]
/-- What a call that takes two hits lays. -/
def boxed (w : World) (a b : Hit) : World := (w.alloc (.cells #[.int .i64 a.1, .int .i64 a.2] 25)).alloc (.cells #[.int .i64 b.1, .int .i64 b.2] 25)
theorem boxed_below (w : World) (a b : Hit) : Below w.heap.size w (boxed w a b) := ((Below.refl _ w).alloc (Nat.le_refl _) _).alloc (by simp) _
theorem less_at (a b : Hit) (w : World) : Calls Tryz.prog 12 #[hitV a, hitV b] w fun e w' => e = .returned (.bool (lessH a b)) ∧ w' = boxed w a b := by
  obtain ⟨a1, a2⟩ := a
  obtain ⟨b1, b2⟩ := b
  unfold hitV boxed lessH
  by_cases h : a2 = b2
  · subst h
    rw [if_pos rfl]
    go_enter Tryz.func12, Tryz.ntmps12
    go_wp2_with fail
    go_ret
    exact ⟨rfl, rfl⟩
  · rw [if_neg h]
    have h' : (a2 != b2) = true := by simpa using h
    go_enter Tryz.func12, Tryz.ntmps12
    go_wp2_with fail
    go_ret
    exact ⟨rfl, rfl⟩
theorem rless_at (a b : Hit) (w : World) : Calls Tryz.prog 13 #[hitV a, hitV b] w fun e w' => e = .returned (.bool (lessH a b)) ∧ w' = boxed w a b := by
  obtain ⟨a1, a2⟩ := a
  obtain ⟨b1, b2⟩ := b
  unfold hitV boxed lessH
  by_cases h : a2 = b2
  · subst h
    rw [if_pos rfl]
    go_enter Tryz.func13, Tryz.ntmps13
    go_wp2_with fail
    go_ret
    exact ⟨by simp, rfl⟩
  · rw [if_neg h]
    have h' : (a2 == b2) = false := by simpa using h
    by_cases hl : a2 < b2
    · go_enter Tryz.func13, Tryz.ntmps13
      go_wp2_with fail
      go_ret
      exact ⟨by simp [hl], rfl⟩
    · go_enter Tryz.func13, Tryz.ntmps13
      go_wp2_with fail
      go_ret
      exact ⟨by simp [hl], rfl⟩
end Go.Proofs.YteaacodloabdcaaGreatDoor
