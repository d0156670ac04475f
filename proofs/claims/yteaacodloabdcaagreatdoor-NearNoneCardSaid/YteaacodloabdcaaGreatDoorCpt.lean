/- What the library's contract on slices.Compact at numbers asks of this program: the numbers of its functions and types, each fact checked by the kernel. -/
import Derived.Shelf.SlicesG.CompactI
import Derived.Test.YteaacodloabdcaaGreatDoorProg
import Derived.Lib.SlicesCompact
import Derived.Test.YteaacodloabdcaaGreatDoorPlA
import Derived.Test.YteaacodloabdcaaGreatDoorLay
import Derived.Sort.OwnSortedInts
namespace Go.Proofs
open Go.Shelf
def Tryz.compactI_ren : Go.Shelf.Ren := ⟨fun | 43 => 51 | n => n, fun | 22 => 47 | 23 => 3 | 3 => 3 | 4 => 4 | 0 => 0 | n => n, fun | n => n⟩
theorem Tryz.compactI : Go.Proofs.SlLaysN.n43 Tryz.prog Tryz.compactI_ren := {
  mixed := by kernel_rfl
  f43 := ⟨Tryz.f51.name, by decide, Tryz.func51.trans (congrArg some (by kernel_rfl))⟩
  t0 := Tryz.underlying0
  a0 := Tryz.isAgg0
  z0 := Tryz.sizeOf0
  v0 := Tryz.zeroValue0
  t3 := Tryz.underlying3
  a3 := Tryz.isAgg3
  z3 := Tryz.sizeOf3
  v3 := Tryz.zeroValue3
  t4 := Tryz.underlying4
  a4 := Tryz.isAgg4
  z4 := Tryz.sizeOf4
  v4 := Tryz.zeroValue4
  t22 := Tryz.underlying47
  a22 := Tryz.isAgg47
  z22 := Tryz.sizeOf47
  v22 := Tryz.zeroValue47
  t23 := Tryz.underlying3
  a23 := Tryz.isAgg3
  z23 := Tryz.sizeOf3
  v23 := Tryz.zeroValue3
  i23 := by kernel_rfl }
end Go.Proofs

namespace Go.Proofs.YteaacodloabdcaaGreatDoor
theorem compact_sorted (d : Array Int) (hs : ∀ i j, i ≤ j → j < d.size → d[i]! ≤ d[j]!) : ∀ m, m ≤ d.size →
    (Go.Lib.compactUpTo d m).Pairwise (· < ·) ∧ (∀ x ∈ Go.Lib.compactUpTo d m, ∃ j, j < m ∧ x = d[j]!) ∧ ∀ j, j < m → d[j]! ∈ Go.Lib.compactUpTo d m := by
  intro m
  induction m with
  | zero => intro _; exact ⟨List.Pairwise.nil, (fun x h => nomatch h), fun j h => absurd h (by omega)⟩
  | succ m ih =>
    intro hm
    obtain ⟨h1, h2, h3⟩ := ih (by omega)
    rw [Go.Lib.compactUpTo_succ]
    by_cases hk : Go.Lib.keeps d m = true
    · rw [if_pos hk]
      refine ⟨?_, ?_, ?_⟩
      · rw [List.pairwise_append]
        refine ⟨h1, List.pairwise_singleton _ _, ?_⟩
        intro a ha b hb
        obtain ⟨j, hj, rfl⟩ := h2 a ha
        have : b = d[m]! := by simpa using hb
        subst this
        have hk' : m = 0 ∨ d[m]! ≠ d[m - 1]! := by
          unfold Go.Lib.keeps at hk
          exact of_decide_eq_true hk
        have a1 := hs j (m - 1) (by omega) (by omega)
        have a2 := hs (m - 1) m (by omega) (by omega)
        rcases hk' with e | e
        · omega
        · omega
      · intro x hx
        rcases List.mem_append.1 hx with hx | hx
        · obtain ⟨j, hj, e⟩ := h2 x hx
          exact ⟨j, by omega, e⟩
        · exact ⟨m, by omega, by simpa using hx⟩
      · intro j hj
        rcases (show j < m ∨ j = m by omega) with h | rfl
        · exact List.mem_append.2 (Or.inl (h3 j h))
        · exact List.mem_append.2 (Or.inr (by simp))
    · rw [if_neg hk, List.append_nil]
      refine ⟨h1, fun x hx => by obtain ⟨j, hj, e⟩ := h2 x hx; exact ⟨j, by omega, e⟩, ?_⟩
      intro j hj
      rcases (show j < m ∨ j = m by omega) with h | rfl
      · exact h3 j h
      · have hk' : ¬ (j = 0 ∨ d[j]! ≠ d[j - 1]!) := by
          intro e
          apply hk
          unfold Go.Lib.keeps
          exact decide_eq_true e
        have e1 : j ≠ 0 := fun e => hk' (Or.inl e)
        have e2 : d[j]! = d[j - 1]! := by
          by_cases e : d[j]! = d[j - 1]!
          · exact e
          · exact absurd (Or.inr e) hk'
        rw [e2]
        exact h3 (j - 1) (by omega)
end Go.Proofs.YteaacodloabdcaaGreatDoor

namespace Go.Proofs.YteaacodloabdcaaGreatDoor
/-- Who has some, rising. -/
structure OwnersL (L : List (Option Int)) (O : List Int) : Prop where
  rise : O.Pairwise (· < ·)
  mem : ∀ x, x ∈ O ↔ some x ∈ L
theorem OwnersL.nodup {L : List (Option Int)} {O : List Int} (h : OwnersL L O) : O.Nodup := h.rise.imp (fun h => by omega)
theorem cnt_sum (L : List (Option Int)) (O : List Int) (hn : O.Nodup) (hc : ∀ x, some x ∈ L → x ∈ O) : (O.map (fun o => L.countP (isO o))).sum = L.countP (·.isSome) := by
  induction L with
  | nil =>
    have : ∀ O : List Int, (O.map (fun _ => 0)).sum = 0 := by intro O; induction O with
      | nil => rfl
      | cons a r ih => simp [ih]
    simpa using this O
  | cons y r ih =>
    have ih' := ih (fun x hx => hc x (List.mem_cons_of_mem _ hx))
    cases y with
    | none =>
      have e : ∀ o, (none :: r).countP (isO o) = r.countP (isO o) := by intro o; rw [List.countP_cons_of_neg (by simp [isO])]
      simp only [e]
      rw [ih', List.countP_cons_of_neg (by simp)]
    | some x =>
      have hx : x ∈ O := hc x (List.mem_cons_self ..)
      have e : ∀ o, (some x :: r).countP (isO o) = r.countP (isO o) + (if o = x then 1 else 0) := by
        intro o
        rw [List.countP_cons]
        by_cases h : o = x
        · subst h; simp [isO]
        · rw [if_neg h, if_neg (by simp [isO]; exact fun e => h e.symm)]
      have e2 : ∀ O : List Int, (O.map (fun o => (some x :: r).countP (isO o))).sum = (O.map (fun o => r.countP (isO o))).sum + O.count x := by
        intro O
        induction O with
        | nil => rfl
        | cons a s ih2 =>
          rw [List.map_cons, List.sum_cons, ih2, e, List.map_cons, List.sum_cons, List.count_cons]
          by_cases h : a = x
          · subst h; simp; omega
          · rw [if_neg h, if_neg (by simpa using h)]; omega
      rw [e2, ih', List.countP_cons_of_pos (by rfl), (show O.count x = 1 by have h1 := List.nodup_iff_count.1 hn x; have h2 := List.count_pos_iff.2 hx; omega)]
theorem flat_length (L : List (Option Int)) (O : List Int) : (O.flatMap (ofL L)).length = (O.map (fun o => L.countP (isO o))).sum := by
  rw [List.length_flatMap]
  congr 1
  apply List.map_congr_left
  intro o _
  exact ofL_length L o
theorem flat_nodup (L : List (Option Int)) (O : List Int) (hn : O.Nodup) : (O.flatMap (ofL L)).Nodup := by
  unfold List.Nodup
  rw [List.pairwise_flatMap]
  refine ⟨fun o _ => (idxs_sorted _ _ _).imp (fun h => by omega), ?_⟩
  refine List.Pairwise.imp ?_ hn
  intro a b hab x hx y hy e
  subst e
  obtain ⟨_, u, hu, pu⟩ := (idxs_mem _ _ _ _).1 hx
  obtain ⟨_, v, hv, pv⟩ := (idxs_mem _ _ _ _).1 hy
  rw [hu] at hv
  injection hv with hv
  subst hv
  simp [isO] at pu pv
  rw [pu] at pv
  injection pv with pv
  exact hab pv
/-- What has been seen. -/
def seenL (L : List (Option Int)) (O : List Int) (i k : Nat) : List Nat := (O.take i).flatMap (ofL L) ++ (ofL L (O.getD i 0)).take k
theorem seen_zero (L : List (Option Int)) (O : List Int) : seenL L O 0 0 = [] := rfl
theorem seen_next (L : List (Option Int)) (O : List Int) (i : Nat) (h : i < O.length) : seenL L O i (ofL L (O.getD i 0)).length = seenL L O (i + 1) 0 := by
  unfold seenL
  rw [List.take_length, List.take_zero, List.append_nil, List.take_succ_eq_append_getElem h, List.flatMap_append]
  congr 1
  simp [List.getD, h]
theorem seen_step (L : List (Option Int)) (O : List Int) (i k : Nat) (h : k < (ofL L (O.getD i 0)).length) : seenL L O i (k + 1) = seenL L O i k ++ [(ofL L (O.getD i 0)).getD k 0] := by
  unfold seenL
  rw [List.take_succ_eq_append_getElem h, List.append_assoc]
  congr 2
  generalize ofL L (O.getD i 0) = A at *
  simp [List.getD, h]
theorem seen_pre (L : List (Option Int)) (O : List Int) (i k : Nat) (h : i < O.length) : ∃ R, O.flatMap (ofL L) = seenL L O i k ++ R := by
  refine ⟨(ofL L (O.getD i 0)).drop k ++ (O.drop (i + 1)).flatMap (ofL L), ?_⟩
  have e : O = O.take i ++ O.getD i 0 :: O.drop (i + 1) := by
    have : O.getD i 0 = O[i] := by simp [List.getD, h]
    rw [this]
    simp
  conv => lhs; rw [e, List.flatMap_append, List.flatMap_cons]
  unfold seenL
  conv => lhs; rw [← List.take_append_drop k (ofL L (O.getD i 0))]
  simp only [List.append_assoc]
theorem seen_new {L : List (Option Int)} {O : List Int} (ho : OwnersL L O) (i k : Nat) (h : i < O.length) (hk : k < (ofL L (O.getD i 0)).length) : (ofL L (O.getD i 0)).getD k 0 ∉ seenL L O i k := by
  obtain ⟨R, hR⟩ := seen_pre L O i (k + 1) h
  have hn := flat_nodup L O ho.nodup
  rw [hR, seen_step L O i k hk, List.append_assoc] at hn
  intro hm
  exact (List.nodup_append.1 hn).2.2 _ hm _ (by simp) rfl
theorem seen_all {L : List (Option Int)} {O : List Int} (ho : OwnersL L O) : (seenL L O O.length 0).length + frees L = L.length := by
  unfold seenL
  rw [List.take_length, List.take_zero, List.append_nil, flat_length, cnt_sum L O ho.nodup (fun x hx => (ho.mem x).2 hx)]
  have : ∀ L : List (Option Int), L.countP (·.isSome) + frees L = L.length := by
    intro L
    induction L with
    | nil => rfl
    | cons x r ih =>
      unfold frees at *
      cases x with
      | none => rw [List.countP_cons_of_neg (by simp), List.countP_cons_of_pos (by rfl), List.length_cons]; omega
      | some a => rw [List.countP_cons_of_pos (by rfl), List.countP_cons_of_neg (by simp), List.length_cons]; omega
  exact this L
theorem owner_has {L : List (Option Int)} {O : List Int} (ho : OwnersL L O) (i : Nat) (h : i < O.length) : 0 < (ofL L (O.getD i 0)).length := by
  rw [ofL_length, List.countP_pos_iff]
  refine ⟨some (O.getD i 0), (ho.mem _).1 ?_, by simp [isO]⟩
  have : O.getD i 0 = O[i] := by simp [List.getD, h]
  rw [this]
  exact List.getElem_mem h
theorem owner_rise {L : List (Option Int)} {O : List Int} (ho : OwnersL L O) (i : Nat) (h0 : 0 < i) (h : i < O.length) : O.getD (i - 1) 0 < O.getD i 0 := by
  have := List.pairwise_iff_getElem.1 ho.rise (i - 1) i (by omega) h (by omega)
  simpa [List.getD, h, show i - 1 < O.length by omega] using this
theorem of_rise (L : List (Option Int)) (o : Int) (k : Nat) (h0 : 0 < k) (h : k < (ofL L o).length) : (ofL L o).getD (k - 1) 0 < (ofL L o).getD k 0 := by
  have := List.pairwise_iff_getElem.1 (idxs_sorted (isO o) L 0) (k - 1) k (by unfold ofL at h; omega) h (by omega)
  have h2 : k - 1 < (ofL L o).length := by omega
  simp only [List.getD, List.getElem?_eq_getElem h, List.getElem?_eq_getElem h2, Option.getD_some]
  exact this
/-- A list of numbers, in order, each once. -/
theorem owners_of (L : List (Option Int)) (S C : List Int) (hp : S.Perm (L.filterMap id)) (hr : C.Pairwise (· < ·)) (hm : ∀ x, x ∈ C ↔ x ∈ S) : OwnersL L C := ⟨hr, fun x => by
  rw [hm, hp.mem_iff, List.mem_filterMap]
  exact ⟨fun ⟨a, ha, e⟩ => by
    have : a = some x := e
    rw [this] at ha; exact ha, fun h => ⟨some x, h, rfl⟩⟩⟩
end Go.Proofs.YteaacodloabdcaaGreatDoor

namespace Go.Proofs.YteaacodloabdcaaGreatDoor
open Go.RowKit Go.Maps Go.Sort

theorem intsBlock {w : World} {lo g n c : Nat} {A : List Int} (h : IntsR w lo (.slice (some ⟨g, 0, none⟩) n c) A) : A.length = n ∧ lo ≤ g ∧ ∃ cur : Array Value, w.heap[g]? = some (.cells cur 3 (0, 0)) ∧ n ≤ c ∧ c ≤ maxLen ∧ cur.size = c * 1 ∧ cur.toList.take (n * 1) = A.map (Value.int .i64) := by
  rcases h.2 with ⟨e, _⟩ | ⟨g', cap, cur, e, hlo, hH, hc, hcm, hcs, htk⟩
  · cases e
  · injection e with a1 a2 a3
    injection a1 with a1
    injection a1 with a1
    subst a1 a3
    subst a2
    exact ⟨rfl, hlo, cur, hH, hc, hcm, hcs, htk⟩
theorem ints_holds {w : World} {lo g n c : Nat} {A : List Int} (h : IntsR w lo (.slice (some ⟨g, 0, none⟩) n c) A) : Holds (Value.int .i64) w g 0 A.toArray := by
  obtain ⟨hn, hlo, cur, hH, hc, hcm, hcs, htk⟩ := intsBlock h
  intro j hj
  have hj' : j < A.length := by simpa using hj
  refine ⟨?_, frozen_of_row _ _ _ _ 3 hH⟩
  rw [Nat.zero_add, cell_of_row _ _ j _ 3 (0, 0) hH]
  have : (cur.toList.take (n * 1))[j]? = some (.int .i64 A[j]) := by
    rw [htk, List.getElem?_map, List.getElem?_eq_getElem hj']; rfl
  rw [List.getElem?_take, if_pos (by omega)] at this
  rw [getElem!_pos A.toArray j hj]
  simpa using this
/-- slices.Sort at numbers. -/
theorem sortI_at {w : World} {lo g n c : Nat} {A : List Int} (h : IntsR w lo (.slice (some ⟨g, 0, none⟩) n c) A) (hl : n ≤ 1000000) :
    Calls Tryz.prog 50 #[.slice (some ⟨g, 0, none⟩) n c] w fun e w' => e = .returned (.tuple #[]) ∧ ∃ B, B.Perm A ∧ B.Pairwise (· ≤ ·) ∧ IntsR w' lo (.slice (some ⟨g, 0, none⟩) n c) B ∧ Keeps (fun i => i = g) w w' := by
  have hHo := ints_holds h
  obtain ⟨hn, hlo, cur, hH, hc, hcm, hcs, htk⟩ := intsBlock h
  have hgl : g < w.heap.size := (Array.getElem?_eq_some_iff.1 hH).1
  have hcon := AnyM.slices_Sort_int Tryz.sortA g 0 c A w hHo hgl (by omega)
  rw [hn] at hcon
  refine hcon.mono ?_
  rintro e w' ⟨rfl, q, os, hw⟩
  have hp : (A.mergeSort fun x y => decide (x ≤ y)).Perm A := List.mergeSort_perm _ _
  have hs : (A.mergeSort fun x y => decide (x ≤ y)).Pairwise (fun a b => (decide (a ≤ b)) = true) := List.pairwise_mergeSort (fun a b c h1 h2 => by simp at *; omega) (fun a b => by simp; omega) _
  have hs2 : (A.mergeSort fun x y => decide (x ≤ y)).Pairwise (· ≤ ·) := hs.imp (fun h => of_decide_eq_true h)
  generalize (A.mergeSort fun x y => decide (x ≤ y)) = B at *
  have hlen := hp.length_eq
  have hblk : w'.heap[g]? = some (.cells (putCells (Value.int .i64) 0 B.toArray cur) 3 (0, 0)) := by
    rw [hw]
    unfold putRow mapBlock grow Sort.ahead
    simp only [Array.getElem?_append, Array.size_modify, hgl, if_true, Array.getElem?_modify, hH, Option.map_some]
    rfl
  have hkeep : Keeps (fun i => i = g) w w' := by
    rw [hw]
    unfold putRow mapBlock grow Sort.ahead
    refine ⟨rfl, rfl, rfl, by simp, fun i hi hs => ?_⟩
    simp only [Array.getElem?_append, Array.size_modify, hi, if_true, Array.getElem?_modify]
    rw [if_neg (fun e => hs e.symm)]
  refine ⟨rfl, B, hp, hs2, ⟨by simp, .inr ⟨g, c, _, by rw [hlen, hn], hlo, hblk, by omega, hcm, by simp [putCells]; omega, ?_⟩⟩, hkeep⟩
  rw [Nat.mul_one]
  exact take_putCellsI cur B (by omega)
/-- slices.Compact at numbers. -/
theorem compI_at {w : World} {lo g n c : Nat} {A : List Int} (h : IntsR w lo (.slice (some ⟨g, 0, none⟩) n c) A) (hl : n ≤ 1000000) (hs : A.Pairwise (· ≤ ·)) :
    Calls Tryz.prog 51 #[.slice (some ⟨g, 0, none⟩) n c] w fun e w' => ∃ C, e = .returned (.slice (some ⟨g, 0, none⟩) C.length c) ∧ C.Pairwise (· < ·) ∧ (∀ x, x ∈ C ↔ x ∈ A) ∧ IntsR w' lo (.slice (some ⟨g, 0, none⟩) C.length c) C ∧ Keeps (fun i => i = g) w w' := by
  have hHo := ints_holds h
  obtain ⟨hn, hlo, cur, hH, hc, hcm, hcs, htk⟩ := intsBlock h
  have hgl : g < w.heap.size := (Array.getElem?_eq_some_iff.1 hH).1
  have hcon := AnyG.slices_Compact_int Tryz.compactI g 0 c A w hHo (by omega) (by omega)
  rw [hn] at hcon
  refine hcon.mono ?_
  rintro e w' ⟨rfl, q, hw⟩
  have hsz : A.toArray.size = A.length := by simp
  obtain ⟨p1, p2, p3⟩ := compact_sorted A.toArray (fun i j hij hj => by
    have hj' : j < A.length := by simpa using hj
    rw [getElem!_pos A.toArray j hj, getElem!_pos A.toArray i (by omega)]
    by_cases e : i = j
    · subst e; exact Int.le_refl _
    · have := List.pairwise_iff_getElem.1 hs i j (by omega) hj' (by omega)
      simpa using this) A.length (by simp)
  have hcl : (Go.Lib.compactUpTo A.toArray A.length).length ≤ A.length := by
    unfold Go.Lib.compactUpTo
    rw [List.length_map]
    exact Nat.le_trans (List.length_filter_le _ _) (by simp)
  have hCe : Go.Lib.compact A = Go.Lib.compactUpTo A.toArray A.length := rfl
  rw [hCe] at hw ⊢
  have hm : ∀ x, x ∈ Go.Lib.compactUpTo A.toArray A.length ↔ x ∈ A := fun x => by
    constructor
    · intro hx
      obtain ⟨j, hj, rfl⟩ := p2 x hx
      rw [getElem!_pos A.toArray j (by simpa using hj)]
      simp
    · intro hx
      obtain ⟨j, hj, rfl⟩ := List.getElem_of_mem hx
      have := p3 j hj
      rw [getElem!_pos A.toArray j (by simpa using hj)] at this
      simpa using this
  generalize Go.Lib.compactUpTo A.toArray A.length = C at *
  have hlen : (C ++ List.replicate (n - C.length) 0).length = n := by rw [List.length_append, List.length_replicate]; omega
  have hblk : w'.heap[g]? = some (.cells (putCells (Value.int .i64) 0 (C ++ List.replicate (n - C.length) 0).toArray cur) 3 (0, 0)) := by
    rw [hw]
    unfold putRow mapBlock Sort.ahead
    simp only [Array.getElem?_modify, hH, Option.map_some, if_true]
    rfl
  have hkeep : Keeps (fun i => i = g) w w' := by
    rw [hw]
    unfold putRow mapBlock Sort.ahead
    refine ⟨rfl, rfl, rfl, by simp, fun i hi hs => ?_⟩
    simp only [Array.getElem?_modify]
    rw [if_neg (fun e => hs e.symm)]
  refine ⟨C, rfl, p1, hm, ⟨by simp, .inr ⟨g, c, _, rfl, hlo, hblk, by omega, hcm, by simp [putCells]; omega, ?_⟩⟩, hkeep⟩
  have ht := take_putCellsI cur (C ++ List.replicate (n - C.length) 0) (by omega)
  rw [hlen] at ht
  have h2 : ((putCells (Value.int .i64) 0 (C ++ List.replicate (n - C.length) 0).toArray cur).toList.take n).take (C.length * 1) = C.map (Value.int .i64) := by
    rw [ht, Nat.mul_one, List.map_append, List.take_left' (by simp)]
  rw [List.take_take] at h2
  rw [← h2]
  congr 1
  omega
end Go.Proofs.YteaacodloabdcaaGreatDoor

namespace Go.Proofs.YteaacodloabdcaaGreatDoor
open Go.RowKit Go.Maps

/-- Whose the blocks are, as they stand. -/
def takersL (L : List (Option Int)) : List Int := L.filterMap id
def OwI (L : List (Option Int)) (j : Nat) (v : Value) (w wr : World) : Prop := IntsR wr w.heap.size v (takersL (L.take j)) ∧ Below w.heap.size w wr
theorem takersL_step (L : List (Option Int)) (j : Nat) (h : j < L.length) : takersL (L.take (j + 1)) = takersL (L.take j) ++ (match L[j] with | none => [] | some p => [p]) := by
  unfold takersL
  rw [List.take_succ_eq_append_getElem h, List.filterMap_append]
  congr 1
  cases L[j] <;> rfl
theorem takersL_len (L : List (Option Int)) : (takersL L).length ≤ L.length := List.length_filterMap_le _ _
theorem own_nil (w : World) : Calls Tryz.prog 24 #[.pointer none] w fun e w' => e = .returned (.slice none 0 0) ∧ w' = w := by
  go_enter Tryz.func24, Tryz.ntmps24
  go_wp2
  go_ret
  exact ⟨rfl, rfl⟩
set_option maxRecDepth 100000 in
set_option maxHeartbeats 2000000 in
theorem owners_at {w : World} {pb gb n : Nat} {L : List (Option Int)} (h : PoolAt w pb gb n L) :
    Calls Tryz.prog 24 #[.pointer (some ⟨pb, 0, none⟩)] w fun e w' => ∃ v O, e = .returned v ∧ OwnersL L O ∧ IntsR w' w.heap.size v O ∧ Below w.heap.size w w' := by
  have H : Hid (PoolAt w pb gb n L) := h
  have c0 := h.c0
  have hn := h.n1
  have HI0 : Hid (OwI L 0 (.slice none 0 0) w w) := ⟨IntsR.nil w _, Below.refl _ _⟩
  obtain ⟨i0, hi, hz0, hz1, hz2⟩ := info_parts infoInt
  clear h
  go_enter Tryz.func24, Tryz.ntmps24
  go_wp2_with fail
  go_loopw [3, 13] (fun s3 s13 wr => ∃ j : Nat, j ≤ n ∧ s13 = .int .i64 j ∧ Hid (OwI L j s3 w wr)) (fun _ s13 _ => n - (RowKit.intOf s13).toNat)
  case atStart => exact ⟨0, Nat.zero_le _, rfl, HI0⟩
  case round =>
    clear HI0
    obtain ⟨j, hj, rfl, HI⟩ := hrel
    by_cases hlt : j < n
    · have hb := HI.out.2
      have hP := H.out.below hb
      have hjL : j < L.length := by have := hP.len; omega
      obtain ⟨f0, f1⟩ := hP.cells j L[j] (List.getElem?_eq_getElem hjL)
      have HF : Hid (takersL (L.take (j + 1)) = takersL (L.take j) ++ (match L[j] with | none => [] | some p => [p])) := takersL_step L j hjL
      generalize L[j] = x at f0 f1 HF
      clear hb hP
      cases x with
      | none =>
        have HN : Hid (OwI L (j + 1) u3 w (wr.alloc (.cells #[.bool false, .int .i64 0] 89))) := by
          have hbA : Below wr.heap.size wr (wr.alloc (.cells #[.bool false, .int .i64 0] 89)) := (Below.refl _ _).alloc (Nat.le_refl _) _
          refine ⟨?_, HI.out.2.trans (hbA.mono HI.out.2.size)⟩
          rw [HF.out]
          show IntsR _ _ _ (_ ++ [])
          rw [List.append_nil]
          exact HI.out.1.below hbA
        clear HI HF
        go_wp2_with fail
        exact ⟨⟨j + 1, hlt, rfl, HN⟩, by simp [RowKit.intOf]; omega⟩
      | some p =>
        have hbA : Below wr.heap.size wr (wr.alloc (.cells #[.bool true, .int .i64 p] 89)) := (Below.refl _ _).alloc (Nat.le_refl _) _
        have hbwA : Below w.heap.size w (wr.alloc (.cells #[.bool true, .int .i64 p] 89)) := HI.out.2.trans (hbA.mono HI.out.2.size)
        have hRA := HI.out.1.below hbA
        have HF2 : Hid (takersL (L.take (j + 1)) = takersL (L.take j) ++ [p]) := HF.out
        have hal : (takersL (L.take j)).length ≤ 1000 := by
          have := takersL_len (L.take j)
          rw [List.length_take] at this
          omega
        generalize takersL (L.take j) = T at *
        have hbB : Below (wr.alloc (.cells #[.bool true, .int .i64 p] 89)).heap.size (wr.alloc (.cells #[.bool true, .int .i64 p] 89)) ((wr.alloc (.cells #[.bool true, .int .i64 p] 89)).alloc (.cells #[.int .i64 p] 3)) := (Below.refl _ _).alloc (Nat.le_refl _) _
        have HO : Hid (((wr.alloc (.cells #[.bool true, .int .i64 p] 89)).alloc (.cells #[.int .i64 p] 3)).ownsRow w.heap.size 3 1 u3 T.length (T.map (Value.int .i64))) := (show IntsR _ _ _ T from hRA).below hbB
        have HB : Hid (Below w.heap.size w ((wr.alloc (.cells #[.bool true, .int .i64 p] 89)).alloc (.cells #[.int .i64 p] 3))) := hbwA.trans (hbB.mono hbwA.size)
        have hq2 : T.length + 1 ≤ maxLen := by unfold maxLen; omega
        have hq3 : (T.length + 1) * 8 ≤ 140737488355328 := by omega
        have hq4 : w.heap.size ≤ ((wr.alloc (.cells #[.bool true, .int .i64 p] 89)).alloc (.cells #[.int .i64 p] 3)).heap.size := HB.out.size
        clear hRA hbA hbwA hbB HI HF hal
        go_wp2_with (at_builtin; refine wpList_append_own _ rfl _ _ 47 rfl w.heap.size 3 i0 (.int .i64 0) 1 8 Tryz.underlying47 hi hz0 hz1 hz2 rfl (by decide) _ _ _ rfl HO.out ⟨wr.heap.size + 1, 0, none⟩ 1 1 [.int .i64 p] rfl rfl (one_newW _ _ _ _) (fun u hu => by cases hu with | head => rfl | tail _ h => cases h) hq2 hq3 hq4 ?_)
        intro v1 w5 hown1 hg1 hnil1
        have HN : Hid (OwI L (j + 1) v1 w w5) := by
          refine ⟨?_, HB.out.grown hg1 hq4 (fun k e => ownsRow_low HO.out k e)⟩
          rw [HF2.out]
          show World.ownsRow _ _ _ _ _ _ _
          rw [List.length_append, List.map_append]
          exact hown1
        clear hown1 hg1 hnil1 HO HB hq2 hq3 hq4 HF2
        go_wp2_with fail
        exact ⟨⟨j + 1, hlt, rfl, HN⟩, by simp [RowKit.intOf]; omega⟩
    · obtain rfl : j = n := by omega
      have HN : Hid (IntsR wr w.heap.size u3 (takersL L) ∧ Below w.heap.size w wr) := by
        have := HI.out
        unfold OwI at this
        rw [← H.out.len, List.take_length] at this
        exact this
      have hT : (takersL L).length ≤ 1000 := by have := takersL_len L; have := H.out.len; omega
      have HW : Hid (∀ S C : List Int, S.Perm (takersL L) → C.Pairwise (· < ·) → (∀ x, x ∈ C ↔ x ∈ S) → OwnersL L C) := fun S C h1 h2 h3 => owners_of L S C h1 h2 h3
      clear HI
      generalize takersL L = T at *
      rcases HN.out.1.2 with ⟨e0, hT0⟩ | ⟨g, cap, cur, e0, hrest⟩
      · subst e0
        have HO : Hid (OwnersL L []) := by
          have hT1 : T = [] := List.eq_nil_of_length_eq_zero hT0
          exact HW.out [] [] (by rw [hT1]) List.Pairwise.nil (fun x => Iff.rfl)
        go_wp2_with fail
        refine (AnyM.slices_Sort_int_none Tryz.sortA none 0 wr).mono ?_
        rintro e w2 ⟨rfl, rfl⟩
        go_wp2_with fail
        refine (Go.Proofs.AnyG.slices_Compact_int_empty Tryz.compactI none 0 w2).mono ?_
        rintro e w3 ⟨rfl, rfl⟩
        go_wp2_with fail
        go_ret
        exact ⟨_, [], rfl, HO.out, IntsR.nil _ _, HN.out.2⟩
      · subst e0
        have hI : IntsR wr w.heap.size (.slice (some ⟨g, 0, none⟩) T.length cap) T := HN.out.1
        have hlo : w.heap.size ≤ g := hrest.1
        obtain ⟨m, hm⟩ : ∃ m, T.length = m := ⟨_, rfl⟩
        rw [hm] at hI hT ⊢
        have HI : Hid (IntsR wr w.heap.size (.slice (some ⟨g, 0, none⟩) m cap) T) := hI
        have HB : Hid (Below w.heap.size w wr) := HN.out.2
        clear HN hI hrest hm
        go_wp2_with fail
        refine (sortI_at HI.out (by omega)).mono ?_
        rintro e w2 ⟨rfl, B, hp, hs, hB, hk⟩
        have HB2 : Hid (Below w.heap.size w w2) := HB.out.trans (hk.below HB.out.size (fun i e => by omega))
        go_wp2_with fail
        refine (compI_at hB (by omega) hs).mono ?_
        rintro e w3 ⟨C, rfl, h1, h2, h3, hk3⟩
        have HB3 : Hid (Below w.heap.size w w3) := HB2.out.trans (hk3.below HB2.out.size (fun i e => by omega))
        have HC : Hid (OwnersL L C ∧ IntsR w3 w.heap.size (.slice (some ⟨g, 0, none⟩) C.length cap) C) := ⟨HW.out B C hp h1 h2, h3⟩
        clear hp hs hB hk h1 h2 h3 hk3
        go_wp2_with fail
        go_ret
        exact ⟨_, C, rfl, HC.out.1, HC.out.2, HB3.out⟩
end Go.Proofs.YteaacodloabdcaaGreatDoor
