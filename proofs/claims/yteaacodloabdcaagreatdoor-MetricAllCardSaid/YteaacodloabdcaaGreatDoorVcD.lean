import Derived.Test.YteaacodloabdcaaGreatDoorVcA
import Derived.Test.YteaacodloabdcaaGreatDoorPlA
namespace Go.Proofs.YteaacodloabdcaaGreatDoor
open Go.RowKit Go.Maps

theorem VecR.set {w : World} {lo g n c : Nat} {A : List Int} (h : VecR w lo (.slice (some ⟨g, 0, none⟩) n c) A) (j : Nat) (x : Int) : VecR (w.setCell ⟨g, j, none⟩ (.int .i32 x)) lo (.slice (some ⟨g, 0, none⟩) n c) (A.set j x) := by
  have hl : A.length = n := by
    rcases h.2 with ⟨e, _⟩ | ⟨g', cap, cur, e, _⟩
    · cases e
    · injection e with _ e _
      exact e.symm
  have h0 : w.ownsRow lo 21 1 (.slice (some ⟨g, 0, none⟩) n c) n (A.map (Value.int .i32)) := by
    have h := h
    unfold VecR at h
    rw [hl] at h
    exact h
  have := (h0.stored j (.int .i32 x)).1
  rw [← List.map_set] at this
  show World.ownsRow _ _ _ _ _ _ _
  rw [List.length_set, hl]
  exact this
theorem VecR.soft {w : World} {lo g n c : Nat} {A : List Int} (h : VecR w lo (.slice (some ⟨g, 0, none⟩) n c) A) (o : Nat) : w.frozen? ⟨g, o, none⟩ = false := by
  rcases h.2 with ⟨e, _⟩ | ⟨g', cap, cur, e, _, hH, _⟩
  · cases e
  · injection e with e _ _
    injection e with e
    injection e with e
    subst e
    exact frozen_of_row _ _ o _ 21 hH
theorem VecR.cell {w : World} {lo g n c : Nat} {A : List Int} (h : VecR w lo (.slice (some ⟨g, 0, none⟩) n c) A) (j : Nat) (hj : j < A.length) : w.cell? ⟨g, j, none⟩ = some (.int .i32 (A.getD j 0)) := by
  rcases h.2 with ⟨e, _⟩ | ⟨g', cap, cur, e, hg, hH, hc, _, _, htk⟩
  · cases e
  · injection e with e _ _
    injection e with e
    injection e with e
    subst e
    rw [cell_of_row _ _ j _ 21 (0, 0) hH]
    have : (cur.toList.take (A.length * 1))[j]? = some (.int .i32 (A.getD j 0)) := by
      rw [htk, List.getElem?_map, List.getElem?_eq_getElem hj]; simp [List.getD, hj]
    rw [List.getElem?_take, if_pos (by omega)] at this
    simpa using this
def vrow (n : Nat) : Array Value := (List.replicate n (Value.int .i32 0)).toArray
theorem mkVec (n : Nat) (h : n ≤ 1000) (w : World) : (Instr.makeSlice 23 (.int .i64 n) (.int .i64 n)).run Tryz.prog w = .ok (.slice (some ⟨w.heap.size, 0, none⟩) n n) (w.alloc (.cells (vrow n) 21)) := by
  have hx := infoI32
  cases hq : Tryz.prog.info? 21 with
  | none => rw [hq] at hx; cases hx
  | some i =>
    rw [hq] at hx
    simp only [Option.map_some, Option.some.injEq, Prod.mk.injEq] at hx
    obtain ⟨h1, h2, h3⟩ := hx
    rw [run_make w 23 21 i _ Tryz.underlying23 hq h1 .i64 .i64 n n (by omega) (by omega) (by rw [h3]; omega) (by omega)]
    have e : madeCells (Value.int .i32 0).cells ((n : Int).toNat * i.size) = vrow n := by
      rw [h2]
      show madeCells #[.int .i32 0] (n * 1) = _
      unfold madeCells vrow
      apply Array.ext
      · simp
      · intro j hj1 hj2
        simp [Nat.mod_one]
    rw [e]
    simp
theorem new_vec (n : Nat) (h : n ≤ 1000) (w : World) : VecR (w.alloc (.cells (vrow n) 21)) w.heap.size (.slice (some ⟨w.heap.size, 0, none⟩) n n) (List.replicate n 0) := by
  show World.ownsRow _ _ _ _ _ _ _
  refine ⟨by simp, .inr ⟨w.heap.size, n, vrow n, by simp, Nat.le_refl _, heap_alloc_last w _, by simp, by unfold maxLen; omega, by simp [vrow], by simp [vrow]⟩⟩
/-- What the law makes of a number. -/
def clampI (x : Int) : Int := max (-1048576) (min x 1048576)
def clampA (A : List Int) (d : Nat) : List Int := (List.range d).map (fun i => clampI (A.getD i 0))
theorem clampA_length (A : List Int) (d : Nat) : (clampA A d).length = d := by simp [clampA]
theorem clampA_getD (A : List Int) (d i : Nat) (h : i < d) : (clampA A d).getD i 0 = clampI (A.getD i 0) := by
  unfold clampA
  simp [List.getD, h]
theorem clampA_fit (A : List Int) (d : Nat) : ∀ x ∈ clampA A d, -1048576 ≤ x ∧ x ≤ 1048576 := by
  intro x hx
  obtain ⟨i, _, rfl⟩ := List.mem_map.1 hx
  unfold clampI
  omega
/-- How far the law's own Vec has come. -/
structure VecI (w wr : World) (g d j : Nat) (A B : List Int) : Prop where
  row : VecR wr g (.slice (some ⟨g, 0, none⟩) d d) B
  len : B.length = d
  at_ : ∀ i, i < d → B.getD i 0 = if i < j then clampI (A.getD i 0) else 0
  u : Below w.heap.size w wr
  g0 : w.heap.size ≤ g
theorem VecI.step {w wr : World} {g d j : Nat} {A B : List Int} (h : VecI w wr g d j A B) (hj : j < d) : VecI w (wr.setCell ⟨g, j, none⟩ (.int .i32 (clampI (A.getD j 0)))) g d (j + 1) A (B.set j (clampI (A.getD j 0))) where
  row := h.row.set j _
  len := by rw [List.length_set]; exact h.len
  at_ := fun i hi => by
    have h1 := h.at_ i hi
    have hl := h.len
    by_cases e : i = j
    · subst e
      simp [List.getD, hl, hj]
    · have e2 : (B.set j (clampI (A.getD j 0))).getD i 0 = B.getD i 0 := by
        simp only [List.getD]
        rw [List.getElem?_set_ne (by omega)]
      rw [e2, h1]
      by_cases h2 : i < j
      · rw [if_pos h2, if_pos (by omega)]
      · rw [if_neg h2, if_neg (by omega)]
  u := h.u.trans ((Keeps.setCell (p := ⟨g, j, none⟩) (Keeps.refl (fun i => i = g) wr) rfl _).below h.u.size (fun i e => by have := h.g0; omega))
  g0 := h.g0
theorem VecI.done {w wr : World} {g d j : Nat} {A B : List Int} (h : VecI w wr g d j A B) (hj : j = d ∨ A.length ≤ j) : B = clampA A d := by
  refine getD_ext (by rw [h.len, clampA_length]) (fun i hi => ?_)
  rw [h.len] at hi
  rw [h.at_ i hi, clampA_getD A d i hi]
  split
  · rfl
  · rename_i hn
    have : A.length ≤ i := by omega
    have e : A.getD i 0 = 0 := by simp [List.getD, List.getElem?_eq_none this]
    rw [e]
    rfl
set_option maxRecDepth 100000 in
set_option maxHeartbeats 4000000 in
theorem vec_at {w : World} {a : Option Addr} {n c : Nat} {A : List Int} (h : VecAt w a n c A) (d : Nat) (hd : d ≤ 1000) :
    Calls Tryz.prog 8 #[.slice a n c, .int .i64 d] w fun e w' => ∃ g, e = .returned (.slice (some ⟨g, 0, none⟩) d d) ∧ w.heap.size ≤ g ∧ VecR w' g (.slice (some ⟨g, 0, none⟩) d d) (clampA A d) ∧ Below w.heap.size w w' := by
  have HA : Hid (VecAt w a n c A) := h
  have hmk := fun w => mkVec d hd w
  have HI0 : Hid (∃ B, VecI w (w.alloc (.cells (vrow d) 21)) w.heap.size d 0 A B) :=
    ⟨List.replicate d 0, new_vec d hd w, by simp, fun i hi => by simp [List.getD, hi], (Below.refl _ w).alloc (Nat.le_refl _) _, Nat.le_refl _⟩
  clear h
  go_enter Tryz.func8, Tryz.ntmps8
  go_wp2_with fail
  generalize w.alloc (.cells (vrow d) 21) = w1 at *
  go_loopw [6] (fun s6 wr => ∃ j : Nat, j ≤ d ∧ s6 = .int .i64 j ∧ Hid (∃ B, VecI w wr w.heap.size d j A B)) (fun s6 _ => d - (RowKit.intOf s6).toNat)
  case atStart => exact ⟨0, Nat.zero_le _, rfl, HI0⟩
  case round =>
    clear HI0
    obtain ⟨j, hj, rfl, HI⟩ := hrel
    obtain ⟨B, hB⟩ := HI.out
    clear HI
    by_cases hlt : j < d ∧ j < n
    · obtain ⟨hlt, hlt2⟩ := hlt
      obtain ⟨b, o, rfl, hb, hc, f1, f2⟩ := HA.out.cell j hlt2
      have d0 := (hB.u.cell (p := ⟨b, o + j, none⟩) hb).trans hc
      have d1 := hB.row.cell j (by rw [hB.len]; exact hlt)
      have d2 := hB.row.soft j
      have HN : Hid (∃ B, VecI w (wr.setCell ⟨w.heap.size, j, none⟩ (.int .i32 (max (-1048576) (min (A.getD j 0) 1048576)))) w.heap.size d (j + 1) A B) := ⟨_, hB.step hlt⟩
      clear hB hb hc
      generalize A.getD j 0 = x at *
      go_wp2_with fail
      exact ⟨⟨j + 1, hlt, rfl, HN⟩, by simp [RowKit.intOf]; omega⟩
    · have hD := hB.done (by have := HA.out.len; omega)
      subst hD
      have HR : Hid (VecI w wr w.heap.size d j A (clampA A d)) := hB
      clear hB
      rcases (show (¬ (j:Int) < d) ∨ ((j:Int) < d ∧ ¬ (j:Int) < n) by omega) with q1 | ⟨q1, q2⟩
      · clear hlt
        go_wp2_with fail
        go_ret
        exact ⟨_, rfl, Nat.le_refl _, HR.out.row, HR.out.u⟩
      · clear hlt
        go_wp2_with fail
        go_ret
        exact ⟨_, rfl, Nat.le_refl _, HR.out.row, HR.out.u⟩
end Go.Proofs.YteaacodloabdcaaGreatDoor
