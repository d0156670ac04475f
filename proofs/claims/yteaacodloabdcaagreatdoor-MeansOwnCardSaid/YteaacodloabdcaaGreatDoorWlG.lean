import Derived.Test.YteaacodloabdcaaGreatDoorWlA
namespace Go.Proofs.YteaacodloabdcaaGreatDoor
open Go.RowKit Go.Maps

/-- The cell of a mark as it is laid. -/
def zmk : Obj := .cells #[.int .i64 0, .int .i64 0, .int .i64 0, .int .i64 0] 80
theorem zmk_cells {w : World} {r : Nat} (h : w.heap[r]? = some (.cells #[.int .i64 0, .int .i64 0, .int .i64 0, .int .i64 0] 183)) : (w.cell? ⟨r, 0, none⟩ = some (.int .i64 0) ∧ w.cell? ⟨r, 1, none⟩ = some (.int .i64 0) ∧ w.cell? ⟨r, 2, none⟩ = some (.int .i64 0) ∧ w.cell? ⟨r, 3, none⟩ = some (.int .i64 0)) ∧ (∀ q, w.frozen? ⟨r, q, none⟩ = false) :=
  ⟨⟨by rw [cell_of_row _ _ 0 _ 183 (0, 0) h]; rfl, by rw [cell_of_row _ _ 1 _ 183 (0, 0) h]; rfl, by rw [cell_of_row _ _ 2 _ 183 (0, 0) h]; rfl, by rw [cell_of_row _ _ 3 _ 183 (0, 0) h]; rfl⟩, fun q => by unfold World.frozen?; rw [h]; simp⟩
theorem heap_keep_alloc {w : World} {r : Nat} {o : Obj} (h : w.heap[r]? = some o) (C : Obj) : (w.alloc C).heap[r]? = some o := (Below.heap_alloc _ _ _ (Array.getElem?_eq_some_iff.1 h).1).trans h
theorem told_some {B : List UInt8} {A : List Int} (h : told B = some A) : ∃ t, (newestOf (sec B 0) (sec B 1)).2 = some (t, A) := by
  unfold told at h
  cases hn : (newestOf (sec B 0) (sec B 1)).2 with
  | none => rw [hn] at h; cases h
  | some c => obtain ⟨t, ns⟩ := c; rw [hn] at h; simp only [Option.map_some, Option.some.injEq] at h; subst h; exact ⟨t, rfl⟩
theorem results_cell1 {fn : Func} {p : Tmp} {ty : TypeId} (h : fn.results = #[.cell p ty]) (tmps : Array Value) (P : Program) (w : World) :
    (results fn tmps).run P w = ((asAddr (tmps.getD p undef)).run P w).andThen fun a w₁ => (loadVar ty a).run P w₁ := by
  simp only [results, h]
  simp [Sem.run_bind]
theorem res_mark1 {fn : Func} {p : Tmp} (h : fn.results = #[.cell p 183]) (tmps : Array Value) (w : World) (r : Nat) (u0 u1 u2 u3 : Value) (hp : tmps.getD p undef = .pointer (some ⟨r, 0, none⟩)) (h0 : w.cell? ⟨r, 0, none⟩ = some u0) (h1 : w.cell? ⟨r, 1, none⟩ = some u1) (h2 : w.cell? ⟨r, 2, none⟩ = some u2) (h3 : w.cell? ⟨r, 3, none⟩ = some u3) :
    (results fn tmps).run Tryz.prog w = .ok (.agg #[u0, u1, u2, u3]) w := by
  rw [results_cell1 h, hp]
  have ha : (asAddr (.pointer (some ⟨r, 0, none⟩))).run Tryz.prog w = .ok ⟨r, 0, none⟩ w := rfl
  rw [ha]
  simp only [Result.andThen]
  rw [load80 r u0 u1 u2 u3 w h0 h1 h2 h3]
set_option maxRecDepth 100000 in
set_option maxHeartbeats 1000000 in
theorem now_over {w : World} {lb db n sb : Nat} {a z x y : Int} (h : LgAt w lb db n sb true a z x y) : Calls Tryz.prog 126 #[.pointer (some ⟨lb, 0, none⟩)] w fun e w' => e = .returned (mkV a z x y) ∧ Below w.heap.size w w' := by
  have hll := h.lt
  go_enter Tryz.func126, Tryz.ntmps126
  go_wp2_with fail
  have hA := heap_alloc_last w (.cells #[.int .i64 0, .int .i64 0, .int .i64 0, .int .i64 0] 183)
  have hbA : Below w.heap.size w (w.alloc (.cells #[.int .i64 0, .int .i64 0, .int .i64 0, .int .i64 0] 183)) := (Below.refl _ w).alloc (Nat.le_refl _) _
  have hsA : (w.alloc (.cells #[.int .i64 0, .int .i64 0, .int .i64 0, .int .i64 0] 183)).heap.size = w.heap.size + 1 := by simp
  generalize w.alloc (.cells #[.int .i64 0, .int .i64 0, .int .i64 0, .int .i64 0] 183) = wA at hA hbA hsA ⊢
  have h1 := h.keeps (Keeps.of_below (S := fun _ => False) hbA) (fun e => e)
  refine (dead_at h1).mono ?_
  rintro e w1 ⟨rfl, hw1⟩
  subst hw1
  have c4 := h1.c4
  have c5 := h1.c5
  have c6 := h1.c6
  have c7 := h1.c7
  obtain ⟨⟨z0, z1, z2, z3⟩, zf⟩ := zmk_cells hA
  have f0 := zf 0
  have f1 := zf 1
  have f2 := zf 2
  have f3 := zf 3
  have hF := set4_cells z0 z1 z2 z3 (.int .i64 a) (.int .i64 z) (.int .i64 x) (.int .i64 y)
  have hK : Keeps (fun i => i = w.heap.size) w1 (set4 w1 w.heap.size (.int .i64 a) (.int .i64 z) (.int .i64 x) (.int .i64 y)) := set4_keeps (S := fun i => i = w.heap.size) rfl _ _ _ _
  have hbF := hbA.trans (hK.below (B := w.heap.size) (by omega) (fun i e => by omega))
  clear h h1
  go_wp2_with fail
  exact bodyPost_ret (res_mark1 rfl _ _ w.heap.size _ _ _ _ rfl hF.1 hF.2.1 hF.2.2.1 hF.2.2.2) rfl ⟨rfl, hbF⟩
set_option maxRecDepth 100000 in
set_option maxHeartbeats 1000000 in
theorem now_at {w : World} {lb db nb mb n cap sb : Nat} {B : List UInt8} {k : Nat} {D : DataW Unit} {left : Int} {down : Bool} {a' z' x' y' : Int} (h : LgAt w lb db n sb false a' z' x' y') (hd : DevAt w db nb mb n cap B k D left down) (a z : Nat) (x y : Int) (ht : told B = some [(a : Int), z, x, y]) (ha : a < ringN n) (hz : z ≤ ringN n) : Calls Tryz.prog 126 #[.pointer (some ⟨lb, 0, none⟩)] w fun e w' => e = .returned (mkV a z x y) ∧ Below w.heap.size w w' := by
  have hll := h.lt
  have hn2 := hd.n2
  have hrb : ringN n ≤ 200000 := by unfold ringN; omega
  obtain ⟨t, htt⟩ := told_some ht
  go_enter Tryz.func126, Tryz.ntmps126
  go_wp2_with fail
  have hA := heap_alloc_last w (.cells #[.int .i64 0, .int .i64 0, .int .i64 0, .int .i64 0] 183)
  have hbA : Below w.heap.size w (w.alloc (.cells #[.int .i64 0, .int .i64 0, .int .i64 0, .int .i64 0] 183)) := (Below.refl _ w).alloc (Nat.le_refl _) _
  have hsA : (w.alloc (.cells #[.int .i64 0, .int .i64 0, .int .i64 0, .int .i64 0] 183)).heap.size = w.heap.size + 1 := by simp
  generalize w.alloc (.cells #[.int .i64 0, .int .i64 0, .int .i64 0, .int .i64 0] 183) = wA at hA hbA hsA ⊢
  have h1 := h.keeps (Keeps.of_below (S := fun _ => False) hbA) (fun e => e)
  have hd1 := hd.keeps (Keeps.of_below (S := fun _ => False) hbA) (fun e => e) (fun e => e) (fun e => e)
  refine (dead_at h1).mono ?_
  rintro e w1 ⟨rfl, hw1⟩
  subst hw1
  have c0 := h1.c0
  have c1 := h1.c1
  go_wp2_with fail
  refine (open_at hd1).mono ?_
  rintro e w2 ⟨hb2, _, hS2⟩
  obtain ⟨s2, ka, kc, rfl, l2, _, hI2, _⟩ := hS2 t _ htt
  have c1' := (hb2.cell (p := ⟨lb, 1, none⟩) (by show lb < _; omega)).trans c1
  have hs2 := hb2.size
  clear hS2 h1 hd1 h hd
  go_wp2_with fail
  refine (markof_at ka kc a z (ringN n) x y hI2 ha hz (by omega)).mono ?_
  rintro e w3 ⟨rfl, hb3⟩
  have hs3 := hb3.size
  have hbA3 : Below w1.heap.size w1 w3 := hb2.trans (hb3.mono hs2)
  have hA3 := (hbA3.block w.heap.size (by omega)).trans hA
  obtain ⟨⟨z0, z1, z2, z3⟩, zf⟩ := zmk_cells (heap_keep_alloc hA3 (.cells #[.int .i64 (a : Int), .int .i64 (z : Int), .int .i64 x, .int .i64 y] 183))
  have f0 := zf 0
  have f1 := zf 1
  have f2 := zf 2
  have f3 := zf 3
  obtain ⟨⟨v0, v1, v2, v3⟩, _⟩ := zmk_cells hA3
  have hlt : w.heap.size < w3.heap.size := by omega
  unfold mkV
  go_wp2_with fail
  have hF := set4_cells v0 v1 v2 v3 (.int .i64 (a : Int)) (.int .i64 (z : Int)) (.int .i64 x) (.int .i64 y)
  have hK : Keeps (fun i => i = w.heap.size) w3 (set4 w3 w.heap.size (.int .i64 (a : Int)) (.int .i64 (z : Int)) (.int .i64 x) (.int .i64 y)) := set4_keeps (S := fun i => i = w.heap.size) rfl _ _ _ _
  have hl4 : w.heap.size < (set4 w3 w.heap.size (.int .i64 (a : Int)) (.int .i64 (z : Int)) (.int .i64 x) (.int .i64 y)).heap.size := Nat.lt_of_lt_of_le hlt hK.size
  have hf4 : ∀ q, ((set4 w3 w.heap.size (.int .i64 (a : Int)) (.int .i64 (z : Int)) (.int .i64 x) (.int .i64 y)).alloc (.cells #[.int .i64 (a : Int), .int .i64 (z : Int), .int .i64 x, .int .i64 y] 183)).cell? ⟨w.heap.size, q, none⟩ = (set4 w3 w.heap.size (.int .i64 (a : Int)) (.int .i64 (z : Int)) (.int .i64 x) (.int .i64 y)).cell? ⟨w.heap.size, q, none⟩ := fun q => World.cell?_alloc_lt _ _ ⟨w.heap.size, q, none⟩ hl4
  refine bodyPost_ret (res_mark1 rfl _ _ w.heap.size _ _ _ _ rfl ((hf4 0).trans hF.1) ((hf4 1).trans hF.2.1) ((hf4 2).trans hF.2.2.1) ((hf4 3).trans hF.2.2.2)) rfl ⟨rfl, ?_⟩
  exact ((hbA.trans (hbA3.mono (by omega))).trans (hK.below (B := w.heap.size) (by omega) (fun i e => by omega))).alloc (by omega) _
theorem wrap_i64_id (v : Int) (h0 : -9223372036854775808 ≤ v) (h1 : v ≤ 9223372036854775807) : IntKind.i64.wrap v = v := by
  first
    | (simp [IntKind.wrap, IntKind.bits, IntKind.signed]; omega)
    | (simp [IntKind.wrap, IntKind.bits, IntKind.signed]; split <;> omega)
    | (unfold IntKind.wrap; simp [IntKind.bits, IntKind.signed]; omega)
    | (have := wrap_i64_ediv v 1 h0 h1 (by omega); simpa using this)
theorem field80 (W : World) (u0 u1 u2 u3 : Value) : (Instr.field 183 (.agg #[u0, u1, u2, u3]) 1).run Tryz.prog W = .ok u1 W := by
  first | kernel_rfl | go_simp
set_option maxRecDepth 100000 in
set_option maxHeartbeats 1000000 in
theorem room_at {w : World} {lb db nb mb n cap sb : Nat} {B : List UInt8} {k : Nat} {D : DataW Unit} {left : Int} {down : Bool} {a' z' x' y' : Int} (h : LgAt w lb db n sb false a' z' x' y') (hd : DevAt w db nb mb n cap B k D left down) (a z : Nat) (x y : Int) (ht : told B = some [(a : Int), z, x, y]) (ha : a < ringN n) (hz : z ≤ ringN n) : Calls Tryz.prog 125 #[.pointer (some ⟨lb, 0, none⟩)] w fun e w' => e = .returned (.int .i64 ((ringN n - z : Nat) : Int)) ∧ Below w.heap.size w w' := by
  have c1 := h.c1
  have hll := h.lt
  have hn2 := hd.n2
  have hrb : ringN n ≤ 200000 := by unfold ringN; omega
  have hnow : ∀ W, Below w.heap.size w W → Calls Tryz.prog 126 #[.pointer (some ⟨lb, 0, none⟩)] W fun e w' => e = .returned (.agg #[.int .i64 (a : Int), .int .i64 (z : Int), .int .i64 x, .int .i64 y]) ∧ Below w.heap.size w w' ∧ w'.cell? ⟨lb, 1, none⟩ = some (.int .i64 (ringN n : Int)) := fun W hW => by
    have hK := Keeps.of_below (S := fun _ => False) hW
    refine (now_at (h.keeps hK (fun e => e)) (hd.keeps hK (fun e => e) (fun e => e) (fun e => e)) a z x y ht ha hz).mono ?_
    rintro e w1 ⟨rfl, hb1⟩
    have hb := hW.trans (hb1.mono hW.size)
    exact ⟨rfl, hb, (hb.cell (p := ⟨lb, 1, none⟩) hll).trans c1⟩
  clear h hd
  have hfld := field80
  go_enter Tryz.func125, Tryz.ntmps125
  go_wp2_with fail
  refine wp_region_noPanic ?_
  go_region_held (fun w' => Below w.heap.size w w' ∧ w'.cell? ⟨lb, 1, none⟩ = some (.int .i64 (ringN n : Int))) (first | assumption | exact ⟨Below.refl _ _, c1⟩ | exact ⟨below_dr (Below.refl _ _), c1⟩ | exact ⟨below_dr (And.left (by assumption)), And.right (by assumption)⟩)
    (first | (go_at_call 126; refine (hnow _ (And.left (by assumption))).mono ?_; rintro e w7 ⟨rfl, hS7⟩))
  refine NoPanic.normal ?_
  all_goals go_wp2_with fail
  have hwr : IntKind.i64.wrap ((ringN n : Int) - (z : Int)) = ((ringN n - z : Nat) : Int) := by
    rw [wrap_i64_id _ (by omega) (by omega)]
    omega
  rw [hwr]
  all_goals go_ret
  all_goals exact ⟨rfl, hS7.1⟩
set_option maxRecDepth 100000 in
set_option maxHeartbeats 1000000 in
theorem area_at {w : World} {lb db nb mb n cap sb : Nat} {B : List UInt8} {k : Nat} {D : DataW Unit} {left : Int} {down : Bool} {a' z' x' y' : Int} (h : LgAt w lb db n sb false a' z' x' y') (hd : DevAt w db nb mb n cap B k D left down) (a z : Nat) (x y : Int) (ht : told B = some [(a : Int), z, x, y]) (ha : a < ringN n) (hz : z ≤ ringN n) : Calls Tryz.prog 135 #[.pointer (some ⟨lb, 0, none⟩)] w fun e w' => e = .returned (.tuple #[.int .i64 x, .int .i64 y]) ∧ Below w.heap.size w w' := by
  go_enter Tryz.func135, Tryz.ntmps135
  go_wp2_with fail
  refine (now_at h hd a z x y ht ha hz).mono ?_
  rintro e w1 ⟨rfl, hb1⟩
  unfold mkV
  go_wp2_with fail
  go_quiet (fail)
  all_goals go_wp2_with fail
  all_goals go_ret2
  all_goals exact ⟨rfl, below_drewN (hb1.alloc hb1.size _)⟩
end Go.Proofs.YteaacodloabdcaaGreatDoor

namespace Go.Proofs.YteaacodloabdcaaGreatDoor
open Go.RowKit Go.Maps

/-- The log's cells behind a fall. -/
theorem LgAt.fallen {w : World} {lb db n sb : Nat} {over : Bool} {a' z' x' y' : Int} (h : LgAt w lb db n sb over a' z' x' y') (a z x y : Int) : LgAt (((((w.setCell ⟨lb, 4, none⟩ (.int .i64 a)).setCell ⟨lb, 5, none⟩ (.int .i64 z)).setCell ⟨lb, 6, none⟩ (.int .i64 x)).setCell ⟨lb, 7, none⟩ (.int .i64 y)).setCell ⟨lb, 3, none⟩ (.bool true)) lb db n sb true a z x y := by
  have o : ∀ (w : World) (i j : Nat) (v : Value), i ≠ j → (w.setCell ⟨lb, j, none⟩ v).cell? ⟨lb, i, none⟩ = w.cell? ⟨lb, i, none⟩ := fun w i j v hij => World.cell?_setCell_other _ _ _ _ (by simp)
  have s : ∀ (w : World) (i : Nat) (v u : Value), w.cell? ⟨lb, i, none⟩ = some u → (w.setCell ⟨lb, i, none⟩ v).cell? ⟨lb, i, none⟩ = some v := fun w i v u h => World.cell?_setCell_same _ _ _ h
  refine ⟨?_, ?_, ?_, ?_, ?_, ?_, ?_, ?_, fun q => ?_⟩
  · rw [o _ 0 3 _ (by decide), o _ 0 7 _ (by decide), o _ 0 6 _ (by decide), o _ 0 5 _ (by decide), o _ 0 4 _ (by decide)]; exact h.c0
  · rw [o _ 1 3 _ (by decide), o _ 1 7 _ (by decide), o _ 1 6 _ (by decide), o _ 1 5 _ (by decide), o _ 1 4 _ (by decide)]; exact h.c1
  · rw [o _ 2 3 _ (by decide), o _ 2 7 _ (by decide), o _ 2 6 _ (by decide), o _ 2 5 _ (by decide), o _ 2 4 _ (by decide)]; exact h.c2
  · exact s _ 3 _ (.bool over) (by rw [o _ 3 7 _ (by decide), o _ 3 6 _ (by decide), o _ 3 5 _ (by decide), o _ 3 4 _ (by decide)]; exact h.c3)
  · rw [o _ 4 3 _ (by decide), o _ 4 7 _ (by decide), o _ 4 6 _ (by decide), o _ 4 5 _ (by decide)]; exact s _ 4 _ _ h.c4
  · rw [o _ 5 3 _ (by decide), o _ 5 7 _ (by decide), o _ 5 6 _ (by decide)]; exact s _ 5 _ (.int .i64 z') (by rw [o _ 5 4 _ (by decide)]; exact h.c5)
  · rw [o _ 6 3 _ (by decide), o _ 6 7 _ (by decide)]; exact s _ 6 _ (.int .i64 x') (by rw [o _ 6 5 _ (by decide), o _ 6 4 _ (by decide)]; exact h.c6)
  · rw [o _ 7 3 _ (by decide)]; exact s _ 7 _ (.int .i64 y') (by rw [o _ 7 6 _ (by decide), o _ 7 5 _ (by decide), o _ 7 4 _ (by decide)]; exact h.c7)
  · simp only [World.frozen?_setCell]; exact h.f q
theorem fallen_keeps (w : World) (lb : Nat) (v4 v5 v6 v7 v3 : Value) : Keeps (fun i => i = lb) w (((((w.setCell ⟨lb, 4, none⟩ v4).setCell ⟨lb, 5, none⟩ v5).setCell ⟨lb, 6, none⟩ v6).setCell ⟨lb, 7, none⟩ v7).setCell ⟨lb, 3, none⟩ v3) :=
  (((((Keeps.refl (fun i => i = lb) w).setCell (p := ⟨lb, 4, none⟩) rfl _).setCell (p := ⟨lb, 5, none⟩) rfl _).setCell (p := ⟨lb, 6, none⟩) rfl _).setCell (p := ⟨lb, 7, none⟩) rfl _).setCell (p := ⟨lb, 3, none⟩) rfl _
set_option maxRecDepth 100000 in
set_option maxHeartbeats 1000000 in
theorem fall_at {w : World} {lb db n sb : Nat} {over : Bool} {a' z' x' y' : Int} (h : LgAt w lb db n sb over a' z' x' y') (a z x y : Int) (code : Int) : Calls Tryz.prog 129 #[.pointer (some ⟨lb, 0, none⟩), mkV a z x y, .int .i64 code] w fun e w' => e = .returned (.int .i64 code) ∧ LgAt w' lb db n sb true a z x y ∧ Keeps (fun i => i = lb) w w' := by
  have hll := h.lt
  have hbA : Below w.heap.size w (w.alloc (.cells #[.int .i64 a, .int .i64 z, .int .i64 x, .int .i64 y] 183)) := (Below.refl _ w).alloc (Nat.le_refl _) _
  have h1 := h.keeps (Keeps.of_below (S := fun _ => False) hbA) (fun e => e)
  have c3 := h1.c3
  have c4 := h1.c4
  have c5 := h1.c5
  have c6 := h1.c6
  have c7 := h1.c7
  have f3 := h1.f 3
  have f4 := h1.f 4
  have f5 := h1.f 5
  have f6 := h1.f 6
  have f7 := h1.f 7
  have d3 := h.c3
  have d4 := h.c4
  have d5 := h.c5
  have d6 := h.c6
  have d7 := h.c7
  have g3 := h.f 3
  have g4 := h.f 4
  have g5 := h.f 5
  have g6 := h.f 6
  have g7 := h.f 7
  have HL : Hid (LgAt (w.alloc (.cells #[.int .i64 a, .int .i64 z, .int .i64 x, .int .i64 y] 183)) lb db n sb over a' z' x' y') := h1
  have hL := LgAt.fallen h a z x y
  have hK := fallen_keeps w lb (.int .i64 a) (.int .i64 z) (.int .i64 x) (.int .i64 y) (.bool true)
  have HF : Hid (LgAt (((((w.setCell ⟨lb, 4, none⟩ (.int .i64 a)).setCell ⟨lb, 5, none⟩ (.int .i64 z)).setCell ⟨lb, 6, none⟩ (.int .i64 x)).setCell ⟨lb, 7, none⟩ (.int .i64 y)).setCell ⟨lb, 3, none⟩ (.bool true)) lb db n sb true a z x y) := hL
  clear h h1 hL
  unfold mkV
  go_enter Tryz.func129, Tryz.ntmps129
  go_wp2_with fail
  go_ret
  refine ⟨rfl, ?_, ?_⟩
  · first
      | exact HF.out.keeps ((Keeps.refl (fun _ => False) _).alloc _) (fun e => e)
      | exact HL.out.fallen a z x y
  · first
      | exact hK.alloc _
      | exact (Keeps.of_below hbA).trans (fallen_keeps _ lb _ _ _ _ _)
end Go.Proofs.YteaacodloabdcaaGreatDoor

namespace Go.Proofs.YteaacodloabdcaaGreatDoor
open Go.RowKit Go.Maps

/-- What the log's set leaves, ahead of a fall. -/
def LsQ (lb sb db nb mb n cap : Nat) (B : List UInt8) (k : Nat) (D : DataW Unit) (left : Int) (down : Bool) (A : List Int) (a' z' x' y' : Int) (w : World) (code : Int) (w' : World) : Prop :=
  ∃ mb' k' B' D' left' down', DevAt w' db nb mb' n cap B' k' D' left' down' ∧ k' ≤ k + 1 ∧ (mb' = mb ∨ w.heap.size ≤ mb') ∧ Keeps (fun i => i = db ∨ i = nb ∨ i = mb ∨ i = sb) w w' ∧ SaveO B D left down A code B' D' left' down' ∧ SlAt w' sb db (code != 0) ∧ LgAt w' lb db n sb false a' z' x' y'
set_option maxRecDepth 100000 in
set_option maxHeartbeats 1000000 in
theorem lset_at {w : World} {lb db nb mb n cap sb : Nat} {B : List UInt8} {k : Nat} {D : DataW Unit} {left : Int} {down : Bool} {a' z' x' y' : Int} (h : LgAt w lb db n sb false a' z' x' y') (hd : DevAt w db nb mb n cap B k D left down) (hS : SlAt w sb db false) (hne : sb ≠ db ∧ sb ≠ nb ∧ sb ≠ mb) (hlne : lb ≠ db ∧ lb ≠ nb ∧ lb ≠ mb ∧ lb ≠ sb) (hk : k ≤ 1000) (a z x y a2 z2 x2 y2 : Int) (hf : AllFit [a2, z2, x2, y2]) : Calls Tryz.prog 130 #[.pointer (some ⟨lb, 0, none⟩), mkV a z x y, mkV a2 z2 x2 y2] w fun e w' => ∃ code mb' k' B' D' left' down', e = .returned (.int .i64 code) ∧ DevAt w' db nb mb' n cap B' k' D' left' down' ∧ k' ≤ k + 1 ∧ (mb' = mb ∨ w.heap.size ≤ mb') ∧ Keeps (fun i => i = db ∨ i = nb ∨ i = mb ∨ i = sb ∨ i = lb) w w' ∧ SaveO B D left down [a2, z2, x2, y2] code B' D' left' down' ∧ SlAt w' sb db (code != 0) ∧ (code = 0 → LgAt w' lb db n sb false a' z' x' y') ∧ (code ≠ 0 → LgAt w' lb db n sb true a z x y) := by
  have hll := h.lt
  have hdl := hd.dlt
  have hnl := hd.nlt
  have hml := hd.mlt
  have hsl := hS.lt
  unfold mkV
  go_enter Tryz.func130, Tryz.ntmps130
  go_wp2_with fail
  have hbB : Below w.heap.size w ((w.alloc (.cells #[.int .i64 a, .int .i64 z, .int .i64 x, .int .i64 y] 183)).alloc (.cells #[.int .i64 a2, .int .i64 z2, .int .i64 x2, .int .i64 y2] 183)) := ((Below.refl _ w).alloc (Nat.le_refl _) _).alloc (by simp) _
  have hsB : ((w.alloc (.cells #[.int .i64 a, .int .i64 z, .int .i64 x, .int .i64 y] 183)).alloc (.cells #[.int .i64 a2, .int .i64 z2, .int .i64 x2, .int .i64 y2] 183)).heap.size = w.heap.size + 2 := by simp
  have hB1 := heap_alloc_last (w.alloc (.cells #[.int .i64 a, .int .i64 z, .int .i64 x, .int .i64 y] 183)) (.cells #[.int .i64 a2, .int .i64 z2, .int .i64 x2, .int .i64 y2] 183)
  rw [show (w.alloc (.cells #[.int .i64 a, .int .i64 z, .int .i64 x, .int .i64 y] 183)).heap.size = w.heap.size + 1 from by simp] at hB1
  have hB0 := heap_keep_alloc (heap_alloc_last w (.cells #[.int .i64 a, .int .i64 z, .int .i64 x, .int .i64 y] 183)) (.cells #[.int .i64 a2, .int .i64 z2, .int .i64 x2, .int .i64 y2] 183)
  generalize (w.alloc (.cells #[.int .i64 a, .int .i64 z, .int .i64 x, .int .i64 y] 183)).alloc (.cells #[.int .i64 a2, .int .i64 z2, .int .i64 x2, .int .i64 y2] 183) = wB at hbB hsB hB1 hB0 ⊢
  have hKB := Keeps.of_below (S := fun _ => False) hbB
  have hBl := h.keeps hKB (fun e => e)
  have hBd := hd.keeps hKB (fun e => e) (fun e => e) (fun e => e)
  have hBs := hS.keeps hKB (fun e => e)
  have b0 : wB.cell? ⟨w.heap.size + 1, 0, none⟩ = some (.int .i64 a2) := by rw [cell_of_row _ _ 0 _ 183 (0, 0) hB1]; rfl
  have b1 : wB.cell? ⟨w.heap.size + 1, 1, none⟩ = some (.int .i64 z2) := by rw [cell_of_row _ _ 1 _ 183 (0, 0) hB1]; rfl
  have b2 : wB.cell? ⟨w.heap.size + 1, 2, none⟩ = some (.int .i64 x2) := by rw [cell_of_row _ _ 2 _ 183 (0, 0) hB1]; rfl
  have b3 : wB.cell? ⟨w.heap.size + 1, 3, none⟩ = some (.int .i64 y2) := by rw [cell_of_row _ _ 3 _ 183 (0, 0) hB1]; rfl
  have cc := hBl.c2
  have hcells : ∀ (S : Nat → Prop) W, Keeps S wB W → ¬ S lb → ¬ S (w.heap.size + 1) → W.cell? ⟨lb, 2, none⟩ = some (.pointer (some ⟨sb, 0, none⟩)) ∧ W.cell? ⟨w.heap.size + 1, 0, none⟩ = some (.int .i64 a2) ∧ W.cell? ⟨w.heap.size + 1, 1, none⟩ = some (.int .i64 z2) ∧ W.cell? ⟨w.heap.size + 1, 2, none⟩ = some (.int .i64 x2) ∧ W.cell? ⟨w.heap.size + 1, 3, none⟩ = some (.int .i64 y2) := fun S W hk s1 s2 =>
    ⟨(hk.cell (p := ⟨lb, 2, none⟩) (by show lb < _; omega) s1).trans cc, (hk.cell (p := ⟨w.heap.size + 1, 0, none⟩) (by show w.heap.size + 1 < _; omega) s2).trans b0, (hk.cell (p := ⟨w.heap.size + 1, 1, none⟩) (by show w.heap.size + 1 < _; omega) s2).trans b1, (hk.cell (p := ⟨w.heap.size + 1, 2, none⟩) (by show w.heap.size + 1 < _; omega) s2).trans b2, (hk.cell (p := ⟨w.heap.size + 1, 3, none⟩) (by show w.heap.size + 1 < _; omega) s2).trans b3⟩
  have HC : Hid (∀ W, Below wB.heap.size wB W → W.cell? ⟨lb, 2, none⟩ = some (.pointer (some ⟨sb, 0, none⟩)) ∧ W.cell? ⟨w.heap.size + 1, 0, none⟩ = some (.int .i64 a2) ∧ W.cell? ⟨w.heap.size + 1, 1, none⟩ = some (.int .i64 z2) ∧ W.cell? ⟨w.heap.size + 1, 2, none⟩ = some (.int .i64 x2) ∧ W.cell? ⟨w.heap.size + 1, 3, none⟩ = some (.int .i64 y2)) := fun W hW => hcells (fun _ => False) W (Keeps.of_below hW) (fun e => e) (fun e => e)
  have HSet : Hid (∀ W g, Below wB.heap.size wB W → IntsAt W W.heap.size (some ⟨g, 0, none⟩) 4 [a2, z2, x2, y2] → Calls Tryz.prog 81 #[.pointer (some ⟨sb, 0, none⟩), .slice (some ⟨g, 0, none⟩) 4 4] W fun e w' => ∃ code, e = .returned (.int .i64 code) ∧ (w'.cell? ⟨lb, 2, none⟩ = some (.pointer (some ⟨sb, 0, none⟩)) ∧ w'.cell? ⟨w.heap.size + 1, 0, none⟩ = some (.int .i64 a2) ∧ w'.cell? ⟨w.heap.size + 1, 1, none⟩ = some (.int .i64 z2) ∧ w'.cell? ⟨w.heap.size + 1, 2, none⟩ = some (.int .i64 x2) ∧ w'.cell? ⟨w.heap.size + 1, 3, none⟩ = some (.int .i64 y2)) ∧ Hid (LsQ lb sb db nb mb n cap B k D left down [a2, z2, x2, y2] a' z' x' y' wB code w')) := by
    intro W g hW hI
    have hKW := Keeps.of_below (S := fun _ => False) hW
    have hsW := hW.size
    refine (set_at (hBd.keeps hKW (fun e => e) (fun e => e) (fun e => e)) (hBs.keeps hKW (fun e => e)) hne hk (some ⟨g, 0, none⟩) 4 [a2, z2, x2, y2] (by simp) hI).mono ?_
    rintro e w' ⟨code, mb', k', B', D', left', down', rfl, q1, q2, q3, q4, q5, q6⟩
    have hK' : Keeps (fun i => i = db ∨ i = nb ∨ i = mb ∨ i = sb) wB w' := (Keeps.of_below hW).trans q4
    exact ⟨code, rfl, hcells _ w' hK' (by omega) (by omega), mb', k', B', D', left', down', q1, q2, by omega, hK', q5, q6, hBl.keeps hK' (by omega)⟩
  have HB0 : Hid (wB.heap[w.heap.size]? = some (.cells #[.int .i64 a, .int .i64 z, .int .i64 x, .int .i64 y] 183)) := hB0
  clear h hd hS hBl hBd hBs hKB hcells b0 b1 b2 b3 cc hB0 hB1
  have sc0 := HC.out wB (Below.refl _ _)
  refine wp_region_noPanic ?_
  go_region_held (fun w' => w'.cell? ⟨lb, 2, none⟩ = some (.pointer (some ⟨sb, 0, none⟩)) ∧ w'.cell? ⟨w.heap.size + 1, 0, none⟩ = some (.int .i64 a2) ∧ w'.cell? ⟨w.heap.size + 1, 1, none⟩ = some (.int .i64 z2) ∧ w'.cell? ⟨w.heap.size + 1, 2, none⟩ = some (.int .i64 x2) ∧ w'.cell? ⟨w.heap.size + 1, 3, none⟩ = some (.int .i64 y2))
    (first | assumption | exact sc0 | exact HC.out _ (by assumption))
    (first
      | (have hold := HN7.out; clear hold; go_at_call 81; refine (HSet.out w7 g7 hb7' hI7).mono ?_; rintro e w8 ⟨code, rfl, hS8, HQ⟩)
      | (go_at_call 122; refine (numbers_at a2 z2 x2 y2 _ hf).mono ?_; rintro e w7 ⟨g7, rfl, hg7, hI7, hb7⟩; have hb7' : Below wB.heap.size wB w7 := ⟨hb7.os, hb7.tape, hb7.output, hb7.size, hb7.block⟩; have HN7 : Hid True := trivial))
  refine NoPanic.normal ?_
  obtain ⟨mb', k', B', D', left', down', q1, q2, q3, q4, q5, q6, q7⟩ := HQ.out
  have hs8 := q4.size
  have hB8 := (q4.block w.heap.size (by omega) (by omega)).trans HB0.out
  have v0 : w8.cell? ⟨w.heap.size, 0, none⟩ = some (.int .i64 a) := by rw [cell_of_row _ _ 0 _ 183 (0, 0) hB8]; rfl
  have v1 : w8.cell? ⟨w.heap.size, 1, none⟩ = some (.int .i64 z) := by rw [cell_of_row _ _ 1 _ 183 (0, 0) hB8]; rfl
  have v2 : w8.cell? ⟨w.heap.size, 2, none⟩ = some (.int .i64 x) := by rw [cell_of_row _ _ 2 _ 183 (0, 0) hB8]; rfl
  have v3 : w8.cell? ⟨w.heap.size, 3, none⟩ = some (.int .i64 y) := by rw [cell_of_row _ _ 3 _ 183 (0, 0) hB8]; rfl
  have hKw : Keeps (fun i => i = db ∨ i = nb ∨ i = mb ∨ i = sb ∨ i = lb) w w8 := (Keeps.of_below hbB).trans (q4.mono (fun i e => by omega))
  have HR : Hid (∃ mb' k' B' D' left' down', DevAt w8 db nb mb' n cap B' k' D' left' down' ∧ k' ≤ k + 1 ∧ (mb' = mb ∨ w.heap.size ≤ mb') ∧ lb ≠ mb' ∧ SaveO B D left down [a2, z2, x2, y2] code B' D' left' down') := ⟨mb', k', B', D', left', down', q1, q2, by omega, by omega, q5⟩
  have HK8 : Hid (Keeps (fun i => i = db ∨ i = nb ∨ i = mb ∨ i = sb ∨ i = lb) w w8) := hKw
  have H6 : Hid (SlAt w8 sb db (code != 0)) := q6
  have H7 : Hid (LgAt w8 lb db n sb false a' z' x' y') := q7
  clear q1 q2 q3 q4 q5 q6 q7 hKw HQ HSet HC sc0 hI7 hb7 hb7' hB8 HB0 hS8
  by_cases hc : code = 0
  · subst hc
    go_wp2_with fail
    go_ret
    obtain ⟨mb1, k1, B1, D1, l1, d1, r1, r2, r3, _, r5⟩ := HR.out
    exact ⟨0, mb1, k1, B1, D1, l1, d1, rfl, r1, r2, r3, HK8.out, r5, H6.out, fun _ => H7.out, fun e => absurd rfl e⟩
  · have hz : (code != 0) = true := by simp [hc]
    have HC0 : Hid (code ≠ 0) := hc
    clear hc
    go_wp2_with fail
    refine (fall_at H7.out a z x y code).mono ?_
    rintro e w9 ⟨rfl, hL9, hK9⟩
    go_wp2_with fail
    go_ret
    obtain ⟨mb1, k1, B1, D1, l1, d1, r1, r2, r3, r4, r5⟩ := HR.out
    exact ⟨code, mb1, k1, B1, D1, l1, d1, rfl, r1.keeps hK9 (by omega) (by omega) (by omega), r2, r3, HK8.out.trans (hK9.mono (fun i e => by omega)), r5, H6.out.keeps hK9 (by omega), fun e => absurd e HC0.out, fun _ => hL9⟩
end Go.Proofs.YteaacodloabdcaaGreatDoor

namespace Go.Proofs.YteaacodloabdcaaGreatDoor
open Go.RowKit Go.Maps

/-- What the log's set leaves. -/
def LsP (lb sb db nb mb n cap : Nat) (B : List UInt8) (k : Nat) (D : DataW Unit) (left : Int) (down : Bool) (A : List Int) (a z x y a' z' x' y' : Int) (w : World) (e : Ending) (w' : World) : Prop :=
  ∃ code mb' k' B' D' left' down', e = .returned (.int .i64 code) ∧ DevAt w' db nb mb' n cap B' k' D' left' down' ∧ k' ≤ k + 1 ∧ (mb' = mb ∨ w.heap.size ≤ mb') ∧ Keeps (fun i => i = db ∨ i = nb ∨ i = mb ∨ i = sb ∨ i = lb) w w' ∧ SaveO B D left down A code B' D' left' down' ∧ SlAt w' sb db (code != 0) ∧ (code = 0 → LgAt w' lb db n sb false a' z' x' y') ∧ (code ≠ 0 → LgAt w' lb db n sb true a z x y)
theorem reset_over {w : World} {lb db n sb : Nat} {a z x y : Int} (h : LgAt w lb db n sb true a z x y) (x2 y2 : Int) : Calls Tryz.prog 139 #[.pointer (some ⟨lb, 0, none⟩), .int .i64 x2, .int .i64 y2] w fun e w' => e = .returned (.int .i64 9) ∧ w' = w := by
  go_enter Tryz.func139, Tryz.ntmps139
  go_wp2_with fail
  refine (dead_at h).mono ?_
  rintro e w1 ⟨rfl, hw1⟩
  subst hw1
  go_wp2_with fail
  go_ret
  exact ⟨rfl, rfl⟩
set_option maxRecDepth 100000 in
set_option maxHeartbeats 1000000 in
theorem reset_at {w : World} {lb db nb mb n cap sb : Nat} {B : List UInt8} {k : Nat} {D : DataW Unit} {left : Int} {down : Bool} {a' z' x' y' : Int} (h : LgAt w lb db n sb false a' z' x' y') (hd : DevAt w db nb mb n cap B k D left down) (hS : SlAt w sb db false) (hne : sb ≠ db ∧ sb ≠ nb ∧ sb ≠ mb) (hlne : lb ≠ db ∧ lb ≠ nb ∧ lb ≠ mb ∧ lb ≠ sb) (hk : k ≤ 1000) (a z : Nat) (x y : Int) (ht : told B = some [(a : Int), z, x, y]) (ha : a < ringN n) (hz : z ≤ ringN n) (x2 y2 : Int) (hf : AllFit [x2, y2]) : Calls Tryz.prog 139 #[.pointer (some ⟨lb, 0, none⟩), .int .i64 x2, .int .i64 y2] w (LsP lb sb db nb mb n cap B k D left down [(((a + z) % ringN n : Nat) : Int), 0, x2, y2] a z x y a' z' x' y' w) := by
  have hll := h.lt
  have hn2 := hd.n2
  have hrb : ringN n ≤ 200000 := by unfold ringN; omega
  go_enter Tryz.func139, Tryz.ntmps139
  go_wp2_with fail
  refine (dead_at h).mono ?_
  rintro e w1 ⟨rfl, hw1⟩
  subst hw1
  go_wp2_with fail
  refine (now_at h hd a z x y ht ha hz).mono ?_
  rintro e w2 ⟨rfl, hb2⟩
  have hs2 := hb2.size
  have hdl := hd.dlt
  have hnl := hd.nlt
  have hml := hd.mlt
  have hsl := hS.lt
  have hqR : (a + z) % ringN n < ringN n := Nat.mod_lt _ (by omega)
  have hf4 : AllFit [(((a + z) % ringN n : Nat) : Int), 0, x2, y2] := fun v hv => by
    have h1 := hf x2 (by simp)
    have h2 := hf y2 (by simp)
    simp only [List.mem_cons, List.not_mem_nil, or_false] at hv
    rcases hv with rfl | rfl | rfl | rfl <;> omega
  unfold mkV
  go_wp2_with fail
  have hbB : Below w1.heap.size w1 (w2.alloc (.cells #[.int .i64 (a : Int), .int .i64 (z : Int), .int .i64 x, .int .i64 y] 183)) := hb2.alloc hs2 _
  have hsB : (w2.alloc (.cells #[.int .i64 (a : Int), .int .i64 (z : Int), .int .i64 x, .int .i64 y] 183)).heap.size = w2.heap.size + 1 := by simp
  have hB1 := heap_alloc_last w2 (.cells #[.int .i64 (a : Int), .int .i64 (z : Int), .int .i64 x, .int .i64 y] 183)
  generalize w2.alloc (.cells #[.int .i64 (a : Int), .int .i64 (z : Int), .int .i64 x, .int .i64 y] 183) = wB at hbB hsB hB1 ⊢
  have b0 : wB.cell? ⟨w2.heap.size, 0, none⟩ = some (.int .i64 (a : Int)) := by rw [cell_of_row _ _ 0 _ 183 (0, 0) hB1]; rfl
  have b1 : wB.cell? ⟨w2.heap.size, 1, none⟩ = some (.int .i64 (z : Int)) := by rw [cell_of_row _ _ 1 _ 183 (0, 0) hB1]; rfl
  have b2 : wB.cell? ⟨w2.heap.size, 2, none⟩ = some (.int .i64 x) := by rw [cell_of_row _ _ 2 _ 183 (0, 0) hB1]; rfl
  have b3 : wB.cell? ⟨w2.heap.size, 3, none⟩ = some (.int .i64 y) := by rw [cell_of_row _ _ 3 _ 183 (0, 0) hB1]; rfl
  have hbox : ∀ (S : Nat → Prop) W, Keeps S wB W → ¬ S w2.heap.size → W.cell? ⟨w2.heap.size, 0, none⟩ = some (.int .i64 (a : Int)) ∧ W.cell? ⟨w2.heap.size, 1, none⟩ = some (.int .i64 (z : Int)) ∧ W.cell? ⟨w2.heap.size, 2, none⟩ = some (.int .i64 x) ∧ W.cell? ⟨w2.heap.size, 3, none⟩ = some (.int .i64 y) := fun S W hk s2 =>
    ⟨(hk.cell (p := ⟨w2.heap.size, 0, none⟩) (by show w2.heap.size < _; omega) s2).trans b0, (hk.cell (p := ⟨w2.heap.size, 1, none⟩) (by show w2.heap.size < _; omega) s2).trans b1, (hk.cell (p := ⟨w2.heap.size, 2, none⟩) (by show w2.heap.size < _; omega) s2).trans b2, (hk.cell (p := ⟨w2.heap.size, 3, none⟩) (by show w2.heap.size < _; omega) s2).trans b3⟩
  have hKB := Keeps.of_below (S := fun _ => False) hbB
  have hBl := h.keeps hKB (fun e => e)
  have hBd := hd.keeps hKB (fun e => e) (fun e => e) (fun e => e)
  have hBs := hS.keeps hKB (fun e => e)
  have HC : Hid (∀ W, Below wB.heap.size wB W → W.cell? ⟨lb, 1, none⟩ = some (.int .i64 (ringN n : Int)) ∧ W.cell? ⟨w2.heap.size, 0, none⟩ = some (.int .i64 (a : Int)) ∧ W.cell? ⟨w2.heap.size, 1, none⟩ = some (.int .i64 (z : Int)) ∧ W.cell? ⟨w2.heap.size, 2, none⟩ = some (.int .i64 x) ∧ W.cell? ⟨w2.heap.size, 3, none⟩ = some (.int .i64 y)) := fun W hW => ⟨(hBl.keeps (Keeps.of_below (S := fun _ => False) hW) (fun e => e)).c1, hbox (fun _ => False) W (Keeps.of_below hW) (fun e => e)⟩
  have HSet : Hid (∀ W, Below wB.heap.size wB W → Calls Tryz.prog 130 #[.pointer (some ⟨lb, 0, none⟩), .agg #[.int .i64 (a : Int), .int .i64 (z : Int), .int .i64 x, .int .i64 y], .agg #[.int .i64 (((a + z) % ringN n : Nat) : Int), .int .i64 0, .int .i64 x2, .int .i64 y2]] W fun e w' => ∃ code, e = .returned (.int .i64 code) ∧ (w'.cell? ⟨lb, 1, none⟩ = some (.int .i64 (ringN n : Int)) ∧ w'.cell? ⟨w2.heap.size, 0, none⟩ = some (.int .i64 (a : Int)) ∧ w'.cell? ⟨w2.heap.size, 1, none⟩ = some (.int .i64 (z : Int)) ∧ w'.cell? ⟨w2.heap.size, 2, none⟩ = some (.int .i64 x) ∧ w'.cell? ⟨w2.heap.size, 3, none⟩ = some (.int .i64 y)) ∧ Hid (LsP lb sb db nb mb n cap B k D left down [(((a + z) % ringN n : Nat) : Int), 0, x2, y2] a z x y a' z' x' y' w1 (.returned (.int .i64 code)) w')) := by
    intro W hW
    have hKW := Keeps.of_below (S := fun _ => False) hW
    have hsW := hW.size
    refine (lset_at (hBl.keeps hKW (fun e => e)) (hBd.keeps hKW (fun e => e) (fun e => e) (fun e => e)) (hBs.keeps hKW (fun e => e)) hne hlne hk a z x y _ 0 x2 y2 hf4).mono ?_
    rintro e w' ⟨code, mb', k', B', D', left', down', rfl, q1, q2, q3, q4, q5, q6, q7, q8⟩
    have hK' : Keeps (fun i => i = db ∨ i = nb ∨ i = mb ∨ i = sb ∨ i = lb) wB w' := (Keeps.of_below hW).trans q4
    have hl1 : w'.cell? ⟨lb, 1, none⟩ = some (.int .i64 (ringN n : Int)) := by
      by_cases hc : code = 0
      · exact (q7 hc).c1
      · exact (q8 hc).c1
    exact ⟨code, rfl, ⟨hl1, hbox _ w' hK' (by omega)⟩, code, mb', k', B', D', left', down', rfl, q1, q2, by omega, (Keeps.of_below hbB).trans hK', q5, q6, q7, q8⟩
  clear h hd hS hBl hBd hBs hKB hbox b0 b1 b2 b3 hB1 hf4
  have sc0 := HC.out wB (Below.refl _ _)
  refine wp_region_noPanic ?_
  go_region_held (fun w' => w'.cell? ⟨lb, 1, none⟩ = some (.int .i64 (ringN n : Int)) ∧ w'.cell? ⟨w2.heap.size, 0, none⟩ = some (.int .i64 (a : Int)) ∧ w'.cell? ⟨w2.heap.size, 1, none⟩ = some (.int .i64 (z : Int)) ∧ w'.cell? ⟨w2.heap.size, 2, none⟩ = some (.int .i64 x) ∧ w'.cell? ⟨w2.heap.size, 3, none⟩ = some (.int .i64 y))
    (first | assumption | exact sc0 | exact HC.out _ (by assumption))
    (first
      | (have hold := HN7.out; clear hold; go_at_call 130; refine (HSet.out w7 hb7').mono ?_; rintro e w8 ⟨code, rfl, hS8, HQ⟩)
      | (go_at_call 128; refine (end_at a z (ringN n) x y (by omega) (by omega) (by omega) (by omega) _).mono ?_; rintro e w7 ⟨rfl, hb7⟩; have hb7' : Below wB.heap.size wB w7 := ⟨hb7.os, hb7.tape, hb7.output, hb7.size, hb7.block⟩; have HN7 : Hid True := trivial))
  refine NoPanic.normal ?_
  clear HSet HC sc0 hb7 hb7' hS8
  go_wp2_with fail
  go_ret
  exact HQ.out
end Go.Proofs.YteaacodloabdcaaGreatDoor

namespace Go.Proofs.YteaacodloabdcaaGreatDoor
open Go.RowKit Go.Maps

/-- What the laying of a record leaves. -/
def LyP (db nb mb n cap : Nat) (B : List UInt8) (k : Nat) (left : Int) (down : Bool) (a : Nat) (s : List UInt8) (w : World) (e : Ending) (w' : World) : Prop :=
  ∃ code mb' k' B' D' left' down' d, e = .returned (.int .i64 code) ∧ DevAt w' db nb mb' n cap B' k' D' left' down' ∧ k' ≤ k + s.length ∧ (mb' = mb ∨ w.heap.size ≤ mb') ∧ Keeps (fun x => x = db ∨ x = nb ∨ x = mb) w w' ∧ Wrote n B D' a s d B' ∧ (left = 0 → down = false → code = 0 ∧ left' = 0 ∧ down' = false) ∧ ((code = 0 ∧ d = s.length ∧ k' = 0 ∧ D' = .map []) ∨ (code = 9 ∧ down' = true))

set_option maxRecDepth 100000 in
set_option maxHeartbeats 1000000 in
theorem llay_at {w : World} {lb db nb mb n cap sb : Nat} {over : Bool} {B : List UInt8} {k : Nat} {D : DataW Unit} {left : Int} {down : Bool} {a' z' x' y' : Int} (hl : LgAt w lb db n sb over a' z' x' y') (h : DevAt w db nb mb n cap B k D left down) (hlne : lb ≠ db ∧ lb ≠ nb ∧ lb ≠ mb) (a : Nat) (ha : a < ringN n) (g o bc : Nat) (s : List UInt8) (hs : s.length + 2 ≤ ringN n) (hs1 : s.length ≤ 1000) (hsrc : w.rangeAt g o (bytesV s)) (hk : k ≤ 1000) (hD : AlikeW (wpos n a (s.length + 2)) B D) :
    Calls Tryz.prog 127 #[.pointer (some ⟨lb, 0, none⟩), .int .i64 (a : Int), .slice (some ⟨g, o, none⟩) s.length bc] w (LyP db nb mb n cap B k left down a (encR1 s) w) := by
  obtain ⟨i0, hi, hz0, hz1, hz2⟩ := info_parts info5
  have hll := hl.lt
  have hdl := h.dlt
  have hnl := h.nlt
  have hml := h.mlt
  have A : Hid (w.rangeAt g o (bytesV s)) := hsrc
  go_enter Tryz.func127, Tryz.ntmps127
  have HE : Hid (#[Value.int .u8 ((s.length : Int) % 256), Value.int .u8 ((s.length : Int) / 256)].toList ++ bytesV s = bytesV (encR1 s)) := by
    show _ = _
    unfold encR1 bytesV
    simp only [List.map_cons, List.cons_append, List.nil_append, bV]
    have e1 : (UInt8.ofNat (s.length % 256)).toNat = s.length % 256 := by rw [UInt8.toNat_ofNat']; omega
    have e2 : (UInt8.ofNat (s.length / 256)).toNat = s.length / 256 := by rw [UInt8.toNat_ofNat']; omega
    rw [e1, e2]; simp
  have HLn : Hid ((encR1 s).length = 2 + s.length) := by show _ = _; unfold encR1; simp only [List.length_cons]; omega
  have hbA : Below w.heap.size w (w.alloc (.cells #[Value.int .u8 ((s.length : Int) % 256), Value.int .u8 ((s.length : Int) / 256)] 5)) := (Below.refl _ w).alloc (Nat.le_refl _) _
  go_wp2_with (at_builtin; refine wpList_append_own _ rfl _ _ 67 rfl w.heap.size 5 i0 (.int .u8 0) 1 1 Tryz.underlying67 hi hz0 hz1 hz2 rfl (by decide) _ 2 _ rfl ⟨by rfl, .inr ⟨w.heap.size, 2, _, rfl, Nat.le_refl _, heap_alloc_new w _, Nat.le_refl _, by unfold maxLen; omega, rfl, rfl⟩⟩ ⟨g, o, none⟩ s.length bc (bytesV s) rfl ?qc1 ?qc2 ?qc3 ?qc4 ?qc5 ?qc6 ?_)
  case qc1 => rw [bytesV_length]; try omega
  case qc2 =>
    intro j u hj
    refine Lib.cell?_alloc_some _ ?_
    first | (rw [Addr.add_mid]; exact A.out j u hj) | skip
    exact A.out j u hj
  case qc3 => exact bytesV_one _
  case qc4 => unfold maxLen; omega
  case qc5 => omega
  intro v' w1 hown hgrow hnil
  have hb1 : Below w.heap.size w w1 := hbA.grown hgrow (by simp) (by intro k hk; simp [Value.ownBlock] at hk; omega)
  obtain ⟨hxl, hown⟩ := hown
  rcases hown with ⟨_, h0⟩ | ⟨g1, c1, cur, rfl, hg1, hH, hc1, hc2, hcs, htk⟩
  · omega
  have htk2 : cur.toList.take (2 + s.length) = bytesV (encR1 s) := by
    rw [Nat.mul_one] at htk; exact htk.trans HE.out
  have hrg : w1.rangeAt g1 0 (bytesV (encR1 s)) := by
    intro j u hj
    rw [← htk2, List.getElem?_take] at hj
    split at hj
    · rw [Nat.zero_add, cell_of_row _ _ j _ 5 (0, 0) hH]
      simpa using hj
    · exact absurd hj (by simp)
  have hgl : g1 < w1.heap.size := by
    rcases Nat.lt_or_ge g1 w1.heap.size with q | q
    · exact q
    · rw [Array.getElem?_eq_none q] at hH; exact absurd hH (by simp)
  have hs1' := hb1.size
  have hK1 := Keeps.of_below (S := fun _ => False) hb1
  have hl1 := hl.keeps hK1 (fun e => e)
  have hd1 := h.keeps hK1 (fun e => e) (fun e => e) (fun e => e)
  have q0 := hl1.c0
  have q1 := hl1.c1
  have hlen := HLn.out
  have HW : Hid (Calls Tryz.prog 162 #[.agg #[.pointer (some ⟨db, 0, none⟩), .int .i64 (ringN n : Int)], .int .i64 (a : Int), .slice (some ⟨g1, 0, none⟩) (2 + s.length) c1] w1 (RwP db nb mb n cap B k left down a (encR1 s) w1)) := by
    show Calls _ _ _ _ _
    have := rwrite_at hd1 a ha g1 0 c1 (encR1 s) (by omega) (by omega) hrg hgl ⟨by omega, by omega, by omega⟩ (by omega) (by rw [hlen, Nat.add_comm]; exact hD)
    rw [hlen] at this
    exact this
  clear hrg hH htk htk2 hcs hxl hgrow hnil hD hsrc A
  go_wp2_with fail
  refine HW.out.mono ?_
  rintro e w2 ⟨code, k', B', D', left', down', d, rfl, p1, p2, p3, p4, p5, p6⟩
  have hl2 := hl1.keeps p3 (by omega)
  have r0 := hl2.c0
  have r1 := hl2.c1
  have hK2 : Keeps (fun x => x = db ∨ x = nb ∨ x = mb) w w2 := (Keeps.of_below hb1).trans p3
  rcases p6 with ⟨rfl, hd'⟩ | ⟨rfl, hd'⟩
  · go_wp2_with fail
    cases down' with
    | false =>
      refine (flush_any p1).mono ?_
      rintro e w3 ⟨rfl, f1, f2⟩
      go_wp2_with fail
      go_ret
      have := p3.size
      refine ⟨0, _, 0, B', _, _, _, d, rfl, f1, by omega, .inr (by omega), (hK2.trans (f2.mono (fun i hi => .inl hi))), ⟨p4.al, fun x hx => absurd hx (by rw [show has (DataW.map []) (ik x) = false from rfl]; simp), p4.wr⟩, ?_, .inl ⟨rfl, hd', rfl, rfl⟩⟩
      intro hle hdo
      obtain ⟨_, u2, u3⟩ := p5 hle hdo
      subst u2
      exact ⟨rfl, rfl, rfl⟩
    | true =>
      refine (flush_down p1.c3).mono ?_
      rintro e w3 ⟨rfl, rfl⟩
      go_wp2_with fail
      go_ret
      refine ⟨9, mb, k', B', D', left', true, d, rfl, p1, p2, .inl rfl, hK2, p4, ?_, .inr ⟨rfl, rfl⟩⟩
      intro hle hdo
      exact absurd (p5 hle hdo).2.2 (by simp)
  · go_wp2_with fail
    go_ret
    refine ⟨9, mb, k', B', D', left', down', d, rfl, p1, p2, .inl rfl, hK2, p4, ?_, .inr ⟨rfl, hd'⟩⟩
    intro hle hdo
    exact absurd (p5 hle hdo).1 (by decide)
end Go.Proofs.YteaacodloabdcaaGreatDoor

namespace Go.Proofs.YteaacodloabdcaaGreatDoor
open Go.RowKit Go.Maps

/-- The places of the slots. -/
def lowP (p : Nat) : Prop := p < 128
theorem low_rd {n : Nat} {B B' : List UInt8} (h : Alike lowP B B') (a c : Nat) : rdR n B' a c = rdR n B a c := rdR_alike h (fun j _ e => by unfold lowP at e; omega)
theorem LogOn.low {n : Nat} {B B' : List UInt8} {a : Nat} {R : List (List UInt8)} {x y x' y' : Int} (h : LogOn n B a R x y) (hA : Alike lowP B B') (ht : told B' = some [(a : Int), ((encR R).length : Int), x', y']) : LogOn n B' a R x' y' :=
  ⟨hA.1.trans h.len, ht, h.al, h.sz, (low_rd hA _ _).trans h.dat, h.ok⟩
/-- A save touches the slots alone. -/
theorem save_low {n : Nat} (hn : 2 ≤ n) {B : List UInt8} (hB : B.length = n * 64) {A : List Int} (hl : A.length ≤ 4) (hf : AllFit A) {left left' : Int} {down down' : Bool} {code : Int} {B' : List UInt8} {D' : DataW Unit} (h : SaveO B (.map []) left down A code B' D' left' down') : Alike lowP B B' ∧ AlikeW lowP B D' := by
  have ha := afterT_fine (turnOf (newestOf (sec B 0) (sec B 1)).2)
  have hlen := secOf_len (t := afterT (turnOf (newestOf (sec B 0) (sec B 1)).2)) (ns := A) ⟨ha.1, ha.2, hl, hf⟩
  have hq : ∀ i, i < 2 → ∀ k, k < 64 → ¬ lowP (64 * i + k) → False := fun i hi k hk e => e (by unfold lowP; omega)
  have hp : Alike lowP B (put B (1 - (newestOf (sec B 0) (sec B 1)).1) (secOf (afterT (turnOf (newestOf (sec B 0) (sec B 1)).2)) A)) := (Alike.refl lowP B).write hB (by omega) hlen (fun k hk e => (hq _ (by omega) k hk e).elim)
  rcases h with ⟨_, _, rfl, rfl, _⟩ | ⟨_, _, _, rfl, rfl, _⟩ | ⟨_, _, _, rfl, rfl, _⟩
  · exact ⟨Alike.refl _ _, AlikeW.nil _ _⟩
  · exact ⟨hp, (AlikeW.nil lowP B).write (Alike.refl lowP B) ⟨_, rfl⟩ _⟩
  · exact ⟨hp, AlikeW.nil _ _⟩
theorem wpos_apart {n a z c : Nat} (ha : a < ringN n) (hz : z + c ≤ ringN n) (j : Nat) (hj : j < z) : ¬ wpos n ((a + z) % ringN n) c (128 + (a + j) % ringN n) := by
  rintro ⟨i, hi, e⟩
  rw [Nat.mod_add_mod, Nat.add_assoc] at e
  have h1 := mod_two (j := j) ha (by omega)
  have h2 := mod_two (j := z + i) ha (by omega)
  split at h1 <;> split at h2 <;> omega
theorem wpos_high {n a c : Nat} (p : Nat) (h : wpos n a c p) : 128 ≤ p := by
  obtain ⟨j, _, rfl⟩ := h
  omega
/-- What the laying of a record leaves of the log. -/
theorem LogOn.laid {n : Nat} {B B1 : List UInt8} {D : DataW Unit} {a : Nat} {R : List (List UInt8)} {x y : Int} (h : LogOn n B a R x y) {s : List UInt8} {d : Nat} (hW : Wrote n B D ((a + (encR R).length) % ringN n) s d B1) (hz : (encR R).length + s.length ≤ ringN n) : LogOn n B1 a R x y :=
  h.alike hW.al (fun p hp => wpos_high p hp) (fun j hj => wpos_apart h.al hz j hj)
theorem LogOn.laid_crash {n : Nat} {B B1 : List UInt8} {D : DataW Unit} {a : Nat} {R : List (List UInt8)} {x y : Int} (h : LogOn n B a R x y) {s : List UInt8} {d : Nat} (hW : Wrote n B D ((a + (encR R).length) % ringN n) s d B1) (hz : (encR R).length + s.length ≤ ringN n) {w : World} {db nb mb cap k : Nat} {left : Int} {down : Bool} (hd : DevAt w db nb mb n cap B1 k D left down) (K : List Bool) {L : List Int} (hp : L.Perm (intKeys D)) : LogOn n (crashB D K L B1 L.length) a R x y :=
  h.alike (Alike.crash hd hW.al hW.aw K hp) (fun p hp => wpos_high p hp) (fun j hj => wpos_apart h.al hz j hj)
theorem encR_snoc_len (R : List (List UInt8)) (s : List UInt8) : (encR (R ++ [s])).length = (encR R).length + (s.length + 2) := by rw [encR_snoc, List.length_append, encR1_len]
theorem LogOn.wrote {n : Nat} {B B1 : List UInt8} {D : DataW Unit} {a : Nat} {R : List (List UInt8)} {x y : Int} (h : LogOn n B a R x y) {s : List UInt8} (hW : Wrote n B D ((a + (encR R).length) % ringN n) (encR1 s) (encR1 s).length B1) (hz : (encR R).length + (encR1 s).length ≤ ringN n) : rdR n B1 a (encR (R ++ [s])).length = encR (R ++ [s]) := by
  have h1 := (h.laid hW hz).dat
  rw [encR_snoc, List.length_append, rdR_add, h1]
  congr 1
  refine list_ext_getD (rdR_len _ _ _ _) (fun k hk => ?_)
  rw [getD_of_getElem? (rdR_get _ _ _ _ _ hk), hW.wr k hk]
/-- The log with one record more. -/
theorem LogOn.more {n : Nat} {B B1 B' : List UInt8} {D : DataW Unit} {a : Nat} {R : List (List UInt8)} {x y : Int} (h : LogOn n B a R x y) {s : List UInt8} (hs : 1 ≤ s.length ∧ s.length ≤ 1000) (hW : Wrote n B D ((a + (encR R).length) % ringN n) (encR1 s) (encR1 s).length B1) (hz : (encR R).length + (encR1 s).length ≤ ringN n) (hA : Alike lowP B1 B') (ht : told B' = some [(a : Int), ((encR R).length + (s.length + 2) : Nat), x, y]) : LogOn n B' a (R ++ [s]) x y :=
  ⟨hA.1.trans (hW.al.1.trans h.len), by rw [ht, encR_snoc_len], h.al, by rw [encR_snoc_len]; rw [encR1_len] at hz; exact hz, (low_rd hA _ _).trans (h.wrote hW hz), fun r hr => by
    rcases List.mem_append.1 hr with q | q
    · exact h.ok r q
    · rw [List.mem_singleton] at q; subst q; exact hs⟩
/-- What an Append leaves of a device. -/
def ApO (n : Nat) (B : List UInt8) (left : Int) (down : Bool) (a z : Nat) (x y : Int) (s : List UInt8) (code : Int) (B' : List UInt8) (D' : DataW Unit) (left' : Int) (down' : Bool) : Prop :=
  (code = 9 ∧ down' = true ∧ (left = 0 → down = false → False) ∧ ∃ d, Wrote n B D' ((a + z) % ringN n) (encR1 s) d B') ∨
  (∃ B1 left1 down1, Wrote n B (.map []) ((a + z) % ringN n) (encR1 s) (encR1 s).length B1 ∧ (left = 0 → down = false → left1 = 0 ∧ down1 = false) ∧ SaveO B1 (.map []) left1 down1 [(a : Int), ((z + (s.length + 2) : Nat) : Int), x, y] code B' D' left' down')
theorem fit4 {n a z : Nat} {x y : Int} (hn : n ≤ 4096) (ha : a < ringN n) (hz : z ≤ ringN n) (hx : AllFit [x, y]) : AllFit [(a : Int), (z : Int), x, y] := fun v hv => by
  have h1 := hx x (by simp)
  have h2 := hx y (by simp)
  have hrb : ringN n ≤ 200000 := by unfold ringN; omega
  simp only [List.mem_cons, List.not_mem_nil, or_false] at hv
  rcases hv with rfl | rfl | rfl | rfl <;> omega
theorem LogOn.fit2 {n : Nat} {B : List UInt8} {a : Nat} {R : List (List UInt8)} {x y : Int} (h : LogOn n B a R x y) : AllFit [x, y] := fun v hv => h.fit v (by simp only [List.mem_cons, List.not_mem_nil, or_false] at hv ⊢; omega)
/-- What lasts of an Append, wherever it is cut off. -/
theorem append_lasts {n : Nat} (hn : 64 ≤ n) (hn2 : n ≤ 4096) {B : List UInt8} {a : Nat} {R : List (List UInt8)} {x y : Int} (h : LogOn n B a R x y) {s : List UInt8} (hs : 1 ≤ s.length ∧ s.length ≤ 1000) (hz : (encR R).length + (s.length + 2) ≤ ringN n) {left left' : Int} {down down' : Bool} {code : Int} {B' : List UInt8} {D' : DataW Unit} (hO : ApO n B left down a (encR R).length x y s code B' D' left' down') :
    (code = 0 ∧ D' = .map [] ∧ LogOn n B' a (R ++ [s]) x y) ∨ (code = 9 ∧ (left = 0 → down = false → False) ∧ ∀ {w : World} {db nb mb cap k : Nat} (_ : DevAt w db nb mb n cap B' k D' left' down') (K : List Bool) {L : List Int} (_ : L.Perm (intKeys D')), LogOn n (crashB D' K L B' L.length) a R x y ∨ LogOn n (crashB D' K L B' L.length) a (R ++ [s]) x y) := by
  have hz' : (encR R).length + (encR1 s).length ≤ ringN n := by rw [encR1_len]; exact hz
  rcases hO with ⟨rfl, _, hnz, d, hW⟩ | ⟨B1, left1, down1, hW, hq, hS⟩
  · exact Or.inr ⟨rfl, hnz, fun hd K L hp => Or.inl (h.laid_crash hW hz' hd K hp)⟩
  · have hB1 : B1.length = n * 64 := hW.al.1.trans h.len
    have hf : AllFit [(a : Int), ((((encR R).length + (s.length + 2) : Nat)) : Int), x, y] := fit4 hn2 h.al hz h.fit2
    have hlow := save_low (by omega) hB1 (by simp) hf hS
    have h1 := h.laid hW hz'
    rcases save_lasts (by omega) hB1 rfl h1.tl (by simp) hf hS with ⟨rfl, hD, hl, ht⟩ | ⟨rfl, y', hL, hy⟩
    · exact Or.inl ⟨rfl, hD, h.more hs hW hz' hlow.1 ht⟩
    · refine Or.inr ⟨rfl, fun e1 e2 => ?_, fun hd K L hp => ?_⟩
      · obtain ⟨rfl, rfl⟩ := hq e1 e2
        have := (save_good hB1 (by omega) (by simp) hf hS).1
        cases this
      · have hA := Alike.crash hd hlow.1 hlow.2 K hp
        rcases (crash_lasts (by omega) hL hp (K := K)).1 with e | e
        · exact Or.inl (h1.low hA e)
        · rcases hy with rfl | rfl
          · exact Or.inl (h1.low hA e)
          · exact Or.inr (h.more hs hW hz' hA e)
/-- What lasts of a Reset, wherever it is cut off. -/
theorem reset_lasts {n : Nat} (hn : 64 ≤ n) (hn2 : n ≤ 4096) {B : List UInt8} {a : Nat} {R : List (List UInt8)} {x y : Int} (h : LogOn n B a R x y) {x2 y2 : Int} (hx : AllFit [x2, y2]) {left left' : Int} {down down' : Bool} {code : Int} {B' : List UInt8} {D' : DataW Unit} (hS : SaveO B (.map []) left down [(((a + (encR R).length) % ringN n : Nat) : Int), 0, x2, y2] code B' D' left' down') :
    (code = 0 ∧ D' = .map [] ∧ LogOn n B' ((a + (encR R).length) % ringN n) [] x2 y2) ∨ (code = 9 ∧ (left = 0 → down = false → False) ∧ ∀ {w : World} {db nb mb cap k : Nat} (_ : DevAt w db nb mb n cap B' k D' left' down') (K : List Bool) {L : List Int} (_ : L.Perm (intKeys D')), LogOn n (crashB D' K L B' L.length) a R x y ∨ LogOn n (crashB D' K L B' L.length) ((a + (encR R).length) % ringN n) [] x2 y2) := by
  have hal := h.al
  have hq : (a + (encR R).length) % ringN n < ringN n := Nat.mod_lt _ (by omega)
  have hf : AllFit [(((a + (encR R).length) % ringN n : Nat) : Int), 0, x2, y2] := fit4 (z := 0) hn2 hq (by omega) hx
  have hlow := save_low (by omega) h.len (by simp) hf hS
  have hnew : ∀ B2, B2.length = n * 64 → told B2 = some [(((a + (encR R).length) % ringN n : Nat) : Int), 0, x2, y2] → LogOn n B2 ((a + (encR R).length) % ringN n) [] x2 y2 := fun B2 hl ht => ⟨hl, ht, hq, Nat.zero_le _, rfl, fun r hr => by cases hr⟩
  rcases save_lasts (by omega) h.len rfl h.tl (by simp) hf hS with ⟨rfl, hD, hl, ht⟩ | ⟨rfl, y', hL, hy⟩
  · exact Or.inl ⟨rfl, hD, hnew _ hl ht⟩
  · refine Or.inr ⟨rfl, fun e1 e2 => ?_, fun hd K L hp => ?_⟩
    · subst e1 e2
      have := (save_good h.len (by omega) (by simp) hf hS).1
      cases this
    · have hA := Alike.crash hd hlow.1 hlow.2 K hp
      rcases (crash_lasts (by omega) hL hp (K := K)).1 with e | e
      · exact Or.inl (h.low hA e)
      · rcases hy with rfl | rfl
        · exact Or.inl (h.low hA e)
        · exact Or.inr (hnew _ (hA.1.trans h.len) e)
/-- Nothing loose: a crash changes nothing. -/
theorem crash_nothing {K : List Bool} {L : List Int} {B : List UInt8} (hp : L.Perm (intKeys (.map [] : DataW Unit))) : crashB (.map []) K L B L.length = B := by
  have hL : L = [] := by rw [intKeys_nil] at hp; exact hp.eq_nil
  subst hL
  rfl
end Go.Proofs.YteaacodloabdcaaGreatDoor
