import Derived.Test.YtmdjjnjhjojimacDoorFailA
namespace Go.Proofs.YtmdjjnjhjojimacDoor
open Go.RowKit

theorem mkErr (w : World) : (Instr.makeSlice 55 (.int .i64 0) (.int .i64 2)).run Tryd.prog w = .ok (.slice (some ⟨w.heap.size, 0, none⟩) 0 2) (w.alloc (.cells #[.nilIface, .nilIface] 32)) := by kernel_rfl

theorem info32 : (Tryd.prog.info? 32).map (fun i => (i.zero, i.size, i.bytes)) = some (some .nilIface, 1, 16) := by kernel_rfl
/-- The joined error's block: its slice v, of which the errors are xs. -/
structure JoinAt (w : World) (base b : Nat) (v : Value) (n : Nat) (xs : List Value) : Prop where
  c0 : w.cell? ⟨b, 0, none⟩ = some v
  f0 : w.frozen? ⟨b, 0, none⟩ = false
  row : w.ownsRow base 32 1 v n xs
  ne : v.ownBlock ≠ some b
  bs : base ≤ w.heap.size
  bb : base ≤ b
  ty : ∃ cur fz, w.heap[b]? = some (.cells cur 58 fz)

theorem JoinAt.stored {w w3 : World} {base b n m : Nat} {v v1 : Value} {xs ys : List Value} (h : JoinAt w base b v n xs) (o : Obj) (hown : w3.ownsRow base 32 1 v1 m ys) (hg : (w.alloc o).grownBy w3 v.ownBlock) :
    w3.cell? ⟨b, 0, none⟩ = some v ∧ w3.frozen? ⟨b, 0, none⟩ = false ∧ JoinAt (w3.setCell ⟨b, 0, none⟩ v1) base b v1 m ys ∧ Below base w (w3.setCell ⟨b, 0, none⟩ v1) := by
  have hbl : b < w.heap.size := World.block_lt_of_cell? w _ h.c0
  have hk : Keeps (fun i => v.ownBlock = some i) w w3 := ((Keeps.refl (fun i => v.ownBlock = some i) w).alloc o).grown hg (fun k e => e)
  have e1 : w3.cell? ⟨b, 0, none⟩ = some v := (hk.cell (p := ⟨b, 0, none⟩) hbl h.ne).trans h.c0
  have e2 : w3.frozen? ⟨b, 0, none⟩ = false := (hk.frozen (p := ⟨b, 0, none⟩) hbl h.ne).trans h.f0
  obtain ⟨cur, fz, hty⟩ := h.ty
  have e3 : w3.heap[b]? = some (.cells cur 58 fz) := (hk.block b hbl h.ne).trans hty
  have hne : v1.ownBlock ≠ some b := by
    intro e
    obtain ⟨_, ⟨rfl, _⟩ | ⟨g, cap, cur', rfl, _, r2, _⟩⟩ := hown
    · cases e
    · cases e
      rw [e3] at r2
      simp at r2
  have hbel : Below base w w3 := hk.below h.bs (fun i e => by
    obtain ⟨_, ⟨x, _⟩ | ⟨g, cap, cur', x, r1, _⟩⟩ := h.row
    · rw [x] at e; cases e
    · rw [x] at e; cases e; exact r1)
  have hs := hk.size
  have hb' := h.bs
  refine ⟨e1, e2, { c0 := World.cell?_setCell_same _ _ _ e1, f0 := by rw [World.frozen?_setCell]; exact e2, row := ?_, ne := hne, bs := by simp [World.setCell]; omega, bb := h.bb, ty := ?_ }, hbel.setCell h.bb _⟩
  · obtain ⟨hl, ⟨x, h0⟩ | ⟨g, cap, cur', x, r1, r2, r3⟩⟩ := hown
    · exact ⟨hl, Or.inl ⟨x, h0⟩⟩
    · refine ⟨hl, Or.inr ⟨g, cap, cur', x, r1, ?_, r3⟩⟩
      rw [Below.heap_setCell _ _ _ _ (by rintro rfl; exact hne (by rw [x]; rfl))]; exact r2
  · obtain ⟨u, hu⟩ : ∃ u, (w3.setCell ⟨b, 0, none⟩ v1).heap[b]? = some u := ⟨_, Array.getElem?_eq_getElem (by simp [World.setCell]; omega)⟩
    have : u = .cells (cur.setIfInBounds 0 v1) 58 fz := by
      simp [World.setCell, e3, Array.getElem?_modify] at hu
      exact hu.symm
    exact ⟨_, _, hu.trans (by rw [this])⟩

set_option maxRecDepth 100000 in
set_option maxHeartbeats 1000000 in
theorem join_two (g : Nat) (c d : Int) (w : World) (h0 : w.cell? ⟨g, 0, none⟩ = some (errno c)) (h1 : w.cell? ⟨g, 1, none⟩ = some (errno d)) :
    Calls Tryd.prog 8 #[.slice (some ⟨g, 0, none⟩) 2 2] w fun e w' => ∃ b v, e = .returned (.iface 56 (.pointer (some ⟨b, 0, none⟩))) ∧ JoinAt w' w.heap.size b v 2 [errno c, errno d] ∧ Below w.heap.size w w' := by
  obtain ⟨i0, hi, hz0, hz1, hz2⟩ := info_parts info32
  have hmk := mkErr
  have hgl := World.block_lt_of_cell? w _ h0
  go_enter Tryd.func8, Tryd.ntmps8
  go_wp2
  refine wp_loop_rounds 3 ?_
  rw [rounds_succ]
  go_wp2
  rw [rounds_succ]
  go_wp2
  rw [rounds_succ]
  go_wp2
  clear hmk
  have hbA : Below w.heap.size w ((w.alloc (.cells #[.nilIface, .nilIface] 32)).alloc (.cells #[.slice (some ⟨w.heap.size, 0, none⟩) 0 2] 58)) := ((Below.refl _ w).alloc (Nat.le_refl _) _).alloc (by simp) _
  have hjA : JoinAt ((w.alloc (.cells #[.nilIface, .nilIface] 32)).alloc (.cells #[.slice (some ⟨w.heap.size, 0, none⟩) 0 2] 58)) w.heap.size (w.heap.size + 1) (.slice (some ⟨w.heap.size, 0, none⟩) 0 2) 0 [] := {
    c0 := by simp
    f0 := by simp
    row := ⟨rfl, Or.inr ⟨w.heap.size, 2, #[.nilIface, .nilIface], rfl, Nat.le_refl _, (Below.heap_alloc _ _ _ (by simp)).trans (heap_alloc_last w _), by omega, by decide, rfl, rfl⟩⟩
    ne := by simp [Value.ownBlock]
    bs := by simp; omega
    bb := by omega
    ty := ⟨_, _, by have := heap_alloc_last (w.alloc (.cells #[.nilIface, .nilIface] 32)) (.cells #[.slice (some ⟨w.heap.size, 0, none⟩) 0 2] 58); simpa using this⟩ }
  generalize (w.alloc (.cells #[.nilIface, .nilIface] 32)).alloc (.cells #[.slice (some ⟨w.heap.size, 0, none⟩) 0 2] 58) = w2 at hbA hjA ⊢
  have k0 : w2.cell? ⟨g, 0, none⟩ = some (errno c) := (hbA.cell (p := ⟨g, 0, none⟩) hgl).trans h0
  have k1 : w2.cell? ⟨g, 1, none⟩ = some (errno d) := (hbA.cell (p := ⟨g, 1, none⟩) hgl).trans h1
  generalize w.heap.size + 1 = b at hjA ⊢
  generalize (Value.slice (some ⟨w.heap.size, 0, none⟩) 0 2) = v0 at hjA ⊢
  have c0 := hjA.c0
  have f0 := hjA.f0
  have hb2 := hbA.size
  refine wp_loop_rounds 3 ?_
  rw [rounds_succ]
  go_wp2_with (at_builtin; refine wpList_append_own _ rfl _ _ 55 rfl w.heap.size 32 i0 .nilIface 1 16 Tryd.underlying55 hi hz0 hz1 hz2 rfl (by decide) _ 0 _ rfl (hjA.row.alloc _) ⟨w2.heap.size, 0, none⟩ 1 1 [errno c] rfl rfl (cell_one_new _ _ _) ?q1 ?q2 ?q3 ?q4 ?_)
  case q1 => intro y hy; simp at hy; subst hy; rfl
  case q2 => decide
  case q3 => omega
  case q4 => simp; omega
  intro v1 w3 hown1 hg1 _
  obtain ⟨r1, t1, rfl⟩ : ∃ r t, v1 = .slice (some ⟨r, 0, none⟩) 1 t := by
    obtain ⟨_, ⟨_, x⟩ | ⟨r, t, _, e, _⟩⟩ := hown1
    · cases x
    · exact ⟨r, t, e⟩
  obtain ⟨c3, f3, hj3, hb3⟩ := hjA.stored _ hown1 hg1
  have k1' : (w3.setCell ⟨b, 0, none⟩ (.slice (some ⟨r1, 0, none⟩) 1 t1)).cell? ⟨g, 1, none⟩ = some (errno d) := (hb3.cell (p := ⟨g, 1, none⟩) hgl).trans k1
  clear c0 f0 k0 k1
  go_wp2
  rw [rounds_succ]
  have hb4 : Below w.heap.size w (w3.setCell ⟨b, 0, none⟩ (.slice (some ⟨r1, 0, none⟩) 1 t1)) := hbA.trans hb3
  clear c3 f3 hb3 hjA hown1 hg1
  generalize w3.setCell ⟨b, 0, none⟩ (.slice (some ⟨r1, 0, none⟩) 1 t1) = w4 at hj3 hb4 k1' ⊢
  have c4 := hj3.c0
  have f4 := hj3.f0
  have hs4 := hb4.size
  go_wp2_with (at_builtin; refine wpList_append_own _ rfl _ _ 55 rfl w.heap.size 32 i0 .nilIface 1 16 Tryd.underlying55 hi hz0 hz1 hz2 rfl (by decide) _ 1 _ rfl (hj3.row.alloc _) ⟨w4.heap.size, 0, none⟩ 1 1 [errno d] rfl rfl (cell_one_new _ _ _) ?q5 ?q6 ?q7 ?q8 ?_)
  case q5 => intro y hy; simp at hy; subst hy; rfl
  case q6 => decide
  case q7 => omega
  case q8 => simp; omega
  intro v2 w5 hown2 hg2 _
  obtain ⟨r2, t2, rfl⟩ : ∃ r t, v2 = .slice (some ⟨r, 0, none⟩) 2 t := by
    obtain ⟨_, ⟨_, x⟩ | ⟨r, t, _, e, _⟩⟩ := hown2
    · cases x
    · exact ⟨r, t, e⟩
  obtain ⟨c5, f5, hj5, hb5⟩ := hj3.stored _ hown2 hg2
  clear c4 f4 k1'
  go_wp2
  rw [rounds_succ]
  go_wp2
  go_ret
  exact ⟨b, _, rfl, hj5, hb4.trans hb5⟩
end Go.Proofs.YtmdjjnjhjojimacDoor
