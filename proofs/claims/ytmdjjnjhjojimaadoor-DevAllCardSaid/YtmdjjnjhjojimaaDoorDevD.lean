import Derived.Test.YtmdjjnjhjojimaaDoorDevC
namespace Go.Proofs.YtmdjjnjhjojimaaDoor
open Go.RowKit Go.Maps

theorem law3 : Keyed Tryd.prog 3 := int_keyed Tryd.underlying3
theorem size80 : (Tryd.prog.info? 80).map (·.size) = some 64 := by kernel_rfl
theorem follows : Tryd.prog.follows .mixedOrders = true := by kernel_rfl
def zsec : List UInt8 := List.replicate 64 0
theorem zero80 (w : World) : (zeroValue 80).run Tryd.prog w = .ok (.agg (bytesV zsec).toArray) w := by kernel_rfl

/-- A sector's value into a variable that was made just now. -/
theorem wpList_store_fresh {ops : Array Oper} {rest : List Oper} {op : Oper} {a : Act} {Q : Exit → Act → World → Prop} (w0 : World) (c cells : Array Value) (hgd : op.guard = none) (x y : Operand) (ho : op.op = .store 80 x y)
    (hx : a.eval x = .pointer (some ⟨w0.heap.size, 0, none⟩)) (hy : a.eval y = .agg cells) (hc : c.size = 64) (hcs : cells.size = 64) (h1 : cells.all (·.oneCell') = true)
    (hK : ∀ w', Keeps (fun _ => False) w0 w' → wpList Tryd.prog ops Q rest (a.put op.dst undef) w') : wpList Tryd.prog ops Q (op :: rest) a (w0.alloc (.cells c 80)) := by
  refine wpList_store_mid hgd 80 x y ho w0.heap.size 0 cells hx hy ?_ ?_ h1 (hK _ ?_)
  · intro j hj
    refine ⟨?_, by simp⟩
    rw [cell_of_row _ _ (0 + j) c 80 (0, 0) (heap_alloc_last w0 _)]
    simp; omega
  · rw [size80, hcs]
  · have h := Keeps.setCells (S := fun i => i = w0.heap.size) rfl cells.toList 0 ((Keeps.refl (fun i => i = w0.heap.size) w0).alloc (.cells c 80))
    exact ⟨h.os, h.tape, h.output, h.size, fun i hi _ => h.block i hi (by omega)⟩

/-- burn, of a device. -/
def burnL (l : Int) : Int := if l = 0 then 0 else l - 1
def burnD (l : Int) (d : Bool) : Bool := if l = 0 then d else l - 1 == 0
theorem burn_dev {w : World} {db nb mb n cap : Nat} {B : List UInt8} {k : Nat} {D : DataW Unit} {left : Int} {down : Bool} (h : DevAt w db nb mb n cap B k D left down) :
    Calls Tryd.prog 44 #[.pointer (some ⟨db, 0, none⟩)] w fun e w' => e = .returned (.tuple #[]) ∧ DevAt w' db nb mb n cap B k D (burnL left) (burnD left down) ∧ Keeps (fun i => i = db) w w' := by
  by_cases hl : left = 0
  · subst hl
    refine (burn_zero db w h.c2).mono ?_
    rintro e w' ⟨rfl, rfl⟩
    exact ⟨rfl, by simpa [burnL, burnD] using h, Keeps.refl _ _⟩
  · refine (burn_some db left down w h.c2 h.c3 (h.f 2) (h.f 3) (by simpa using hl) h.l0 h.l1).mono ?_
    rintro e w' ⟨rfl, rfl⟩
    have hkp : Keeps (fun i => i = db) w ((w.setCell ⟨db, 2, none⟩ (.int .i64 (left - 1))).setCell ⟨db, 3, none⟩ (.bool (left - 1 == 0))) :=
      ((Keeps.refl (fun i => i = db) w).setCell (p := ⟨db, 2, none⟩) rfl _).setCell (p := ⟨db, 3, none⟩) rfl _
    refine ⟨rfl, ?_, hkp⟩
    have l0 := h.l0
    have l1 := h.l1
    have c0 : ((w.setCell ⟨db, 2, none⟩ (.int .i64 (left - 1))).setCell ⟨db, 3, none⟩ (.bool (left - 1 == 0))).cell? ⟨db, 0, none⟩ = some (.slice (some ⟨nb, 0, none⟩) n cap) := by
      rw [World.cell?_setCell_other _ _ _ _ (by simp), World.cell?_setCell_other _ _ _ _ (by simp)]; exact h.c0
    have c1 : ((w.setCell ⟨db, 2, none⟩ (.int .i64 (left - 1))).setCell ⟨db, 3, none⟩ (.bool (left - 1 == 0))).cell? ⟨db, 1, none⟩ = some (.map (some mb)) := by
      rw [World.cell?_setCell_other _ _ _ _ (by simp), World.cell?_setCell_other _ _ _ _ (by simp)]; exact h.c1
    have c2 : ((w.setCell ⟨db, 2, none⟩ (.int .i64 (left - 1))).setCell ⟨db, 3, none⟩ (.bool (left - 1 == 0))).cell? ⟨db, 2, none⟩ = some (.int .i64 (left - 1)) := by
      rw [World.cell?_setCell_other _ _ _ _ (by simp), World.cell?_setCell_same _ _ _ h.c2]
    have c3 : ((w.setCell ⟨db, 2, none⟩ (.int .i64 (left - 1))).setCell ⟨db, 3, none⟩ (.bool (left - 1 == 0))).cell? ⟨db, 3, none⟩ = some (.bool (left - 1 == 0)) := by
      rw [World.cell?_setCell_same _ _ _ (by rw [World.cell?_setCell_other _ _ _ _ (by simp)]; exact h.c3)]
    exact { h with
      c0 := c0
      c1 := c1
      c2 := by simp only [burnL, if_neg hl]; exact c2
      c3 := by simp only [burnD, if_neg hl]; exact c3
      f := fun o => by rw [World.frozen?_setCell, World.frozen?_setCell]; exact h.f o
      now := fun j v hv => (hkp.cell (p := ⟨nb, 0 + j, none⟩) h.nlt (fun e => h.ne1 e.symm)).trans (h.now j v hv)
      thr := fun j hj => ⟨by rw [hkp.cell (p := ⟨nb, 0 + j, none⟩) h.nlt (fun e => h.ne1 e.symm)]; exact (h.thr j hj).1, by rw [hkp.frozen (p := ⟨nb, 0 + j, none⟩) h.nlt (fun e => h.ne1 e.symm)]; exact (h.thr j hj).2⟩
      was := (h.was.setCell (a := ⟨db, 2, none⟩) h.ne2 _).setCell (a := ⟨db, 3, none⟩) h.ne2 _
      l0 := by simp only [burnL, if_neg hl]; omega
      l1 := by simp only [burnL, if_neg hl]; omega }
end Go.Proofs.YtmdjjnjhjojimaaDoor
