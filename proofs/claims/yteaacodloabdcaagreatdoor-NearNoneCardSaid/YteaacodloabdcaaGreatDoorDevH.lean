import Derived.Test.YteaacodloabdcaaGreatDoorDevG
namespace Go.Proofs.YteaacodloabdcaaGreatDoor
open Go.RowKit Go.Maps

/-- A device whose map is made anew. -/
theorem DevAt.fresh {w : World} {db nb mb n cap : Nat} {B : List UInt8} {k : Nat} {D : DataW Unit} {left : Int} {down : Bool} (h : DevAt w db nb mb n cap B k D left down) :
    DevAt ((w.alloc (.map #[] 0)).setCell ⟨db, 1, none⟩ (.map (some w.heap.size))) db nb w.heap.size n cap B 0 (.map []) left down ∧
      Keeps (fun i => i = db) w ((w.alloc (.map #[] 0)).setCell ⟨db, 1, none⟩ (.map (some w.heap.size))) := by
  have hk0 : Keeps (fun i => i = db) w (w.alloc (.map #[] 0)) := (Keeps.refl (fun i => i = db) w).alloc (.map #[] 0)
  have hk : Keeps (fun i => i = db) w ((w.alloc (.map #[] 0)).setCell ⟨db, 1, none⟩ (.map (some w.heap.size))) := hk0.setCell (p := ⟨db, 1, none⟩) rfl _
  have hA := h.keeps ((Keeps.refl (fun _ => False) w).alloc (.map #[] 0)) (fun e => e) (fun e => e) (fun e => e)
  have hdl := h.dlt
  have hnl := h.nlt
  refine ⟨{ h with
    c0 := by rw [World.cell?_setCell_other _ _ _ _ (by simp)]; exact hA.c0
    c1 := World.cell?_setCell_same _ _ _ hA.c1
    c2 := by rw [World.cell?_setCell_other _ _ _ _ (by simp)]; exact hA.c2
    c3 := by rw [World.cell?_setCell_other _ _ _ _ (by simp)]; exact hA.c3
    f := fun o => by rw [World.frozen?_setCell]; exact hA.f o
    now := fun j v hv => (hk.cell (p := ⟨nb, 0 + j, none⟩) h.nlt (fun e => h.ne1 e.symm)).trans (h.now j v hv)
    thr := fun j hj => ⟨by rw [hk.cell (p := ⟨nb, 0 + j, none⟩) h.nlt (fun e => h.ne1 e.symm)]; exact (h.thr j hj).1, by rw [hk.frozen (p := ⟨nb, 0 + j, none⟩) h.nlt (fun e => h.ne1 e.symm)]; exact (h.thr j hj).2⟩
    was := ?_
    ne2 := by omega
    ne3 := by omega
    keys := by intro x hx; simp [intKeys] at hx }, hk⟩
  have hm : (w.alloc (.map #[] 0)).ownsMap Tryz.prog 3 (secR (H := Unit)) w.heap.size 0 (.map []) := World.ownsMap_made _ _ _ _
  exact hm.setCell (a := ⟨db, 1, none⟩) (by show w.heap.size ≠ db; omega) _

theorem flush_any {w : World} {db nb mb n cap : Nat} {B : List UInt8} {k : Nat} {D : DataW Unit} {left : Int} (h : DevAt w db nb mb n cap B k D left false) :
    Calls Tryz.prog 157 #[.pointer (some ⟨db, 0, none⟩)] w fun e w' => e = .returned (.int .i64 0) ∧ DevAt w' db nb w.heap.size n cap B 0 (.map []) (burnL left) (burnD left false) ∧ Keeps (fun i => i = db) w w' := by
  have hmm := @run_makeMap Tryz.prog
  have hA := h.keeps ((Keeps.refl (fun _ => False) w).alloc (.map #[] 0)) (fun e => e) (fun e => e) (fun e => e)
  have c1 := hA.c1
  have f1 := hA.f 1
  clear hA
  obtain ⟨h1, k1⟩ := h.fresh
  go_enter Tryz.func157, Tryz.ntmps157
  go_wp2_with (go_at_call 176; refine (down_any _ _ _ h.c3).mono ?_; rintro e w' ⟨rfl, hw⟩; obtain rfl := hw.symm)
  refine (burn_dev h1).mono ?_
  rintro e w3 ⟨rfl, h3, hk3⟩
  go_wp2_with fail
  go_ret
  exact ⟨rfl, h3, k1.trans hk3⟩

/-- A device whose fuse is laid. -/
theorem DevAt.fused {w : World} {db nb mb n cap : Nat} {B : List UInt8} {k : Nat} {D : DataW Unit} {left : Int} {down : Bool} (h : DevAt w db nb mb n cap B k D left down) (l : Int) (d : Bool) (l0 : 0 ≤ l) (l1 : l ≤ 9223372036854775807) :
    DevAt ((w.setCell ⟨db, 2, none⟩ (.int .i64 l)).setCell ⟨db, 3, none⟩ (.bool d)) db nb mb n cap B k D l d ∧ Keeps (fun i => i = db) w ((w.setCell ⟨db, 2, none⟩ (.int .i64 l)).setCell ⟨db, 3, none⟩ (.bool d)) := by
  have hk : Keeps (fun i => i = db) w ((w.setCell ⟨db, 2, none⟩ (.int .i64 l)).setCell ⟨db, 3, none⟩ (.bool d)) :=
    ((Keeps.refl (fun i => i = db) w).setCell (p := ⟨db, 2, none⟩) rfl _).setCell (p := ⟨db, 3, none⟩) rfl _
  refine ⟨{ h with
    c0 := by rw [World.cell?_setCell_other _ _ _ _ (by simp), World.cell?_setCell_other _ _ _ _ (by simp)]; exact h.c0
    c1 := by rw [World.cell?_setCell_other _ _ _ _ (by simp), World.cell?_setCell_other _ _ _ _ (by simp)]; exact h.c1
    c2 := by rw [World.cell?_setCell_other _ _ _ _ (by simp), World.cell?_setCell_same _ _ _ h.c2]
    c3 := by rw [World.cell?_setCell_same _ _ _ (by rw [World.cell?_setCell_other _ _ _ _ (by simp)]; exact h.c3)]
    f := fun o => by rw [World.frozen?_setCell, World.frozen?_setCell]; exact h.f o
    now := fun j v hv => (hk.cell (p := ⟨nb, 0 + j, none⟩) h.nlt (fun e => h.ne1 e.symm)).trans (h.now j v hv)
    thr := fun j hj => ⟨by rw [hk.cell (p := ⟨nb, 0 + j, none⟩) h.nlt (fun e => h.ne1 e.symm)]; exact (h.thr j hj).1, by rw [hk.frozen (p := ⟨nb, 0 + j, none⟩) h.nlt (fun e => h.ne1 e.symm)]; exact (h.thr j hj).2⟩
    was := (h.was.setCell (a := ⟨db, 2, none⟩) h.ne2 _).setCell (a := ⟨db, 3, none⟩) h.ne2 _
    l0 := l0
    l1 := l1 }, hk⟩

end Go.Proofs.YteaacodloabdcaaGreatDoor
