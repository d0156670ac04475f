import Derived.Test.YtpepjbgklgjoaaaGreatDoorNilA
namespace Go.Proofs.YtpepjbgklgjoaaaGreatDoor
open Go.RowKit Go.Maps

set_option maxRecDepth 100000 in
set_option maxHeartbeats 1000000 in
theorem newest_none (w : World) : Calls Tryz.prog 28 #[.pointer none] w fun e w' => e = .returned (.tuple #[.int .i64 0, .agg #[.int .i64 0, .slice none 0 0], .bool false]) ∧ Below w.heap.size w w' := by
  have hn0 := heap_alloc_last w (.cells #[.int .i64 0, .slice none 0 0] 63)
  have hs0 : (w.alloc (.cells #[.int .i64 0, .slice none 0 0] 63)).heap.size = w.heap.size + 1 := by simp
  have hb0 : Below w.heap.size w (w.alloc (.cells #[.int .i64 0, .slice none 0 0] 63)) := (Below.refl _ w).alloc (Nat.le_refl _) _
  go_enter Tryz.func28, Tryz.ntmps28
  go_wp2_with fail
  generalize w.alloc (.cells #[.int .i64 0, .slice none 0 0] 63) = w0 at hn0 hs0 hb0 ⊢
  refine (load_none 0 w0).mono ?_
  rintro e w1 ⟨rfl, hb1⟩
  have hs1 := hb1.size
  have hbA : Below w1.heap.size w1 (w1.alloc (.cells #[.int .i64 0, .slice none 0 0] 63)) := (Below.refl _ w1).alloc (Nat.le_refl _) _
  have hvA := heap_alloc_last w1 (.cells #[.int .i64 0, .slice none 0 0] 63)
  have hsA : (w1.alloc (.cells #[.int .i64 0, .slice none 0 0] 63)).heap.size = w1.heap.size + 1 := by simp
  go_wp2_with fail
  generalize w1.alloc (.cells #[.int .i64 0, .slice none 0 0] 63) = wA at hbA hvA hsA ⊢
  have hb0A : Below w0.heap.size w0 wA := hb1.trans (hbA.mono hs1)
  refine (load_none 1 wA).mono ?_
  rintro e w2 ⟨rfl, hb2⟩
  have hs2 := hb2.size
  have hb2C : Below w.heap.size w (w2.alloc (.cells #[.int .i64 0, .slice none 0 0] 63)) := (hb0.trans ((hb0A.trans (hb2.mono (by omega))).mono (by omega))).alloc (by have := hb0.size; omega) _
  have hvA2 : (w2.alloc (.cells #[.int .i64 0, .slice none 0 0] 63)).heap[w1.heap.size]? = some (.cells #[.int .i64 0, .slice none 0 0] 63) := (Below.heap_alloc _ _ _ (by omega)).trans ((hb2.block _ (by omega)).trans hvA)
  have hout : (w2.alloc (.cells #[.int .i64 0, .slice none 0 0] 63)).heap[w.heap.size]? = some (.cells #[.int .i64 0, .slice none 0 0] 63) := (Below.heap_alloc _ _ _ (by omega)).trans ((hb2.block _ (by omega)).trans ((hbA.block _ (by omega)).trans ((hb1.block _ (by omega)).trans hn0)))
  have a0 : (w2.alloc (.cells #[.int .i64 0, .slice none 0 0] 63)).cell? ⟨w1.heap.size, 0, none⟩ = some (.int .i64 0) := by rw [cell_of_row _ _ 0 _ 63 (0, 0) hvA2]; rfl
  have a1 : (w2.alloc (.cells #[.int .i64 0, .slice none 0 0] 63)).cell? ⟨w1.heap.size, 1, none⟩ = some (.slice none 0 0) := by rw [cell_of_row _ _ 1 _ 63 (0, 0) hvA2]; rfl
  have n1 : w.heap.size ≠ w1.heap.size := by omega
  have n2 : w.heap.size ≠ w2.heap.size := by omega
  have hsz := hb0.size
  clear hvA2 hvA hn0 hb0A hbA hb1 hb2
  go_wp2_with fail
  generalize w2.alloc (.cells #[.int .i64 0, .slice none 0 0] 63) = wC at hout a0 a1 hb2C ⊢
  obtain ⟨d0, d1, z0, z1, x0, x1, hK⟩ := ret59 hout (.int .i64 0) (.slice none 0 0)
  have hbE := below_dr (hb2C.trans (hK.below hb2C.size (fun i e => by omega)))
  have x0' : ((wC.setCell ⟨w.heap.size, 0, none⟩ (.int .i64 0)).setCell ⟨w.heap.size, 1, none⟩ (.slice none 0 0)).drew.cell? ⟨w.heap.size, 0, none⟩ = some (.int .i64 0) := x0
  have x1' : ((wC.setCell ⟨w.heap.size, 0, none⟩ (.int .i64 0)).setCell ⟨w.heap.size, 1, none⟩ (.slice none 0 0)).drew.cell? ⟨w.heap.size, 1, none⟩ = some (.slice none 0 0) := x1
  have p0 : wC.drew.cell? ⟨w1.heap.size, 0, none⟩ = some (.int .i64 0) := a0
  have p1 : wC.drew.cell? ⟨w1.heap.size, 1, none⟩ = some (.slice none 0 0) := a1
  go_region_held (fun w' => w'.cell? ⟨w1.heap.size, 0, none⟩ = some (.int .i64 0) ∧ w'.cell? ⟨w1.heap.size, 1, none⟩ = some (.slice none 0 0)) (first | exact ⟨p0, p1⟩ | go_keep) (fail)
  all_goals go_wp2_with fail
  all_goals exact bodyPost_ret (res3 (o := 2) (p := 3) (q := 4) rfl _ _ w.heap.size _ _ _ _ rfl rfl rfl x0' x1') rfl ⟨rfl, hbE⟩
end Go.Proofs.YtpepjbgklgjoaaaGreatDoor
