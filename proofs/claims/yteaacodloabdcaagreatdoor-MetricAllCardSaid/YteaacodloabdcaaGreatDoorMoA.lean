import Derived.Test.YteaacodloabdcaaGreatDoorBsW
import Derived.Test.YteaacodloabdcaaGreatDoorBgE
namespace Go.Proofs.YteaacodloabdcaaGreatDoor
open Go.RowKit Go.Maps

theorem SortH.step {W : List Hit} (h : SortH W) (j : Nat) (hj : j + 1 < W.length) : lessH (hat W j) (hat W (j + 1)) = true := by
  rw [hat_lt (show j < W.length by omega), hat_lt hj]
  exact List.pairwise_iff_getElem.1 h j (j + 1) (by omega) hj (by omega)
/-- Three hits that the law itself has boxed. -/
def Box3 (w : World) (p q r : Nat) (a b c : Hit) : Prop := (w.cell? ⟨p, 0, none⟩ = some (.int .i64 a.1) ∧ w.cell? ⟨p, 1, none⟩ = some (.int .i64 a.2)) ∧ (w.cell? ⟨q, 0, none⟩ = some (.int .i64 b.1) ∧ w.cell? ⟨q, 1, none⟩ = some (.int .i64 b.2)) ∧ (w.cell? ⟨r, 0, none⟩ = some (.int .i64 c.1) ∧ w.cell? ⟨r, 1, none⟩ = some (.int .i64 c.2))
theorem Box3.below {w w' : World} {p q r : Nat} {a b c : Hit} (h : Box3 w p q r a b c) (hb : Below w.heap.size w w') : Box3 w' p q r a b c :=
  ⟨two_below hb h.1, two_below hb h.2.1, two_below hb h.2.2⟩
theorem HitsR.cellN {w : World} {lo n c : Nat} {p : Option Addr} {W : List Hit} (h : HitsR w lo (.slice p n c) W) (j : Nat) (hj : j < n) : ∃ g, p = some ⟨g, 0, none⟩ ∧ w.cell? ⟨g, j * 2, none⟩ = some (.int .i64 (hat W j).1) ∧ w.cell? ⟨g, j * 2 + 1, none⟩ = some (.int .i64 (hat W j).2) := by
  obtain ⟨p', c', e⟩ := h.shape
  injection e with _ e2 _
  obtain ⟨g, c2, e4, _, _, _, a1, a2, _⟩ := h.at_ j (by omega)
  injection e4 with e4 _ _
  exact ⟨g, e4, a1, a2⟩
theorem some_inj {g g' : Nat} (h : (some ⟨g, 0, none⟩ : Option Addr) = some ⟨g', 0, none⟩) : g = g' := by
  injection h with h
  injection h
theorem newTwo (w : World) (b : Nat) (hb : w.heap.size = b) (x1 x2 : Int) : (w.alloc (.cells #[.int .i64 x1, .int .i64 x2] 25)).cell? ⟨b, 0, none⟩ = some (.int .i64 x1) ∧ (w.alloc (.cells #[.int .i64 x1, .int .i64 x2] 25)).cell? ⟨b, 1, none⟩ = some (.int .i64 x2) := by
  subst hb
  exact ⟨by rw [cell_of_row _ _ 0 _ 25 (0, 0) (heap_alloc_last w _)]; rfl, by rw [cell_of_row _ _ 1 _ 25 (0, 0) (heap_alloc_last w _)]; rfl⟩
theorem newThree (w : World) (a b c : Hit) (h : ∀ x ∈ [a, b, c], -9223372036854775808 ≤ x.1 ∧ x.1 ≤ 9223372036854775807) : HitsIn (w.alloc (.cells #[.int .i64 a.1, .int .i64 a.2, .int .i64 b.1, .int .i64 b.2, .int .i64 c.1, .int .i64 c.2] 25)) (some ⟨w.heap.size, 0, none⟩) 3 [a, b, c] := by
  refine ⟨rfl, h, Or.inr ⟨w.heap.size, 0, rfl, by simp, fun j hj => ?_⟩⟩
  have hr := heap_alloc_last w (.cells #[.int .i64 a.1, .int .i64 a.2, .int .i64 b.1, .int .i64 b.2, .int .i64 c.1, .int .i64 c.2] 25)
  rw [cell_of_row _ _ (0 + j * 2) _ 25 (0, 0) hr, cell_of_row _ _ (0 + j * 2 + 1) _ 25 (0, 0) hr]
  rcases j with _ | _ | _ | j
  · exact ⟨rfl, rfl⟩
  · exact ⟨rfl, rfl⟩
  · exact ⟨rfl, rfl⟩
  · omega
end Go.Proofs.YteaacodloabdcaaGreatDoor
