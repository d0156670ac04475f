import Derived.Test.YteaacodloabdcaaGreatDoorBgC
import Derived.Test.YteaacodloabdcaaGreatDoorMnE
import Derived.Test.YteaacodloabdcaaGreatDoorPlA
import Derived.Test.YteaacodloabdcaaGreatDoorBsT
import Derived.Test.YteaacodloabdcaaGreatDoorVcE
import Derived.Test.YteaacodloabdcaaGreatDoorQtH
namespace Go.Proofs.YteaacodloabdcaaGreatDoor
open Go.RowKit Go.Maps

theorem begun54_true (w : World) (hg : w.cell? ⟨0, 0, none⟩ = some errType) : Calls Tryz.prog 41 #[] w fun e w' => e = .returned (.bool true) ∧ Below w.heap.size w w' := by
  go_enter Tryz.func41, Tryz.ntmps41
  go_wp2_with fail
  refine (begun4_true _ hg).mono ?_
  rintro e w1 ⟨rfl, hb1⟩
  go_wp2_with fail
  go_ret
  exact ⟨rfl, hb1⟩
/-- The hits of the beginning, one behind the other. -/
theorem putB1 : (putL 2 [] (1, 9)).1 = [(1, 9)] := by decide
theorem putB2 : (putL 2 [(1, 9)] (2, 4)).1 = [(2, 4), (1, 9)] := by decide
theorem putB3 : (putL 2 [(2, 4), (1, 9)] (3, 6)).1 = [(2, 4), (3, 6)] := by decide
def poolB : List (Option Int) := (sizeL (List.replicate 10 none) 5 3).1
theorem poolB0 : sizeL (List.replicate 10 none) 5 3 = (poolB, 0) := by decide +kernel
theorem poolB1 : frees poolB = 7 := by decide +kernel
theorem poolB2 : (ofL poolB 5).length = 3 := by decide +kernel
/-- Four vectors of one number each. -/
theorem one_vec (W : World) (x : Int) (hx : -2147483648 ≤ x ∧ x ≤ 2147483647) : VecAt (W.alloc (.cells #[.int .i32 x] 21)) (some ⟨W.heap.size, 0, none⟩) 1 1 [x] :=
  ⟨rfl, Nat.le_refl _, fun y hy => by simp at hy; omega, Or.inr ⟨W.heap.size, 0, rfl, by simp, fun j hj => by
      have : j = 0 := by omega
      subst this
      simp⟩⟩
theorem two_vec (W : World) (x y : Int) (hx : -2147483648 ≤ x ∧ x ≤ 2147483647) (hy : -2147483648 ≤ y ∧ y ≤ 2147483647) : VecAt (W.alloc (.cells #[.int .i32 x, .int .i32 y] 21)) (some ⟨W.heap.size, 0, none⟩) 2 2 [x, y] :=
  ⟨rfl, Nat.le_refl _, fun z hz => by simp at hz; omega, Or.inr ⟨W.heap.size, 0, rfl, by simp, fun j hj => by
      rcases (show j = 0 ∨ j = 1 by omega) with rfl | rfl <;> simp⟩⟩
theorem midB : middlesL 2 3 [[0], [10], [2], [12]] = [[1], [11]] := by decide +kernel
theorem nearB : nearL [[1], [11]] [9] = 1 := by decide +kernel
theorem scB1 : scoreW 1 [1, 2] [4, 6] = 25 := by decide +kernel
theorem scB2 : scoreW 2 [1, 2] [4, 6] = -16 := by decide +kernel
theorem goodB : goodL (1 : Nat) [[0], [510]] = [[0], [510]] := by decide +kernel
theorem lowB : lowsZ [[0], [510]] 1 = [0] := by decide +kernel
theorem stepB : stepsZ [[0], [510]] 1 = [2] := by decide +kernel
theorem codeB : codesV [0] [2] [511] = [255] := by decide +kernel
theorem getB : getV (encV [1, -2]) 0 = (some [1, -2], [], 0) := by decide +kernel
end Go.Proofs.YteaacodloabdcaaGreatDoor
