import Derived.Test.YteaacodloabdcaaGreatDoorVcD
import Derived.Test.YteaacodloabdcaaGreatDoorMoA
namespace Go.Proofs.YteaacodloabdcaaGreatDoor
open Go.RowKit Go.Maps

/-- What MetricAll holds. -/
structure MetQ (w wr : World) (p q : Nat) (x1 x2 y1 y2 : Int) (g1 g2 n1 n2 : Nat) (A B : List Int) : Prop where
  x : wr.cell? ⟨p, 0, none⟩ = some (.int .i64 x1) ∧ wr.cell? ⟨p, 1, none⟩ = some (.int .i64 x2)
  y : wr.cell? ⟨q, 0, none⟩ = some (.int .i64 y1) ∧ wr.cell? ⟨q, 1, none⟩ = some (.int .i64 y2)
  a : VecAt wr (some ⟨g1, 0, none⟩) n1 n1 A
  b : VecAt wr (some ⟨g2, 0, none⟩) n2 n2 B
  u : Below w.heap.size w wr
theorem MetQ.below {w wr w' : World} {p q : Nat} {x1 x2 y1 y2 : Int} {g1 g2 n1 n2 : Nat} {A B : List Int} (h : MetQ w wr p q x1 x2 y1 y2 g1 g2 n1 n2 A B) (hb : Below wr.heap.size wr w') : MetQ w w' p q x1 x2 y1 y2 g1 g2 n1 n2 A B :=
  ⟨two_below hb h.x, two_below hb h.y, h.a.all hb, h.b.all hb, h.u.trans (hb.mono h.u.size)⟩
theorem VecR.one {w : World} {g n : Nat} {A : List Int} (h : VecR w g (.slice (some ⟨g, 0, none⟩) n n) A) (hf : ∀ x ∈ A, -1048576 ≤ x ∧ x ≤ 1048576) : VecAt w (some ⟨g, 0, none⟩) n n A := by
  obtain ⟨p, c, e, hA, _⟩ := h.toAt (fun x hx => by have := hf x hx; omega)
  injection e with e1 e2 e3
  subst e1
  rw [← e2, ← e3] at hA
  exact hA
theorem MetQ.ab {w wr : World} {p q : Nat} {x1 x2 y1 y2 : Int} {g1 g2 n1 n2 : Nat} {A B : List Int} (h : MetQ w wr p q x1 x2 y1 y2 g1 g2 n1 n2 A B) (hn : n1 ≤ 8) (m : Int) {s : Int} (hs : scoreW m A B = s) :
    Calls Tryz.prog 9 #[.int .i64 m, .slice (some ⟨g1, 0, none⟩) n1 n1, .slice (some ⟨g2, 0, none⟩) n2 n2] wr fun e w' => e = .returned (.int .i64 s) ∧ Hid (MetQ w w' p q x1 x2 y1 y2 g1 g2 n1 n2 A B) := by
  refine (score_at m h.a h.b (by omega)).mono ?_
  rintro e w' ⟨rfl, hb⟩
  exact ⟨by rw [hs], h.below hb⟩
theorem MetQ.rab {w wr : World} {p q : Nat} {x1 x2 y1 y2 : Int} {g1 g2 n1 n2 : Nat} {A B : List Int} (h : MetQ w wr p q x1 x2 y1 y2 g1 g2 n1 n2 A B) (hn : n1 ≤ 8) (m : Int) {s : Int} (hs : scoreW m A B = s) :
    Calls Tryz.prog 10 #[.int .i64 m, .slice (some ⟨g1, 0, none⟩) n1 n1, .slice (some ⟨g2, 0, none⟩) n2 n2] wr fun e w' => e = .returned (.int .i64 s) ∧ Hid (MetQ w w' p q x1 x2 y1 y2 g1 g2 n1 n2 A B) := by
  refine (rscore_at m h.a h.b (by omega)).mono ?_
  rintro e w' ⟨rfl, hb⟩
  exact ⟨by rw [hs], h.below hb⟩
theorem MetQ.ba {w wr : World} {p q : Nat} {x1 x2 y1 y2 : Int} {g1 g2 n1 n2 : Nat} {A B : List Int} (h : MetQ w wr p q x1 x2 y1 y2 g1 g2 n1 n2 A B) (hn : n2 ≤ 8) (m : Int) {s : Int} (hs : scoreW m A B = s) :
    Calls Tryz.prog 9 #[.int .i64 m, .slice (some ⟨g2, 0, none⟩) n2 n2, .slice (some ⟨g1, 0, none⟩) n1 n1] wr fun e w' => e = .returned (.int .i64 s) ∧ Hid (MetQ w w' p q x1 x2 y1 y2 g1 g2 n1 n2 A B) := by
  refine (score_at m h.b h.a (by omega)).mono ?_
  rintro e w' ⟨rfl, hb⟩
  exact ⟨by rw [← hs]; unfold scoreW; rw [scoreZ_comm], h.below hb⟩
theorem MetQ.aa {w wr : World} {p q : Nat} {x1 x2 y1 y2 : Int} {g1 g2 n1 n2 : Nat} {A B : List Int} (h : MetQ w wr p q x1 x2 y1 y2 g1 g2 n1 n2 A B) (hn : n1 ≤ 8) :
    Calls Tryz.prog 9 #[.int .i64 1, .slice (some ⟨g1, 0, none⟩) n1 n1, .slice (some ⟨g1, 0, none⟩) n1 n1] wr fun e w' => e = .returned (.int .i64 0) ∧ Hid (MetQ w w' p q x1 x2 y1 y2 g1 g2 n1 n2 A B) := by
  refine (score_at 1 h.a h.a (by omega)).mono ?_
  rintro e w' ⟨rfl, hb⟩
  have e0 : scoreW 1 A A = 0 := by
    unfold scoreW scoreZ
    rw [if_pos rfl, sqZ_self]
    exact wrap_zero
  exact ⟨by rw [e0], h.below hb⟩
theorem MetQ.xy {w wr : World} {p q : Nat} {x1 x2 y1 y2 : Int} {g1 g2 n1 n2 : Nat} {A B : List Int} (h : MetQ w wr p q x1 x2 y1 y2 g1 g2 n1 n2 A B) {l : Bool} (hl : lessH (x1, x2) (y1, y2) = l) :
    Calls Tryz.prog 12 #[.agg #[.int .i64 x1, .int .i64 x2], .agg #[.int .i64 y1, .int .i64 y2]] wr fun e w' => e = .returned (.bool l) ∧ Hid (MetQ w w' p q x1 x2 y1 y2 g1 g2 n1 n2 A B) := by
  refine (less_at (x1, x2) (y1, y2) wr).mono ?_
  rintro e w' ⟨rfl, rfl⟩
  exact ⟨by rw [hl], h.below (boxed_below _ _ _)⟩
theorem MetQ.rxy {w wr : World} {p q : Nat} {x1 x2 y1 y2 : Int} {g1 g2 n1 n2 : Nat} {A B : List Int} (h : MetQ w wr p q x1 x2 y1 y2 g1 g2 n1 n2 A B) {l : Bool} (hl : lessH (x1, x2) (y1, y2) = l) :
    Calls Tryz.prog 13 #[.agg #[.int .i64 x1, .int .i64 x2], .agg #[.int .i64 y1, .int .i64 y2]] wr fun e w' => e = .returned (.bool l) ∧ Hid (MetQ w w' p q x1 x2 y1 y2 g1 g2 n1 n2 A B) := by
  refine (rless_at (x1, x2) (y1, y2) wr).mono ?_
  rintro e w' ⟨rfl, rfl⟩
  exact ⟨by rw [hl], h.below (boxed_below _ _ _)⟩
theorem MetQ.yx {w wr : World} {p q : Nat} {x1 x2 y1 y2 : Int} {g1 g2 n1 n2 : Nat} {A B : List Int} (h : MetQ w wr p q x1 x2 y1 y2 g1 g2 n1 n2 A B) {l : Bool} (hl : lessH (y1, y2) (x1, x2) = l) :
    Calls Tryz.prog 12 #[.agg #[.int .i64 y1, .int .i64 y2], .agg #[.int .i64 x1, .int .i64 x2]] wr fun e w' => e = .returned (.bool l) ∧ Hid (MetQ w w' p q x1 x2 y1 y2 g1 g2 n1 n2 A B) := by
  refine (less_at (y1, y2) (x1, x2) wr).mono ?_
  rintro e w' ⟨rfl, rfl⟩
  exact ⟨by rw [hl], h.below (boxed_below _ _ _)⟩
theorem score1_pos (A B : List Int) (ha : ∀ x ∈ A, -1048576 ≤ x ∧ x ≤ 1048576) (hb : ∀ x ∈ B, -1048576 ≤ x ∧ x ≤ 1048576) (hl : A.length ≤ 8) : 0 ≤ scoreW 1 A B := by
  have h := sqZ_bound (M := 1048576) A B ha hb
  have h2 : (A.length : Int) * (2 * 1048576 * (2 * 1048576)) ≤ 8 * (2 * 1048576 * (2 * 1048576)) := Int.mul_le_mul_of_nonneg_right (by omega) (by omega)
  unfold scoreW scoreZ
  rw [if_pos rfl]
  generalize sqZ A B = z at *
  unfold wrap64
  omega
end Go.Proofs.YteaacodloabdcaaGreatDoor
