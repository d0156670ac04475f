import Derived.Test.YtmdjjnjhjojimabDoorBegA
import Derived.Test.YtmdjjnjhjojimabDoorDevH
namespace Go.Proofs.YtmdjjnjhjojimabDoor
open Go.RowKit Go.Maps

/-- make of bytes. -/
theorem mkB (n : Nat) (h : n ≤ 4096) (w : World) : (Instr.makeSlice 25 (.int .i64 n) (.int .i64 n)).run Tryd.prog w = .ok (.slice (some ⟨w.heap.size, 0, none⟩) n n) (w.alloc (.cells (bytesV (List.replicate n 0)).toArray 5)) := by
  have hx := info5
  cases hq : Tryd.prog.info? 5 with
  | none => rw [hq] at hx; cases hx
  | some i =>
    rw [hq] at hx
    simp only [Option.map_some, Option.some.injEq, Prod.mk.injEq] at hx
    obtain ⟨h1, h2, h3⟩ := hx
    rw [run_make w 25 5 i _ Tryd.underlying25 hq h1 .i64 .i64 n n (by omega) (by omega) (by rw [h3]; omega) (by omega)]
    have e : madeCells (Value.int .u8 0).cells ((n : Int).toNat * i.size) = (bytesV (List.replicate n 0)).toArray := by
      show madeCells #[.int .u8 0] _ = _
      rw [show #[Value.int .u8 0] = Array.replicate 1 (.int .u8 0) from rfl, madeCells_rep _ _ _ (by omega), h2]
      simp [bytesV, bV]
    rw [e]
    simp

/-- Loose where nothing is. -/
theorem loose_none {w : World} {db nb mb n cap : Nat} {B : List UInt8} {left : Int} {down : Bool} (h : DevAt w db nb mb n cap B 0 (.map []) left down) :
    Calls Tryd.prog 17 #[.pointer (some ⟨db, 0, none⟩)] w fun e w' => e = .returned (.slice none 0 0) ∧ Below w.heap.size w w' := by
  refine (loose_row h (by omega)).mono ?_
  rintro e w' ⟨L, hL, _, _, hb, ⟨rfl, _⟩ | ⟨g, c, _, _, hp, _⟩⟩
  · exact ⟨rfl, hb⟩
  · omega

theorem rem_any (x m : Int) (hm : 0 < m) : -m < x.tmod m ∧ x.tmod m < m := by
  refine ⟨?_, Int.tmod_lt_of_pos x hm⟩
  rcases Int.le_total 0 x with h | h
  · have := Int.tmod_nonneg m h; omega
  · have h2 : 0 ≤ (-x).tmod m := Int.tmod_nonneg m (by omega)
    have h3 := Int.tmod_lt_of_pos (-x) hm
    rw [Int.neg_tmod] at h2 h3
    omega
/-- The remainder, made not negative. -/
theorem rem_pos (x m : Int) (hm : 0 < m) : 0 ≤ (x.tmod m + m).tmod m ∧ (x.tmod m + m).tmod m < m := by
  have h0 : 0 ≤ x.tmod m + m := by have := (rem_any x m hm).1; omega
  exact ⟨Int.tmod_nonneg m h0, Int.tmod_lt_of_pos _ hm⟩
end Go.Proofs.YtmdjjnjhjojimabDoor
