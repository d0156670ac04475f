import Derived.Test.YtlmdeafmlommeaaGreatDoorCrashA
import Derived.Test.YtlmdeafmlommeaaGreatDoorBinA
import Derived.Test.YtlmdeafmlommeaaGreatDoorFailE
namespace Go.Proofs.YtlmdeafmlommeaaGreatDoor
open Go.RowKit Go.Maps

/-- New, the world left open. -/
theorem new_at (n : Nat) (w : World) (h1 : 64 ≤ n) (h2 : n ≤ 4096) :
    Calls Tryz.prog 15 #[.int .i64 n] w fun e w' => ∃ db nb mb, e = .returned (.pointer (some ⟨db, 0, none⟩)) ∧ w.heap.size ≤ db ∧ w.heap.size ≤ nb ∧ w.heap.size ≤ mb ∧ DevAt w' db nb mb n n (List.replicate (n * 64) 0) 0 (.map []) 0 false ∧ Below w.heap.size w w' := by
  refine (new_yes n w h1 h2).mono ?_
  rintro e w' ⟨rfl, rfl⟩
  exact ⟨_, _, _, rfl, by omega, Nat.le_refl _, by omega, new_dev n w h1 h2, (((Below.refl _ w).alloc (Nat.le_refl _) _).alloc (by simp) _).alloc (by simp; omega) _⟩

theorem read_at {w : World} {db nb mb n cap : Nat} {B : List UInt8} {k : Nat} {D : DataW Unit} {left : Int} {down : Bool} (h : DevAt w db nb mb n cap B k D left down) (i : Nat) (hi : i < n) :
    Calls Tryz.prog 32 #[.pointer (some ⟨db, 0, none⟩), .int .i64 i] w fun e w' => ∃ g c, e = .returned (.tuple #[.slice (some ⟨g, 0, none⟩) 64 c, .int .i64 0]) ∧ w.heap.size ≤ g ∧ g < w'.heap.size ∧ w'.rangeAt g 0 (bytesV (sec B i)) ∧ Below w.heap.size w w' := by
  refine (read_yes h i hi).mono ?_
  rintro e w' ⟨v, rfl, hrow, hne, hb⟩
  obtain ⟨hl, ⟨rfl, h0⟩ | ⟨g, cap, cur, rfl, hg, hblk, hnc, hcm, hcs, hcur⟩⟩ := hrow
  · exact absurd rfl hne
  · refine ⟨g, cap, rfl, hg, (Array.getElem?_eq_some_iff.1 hblk).1, ?_, hb⟩
    intro j v hv
    rw [cell_of_row _ _ (0 + j) cur 5 (0, 0) hblk]
    rw [← hcur, List.getElem?_take] at hv
    split at hv
    · simpa using hv
    · cases hv

theorem where_at (n : Int) (ws : List ByteArray) (v : Value) (w : World) (hc : Chain w n ws v) (hl : ws.length ≤ 1000000) :
    Calls Tryz.prog 82 #[v] w fun ev w' => ∃ a c, ev = .returned (.slice a ws.length c) ∧ w'.ownsRow w.heap.size 9 1 (.slice a ws.length c) ws.length (ws.map Value.string) ∧ Below w.heap.size w w' := by
  refine (where_chain n ws v w hc hl).mono ?_
  rintro e w' ⟨v', rfl, hrow, hb⟩
  have hrow' := hrow
  obtain ⟨hl', ⟨rfl, h0⟩ | ⟨g, cap, cur, rfl, _⟩⟩ := hrow
  · exact ⟨none, 0, by rw [h0], by rw [h0] at hrow' ⊢; exact hrow', hb⟩
  · exact ⟨some ⟨g, 0, none⟩, cap, rfl, hrow', hb⟩

/-- The bytes of begun's sector. -/
def bb : List UInt8 := List.replicate 3 0 ++ 7 :: List.replicate 60 0
def zb : Array Value := (bytesV (List.replicate 64 0)).toArray
theorem mk33 (w : World) : (Instr.makeSlice 34 (.int .i64 64) (.int .i64 64)).run Tryz.prog w = .ok (.slice (some ⟨w.heap.size, 0, none⟩) 64 64) (w.alloc (.cells zb 5)) := by kernel_rfl
theorem zb_set : zb.setIfInBounds 3 (.int .u8 7) = (bytesV bb).toArray := by kernel_rfl
theorem zb_size : zb.size = 64 := by kernel_rfl

/-- The map behind begun's Write. -/
def bD : DataW Unit := (DataW.map []).put (.int .i64 5) (.lit (.string (sec (List.replicate 4096 0) 5)))
theorem bD_keys : intKeys bD = [5] := by rfl
theorem bD_has : Maps.has (DataW.map [] : DataW Unit) (.int .i64 5) = false := by rfl
theorem bD_was : wasOf bD 5 = sec (List.replicate 4096 0) 5 := by rfl
theorem secZ : sec (List.replicate 4096 0) 5 = List.replicate 64 0 := by decide +kernel
theorem enc_all : encInt (-3) ++ encInt 300 = [1, 253, 2, 44, 1] := by decide +kernel
end Go.Proofs.YtlmdeafmlommeaaGreatDoor
