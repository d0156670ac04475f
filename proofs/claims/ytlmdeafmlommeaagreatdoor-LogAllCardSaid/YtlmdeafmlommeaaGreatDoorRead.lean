import Derived.Test.YtlmdeafmlommeaaGreatDoorDevC
import Derived.Test.YtlmdeafmlommeaaGreatDoorClone
namespace Go.Proofs.YtlmdeafmlommeaaGreatDoor
open Go.RowKit Go.Maps

theorem read_nil (i : Int) (w : World) :
    Calls Tryz.prog 32 #[.pointer none, .int .i64 i] w fun e w' => e = .returned (.tuple #[.slice none 0 0, .int .i64 9]) ∧ w' = w := by
  go_enter Tryz.func32, Tryz.ntmps32
  go_wp2
  go_ret2
  exact ⟨rfl, rfl⟩

theorem read_no {w : World} {db nb mb n cap : Nat} {B : List UInt8} {k : Nat} {D : DataW Unit} {left : Int} {down : Bool} (h : DevAt w db nb mb n cap B k D left down) (i : Int) (hi : i < 0 ∨ n ≤ i) :
    Calls Tryz.prog 32 #[.pointer (some ⟨db, 0, none⟩), .int .i64 i] w fun e w' => e = .returned (.tuple #[.slice none 0 0, .int .i64 2]) ∧ w' = w := by
  go_enter Tryz.func32, Tryz.ntmps32
  go_wp2_with (go_at_call 58; refine (has_no _ _ _ _ _ _ h.c0 hi).mono ?_; rintro e w' ⟨rfl, rfl⟩)
  go_ret2
  exact ⟨rfl, rfl⟩

set_option maxHeartbeats 400000 in
theorem read_yes {w : World} {db nb mb n cap : Nat} {B : List UInt8} {k : Nat} {D : DataW Unit} {left : Int} {down : Bool} (h : DevAt w db nb mb n cap B k D left down) (i : Nat) (hi : i < n) :
    Calls Tryz.prog 32 #[.pointer (some ⟨db, 0, none⟩), .int .i64 i] w fun e w' => ∃ v', e = .returned (.tuple #[v', .int .i64 0]) ∧ w'.ownsRow w.heap.size 5 1 v' 64 (bytesV (sec B i)) ∧ v' ≠ .slice none 0 0 ∧ Below w.heap.size w w' := by
  have c0 := h.c0
  have hr := rangeAt_sec h.now i
  have hl := sec_length h.len hi
  have H : Hid (w.rangeAt nb (64 * i) (bytesV (sec B i))) := hr
  have HL : Hid ((sec B i).length = 64) := hl
  clear hr hl
  go_enter Tryz.func32, Tryz.ntmps32
  go_wp2_with (go_at_call 58; refine (has_yes _ _ _ _ _ _ h.c0 (by omega) (by omega)).mono ?_; rintro e w' ⟨rfl, rfl⟩)
  have H' : w'.rangeAt nb (i * 64) (bytesV (sec B i)) := by rw [Nat.mul_comm]; exact H.out
  refine (clone48 nb (i * 64) 64 64 (sec B i) w' HL.out (by omega) H').mono ?_
  rintro e w1 ⟨v', rfl, hrow, hne, hb⟩
  clear H'
  go_wp2
  go_ret2
  exact ⟨v', rfl, hrow, hne, hb⟩
end Go.Proofs.YtlmdeafmlommeaaGreatDoor
