import Derived.Test.YtmdjjnjhjojimaaDoorClone
import Derived.Test.YtmdjjnjhjojimaaDoorLayB
import Derived.Maps.AppendAt
import Derived.Laws.BitsAllLaws
namespace Go.Proofs.YtmdjjnjhjojimaaDoor
open Go.RowKit Go.Maps

/-- In how many bytes a number fits with its sign. -/
def mag (n : Int) : Nat := (if n < 0 then -1 - n else n).toNat
def wid (n : Int) : Nat := if n = 0 then 0 else Lib.bitLen (mag n) / 8 + 1

theorem len64 (x : Int) (w : World) (h0 : 0 ≤ x) (h1 : x ≤ 18446744073709551615) :
    Calls Tryd.prog 73 #[.int .u64 x] w fun e w' => e = .returned (.int .i64 (Lib.bitLen x.toNat)) ∧ w' = w := Any.bits_Len64 Tryd.lays129 x w h0 h1

theorem width_zero (w : World) : Calls Tryd.prog 62 #[.int .i64 0] w fun e w' => e = .returned (.int .i64 0) ∧ w' = w := by
  go_enter Tryd.func62, Tryd.ntmps62
  go_wp2
  go_ret
  exact ⟨rfl, rfl⟩

theorem xor_sign (n : Int) (h0 : -9223372036854775808 ≤ n) (h1 : n ≤ 9223372036854775807) : IntKind.u64.wrap (bits BinOp.xor IntKind.i64 n (n / 9223372036854775808)) = (mag n : Int) := by
  have hw : ∀ x : Int, IntKind.u64.wrap x = x % 18446744073709551616 := fun x => by simp [IntKind.wrap, IntKind.bits, IntKind.signed]
  have hi : ∀ x : Int, IntKind.i64.wrap x = wrap64 x := fun x => by rw [IntKind.wrap_i64]; unfold wrap64; rfl
  by_cases hn : n < 0
  · have e : n / 9223372036854775808 = -1 := by omega
    rw [e]
    have hx : bits BinOp.xor IntKind.i64 n (-1) = -1 - n := by
      show IntKind.i64.wrap ((BitVec.ofInt 64 n ^^^ BitVec.ofInt 64 (-1)).toNat : Int) = _
      have h1' : BitVec.ofInt 64 (-1) = BitVec.allOnes 64 := by decide
      rw [h1', BitVec.xor_allOnes, BitVec.toNat_not, BitVec.toNat_ofInt]
      simp [IntKind.wrap, IntKind.bits, IntKind.signed]
      omega
    rw [hx, hw, mag, if_pos hn]
    omega
  · have e : n / 9223372036854775808 = 0 := by omega
    rw [e]
    have hx : bits BinOp.xor IntKind.i64 n 0 = n := by
      show IntKind.i64.wrap ((BitVec.ofInt 64 n ^^^ BitVec.ofInt 64 0).toNat : Int) = _
      have h1' : BitVec.ofInt 64 0 = 0#64 := by decide
      rw [h1', BitVec.xor_zero, BitVec.toNat_ofInt]
      simp [IntKind.wrap, IntKind.bits, IntKind.signed]
      omega
    rw [hx, hw, mag, if_neg hn]
    omega
theorem mag_le (n : Int) (h0 : -9223372036854775808 ≤ n) (h1 : n ≤ 9223372036854775807) : mag n ≤ 9223372036854775807 := by unfold mag; split <;> omega
theorem bitLenAux_le : ∀ (f x : Nat), Lib.bitLenAux f x ≤ f
  | 0, _ => by simp [Lib.bitLenAux]
  | f + 1, x => by
    have := bitLenAux_le f (x / 2)
    simp only [Lib.bitLenAux]; split <;> omega
theorem bitLen_le (x : Nat) : Lib.bitLen x ≤ 64 := bitLenAux_le 64 x

theorem width_any (n : Int) (w : World) (h0 : -9223372036854775808 ≤ n) (h1 : n ≤ 9223372036854775807) (hn : (n == 0) = false) : Calls Tryd.prog 62 #[.int .i64 n] w fun e w' => e = .returned (.int .i64 (wid n)) ∧ w' = w := by
  have hx := xor_sign n h0 h1
  have hm := mag_le n h0 h1
  have hl := bitLen_le (mag n)
  have he : (wid n : Int) = (Lib.bitLen (mag n) : Int) / 8 + 1 := by
    unfold wid; rw [if_neg (by simpa using hn)]; omega
  have HE : Hid ((wid n : Int) = (Lib.bitLen (mag n) : Int) / 8 + 1) := he
  clear he
  go_enter Tryd.func62, Tryd.ntmps62
  go_wp2_with (go_at_call 73; refine (len64 _ _ (by omega) (by omega)).mono ?_; rintro e w' ⟨rfl, rfl⟩)
  go_ret
  exact ⟨by rw [HE.out]; rfl, rfl⟩
end Go.Proofs.YtmdjjnjhjojimaaDoor
