import Derived.Test.YtmdjjnjhjojimaaDoorBinD
namespace Go.Proofs.YtmdjjnjhjojimaaDoor
open Go.RowKit Go.Maps

/-- The unsigned number of bytes, the lowest first. -/
def uB : List UInt8 → Nat
  | [] => 0
  | b :: r => b.toNat + 256 * uB r
theorem uB_lt : ∀ s : List UInt8, uB s < 256 ^ s.length
  | [] => by simp [uB]
  | b :: r => by
    have := uB_lt r
    have hb := b.toNat_lt
    simp only [uB, List.length_cons, Nat.pow_succ]
    omega
theorem uB_snoc : ∀ (s : List UInt8) (b : UInt8), uB (s ++ [b]) = uB s + b.toNat * 256 ^ s.length
  | [], b => by simp [uB]
  | c :: r, b => by
    have := uB_snoc r b
    simp only [List.cons_append, uB, this, List.length_cons, Nat.pow_succ, Nat.mul_add]
    rw [show b.toNat * (256 ^ r.length * 256) = 256 * (b.toNat * 256 ^ r.length) from by rw [Nat.mul_comm (256 ^ r.length) 256, Nat.mul_left_comm]]
    omega

theorem pow_256 (j : Nat) : 256 ^ j = 2 ^ (8 * j) := by rw [show (256 : Nat) = 2 ^ 8 from rfl, ← Nat.pow_mul]
/-- 'u | uint64(x) << (8*j)', u below 256^j. -/
theorem or_byte (u x j : Nat) (hu : u < 256 ^ j) (hx : x < 256) (hj : j < 8) : bits BinOp.or IntKind.u64 (u : Int) (IntKind.u64.wrap ((x : Int) * 2 ^ (8 * j))) = ((u + x * 256 ^ j : Nat) : Int) := by
  have hp : 2 ^ (8 * j) ≤ 2 ^ 56 := Nat.pow_le_pow_right (by omega) (by omega)
  have hxl : x * 2 ^ (8 * j) < 18446744073709551616 := by
    have h1 : x * 2 ^ (8 * j) ≤ 255 * 2 ^ 56 := Nat.mul_le_mul (by omega) hp
    have h2 : 255 * 2 ^ 56 < 18446744073709551616 := by decide
    omega
  rw [pow_256] at hu ⊢
  have hul : u < 18446744073709551616 := by
    have h2 : 2 ^ 56 < 18446744073709551616 := by decide
    omega
  have e1 : (x : Int) * 2 ^ (8 * j) = ((x * 2 ^ (8 * j) : Nat) : Int) := by push_cast; rfl
  rw [e1]
  have hw : IntKind.u64.wrap ((x * 2 ^ (8 * j) : Nat) : Int) = ((x * 2 ^ (8 * j) : Nat) : Int) := by
    have : ∀ y : Int, IntKind.u64.wrap y = y % 18446744073709551616 := fun y => by simp [IntKind.wrap, IntKind.bits, IntKind.signed]
    rw [this]; omega
  rw [hw, u64_or_nat _ _ hul hxl]
  congr 1
  have h3 := Nat.two_pow_add_eq_or_of_lt hu x
  rw [Nat.mul_comm x, Nat.or_comm, ← h3]
  omega
/-- The number that bytes make, the sign in the last one. -/
def joinB (s : List UInt8) : Int := wrap64 (IntKind.u64.wrap ((uB s : Int) * 2 ^ (8 * (8 - s.length)))) / 2 ^ (8 * (8 - s.length))

set_option maxRecDepth 100000 in
set_option maxHeartbeats 400000 in
theorem join_any (g o c : Nat) (s : List UInt8) (w : World) (hs : s.length ≤ 8) (hr : w.rangeAt g o (bytesV s)) :
    Calls Tryd.prog 63 #[.slice (some ⟨g, o, none⟩) s.length c] w fun e w' => e = .returned (.int .i64 (joinB s)) ∧ w' = w := by
  go_enter Tryd.func63, Tryd.ntmps63
  go_wp2
  go_loop [3, 9] (fun u i => ∃ j : Nat, j ≤ s.length ∧ i = .int .i64 j ∧ u = .int .u64 (uB (s.take j))) (fun _ i => s.length - (RowKit.intOf i).toNat)
  case atStart => exact ⟨0, Nat.zero_le _, rfl, rfl⟩
  case round =>
    obtain ⟨j, hj, rfl, rfl⟩ := hrel
    by_cases hlt : j < s.length
    · have hcell : w.cell? ⟨g, o + j, none⟩ = some (.int .u8 s[j].toNat) := hr j _ (by simp [bytesV, List.getElem?_eq_getElem hlt, bV])
      have hx := s[j].toNat_lt
      have hu := uB_lt (s.take j)
      rw [List.length_take, Nat.min_eq_left hj] at hu
      have HS : Hid (uB (s.take (j + 1)) = uB (s.take j) + s[j].toNat * 256 ^ j) := by
        show uB (s.take (j + 1)) = _
        rw [List.take_succ_eq_append_getElem hlt, uB_snoc, List.length_take, Nat.min_eq_left hj]
      have HO : Hid (bits BinOp.or IntKind.u64 (uB (s.take j) : Int) (IntKind.u64.wrap ((s[j].toNat : Int) * 2 ^ (8 * j))) = ((uB (s.take j) + s[j].toNat * 256 ^ j : Nat) : Int)) := or_byte _ _ _ hu hx (by omega)
      clear hu
      generalize s[j].toNat = x at hcell hx HS HO
      generalize uB (s.take j) = u at HS HO ⊢
      go_wp2
      go_round
      case rel => exact ⟨j + 1, by omega, by go_num, by rw [HO.out, HS.out]⟩
      case measure => simp [RowKit.intOf]; omega
    · go_wp2
      have : j = s.length := by omega
      subst this
      go_ret
      exact ⟨by rw [List.take_length]; rfl, rfl⟩
theorem join_nil (c : Nat) (w : World) : Calls Tryd.prog 63 #[.slice none 0 c] w fun e w' => e = .returned (.int .i64 0) ∧ w' = w := by
  go_enter Tryd.func63, Tryd.ntmps63
  go_wp2
  refine wp_loop_rounds 1 ?_
  rw [rounds_succ]
  go_wp2
  go_ret
  exact ⟨rfl, rfl⟩
end Go.Proofs.YtmdjjnjhjojimaaDoor
