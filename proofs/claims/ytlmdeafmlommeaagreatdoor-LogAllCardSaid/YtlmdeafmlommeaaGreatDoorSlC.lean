import Derived.Test.YtlmdeafmlommeaaGreatDoorSlB
import Derived.Test.YtlmdeafmlommeaaGreatDoorIntsA
import Derived.Laws.BitsAllLaws
namespace Go.Proofs.YtlmdeafmlommeaaGreatDoor
open Go.RowKit

theorem foldl_take (s : List UInt8) (j : Nat) (hj : j < s.length) (z : Nat) : (s.take (j + 1)).foldl crcByte z = crcByte ((s.take j).foldl crcByte z) (s.getD j 0) := by
  rw [List.take_succ_eq_append_getElem hj, List.foldl_append]
  simp [List.getD, List.getElem?_eq_getElem hj]
theorem wrapU64 (n : Nat) (h : n < 18446744073709551616) : IntKind.u64.wrap (n : Int) = (n : Int) := by
  have : IntKind.u64.wrap (n : Int) = (n : Int) % 18446744073709551616 := by simp [IntKind.wrap, IntKind.bits, IntKind.signed]
  rw [this]; omega
theorem range_byte {w : World} {g o : Nat} {s : List UInt8} (h : w.rangeAt g o (bytesV s)) (j : Nat) (hj : j < s.length) : w.cell? ⟨g, o + j, none⟩ = some (.int .u8 (s.getD j 0).toNat) := by
  have := h j (bV (s.getD j 0)) (by unfold bytesV; rw [List.getElem?_map, List.getElem?_eq_getElem hj]; simp [List.getD, List.getElem?_eq_getElem hj])
  simpa [bV] using this

set_option maxRecDepth 100000 in
set_option maxHeartbeats 1000000 in
theorem sum_some (g o c : Nat) (s : List UInt8) (w : World) (hl : s.length ≤ 1000000) (hr : w.rangeAt g o (bytesV s)) :
    Calls Tryz.prog 87 #[.slice (some ⟨g, o, none⟩) s.length c] w fun e w' => e = .returned (.int .u64 (crcAll s : Nat)) ∧ w' = w := by
  go_enter Tryz.func87, Tryz.ntmps87
  go_wp2_with fail
  have HR : Hid (w.rangeAt g o (bytesV s)) := hr
  clear hr
  go_loop [3, 9] (fun s3 s9 => ∃ j : Nat, j ≤ s.length ∧ s9 = .int .i64 j ∧ s3 = .int .u64 ((s.take j).foldl crcByte 18446744073709551615 : Nat)) (fun _ s9 => s.length - (RowKit.intOf s9).toNat)
  case atStart => exact ⟨0, Nat.zero_le _, rfl, rfl⟩
  case round =>
    obtain ⟨j, hj, rfl, rfl⟩ := hrel
    by_cases hlt : j < s.length
    · have hc := range_byte HR.out j hlt
      have hS := foldl_take s j hlt 18446744073709551615
      have hz := crcFold_lt (s.take j) (s := 18446744073709551615) (by decide)
      generalize (s.take j).foldl crcByte 18446744073709551615 = z at hS hz ⊢
      generalize s.getD j 0 = x at hS hc
      have HS : Hid ((s.take (j + 1)).foldl crcByte 18446744073709551615 = crcByte z x) := hS
      clear hS
      have hx8 : x.toNat < 256 := x.toNat_lt
      have e1 : Hid (bits BinOp.xor IntKind.u64 (z : Int) (x.toNat : Int) = ((z ^^^ x.toNat : Nat) : Int)) := u64_xor_nat _ _ hz (by omega)
      have hv := crcXor_lt x hz
      go_wp2_with fail
      rw [e1.out]
      clear e1
      generalize hzv : z ^^^ x.toNat = v at hv ⊢
      have HS2 : Hid ((s.take (j + 1)).foldl crcByte 18446744073709551615 = crcBits 8 v) := by rw [← hzv]; exact HS.out
      clear hzv HS hz
      go_loop [3, 17] (fun s3 s17 => ∃ k : Nat, k ≤ 8 ∧ s17 = .int .i64 k ∧ s3 = .int .u64 (crcBits k v : Nat)) (fun _ s17 => 8 - (RowKit.intOf s17).toNat)
      case atStart => exact ⟨0, by omega, rfl, rfl⟩
      case round =>
        obtain ⟨k, hk, rfl, rfl⟩ := hrel
        have hy := crcBits_lt k hv
        by_cases hk8 : k < 8
        · have HB : Hid (crcBits (k + 1) v = crcBit (crcBits k v)) := rfl
          generalize crcBits k v = y at hy HB ⊢
          have ea : bits BinOp.and IntKind.u64 (y : Int) 1 = ((y &&& 1 : Nat) : Int) := u64_and_nat y 1 hy (by decide)
          by_cases hb : y &&& 1 = 1
          · have hE : Hid (crcBits (k + 1) v = y / 2 ^^^ 14514072000185962306) := by rw [HB.out]; unfold crcBit; rw [if_pos hb]; exact rfl
            have hX : Hid (bits BinOp.xor IntKind.u64 ((y : Int) / 2) 14514072000185962306 = ((y / 2 ^^^ 14514072000185962306 : Nat) : Int)) := by
              have := u64_xor_nat (y / 2) 14514072000185962306 (by omega) (by decide)
              exact this
            rw [hb] at ea
            clear HB hb
            go_wp2_with fail
            exact ⟨⟨k + 1, by omega, by go_num, by rw [hX.out, hE.out]⟩, by simp [RowKit.intOf]; omega⟩
          · have hE : Hid (crcBits (k + 1) v = y / 2) := by rw [HB.out]; unfold crcBit; rw [if_neg hb]; exact rfl
            have hb0 : y &&& 1 = 0 := by have := Nat.and_one_is_mod y; omega
            rw [hb0] at ea
            clear HB hb hb0
            go_wp2_with fail
            exact ⟨⟨k + 1, by omega, by go_num, by rw [hE.out]; push_cast; rfl⟩, by simp [RowKit.intOf]; omega⟩
        · have hk' : k = 8 := by omega
          subst hk'
          go_wp2_with fail
          exact ⟨⟨j + 1, by omega, by go_num, by rw [HS2.out]⟩, by simp [RowKit.intOf]; omega⟩
    · have hjn : j = s.length := by omega
      subst hjn
      go_wp2_with fail
      go_ret
      exact ⟨rfl, rfl⟩
end Go.Proofs.YtlmdeafmlommeaaGreatDoor
