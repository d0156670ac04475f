import Derived.Test.YteaacodloabdcaaGreatDoorSlA
import Derived.Test.YteaacodloabdcaaGreatDoorLeastA
import Derived.Laws.BitsAllLaws
import Derived.Laws.CopyOwn
namespace Go.Proofs.YteaacodloabdcaaGreatDoor
open Go.RowKit

theorem foldl_take (s : List UInt8) (j : Nat) (hj : j < s.length) (z : Nat) : (s.take (j + 1)).foldl crcByte z = crcByte ((s.take j).foldl crcByte z) (s.getD j 0) := by
  rw [List.take_succ_eq_append_getElem hj, List.foldl_append]
  simp [List.getD, List.getElem?_eq_getElem hj]
theorem wrapU64 (n : Nat) (h : n < 18446744073709551616) : IntKind.u64.wrap (n : Int) = (n : Int) := by
  have : IntKind.u64.wrap (n : Int) = (n : Int) % 18446744073709551616 := by simp [IntKind.wrap, IntKind.bits, IntKind.signed]
  rw [this]; omega
theorem range_byte {w : World} {g o : Nat} {s : List UInt8} (h : w.rangeAt g o (bytesV s)) (j : Nat) (hj : j < s.length) : w.cell? ⟨g, o + j, none⟩ = some (.int .u8 (s.getD j 0).toNat) := by
  have := h j (bV (s.getD j 0)) (by unfold bytesV; rw [List.getElem?_map, List.getElem?_eq_getElem hj]; simp [List.getD, List.getElem?_eq_getElem hj])
  simpa [bV] using this

set_option maxRecDepth 100000 in
set_option maxHeartbeats 1000000 in
theorem sum_some (g o c : Nat) (s : List UInt8) (w : World) (hl : s.length ≤ 1000000) (hr : w.rangeAt g o (bytesV s)) :
    Calls Tryz.prog 179 #[.slice (some ⟨g, o, none⟩) s.length c] w fun e w' => e = .returned (.int .u64 (crcAll s : Nat)) ∧ w' = w := by
  go_enter Tryz.func179, Tryz.ntmps179
  go_wp2_with fail
  have HR : Hid (w.rangeAt g o (bytesV s)) := hr
  clear hr
  go_loop [3, 9] (fun s3 s9 => ∃ j : Nat, j ≤ s.length ∧ s9 = .int .i64 j ∧ s3 = .int .u64 ((s.take j).foldl crcByte 18446744073709551615 : Nat)) (fun _ s9 => s.length - (RowKit.intOf s9).toNat)
  case atStart => exact ⟨0, Nat.zero_le _, rfl, rfl⟩
  case round =>
    obtain ⟨j, hj, rfl, rfl⟩ := hrel
    by_cases hlt : j < s.length
    · have hc := range_byte HR.out j hlt
      have hS := foldl_take s j hlt 18446744073709551615
      have hz := crcFold_lt (s.take j) (s := 18446744073709551615) (by decide)
      generalize (s.take j).foldl crcByte 18446744073709551615 = z at hS hz ⊢
      generalize s.getD j 0 = x at hS hc
      have HS : Hid ((s.take (j + 1)).foldl crcByte 18446744073709551615 = crcByte z x) := hS
      clear hS
      have hx8 : x.toNat < 256 := x.toNat_lt
      have e1 : Hid (bits BinOp.xor IntKind.u64 (z : Int) (x.toNat : Int) = ((z ^^^ x.toNat : Nat) : Int)) := u64_xor_nat _ _ hz (by omega)
      have hv := crcXor_lt x hz
      go_wp2_with fail
      rw [e1.out]
      clear e1
      generalize hzv : z ^^^ x.toNat = v at hv ⊢
      have HS2 : Hid ((s.take (j + 1)).foldl crcByte 18446744073709551615 = crcBits 8 v) := by rw [← hzv]; exact HS.out
      clear hzv HS hz
      go_loop [3, 17] (fun s3 s17 => ∃ k : Nat, k ≤ 8 ∧ s17 = .int .i64 k ∧ s3 = .int .u64 (crcBits k v : Nat)) (fun _ s17 => 8 - (RowKit.intOf s17).toNat)
      case atStart => exact ⟨0, by omega, rfl, rfl⟩
      case round =>
        obtain ⟨k, hk, rfl, rfl⟩ := hrel
        have hy := crcBits_lt k hv
        by_cases hk8 : k < 8
        · have HB : Hid (crcBits (k + 1) v = crcBit (crcBits k v)) := rfl
          generalize crcBits k v = y at hy HB ⊢
          have ea : bits BinOp.and IntKind.u64 (y : Int) 1 = ((y &&& 1 : Nat) : Int) := u64_and_nat y 1 hy (by decide)
          by_cases hb : y &&& 1 = 1
          · have hE : Hid (crcBits (k + 1) v = y / 2 ^^^ 14514072000185962306) := by rw [HB.out]; unfold crcBit; rw [if_pos hb]; exact rfl
            have hX : Hid (bits BinOp.xor IntKind.u64 ((y : Int) / 2) 14514072000185962306 = ((y / 2 ^^^ 14514072000185962306 : Nat) : Int)) := by
              have := u64_xor_nat (y / 2) 14514072000185962306 (by omega) (by decide)
              exact this
            rw [hb] at ea
            clear HB hb
            go_wp2_with fail
            exact ⟨⟨k + 1, by omega, by go_num, by rw [hX.out, hE.out]⟩, by simp [RowKit.intOf]; omega⟩
          · have hE : Hid (crcBits (k + 1) v = y / 2) := by rw [HB.out]; unfold crcBit; rw [if_neg hb]; exact rfl
            have hb0 : y &&& 1 = 0 := by have := Nat.and_one_is_mod y; omega
            rw [hb0] at ea
            clear HB hb hb0
            go_wp2_with fail
            exact ⟨⟨k + 1, by omega, by go_num, by rw [hE.out]; push_cast; rfl⟩, by simp [RowKit.intOf]; omega⟩
        · have hk' : k = 8 := by omega
          subst hk'
          go_wp2_with fail
          exact ⟨⟨j + 1, by omega, by go_num, by rw [HS2.out]⟩, by simp [RowKit.intOf]; omega⟩
    · have hjn : j = s.length := by omega
      subst hjn
      go_wp2_with fail
      go_ret
      exact ⟨rfl, rfl⟩
end Go.Proofs.YteaacodloabdcaaGreatDoor

namespace Go.Proofs.YteaacodloabdcaaGreatDoor
open Go.RowKit

theorem three_new (w : World) (o1 o2 o3 : Obj) : (((w.alloc o1).alloc o2).alloc o3).heap[w.heap.size]? = some o1 ∧ (((w.alloc o1).alloc o2).alloc o3).heap[w.heap.size + 1]? = some o2 ∧ (((w.alloc o1).alloc o2).alloc o3).heap[w.heap.size + 1 + 1]? = some o3 ∧ (((w.alloc o1).alloc o2).alloc o3).heap.size = w.heap.size + 3 ∧ Below w.heap.size w (((w.alloc o1).alloc o2).alloc o3) := by
  have s1 : (w.alloc o1).heap.size = w.heap.size + 1 := by simp
  have s2 : ((w.alloc o1).alloc o2).heap.size = w.heap.size + 1 + 1 := by simp
  refine ⟨?_, ?_, ?_, by simp, (((Below.refl _ w).alloc (Nat.le_refl _) _).alloc (by omega) _).alloc (by omega) _⟩
  · rw [Below.heap_alloc _ _ _ (by omega), Below.heap_alloc _ _ _ (by omega)]; exact heap_alloc_last w o1
  · rw [Below.heap_alloc _ _ _ (by omega), ← s1]; exact heap_alloc_last _ o2
  · rw [← s2]; exact heap_alloc_last _ o3
theorem range_of_row {w : World} {g : Nat} {cs : Array Value} {t : TypeId} (h : w.heap[g]? = some (.cells cs t)) (xs : List Value) (hx : cs.toList = xs) : w.rangeAt g 0 xs := by
  intro j v hv
  rw [cell_of_row _ _ (0 + j) _ t (0, 0) h]
  rw [← hx] at hv
  simpa using hv
/-- A new writer. -/
theorem wr_new {w : World} {wb base : Nat} (h : w.heap[wb]? = some (.cells #[.slice none 0 0] 69)) (hb : base ≤ w.heap.size) : WrAt w wb base [] none 0 where
  c0 := by rw [cell_of_row _ _ 0 _ 69 (0, 0) h]; rfl
  f0 := by unfold World.frozen?; rw [h]; simp
  row := World.ownsRow_nil _ _ _ _
  bs := hb
  ne := by simp [Value.ownBlock]

theorem size5 : (Tryz.prog.info? 5).map (·.size) = some 1 := by kernel_rfl
theorem mk64 (w : World) : (Instr.makeSlice 67 (.int .i64 64) (.int .i64 64)).run Tryz.prog w = .ok (.slice (some ⟨w.heap.size, 0, none⟩) 64 64) (w.alloc (.cells (bytesV zsec).toArray 5)) := by
  have hx := info5
  cases hq : Tryz.prog.info? 5 with
  | none => rw [hq] at hx; cases hx
  | some i =>
    rw [hq] at hx
    simp only [Option.map_some, Option.some.injEq, Prod.mk.injEq] at hx
    obtain ⟨h1, h2, h3⟩ := hx
    rw [run_make w 67 5 i _ Tryz.underlying67 hq h1 .i64 .i64 64 64 (by omega) (by omega) (by rw [h3]; decide) (by omega)]
    have e : madeCells (Value.int .u8 0).cells ((64 : Int).toNat * i.size) = (bytesV zsec).toArray := by
      show madeCells (Array.replicate 1 (.int .u8 0)) _ = _
      rw [madeCells_rep _ _ _ (by omega), h2]
      rfl
    rw [e]
    rfl

set_option maxRecDepth 100000 in
set_option maxHeartbeats 1000000 in
theorem sector_at (t : Int) (A : List Int) (hF : Fine t A) (ka : Option Addr) (kc : Nat) (w : World) (hA : IntsAt w w.heap.size ka A.length A) :
    Calls Tryz.prog 155 #[.agg #[.int .i64 t, .slice ka A.length kc]] w fun e w' => ∃ g, e = .returned (.slice (some ⟨g, 0, none⟩) 64 64) ∧ w.heap.size ≤ g ∧ g < w'.heap.size ∧ w'.rangeAt g 0 (bytesV (secOf t A)) ∧ Below w.heap.size w w' := by
  have f0 := hF.t0
  have f1 : t < 1099511627776 := hF.t1
  have f2 := hF.len
  obtain ⟨n1, n2, n3, hs3, hb3⟩ := three_new w (.cells #[.int .i64 t, .slice ka A.length kc] 172) (.cells #[.slice none 0 0] 69) (.cells #[.int .i64 t, .int .i64 A.length] 2)
  go_enter Tryz.func155, Tryz.ntmps155
  go_wp2_with fail
  generalize (((w.alloc (.cells #[.int .i64 t, .slice ka A.length kc] 172)).alloc (.cells #[.slice none 0 0] 69)).alloc (.cells #[.int .i64 t, .int .i64 A.length] 2)) = w3 at n1 n2 n3 hs3 hb3 ⊢
  have hW0 : WrAt w3 (w.heap.size + 1) (w.heap.size + 3) [] none 0 := wr_new n2 (by omega)
  have k1 : w3.cell? ⟨w.heap.size, 1, none⟩ = some (.slice ka A.length kc) := by rw [cell_of_row _ _ 1 _ 172 (0, 0) n1]; rfl
  refine (int_any hW0 (w.heap.size + 1 + 1) 0 2 [t, (A.length : Int)] (range_of_row n3 _ rfl) (by omega) (by simp [Value.ownBlock]) (fun x hx => by simp only [List.mem_cons, List.not_mem_nil, or_false] at hx; rcases hx with rfl | rfl <;> omega) (by simp)).mono ?_
  rintro e w4 ⟨a4, c4, rfl, hW4, hk4, _⟩
  have k14 := (hk4.cell (p := ⟨w.heap.size, 1, none⟩) (by show w.heap.size < _; omega) (by simp [Value.ownBlock])).trans k1
  have hs4 := hk4.size
  have hb4 : Below w.heap.size w w4 := hb3.trans (hk4.below (by omega) (fun i hi => by rcases hi with hi | hi; omega; simp [Value.ownBlock] at hi))
  have hA4 := hA.below hb4
  clear hW0 hk4 n1 n2 n3 k1
  have e1 : ([] : List UInt8) ++ [t, (A.length : Int)].flatMap encInt = encInt t ++ encInt A.length := by simp
  rw [e1] at hW4
  have hl4 : (encInt t ++ encInt A.length).length ≤ 20 := by
    rw [List.length_append]
    have := encInt_le t (by omega) (by omega)
    have := encInt_le (A.length : Int) (by omega) (by omega)
    omega
  go_wp2_with fail
  refine (int_ints hW4 ka A.length kc A hA4 (by omega) (by omega) (by omega)).mono ?_
  rintro e w5 ⟨a5, c5, rfl, hW5, hk5⟩
  have hs5 := hk5.size
  have hb5 : Below w.heap.size w w5 := hb4.trans (hk5.below (by omega) (fun i hi => by rcases hi with hi | hi; omega; have := (hW4.own hi).1; omega))
  have e2 : encInt t ++ encInt A.length ++ A.flatMap encInt = bodyOf t A := by unfold bodyOf; rw [List.append_assoc]
  rw [e2] at hW5
  have hfl := full_le hF
  have hfb : (fullOf t A).length = (bodyOf t A).length + (encInt (sumOf (bodyOf t A))).length := by unfold fullOf; rw [List.length_append]
  have hse := encInt_length (sumOf (bodyOf t A))
  have hbne : bodyOf t A ≠ [] := by unfold bodyOf encInt; simp
  clear hW4 hk5 hA4 e1 e2 hl4 k14
  have HF : Hid ((fullOf t A).length = (bodyOf t A).length + (encInt (sumOf (bodyOf t A))).length ∧ (fullOf t A).length ≤ 54) := ⟨hfb, hfl⟩
  have hbl : (bodyOf t A).length ≤ 54 := by omega
  clear hfb hfl hse
  go_wp2_with fail
  refine (wbytes_any hW5 (by omega)).mono ?_
  rintro e w6 ⟨hb56, ⟨_, hn⟩ | ⟨g6, cap6, rfl, hg6, hr6, hcap6, hgl6⟩⟩
  · exact absurd hn hbne
  have hW6 : WrAt w6 (w.heap.size + 1) (w.heap.size + 3) (bodyOf t A) a5 c5 := hW5.keeps (S := fun _ => False) (Keeps.of_below hb56) (fun e => e) (fun _ _ e => e)
  have hs6 := hb56.size
  have hb6 : Below w.heap.size w w6 := hb5.trans (hb56.mono (by omega))
  clear hW5 hbne
  go_wp2_with fail
  refine (sum_some g6 0 cap6 (bodyOf t A) w6 (by omega) hr6).mono ?_
  rintro e w7 ⟨rfl, hw7⟩
  subst hw7
  have hsum : Hid (sumOf (bodyOf t A) = wrap64 (crcAll (bodyOf t A) : Nat)) := rfl
  have hc64 := crcAll_lt (bodyOf t A)
  go_wp2_with fail
  rw [← hsum.out]
  have hfit := sumOf_fit (bodyOf t A)
  have hfull : bodyOf t A ++ [sumOf (bodyOf t A)].flatMap encInt = fullOf t A := by unfold fullOf; simp
  generalize sumOf (bodyOf t A) = sm at hfit hfull ⊢
  clear hsum hc64
  have hb78 : Below w7.heap.size w7 (w7.alloc (.cells #[.int .i64 sm] 2)) := (Below.refl _ w7).alloc (Nat.le_refl _) _
  have hn8 := heap_alloc_last w7 (.cells #[.int .i64 sm] 2)
  have hs8 : (w7.alloc (.cells #[.int .i64 sm] 2)).heap.size = w7.heap.size + 1 := by simp
  have hW8 : WrAt (w7.alloc (.cells #[.int .i64 sm] 2)) (w.heap.size + 1) (w.heap.size + 3) (bodyOf t A) a5 c5 := hW6.alloc _
  have hown8 : (Value.slice a5 (bodyOf t A).length c5).ownBlock ≠ some w7.heap.size := fun e => by have := (hW6.own e).2; omega
  have hlen8 : (bodyOf t A).length ≤ 54 := hbl
  generalize w7.alloc (.cells #[.int .i64 sm] 2) = w8 at hb78 hn8 hs8 hW8 ⊢
  refine (int_any hW8 w7.heap.size 0 1 [sm] (range_of_row hn8 _ rfl) (by omega) hown8 (fun x hx => by simp only [List.mem_cons, List.not_mem_nil, or_false] at hx; subst hx; exact hfit) (by simp; omega)).mono ?_
  rintro e w9 ⟨a9, c9, rfl, hW9, hk9, _⟩
  rw [hfull] at hW9
  have hs9 := hk9.size
  have hb8 : Below w.heap.size w w8 := hb6.trans (hb78.mono (by omega))
  have hb9 : Below w.heap.size w w9 := hb8.trans (hk9.below (by omega) (fun i hi => by rcases hi with hi | hi; omega; have := (hW8.own hi).1; omega))
  have hfl : (fullOf t A).length ≤ 54 := HF.out.2
  have hne9 : fullOf t A ≠ [] := by unfold fullOf bodyOf encInt; simp
  have HS : Hid (secOf t A = fullOf t A ++ List.replicate (64 - (fullOf t A).length) 0) := rfl
  clear hW6 hW8 hk9 hown8 hlen8 hfull hn8 hb78 hb6 hb8 hfit hbl HF hr6 hcap6
  generalize fullOf t A = F at hW9 hfl hne9 HS
  have hmk := fun W => mk64 W
  go_wp2_with fail
  clear hmk
  have hn10 := heap_alloc_last w9 (.cells (bytesV zsec).toArray 5)
  have hs10 : (w9.alloc (.cells (bytesV zsec).toArray 5)).heap.size = w9.heap.size + 1 := by simp
  have hb10 : Below w.heap.size w (w9.alloc (.cells (bytesV zsec).toArray 5)) := hb9.alloc hb9.size _
  have hW10 := hW9.alloc (.cells (bytesV zsec).toArray 5)
  generalize w9.alloc (.cells (bytesV zsec).toArray 5) = w10 at hn10 hs10 hb10 hW10 ⊢
  clear hW9
  refine (wbytes_any hW10 (by omega)).mono ?_
  rintro e w11 ⟨hb11, ⟨_, hn⟩ | ⟨g11, cap11, rfl, hg11, hr11, hcap11, hgl11⟩⟩
  · exact absurd hn hne9
  have hn11 : w11.heap[w9.heap.size]? = some (.cells (bytesV zsec).toArray 5) := (hb11.block w9.heap.size (by omega)).trans hn10
  have hbw11 : Below w.heap.size w w11 := hb10.trans (hb11.mono (by omega))
  have hs11 := hb11.size
  clear hW10 hne9
  have hq1 : (bytesV F).length = Nat.min F.length 64 := by rw [bytesV_length]; exact (Nat.min_eq_left (by omega)).symm
  have hq2 : ∀ j v, (bytesV F)[j]? = some v → w11.cell? (Addr.add ⟨g11, 0, none⟩ j) = some v := by
    intro j v hv
    rw [Addr.add_mid]
    exact hr11 j v hv
  have hq3 : 0 + (bytesV F).length ≤ (bytesV zsec).toArray.size := by
    rw [bytesV_length, List.size_toArray, bytesV_length]
    have : zsec.length = 64 := rfl
    omega
  have hq4 : Hid ((bytesV F ++ (bytesV zsec).drop (0 + (bytesV F).length)) = bytesV (secOf t A)) := by
    show bytesV F ++ (bytesV zsec).drop (0 + (bytesV F).length) = bytesV (secOf t A)
    rw [HS.out, bytesV_length]
    unfold bytesV
    rw [List.map_append, ← List.map_drop, show zsec = List.replicate 64 0 from rfl, List.drop_replicate]
    simp
  have hrun := run_copy_row (P := Tryz.prog) w11 67 67 3 5 w9.heap.size 0 64 64 ⟨g11, 0, none⟩ F.length cap11 (bytesV zsec).toArray 5 (bytesV F) Tryz.underlying67 size5 hn11 hq1 hq2 hq3 (bytesV_one _)
  clear hq1 hq2 hq3
  have hq5 : Hid (bytesV F ++ List.drop (bytesV F).length (bytesV zsec) = bytesV (secOf t A)) := by
    have := hq4.out
    rw [Nat.zero_add] at this
    exact this
  clear hq4
  go_wp2_with fail
  rw [hq5.out]
  go_ret
  exact ⟨w9.heap.size, rfl, hb9.size, by rw [size_setRow]; omega, range_of_row (setRow_heap w11 w9.heap.size _ _ 5 (0, 0) hn11) _ rfl, below_setRow hbw11 hb9.size _⟩
end Go.Proofs.YteaacodloabdcaaGreatDoor
