import Derived.Test.YtlmdeafmlommeaaGreatDoorSlC
import Derived.Laws.CopyOwn
namespace Go.Proofs.YtlmdeafmlommeaaGreatDoor
open Go.RowKit

theorem three_new (w : World) (o1 o2 o3 : Obj) : (((w.alloc o1).alloc o2).alloc o3).heap[w.heap.size]? = some o1 ∧ (((w.alloc o1).alloc o2).alloc o3).heap[w.heap.size + 1]? = some o2 ∧ (((w.alloc o1).alloc o2).alloc o3).heap[w.heap.size + 1 + 1]? = some o3 ∧ (((w.alloc o1).alloc o2).alloc o3).heap.size = w.heap.size + 3 ∧ Below w.heap.size w (((w.alloc o1).alloc o2).alloc o3) := by
  have s1 : (w.alloc o1).heap.size = w.heap.size + 1 := by simp
  have s2 : ((w.alloc o1).alloc o2).heap.size = w.heap.size + 1 + 1 := by simp
  refine ⟨?_, ?_, ?_, by simp, (((Below.refl _ w).alloc (Nat.le_refl _) _).alloc (by omega) _).alloc (by omega) _⟩
  · rw [Below.heap_alloc _ _ _ (by omega), Below.heap_alloc _ _ _ (by omega)]; exact heap_alloc_last w o1
  · rw [Below.heap_alloc _ _ _ (by omega), ← s1]; exact heap_alloc_last _ o2
  · rw [← s2]; exact heap_alloc_last _ o3
theorem range_of_row {w : World} {g : Nat} {cs : Array Value} {t : TypeId} (h : w.heap[g]? = some (.cells cs t)) (xs : List Value) (hx : cs.toList = xs) : w.rangeAt g 0 xs := by
  intro j v hv
  rw [cell_of_row _ _ (0 + j) _ t (0, 0) h]
  rw [← hx] at hv
  simpa using hv
/-- A new writer. -/
theorem wr_new {w : World} {wb base : Nat} (h : w.heap[wb]? = some (.cells #[.slice none 0 0] 126)) (hb : base ≤ w.heap.size) : WrAt w wb base [] none 0 where
  c0 := by rw [cell_of_row _ _ 0 _ 126 (0, 0) h]; rfl
  f0 := by unfold World.frozen?; rw [h]; simp
  row := World.ownsRow_nil _ _ _ _
  bs := hb
  ne := by simp [Value.ownBlock]

theorem size5 : (Tryz.prog.info? 5).map (·.size) = some 1 := by kernel_rfl
theorem mk64 (w : World) : (Instr.makeSlice 34 (.int .i64 64) (.int .i64 64)).run Tryz.prog w = .ok (.slice (some ⟨w.heap.size, 0, none⟩) 64 64) (w.alloc (.cells (bytesV zsec).toArray 5)) := by
  have hx := info5
  cases hq : Tryz.prog.info? 5 with
  | none => rw [hq] at hx; cases hx
  | some i =>
    rw [hq] at hx
    simp only [Option.map_some, Option.some.injEq, Prod.mk.injEq] at hx
    obtain ⟨h1, h2, h3⟩ := hx
    rw [run_make w 34 5 i _ Tryz.underlying34 hq h1 .i64 .i64 64 64 (by omega) (by omega) (by rw [h3]; decide) (by omega)]
    have e : madeCells (Value.int .u8 0).cells ((64 : Int).toNat * i.size) = (bytesV zsec).toArray := by
      show madeCells (Array.replicate 1 (.int .u8 0)) _ = _
      rw [madeCells_rep _ _ _ (by omega), h2]
      rfl
    rw [e]
    rfl

set_option maxRecDepth 100000 in
set_option maxHeartbeats 1000000 in
theorem sector_at (t : Int) (A : List Int) (hF : Fine t A) (ka : Option Addr) (kc : Nat) (w : World) (hA : IntsAt w w.heap.size ka A.length A) :
    Calls Tryz.prog 69 #[.agg #[.int .i64 t, .slice ka A.length kc]] w fun e w' => ∃ g, e = .returned (.slice (some ⟨g, 0, none⟩) 64 64) ∧ w.heap.size ≤ g ∧ g < w'.heap.size ∧ w'.rangeAt g 0 (bytesV (secOf t A)) ∧ Below w.heap.size w w' := by
  have f0 := hF.t0
  have f1 : t < 1099511627776 := hF.t1
  have f2 := hF.len
  obtain ⟨n1, n2, n3, hs3, hb3⟩ := three_new w (.cells #[.int .i64 t, .slice ka A.length kc] 110) (.cells #[.slice none 0 0] 126) (.cells #[.int .i64 t, .int .i64 A.length] 2)
  go_enter Tryz.func69, Tryz.ntmps69
  go_wp2_with fail
  generalize (((w.alloc (.cells #[.int .i64 t, .slice ka A.length kc] 110)).alloc (.cells #[.slice none 0 0] 126)).alloc (.cells #[.int .i64 t, .int .i64 A.length] 2)) = w3 at n1 n2 n3 hs3 hb3 ⊢
  have hW0 : WrAt w3 (w.heap.size + 1) (w.heap.size + 3) [] none 0 := wr_new n2 (by omega)
  have k1 : w3.cell? ⟨w.heap.size, 1, none⟩ = some (.slice ka A.length kc) := by rw [cell_of_row _ _ 1 _ 110 (0, 0) n1]; rfl
  refine (int_any hW0 (w.heap.size + 1 + 1) 0 2 [t, (A.length : Int)] (range_of_row n3 _ rfl) (by omega) (by simp [Value.ownBlock]) (fun x hx => by simp only [List.mem_cons, List.not_mem_nil, or_false] at hx; rcases hx with rfl | rfl <;> omega) (by simp)).mono ?_
  rintro e w4 ⟨a4, c4, rfl, hW4, hk4, _⟩
  have k14 := (hk4.cell (p := ⟨w.heap.size, 1, none⟩) (by show w.heap.size < _; omega) (by simp [Value.ownBlock])).trans k1
  have hs4 := hk4.size
  have hb4 : Below w.heap.size w w4 := hb3.trans (hk4.below (by omega) (fun i hi => by rcases hi with hi | hi; omega; simp [Value.ownBlock] at hi))
  have hA4 := hA.below hb4
  clear hW0 hk4 n1 n2 n3 k1
  have e1 : ([] : List UInt8) ++ [t, (A.length : Int)].flatMap encInt = encInt t ++ encInt A.length := by simp
  rw [e1] at hW4
  have hl4 : (encInt t ++ encInt A.length).length ≤ 20 := by
    rw [List.length_append]
    have := encInt_le t (by omega) (by omega)
    have := encInt_le (A.length : Int) (by omega) (by omega)
    omega
  go_wp2_with fail
  refine (int_ints hW4 ka A.length kc A hA4 (by omega) (by omega) (by omega)).mono ?_
  rintro e w5 ⟨a5, c5, rfl, hW5, hk5⟩
  have hs5 := hk5.size
  have hb5 : Below w.heap.size w w5 := hb4.trans (hk5.below (by omega) (fun i hi => by rcases hi with hi | hi; omega; have := (hW4.own hi).1; omega))
  have e2 : encInt t ++ encInt A.length ++ A.flatMap encInt = bodyOf t A := by unfold bodyOf; rw [List.append_assoc]
  rw [e2] at hW5
  have hfl := full_le hF
  have hfb : (fullOf t A).length = (bodyOf t A).length + (encInt (sumOf (bodyOf t A))).length := by unfold fullOf; rw [List.length_append]
  have hse := encInt_length (sumOf (bodyOf t A))
  have hbne : bodyOf t A ≠ [] := by unfold bodyOf encInt; simp
  clear hW4 hk5 hA4 e1 e2 hl4 k14
  have HF : Hid ((fullOf t A).length = (bodyOf t A).length + (encInt (sumOf (bodyOf t A))).length ∧ (fullOf t A).length ≤ 54) := ⟨hfb, hfl⟩
  have hbl : (bodyOf t A).length ≤ 54 := by omega
  clear hfb hfl hse
  go_wp2_with fail
  refine (wbytes_any hW5 (by omega)).mono ?_
  rintro e w6 ⟨hb56, ⟨_, hn⟩ | ⟨g6, cap6, rfl, hg6, hr6, hcap6, hgl6⟩⟩
  · exact absurd hn hbne
  have hW6 : WrAt w6 (w.heap.size + 1) (w.heap.size + 3) (bodyOf t A) a5 c5 := hW5.keeps (S := fun _ => False) (Keeps.of_below hb56) (fun e => e) (fun _ _ e => e)
  have hs6 := hb56.size
  have hb6 : Below w.heap.size w w6 := hb5.trans (hb56.mono (by omega))
  clear hW5 hbne
  go_wp2_with fail
  refine (sum_some g6 0 cap6 (bodyOf t A) w6 (by omega) hr6).mono ?_
  rintro e w7 ⟨rfl, hw7⟩
  subst hw7
  have hsum : Hid (sumOf (bodyOf t A) = wrap64 (crcAll (bodyOf t A) : Nat)) := rfl
  have hc64 := crcAll_lt (bodyOf t A)
  go_wp2_with fail
  rw [← hsum.out]
  have hfit := sumOf_fit (bodyOf t A)
  have hfull : bodyOf t A ++ [sumOf (bodyOf t A)].flatMap encInt = fullOf t A := by unfold fullOf; simp
  generalize sumOf (bodyOf t A) = sm at hfit hfull ⊢
  clear hsum hc64
  have hb78 : Below w7.heap.size w7 (w7.alloc (.cells #[.int .i64 sm] 2)) := (Below.refl _ w7).alloc (Nat.le_refl _) _
  have hn8 := heap_alloc_last w7 (.cells #[.int .i64 sm] 2)
  have hs8 : (w7.alloc (.cells #[.int .i64 sm] 2)).heap.size = w7.heap.size + 1 := by simp
  have hW8 : WrAt (w7.alloc (.cells #[.int .i64 sm] 2)) (w.heap.size + 1) (w.heap.size + 3) (bodyOf t A) a5 c5 := hW6.alloc _
  have hown8 : (Value.slice a5 (bodyOf t A).length c5).ownBlock ≠ some w7.heap.size := fun e => by have := (hW6.own e).2; omega
  have hlen8 : (bodyOf t A).length ≤ 54 := hbl
  generalize w7.alloc (.cells #[.int .i64 sm] 2) = w8 at hb78 hn8 hs8 hW8 ⊢
  refine (int_any hW8 w7.heap.size 0 1 [sm] (range_of_row hn8 _ rfl) (by omega) hown8 (fun x hx => by simp only [List.mem_cons, List.not_mem_nil, or_false] at hx; subst hx; exact hfit) (by simp; omega)).mono ?_
  rintro e w9 ⟨a9, c9, rfl, hW9, hk9, _⟩
  rw [hfull] at hW9
  have hs9 := hk9.size
  have hb8 : Below w.heap.size w w8 := hb6.trans (hb78.mono (by omega))
  have hb9 : Below w.heap.size w w9 := hb8.trans (hk9.below (by omega) (fun i hi => by rcases hi with hi | hi; omega; have := (hW8.own hi).1; omega))
  have hfl : (fullOf t A).length ≤ 54 := HF.out.2
  have hne9 : fullOf t A ≠ [] := by unfold fullOf bodyOf encInt; simp
  have HS : Hid (secOf t A = fullOf t A ++ List.replicate (64 - (fullOf t A).length) 0) := rfl
  clear hW6 hW8 hk9 hown8 hlen8 hfull hn8 hb78 hb6 hb8 hfit hbl HF hr6 hcap6
  generalize fullOf t A = F at hW9 hfl hne9 HS
  have hmk := fun W => mk64 W
  go_wp2_with fail
  clear hmk
  have hn10 := heap_alloc_last w9 (.cells (bytesV zsec).toArray 5)
  have hs10 : (w9.alloc (.cells (bytesV zsec).toArray 5)).heap.size = w9.heap.size + 1 := by simp
  have hb10 : Below w.heap.size w (w9.alloc (.cells (bytesV zsec).toArray 5)) := hb9.alloc hb9.size _
  have hW10 := hW9.alloc (.cells (bytesV zsec).toArray 5)
  generalize w9.alloc (.cells (bytesV zsec).toArray 5) = w10 at hn10 hs10 hb10 hW10 ⊢
  clear hW9
  refine (wbytes_any hW10 (by omega)).mono ?_
  rintro e w11 ⟨hb11, ⟨_, hn⟩ | ⟨g11, cap11, rfl, hg11, hr11, hcap11, hgl11⟩⟩
  · exact absurd hn hne9
  have hn11 : w11.heap[w9.heap.size]? = some (.cells (bytesV zsec).toArray 5) := (hb11.block w9.heap.size (by omega)).trans hn10
  have hbw11 : Below w.heap.size w w11 := hb10.trans (hb11.mono (by omega))
  have hs11 := hb11.size
  clear hW10 hne9
  have hq1 : (bytesV F).length = Nat.min F.length 64 := by rw [bytesV_length]; exact (Nat.min_eq_left (by omega)).symm
  have hq2 : ∀ j v, (bytesV F)[j]? = some v → w11.cell? (Addr.add ⟨g11, 0, none⟩ j) = some v := by
    intro j v hv
    rw [Addr.add_mid]
    exact hr11 j v hv
  have hq3 : 0 + (bytesV F).length ≤ (bytesV zsec).toArray.size := by
    rw [bytesV_length, List.size_toArray, bytesV_length]
    have : zsec.length = 64 := rfl
    omega
  have hq4 : Hid ((bytesV F ++ (bytesV zsec).drop (0 + (bytesV F).length)) = bytesV (secOf t A)) := by
    show bytesV F ++ (bytesV zsec).drop (0 + (bytesV F).length) = bytesV (secOf t A)
    rw [HS.out, bytesV_length]
    unfold bytesV
    rw [List.map_append, ← List.map_drop, show zsec = List.replicate 64 0 from rfl, List.drop_replicate]
    simp
  have hrun := run_copy_row (P := Tryz.prog) w11 34 34 3 5 w9.heap.size 0 64 64 ⟨g11, 0, none⟩ F.length cap11 (bytesV zsec).toArray 5 (bytesV F) Tryz.underlying34 size5 hn11 hq1 hq2 hq3 (bytesV_one _)
  clear hq1 hq2 hq3
  have hq5 : Hid (bytesV F ++ List.drop (bytesV F).length (bytesV zsec) = bytesV (secOf t A)) := by
    have := hq4.out
    rw [Nat.zero_add] at this
    exact this
  clear hq4
  go_wp2_with fail
  rw [hq5.out]
  go_ret
  exact ⟨w9.heap.size, rfl, hb9.size, by rw [size_setRow]; omega, range_of_row (setRow_heap w11 w9.heap.size _ _ 5 (0, 0) hn11) _ rfl, below_setRow hbw11 hb9.size _⟩
end Go.Proofs.YtlmdeafmlommeaaGreatDoor
