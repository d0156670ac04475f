import Derived.Test.YtlmdeafmlommeaaGreatDoorWlM
namespace Go.Proofs.YtlmdeafmlommeaaGreatDoor
open Go.RowKit Go.Maps

/-- The bytes of a law's record. -/
def textB (m : Nat) (x : UInt8) : List UInt8 := (List.range m).map fun i => x + UInt8.ofNat i
theorem textB_len (m : Nat) (x : UInt8) : (textB m x).length = m := by unfold textB; simp
theorem textB_succ (j : Nat) (x : UInt8) : textB (j + 1) x = textB j x ++ [x + UInt8.ofNat j] := by unfold textB; rw [List.range_succ, List.map_append]; rfl
/-- The row of a text while it is filled. -/
def tbuf (m : Nat) (x : UInt8) (j : Nat) : List Value := bytesV (textB j x) ++ List.replicate (m - j) (.int .u8 0)
theorem tbuf_len (m : Nat) (x : UInt8) (j : Nat) (h : j ≤ m) : (tbuf m x j).length = m := by unfold tbuf; rw [List.length_append, bytesV_length, textB_len, List.length_replicate]; omega
theorem tbuf_set (m : Nat) (x : UInt8) (j : Nat) (h : j < m) : (tbuf m x j).toArray.setIfInBounds j (.int .u8 ((x + UInt8.ofNat j).toNat : Int)) = (tbuf m x (j + 1)).toArray := by
  have hl : (bytesV (textB j x)).length = j := by rw [bytesV_length, textB_len]
  unfold tbuf
  rw [textB_succ, bytesV_append, List.append_assoc]
  obtain ⟨r, hr⟩ : ∃ r, m - j = r + 1 := ⟨m - j - 1, by omega⟩
  rw [hr, show m - (j + 1) = r by omega, List.replicate_succ]
  simp only [List.setIfInBounds_toArray]
  rw [List.set_append_right _ _ (by omega), hl, Nat.sub_self]
  rfl
set_option maxRecDepth 100000 in
set_option maxHeartbeats 1000000 in
theorem text_at (m : Nat) (x : UInt8) (v : Int) (hv : v = x.toNat) (hm : m ≤ 100000) (w : World) : Calls Tryz.prog 17 #[.int .i64 (m : Int), .int .u8 v] w fun e w' => ∃ g, e = .returned (.slice (some ⟨g, 0, none⟩) m m) ∧ w.heap.size ≤ g ∧ BlkAt w' g (textB m x) ∧ Below w.heap.size w w' := by
  subst hv
  have hmk := fun W => mkB m (by omega) W
  go_enter Tryz.func17, Tryz.ntmps17
  go_wp2_with fail
  clear hmk
  have hrow : (w.alloc (.cells (Array.replicate m (.int .u8 0)) 5)).heap[w.heap.size]? = some (.cells (tbuf m x 0).toArray 5) := by
    rw [heap_alloc_last]
    simp [tbuf, textB, bytesV]
  have hb0 : Below w.heap.size w (w.alloc (.cells (Array.replicate m (.int .u8 0)) 5)) := (Below.refl _ w).alloc (Nat.le_refl _) _
  generalize w.alloc (.cells (Array.replicate m (.int .u8 0)) 5) = w1 at hrow hb0 ⊢
  have HI0 : Hid (w1.heap[w.heap.size]? = some (.cells (tbuf m x 0).toArray 5) ∧ Below w.heap.size w w1) := ⟨hrow, hb0⟩
  clear hrow hb0
  go_loopw [11] (fun s11 wr => ∃ j : Nat, j ≤ m ∧ s11 = .int .i64 j ∧ Hid (wr.heap[w.heap.size]? = some (.cells (tbuf m x j).toArray 5) ∧ Below w.heap.size w wr)) (fun s11 _ => m - (RowKit.intOf s11).toNat)
  case atStart => exact ⟨0, Nat.zero_le _, rfl, HI0⟩
  case round =>
    obtain ⟨j, hj, rfl, HI⟩ := hrel
    clear HI0
    obtain ⟨hrow, hbr⟩ := HI.out
    by_cases hlt : j < m
    · have hc : wr.cell? ⟨w.heap.size, j, none⟩ = some (.int .u8 0) := by
        rw [cell_of_row _ _ j _ 5 (0, 0) hrow]
        unfold tbuf
        have hl : (bytesV (textB j x)).length = j := by rw [bytesV_length, textB_len]
        simp only [List.getElem?_toArray]
        rw [List.getElem?_append_right (by omega), hl, Nat.sub_self, List.getElem?_replicate, if_pos (by omega)]
      have hf : wr.frozen? ⟨w.heap.size, j, none⟩ = false := by unfold World.frozen?; rw [hrow]; simp
      have HN : Hid (∀ v, v = ((x + UInt8.ofNat j).toNat : Int) → (wr.setCell ⟨w.heap.size, j, none⟩ (.int .u8 v)).heap[w.heap.size]? = some (.cells (tbuf m x (j + 1)).toArray 5) ∧ Below w.heap.size w (wr.setCell ⟨w.heap.size, j, none⟩ (.int .u8 v))) := by
        rintro v rfl
        have hk := (Keeps.refl (fun i => i = w.heap.size) wr).setCell (p := ⟨w.heap.size, j, none⟩) rfl (.int .u8 ((x + UInt8.ofNat j).toNat : Int))
        refine ⟨?_, hbr.trans (hk.below hbr.size (fun i e => by omega))⟩
        rw [setCell_eq_setRow _ _ _ _ _ _ _ hrow, setRow_heap _ _ _ _ _ _ hrow, tbuf_set m x j hlt]
      clear hrow hbr HI
      go_wp2_with fail
      exact ⟨⟨j + 1, by omega, by congr 1, HN.out _ (by rw [UInt8.toNat_add, UInt8.toNat_ofNat']; omega)⟩, by simp [RowKit.intOf]; omega⟩
    · have hjm : j = m := by omega
      subst hjm
      have HP : Hid (BlkAt wr w.heap.size (textB j x) ∧ Below w.heap.size w wr) := by
        refine ⟨⟨_, hrow, ?_⟩, hbr⟩
        unfold tbuf
        rw [textB_len, Nat.sub_self]
        have hl : (bytesV (textB j x)).length = j := by rw [bytesV_length, textB_len]
        simp only [List.replicate_zero, List.append_nil]
        exact List.take_of_length_le (by omega)
      clear hrow hbr HI
      go_wp2_with fail
      go_ret
      exact ⟨w.heap.size, rfl, Nat.le_refl _, HP.out.1, HP.out.2⟩
end Go.Proofs.YtlmdeafmlommeaaGreatDoor
