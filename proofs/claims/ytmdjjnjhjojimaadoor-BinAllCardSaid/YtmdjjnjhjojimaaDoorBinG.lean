import Derived.Test.YtmdjjnjhjojimaaDoorBinF
namespace Go.Proofs.YtmdjjnjhjojimaaDoor
open Go.RowKit Go.Maps

theorem join_len (g o c k : Nat) (s : List UInt8) (w : World) (hk : s.length = k) (hs : k ≤ 8) (hr : w.rangeAt g o (bytesV s)) :
    Calls Tryd.prog 63 #[.slice (some ⟨g, o, none⟩) k c] w fun e w' => e = .returned (.int .i64 (joinB s)) ∧ w' = w := by
  subst hk; exact join_any g o c s w hs hr

theorem rangeAt_nil (w : World) (b o : Nat) : w.rangeAt b o [] := fun j v hv => by simp at hv

set_option maxRecDepth 100000 in
set_option maxHeartbeats 1000000 in
theorem cut_bad (g o c : Nat) (b : UInt8) (r : List UInt8) (w : World) (hr : w.rangeAt g o (bytesV (b :: r))) (hc : r.length + 1 ≤ c) (hlen : r.length ≤ 1000000000000) (h8 : b.toNat ≤ 8) (hbl : b.toNat ≤ r.length) (hwd : wid (joinB (r.take b.toNat)) ≠ b.toNat) :
    Calls Tryd.prog 53 #[.slice (some ⟨g, o, none⟩) (r.length + 1) c] w fun e w' => e = .returned (.tuple #[.int .i64 0, .slice none 0 0, .bool false]) ∧ Same w w' := by
  have hcell : w.cell? ⟨g, o, none⟩ = some (.int .u8 b.toNat) := by have := hr 0 _ (by simp [bytesV]; rfl); simpa [bV] using this
  have hrr : w.rangeAt g (o + 1) (bytesV r) := by
    have : w.rangeAt g o ([bV b] ++ bytesV r) := hr
    rw [rangeAt_append] at this
    exact this.2
  have hrt : w.rangeAt g (o + 1) (bytesV (r.take b.toNat)) := by
    have : w.rangeAt g (o + 1) (bytesV (r.take b.toNat) ++ bytesV (r.drop b.toNat)) := by rw [← bytesV_append, List.take_append_drop]; exact hrr
    rw [rangeAt_append] at this
    exact this.1
  have htl : (r.take b.toNat).length = b.toNat := by rw [List.length_take]; omega
  have hjb := joinB_bound (r.take b.toNat)
  have HJ : Hid ((r.take b.toNat).length = b.toNat ∧ w.rangeAt g (o + 1) (bytesV (r.take b.toNat))) := ⟨htl, hrt⟩
  clear hr hrr hrt htl
  have hne : ((wid (joinB (r.take b.toNat)) : Int) != (b.toNat : Int)) = true := by simp; omega
  obtain ⟨t, ht⟩ : ∃ t, t = r.take b.toNat := ⟨_, rfl⟩
  rw [← ht] at HJ hjb hne
  clear ht hwd
  generalize b.toNat = x at hcell HJ hne h8 hbl
  generalize r.length = l at hc hlen hbl ⊢
  have hl0 : ((l : Int) + 1 == 0) = false := by simp; omega
  have hwx : IntKind.i64.wrap (x : Int) = (x : Int) := by rw [IntKind.wrap_i64]; omega
  go_enter Tryd.func53, Tryd.ntmps53
  go_wp2
  refine wp_region_still_lit follows' (by kernel_rfl) ?_
  change wpStill _ _ w.drew _ _ _
  iterate 5 still_step
  refine wpStill_slice_from rfl _ _ rfl g o (l + 1) c 1 rfl rfl (by omega) ?_
  intro o' ho'
  iterate 2 still_step
  refine wpStill_nil ?_
  have HO : Hid (1 < c → o' = o + 1) := ho'
  clear ho'
  go_wp2_with (refine wpList_slice_to rfl _ _ rfl g o' l (c - 1) x rfl rfl (by omega) ?_; intro o2 ho2; have HO2 : Hid (0 < c - 1 → o2 = o') := ho2; clear ho2)
  have hrt2 : w.drew.rangeAt g o2 (bytesV t) := by
    rcases Nat.eq_zero_or_pos x with hx0 | hx0
    · have : t = [] := List.eq_nil_of_length_eq_zero (by rw [HJ.out.1, hx0])
      rw [this]; exact rangeAt_nil _ _ _
    · rw [HO2.out (by omega), HO.out (by omega)]; exact (Same.refl w).drew.range HJ.out.2
  refine (join_len g o2 (c - 1) x t w.drew HJ.out.1 h8 hrt2).mono ?_
  rintro e w1 ⟨rfl, rfl⟩
  generalize joinB t = q at hjb hne ⊢
  clear hrt2
  go_wp2_with (go_at_call 62; refine (width_all q _ hjb.1 hjb.2).mono ?_; rintro e w2 ⟨rfl, rfl⟩)
  go_ret3
  exact ⟨rfl, (Same.refl w).drew⟩

set_option maxRecDepth 100000 in
set_option maxHeartbeats 1000000 in
theorem cut_yes (g o c : Nat) (b : UInt8) (r : List UInt8) (w : World) (hr : w.rangeAt g o (bytesV (b :: r))) (hc : r.length + 1 ≤ c) (hlen : r.length ≤ 1000000000000) (h8 : b.toNat ≤ 8) (hbl : b.toNat ≤ r.length) (hwd : wid (joinB (r.take b.toNat)) = b.toNat) :
    Calls Tryd.prog 53 #[.slice (some ⟨g, o, none⟩) (r.length + 1) c] w fun e w' => ∃ o3, e = .returned (.tuple #[.int .i64 (joinB (r.take b.toNat)), .slice (some ⟨g, o3, none⟩) (r.length - b.toNat) (c - 1 - b.toNat), .bool true]) ∧ Same w w' ∧ w.rangeAt g o3 (bytesV (r.drop b.toNat)) := by
  have hcell : w.cell? ⟨g, o, none⟩ = some (.int .u8 b.toNat) := by have := hr 0 _ (by simp [bytesV]; rfl); simpa [bV] using this
  have hrr : w.rangeAt g (o + 1) (bytesV r) := by
    have : w.rangeAt g o ([bV b] ++ bytesV r) := hr
    rw [rangeAt_append] at this
    exact this.2
  have hrt : w.rangeAt g (o + 1) (bytesV (r.take b.toNat)) := by
    have : w.rangeAt g (o + 1) (bytesV (r.take b.toNat) ++ bytesV (r.drop b.toNat)) := by rw [← bytesV_append, List.take_append_drop]; exact hrr
    rw [rangeAt_append] at this
    exact this.1
  have hrd : b.toNat < r.length → w.rangeAt g (o + 1 + b.toNat) (bytesV (r.drop b.toNat)) := fun _ => by
    have : w.rangeAt g (o + 1) (bytesV (r.take b.toNat) ++ bytesV (r.drop b.toNat)) := by rw [← bytesV_append, List.take_append_drop]; exact hrr
    rw [rangeAt_append] at this
    have h2 := this.2
    rw [bytesV_length, List.length_take, Nat.min_eq_left (by omega)] at h2
    exact h2
  have hd0 : r.length ≤ b.toNat → r.drop b.toNat = [] := fun h => List.drop_of_length_le h
  have HDr : Hid ((b.toNat < r.length → w.rangeAt g (o + 1 + b.toNat) (bytesV (r.drop b.toNat))) ∧ (r.length ≤ b.toNat → r.drop b.toNat = [])) := ⟨hrd, hd0⟩
  clear hrd hd0
  have htl : (r.take b.toNat).length = b.toNat := by rw [List.length_take]; omega
  have hjb := joinB_bound (r.take b.toNat)
  have HJ : Hid ((r.take b.toNat).length = b.toNat ∧ w.rangeAt g (o + 1) (bytesV (r.take b.toNat))) := ⟨htl, hrt⟩
  clear hr hrr hrt htl
  have hne : ((wid (joinB (r.take b.toNat)) : Int) != (b.toNat : Int)) = false := by simp; omega
  obtain ⟨t, ht⟩ : ∃ t, t = r.take b.toNat := ⟨_, rfl⟩
  rw [← ht] at HJ hjb hne ⊢
  obtain ⟨u, hu⟩ : ∃ u, u = r.drop b.toNat := ⟨_, rfl⟩
  rw [← hu] at HDr ⊢
  clear hu
  clear ht hwd
  generalize b.toNat = x at hcell HJ hne h8 hbl HDr ⊢
  generalize r.length = l at hc hlen hbl HDr ⊢
  have hl0 : ((l : Int) + 1 == 0) = false := by simp; omega
  have hwx : IntKind.i64.wrap (x : Int) = (x : Int) := by rw [IntKind.wrap_i64]; omega
  go_enter Tryd.func53, Tryd.ntmps53
  go_wp2
  refine wp_region_still_lit follows' (by kernel_rfl) ?_
  change wpStill _ _ w.drew _ _ _
  iterate 5 still_step
  refine wpStill_slice_from rfl _ _ rfl g o (l + 1) c 1 rfl rfl (by omega) ?_
  intro o' ho'
  iterate 2 still_step
  refine wpStill_nil ?_
  have HO : Hid (1 < c → o' = o + 1) := ho'
  clear ho'
  go_wp2_with (refine wpList_slice_to rfl _ _ rfl g o' l (c - 1) x rfl rfl (by omega) ?_; intro o2 ho2; have HO2 : Hid (0 < c - 1 → o2 = o') := ho2; clear ho2)
  have hrt2 : w.drew.rangeAt g o2 (bytesV t) := by
    rcases Nat.eq_zero_or_pos x with hx0 | hx0
    · have : t = [] := List.eq_nil_of_length_eq_zero (by rw [HJ.out.1, hx0])
      rw [this]; exact rangeAt_nil _ _ _
    · rw [HO2.out (by omega), HO.out (by omega)]; exact (Same.refl w).drew.range HJ.out.2
  refine (join_len g o2 (c - 1) x t w.drew HJ.out.1 h8 hrt2).mono ?_
  rintro e w1 ⟨rfl, rfl⟩
  generalize hq : joinB t = q at hjb hne ⊢
  have HQ : Hid (joinB t = q) := hq
  clear hq
  clear hrt2
  go_wp2_with (go_at_call 62; refine (width_all q _ hjb.1 hjb.2).mono ?_; rintro e w2 ⟨rfl, rfl⟩)
  refine wp_region_still_lit follows' (by kernel_rfl) ?_
  change wpStill _ _ w.drew.drew _ _ _
  iterate 3 still_step
  refine wpStill_slice_from rfl _ _ rfl g o' l (c - 1) x rfl rfl (by omega) ?_
  intro o3 ho3
  have HO3 : Hid (x < c - 1 → o3 = o' + x) := ho3
  clear ho3
  iterate 3 still_step
  refine wpStill_nil ?_
  go_wp2
  go_ret3
  refine ⟨o3, by rw [HQ.out]; rfl, (Same.refl w).drew.drew, ?_⟩
  rcases Nat.lt_or_ge x l with hxl | hxl
  · rw [HO3.out (by omega), HO.out (by omega)]; exact HDr.out.1 hxl
  · rw [HDr.out.2 hxl]; exact rangeAt_nil _ _ _

end Go.Proofs.YtmdjjnjhjojimaaDoor
