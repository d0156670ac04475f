import Derived.Test.YtmdjjnjhjojimaaDoorGetA
namespace Go.Proofs.YtmdjjnjhjojimaaDoor
open Go.RowKit Go.Maps

theorem shl_sub (U i : Nat) (hi : i ≤ 6) (hU : U < 256 ^ (i + 1)) : wrap64 ((U : Int) - wrap64 (2 ^ (8 * (i + 1)))) = (U : Int) - 256 ^ (i + 1) := by
  have hcase : i = 0 ∨ i = 1 ∨ i = 2 ∨ i = 3 ∨ i = 4 ∨ i = 5 ∨ i = 6 := by omega
  unfold wrap64
  rcases hcase with rfl | rfl | rfl | rfl | rfl | rfl | rfl
  all_goals
    simp only [Nat.reduceAdd, Nat.reduceMul, Nat.reducePow, Int.reducePow] at hU ⊢
    omega
set_option maxRecDepth 100000 in
set_option maxHeartbeats 1000000 in
theorem getint_num (g o c k : Nat) (t : List UInt8) (L : Nat) (w : World) (h0 : w.cell? ⟨g, o, none⟩ = some (.int .u8 k)) (hr : w.rangeAt g (o + 1) (bytesV t)) (ht : t.length = k) (hk : k ≤ 8) (hL : k ≤ L) (hL2 : L ≤ 1000000) :
    Calls Tryd.prog 37 #[.slice (some ⟨g, o, none⟩) (L + 1) c] w fun e w' => ((wid (joinB t) = k ∧ e = .returned (.tuple #[.int .i64 (joinB t), .int .i64 ((k + 1 : Nat) : Int)])) ∨ (wid (joinB t) ≠ k ∧ e = .returned (.tuple #[.int .i64 0, .int .i64 0]))) ∧ Below w.heap.size w w' := by
  have hjb := joinB_bound t
  have hz : ((L : Int) + 1 == 0) = false := by simp; omega
  go_enter Tryd.func37, Tryd.ntmps37
  go_wp2
  go_loop [5, 6] (fun n i => ∃ j : Nat, j ≤ k ∧ i = .int .i64 j ∧ n = .int .i64 (wrap64 (uB (t.drop j)))) (fun _ i => (RowKit.intOf i).toNat)
  case atStart => exact ⟨k, Nat.le_refl _, rfl, by rw [List.drop_of_length_le (by omega), show wrap64 ((uB [] : Nat) : Int) = 0 from by unfold wrap64 uB; omega]⟩
  case round =>
    obtain ⟨j, hj, rfl, rfl⟩ := hrel
    by_cases hj0 : 0 < j
    · obtain ⟨m, rfl⟩ : ∃ m, j = m + 1 := ⟨j - 1, by omega⟩
      have hcell : w.cell? ⟨g, o + (m + 1), none⟩ = some (.int .u8 ((t.getD m 0).toNat : Int)) := by
        have h1 := hr m (.int .u8 ((t.getD m 0).toNat : Int)) (by simp [bytesV, bV, List.getD, List.getElem?_eq_getElem (show m < t.length by omega)])
        rw [show o + (m + 1) = o + 1 + m by omega]; exact h1
      have hst : wrap64 (wrap64 (wrap64 (uB (t.drop (m + 1))) * 256) + ((t.getD m 0).toNat : Int)) = wrap64 (uB (t.drop m)) := by
        rw [wrap_step, uB_drop t m (by omega)]
        congr 1
      have HST : Hid (wrap64 (wrap64 (wrap64 (uB (t.drop (m + 1))) * 256) + ((t.getD m 0).toNat : Int)) = wrap64 (uB (t.drop m))) := hst
      have hxx := (t.getD m 0).toNat_lt
      clear hst hj0
      generalize (t.getD m 0).toNat = x at hcell HST hxx
      generalize wrap64 (uB (t.drop (m + 1)) : Int) = N at HST ⊢
      go_wp2
      go_round
      case rel => exact ⟨m, by omega, by go_num, by rw [← HST.out]⟩
      case measure => simp [RowKit.intOf]
    · have hj1 : j = 0 := by omega
      subst hj1
      rw [List.drop_zero]
      by_cases hk0 : k = 0
      · subst hk0
        have ht0 : t = [] := List.eq_nil_of_length_eq_zero ht
        have e1 : wrap64 (uB t : Int) = joinB t := by rw [ht0]; unfold joinB wrap64 uB; simp [IntKind.wrap, IntKind.bits, IntKind.signed]
        rw [e1]
        clear ht0 e1
        go_wp2_with fail
        refine (refInt_any (joinB t) _ hjb.1 hjb.2).mono ?_
        rintro e w1 ⟨g1, c1, rfl, _, hb1⟩
        by_cases hw : wid (joinB t) = 0
        · have hw2 : (1 + (wid (joinB t) : Int) != 0 + 1) = false := by simp; omega
          have HW : Hid (wid (joinB t) = 0) := hw
          clear hw
          go_wp2
          go_ret2
          exact ⟨Or.inl ⟨HW.out, rfl⟩, hb1⟩
        · have hw2 : (1 + (wid (joinB t) : Int) != 0 + 1) = true := by simp; omega
          have HW : Hid (¬ wid (joinB t) = 0) := hw
          clear hw
          go_wp2
          go_ret2
          exact ⟨Or.inr ⟨HW.out, rfl⟩, hb1⟩
      · by_cases hk8 : k = 8
        · subst hk8
          rw [← joinB_eight t ht]
          go_wp2_with fail
          refine (refInt_any (joinB t) _ hjb.1 hjb.2).mono ?_
          rintro e w1 ⟨g1, c1, rfl, _, hb1⟩
          by_cases hw : wid (joinB t) = 8
          · have hw2 : (1 + (wid (joinB t) : Int) != 8 + 1) = false := by simp; omega
            have HW : Hid (wid (joinB t) = 8) := hw
            clear hw
            go_wp2
            go_ret2
            exact ⟨Or.inl ⟨HW.out, rfl⟩, hb1⟩
          · have hw2 : (1 + (wid (joinB t) : Int) != 8 + 1) = true := by simp; omega
            have HW : Hid (¬ wid (joinB t) = 8) := hw
            clear hw
            go_wp2
            go_ret2
            exact ⟨Or.inr ⟨HW.out, rfl⟩, hb1⟩
        · obtain ⟨i, rfl⟩ : ∃ i, k = i + 1 := ⟨k - 1, by omega⟩
          have hi6 : i ≤ 6 := by omega
          have hjs := joinB_small t i hi6 ht
          have hU := uB_lt t
          rw [ht] at hU
          have hcell : w.cell? ⟨g, o + (i + 1), none⟩ = some (.int .u8 ((t.getD i 0).toNat : Int)) := by
            have h1 := hr i (.int .u8 ((t.getD i 0).toNat : Int)) (by simp [bytesV, bV, List.getD, List.getElem?_eq_getElem (show i < t.length by omega)])
            rw [show o + (i + 1) = o + 1 + i by omega]; exact h1
          have hxx := (t.getD i 0).toNat_lt
          rw [uB_small t (by omega)]
          generalize (t.getD i 0).toNat = y at hcell hjs hxx
          by_cases hy : 128 ≤ y
          · rw [if_pos hy, ← shl_sub (uB t) i hi6 hU] at hjs
            have HJ : Hid (joinB t = wrap64 ((uB t : Int) - wrap64 (2 ^ (8 * (i + 1))))) := hjs
            clear hjs hk0 hk8 hU
            go_wp2_with fail
            rw [← HJ.out]
            clear HJ
            refine (refInt_any (joinB t) _ hjb.1 hjb.2).mono ?_
            rintro e w1 ⟨g1, c1, rfl, _, hb1⟩
            by_cases hw : wid (joinB t) = i + 1
            · have hw2 : (1 + (wid (joinB t) : Int) != (i : Int) + 1 + 1) = false := by simp; omega
              have HW : Hid (wid (joinB t) = i + 1) := hw
              clear hw
              go_wp2
              go_ret2
              exact ⟨Or.inl ⟨HW.out, rfl⟩, hb1⟩
            · have hw2 : (1 + (wid (joinB t) : Int) != (i : Int) + 1 + 1) = true := by simp; omega
              have HW : Hid (¬ wid (joinB t) = i + 1) := hw
              clear hw
              go_wp2
              go_ret2
              exact ⟨Or.inr ⟨HW.out, rfl⟩, hb1⟩
          · rw [if_neg hy] at hjs
            rw [← hjs]
            clear hjs hk0 hk8 hU
            go_wp2_with fail
            refine (refInt_any (joinB t) _ hjb.1 hjb.2).mono ?_
            rintro e w1 ⟨g1, c1, rfl, _, hb1⟩
            by_cases hw : wid (joinB t) = i + 1
            · have hw2 : (1 + (wid (joinB t) : Int) != (i : Int) + 1 + 1) = false := by simp; omega
              have HW : Hid (wid (joinB t) = i + 1) := hw
              clear hw
              go_wp2
              go_ret2
              exact ⟨Or.inl ⟨HW.out, rfl⟩, hb1⟩
            · have hw2 : (1 + (wid (joinB t) : Int) != (i : Int) + 1 + 1) = true := by simp; omega
              have HW : Hid (¬ wid (joinB t) = i + 1) := hw
              clear hw
              go_wp2
              go_ret2
              exact ⟨Or.inr ⟨HW.out, rfl⟩, hb1⟩

/-- GetInt, of any bytes. -/
theorem getint_any (g o c : Nat) (s : List UInt8) (w : World) (hr : w.rangeAt g o (bytesV s)) (hl : s.length ≤ 1000000) :
    Calls Tryd.prog 37 #[.slice (some ⟨g, o, none⟩) s.length c] w fun e w' => e = .returned (.tuple #[.int .i64 (getI s).1, .int .i64 ((getI s).2 : Int)]) ∧ Below w.heap.size w w' := by
  cases s with
  | nil =>
    refine (getint_nil _ c w).mono ?_
    rintro e w' ⟨rfl, rfl⟩
    exact ⟨rfl, Below.refl _ _⟩
  | cons b r =>
    have hl' : r.length ≤ 1000000 := by simp at hl; omega
    by_cases h : 8 < b.toNat ∨ r.length < b.toNat
    · rw [getI_bad b r h]
      refine (getint_bad g o c b r w hr hl' h).mono ?_
      rintro e w' ⟨rfl, rfl⟩
      exact ⟨rfl, Below.refl _ _⟩
    · have h0 : w.cell? ⟨g, o, none⟩ = some (.int .u8 b.toNat) := hr 0 _ rfl
      have hr1 : w.rangeAt g (o + 1) (bytesV (r.take b.toNat)) := by
        intro j v hv
        have h1 := hr (j + 1) v (by
          unfold bytesV at hv ⊢
          rw [List.map_take, List.getElem?_take] at hv
          split at hv
          · simpa using hv
          · cases hv)
        rw [show o + 1 + j = o + (j + 1) by omega]; exact h1
      refine (getint_num g o c b.toNat (r.take b.toNat) r.length w h0 hr1 (by rw [List.length_take]; omega) (by omega) (by omega) hl').mono ?_
      rintro e w' ⟨⟨hw, rfl⟩ | ⟨hw, rfl⟩, hb⟩
      · rw [getI_yes b r h hw]; exact ⟨rfl, hb⟩
      · rw [getI_wid b r h hw]; exact ⟨rfl, hb⟩
end Go.Proofs.YtmdjjnjhjojimaaDoor
