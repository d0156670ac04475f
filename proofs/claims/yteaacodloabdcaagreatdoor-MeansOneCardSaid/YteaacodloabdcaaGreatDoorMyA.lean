import Derived.Test.YteaacodloabdcaaGreatDoorMxA
namespace Go.Proofs.YteaacodloabdcaaGreatDoor
open Go.RowKit Go.Maps

/-- The sum at a place. -/
def sumA (L : List (List Int)) (j : Nat) : Int := L.foldl (fun s v => s + v.getD j 0) 0
theorem sumA_snoc (L : List (List Int)) (v : List Int) (j : Nat) : sumA (L ++ [v]) j = sumA L j + v.getD j 0 := by
  unfold sumA; rw [List.foldl_append]; rfl
theorem near_one {MS : List (List Int)} (h : MS.length = 1) (v : List Int) : nearL MS v = 0 := by
  unfold nearL
  rw [h]
  exact (lst_first _).1
theorem cnt_all {near : List Int → Int} (h : ∀ v, near v = 0) (L : List (List Int)) : cntL near L 0 = L.length := by
  refine snoc_ind (p := fun L => cntL near L 0 = L.length) rfl (fun l x ih => ?_) L
  rw [cntL_snoc, if_pos (by rw [h]; rfl), ih, List.length_append]
  rfl
theorem sum_all {near : List Int → Int} (h : ∀ v, near v = 0) (L : List (List Int)) (j : Nat) : sumL near L 0 j = sumA L j := by
  refine snoc_ind (p := fun L => sumL near L 0 j = sumA L j) rfl (fun l x ih => ?_) L
  rw [sumL_snoc, if_pos (by rw [h]; rfl), ih, sumA_snoc]
theorem sumA_fit (L : List (List Int)) (h : FitL 2 1048576 L) (j : Nat) : -1048576 * (L.length : Int) ≤ sumA L j ∧ sumA L j ≤ 1048576 * (L.length : Int) := by
  have h1 := sumL_fit (fun _ => (0 : Int)) L 1048576 (by omega) (fun v hv => (h v hv).2) 0 j
  rw [cnt_all (near := fun _ => (0 : Int)) (fun _ => rfl), sum_all (near := fun _ => (0 : Int)) (fun _ => rfl)] at h1
  exact h1
theorem move_one {MS L : List (List Int)} (h : MS.length = 1) (hd : (MS.getD 0 []).length = 2) (hL : L ≠ []) : moveL (nearL MS) MS L = [[sumA L 0 / L.length, sumA L 1 / L.length]] := by
  have h0 := near_one h
  have hc := cnt_all h0 L
  have hp : 0 < L.length := List.length_pos_iff.2 hL
  unfold moveL
  rw [h]
  show [if cntL (nearL MS) L 0 = 0 then MS.getD 0 [] else (List.range (MS.getD 0 []).length).map fun j => sumL (nearL MS) L 0 j / cntL (nearL MS) L 0] = _
  rw [hc, if_neg (by omega), hd]
  show [[sumL (nearL MS) L 0 0 / (L.length : Int), sumL (nearL MS) L 0 1 / (L.length : Int)]] = _
  rw [sum_all h0, sum_all h0]
theorem middles_one {L : List (List Int)} (hf : FitL 2 1048576 L) (hL : L ≠ []) (r : Int) (hr : 1 ≤ r) : middlesL 1 r L = [[sumA L 0 / L.length, sumA L 1 / L.length]] := by
  unfold middlesL
  obtain ⟨k, hk⟩ : ∃ k, numR r = k + 1 := ⟨numR r - 1, by unfold numR; omega⟩
  rw [hk, show numM 1 = 1 from rfl]
  have hl : (firstL 1 L).length = 1 := by
    have h1 := (firstL_len 1 L).1
    have h2 := firstL_pos (n := 1) (Nat.le_refl _) L hL
    omega
  have hF := (hf.first 1).rounds (by omega) hf nearL k
  have hl2 : (roundsL nearL L k (firstL 1 L)).length = 1 := by rw [roundsL_length, hl]
  exact move_one hl2 (hF.getD 0 (by omega)).1 hL
set_option maxRecDepth 100000 in
set_option maxHeartbeats 4000000 in
theorem meansOne_true {w : World} {a : Option Addr} {m c : Nat} {VS : List (List Int)} (r0 : Int) (hV : VecsAt w a m c VS) (hg : w.cell? ⟨0, 0, none⟩ = some errType) :
    Calls Tryz.prog 6 #[.slice a m c, .int .i64 r0] w fun e w' => e = .returned (.bool true) ∧ Below w.heap.size w w' := by
  have HV : Hid (VecsAt w a m c VS) := hV
  have hr := rem_any r0 9 (by omega)
  clear hV
  go_enter Tryz.func6, Tryz.ntmps6
  go_wp2_with fail
  refine (begun7_true _ hg).mono ?_
  rintro e w1 ⟨rfl, hb1⟩
  have HB1 : Hid (Below w.heap.size w w1) := hb1
  have HV1 : Hid (VecsAt w1 a m c VS) := HV.out.all hb1
  clear hg hb1 HV
  go_wp2_with fail
  refine (lvecs_at HV1.out 2 (by omega) 20 (by omega)).mono ?_
  rintro e w2 ⟨p, cc, rfl, hVS, hb2⟩
  have HB2 : Hid (Below w.heap.size w w2) := HB1.out.trans (hb2.mono HB1.out.size)
  have HF : Hid (FitL 2 1048576 (clampL VS 2 (min m 20))) := clampL_fit _ _ _
  have HC : Hid ((clampL VS 2 (min m 20)).length = min m 20) := clampL_length _ _ _
  have HVS : Hid (VecsAt w2 p (min m 20) cc (clampL VS 2 (min m 20))) := hVS
  clear hVS hb2 HV1 HB1
  generalize clampL VS 2 (min m 20) = L at *
  obtain ⟨k, hk⟩ : ∃ k, min m 20 = k := ⟨_, rfl⟩
  have hk10 : k ≤ 20 := by omega
  rw [hk] at HVS HC ⊢
  clear hk
  go_wp2_with fail
  refine (middles_at HVS.out HF.out (by omega) (by omega) (by omega) 1 _).mono ?_
  rintro e w3 ⟨u, gs, rfl, hM, hb3⟩
  by_cases hk0 : k = 0
  · subst hk0
    have hl : gs.length = 0 := by
      have h1 := hM.len
      have h2 := (firstL_len (numM 1) L).2
      rw [middlesL_length] at h1
      have := HC.out
      omega
    obtain ⟨p3, c3, rfl, _⟩ := hM.toAt (by omega)
    have HB3 : Hid (Below w.heap.size w w3) := HB2.out.trans (hb3.mono HB2.out.size)
    clear hM hb3
    rw [hl]
    go_wp2_with fail
    go_ret
    exact ⟨rfl, HB3.out⟩
  · have hk0' : ¬ (k : Int) = 0 := by omega
    rw [middles_one HF.out (fun e => by have := HC.out; rw [e] at this; simp at this; omega) _ (by omega)] at hM
    have hl : gs.length = 1 := by have := hM.len; simpa using this.symm
    obtain ⟨b3, c3, rfl, hb3l, hb3lo, hc3⟩ := hM.cell 0 (by omega)
    have e0 := (hM.vec 0 (by omega)).cell2 0 (by omega)
    have e1 := (hM.vec 0 (by omega)).cell2 1 (by omega)
    rw [HC.out] at e0 e1
    have HE : Hid (∀ j : Nat, j < 2 → w3.cell? ⟨(gs.getD 0 (0, 0)).1, j, none⟩ = some (.int .i32 (sumA L j / k))) := fun j hj => by
      rcases (show j = 0 ∨ j = 1 by omega) with rfl | rfl
      · exact e0
      · exact e1
    have hgl := (hM.vec 0 (by omega)).lo.2.1
    have HU3 : Hid (Below w2.heap.size w2 w3) := hb3
    have HB3 : Hid (Below w.heap.size w w3) := HB2.out.trans (hb3.mono HB2.out.size)
    have HV3 : Hid (VecsAt w3 p k cc L) := HVS.out.all hb3
    unfold slC at hc3
    clear hM hb3 e0 e1 HVS HB2 HU3
    rw [hl]
    generalize (gs.getD 0 (0, 0)).1 = g1 at *
    generalize (gs.getD 0 (0, 0)).2 = g2 at *
    go_wp2_with fail
    have HQ : Hid (∀ j : Nat, -1048576 ≤ sumA L j / k ∧ sumA L j / k ≤ 1048576 ∧ sumA L j / k * k ≤ sumA L j ∧ sumA L j < (sumA L j / k + 1) * k) := fun j => by
      have h1 := sumA_fit L HF.out j
      rw [HC.out] at h1
      have h2 := div_fit (B := 1048576) (c := (k : Int)) (by omega) h1.1 h1.2
      exact ⟨h2.1, h2.2, Int.ediv_mul_le _ (by omega), Int.lt_ediv_add_one_mul_self _ (by omega)⟩
    have HT : Hid (∀ i : Nat, i < k → ∀ j, sumA (L.take (i + 1)) j = sumA (L.take i) j + (L.getD i []).getD j 0) := fun i hi j => by
      rw [getD_take_snoc (by rw [HC.out]; exact hi), sumA_snoc]
    have HTA : Hid (L.take k = L) := by
      show _ = _
      have := HC.out
      rw [← this, List.take_length]
    have HTf : Hid (∀ i j : Nat, -1048576 * (i : Int) ≤ sumA (L.take i) j ∧ sumA (L.take i) j ≤ 1048576 * (i : Int)) := fun i j => by
      have h1 := sumA_fit (L.take i) (HF.out.sub i) j
      have : (L.take i).length ≤ i := List.length_take_le _ _
      omega
    go_loopw [8] (fun s8 wx => ∃ j : Nat, j ≤ 2 ∧ s8 = .int .i64 j ∧ Hid (Below w3.heap.size w3 wx)) (fun s8 _ => 2 - (RowKit.intOf s8).toNat)
    case atStart => exact ⟨0, Nat.zero_le _, rfl, Below.refl _ _⟩
    case round =>
      obtain ⟨j, hj, rfl, HI⟩ := hrel
      by_cases hlt : j < 2
      · go_wp2_with fail
        go_loopw [9, 50] (fun s9 s50 wx => ∃ i : Nat, i ≤ k ∧ s50 = .int .i64 i ∧ s9 = .int .i64 (sumA (L.take i) j) ∧ Hid (Below w3.heap.size w3 wx)) (fun _ s50 _ => k - (RowKit.intOf s50).toNat)
        case atStart => exact ⟨0, Nat.zero_le _, rfl, rfl, HI.out⟩
        case round =>
          clear HI
          obtain ⟨i, hi, rfl, rfl, HI⟩ := hrel
          by_cases hlti : i < k
          · obtain ⟨b1, o1, q1, k1, kc1, rfl, hb1, hc1, hk1, hv1⟩ := HV3.out.at_ i hlti
            have d1 := (HI.out.cell (p := ⟨b1, o1 + i, none⟩) hb1).trans hc1
            have hkd : k1 = 2 := by
              rw [← hv1.len]
              exact (HF.out.getD i (by rw [HC.out]; exact hlti)).1
            subst hkd
            obtain ⟨b2, o2, rfl, hb2, hc2, f1, f2⟩ := hv1.cell j hlt
            have d2 := (HI.out.cell (p := ⟨b2, o2 + j, none⟩) hb2).trans hc2
            have HS := HT.out i hlti j
            have hTf := HTf.out i j
            have HS2 : Hid (sumA (L.take (i + 1)) j = sumA (L.take i) j + (L.getD i []).getD j 0) := HS
            clear hb1 hc1 hv1 hb2 hc2 HS
            generalize (L.getD i []).getD j 0 = y at *
            generalize sumA (L.take i) j = z at *
            go_wp2_with fail
            exact ⟨⟨i + 1, hlti, rfl, by rw [HS2.out], HI.out⟩, by simp [RowKit.intOf]; omega⟩
          · obtain rfl : k = i := by omega
            have d1 := (HI.out.cell (p := ⟨b3, 0, none⟩) hb3l).trans hc3
            have d2 := (HI.out.cell (p := ⟨g1, j, none⟩) hgl).trans (HE.out j hlt)
            obtain ⟨h1, h2, h3, h4⟩ := HQ.out j
            have h5 := HTf.out k j
            rw [HTA.out] at h5 ⊢
            have h6 : (sumA L j / k + 1) * k = sumA L j / k * k + k := by rw [Int.add_mul, Int.one_mul]
            have h7 : -30000000 ≤ sumA L j / k * k ∧ sumA L j / k * k ≤ 30000000 := by omega
            have h8 : -30000000 ≤ (sumA L j / k + 1) * k ∧ (sumA L j / k + 1) * k ≤ 30000000 := by omega
            have h9 : ¬ (sumA L j / k * k > sumA L j) := by omega
            have h10 : ¬ ((sumA L j / k + 1) * k ≤ sumA L j) := by omega
            clear HTf HT HQ HE h3 h4 h5 h6
            generalize sumA L j / k = q at *
            generalize sumA L j = z at *
            go_wp2_with fail
            exact ⟨⟨j + 1, hlt, rfl, HI.out⟩, by simp [RowKit.intOf]; omega⟩
      · obtain rfl : 2 = j := by omega
        have HB4 : Hid (Below w.heap.size w wr) := HB3.out.trans (HI.out.mono HB3.out.size)
        go_wp2_with fail
        go_ret
        exact ⟨rfl, HB4.out⟩
end Go.Proofs.YteaacodloabdcaaGreatDoor
