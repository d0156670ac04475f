import Derived.Test.YteaacodloabdcaaGreatDoorBgE
import Derived.Test.YteaacodloabdcaaGreatDoorQtH
import Derived.BigQuiet
namespace Go.Proofs.YteaacodloabdcaaGreatDoor
open Go.RowKit Go.Maps

/-- The law's own vectors. -/
def clampL (VS : List (List Int)) (d k : Nat) : List (List Int) := (List.range k).map (fun i => clampA (VS.getD i []) d)
theorem clampL_length (VS : List (List Int)) (d k : Nat) : (clampL VS d k).length = k := by simp [clampL]
theorem clampL_fit (VS : List (List Int)) (d k : Nat) : FitL d 1048576 (clampL VS d k) := by
  intro v hv
  obtain ⟨i, _, rfl⟩ := List.mem_map.1 hv
  exact ⟨clampA_length _ _, clampA_fit _ _⟩
theorem lvecs_at {w : World} {a : Option Addr} {m c : Nat} {VS : List (List Int)} (h : VecsAt w a m c VS) (d : Nat) (hd : d ≤ 1000) (n : Nat) (hn : n ≤ 1000) :
    Calls Tryz.prog 15 #[.slice a m c, .int .i64 d, .int .i64 n] w fun e w' => ∃ p cc, e = .returned (.slice p ((min m n : Nat) : Nat) cc) ∧ VecsAt w' p (min m n) cc (clampL VS d (min m n)) ∧ Below w.heap.size w w' := by
  refine (vecs_at h d hd n hn).mono ?_
  rintro e w' ⟨u, gs, rfl, hI⟩
  obtain ⟨p, cc, rfl, hV⟩ := hI.toAt (by omega)
  exact ⟨p, cc, rfl, hV, hI.u⟩
/-- Middles whose first numbers are turned. -/
structure TurnM (wr : World) (lo : Nat) (d n b : Nat) (gs : List (Nat × Nat)) : Prop where
  r : ∀ k, k < n → wr.cell? ⟨b, k, none⟩ = some (slC d (gs.getD k (0, 0)))
  v : ∀ k, k < n → ∃ x, wr.cell? ⟨(gs.getD k (0, 0)).1, 0, none⟩ = some (.int .i32 x)
  f : ∀ k, k < n → wr.frozen? ⟨(gs.getD k (0, 0)).1, 0, none⟩ = false
  lo : ∀ k, k < n → lo ≤ (gs.getD k (0, 0)).1
  ne : ∀ k, k < n → (gs.getD k (0, 0)).1 ≠ b
theorem MidsR.turn {lo : Nat} {w : World} {d b c : Nat} {gs : List (Nat × Nat)} {MS : List (List Int)} (h : MidsR lo w d (.slice (some ⟨b, 0, Option.none⟩) gs.length c) gs MS) (hd : 1 ≤ d) : TurnM w lo d gs.length b gs where
  r := fun k hk => by
    obtain ⟨b', c', e, _, _, hc⟩ := h.cell k hk
    injection e with e _ _
    injection e with e
    injection e with e
    rw [e]; exact hc
  v := fun k hk => ⟨_, (h.vec k hk).cell2 0 (by omega)⟩
  f := fun k hk => VecR.soft (n := d) (c := (gs.getD k (0, 0)).2) (h.vec k hk) 0
  lo := fun k hk => (h.vec k hk).lo.1
  ne := fun k hk e => h.ne k hk (by rw [e]; rfl)
theorem TurnM.set {wr : World} {lo d n b : Nat} {gs : List (Nat × Nat)} (h : TurnM wr lo d n b gs) (k : Nat) (hk : k < n) (y : Int) : TurnM (wr.setCell ⟨(gs.getD k (0, 0)).1, 0, none⟩ (.int .i32 y)) lo d n b gs where
  r := fun i hi => by
    rw [World.cell?_setCell_other _ _ _ _ (by intro q; injection q with q; exact h.ne k hk q)]
    exact h.r i hi
  v := fun i hi => by
    obtain ⟨x, hx⟩ := h.v i hi
    by_cases e : (gs.getD k (0, 0)).1 = (gs.getD i (0, 0)).1
    · rw [e]; exact ⟨y, World.cell?_setCell_same _ _ _ hx⟩
    · exact ⟨x, by rw [World.cell?_setCell_other _ _ _ _ (by intro q; injection q with q; exact e q)]; exact hx⟩
  f := fun i hi => by rw [World.frozen?_setCell]; exact h.f i hi
  lo := h.lo
  ne := h.ne
set_option maxRecDepth 100000 in
set_option maxHeartbeats 4000000 in
theorem meansOwn_true {w : World} {a : Option Addr} {m c : Nat} {VS : List (List Int)} (d0 : Int) (hV : VecsAt w a m c VS) (hg : w.cell? ⟨0, 0, none⟩ = some errType) :
    Calls Tryz.prog 4 #[.int .i64 d0, .slice a m c] w fun e w' => e = .returned (.bool true) ∧ Below w.heap.size w w' := by
  have HV : Hid (VecsAt w a m c VS) := hV
  clear hV
  go_enter Tryz.func4, Tryz.ntmps4
  go_wp2_with fail
  refine (begun7_true _ hg).mono ?_
  rintro e w1 ⟨rfl, hb1⟩
  have HB1 : Hid (Below w.heap.size w w1) := hb1
  have HV1 : Hid (VecsAt w1 a m c VS) := HV.out.all hb1
  clear hg hb1 HV
  go_wp2_with fail
  refine (dim_at d0 w1).mono ?_
  rintro e w1' ⟨d, rfl, hd1, hd2, hw1⟩
  subst hw1
  go_wp2_with fail
  refine (lvecs_at HV1.out d (by omega) 10 (by omega)).mono ?_
  rintro e w2 ⟨p, cc, rfl, hVS, hb2⟩
  have HV2 : Hid (VecsAt w2 a m c VS) := HV1.out.all hb2
  have HB2 : Hid (Below w.heap.size w w2) := HB1.out.trans (hb2.mono HB1.out.size)
  have HF : Hid (FitL d 1048576 (clampL VS d (min m 10))) := clampL_fit _ _ _
  have HC : Hid ((clampL VS d (min m 10)).length = min m 10) := clampL_length _ _ _
  have HVS : Hid (VecsAt w2 p (min m 10) cc (clampL VS d (min m 10))) := hVS
  have HVC : Hid (∀ W, VecsAt W a m c VS → Calls Tryz.prog 15 #[.slice a m c, .int .i64 d, .int .i64 10] W fun e w' => ∃ p cc, e = .returned (.slice p ((min m 10 : Nat) : Nat) cc) ∧ VecsAt w' p (min m 10) cc (clampL VS d (min m 10)) ∧ Below W.heap.size W w') := fun W h => lvecs_at h d (by omega) 10 (by omega)
  clear hVS hb2 HV1 HB1
  generalize clampL VS d (min m 10) = L at *
  obtain ⟨k, hk⟩ : ∃ k, min m 10 = k := ⟨_, rfl⟩
  have hk10 : k ≤ 10 := by omega
  rw [hk] at HVS HC HVC ⊢
  clear hk
  by_cases hk0 : k = 0
  · subst hk0
    go_wp2_with fail
    refine (middles_at (VS := []) (d := 1) (m := 0) ⟨rfl, Nat.le_refl _, fun i h => absurd h (Nat.not_lt_zero _)⟩ (fun v h => by cases h) (by omega) (by omega) (by omega) 3 2).mono ?_
    rintro e w3 ⟨u, gs, rfl, hM, hb3⟩
    have hl : gs.length = 0 := by
      have h1 := hM.len
      have h2 := (firstL_len (numM 3) []).2
      rw [middlesL_length] at h1
      simp at h2
      rw [h2] at h1
      simpa using h1.symm
    obtain ⟨p3, c3, rfl, _⟩ := hM.toAt (by omega)
    have HB3 : Hid (Below w.heap.size w w3) := HB2.out.trans (hb3.mono HB2.out.size)
    clear hM hb3
    rw [hl]
    go_wp2_with fail
    go_ret
    exact ⟨rfl, HB3.out⟩
  · have hk0' : ¬ (k : Int) = 0 := by omega
    go_wp2_with fail
    refine (middles_at HVS.out HF.out hd1 (by omega) (by omega) 3 0).mono ?_
    rintro e w3 ⟨u, gs, rfl, hM, hb3⟩
    have hgl : 1 ≤ gs.length := by
      have h1 := hM.len
      rw [middlesL_length] at h1
      have := firstL_pos (n := numM 3) (by decide) L (fun e => by have := HC.out; rw [e] at this; simp at this; omega)
      omega
    have hgl2 : gs.length ≤ 16 := by
      have h1 := hM.len
      rw [middlesL_length] at h1
      have h2 := (firstL_len (numM 3) L).1
      have : numM 3 = 3 := by decide
      omega
    obtain ⟨b3, c3, rfl, hb3l, hb3lo, _⟩ := hM.cell 0 (by omega)
    have HT3 : Hid (TurnM w3 w2.heap.size d gs.length b3 gs) := hM.turn hd1
    have HU3 : Hid (Below w2.heap.size w2 w3) := hb3
    clear hM hb3
    obtain ⟨b0, o0, q0, kk, kc, rfl, hb0, hc0, hkk, hv0⟩ := HVS.out.at_ 0 (by omega)
    have hc3 := (HU3.out.cell (p := ⟨b0, o0 + 0, none⟩) hb0).trans hc0
    rw [Nat.add_zero] at hc3
    have HV03 : Hid (VecAt w3 q0 kk kc (L.getD 0 [])) := hv0.all HU3.out
    have hkd : kk = d := by
      rw [← hv0.len]
      exact (HF.out.getD 0 (by rw [HC.out]; omega)).1
    subst hkd
    clear hc0 hv0
    go_wp2_with fail
    refine (copy_at HV03.out (by omega)).mono ?_
    rintro e w4 ⟨v4, rfl, hR4, hb4⟩
    have hL0 : (L.getD 0 []).length = kk := (HF.out.getD 0 (by rw [HC.out]; omega)).1
    obtain ⟨g4, c4, rfl⟩ : ∃ g4 c4, v4 = .slice (some ⟨g4, 0, none⟩) kk c4 := by
      rcases hR4.2 with ⟨_, e0⟩ | ⟨g, cap, cur, e0, _⟩
      · omega
      · exact ⟨g, cap, by rw [e0, hL0]⟩
    have HR4 : Hid (VecR w4 w3.heap.size (.slice (some ⟨g4, 0, none⟩) kk c4) (L.getD 0 [])) := hR4
    have HT4 : Hid (TurnM w4 w2.heap.size kk gs.length b3 gs ∧ Below w2.heap.size w2 w4) := by
      refine ⟨⟨fun i hi => ?_, fun i hi => ?_, fun i hi => ?_, HT3.out.lo, HT3.out.ne⟩, HU3.out.trans (hb4.mono HU3.out.size)⟩
      · have h := HT3.out.r i hi
        exact (hb4.cell (p := ⟨b3, i, none⟩) (World.block_lt_of_cell? w3 _ h)).trans h
      · obtain ⟨x, h⟩ := HT3.out.v i hi
        exact ⟨x, (hb4.cell (p := ⟨_, 0, none⟩) (World.block_lt_of_cell? w3 _ h)).trans h⟩
      · obtain ⟨x, h⟩ := HT3.out.v i hi
        rw [hb4.frozen (p := ⟨_, 0, none⟩) (World.block_lt_of_cell? w3 _ h)]
        exact HT3.out.f i hi
    have HG4 : Hid (w3.heap.size ≤ g4) := (VecR.lo (g := (g4, c4)) hR4).1
    have HCp : Hid (w4.cell? ⟨g4, 0, none⟩ = some (.int .i32 ((L.getD 0 []).getD 0 0)) ∧ w4.frozen? ⟨g4, 0, none⟩ = false) := ⟨VecR.cell (n := kk) (c := c4) hR4 0 (by omega), VecR.soft (n := kk) (c := c4) hR4 0⟩
    have HI4 : Hid (TurnM w4 w2.heap.size kk gs.length b3 gs ∧ (∃ x, w4.cell? ⟨g4, 0, none⟩ = some (.int .i32 x)) ∧ w4.frozen? ⟨g4, 0, none⟩ = false ∧ Below w2.heap.size w2 w4) := ⟨HT4.out.1, ⟨_, HCp.out.1⟩, HCp.out.2, HT4.out.2⟩
    have HG : Hid (w2.heap.size ≤ g4) := Nat.le_trans HU3.out.size HG4.out
    clear hR4 hb4 HT3 HV03 HR4 HT4 HCp HG4 HU3
    go_wp2_with fail
    go_loopw [34] (fun s34 wx => ∃ j : Nat, j ≤ gs.length ∧ s34 = .int .i64 j ∧ Hid (TurnM wx w2.heap.size kk gs.length b3 gs ∧ (∃ x, wx.cell? ⟨g4, 0, none⟩ = some (.int .i32 x)) ∧ wx.frozen? ⟨g4, 0, none⟩ = false ∧ Below w2.heap.size w2 wx)) (fun s34 _ => gs.length - (RowKit.intOf s34).toNat)
    case atStart => exact ⟨0, Nat.zero_le _, rfl, HI4⟩
    case round =>
      clear HI4
      obtain ⟨j, hj, rfl, HI⟩ := hrel
      obtain ⟨hT, ⟨x4, hx4⟩, hf4, hU⟩ := HI.out
      by_cases hlt : j < gs.length
      · have d0 := hT.r j hlt
        obtain ⟨x, d1⟩ := hT.v j hlt
        have d2 := hT.f j hlt
        have hlo := hT.lo j hlt
        have HN : Hid (∀ y, TurnM (wr.setCell ⟨(gs.getD j (0, 0)).1, 0, none⟩ (.int .i32 y)) w2.heap.size kk gs.length b3 gs ∧ (∃ x, (wr.setCell ⟨(gs.getD j (0, 0)).1, 0, none⟩ (.int .i32 y)).cell? ⟨g4, 0, none⟩ = some (.int .i32 x)) ∧ (wr.setCell ⟨(gs.getD j (0, 0)).1, 0, none⟩ (.int .i32 y)).frozen? ⟨g4, 0, none⟩ = false ∧ Below w2.heap.size w2 (wr.setCell ⟨(gs.getD j (0, 0)).1, 0, none⟩ (.int .i32 y))) := fun y => by
          refine ⟨hT.set j hlt y, ?_, by rw [World.frozen?_setCell]; exact hf4, hU.setCell hlo _⟩
          by_cases e : (gs.getD j (0, 0)).1 = g4
          · rw [e]; exact ⟨y, World.cell?_setCell_same _ _ _ hx4⟩
          · exact ⟨x4, by rw [World.cell?_setCell_other _ _ _ _ (by intro q; injection q with q; exact e q)]; exact hx4⟩
        clear HI hT hx4 hf4 hU hlo
        unfold slC at d0
        generalize (gs.getD j (0, 0)).1 = g1 at *
        generalize (gs.getD j (0, 0)).2 = g2 at *
        go_wp2_with fail
        exact ⟨⟨j + 1, hlt, rfl, HN.out _⟩, by simp [RowKit.intOf]; omega⟩
      · obtain rfl : j = gs.length := by omega
        have HN : Hid (∀ y, Below w2.heap.size w2 (wr.setCell ⟨g4, 0, none⟩ (.int .i32 y))) := fun y => hU.setCell HG.out _
        clear HI hT hU
        go_wp2_with fail
        refine (HVC.out _ (HV2.out.all (HN.out _))).mono ?_
        rintro e w6 ⟨p6, c6, rfl, hV6, hb6⟩
        have hU6 := (HN.out _).trans (hb6.mono (HN.out _).size)
        have HV6 : Hid (VecsAt w6 p6 k c6 L) := hV6
        have HL6 : Hid (VecsAt w6 (some ⟨b0, o0, none⟩) k cc L) := HVS.out.all hU6
        have HB6 : Hid (Below w.heap.size w w6) := HB2.out.trans (hU6.mono HB2.out.size)
        clear hV6 hb6 hU6 HN HVC HVS HV2 HB2 hx4 hf4
        go_wp2_with fail
        go_loopw [56] (fun s56 wx => ∃ j : Nat, j ≤ k ∧ s56 = .int .i64 j ∧ Hid (Below w6.heap.size w6 wx)) (fun s56 _ => k - (RowKit.intOf s56).toNat)
        case atStart => exact ⟨0, Nat.zero_le _, rfl, Below.refl _ _⟩
        case round =>
          obtain ⟨j, hj, rfl, HI⟩ := hrel
          by_cases hlt : j < k
          · obtain ⟨b1, o1, q1, k1, kc1, e1, hb1, hc1, hk1, hv1⟩ := HL6.out.at_ j hlt
            obtain ⟨b2, o2, q2, k2, kc2, rfl, hb2, hc2, hk2, hv2⟩ := HV6.out.at_ j hlt
            have e1' : b1 = b0 ∧ o1 = o0 := by
              injection e1 with e1
              injection e1 with e1 e2
              exact ⟨e1.symm, e2.symm⟩
            obtain ⟨rfl, rfl⟩ := e1'
            have d1 := (HI.out.cell (p := ⟨b1, o1 + j, none⟩) hb1).trans hc1
            have d2 := (HI.out.cell (p := ⟨b2, o2 + j, none⟩) hb2).trans hc2
            have S1 : wr.cell? ⟨b1, o1 + j, none⟩ = some (.slice q1 k1 kc1) ∧ wr.cell? ⟨b2, o2 + j, none⟩ = some (.slice q2 k2 kc2) := ⟨d1, d2⟩
            have HS : Hid (Calls Tryz.prog 18 #[.slice q1 k1 kc1, .slice q2 k2 kc2] wr.drew fun e w' => e = .returned (.bool true) ∧ (w'.cell? ⟨b1, o1 + j, none⟩ = some (.slice q1 k1 kc1) ∧ w'.cell? ⟨b2, o2 + j, none⟩ = some (.slice q2 k2 kc2)) ∧ Hid (Below w6.heap.size w6 w')) := by
              have hD : Below w6.heap.size w6 wr.drew := HI.out.trans (show Below w6.heap.size wr wr.drew from ⟨rfl, rfl, rfl, Nat.le_refl _, fun _ _ => rfl⟩)
              refine (eq_at (hv1.all hD) (hv2.all hD) (by
                have := (HF.out.getD j (by rw [HC.out]; exact hlt)).1
                rw [hv1.len] at this
                omega)).mono ?_
              rintro e w' ⟨rfl, hb⟩
              have hD2 := hD.trans (hb.mono hD.size)
              exact ⟨by simp, ⟨(hD2.cell (p := ⟨b1, o1 + j, none⟩) hb1).trans hc1, (hD2.cell (p := ⟨b2, o2 + j, none⟩) hb2).trans hc2⟩, hD2⟩
            clear hb1 hc1 hv1 hb2 hc2 hv2 d1 d2 HI e1 hc3 hb0
            go_wp2_with fail
            refine wp_region_noPanic ?_
            go_region_held (fun w' => w'.cell? ⟨b1, o1 + j, none⟩ = some (.slice q1 k1 kc1) ∧ w'.cell? ⟨b2, o2 + j, none⟩ = some (.slice q2 k2 kc2)) (first | assumption | exact S1 | go_keep)
              (first | (go_at_call 18; refine HS.out.mono ?_; rintro e w7 ⟨rfl, hS7, HI7⟩))
            refine NoPanic.normal ?_
            clear HS S1
            go_wp2_with fail
            exact ⟨⟨j + 1, hlt, rfl, HI7⟩, by simp [RowKit.intOf]; omega⟩
          · obtain rfl : j = k := by omega
            have HB7 : Hid (Below w.heap.size w wr) := HB6.out.trans (HI.out.mono HB6.out.size)
            go_wp2_with fail
            go_ret
            refine ⟨?_, HB7.out⟩
            simp
            omega
end Go.Proofs.YteaacodloabdcaaGreatDoor
