import Derived.Test.YtmgdkaohdpdmkaaGreatDoorSlN
namespace Go.Proofs.YtmgdkaohdpdmkaaGreatDoor
open Go.RowKit

set_option maxRecDepth 100000 in
set_option maxHeartbeats 1500000 in
theorem slotMake_true (a1 a2 : Option Addr) (n1 n2 c1 c2 : Nat) (A1 A2 : List Int) (s0 f0 : Int) (w : World) (h1 : IntsAt w w.heap.size a1 n1 A1) (h2 : IntsAt w w.heap.size a2 n2 A2) (hc1 : n1 ≤ c1 ∧ c1 ≤ 9223372036854775807) (hc2 : n2 ≤ c2 ∧ c2 ≤ 9223372036854775807) (ka : Option Addr) (kl kc : Nat) (K : List Bool) (hK : KeepB w w.heap.size ka kl K) (hg : w.cell? ⟨0, 0, none⟩ = some errType) :
    Calls Tryz.prog 4 #[.slice a1 n1 c1, .slice a2 n2 c2, .int .i64 s0, .int .i64 f0, .slice ka kl kc] w fun e w' => e = .returned (.bool true) ∧ Below w.heap.size w w' := by
  have hr0 := rem_any f0 6 (by omega)
  have hr1 := rem_any s0 5 (by omega)
  go_enter Tryz.func4, Tryz.ntmps4
  go_wp2_with fail
  refine (begun4_true _ hg).mono ?_
  rintro e w1 ⟨rfl, hb1⟩
  clear hg
  go_wp2_with fail
  go_quiet (fail)
  have hbq := below_drewK hb1 nq
  have i1 := (h1.below hbq).head (min (n1 : Int) 4).toNat (by omega)
  have i2 := (h2.below hbq).head (min (n2 : Int) 4).toNat (by omega)
  have hKq := hK.below hbq
  have m1 : (min (n1 : Int) 4).toNat ≤ 4 := by omega
  have m2 : (min (n2 : Int) 4).toNat ≤ 4 := by omega
  clear h1 h2 hb1 hK
  generalize w1.drewN nq = wq at hbq i1 i2 hKq ⊢
  have hsq := hbq.size
  generalize A1.take (min (n1 : Int) 4).toNat = X1 at i1
  generalize A2.take (min (n2 : Int) 4).toNat = X2 at i2
  generalize (min (n1 : Int) 4).toNat = k1 at i1 m1 ⊢
  generalize (min (n2 : Int) 4).toNat = k2 at i2 m2 ⊢
  obtain rfl := i1.len
  obtain rfl := i2.len
  go_wp2_with fail
  refine (new_at 64 wq (by omega) (by omega)).mono ?_
  rintro e w2 ⟨db, dn, mb, rfl, l1, l2, l3, hd2, hb2⟩
  have hs2 := hb2.size
  have hbw2 : Below w.heap.size w w2 := hbq.trans (hb2.mono hsq)
  have hBlen := hd2.len
  have hI1' : IntsAt w2 w.heap.size a1 X1.length X1 := i1.below (hb2.mono hsq)
  have hI1 := hI1'.up (show w.heap.size ≤ w2.heap.size by omega)
  clear i1 hb2
  go_wp2_with fail
  refine (make_at hd2 (by omega) a1 c1 X1 m1 hI1 (fun b o e hn => by have := hI1'.lt e hn; omega)).mono ?_
  rintro e w3 ⟨code, pv, mb3, k3, B3, D3, left3, down3, rfl, hd3, hk3, hm3, hK3, hM, _, hpv⟩
  obtain ⟨rfl, hG3⟩ := make_good hBlen (by omega) m1 hI1.fit hM
  obtain ⟨sb, rfl, hsb, hSl3, hne3⟩ := hpv rfl
  have hs3 := hK3.size
  have hb23 : Below w.heap.size w2 w3 := hK3.below (by omega) (fun i e => by omega)
  have hbw3 := hbw2.trans hb23
  have hJ3 := (hI1'.below hb23).up (show w.heap.size ≤ w3.heap.size by omega)
  have hI1b := hI1'.below hb23
  clear hM hpv
  have hlow : w.heap.size ≤ db ∧ w.heap.size ≤ dn ∧ w.heap.size ≤ mb3 ∧ w.heap.size ≤ sb := by omega
  have hI0 : MakI w w3 sb db dn (.slice a1 X1.length c1) 0 := ⟨X1, a1, c1, mb3, k3, B3, D3, left3, down3, rfl, m1, hd3, hk3, hG3, hSl3, hne3, hlow, hbw3, hJ3, fun b o e hn => by have := hI1b.lt e hn; omega⟩
  obtain ⟨J2, hbq2⟩ : IntsAt w w.heap.size a2 X2.length X2 ∧ True := by
    refine ⟨⟨i2.len, i2.fit, ?_⟩, trivial⟩
    rcases i2.at_ with e | ⟨b, o, e, hb, hr⟩
    · exact Or.inl e
    · exact Or.inr ⟨b, o, e, hb, fun j v hv => (hbq.cell (p := ⟨b, o + j, none⟩) hb).symm.trans (hr j v hv)⟩
  have hKw : KeepB w w.heap.size ka kl K := by
    refine ⟨hKq.len, ?_⟩
    rcases hKq.at_ with e | ⟨b, o, e, hb, hr⟩
    · exact Or.inl e
    · exact Or.inr ⟨b, o, e, hb, fun j v hv => (hbq.cell (p := ⟨b, o + j, none⟩) hb).symm.trans (hr j v hv)⟩
  have HA : Hid (IntsAt w w.heap.size a2 X2.length X2 ∧ KeepB w w.heap.size ka kl K) := ⟨J2, hKw⟩
  clear hd3 hG3 hSl3 hK3 hd2 hBlen hbw2 hbw3 hI1 hI1' hI1b hJ3 hb23 J2 hbq2 hKw hKq i2 hbq
  go_wp2_with fail
  go_loopw [0, 15] (fun s0' s15 wr => ∃ j : Nat, j ≤ 5 ∧ s15 = .int .i64 j ∧ MakI w wr sb db dn s0' j) (fun _ s15 _ => 5 - (RowKit.intOf s15).toNat)
  case atStart => exact ⟨0, by omega, rfl, hI0⟩
  case round => as_aux_lemma =>
    obtain ⟨j, hj, rfl, hI⟩ := hrel
    clear hI0
    have hm5 : 0 ≤ s0.tmod 5 % 5 ∧ s0.tmod 5 % 5 < 5 := by omega
    by_cases hlt : (j : Int) < s0.tmod 5 % 5
    · have HS : Hid (Calls Tryz.prog 12 #[.pointer (some ⟨sb, 0, none⟩), .slice (some ⟨wr.heap.size, 0, none⟩) 2 2] (wr.alloc (.cells #[.int .i64 j, .int .i64 77] 2)) fun e w' => e = .returned (.int .i64 0) ∧ MakI w w' sb db dn (.slice (some ⟨wr.heap.size, 0, none⟩) 2 2) (j + 1)) := MakI.set hI (by omega)
      clear hI
      go_wp2_with fail
      refine HS.out.mono ?_
      rintro e w7 ⟨rfl, hI7⟩
      have HI7 : Hid (MakI w w7 sb db dn (.slice (some ⟨wr.heap.size, 0, none⟩) 2 2) (j + 1)) := hI7
      clear hI7 HS
      go_wp2_with fail
      go_roundw
      case rel => exact ⟨j + 1, by omega, by go_num, HI7.out⟩
      case measure => simp [RowKit.intOf]; omega
    · obtain ⟨W, wa, wc, mbr, kr, B, D, left, down, rfl, hW4, hd, hkr, hG, hSl, hne, hlow', hbr, hJ, hdis⟩ := hI
      have el := hG.l
      have ed := hG.dn
      have eD := hG.d
      obtain ⟨at0, t0, hnew⟩ := hG.new
      have htold : told B = some W := by unfold told; rw [hnew]; rfl
      subst el ed eD
      have dl := hd.dlt
      have dnl := hd.nlt
      have dml := hd.mlt
      have hsr := hbr.size
      clear hG hnew hSl
      go_wp2_with fail
      have hfb : f0.tmod 6 % 6 ≤ 9223372036854775807 := by omega
      generalize f0.tmod 6 % 6 = ff at hfb ⊢
      refine (fuse_any hd ff hfb).mono ?_
      rintro e w4 ⟨rfl, hd4, hk4⟩
      have hs4 := hk4.size
      have hb34 : Below w.heap.size wr w4 := hk4.below (by omega) (fun i e => by omega)
      have hbw4 := hbr.trans hb34
      have i4 := HA.out.1.below hbw4
      have hK4 := HA.out.2.below hbw4
      have i4' := i4.up (show w.heap.size ≤ w4.heap.size by omega)
      have hBl := hd4.len
      have j4 := (hJ.keep (Nat.le_refl _) hk4 (fun b o e hn x => (hdis b o e hn).1 x)).up hs4
      clear hb34 hbr hd hk4 hr0 hJ
      go_wp2_with fail
      refine (make_at hd4 (by omega) a2 c2 X2 m2 i4' (fun b o e hn => by have := i4.lt e hn; omega)).mono ?_
      rintro e w5 ⟨code, pv, mb5, k5, B5, D5, left5, down5, rfl, hd5, hk5, hm5', hK5, hM, _, _⟩
      have hL := make_lasts (by omega) hBl rfl htold m2 i4.fit hM
      have hs5 := hK5.size
      have hb45 : Below w.heap.size w4 w5 := hK5.below (by omega) (fun i e => by omega)
      have hbw5 := hbw4.trans hb45
      have i5 := i4.below hb45
      have hKK5 := hK4.below hb45
      have j5 := (j4.keep (Nat.le_refl _) hK5 (fun b o e hn x => by have := hdis b o e hn; omega)).up hs5
      clear i4 i4' hK4 hb45 hbw4 hd4 hK5 hM hBl j4
      have HL : Hid ((code = 0 ∧ D5 = .map [] ∧ B5.length = 64 * 64 ∧ told B5 = some X2) ∨ (code = 9 ∧ ∃ x' y, Lasts 64 B5 D5 x' y ∧ (x' = some W ∨ x' = some X2) ∧ (y = some W ∨ y = some X2))) := hL
      clear hL
      go_wp2_with fail
      refine (crash_l hd5 (by omega) kc hKK5).mono ?_
      rintro e w6 ⟨L6, db6, nb6, mb6, cap6, hLp6, _, rfl, y1, y2, y3, hd6, hb6⟩
      have HR : Hid ((code = 0 ∧ told (crashB D5 K L6 B5 L6.length) = some X2) ∨ (code = 9 ∧ (told (crashB D5 K L6 B5 L6.length) = some W ∨ told (crashB D5 K L6 B5 L6.length) = some X2))) := by
        rcases HL.out with ⟨rfl, rfl, hl, ht⟩ | ⟨rfl, x', y, hla, hx, hy⟩
        · have := (crash_lasts (n := 64) (by omega) ⟨hl, Or.inl ⟨rfl, ht, rfl⟩⟩ (K := K) hLp6).1
          exact Or.inl ⟨rfl, this.elim id id⟩
        · refine Or.inr ⟨rfl, ?_⟩
          rcases (crash_lasts (n := 64) (by omega) hla (K := K) hLp6).1 with e | e
          · rw [e]; exact hx
          · rw [e]; exact hy
      generalize crashB D5 K L6 B5 L6.length = B6 at hd6 HR
      have hs6 := hb6.size
      have hbw6 : Below w.heap.size w w6 := hbw5.trans (hb6.mono (by omega))
      have i6 := i5.below (hb6.mono (by omega))
      have j6 := j5.below hb6
      clear hd5 hKK5 HL hLp6 hbw5 i5 j5
      go_wp2_with fail
      refine (open_at hd6).mono ?_
      rintro e w7 ⟨hb7, hN7, hS7⟩
      have hs7 := hb7.size
      have hbw7 : Below w.heap.size w w7 := hbw6.trans (hb7.mono (by omega))
      have i7 := (i6.below (hb7.mono (by omega))).up (show w.heap.size ≤ w7.heap.size by omega)
      have j7 := (j6.below (hb7.mono (by omega))).up (show w5.heap.size ≤ w7.heap.size by omega)
      clear hd6 hb7 hbw6 i6 j6 hb6 hN7
      obtain ⟨Y, hY, hYc⟩ : ∃ Y, told B6 = some Y ∧ ((code = 0 ∧ Y = X2) ∨ (code = 9 ∧ (Y = W ∨ Y = X2))) := by
        rcases HR.out with ⟨e1, e2⟩ | ⟨e1, e2 | e2⟩
        · exact ⟨X2, e2, Or.inl ⟨e1, rfl⟩⟩
        · exact ⟨W, e2, Or.inr ⟨e1, Or.inl rfl⟩⟩
        · exact ⟨X2, e2, Or.inr ⟨e1, Or.inr rfl⟩⟩
      obtain ⟨t7, hx7⟩ := told_some hY
      obtain ⟨sb7, ka7, kc7, rfl, _, _, hJ7, _⟩ := hS7 t7 Y hx7
      have hYl : Y.length ≤ 4 := by rcases hYc with ⟨_, rfl⟩ | ⟨_, rfl | rfl⟩ <;> assumption
      have HI : Hid (Calls Tryz.prog 16 #[.slice ka7 Y.length kc7, .slice a2 X2.length c2] w7 fun e w' => e = .returned (.bool (decide (Y = X2))) ∧ Same w7 w') := ints_at (L := w7.heap.size) ka7 Y.length kc7 Y hJ7 a2 X2.length c2 X2 i7 (by omega)
      have HI2 : Hid (∀ w', Same w7 w' → Calls Tryz.prog 16 #[.slice ka7 Y.length kc7, .slice wa W.length wc] w' fun e w'' => e = .returned (.bool (decide (Y = W))) ∧ Same w' w'') := fun w' hs => by
        have hk := hs.keeps (fun _ => False)
        exact ints_at (L := w7.heap.size) ka7 Y.length kc7 Y (hJ7.keep (Nat.le_refl _) hk (fun _ _ _ _ e => e)) wa W.length wc W (j7.keep (Nat.le_refl _) hk (fun _ _ _ _ e => e)) (by omega)
      clear hS7 HR hY hx7 hJ7 i7 j7 hdis
      by_cases hYX : Y = X2
      · have hc : code = 0 ∨ code = 9 := by rcases hYc with ⟨e, _⟩ | ⟨e, _⟩; exact Or.inl e; exact Or.inr e
        have HD : Hid (decide (Y = X2) = true) := decide_eq_true hYX
        clear hYc hYX HI2
        go_wp2_with fail
        all_goals refine HI.out.mono ?_
        all_goals rintro e w8 ⟨rfl, hsm⟩
        all_goals rw [HD.out]
        all_goals have hb8 := hbw7.trans ((hsm.keeps (fun _ => False)).below (by omega) (fun _ e => e.elim))
        all_goals go_wp2_with fail
        all_goals go_ret
        all_goals exact ⟨rfl, hb8⟩
      · have hc : code = 9 ∧ Y = W := by
          rcases hYc with ⟨_, e⟩ | ⟨e, e2 | e2⟩
          · exact absurd e hYX
          · exact ⟨e, e2⟩
          · exact absurd e2 hYX
        obtain ⟨rfl, hYW⟩ := hc
        have HD : Hid (decide (Y = X2) = false) := decide_eq_false hYX
        have HD2 : Hid (decide (Y = W) = true) := decide_eq_true hYW
        clear hYc hYX hYW
        go_wp2_with fail
        all_goals refine HI.out.mono ?_
        all_goals rintro e w8 ⟨rfl, hsm⟩
        all_goals rw [HD.out]
        all_goals have HS8 : Hid (Same w7 w8) := hsm
        all_goals clear hsm
        all_goals go_wp2_with fail
        all_goals refine (HI2.out w8 HS8.out).mono ?_
        all_goals rintro e w9 ⟨rfl, hsm9⟩
        all_goals rw [HD2.out]
        all_goals have hb9 := hbw7.trans (((HS8.out.trans hsm9).keeps (fun _ => False)).below (by omega) (fun _ e => e.elim))
        all_goals go_wp2_with fail
        all_goals go_ret
        all_goals exact ⟨rfl, hb9⟩
end Go.Proofs.YtmgdkaohdpdmkaaGreatDoor
