import Derived.Test.YtlmdeafmlommeaaGreatDoorLgD
import Derived.Test.YtlmdeafmlommeaaGreatDoorBgD
namespace Go.Proofs.YtlmdeafmlommeaaGreatDoor
open Go.RowKit Go.Maps

/-- The first byte of a round's record. -/
def rndB (r j : Nat) : UInt8 := UInt8.ofNat (r * 7 + j)
/-- The records of a round. -/
def rndR (m r j : Nat) : List (List UInt8) := (List.range j).map fun i => textB m (rndB r i)
theorem rndR_len (m r j : Nat) : (rndR m r j).length = j := by unfold rndR; simp
theorem rndR_succ (m r j : Nat) : rndR m r (j + 1) = rndR m r j ++ [textB m (rndB r j)] := by unfold rndR; rw [List.range_succ, List.map_append]; rfl
theorem rndR_enc (m r j : Nat) : (encR (rndR m r j)).length = j * (m + 2) := by
  induction j with
  | zero => simp [rndR, encR_nil]
  | succ j ih => rw [rndR_succ, encR_snoc_len, ih, textB_len, Nat.succ_mul]
/-- The outer loop's. -/
def RouI (lo : Nat) (w wr : World) (db nb lb sb r : Nat) : Prop :=
  ∃ mb k B a x y, k ≤ r + 5 ∧ CutS w.heap.size lo 64 w wr db nb mb 64 k lb sb B 0 false (.slice none 0 0) a [] [] x y
/-- The inner loop's. -/
def RndI (lo : Nat) (w wr : World) (db nb lb sb r m : Nat) (a : Nat) (x y : Int) (v : Value) (j : Nat) : Prop :=
  ∃ mb k B, k ≤ r + 5 ∧ CutS w.heap.size lo 64 w wr db nb mb 64 k lb sb B 0 false v a (rndR m r j) (rndR m r j) x y
set_option maxRecDepth 100000 in
set_option maxHeartbeats 4000000 in
theorem logRounds_true (r0 n0 s0 : Int) (ka : Option Addr) (kl kc : Nat) (K : List Bool) (w : World) (hK : KeepB w w.heap.size ka kl K) (hg : w.cell? ⟨0, 0, none⟩ = some errType) :
    Calls Tryz.prog 5 #[.int .i64 r0, .int .i64 n0, .int .i64 s0, .slice ka kl kc] w fun e w' => e = .returned (.bool true) ∧ Below w.heap.size w w' := by
  have hr0 := rem_any r0 20 (by omega)
  have hr1 := rem_any n0 6 (by omega)
  have hr2 := rem_any s0 250 (by omega)
  go_enter Tryz.func5, Tryz.ntmps5
  go_wp2_with fail
  refine (begun4_true _ hg).mono ?_
  rintro e w1 ⟨rfl, hb1⟩
  clear hg
  have hs1 := hb1.size
  go_wp2_with fail
  obtain ⟨rr, hrr, hrr1, hrr2⟩ : ∃ rr : Nat, 1 + r0.tmod 20 % 20 = (rr : Int) ∧ 1 ≤ rr ∧ rr ≤ 20 := ⟨(1 + r0.tmod 20 % 20).toNat, by omega, by omega, by omega⟩
  obtain ⟨nn, hnn, hnn8⟩ : ∃ nn : Nat, (n0.tmod 6 + 6) % 6 = (nn : Int) ∧ nn < 6 := ⟨((n0.tmod 6 + 6) % 6).toNat, by omega, by omega⟩
  obtain ⟨m, hm, hm1, hm2⟩ : ∃ m : Nat, 1 + s0.tmod 250 % 250 = (m : Int) ∧ 1 ≤ m ∧ m ≤ 250 := ⟨(1 + s0.tmod 250 % 250).toNat, by omega, by omega, by omega⟩
  rw [hrr, hnn, hm]
  clear hrr hnn hm hr0 hr1 hr2
  refine (new_at 64 w1 (by omega) (by omega)).mono ?_
  rintro e w2 ⟨db, nb, mb, rfl, l1, l2, l3, hd2, hb2⟩
  have hs2 := hb2.size
  have hbw2 : Below w.heap.size w w2 := hb1.trans (hb2.mono hs1)
  clear hb1 hb2
  go_wp2_with fail
  refine (wmake_seat (base := w.heap.size) hd2 (by omega) (by omega) ⟨by omega, by omega, by omega, by omega⟩).mono ?_
  rintro e w3 ⟨mb3, k3, B3, lb, sb, rfl, hS3, hk3, hlog3, hK3⟩
  have hs3 := hK3.size
  have hbw3 : Below w.heap.size w w3 := hbw2.trans (hK3.below (by omega) (fun i e => by omega))
  obtain ⟨lo, hlo⟩ : ∃ lo, lo = w3.heap.size := ⟨_, rfl⟩
  have hI0 : Hid (RouI lo w w3 db nb lb sb 0) := by
    rw [hlo]
    exact ⟨mb3, k3, B3, 0, 0, 0, by omega, CutS.start hS3 hlog3 hbw3 hbw3.size⟩
  clear hK3 hbw2 hd2 hS3 hlog3 hbw3 hlo
  go_wp2_with fail
  go_loopw [13] (fun s13 wr => ∃ r : Nat, r ≤ rr ∧ s13 = .int .i64 r ∧ Hid (RouI lo w wr db nb lb sb r)) (fun s13 _ => rr - (RowKit.intOf s13).toNat)
  case atStart => exact ⟨0, Nat.zero_le _, rfl, hI0⟩
  case round => as_aux_lemma =>
    obtain ⟨r, hr, rfl, HI⟩ := hrel
    clear hI0
    by_cases hlt : r < rr
    · obtain ⟨mbr, kr, Br, ar, xr, yr, hkr, hSr⟩ := HI.out
      have hJ0 : Hid (RndI lo w wr db nb lb sb r m ar xr yr (.slice none 0 0) 0) := ⟨mbr, kr, Br, hkr, hSr⟩
      clear HI hSr
      go_wp2_with fail
      go_loopw [14, 15] (fun s14 s15 wq => ∃ j : Nat, j ≤ nn ∧ s15 = .int .i64 j ∧ Hid (RndI lo w wq db nb lb sb r m ar xr yr s14 j)) (fun _ s15 _ => nn - (RowKit.intOf s15).toNat)
      case atStart => exact ⟨0, Nat.zero_le _, rfl, hJ0⟩
      case round => as_aux_lemma =>
        obtain ⟨j, hj, rfl, HJ⟩ := hrel
        clear hJ0
        by_cases hltj : j < nn
        · go_wp2_with fail
          refine (text_at m (rndB r j) _ ?_ (by omega) _).mono ?_
          · unfold rndB; rw [UInt8.toNat_ofNat']; omega
          rintro e w4 ⟨g, rfl, hg4, hB4, hb4⟩
          obtain ⟨mbq, kq, Bq, hkq, hSq⟩ := HJ.out
          have hS4 := hSq.keep hb4
          have hlo := hSq.sz
          clear HJ hSq
          go_wp2_with fail
          have hez : (encR (rndR m r j)).length + (m + 2) ≤ ringN 64 := by
            rw [rndR_enc]
            have : j * (m + 2) ≤ 4 * 252 := Nat.mul_le_mul (by omega) (by omega)
            unfold ringN; omega
          refine (hS4.append (by omega) hB4 (textB_len _ _) (by omega) (by omega) (Nat.le_refl _) (by omega) hez).mono ?_
          rintro e w5 ⟨rfl, mb5, k5, B5, hk5, hS5, hv5⟩
          rw [← rndR_succ] at hS5
          obtain ⟨x1, x2, hc5, hlo5⟩ := hS5.boxed hv5
          have HX : Hid (CutS w.heap.size lo 64 w (w5.alloc (.cells #[.slice (some ⟨g, 0, none⟩) m m] 34)) db nb mb5 64 k5 lb sb B5 0 false u14 ar (rndR m r (j + 1)) (rndR m r j) xr yr ∧ RecV (w5.alloc (.cells #[.slice (some ⟨g, 0, none⟩) m m] 34)) lo (.slice (some ⟨g, 0, none⟩) m m) (textB m (rndB r j))) := ⟨x1, x2⟩
          have hcl : (rndR m r j).length ≤ 100000 := by rw [rndR_len]; omega
          clear x1 x2 hS5 hv5 hS4 hB4 hez hb4
          go_wp2_with (at_builtin; refine wpList_append_rec rfl _ _ rfl lo _ (rndR m r j) rfl HX.out.1.rcs w5.heap.size _ (textB m (rndB r j)) rfl hc5 HX.out.2 hlo5 hcl ?_)
          intro v1 w6 hr6 hg6 _
          have HN : Hid (RndI lo w w6 db nb lb sb r m ar xr yr v1 (j + 1)) := by
            rw [← rndR_succ] at hr6
            exact ⟨mb5, k5, B5, by omega, HX.out.1.list hr6 hg6⟩
          clear HX hc5 hr6 hg6 hlo5 hcl
          go_wp2_with fail
          go_roundw
          case rel => exact ⟨j + 1, by omega, by go_num, HN⟩
          case measure => simp [RowKit.intOf]; omega
        · obtain rfl : j = nn := by omega
          obtain ⟨mbq, kq, Bq, hkq, hSq⟩ := HJ.out
          have hQ : (rndR m r j).length ≤ 8 := by rw [rndR_len]; omega
          generalize rndR m r j = Q at *
          clear HJ
          go_wp2_with fail
          refine (hSq.crash (by omega) kc hK).mono ?_
          rintro e w4 ⟨db4, nb4, mb4, cap4, rfl, hd4, hS4, z1, z2, z3, z4⟩
          have hlog4 := hSq.log
          clear hSq
          go_wp2_with fail
          refine (hS4.opens hd4 hlog4).mono ?_
          rintro e w5 ⟨lb5, sb5, rp, rc, U, rfl, y1, y2, y3, _, _, hR5, hU5, _, hS5, y4⟩
          have HS5 : Hid (CutS w.heap.size lo 64 w w5 db nb mbq 64 kq lb sb Bq 0 false u14 ar Q Q xr yr ∧ RecsU w5 U (.slice rp Q.length rc) Q) := ⟨hS5, hR5⟩
          clear hd4 hS4 hR5 hU5 hS5 hlog4
          go_wp2_with fail
          refine (records_at HS5.out.2 HS5.out.1.rcs.toU (by omega)).mono ?_
          rintro e w6 ⟨rfl, hsm⟩
          rw [decide_eq_true rfl]
          have hS6 := HS5.out.1.keep ((hsm.keeps (fun _ => False)).below (Nat.le_refl _) (fun _ e => e.elim))
          have hS6 := hS6.fresh
          have hf6 : AllFit [(r : Int), (r : Int) + 1] := fun q hq => by
            simp only [List.mem_cons, List.not_mem_nil, or_false] at hq
            rcases hq with rfl | rfl <;> omega
          have HR : Hid (Calls Tryz.prog 19 #[.pointer (some ⟨lb, 0, none⟩), .int .i64 (r : Int), .int .i64 ((r : Int) + 1)] w6 fun e w' => e = .returned (.int .i64 0) ∧ ∃ mb' k' B' a', k' ≤ kq + 1 ∧ CutS w.heap.size lo 64 w w' db nb mb' 64 k' lb sb B' 0 false (.slice none 0 0) a' [] [] (r : Int) ((r : Int) + 1)) := by
            show Calls _ _ _ _ _
            refine (hS6.reset (by omega) (r : Int) ((r : Int) + 1) hf6).mono ?_
            rintro e w' ⟨h1, mb', k', B', a', h2, h3, _⟩
            exact ⟨h1, mb', k', B', a', h2, h3⟩
          clear HS5 hsm hS6 hf6
          go_wp2_with fail
          refine HR.out.mono ?_
          rintro e w7 ⟨rfl, mb7, k7, B7, a7, hk7, hS7⟩
          clear HR
          go_wp2_with fail
          refine (hS7.crash (by omega) kc hK).mono ?_
          rintro e w8 ⟨db8, nb8, mb8, cap8, rfl, hd8, hS8, _, _, _, _⟩
          have hlog8 := hS7.log
          clear hS7
          go_wp2_with fail
          refine (hS8.opens hd8 hlog8).mono ?_
          rintro e w9 ⟨lb9, sb9, rp9, rc9, U9, rfl, _, _, _, hL9, _, _, _, hd9, hS9, _⟩
          clear hd8 hS8
          go_wp2_with fail
          refine (area_at hL9 hd9 a7 (encR ([] : List (List UInt8))).length (r : Int) ((r : Int) + 1) hlog8.tl hlog8.al hlog8.sz).mono ?_
          rintro e w10 ⟨rfl, hb10⟩
          have HN : Hid (RouI lo w w10 db nb lb sb (r + 1)) := ⟨mb7, k7, B7, a7, _, _, by omega, hS9.keep hb10⟩
          clear hS9 hL9 hd9 hlog8 hb10
          go_wp2_with fail
          exact ⟨⟨r + 1, by omega, by go_num, HN⟩, by simp [RowKit.intOf]; omega⟩
    · obtain ⟨mbr, kr, Br, ar, xr, yr, hkr, hSr⟩ := HI.out
      have hb := hSr.bel
      clear HI hSr
      go_wp2_with fail
      go_ret
      exact ⟨rfl, hb⟩
end Go.Proofs.YtlmdeafmlommeaaGreatDoor
