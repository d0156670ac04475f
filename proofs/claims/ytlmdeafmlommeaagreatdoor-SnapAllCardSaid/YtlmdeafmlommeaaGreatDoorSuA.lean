import Derived.Test.YtlmdeafmlommeaaGreatDoorSnH
import Derived.Test.YtlmdeafmlommeaaGreatDoorBgD
namespace Go.Proofs.YtlmdeafmlommeaaGreatDoor
open Go.RowKit Go.Maps

theorem five_turn {db nb mb mb' sb lb g : Nat} (h : ¬ five db nb mb sb lb g) (hm : g ≠ mb') : ¬ five db nb mb' sb lb g := fun e => h (by
  unfold five at e ⊢
  omega)
theorem range_nomap {w : World} {g db nb mb n cap : Nat} {B : List UInt8} {k : Nat} {D : DataW Unit} {left : Int} {down : Bool} {s : List UInt8} (hr : w.rangeAt g 0 (bytesV s)) (hs : s ≠ []) (hd : DevAt w db nb mb n cap B k D left down) : g ≠ mb := by
  rintro rfl
  obtain ⟨es, clock, hb, _⟩ := hd.was
  cases s with
  | nil => exact hs rfl
  | cons b r =>
    have := hr 0 _ (show (bytesV (b :: r))[0]? = some _ from rfl)
    simp [World.cell?, hb] at this
/-- The loop's. -/
def SuI (w wr : World) (db nb lb sb : Nat) (s13 : Value) (rc i : Nat) : Prop :=
  ∃ mb k B a R x y s0, R.length = rc ∧ k ≤ 10 ∧ Seat w.heap.size wr db nb mb 256 256 k lb sb B ∧ LogOn 256 B a R x y ∧ TxtOn 256 B x y s0 ∧ WasU wr (five db nb mb sb lb) s13 s0 ∧ Below w.heap.size w wr ∧ rc ≤ i ∧ (encR R).length ≤ 7 * i
set_option maxRecDepth 100000 in
set_option maxHeartbeats 4000000 in
theorem snapAll_true (a1 : Option Addr) (n1 c1 : Nat) (A1 : List Int) (f0 : Int) (w : World) (h1 : IntsAt w w.heap.size a1 n1 A1) (_hc1 : n1 ≤ c1 ∧ c1 ≤ 9223372036854775807) (hf0 : -9223372036854775808 ≤ f0 ∧ f0 ≤ 9223372036854775807) (ka : Option Addr) (kl kc : Nat) (K : List Bool) (hK : KeepB w w.heap.size ka kl K) (hg : w.cell? ⟨0, 0, none⟩ = some errType) :
    Calls Tryz.prog 6 #[.slice a1 n1 c1, .int .i64 f0, .slice ka kl kc] w fun e w' => e = .returned (.bool true) ∧ Below w.heap.size w w' := by
  have hr0 := rem_any f0 8 (by omega)
  have hr1 := rem_any (f0.tdiv 8) 80 (by omega)
  have hmost : (256 / 4 * 64 : Nat) = 4096 := rfl
  go_enter Tryz.func6, Tryz.ntmps6
  go_wp2_with fail
  refine (begun4_true _ hg).mono ?_
  rintro e w1 ⟨rfl, hb1⟩
  clear hg
  have hs1 := hb1.size
  go_wp2_with fail
  refine (new_at 256 w1 (by omega) (by omega)).mono ?_
  rintro e w2 ⟨db, nb, mb, rfl, l1, l2, l3, hd2, hb2⟩
  have hs2 := hb2.size
  have hbw2 : Below w.heap.size w w2 := hb1.trans (hb2.mono hs1)
  clear hb1 hb2 hmost
  go_wp2_with fail
  refine (wmake_seat (base := w.heap.size) hd2 (by omega) (by omega) ⟨by omega, by omega, by omega, by omega⟩).mono ?_
  rintro e w3 ⟨mb3, k3, B3, lb, sb, rfl, hS3, hk3, hlog3, hK3⟩
  have hs3 := hK3.size
  have hbw3 : Below w.heap.size w w3 := hbw2.trans (hK3.below (by omega) (fun i e => by omega))
  have hc0 := hS3.d.c0
  have HS3 : Hid (Seat w.heap.size w3 db nb mb3 256 256 k3 lb sb B3 ∧ LogOn 256 B3 0 [] 0 0 ∧ Below w.heap.size w w3) := ⟨hS3, hlog3, hbw3⟩
  clear hK3 hbw2 hd2 hS3 hlog3 hbw3
  go_wp2_with fail
  refine (most_at hc0 (by omega)).mono ?_
  rintro e w3' ⟨rfl, hw3⟩
  replace hw3 := hw3.symm
  subst hw3
  clear hc0
  go_wp2_with fail
  refine (get_txt HS3.out.1.l HS3.out.1.d HS3.out.2.1 (s := []) (Or.inl ⟨rfl, rfl⟩)).mono ?_
  rintro e w4 ⟨p4, c4, rfl, _, hb4⟩
  have hI0 : Hid (SuI w w4 db nb lb sb (.slice none 0 0) 0 0) := by
    obtain ⟨q1, q2, q3⟩ := HS3.out
    exact ⟨mb3, k3, B3, 0, [], 0, 0, [], rfl, by omega, q1.keep hb4, q2, Or.inl ⟨rfl, rfl⟩, ⟨none, 0, rfl, fun e => absurd rfl e⟩, q3.trans (hb4.mono q3.size), Nat.le_refl _, by rw [encR_nil]; exact Nat.zero_le _⟩
  have HA : Hid (IntsAt w w.heap.size a1 n1 A1 ∧ KeepB w w.heap.size ka kl K) := ⟨h1, hK⟩
  clear HS3 hb4 h1 hK
  go_wp2_with fail
  go_loopw [13, 14, 15] (fun s13 s14 s15 wr => ∃ i rc : Nat, i ≤ 8 ∧ s14 = .int .i64 rc ∧ s15 = .int .i64 i ∧ Hid (SuI w wr db nb lb sb s13 rc i)) (fun _ _ s15 _ => 8 - (RowKit.intOf s15).toNat)
  case atStart => exact ⟨0, 0, by omega, rfl, rfl, hI0⟩
  case round => as_aux_lemma =>
    obtain ⟨i, rc, hi, rfl, rfl, HI⟩ := hrel
    clear hI0
    by_cases hcond : i < 8 ∧ i < n1
    · obtain ⟨hi8, hin⟩ := hcond
      obtain ⟨mb, k, B, a, R, x, y, s0, hrc, hk, hS, hlog, htx, hwas, hbr, hri, hre⟩ := HI.out
      obtain ⟨b1, o1, rfl, hcell⟩ := (HA.out.1.below hbr).cell i hin
      generalize A1.getD i 0 = xv at hcell
      have hxr := rem_any xv 4200 (by omega)
      have HS : Hid (Seat w.heap.size wr db nb mb 256 256 k lb sb B ∧ LogOn 256 B a R x y ∧ TxtOn 256 B x y s0 ∧ WasU wr (five db nb mb sb lb) u13 s0 ∧ Below w.heap.size w wr ∧ R.length = rc) := ⟨hS, hlog, htx, hwas, hbr, hrc⟩
      clear HI hS hlog htx hwas hbr hrc
      go_wp2_with fail
      -- ROUND
      obtain ⟨m, hm, hm2⟩ : ∃ m : Nat, (xv.tmod 4200 + 4200) % 4200 = (m : Int) ∧ m < 4200 := ⟨((xv.tmod 4200 + 4200) % 4200).toNat, by omega, by omega⟩
      rw [hm]
      clear hm hxr hcell
      refine (text_at 5 (UInt8.ofNat i) _ (by rw [UInt8.toNat_ofNat']; omega) (by omega) _).mono ?_
      rintro e w4 ⟨g4, rfl, hg4, hB4, hb4⟩
      have hsl4 : (textB 5 (UInt8.ofNat i)).length = 5 := textB_len _ _
      generalize textB 5 (UInt8.ofNat i) = s5 at hB4 hsl4
      have HApp : Hid (Calls Tryz.prog 18 #[.pointer (some ⟨lb, 0, none⟩), .slice (some ⟨g4, 0, none⟩) 5 5] w4 fun e w' => e = .returned (.int .i64 0) ∧ ∃ mb' k' B', k' ≤ 1 ∧ Seat w.heap.size w' db nb mb' 256 256 k' lb sb B' ∧ LogOn 256 B' a (R ++ [s5]) x y ∧ TxtOn 256 B' x y s0 ∧ WasU w' (five db nb mb' sb lb) u13 s0 ∧ Below w.heap.size w w' ∧ (R ++ [s5]).length = rc + 1 ∧ (encR (R ++ [s5])).length ≤ 7 * (i + 1)) := by
        show Calls _ _ _ _ _
        obtain ⟨hS, hlog, htx, hwas, hbr, hrc⟩ := HS.out
        have hbw4 := hbr.trans (hb4.mono hbr.size)
        have hS4 := hS.keep hb4
        have hez : (encR R).length + (5 + 2) ≤ ringN 256 := by unfold ringN; omega
        refine (append_text hS4 hlog g4 0 5 s5 5 hsl4 (by omega) (by omega) hez hB4.range hbw4.size (by omega)).mono ?_
        rintro e w' ⟨rfl, mb', k', B', p1, p2, p3, p4, p5⟩
        have hw4 : WasU w4 (five db nb mb sb lb) u13 s0 := hwas.keep (Keeps.of_below (S := fun _ => False) hb4) (fun _ _ e => e.elim) (fun _ _ e => e)
        refine ⟨rfl, mb', k', B', p1, p2, p3, ?_, ?_, hbw4.trans (p4.below hbw4.size (fun i e => (hS4.lt5 i e).1)), by rw [List.length_append, List.length_singleton, hrc], by rw [encR_snoc_len, hsl4]; omega⟩
        · rcases htx with q | ⟨q1, q2, q3, q4⟩
          · exact Or.inl q
          · exact Or.inr ⟨q1, q2, q3, (p5 _ _ (by unfold areaAt; omega)).trans q4⟩
        · obtain ⟨pp, cc, rfl, hp⟩ := hw4
          refine ⟨pp, cc, rfl, fun hs => ?_⟩
          obtain ⟨g, rfl, hl, hg, hr⟩ := hp hs
          have hr' : w'.rangeAt g 0 (bytesV s0) := fun j v hv => (p4.cell (p := ⟨g, 0 + j, none⟩) hl hg).trans (hr j v hv)
          exact ⟨g, rfl, Nat.lt_of_lt_of_le hl p4.size, five_turn hg (range_nomap hr' hs p2.d), hr'⟩
      clear HS hB4 hb4 hsl4
      go_wp2_with fail
      refine HApp.out.mono ?_
      rintro e w5 ⟨rfl, mb5, k5, B5, hk5, hS5, hlog5, htx5, hwas5, hbw5, hlen5, henc5⟩
      have HS5 : Hid (Seat w.heap.size w5 db nb mb5 256 256 k5 lb sb B5 ∧ LogOn 256 B5 a (R ++ [s5]) x y ∧ TxtOn 256 B5 x y s0 ∧ WasU w5 (five db nb mb5 sb lb) u13 s0 ∧ Below w.heap.size w w5 ∧ (R ++ [s5]).length = rc + 1 ∧ (encR (R ++ [s5])).length ≤ 7 * (i + 1)) := ⟨hS5, hlog5, htx5, hwas5, hbw5, hlen5, henc5⟩
      clear HApp hS5 hlog5 htx5 hwas5 hbw5 hlen5 henc5
      go_wp2_with fail
      refine (text_at m (UInt8.ofNat i) _ (by rw [UInt8.toNat_ofNat']; omega) (by omega) _).mono ?_
      rintro e w6 ⟨g, rfl, hg6, hB6, hb6⟩
      have hsl : (textB m (UInt8.ofNat i)).length = m := textB_len _ _
      generalize textB m (UInt8.ofNat i) = s at hB6 hsl
      obtain ⟨hS5, hlog5, htx5, hwas5, hbw5, hlen5, henc5⟩ := HS5.out
      have hS6 := hS5.keep hb6
      have hw6 : WasU w6 (five db nb mb5 sb lb) u13 s0 := hwas5.keep (Keeps.of_below (S := fun _ => False) hb6) (fun _ _ e => e.elim) (fun _ _ e => e)
      have hg5 : ¬ five db nb mb5 sb lb g := fun e => by have := (hS5.lt5 g e).2; omega
      have hbw6 := hbw5.trans (hb6.mono hbw5.size)
      have hdc := hS6.d.c0
      have HS6 : Hid (Seat w.heap.size w6 db nb mb5 256 256 k5 lb sb B5 ∧ LogOn 256 B5 a (R ++ [s5]) x y ∧ TxtOn 256 B5 x y s0 ∧ WasU w6 (five db nb mb5 sb lb) u13 s0 ∧ Below w.heap.size w w6 ∧ (R ++ [s5]).length = rc + 1 ∧ (encR (R ++ [s5])).length ≤ 7 * (i + 1) ∧ BlkAt w6 g s ∧ ¬ five db nb mb5 sb lb g ∧ s.length = m) := ⟨hS6, hlog5, htx5, hw6, hbw6, hlen5, henc5, hB6, hg5, hsl⟩
      clear HS5 hS5 hlog5 htx5 hwas5 hbw5 hlen5 henc5 hS6 hw6 hg5 hbw6 hB6 hb6 hsl
      generalize R ++ [s5] = Q at HS6
      by_cases hm4 : 4096 < m
      · go_wp2_with fail
        refine (put_large hdc (by omega) _ _ _ _ (by omega)).mono ?_
        rintro e w7 ⟨rfl, hw7⟩
        replace hw7 := hw7.symm
        subst hw7
        have HN : Hid (SuI w w6 db nb lb sb u13 (rc + 1) (i + 1)) := by
          obtain ⟨q1, q2, q3, q4, q5, q6, q7, _⟩ := HS6.out
          exact ⟨mb5, k5, B5, a, Q, x, y, s0, q6, by omega, q1, q2, q3, q4, q5, by omega, q7⟩
        clear HS6 hdc
        go_wp2_with fail
        exact ⟨⟨i + 1, rc + 1, by omega, by go_num, by go_num, HN⟩, by simp [RowKit.intOf]; omega⟩
      · clear hdc
        have hm40 : m ≤ 256 / 4 * 64 := by omega
        go_wp2_with fail
        · obtain ⟨q1, hlog6, htx6, hwas6, hbw6, hlen6, henc6, hB6, hg6', hsl⟩ := HS6.out
          have hlow := q1.low
          have hne := q1.ne
          have hnl := q1.nl
          refine (fuse_any q1.d _ (by omega)).mono ?_
          rintro e w7 ⟨rfl, hd7, hk7⟩
          generalize max _ (0 : Int) = left7 at hd7
          generalize decide (_ ≤ (0 : Int)) = down7 at hd7
          have hl7 := q1.l.keeps hk7 (by omega)
          have hs7 := q1.s.keeps hk7 (by omega)
          have hB7 := hB6.keep hk7 (by unfold five at hg6'; omega)
          have hw7 : WasU w7 (five db nb mb5 sb lb) u13 s0 := hwas6.keep hk7 (fun i _ e => Or.inl e) (fun _ _ e => e)
          have hbw7 := hbw6.trans (hk7.below hbw6.size (fun i e => by omega))
          have HPut : Hid (Calls Tryz.prog 28 #[.pointer (some ⟨db, 0, none⟩), .pointer (some ⟨lb, 0, none⟩), .slice (some ⟨g, 0, none⟩) m m] w7 fun e w' => ∃ code mb' k' B' D' left' down', e = .returned (.int .i64 code) ∧ DevAt w' db nb mb' 256 256 B' k' D' left' down' ∧ k' ≤ k5 + m + 1 ∧ BlkAt w' g s ∧ SlB w' u13 s0 ∧ Below w.heap.size w w' ∧ (code = 0 ∨ code = 9) ∧ ∀ (K : List Bool) (L : List Int), L.Perm (intKeys D') → ∃ q R9 x9 y9 s9, LogOn 256 (crashB D' K L B' L.length) q R9 x9 y9 ∧ TxtOn 256 (crashB D' K L B' L.length) x9 y9 s9 ∧ ((s9 = s ∧ R9.length = 0) ∨ (code = 9 ∧ s9 = s0 ∧ R9.length = rc + 1))) := by
            show Calls _ _ _ _ _
            refine (put_cut hl7 hd7 hs7 hne hnl (by omega) hlog6 htx6 g m s m hsl hm40 (Nat.le_refl _) hB7 hg6').mono ?_
            rintro e w8 ⟨code, mb8, k8, B8, D8, left8, down8, rfl, hd8, hk8, hK8, hcode, hC⟩
            refine ⟨code, mb8, k8, B8, D8, left8, down8, rfl, hd8, hk8, hB7.keep hK8 hg6', (hw7.keep (P' := fun _ => False) hK8 (fun i _ e => e) (fun _ _ e => e.elim)).toSlB, hbw7.trans (hK8.below hbw7.size (fun i e => by unfold five at e; omega)), hcode, fun K L hp => ?_⟩
            rcases hC K L hp with ⟨q, z1, z2⟩ | ⟨z0, z1, z2⟩
            · exact ⟨q, [], _, _, s, z1, z2, Or.inl ⟨rfl, rfl⟩⟩
            · exact ⟨a, Q, _, _, s0, z1, z2, Or.inr ⟨z0, rfl, hlen6⟩⟩
          have HSl : Hid (s.length = m) := hsl
          clear HS6 q1 hlog6 htx6 hwas6 hbw6 hlen6 henc6 hB6 hsl hd7 hk7 hl7 hs7 hB7 hw7 hbw7
          go_wp2_with fail
          refine HPut.out.mono ?_
          rintro e w8 ⟨code, mb8, k8, B8, D8, left8, down8, rfl, hd8, hk8, hB8, hw8, hbw8, hcode, hC⟩
          clear HPut
          go_wp2_with fail
          refine (crash_l hd8 (by omega) kc (HA.out.2.below hbw8)).mono ?_
          rintro e w9 ⟨L9, db9, nb9, mb9, cap9, hLp9, _, rfl, y1, y2, y3, hd9, hb9⟩
          obtain ⟨q9, R9, x9, y9, s9, hlog9, htx9, hcase⟩ := hC K L9 hLp9
          have hB9 := hB8.keep (Keeps.of_below (S := fun _ => False) hb9) (fun e => e)
          have hw9 := hw8.below hb9
          have hbw9 := hbw8.trans (hb9.mono hbw8.size)
          clear hd8 hB8 hw8 hbw8 hC hLp9 hb9
          go_wp2_with fail
          refine (wopen_at hd9 hlog9).mono ?_
          rintro e w10 ⟨lb10, sb10, rv10, U10, rfl, _, _, _, hL10, _, hR10, _, hb10⟩
          obtain ⟨rp, rcp, rfl⟩ := hR10.shape
          have hK10 := Keeps.of_below (S := fun _ => False) hb10
          have HG : Hid (Calls Tryz.prog 27 #[.pointer (some ⟨db9, 0, none⟩), .pointer (some ⟨lb10, 0, none⟩)] w10 fun e w' => ∃ p c, e = .returned (.tuple #[.slice p s9.length c, .int .i64 0]) ∧ (convert 34 9 (.slice p s9.length c)).run Tryz.prog w' = .ok (.string ⟨s9.toArray⟩) w' ∧ (convert 34 9 (.slice (some ⟨g, 0, none⟩) m m)).run Tryz.prog w' = .ok (.string ⟨s.toArray⟩) w' ∧ (convert 34 9 u13).run Tryz.prog w' = .ok (.string ⟨s0.toArray⟩) w' ∧ Below w.heap.size w w') := by
            show Calls _ _ _ _ _
            have hB10 := hB9.keep hK10 (fun e => e)
            have hw10 := hw9.below hb10
            have hbw10 := hbw9.trans (hb10.mono hbw9.size)
            refine (get_txt hL10 (hd9.keeps hK10 (fun e => e) (fun e => e) (fun e => e)) hlog9 htx9).mono ?_
            rintro e w' ⟨p, c, rfl, hv, hb⟩
            exact ⟨p, c, rfl, conv_SlB hv, conv_bytes g 0 m m s w' HSl.out (hB10.keep (Keeps.of_below (S := fun _ => False) hb) (fun e => e)).range, conv_SlB (hw10.below hb), hbw10.trans (hb.mono hbw10.size)⟩
          clear hL10 hR10 hd9 hlog9 htx9 hB9 hw9 hbw9 hb10 hK10
          generalize R9.length = rl at hcase ⊢
          go_wp2_with fail
          refine HG.out.mono ?_
          rintro e w11 ⟨p11, c11, rfl, hcg, hcb, hcw, hbw11⟩
          clear HG
          rcases hcase with ⟨rfl, rfl⟩ | ⟨rfl, rfl, rfl⟩
          · rcases hcode with rfl | rfl
            all_goals
              go_wp2_with fail
              go_ret
              exact ⟨rfl, hbw11⟩
          · clear hcode
            by_cases hss : s9 = s
            · subst hss
              go_wp2_with fail
              go_ret
              exact ⟨rfl, hbw11⟩
            · have hne : (s9 == s) = false := by simpa using hss
              clear hss
              go_wp2_with fail
              go_ret
              exact ⟨rfl, hbw11⟩
        · have HP : Hid (Calls Tryz.prog 28 #[.pointer (some ⟨db, 0, none⟩), .pointer (some ⟨lb, 0, none⟩), .slice (some ⟨g, 0, none⟩) m m] w6 fun e w' => e = .returned (.int .i64 0) ∧ ∃ mb' k' B' q, k' ≤ 1 ∧ Seat w.heap.size w' db nb mb' 256 256 k' lb sb B' ∧ LogOn 256 B' q [] (otherA x) (m : Int) ∧ TxtOn 256 B' (otherA x) (m : Int) s ∧ BlkAt w' g s ∧ ¬ five db nb mb' sb lb g ∧ Below w.heap.size w w') := by
            show Calls _ _ _ _ _
            obtain ⟨q1, hlog6, htx6, hwas6, hbw6, hlen6, henc6, hB6, hg6', hsl⟩ := HS6.out
            refine (put_seat q1 hlog6 g m s m hsl hm40 (Nat.le_refl _) hB6 hg6' hbw6.size (by omega)).mono ?_
            rintro e w' ⟨rfl, mb', k', B', q, p1, p2, p3, p4, p5⟩
            have hB' := hB6.keep p5 hg6'
            exact ⟨rfl, mb', k', B', q, p1, p2, p3, Or.inr ⟨other_12 x, by rw [hsl], by rw [hsl]; exact hm40, by rw [hsl]; exact p4⟩, hB', five_turn hg6' (hB'.nomap p2.d.noRow), hbw6.trans (p5.below hbw6.size (fun i e => (q1.lt5 i e).1))⟩
          have HSl : Hid (s.length = m) := HS6.out.2.2.2.2.2.2.2.2.2
          clear HS6
          refine HP.out.mono ?_
          rintro e w7 ⟨rfl, mb7, k7, B7, q7, hk7, hS7, hlog7, htx7, hB7, hg7, hbw7⟩
          clear HP
          go_wp2_with fail
          refine (crash_l hS7.d (by omega) kc (HA.out.2.below hbw7)).mono ?_
          rintro e w8 ⟨L8, db8, nb8, mb8, cap8, hLp8, _, rfl, y1, y2, y3, hd8, hb8⟩
          rw [crash_nothing hLp8] at hd8
          have hS8 := hS7.keep hb8
          have hB8 := hB7.keep (Keeps.of_below (S := fun _ => False) hb8) (fun e => e)
          have hbw8 := hbw7.trans (hb8.mono hbw7.size)
          clear hS7 hB7 hbw7 hb8 hLp8
          go_wp2_with fail
          refine (wopen_at hd8 hlog7).mono ?_
          rintro e w9 ⟨lb9, sb9, rv9, U9, rfl, _, _, _, hL9, _, hR9, _, hb9⟩
          obtain ⟨rp, rcp, rfl⟩ := hR9.shape
          have HG : Hid (Calls Tryz.prog 27 #[.pointer (some ⟨db8, 0, none⟩), .pointer (some ⟨lb9, 0, none⟩)] w9 fun e w' => ∃ p c, e = .returned (.tuple #[.slice p s.length c, .int .i64 0]) ∧ (convert 34 9 (.slice p s.length c)).run Tryz.prog w' = .ok (.string ⟨s.toArray⟩) w' ∧ (convert 34 9 (.slice (some ⟨g, 0, none⟩) m m)).run Tryz.prog w' = .ok (.string ⟨s.toArray⟩) w' ∧ Hid (SuI w w' db nb lb sb (.slice (some ⟨g, 0, none⟩) m m) 0 (i + 1))) := by
            show Calls _ _ _ _ _
            have hK9 := Keeps.of_below (S := fun _ => False) hb9
            have hB9 := hB8.keep hK9 (fun e => e)
            have hbw9 := hbw8.trans (hb9.mono hbw8.size)
            refine (get_txt hL9 (hd8.keeps hK9 (fun e => e) (fun e => e) (fun e => e)) hlog7 htx7).mono ?_
            rintro e w' ⟨p, c, rfl, hv, hb⟩
            have hBw := hB9.keep (Keeps.of_below (S := fun _ => False) hb) (fun e => e)
            exact ⟨p, c, rfl, conv_SlB hv, conv_bytes g 0 m m s w' HSl.out hBw.range, mb7, k7, B7, q7, [], otherA x, (m : Int), s, rfl, by omega, (hS8.keep hb9).keep hb, hlog7, htx7, ⟨_, m, by rw [HSl.out], fun _ => ⟨g, rfl, hBw.lt, hg7, hBw.range⟩⟩, hbw9.trans (hb.mono hbw9.size), by omega, by rw [encR_nil]; exact Nat.zero_le _⟩
          clear hL9 hR9 hd8 hlog7 htx7 hB8 hbw8 hb9 hS8
          go_wp2_with fail
          refine HG.out.mono ?_
          rintro e w10 ⟨p10, c10, rfl, hcg, hcb, HN⟩
          clear HG
          go_wp2_with fail
          exact ⟨⟨i + 1, 0, by omega, rfl, by go_num, HN⟩, by simp [RowKit.intOf]; omega⟩
    · obtain ⟨mb, k, B, a, R, x, y, s0, hrc, hk, hS, hlog, htx, hwas, hbr, hri, hre⟩ := HI.out
      clear HI hS hlog htx hwas hrc
      rcases (show n1 ≤ i ∨ (i < n1 ∧ 8 ≤ i) by omega) with hex | ⟨hex1, hex2⟩
      all_goals
        go_wp2_with fail
        go_ret
        exact ⟨rfl, hbr⟩
end Go.Proofs.YtlmdeafmlommeaaGreatDoor
