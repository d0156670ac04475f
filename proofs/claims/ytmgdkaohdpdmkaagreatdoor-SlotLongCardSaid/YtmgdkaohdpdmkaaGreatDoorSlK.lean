import Derived.Test.YtmgdkaohdpdmkaaGreatDoorSaA
namespace Go.Proofs.YtmgdkaohdpdmkaaGreatDoor
open Go.RowKit

/-- The loop's: numbers W last on the device; 'was' reads them. -/
def LongI (w wr : World) (n cap : Nat) (sb db nb : Nat) (was : Value) (j : Nat) : Prop :=
  ∃ (W : List Int) (wa : Option Addr) (wc mb k : Nat) (B : List UInt8) (D : DataW Unit) (left : Int) (down : Bool), was = .slice wa W.length wc ∧ W.length ≤ 4 ∧ DevAt wr db nb mb n cap B k D left down ∧ k ≤ j + 2 ∧ Good B D left down W ∧ SlAt wr sb db false ∧ (sb ≠ db ∧ sb ≠ nb ∧ sb ≠ mb) ∧ (w.heap.size ≤ db ∧ w.heap.size ≤ nb ∧ w.heap.size ≤ mb ∧ w.heap.size ≤ sb) ∧ Below w.heap.size w wr ∧ IntsAt wr wr.heap.size wa W.length W

theorem one_new' (w : World) (v : Value) (t : TypeId) : ∀ j u, [v][j]? = some u → (w.alloc (.cells #[v] t)).cell? (Addr.add ⟨w.heap.size, 0, none⟩ j) = some u := by
  intro j u hu
  match j, hu with
  | 0, hu => rw [Addr.add_mid, cell_of_row _ _ (0 + 0) _ t (0, 0) (heap_alloc_last w _)]; simpa using hu
  | k + 1, hu => simp at hu
theorem own_ints {w : World} {base q : Nat} {v : Value} {X : List Int} (h : w.ownsRow base 2 1 v q (X.map (Value.int .i64))) (hX : X.length = q) (hf : AllFit X) : ∃ wa wc, v = .slice wa X.length wc ∧ IntsAt w w.heap.size wa X.length X ∧ ∀ b o, wa = some ⟨b, o, none⟩ → base ≤ b := by
  subst hX
  obtain ⟨hl, ⟨e, h0⟩ | ⟨g, cap, cur, e, hg, hblk, hnc, hcm, hcs, hcur⟩⟩ := h
  · exact ⟨none, 0, by rw [e, h0], ⟨rfl, hf, Or.inl h0⟩, fun b o e => by cases e⟩
  · refine ⟨some ⟨g, 0, none⟩, cap, e, ⟨rfl, hf, Or.inr ⟨g, 0, rfl, (Array.getElem?_eq_some_iff.1 hblk).1, ?_⟩⟩, fun b o e => by cases e; exact hg⟩
    intro j u hu
    rw [cell_of_row _ _ (0 + j) cur 2 (0, 0) hblk]
    rw [← hcur, List.getElem?_take] at hu
    split at hu
    · simpa using hu
    · cases hu
theorem LongI.bel {w wr : World} {n cap sb db nb : Nat} {was : Value} {j : Nat} (h : LongI w wr n cap sb db nb was j) : Below w.heap.size w wr := by
  obtain ⟨W, wa, wc, mb, k, B, D, left, down, _, _, _, _, _, _, _, _, hb, _⟩ := h
  exact hb

set_option maxRecDepth 100000 in
set_option maxHeartbeats 4000000 in
theorem slotLong_true (n0 : Int) (a1 : Option Addr) (n1 c1 : Nat) (A1 : List Int) (w : World) (h1 : IntsAt w w.heap.size a1 n1 A1) (ka : Option Addr) (kl kc : Nat) (K : List Bool) (hK : KeepB w w.heap.size ka kl K) (hg : w.cell? ⟨0, 0, none⟩ = some errType) :
    Calls Tryz.prog 6 #[.int .i64 n0, .slice a1 n1 c1, .slice ka kl kc] w fun e w' => e = .returned (.bool true) ∧ Below w.heap.size w w' := by
  have hr0 := rem_any n0 60 (by omega)
  have hr1 : 0 ≤ (n0.tmod 60 + 60).tmod 60 := Int.tmod_nonneg 60 (by omega)
  have hr2 := Int.tmod_lt_of_pos (n0.tmod 60 + 60) (show (0 : Int) < 60 by omega)
  go_enter Tryz.func6, Tryz.ntmps6
  go_wp2_with fail
  refine (begun4_true _ hg).mono ?_
  rintro e w1 ⟨rfl, hb1⟩
  clear hg
  go_wp2_with fail
  obtain ⟨nn, hnn, hnn60⟩ : ∃ nn : Nat, (n0.tmod 60 + 60) % 60 = (nn : Int) ∧ nn < 60 := ⟨((n0.tmod 60 + 60) % 60).toNat, by omega, by omega⟩
  rw [hnn]
  clear hr0 hr1 hr2 hnn
  have hsq := hb1.size
  refine (new_at 64 w1 (by omega) (by omega)).mono ?_
  rintro e w2 ⟨db, dn, mb, rfl, l1, l2, l3, hd2, hb2⟩
  have hs2 := hb2.size
  have hbw2 : Below w.heap.size w w2 := hb1.trans (hb2.mono hsq)
  have hBlen := hd2.len
  have hfit0 : AllFit [] := fun x hx => by simp at hx
  have km := make_at hd2 (by omega) none 0 [] (by simp) ⟨rfl, hfit0, Or.inl rfl⟩ (fun b o e hn => absurd rfl hn)
  simp only [List.length_nil] at km
  clear hb1 hb2
  go_wp2_with fail
  refine km.mono ?_
  rintro e w3 ⟨code, pv, mb3, k3, B3, D3, left3, down3, rfl, hd3, hk3, hm3, hK3, hM, _, hpv⟩
  obtain ⟨rfl, hG3⟩ := make_good hBlen (by omega) (by simp) hfit0 hM
  obtain ⟨sb, rfl, hsb, hSl3, hne3⟩ := hpv rfl
  have hs3 := hK3.size
  have hbw3 : Below w.heap.size w w3 := hbw2.trans (hK3.below (by omega) (fun i e => by omega))
  clear km hM hpv
  have hlow : w.heap.size ≤ db ∧ w.heap.size ≤ dn ∧ w.heap.size ≤ mb3 ∧ w.heap.size ≤ sb := by omega
  have hI0 : LongI w w3 64 64 sb db dn (.slice none 0 0) 0 := ⟨[], none, 0, mb3, k3, B3, D3, left3, down3, rfl, by simp, hd3, hk3, hG3, hSl3, hne3, hlow, hbw3, ⟨rfl, hfit0, Or.inl rfl⟩⟩
  have HA : Hid (IntsAt w w.heap.size a1 n1 A1 ∧ KeepB w w.heap.size ka kl K) := ⟨h1, hK⟩
  clear hd3 hG3 hSl3 hK3 hd2 hBlen h1 hK hbw2 hbw3 hfit0
  obtain ⟨i0, hi0, hz0, hz1, hz2⟩ := info_parts info2
  go_wp2_with fail
  go_loopw [11, 12] (fun s11 s12 wr => ∃ j : Nat, j ≤ nn ∧ s12 = .int .i64 j ∧ LongI w wr 64 64 sb db dn s11 j) (fun _ s12 _ => nn - (RowKit.intOf s12).toNat)
  case atStart => exact ⟨0, Nat.zero_le _, rfl, hI0⟩
  case round => as_aux_lemma =>
    obtain ⟨j, hj, rfl, hI⟩ := hrel
    clear hI0
    by_cases hlt : j < nn
    · obtain ⟨wO, hwO⟩ : ∃ x, x = wr := ⟨wr, rfl⟩
      subst hwO
      have HI : Hid (∃ v, LongI w wO 64 64 sb db dn v j) := ⟨_, hI⟩
      have hbO : Below w.heap.size w wO := LongI.bel hI
      have hsO := hbO.size
      clear hI
      go_wp2_with fail
      go_loopw [11, 13] (fun s11 s13 wq => ∃ (q : Nat) (X : List Int), q ≤ 4 ∧ s13 = .int .i64 q ∧ X.length = q ∧ AllFit X ∧ wq.ownsRow wO.heap.size 2 1 s11 q (X.map (Value.int .i64)) ∧ Below wO.heap.size wO wq) (fun _ s13 _ => 4 - (RowKit.intOf s13).toNat)
      case atStart => exact ⟨0, [], by omega, rfl, rfl, fun x hx => by simp at hx, World.ownsRow_nil _ _ _ _, Below.refl _ _⟩
      case round => as_aux_lemma =>
        obtain ⟨q, X, hq, rfl, hX, hXf, hown, hbq⟩ := hrel
        by_cases hcond : (q : Int) < (j : Int) % 5 ∧ (q : Int) < (n1 : Int)
        · obtain ⟨hc5, hcn⟩ := hcond
          obtain ⟨p, hp, hpn⟩ : ∃ p : Nat, ((j : Int) + (q : Int)) % (n1 : Int) = (p : Int) ∧ p < n1 := ⟨(j + q) % n1, by push_cast; rfl, Nat.mod_lt _ (by omega)⟩
          have hbwr : Below w.heap.size w wr := hbO.trans (hbq.mono hsO)
          obtain ⟨b1, o1, rfl, hcell⟩ := (HA.out.1.below hbwr).cell p hpn
          have hxf : -9223372036854775808 ≤ A1.getD p 0 ∧ A1.getD p 0 ≤ 9223372036854775807 := by
            have := HA.out.1.len
            simp only [List.getD, List.getElem?_eq_getElem (show p < A1.length by omega), Option.getD_some]
            exact HA.out.1.fit _ (List.getElem_mem _)
          generalize A1.getD p 0 = x at hcell hxf
          have hsq := hbq.size
          clear hbwr
          have hq2 : q + 1 ≤ maxLen := by unfold maxLen; omega
          have hq3 : (q + 1) * 8 ≤ 140737488355328 := by omega
          have hq4 : wO.heap.size ≤ (wr.alloc (.cells #[.int .i64 x] 2)).heap.size := by simp; omega
          go_wp2_with (at_builtin; refine wpList_append_own _ rfl _ _ 31 rfl wO.heap.size 2 i0 (.int .i64 0) 1 8 Tryz.underlying31 hi0 hz0 hz1 hz2 rfl (by decide) _ q _ rfl (hown.alloc _) ⟨wr.heap.size, 0, none⟩ 1 1 [.int .i64 x] rfl rfl (one_new' _ _ _) (fun u hu => by cases hu with | head => rfl | tail _ h => cases h) hq2 hq3 hq4 ?_)
          intro v1 w5 hown1 hg1 hnil1
          have hb15 : Below wO.heap.size wO w5 := (hbq.alloc hsq _).grown hg1 (by simp; omega) (fun k e => (hown.lt k e).1)
          have HR : Hid (w5.ownsRow wO.heap.size 2 1 v1 (q + 1) ((X ++ [x]).map (Value.int .i64))) := by
            show w5.ownsRow wO.heap.size 2 1 v1 (q + 1) ((X ++ [x]).map (Value.int .i64))
            rw [List.map_append]; exact hown1
          clear hown1 hg1 hnil1 hown hbq hq2 hq3 hq4
          go_wp2_with fail
          go_roundw
          case rel => exact ⟨q + 1, X ++ [x], by omega, by go_num, by rw [List.length_append, hX]; rfl, fun y hy => by rcases List.mem_append.1 hy with h | h; exact hXf y h; rw [List.mem_singleton] at h; subst h; exact hxf, HR.out, hb15⟩
          case measure => simp [RowKit.intOf]; omega
        · subst hX
          obtain ⟨wa, wc, rfl, hJ, hfr⟩ := own_ints hown rfl hXf
          obtain ⟨v0, W, wa0, wc0, mb, k, B, D, left, down, _, _, hd, hk, hG, hSl, hne, hlow, _, _⟩ := HI.out
          have hd' := hd.keeps (Keeps.of_below (S := fun _ => False) hbq) (fun e => e) (fun e => e) (fun e => e)
          have hSl' := hSl.keeps (Keeps.of_below (S := fun _ => False) hbq) (fun e => e)
          have hdl := hd.dlt
          have hnl := hd.nlt
          have hml := hd.mlt
          have hsl := hSl.lt
          have hB := hd'.len
          have el := hG.l
          have ed := hG.dn
          subst el ed
          have hbwr : Below w.heap.size w wr := hbO.trans (hbq.mono hsO)
          have hsr := hbq.size
          have hst := set_at hd' hSl' hne (by omega) wa wc X hq hJ
          have HST : Hid (Calls Tryz.prog 12 #[.pointer (some ⟨sb, 0, none⟩), .slice wa X.length wc] wr fun e w7 => e = .returned (.int .i64 0) ∧ LongI w w7 64 64 sb db dn (.slice wa X.length wc) (j + 1)) := by
            refine hst.mono ?_
            rintro e w7 ⟨code7, mb7, k7, B7, D7, left7, down7, rfl, hd7, hk7, hm7, hK7, hO7, hSl7⟩
            obtain ⟨rfl, hG7⟩ := save_good hB (by omega) hq hXf hO7
            have hs7 := hK7.size
            obtain ⟨o1, o2, o3, o4⟩ := hlow
            obtain ⟨e1, e2, e3⟩ := hne
            refine ⟨rfl, X, wa, wc, mb7, k7, B7, D7, left7, down7, rfl, hq, hd7, by omega, hG7, hSl7, ⟨e1, e2, by omega⟩, ⟨o1, o2, by omega, o4⟩, hbwr.trans (hK7.below hbwr.size (fun i e => by omega)), ?_⟩
            exact (hJ.keep (Nat.le_refl _) hK7 (fun b o e _ x => by have := hfr b o e; omega)).up hs7
          clear hd hSl HI hown hbq hbO hst hd' hSl' hJ hfr hG hB hbwr
          go_wp2_with fail
          all_goals refine HST.out.mono ?_
          all_goals rintro e w7 ⟨rfl, hI7⟩
          all_goals have HI7 : Hid (LongI w w7 64 64 sb db dn (.slice wa X.length wc) (j + 1)) := hI7
          all_goals clear hI7 HST
          all_goals go_wp2_with fail
          all_goals exact ⟨⟨j + 1, by omega, by go_num, HI7.out⟩, by simp [RowKit.intOf]; omega⟩
    · obtain ⟨W, wa, wc, mb, k, B, D, left, down, rfl, hW4, hd, hk, hG, hSl, hne, hlow, hbr, hJ⟩ := hI
      have hKr := HA.out.2.below hbr
      have hsr := hbr.size
      go_wp2_with fail
      refine (crash_l hd (by omega) kc hKr).mono ?_
      rintro e w4 ⟨L4, db4, nb4, mb4, cap4, hLp4, _, rfl, y1, y2, y3, hd4, hb4⟩
      obtain ⟨eB4, hG4⟩ := crash_good hG (K := K) hLp4
      rw [eB4] at hd4
      have hs4 := hb4.size
      have hbw4 : Below w.heap.size w w4 := hbr.trans (hb4.mono hsr)
      have hJ4 := hJ.below hb4
      clear hKr hd hG hSl eB4 hLp4 hbr hb4 hJ
      go_wp2_with fail
      refine (open_at hd4).mono ?_
      rintro e w5 ⟨hb5, _, hS5⟩
      obtain ⟨at4, t4, hnew4⟩ := hG4.new
      obtain ⟨sb5, ka5, kc5, rfl, q1, hSl5, hJ5, hf5⟩ := hS5 t4 W (by rw [hnew4])
      have hs5 := hb5.size
      have hbw5 : Below w.heap.size w w5 := hbw4.trans (hb5.mono (by omega))
      have R1 := (hJ4.below (hb5.mono (by omega))).up (show wr.heap.size ≤ w5.heap.size by omega)
      have hd5 := hd4.keeps (Keeps.of_below (S := fun _ => False) hb5) (fun e => e) (fun e => e) (fun e => e)
      have dl4 := hd4.dlt
      have dn4 := hd4.nlt
      have dm4 := hd4.mlt
      clear hJ4 hS5 hd4 hb5 hbw4 hnew4 hG4
      go_wp2_with fail
      refine (ints_at (L := w5.heap.size) ka5 W.length kc5 W hJ5 wa W.length wc W R1 (by omega)).mono ?_
      rintro e w6 ⟨rfl, hsm6⟩
      rw [decide_eq_true rfl]
      have hk6 := hsm6.keeps (fun _ => False)
      have hz6 : w6.heap.size = w5.heap.size := by rw [hsm6.heap]
      have hbw6 := hbw5.trans (hk6.below (by omega) (fun _ e => e.elim))
      have hkA : Keeps (fun _ => False) w6 (w6.alloc (.cells #[.int .i64 5] 2)) := (Keeps.refl _ w6).alloc _
      have hd6 := (hd5.keeps hk6 (fun e => e) (fun e => e) (fun e => e)).keeps hkA (fun e => e) (fun e => e) (fun e => e)
      have hSl6 := (hSl5.keeps hk6 (fun e => e)).keeps hkA (fun e => e)
      have hv6 := heap_alloc_last w6 (.cells #[.int .i64 5] 2)
      have hbwA : Below w.heap.size w (w6.alloc (.cells #[.int .i64 5] 2)) := hbw6.alloc hbw6.size _
      have hzA : (w6.alloc (.cells #[.int .i64 5] 2)).heap.size = w6.heap.size + 1 := by simp
      clear hd5 hSl5 hJ5 hf5 hsm6 hk6 hbw5 R1 hkA hbw6
      go_wp2_with fail
      generalize w6.alloc (.cells #[.int .i64 5] 2) = wA at hd6 hSl6 hv6 hbwA hzA ⊢
      have hf1 : AllFit [5] := fun x hx => by simp at hx; subst hx; omega
      have h5 : IntsAt wA wA.heap.size (some ⟨w6.heap.size, 0, none⟩) [(5 : Int)].length [5] := ⟨rfl, hf1, Or.inr ⟨w6.heap.size, 0, rfl, by omega, range_of_row hv6 _ rfl⟩⟩
      have hB6 := hd6.len
      have ks := set_at hd6 hSl6 (by omega) (by omega) (some ⟨w6.heap.size, 0, none⟩) 1 [5] (by simp) h5
      rw [show [(5 : Int)].length = 1 from rfl, hz6] at ks
      refine ks.mono ?_
      rintro e w7 ⟨code7, mb7, k7, B7, D7, left7, down7, rfl, hd7, hk7, hm7, hK7, hO7, hSl7⟩
      obtain ⟨rfl, hG7⟩ := save_good hB6 (by omega) (by simp) hf1 hO7
      have hbw7 := hbwA.trans (hK7.below (by omega) (fun i e => by omega))
      clear ks hd7 hO7 hSl7 hK7 hd6 hSl6 hG7
      go_wp2_with fail
      go_ret
      exact ⟨rfl, hbw7⟩
end Go.Proofs.YtmgdkaohdpdmkaaGreatDoor
