import Derived.Test.YtmdjjnjhjojimabDoorAgainA
import Derived.Deep.QuietTactic
import Derived.BigQuiet
import Derived.Deep.DeepCutAuto
import Derived.Deep.RegionHeld3
namespace Go.Proofs.YtmdjjnjhjojimabDoor
open Go.RowKit Go.Maps

theorem bytes_num (v : Nat) (hv : v < 256) (w : World) :
    Calls Tryd.prog 29 #[.int .u8 (v : Int)] w fun e w' => ∃ g, e = .returned (.slice (some ⟨g, 0, none⟩) 64 64) ∧ w.heap.size ≤ g ∧ g < w'.heap.size ∧ w'.rangeAt g 0 (bytesV (List.replicate 64 (UInt8.ofNat v))) ∧ Below w.heap.size w w' := by
  have h := bytes_at (UInt8.ofNat v) w
  rw [show ((UInt8.ofNat v).toNat : Int) = (v : Int) from by rw [UInt8.toNat_ofNat']; omega] at h
  exact h.mono (fun e w' ⟨g, h1, h2, h3, h4, _, h6⟩ => ⟨g, h1, h2, h3, h4, h6⟩)
theorem bytes_int (n : Nat) (hn : n < 256) (v : Int) (hv : v = n) (w : World) :
    Calls Tryd.prog 29 #[.int .u8 v] w fun e w' => ∃ g, e = .returned (.slice (some ⟨g, 0, none⟩) 64 64) ∧ w.heap.size ≤ g ∧ g < w'.heap.size ∧ w'.rangeAt g 0 (bytesV (List.replicate 64 (UInt8.ofNat n))) ∧ Below w.heap.size w w' := by
  subst hv
  exact bytes_num n hn w
theorem write_tame_int {w : World} {db nb mb cap : Nat} {B : List UInt8} {k : Nat} {D : DataW Unit} (h : DevAt w db nb mb 64 cap B k D 0 false) (ht : Tame B D) (i : Nat) (hi : i < 64) (v : Int) (hv : v = i) (s : List UInt8) (hs : s.length = 64) (hne : s ≠ R200)
    (sb so sc : Nat) (hsrc : w.rangeAt sb so (bytesV s)) (hsm : sb ≠ mb) (hkm : k ≤ 1000000) :
    Calls Tryd.prog 14 #[.pointer (some ⟨db, 0, none⟩), .int .i64 v, .slice (some ⟨sb, so, none⟩) 64 sc] w fun e w' => ∃ k' B' D', e = .returned (.int .i64 0) ∧ k' ≤ k + 1 ∧
      DevAt w' db nb mb 64 cap B' k' D' 0 false ∧ Tame B' D' ∧ Keeps (fun j => j = db ∨ j = nb ∨ j = mb) w w' := by
  subst hv
  exact write_tame h ht i hi s hs hne sb so sc hsrc hsm hkm
theorem wrap_id (y : Int) (h0 : -9223372036854775808 ≤ y) (h1 : y ≤ 9223372036854775807) : IntKind.i64.wrap y = y := by
  simp [IntKind.wrap, IntKind.bits, IntKind.signed]
  omega
theorem idx64 (x : Int) : ∃ q : Nat, q < 64 ∧ (IntKind.i64.wrap (x.tmod 64 + 64)).tmod 64 = (q : Int) := by
  have h := rem_any x 64 (by omega)
  rw [wrap_id _ (by omega) (by omega)]
  have h2 := rem_pos x 64 (by omega)
  exact ⟨((x.tmod 64 + 64).tmod 64).toNat, by omega, by omega⟩
theorem below_step {a W w' : World} (h : Below a.heap.size a W) (hb : Below W.heap.size W w') : Below a.heap.size a w' := h.trans (hb.mono h.size)
theorem below_drew {a W : World} (h : Below a.heap.size a W) : Below a.heap.size a W.drew := ⟨h.os, h.tape, h.output, h.size, h.block⟩
theorem keeps_drewN (S : Nat → Prop) (w : World) (n : Nat) : Keeps S w (w.drewN n) := ⟨rfl, rfl, rfl, Nat.le_refl _, fun _ _ _ => rfl⟩
theorem rep_ne (v : Nat) (hv : v ≤ 100) : List.replicate 64 (UInt8.ofNat v) ≠ R200 := by
  intro e
  have h := congrArg (fun l => (l.headD 0).toNat) e
  have h2 : (UInt8.ofNat v).toNat = 200 := h
  rw [UInt8.toNat_ofNat'] at h2
  omega

set_option maxRecDepth 100000 in
set_option maxHeartbeats 1000000 in
theorem devAgain_true (a1 : Option Addr) (n1 c1 : Nat) (A : List Int) (ka : Option Addr) (kl kc : Nat) (w : World) (hA : IntsAt w w.heap.size a1 n1 A) (hv : KeepAt w (.slice ka kl kc)) (hg : w.cell? ⟨0, 0, none⟩ = some errType) :
    Calls Tryd.prog 6 #[.slice a1 n1 c1, .slice ka kl kc] w fun e w' => e = .returned (.bool true) ∧ Below w.heap.size w w' := by
  go_enter Tryd.func6, Tryd.ntmps6
  go_wp2_with fail
  refine (begun_true _ hg).mono ?_
  rintro e w1 ⟨rfl, hb1⟩
  clear hg
  go_wp2_with fail
  refine (new_at 64 w1 (by omega) (by omega)).mono ?_
  rintro e w2 ⟨db, nb, mb, rfl, l1, l2, l3, hd2, hb2⟩
  have hb : Below w.heap.size w w2 := hb1.trans (hb2.mono hb1.size)
  have hbs1 := hb1.size
  have HA0 : Hid (IntsAt w w.heap.size a1 n1 A) := hA
  have HV0 : Hid (KeepAt w (.slice ka kl kc)) := hv
  clear hb1 hb2 hA hv
  go_wp2_with fail
  go_loopw [7] (fun s7 wr => ∃ (j mb' k : Nat) (B : List UInt8) (D : DataW Unit), j ≤ 20 ∧ s7 = .int .i64 j ∧ DevAt wr db nb mb' 64 64 B k D 0 false ∧ k ≤ j ∧ Tame B D ∧ w.heap.size ≤ mb' ∧ Below w.heap.size w wr) (fun s7 _ => 20 - (RowKit.intOf s7).toNat)
  case atStart => exact ⟨0, mb, 0, _, _, by omega, rfl, hd2, Nat.le_refl _, tame_new, by omega, hb⟩
  case round =>
    obtain ⟨j, mb', k, B, D, hj, rfl, hd, hk, ht, hmb, hbr⟩ := hrel
    have hbrs := hbr.size
    clear hd2 hb
    by_cases hlt : j < 20 ∧ j < n1
    · obtain ⟨hlt1, hlt2⟩ := hlt
      have hAr := HA0.out.below hbr
      obtain ⟨b1, o1, rfl, hcell⟩ := hAr.cell j hlt2
      have hb1l : b1 < w.heap.size := by
        rcases hAr.at_ with h9 | ⟨b, o, e, h9, _⟩
        · omega
        · cases e; exact h9
      clear hAr
      generalize A.getD j 0 = x at hcell
      obtain ⟨q, hq, hqe⟩ := idx64 x
      have HQ : Hid ((IntKind.i64.wrap (x.tmod 64 + 64)).tmod 64 = (q : Int)) := hqe
      clear hqe
      have hN2 := rem_any x 5 (by omega)
      have HW : Hid (IntKind.u8.wrap (IntKind.i64.wrap ((j : Int) + 1)) = ((j + 1 : Nat) : Int)) := by
        show _ = _
        simp [IntKind.wrap, IntKind.bits, IntKind.signed]
        omega
      go_wp2_with fail
      go_cut [] (fun wx => ∃ (k' : Nat) (B' : List UInt8) (D' : DataW Unit), DevAt wx db nb mb' 64 64 B' k' D' 0 false ∧ k' ≤ k + 1 ∧ Tame B' D' ∧ wx.cell? ⟨b1, o1 + j, none⟩ = some (.int .i64 x) ∧ Below w.heap.size w wx)
      case first =>
        go_region_held (fun w' => w'.cell? ⟨b1, o1 + j, none⟩ = some (.int .i64 x)) (first | assumption | exact hcell)
          (first
            | (go_at_call 29; refine (bytes_int (j + 1) (by omega) _ (by first | exact HW.out | omega) _).mono ?_; rintro e w5 ⟨g5, rfl, h51, h52, hr5, hb5⟩; have hcell5 := (hb5.cell (p := ⟨b1, o1 + j, none⟩) (World.block_lt_of_cell? _ _ hcell)).trans hcell)
            | (go_at_call 14
               have hd5 := hd.drew.keeps (Keeps.of_below (S := fun _ => False) hb5) (fun e => e) (fun e => e) (fun e => e)
               refine (write_tame_int hd5 ht q hq _ HQ.out (List.replicate 64 (UInt8.ofNat (j + 1))) (List.length_replicate ..) (rep_ne (j + 1) (by omega)) g5 0 64 hr5 (by have := hd.drew.mlt; omega) (by omega)).mono ?_
               rintro e w6 ⟨k6, B6, D6, rfl, hk6, hd6, ht6, hkp6⟩
               have hcell6 : w6.cell? ⟨b1, o1 + j, none⟩ = some (.int .i64 x) := (hkp6.cell (p := ⟨b1, o1 + j, none⟩) (World.block_lt_of_cell? _ _ hcell5) (by show ¬ (b1 = db ∨ b1 = nb ∨ b1 = mb'); omega)).trans hcell5))
        all_goals
          go_wp2_with fail
          go_meet
          have hb5' : Below w.heap.size w w5 := hbr.trans ((show Below w.heap.size wr wr.drew from ⟨rfl, rfl, rfl, Nat.le_refl _, fun _ _ => rfl⟩).trans (hb5.mono hbrs))
          exact ⟨k6, B6, D6, hd6, hk6, ht6, hcell6, hb5'.trans (hkp6.below hb5'.size (fun i e => by omega))⟩
      case rest =>
      obtain ⟨k2, B2, D2, hd2, hk2, ht2, hcell2, hb2⟩ := hcut
      clear hd ht hcell
      by_cases h5 : x.tmod 5 = 0
      · have h5' : (x.tmod 5 == 0) = true := by simpa using h5
        clear h5
        go_wp2_with fail
        refine (flush_any hd2).mono ?_
        rintro e w3 ⟨rfl, hd3, hk3⟩
        have hd3 : DevAt w3 db nb wc.heap.size 64 64 B2 0 (.map []) 0 false := hd3
        have hb3 : Below w.heap.size w w3 := hb2.trans (hk3.below hb2.size (fun i e => by omega))
        have hbs2 := hb2.size
        go_wp2_with fail
        go_roundw
        case rel => exact ⟨j + 1, wc.heap.size, 0, B2, _, by omega, by go_num, hd3, by omega, ⟨ht2.1, fun x => by rw [wasOf_none]; exact zsec_ne⟩, hbs2, hb3⟩
        case measure => simp [RowKit.intOf]; omega
      · have h5' : (x.tmod 5 == 0) = false := by simpa using h5
        clear h5
        go_wp2_with fail
        go_roundw
        case rel => exact ⟨j + 1, mb', k2, B2, D2, by omega, by go_num, hd2, by omega, ht2, hmb, hb2⟩
        case measure => simp [RowKit.intOf]; omega
    · have hk20 : k ≤ 20 := by omega
      have HD : Hid (DevAt wr db nb mb' 64 64 B k D 0 false) := hd
      clear hd hk
      have hdl := HD.out.dlt
      have hnl := HD.out.nlt
      have hml := HD.out.mlt
      by_cases hn : j < n1
      all_goals
        try have hj20 : ¬ j < 20 := by omega
        clear hlt
        go_wp2_with fail
        refine (crash_tame HD.out ht (by omega) _ (HV0.out.below hbr)).mono ?_
        rintro e w3 ⟨Ba, da, na, ma, ca, rfl, m1, m2, m3, ha3, hta, hb3⟩
        have hd3 := HD.out.keeps (Keeps.of_below (S := fun _ => False) hb3) (fun e => e) (fun e => e) (fun e => e)
        have hbw3 : Below w.heap.size w w3 := hbr.trans (hb3.mono hbrs)
        have hs3 := hb3.size
        have ha3l := ha3.dlt
        have ha3m := ha3.nlt
        have ha3n := ha3.mlt
        clear hb3 hbr HD
        go_wp2_with fail
        refine (crash_tame hd3 ht (by omega) _ (HV0.out.below hbw3)).mono ?_
        rintro e w4 ⟨Bb, d2, n2, m2', cb, rfl, q1, q2, q3, hx4, _, hb4⟩
        have ha4 := ha3.keeps (Keeps.of_below (S := fun _ => False) hb4) (fun e => e) (fun e => e) (fun e => e)
        have hbw4 : Below w.heap.size w w4 := hbw3.trans (hb4.mono hbw3.size)
        have hs4 := hb4.size
        have hx4l := hx4.dlt
        have hx4m := hx4.nlt
        have hx4n := hx4.mlt
        clear hb4 hbw3 ha3 hd3
        go_wp2_with fail
        refine (crash_same ha4 (by omega) _ (Or.inl ⟨none, 0, rfl⟩)).mono ?_
        rintro e w5 ⟨dc, nc, mc, cc, rfl, s1, s2, s3, hc5, hb5⟩
        have ha5 := ha4.keeps (Keeps.of_below (S := fun _ => False) hb5) (fun e => e) (fun e => e) (fun e => e)
        have hx5 := hx4.keeps (Keeps.of_below (S := fun _ => False) hb5) (fun e => e) (fun e => e) (fun e => e)
        have hbw5 : Below w.heap.size w w5 := hbw4.trans (hb5.mono hbw4.size)
        have hs5 := hb5.size
        have hc5l := hc5.dlt
        have hc5m := hc5.nlt
        have hc5n := hc5.mlt
        clear hb5 hbw4 ha4 hx4
        go_wp2_with fail
        refine (bytes_int 200 (by omega) _ rfl _).mono ?_
        rintro e w6 ⟨g6, rfl, t1, t2, hr6, hb6⟩
        have ha6 := ha5.keeps (Keeps.of_below (S := fun _ => False) hb6) (fun e => e) (fun e => e) (fun e => e)
        have hx6 := hx5.keeps (Keeps.of_below (S := fun _ => False) hb6) (fun e => e) (fun e => e) (fun e => e)
        have hc6 := hc5.keeps (Keeps.of_below (S := fun _ => False) hb6) (fun e => e) (fun e => e) (fun e => e)
        have hbw6 : Below w.heap.size w w6 := hbw5.trans (hb6.mono hbw5.size)
        clear hb6 hbw5 ha5 hx5 hc5
        go_wp2_with fail
        refine (write_ok hx6 7 (by omega) _ (List.length_replicate ..) g6 0 64 hr6 (by omega) (by decide)).mono ?_
        rintro e w7 ⟨k7, D7, rfl, _, _, hk7⟩
        have ha7 := ha6.keeps hk7 (by omega) (by omega) (by omega)
        have hc7 := hc6.keeps hk7 (by omega) (by omega) (by omega)
        have hbw7 : Below w.heap.size w w7 := hbw6.trans (hk7.below hbw6.size (fun i e => by omega))
        clear hbw6 ha6 hx6 hc6 hk7 hr6
        clear hdl hnl hml hs3 ha3l ha3m ha3n hs4 hx4l hx4m hx4n hs5 hc5l hc5m hc5n t1 t2 m1 m2 m3 q1 q2 q3 s1 s2 s3
        go_wp2_with fail
        go_loopw [11] (fun s11 wr => ∃ (i : Nat), i ≤ 64 ∧ s11 = .int .i64 i ∧ DevAt wr da na ma 64 ca Ba 0 (.map []) 0 false ∧ DevAt wr dc nc mc 64 cc Ba 0 (.map []) 0 false ∧ Below w.heap.size w wr) (fun s11 _ => 64 - (RowKit.intOf s11).toNat)
        case atStart => exact ⟨0, by omega, rfl, ha7, hc7, hbw7⟩
        case round =>
          obtain ⟨i, hi, rfl, har, hcr, hbr⟩ := hrel
          clear ha7 hc7 hbw7
          by_cases hi64 : i < 64
          · go_wp2_with fail
            refine (read_at har i hi64).mono ?_
            rintro e w8 ⟨gx, cx, rfl, x1, x2, hrx, hb8⟩
            have ha8 := har.keeps (Keeps.of_below (S := fun _ => False) hb8) (fun e => e) (fun e => e) (fun e => e)
            have hc8 := hcr.keeps (Keeps.of_below (S := fun _ => False) hb8) (fun e => e) (fun e => e) (fun e => e)
            have hbw8 : Below w.heap.size w w8 := hbr.trans (hb8.mono hbr.size)
            clear har hcr hbr hb8
            go_wp2_with fail
            refine (read_at hc8 i hi64).mono ?_
            rintro e w9 ⟨gy, cy, rfl, y1, y2, hry, hb9⟩
            have ha9 := ha8.keeps (Keeps.of_below (S := fun _ => False) hb9) (fun e => e) (fun e => e) (fun e => e)
            have hc9 := hc8.keeps (Keeps.of_below (S := fun _ => False) hb9) (fun e => e) (fun e => e) (fun e => e)
            have hbw9 : Below w.heap.size w w9 := hbw8.trans (hb9.mono hbw8.size)
            have hln : (sec Ba i).length = 64 := sec_length ha9.len hi64
            have hne := hta i hi64
            generalize sec Ba i = X at hrx hry hln hne
            have hcx : ∀ W, Below w9.heap.size w9 W → (convert 25 9 (.slice (some ⟨gx, 0, none⟩) 64 cx)).run Tryd.prog W = .ok (.string ⟨X.toArray⟩) W := fun W hW => conv_bytes gx 0 64 cx X W hln (fun j v hv => (hW.cell (p := ⟨gx, 0 + j, none⟩) (by have := hb9.size; show gx < _; omega)).trans ((hb9.cell (p := ⟨gx, 0 + j, none⟩) x2).trans (hrx j v hv)))
            have hcy : ∀ W, Below w9.heap.size w9 W → (convert 25 9 (.slice (some ⟨gy, 0, none⟩) 64 cy)).run Tryd.prog W = .ok (.string ⟨X.toArray⟩) W := fun W hW => conv_bytes gy 0 64 cy X W hln (fun j v hv => (hW.cell (p := ⟨gy, 0 + j, none⟩) y2).trans (hry j v hv))
            clear ha8 hc8 hbw8 hb9 hrx hry x1 x2 y1 y2 hln
            by_cases h7 : i = 7
            · subst h7
              have HR : Hid (X ≠ R200) := hne
              have hXR : (X == R200) = false := by simpa using hne
              clear hne
              go_wp2_with fail
              refine wp_region_noPanic ?_
              go_region_held (fun w' => Below w9.heap.size w9 w') (first | assumption | exact Below.refl _ _ | exact below_drew (Below.refl _ _) | exact below_drew ‹_› | exact below_step ‹_› ‹_›)
                (first
                  | (go_at_call 29; refine (bytes_int 200 (by omega) _ rfl _).mono ?_; rintro e w10 ⟨g10, rfl, z1, z2, hr10, hb10⟩; have hcv10 := conv_bytes g10 0 64 64 R200 w10 rfl hr10))
              refine NoPanic.normal ?_
              have hb910 : Below w9.heap.size w9 w10 := by assumption
              have ha10 := ha9.keeps (Keeps.of_below (S := fun _ => False) hb910) (fun e => e) (fun e => e) (fun e => e)
              have hc10 := hc9.keeps (Keeps.of_below (S := fun _ => False) hb910) (fun e => e) (fun e => e) (fun e => e)
              have hbw10 : Below w.heap.size w w10 := hbw9.trans (hb910.mono hbw9.size)
              clear hcv10 hcx hcy
              go_wp2_with fail
              go_roundw
              case rel => exact ⟨8, by omega, rfl, ha10, hc10, hbw10⟩
              case measure => simp [RowKit.intOf]
            · have h7' : ((i : Int) == 7) = false := by simp; omega
              clear hne
              have hcx' : ∀ n, (convert 25 9 (.slice (some ⟨gx, 0, none⟩) 64 cx)).run Tryd.prog (w9.drewN n) = .ok (.string ⟨X.toArray⟩) (w9.drewN n) := fun n => hcx _ ⟨rfl, rfl, rfl, Nat.le_refl _, fun _ _ => rfl⟩
              have hcy' : ∀ n, (convert 25 9 (.slice (some ⟨gy, 0, none⟩) 64 cy)).run Tryd.prog (w9.drewN n) = .ok (.string ⟨X.toArray⟩) (w9.drewN n) := fun n => hcy _ ⟨rfl, rfl, rfl, Nat.le_refl _, fun _ _ => rfl⟩
              clear hcx hcy
              go_wp2_with fail
              go_quiet (fail)
              go_wp2_with fail
              go_roundw
              case rel => exact ⟨i + 1, by omega, by go_num, ha9.keeps (keeps_drewN (fun _ => False) w9 _) (fun e => e) (fun e => e) (fun e => e), hc9.keeps (keeps_drewN (fun _ => False) w9 _) (fun e => e) (fun e => e) (fun e => e), hbw9.trans ⟨rfl, rfl, rfl, Nat.le_refl _, fun _ _ => rfl⟩⟩
              case measure => simp [RowKit.intOf]; omega
          · go_wp2
            go_ret
            exact ⟨rfl, hbr⟩
end Go.Proofs.YtmdjjnjhjojimabDoor
