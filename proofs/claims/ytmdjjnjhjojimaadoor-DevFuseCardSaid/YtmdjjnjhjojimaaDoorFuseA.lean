import Derived.Test.YtmdjjnjhjojimaaDoorDevI
import Derived.Test.YtmdjjnjhjojimaaDoorBegB
namespace Go.Proofs.YtmdjjnjhjojimaaDoor
open Go.RowKit Go.Maps

set_option maxRecDepth 100000 in
set_option maxHeartbeats 4000000 in
theorem devFuse_true (n kind : Int) (w : World) (hg : w.cell? ⟨0, 0, none⟩ = some errType) :
    Calls Tryd.prog 4 #[.int .i64 n, .int .i64 kind] w fun e w' => e = .returned (.bool true) ∧ Below w.heap.size w w' := by
  have hN1 := rem_any n 20 (by omega)
  go_enter Tryd.func4, Tryd.ntmps4
  go_wp2_with fail
  refine (begun_true _ hg).mono ?_
  rintro e w1 ⟨rfl, hb1⟩
  go_wp2_with fail
  refine (new_at 64 w1 (by omega) (by omega)).mono ?_
  rintro e w2 ⟨db, nb, mb, rfl, l1, l2, l3, hd2, hb2⟩
  have hb : Below w.heap.size w w2 := hb1.trans (hb2.mono hb1.size)
  have hbs := hb.size
  have hbs1 := hb1.size
  clear hb1 hb2 hg
  go_wp2_with fail
  have hq : 0 ≤ n.tmod 20 % 20 ∧ n.tmod 20 % 20 < 20 := by omega
  clear hN1
  generalize n.tmod 20 % 20 = q at hq ⊢
  obtain ⟨m, rfl⟩ : ∃ m : Nat, q = (m : Int) := ⟨q.toNat, by omega⟩
  refine (fuse_any hd2 (m : Int) (by omega)).mono ?_
  rintro e w3 ⟨rfl, hd3, hk3⟩
  rw [show max (m : Int) 0 = ((m - 0 : Nat) : Int) from by omega, show decide ((m : Int) ≤ 0) = decide (0 = m) from by rw [Bool.eq_iff_iff]; simp; omega] at hd3
  have hb3 : Below w.heap.size w w3 := hb.trans (hk3.below hb.size (fun i e => by omega))
  have hbs3 := hb3.size
  clear hb hd2 hk3
  go_wp2_with fail
  have hz : ∀ j : Nat, j < 20 → ((UInt8.ofNat (j + 1)).toNat : Int) = (j : Int) + 1 := by
    intro j hj
    rw [UInt8.toNat_ofNat']
    omega
  go_loopw [7] (fun k wr => ∃ (jn mb' c : Nat) (B : List UInt8) (D : DataW Unit), jn ≤ m ∧ k = .int .i64 jn ∧ c ≤ jn ∧ w.heap.size ≤ mb' ∧ DevAt wr db nb mb' 64 64 B c D ((m - jn : Nat) : Int) (decide (jn = m)) ∧ Below w.heap.size w wr) (fun k _ => m - (RowKit.intOf k).toNat)
  case atStart => exact ⟨0, mb, 0, _, _, by omega, rfl, by omega, by omega, hd3, hb3⟩
  case round =>
    obtain ⟨jn, mb', c, B, D, hjn, rfl, hc, hmb, hd4, hb4⟩ := hrel
    have hs4 := hb4.size
    by_cases hlt : jn < m
    · rw [show decide (jn = m) = false from by simp; omega] at hd4
      have e1 : burnL ((m - jn : Nat) : Int) = ((m - (jn + 1) : Nat) : Int) := by unfold burnL; rw [if_neg (by omega)]; omega
      have e2 : burnD ((m - jn : Nat) : Int) false = decide (jn + 1 = m) := by
        unfold burnD; rw [if_neg (by omega)]
        rw [Bool.eq_iff_iff]; simp; omega
      go_wp2_with fail
      · refine (flush_any hd4).mono ?_
        rintro e w6 ⟨rfl, hd6, hk6⟩
        rw [e1, e2] at hd6
        have hb6 : Below w.heap.size w w6 := hb4.trans (hk6.below hb4.size (fun i e => by omega))
        clear hk6 hd4
        go_wp2_with fail
        refine (bytes_at 1 _).mono ?_
        rintro e w7 ⟨g7, rfl, hg7, hs7, hr7, ht7, hb7⟩
        have hd7 := hd6.keeps (Keeps.of_below (S := fun _ => False) hb7) (fun e => e) (fun e => e) (fun e => e)
        have hb8 : Below w.heap.size w w7 := hb6.trans (hb7.mono hb6.size)
        clear hr7 ht7 hb7
        by_cases hl : jn + 1 = m
        · rw [show decide (jn + 1 = m) = true from by simp; omega] at hd7
          go_wp2_with fail
          refine (write_down hd7.c3 _ _).mono ?_
          rintro e w8 ⟨rfl, hw⟩
          obtain rfl := hw.symm
          clear hw
          have hcm : ((jn : Int) == (m : Int) - 1) = true := by simp; omega
          go_wp2_with fail
          refine (errOf_any _ _).mono ?_
          rintro e w8 ⟨rfl, hw⟩
          obtain rfl := hw.symm
          clear hw
          go_wp2
          go_roundw
          case rel =>
            rw [show true = decide (jn + 1 = m) from by simp; omega] at hd7
            exact ⟨jn + 1, _, _, _, _, by omega, by go_num, by omega, by omega, hd7, hb8⟩
          case measure => simp [RowKit.intOf]; omega
        · rw [show decide (jn + 1 = m) = false from by simp; omega] at hd7
          go_wp2_with fail
          refine (write_range hd7.c0 hd7.c3 99 (by omega) _).mono ?_
          rintro e w8 ⟨rfl, hw⟩
          obtain rfl := hw.symm
          clear hw
          have hcm : ((jn : Int) == (m : Int) - 1) = false := by simp; omega
          go_wp2_with fail
          refine (errOf_any _ _).mono ?_
          rintro e w8 ⟨rfl, hw⟩
          obtain rfl := hw.symm
          clear hw
          go_wp2
          go_roundw
          case rel =>
            rw [show false = decide (jn + 1 = m) from by simp; omega] at hd7
            exact ⟨jn + 1, _, _, _, _, by omega, by go_num, by omega, by omega, hd7, hb8⟩
          case measure => simp [RowKit.intOf]; omega
      · have hcall := bytes_at (UInt8.ofNat (jn + 1)) wr
        rw [hz jn (by omega)] at hcall
        refine hcall.mono ?_
        clear hcall
        rintro e w5 ⟨g5, rfl, hg5, hs5, hr5, ht5, hb5⟩
        have hd5 := hd4.keeps (Keeps.of_below (S := fun _ => False) hb5) (fun e => e) (fun e => e) (fun e => e)
        have hb5' : Below w.heap.size w w5 := hb4.trans (hb5.mono hb4.size)
        have hml := hd4.mlt
        clear ht5 hb5
        go_wp2_with fail
        refine (write_ok hd5 jn (by omega) (List.replicate 64 (UInt8.ofNat (jn + 1))) (List.length_replicate ..) g5 0 64 hr5 (by omega) (by unfold maxLen; omega)).mono ?_
        rintro e w6 ⟨k6, D6, rfl, hk6', hd6, hk6⟩
        rw [e1, e2] at hd6
        have hb6 : Below w.heap.size w w6 := hb5'.trans (hk6.below hb5'.size (fun i e => by omega))
        clear hr5 hd5 hk6 hd4
        go_wp2_with fail
        refine (bytes_at 1 _).mono ?_
        rintro e w7 ⟨g7, rfl, hg7, hs7, hr7, ht7, hb7⟩
        have hd7 := hd6.keeps (Keeps.of_below (S := fun _ => False) hb7) (fun e => e) (fun e => e) (fun e => e)
        have hb8 : Below w.heap.size w w7 := hb6.trans (hb7.mono hb6.size)
        clear hr7 ht7 hb7
        by_cases hl : jn + 1 = m
        · rw [show decide (jn + 1 = m) = true from by simp; omega] at hd7
          go_wp2_with fail
          refine (write_down hd7.c3 _ _).mono ?_
          rintro e w8 ⟨rfl, hw⟩
          obtain rfl := hw.symm
          clear hw
          have hcm : ((jn : Int) == (m : Int) - 1) = true := by simp; omega
          go_wp2_with fail
          refine (errOf_any _ _).mono ?_
          rintro e w8 ⟨rfl, hw⟩
          obtain rfl := hw.symm
          clear hw
          go_wp2
          go_roundw
          case rel =>
            rw [show true = decide (jn + 1 = m) from by simp; omega] at hd7
            exact ⟨jn + 1, _, _, _, _, by omega, by go_num, by omega, by omega, hd7, hb8⟩
          case measure => simp [RowKit.intOf]; omega
        · rw [show decide (jn + 1 = m) = false from by simp; omega] at hd7
          go_wp2_with fail
          refine (write_range hd7.c0 hd7.c3 99 (by omega) _).mono ?_
          rintro e w8 ⟨rfl, hw⟩
          obtain rfl := hw.symm
          clear hw
          have hcm : ((jn : Int) == (m : Int) - 1) = false := by simp; omega
          go_wp2_with fail
          refine (errOf_any _ _).mono ?_
          rintro e w8 ⟨rfl, hw⟩
          obtain rfl := hw.symm
          clear hw
          go_wp2
          go_roundw
          case rel =>
            rw [show false = decide (jn + 1 = m) from by simp; omega] at hd7
            exact ⟨jn + 1, _, _, _, _, by omega, by go_num, by omega, by omega, hd7, hb8⟩
          case measure => simp [RowKit.intOf]; omega
    · rw [show decide (jn = m) = true from by simp; omega] at hd4
      go_wp2_with fail
      refine (read_at hd4 0 (by omega)).mono ?_
      rintro e w5 ⟨g5, c5, rfl, hg5, _, hr5, hb5⟩
      have hd5 := hd4.keeps (Keeps.of_below (S := fun _ => False) hb5) (fun e => e) (fun e => e) (fun e => e)
      have hb5' : Below w.heap.size w w5 := hb4.trans (hb5.mono hb4.size)
      clear hr5 hb5 hd4 hb4
      go_wp2_with fail
      refine (crash_none hd5 (by omega) none 0).mono ?_
      rintro e w6 ⟨L, dc, nc, mc, cc, _, _, rfl, m1, m2, m3, hdc, hb6⟩
      have hd6 := hd5.keeps (Keeps.of_below (S := fun _ => False) hb6) (fun e => e) (fun e => e) (fun e => e)
      have hb6' : Below w.heap.size w w6 := hb5'.trans (hb6.mono hb5'.size)
      have hs6 := hb5'.size
      clear hd5 hb5' hb6
      go_wp2_with fail
      refine (down_any _ _ _ hd6.c3).mono ?_
      rintro e w8 ⟨rfl, hw⟩
      obtain rfl := hw.symm
      clear hw
      go_wp2_with fail
      refine (bytes_at 1 _).mono ?_
      rintro e w7 ⟨g7, rfl, _, _, _, _, hb7⟩
      have hd7 := hd6.keeps (Keeps.of_below (S := fun _ => False) hb7) (fun e => e) (fun e => e) (fun e => e)
      have hdc7 := hdc.keeps (Keeps.of_below (S := fun _ => False) hb7) (fun e => e) (fun e => e) (fun e => e)
      have hb7' : Below w.heap.size w w7 := hb6'.trans (hb7.mono hb6'.size)
      clear hd6 hdc hb7 hb6'
      go_wp2_with fail
      refine (write_down hd7.c3 _ _).mono ?_
      rintro e w8 ⟨rfl, hw⟩
      obtain rfl := hw.symm
      clear hw
      go_wp2_with fail
      refine (flush_down hd7.c3).mono ?_
      rintro e w8 ⟨rfl, hw⟩
      obtain rfl := hw.symm
      clear hw
      go_wp2_with fail
      refine (down_any _ _ _ hdc7.c3).mono ?_
      rintro e w8 ⟨rfl, hw⟩
      obtain rfl := hw.symm
      clear hw
      go_wp2_with fail
      refine (bytes_at 9 _).mono ?_
      rintro e w9 ⟨g9, rfl, hg9, _, hr9, _, hb9⟩
      have hdc9 := hdc7.keeps (Keeps.of_below (S := fun _ => False) hb9) (fun e => e) (fun e => e) (fun e => e)
      have hb9' : Below w.heap.size w w9 := hb7'.trans (hb9.mono hb7'.size)
      have hml := hdc7.mlt
      clear hb9 hb7' hdc7 hd7
      go_wp2_with fail
      refine (write_ok hdc9 1 (by omega) (List.replicate 64 9) (List.length_replicate ..) g9 0 64 hr9 (by omega) (by decide)).mono ?_
      rintro e w10 ⟨k6, D6, rfl, _, _, hk10⟩
      have hb10 : Below w.heap.size w w10 := hb9'.trans (hk10.below hb9'.size (fun i e => by omega))
      go_wp2
      go_ret
      exact ⟨rfl, hb10⟩
end Go.Proofs.YtmdjjnjhjojimaaDoor
