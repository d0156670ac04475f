import Derived.Test.YtmdjjnjhjojimabDoorBadA
import Derived.Test.YtmdjjnjhjojimabDoorBegB
namespace Go.Proofs.YtmdjjnjhjojimabDoor
open Go.RowKit Go.Maps
set_option maxRecDepth 100000 in
set_option maxHeartbeats 4000000 in
theorem devBad_true (i n fuse : Int) (w : World) (hi0 : -9223372036854775808 ≤ i) (hi1 : i ≤ 9223372036854775807) (hg : w.cell? ⟨0, 0, none⟩ = some errType) :
    Calls Tryd.prog 5 #[.int .i64 i, .int .i64 n, .int .i64 fuse] w fun e w' => e = .returned (.bool true) ∧ Below w.heap.size w w' := by
  have hF1 := rem_any fuse 5 (by omega)
  have hN1 := rem_any n 200 (by omega)
  have hF := rem_pos fuse 5 (by omega)
  have hN := rem_pos n 200 (by omega)
  go_enter Tryd.func5, Tryd.ntmps5
  go_wp2_with fail
  refine (begun_true _ hg).mono ?_
  rintro e w1 ⟨rfl, hb1⟩
  go_wp2_with fail
  refine (new_at 64 w1 (by omega) (by omega)).mono ?_
  rintro e w2 ⟨db, nb, mb, rfl, l1, l2, l3, hd2, hb2⟩
  have hb : Below w.heap.size w w2 := hb1.trans (hb2.mono hb1.size)
  have hbs := hb.size
  have hbs1 := hb1.size
  clear hb1 hb2 hg
  go_wp2_with fail
  have hq : 0 ≤ fuse.tmod 5 % 5 ∧ fuse.tmod 5 % 5 < 5 := by omega
  clear hF hF1
  generalize fuse.tmod 5 % 5 = q at hq ⊢
  obtain ⟨f, rfl⟩ : ∃ f : Nat, q = (f : Int) := ⟨q.toNat, by omega⟩
  refine (fuse_any hd2 (1 + (f : Int)) (by omega)).mono ?_
  rintro e w3 ⟨rfl, hd3, hk3⟩
  rw [show max (1 + (f : Int)) 0 = ((f + 1 : Nat) : Int) from by omega, show decide (1 + (f : Int) ≤ 0) = false from by simp; omega] at hd3
  have hb3 : Below w.heap.size w w3 := hb.trans (hk3.below hb.size (fun i e => by omega))
  have hbs3 := hb3.size
  have hdl := hd3.dlt
  have hnl := hd3.nlt
  have hml := hd3.mlt
  clear hb hd2 hk3 hN
  have hp : 0 ≤ (n.tmod 200 + 200) % 200 ∧ (n.tmod 200 + 200) % 200 < 200 := by omega
  have hpe : Hid (∃ m : Nat, (n.tmod 200 + 200) % 200 = (m : Int)) := ⟨((n.tmod 200 + 200) % 200).toNat, by omega⟩
  by_cases hi : i < 0
  · go_wp2_with fail
    obtain ⟨m, hm⟩ := hpe.out
    clear hpe
    have hm' : n.tmod 200 % 200 = (m : Int) := by omega
    rw [hm] at hp
    first | rw [hm] | rw [hm']
    have hWr : ∀ (wr : World) (mb' : Nat) (left : Int), DevAt wr db nb mb' 64 64 (List.replicate (64 * 64) 0) 0 (.map []) left false → ∀ v c, Calls Tryd.prog 14 #[.pointer (some ⟨db, 0, none⟩), .int .i64 i, .slice v m c] wr fun e w' => e = .returned (.int .i64 2) ∧ w' = wr :=
      fun wr mb' left h v c => write_range h.c0 h.c3 i (Or.inl hi) _
    clear hm hm' hN1
    have hm2 : m ≤ 4096 := by omega
    clear hp
    go_loopw [11] (fun k wr => ∃ kn : Nat, kn ≤ 10 ∧ k = .int .i64 kn ∧ DevAt wr db nb mb 64 64 (List.replicate (64 * 64) 0) 0 (.map []) ((f + 1 : Nat) : Int) false ∧ Below w.heap.size w wr) (fun k _ => 10 - (RowKit.intOf k).toNat)
    case atStart => exact ⟨0, by omega, rfl, hd3, hb3⟩
    case round =>
      obtain ⟨kn, hkn, rfl, hd4, hb4⟩ := hrel
      by_cases hlt : kn < 10
      · have hmk := mkB m hm2
        go_wp2_with fail
        clear hmk
        have hd5 := hd4.keeps ((Keeps.refl (fun _ => False) wr).alloc (.cells (bytesV (List.replicate m 0)).toArray 5)) (fun e => e) (fun e => e) (fun e => e)
        have hb5 : Below w.heap.size w (wr.alloc (.cells (bytesV (List.replicate m 0)).toArray 5)) := hb4.alloc hb4.size _
        generalize wr.alloc (.cells (bytesV (List.replicate m 0)).toArray 5) = w5 at hd5 hb5 ⊢
        refine (hWr _ _ _ hd5 _ _).mono ?_
        rintro e w6 ⟨rfl, hw⟩
        obtain rfl := hw.symm
        clear hw
        go_wp2
        go_roundw
        case rel => exact ⟨kn + 1, by omega, by go_num, hd5, hb5⟩
        case measure => simp [RowKit.intOf]; omega
      · go_wp2_with fail
        go_loopw [12] (fun k wr => ∃ kn mb' : Nat, kn ≤ f + 1 ∧ k = .int .i64 kn ∧ DevAt wr db nb mb' 64 64 (List.replicate (64 * 64) 0) 0 (.map []) ((f + 1 - kn : Nat) : Int) (decide (kn = f + 1)) ∧ Below w.heap.size w wr) (fun k _ => f + 1 - (RowKit.intOf k).toNat)
        case atStart => exact ⟨0, mb, by omega, rfl, by simpa using hd4, hb4⟩
        case round =>
          obtain ⟨jn, mb', hjn, rfl, hd6, hb6⟩ := hrel
          by_cases hlj : jn < f + 1
          · rw [show decide (jn = f + 1) = false from by simp; omega] at hd6
            go_wp2_with (first
              | (go_at_call 16; refine (down_any _ _ _ hd6.c3).mono ?_; rintro e w' ⟨rfl, hw⟩; obtain rfl := hw.symm; clear hw)
              | (go_at_call 15; refine (flush_any hd6).mono ?_; rintro e w7 ⟨rfl, hd7, hk7⟩))
            have hb7 : Below w.heap.size w w7 := hb6.trans (hk7.below hb6.size (fun i e => by omega))
            go_roundw
            case rel =>
              have e1 : burnL ((f + 1 - jn : Nat) : Int) = ((f + 1 - (jn + 1) : Nat) : Int) := by unfold burnL; rw [if_neg (by omega)]; omega
              have e2 : burnD ((f + 1 - jn : Nat) : Int) false = decide (jn + 1 = f + 1) := by
                unfold burnD; rw [if_neg (by omega)]
                rw [Bool.eq_iff_iff]; simp; omega
              rw [e1, e2] at hd7
              exact ⟨jn + 1, _, by omega, by go_num, hd7, hb7⟩
            case measure => simp [RowKit.intOf]; omega
          · rw [show decide (jn = f + 1) = true from by simp; omega] at hd6
            go_wp2_with (go_at_call 16; refine (down_any _ _ _ hd6.c3).mono ?_; rintro e w' ⟨rfl, hw⟩; obtain rfl := hw.symm; clear hw)
            refine (loose_none hd6).mono ?_
            rintro e w8 ⟨rfl, hb8⟩
            have hd8 := hd6.keeps (Keeps.of_below (S := fun _ => False) hb8) (fun e => e) (fun e => e) (fun e => e)
            have hb9 : Below w.heap.size w w8 := hb6.trans (hb8.mono hb6.size)
            have hmk := mkB m hm2
            go_wp2_with fail
            clear hmk
            have hd5 := hd8.keeps ((Keeps.refl (fun _ => False) w8).alloc (.cells (bytesV (List.replicate m 0)).toArray 5)) (fun e => e) (fun e => e) (fun e => e)
            have hb5 : Below w.heap.size w (w8.alloc (.cells (bytesV (List.replicate m 0)).toArray 5)) := hb9.alloc hb9.size _
            generalize w8.alloc (.cells (bytesV (List.replicate m 0)).toArray 5) = w5 at hd5 hb5 ⊢
            refine (write_down hd5.c3 _ _).mono ?_
            rintro e w6 ⟨rfl, hw⟩
            obtain rfl := hw.symm
            clear hw
            go_wp2
            go_ret
            exact ⟨rfl, hb5⟩
  by_cases hj : (64 : Int) ≤ i
  · go_wp2_with fail
    obtain ⟨m, hm⟩ := hpe.out
    clear hpe
    have hm' : n.tmod 200 % 200 = (m : Int) := by omega
    rw [hm] at hp
    first | rw [hm] | rw [hm']
    have hWr : ∀ (wr : World) (mb' : Nat) (left : Int), DevAt wr db nb mb' 64 64 (List.replicate (64 * 64) 0) 0 (.map []) left false → ∀ v c, Calls Tryd.prog 14 #[.pointer (some ⟨db, 0, none⟩), .int .i64 i, .slice v m c] wr fun e w' => e = .returned (.int .i64 2) ∧ w' = wr :=
      fun wr mb' left h v c => write_range h.c0 h.c3 i (Or.inr hj) _
    clear hm hm' hN1
    have hm2 : m ≤ 4096 := by omega
    clear hp
    go_loopw [11] (fun k wr => ∃ kn : Nat, kn ≤ 10 ∧ k = .int .i64 kn ∧ DevAt wr db nb mb 64 64 (List.replicate (64 * 64) 0) 0 (.map []) ((f + 1 : Nat) : Int) false ∧ Below w.heap.size w wr) (fun k _ => 10 - (RowKit.intOf k).toNat)
    case atStart => exact ⟨0, by omega, rfl, hd3, hb3⟩
    case round =>
      obtain ⟨kn, hkn, rfl, hd4, hb4⟩ := hrel
      by_cases hlt : kn < 10
      · have hmk := mkB m hm2
        go_wp2_with fail
        clear hmk
        have hd5 := hd4.keeps ((Keeps.refl (fun _ => False) wr).alloc (.cells (bytesV (List.replicate m 0)).toArray 5)) (fun e => e) (fun e => e) (fun e => e)
        have hb5 : Below w.heap.size w (wr.alloc (.cells (bytesV (List.replicate m 0)).toArray 5)) := hb4.alloc hb4.size _
        generalize wr.alloc (.cells (bytesV (List.replicate m 0)).toArray 5) = w5 at hd5 hb5 ⊢
        refine (hWr _ _ _ hd5 _ _).mono ?_
        rintro e w6 ⟨rfl, hw⟩
        obtain rfl := hw.symm
        clear hw
        go_wp2
        go_roundw
        case rel => exact ⟨kn + 1, by omega, by go_num, hd5, hb5⟩
        case measure => simp [RowKit.intOf]; omega
      · go_wp2_with fail
        go_loopw [12] (fun k wr => ∃ kn mb' : Nat, kn ≤ f + 1 ∧ k = .int .i64 kn ∧ DevAt wr db nb mb' 64 64 (List.replicate (64 * 64) 0) 0 (.map []) ((f + 1 - kn : Nat) : Int) (decide (kn = f + 1)) ∧ Below w.heap.size w wr) (fun k _ => f + 1 - (RowKit.intOf k).toNat)
        case atStart => exact ⟨0, mb, by omega, rfl, by simpa using hd4, hb4⟩
        case round =>
          obtain ⟨jn, mb', hjn, rfl, hd6, hb6⟩ := hrel
          by_cases hlj : jn < f + 1
          · rw [show decide (jn = f + 1) = false from by simp; omega] at hd6
            go_wp2_with (first
              | (go_at_call 16; refine (down_any _ _ _ hd6.c3).mono ?_; rintro e w' ⟨rfl, hw⟩; obtain rfl := hw.symm; clear hw)
              | (go_at_call 15; refine (flush_any hd6).mono ?_; rintro e w7 ⟨rfl, hd7, hk7⟩))
            have hb7 : Below w.heap.size w w7 := hb6.trans (hk7.below hb6.size (fun i e => by omega))
            go_roundw
            case rel =>
              have e1 : burnL ((f + 1 - jn : Nat) : Int) = ((f + 1 - (jn + 1) : Nat) : Int) := by unfold burnL; rw [if_neg (by omega)]; omega
              have e2 : burnD ((f + 1 - jn : Nat) : Int) false = decide (jn + 1 = f + 1) := by
                unfold burnD; rw [if_neg (by omega)]
                rw [Bool.eq_iff_iff]; simp; omega
              rw [e1, e2] at hd7
              exact ⟨jn + 1, _, by omega, by go_num, hd7, hb7⟩
            case measure => simp [RowKit.intOf]; omega
          · rw [show decide (jn = f + 1) = true from by simp; omega] at hd6
            go_wp2_with (go_at_call 16; refine (down_any _ _ _ hd6.c3).mono ?_; rintro e w' ⟨rfl, hw⟩; obtain rfl := hw.symm; clear hw)
            refine (loose_none hd6).mono ?_
            rintro e w8 ⟨rfl, hb8⟩
            have hd8 := hd6.keeps (Keeps.of_below (S := fun _ => False) hb8) (fun e => e) (fun e => e) (fun e => e)
            have hb9 : Below w.heap.size w w8 := hb6.trans (hb8.mono hb6.size)
            have hmk := mkB m hm2
            go_wp2_with fail
            clear hmk
            have hd5 := hd8.keeps ((Keeps.refl (fun _ => False) w8).alloc (.cells (bytesV (List.replicate m 0)).toArray 5)) (fun e => e) (fun e => e) (fun e => e)
            have hb5 : Below w.heap.size w (w8.alloc (.cells (bytesV (List.replicate m 0)).toArray 5)) := hb9.alloc hb9.size _
            generalize w8.alloc (.cells (bytesV (List.replicate m 0)).toArray 5) = w5 at hd5 hb5 ⊢
            refine (write_down hd5.c3 _ _).mono ?_
            rintro e w6 ⟨rfl, hw⟩
            obtain rfl := hw.symm
            clear hw
            go_wp2
            go_ret
            exact ⟨rfl, hb5⟩
  cases hne : ((n.tmod 200 + 200) % 200 == 64)
  · go_wp2_with fail
    obtain ⟨m, hm⟩ := hpe.out
    clear hpe
    have hm' : n.tmod 200 % 200 = (m : Int) := by omega
    rw [hm] at hp
    first | rw [hm] | rw [hm']
    have hWr : ∀ (wr : World) (mb' : Nat) (left : Int), DevAt wr db nb mb' 64 64 (List.replicate (64 * 64) 0) 0 (.map []) left false → ∀ v c, Calls Tryd.prog 14 #[.pointer (some ⟨db, 0, none⟩), .int .i64 i, .slice v m c] wr fun e w' => e = .returned (.int .i64 1) ∧ w' = wr :=
      fun wr mb' left h v c => write_form h.c0 h.c3 i (by omega) (by omega) v m (by rw [← hm]; exact hne) c
    clear hm hm' hN1
    have hm2 : m ≤ 4096 := by omega
    clear hp
    go_loopw [11] (fun k wr => ∃ kn : Nat, kn ≤ 10 ∧ k = .int .i64 kn ∧ DevAt wr db nb mb 64 64 (List.replicate (64 * 64) 0) 0 (.map []) ((f + 1 : Nat) : Int) false ∧ Below w.heap.size w wr) (fun k _ => 10 - (RowKit.intOf k).toNat)
    case atStart => exact ⟨0, by omega, rfl, hd3, hb3⟩
    case round =>
      obtain ⟨kn, hkn, rfl, hd4, hb4⟩ := hrel
      by_cases hlt : kn < 10
      · have hmk := mkB m hm2
        go_wp2_with fail
        clear hmk
        have hd5 := hd4.keeps ((Keeps.refl (fun _ => False) wr).alloc (.cells (bytesV (List.replicate m 0)).toArray 5)) (fun e => e) (fun e => e) (fun e => e)
        have hb5 : Below w.heap.size w (wr.alloc (.cells (bytesV (List.replicate m 0)).toArray 5)) := hb4.alloc hb4.size _
        generalize wr.alloc (.cells (bytesV (List.replicate m 0)).toArray 5) = w5 at hd5 hb5 ⊢
        refine (hWr _ _ _ hd5 _ _).mono ?_
        rintro e w6 ⟨rfl, hw⟩
        obtain rfl := hw.symm
        clear hw
        go_wp2
        go_roundw
        case rel => exact ⟨kn + 1, by omega, by go_num, hd5, hb5⟩
        case measure => simp [RowKit.intOf]; omega
      · go_wp2_with fail
        go_loopw [12] (fun k wr => ∃ kn mb' : Nat, kn ≤ f + 1 ∧ k = .int .i64 kn ∧ DevAt wr db nb mb' 64 64 (List.replicate (64 * 64) 0) 0 (.map []) ((f + 1 - kn : Nat) : Int) (decide (kn = f + 1)) ∧ Below w.heap.size w wr) (fun k _ => f + 1 - (RowKit.intOf k).toNat)
        case atStart => exact ⟨0, mb, by omega, rfl, by simpa using hd4, hb4⟩
        case round =>
          obtain ⟨jn, mb', hjn, rfl, hd6, hb6⟩ := hrel
          by_cases hlj : jn < f + 1
          · rw [show decide (jn = f + 1) = false from by simp; omega] at hd6
            go_wp2_with (first
              | (go_at_call 16; refine (down_any _ _ _ hd6.c3).mono ?_; rintro e w' ⟨rfl, hw⟩; obtain rfl := hw.symm; clear hw)
              | (go_at_call 15; refine (flush_any hd6).mono ?_; rintro e w7 ⟨rfl, hd7, hk7⟩))
            have hb7 : Below w.heap.size w w7 := hb6.trans (hk7.below hb6.size (fun i e => by omega))
            go_roundw
            case rel =>
              have e1 : burnL ((f + 1 - jn : Nat) : Int) = ((f + 1 - (jn + 1) : Nat) : Int) := by unfold burnL; rw [if_neg (by omega)]; omega
              have e2 : burnD ((f + 1 - jn : Nat) : Int) false = decide (jn + 1 = f + 1) := by
                unfold burnD; rw [if_neg (by omega)]
                rw [Bool.eq_iff_iff]; simp; omega
              rw [e1, e2] at hd7
              exact ⟨jn + 1, _, by omega, by go_num, hd7, hb7⟩
            case measure => simp [RowKit.intOf]; omega
          · rw [show decide (jn = f + 1) = true from by simp; omega] at hd6
            go_wp2_with (go_at_call 16; refine (down_any _ _ _ hd6.c3).mono ?_; rintro e w' ⟨rfl, hw⟩; obtain rfl := hw.symm; clear hw)
            refine (loose_none hd6).mono ?_
            rintro e w8 ⟨rfl, hb8⟩
            have hd8 := hd6.keeps (Keeps.of_below (S := fun _ => False) hb8) (fun e => e) (fun e => e) (fun e => e)
            have hb9 : Below w.heap.size w w8 := hb6.trans (hb8.mono hb6.size)
            have hmk := mkB m hm2
            go_wp2_with fail
            clear hmk
            have hd5 := hd8.keeps ((Keeps.refl (fun _ => False) w8).alloc (.cells (bytesV (List.replicate m 0)).toArray 5)) (fun e => e) (fun e => e) (fun e => e)
            have hb5 : Below w.heap.size w (w8.alloc (.cells (bytesV (List.replicate m 0)).toArray 5)) := hb9.alloc hb9.size _
            generalize w8.alloc (.cells (bytesV (List.replicate m 0)).toArray 5) = w5 at hd5 hb5 ⊢
            refine (write_down hd5.c3 _ _).mono ?_
            rintro e w6 ⟨rfl, hw⟩
            obtain rfl := hw.symm
            clear hw
            go_wp2
            go_ret
            exact ⟨rfl, hb5⟩
  · have hm1 : (n.tmod 200 + 200) % 200 = 64 := by simpa using hne
    have hm' : n.tmod 200 % 200 = 64 := by omega
    obtain ⟨ib, rfl⟩ : ∃ ib : Nat, i = (ib : Int) := ⟨i.toNat, by omega⟩
    have hmk := mk33
    go_wp2_with fail
    clear hmk
    have hd5 := hd3.keeps ((Keeps.refl (fun _ => False) w3).alloc (.cells zb 5)) (fun e => e) (fun e => e) (fun e => e)
    have hr5 : (w3.alloc (.cells zb 5)).rangeAt w3.heap.size 0 (bytesV (List.replicate 64 0)) := by
      intro j v hv
      rw [cell_of_row _ _ (0 + j) _ 5 (0, 0) (heap_alloc_last w3 _)]
      unfold zb
      simpa using hv
    have hb5 : Below w.heap.size w (w3.alloc (.cells zb 5)) := hb3.alloc hb3.size _
    generalize w3.alloc (.cells zb 5) = w5 at hd5 hb5 hr5 ⊢
    refine (write_new hd5 ib (by omega) (List.replicate 64 0) (by simp) w3.heap.size 0 64 hr5 (by omega) (by decide) rfl).mono ?_
    rintro e w6 ⟨rfl, hd6, hk6⟩
    have hb6 : Below w.heap.size w w6 := hb5.trans (hk6.below hb5.size (fun i e => by omega))
    have e2 : burnD ((f + 1 : Nat) : Int) false = (1 + (f : Int) == 1) := by
      unfold burnD; rw [if_neg (by omega)]
      rw [Bool.eq_iff_iff]; simp; omega
    rw [e2] at hd6
    go_wp2_with (go_at_call 16; refine (down_any _ _ _ hd6.c3).mono ?_; rintro e w' ⟨rfl, hw⟩; obtain rfl := hw.symm; clear hw)
    go_ret
    exact ⟨by simp, hb6⟩
end Go.Proofs.YtmdjjnjhjojimabDoor
