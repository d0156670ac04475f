import Derived.Test.YtlmdeafmlommeaaGreatDoorLgD
import Derived.Test.YtlmdeafmlommeaaGreatDoorBgD
namespace Go.Proofs.YtlmdeafmlommeaaGreatDoor
open Go.RowKit Go.Maps

/-- The loop's: q bytes are left. -/
def FulI (lo n : Nat) (w wr : World) (db nb lb sb q : Nat) : Prop :=
  ∃ mb k B R, k ≤ 10 ∧ q + (encR R).length = ringN n ∧ CutS w.heap.size lo n w wr db nb mb n k lb sb B 0 false (.slice none 0 0) 0 R [] 0 0
theorem FulI.room {lo n : Nat} {w wr : World} {db nb lb sb q : Nat} (h : FulI lo n w wr db nb lb sb q) : Calls Tryz.prog 25 #[.pointer (some ⟨lb, 0, none⟩)] wr fun e w' => e = .returned (.int .i64 (q : Int)) ∧ FulI lo n w w' db nb lb sb q := by
  obtain ⟨mb, k, B, R, hk, hq, hS⟩ := h
  refine (room_at hS.l hS.d 0 (encR R).length 0 0 hS.log.tl hS.log.al hS.log.sz).mono ?_
  rintro e w' ⟨rfl, hb⟩
  rw [show ringN n - (encR R).length = q by omega]
  exact ⟨rfl, mb, k, B, R, hk, hq, hS.keep hb⟩
set_option maxRecDepth 100000 in
set_option maxHeartbeats 4000000 in
theorem logFull_true (n0 s0 : Int) (w : World) (hg : w.cell? ⟨0, 0, none⟩ = some errType) :
    Calls Tryz.prog 4 #[.int .i64 n0, .int .i64 s0] w fun e w' => e = .returned (.bool true) ∧ Below w.heap.size w w' := by
  have hr0 := rem_any n0 64 (by omega)
  have hr1 := rem_any s0 1000 (by omega)
  go_enter Tryz.func4, Tryz.ntmps4
  go_wp2_with fail
  refine (begun4_true _ hg).mono ?_
  rintro e w1 ⟨rfl, hb1⟩
  clear hg
  have hs1 := hb1.size
  go_wp2_with fail
  obtain ⟨n, hn, hn1, hn2⟩ : ∃ n : Nat, 64 + n0.tmod 64 % 64 = (n : Int) ∧ 64 ≤ n ∧ n ≤ 127 := ⟨(64 + n0.tmod 64 % 64).toNat, by omega, by omega, by omega⟩
  obtain ⟨m, hm, hm1, hm2⟩ : ∃ m : Nat, 1 + s0.tmod 1000 % 1000 = (m : Int) ∧ 1 ≤ m ∧ m ≤ 1000 := ⟨(1 + s0.tmod 1000 % 1000).toNat, by omega, by omega, by omega⟩
  rw [hn, hm]
  clear hn hm hr0 hr1
  refine (new_at n w1 (by omega) (by omega)).mono ?_
  rintro e w2 ⟨db, nb, mb, rfl, l1, l2, l3, hd2, hb2⟩
  have hs2 := hb2.size
  have hbw2 : Below w.heap.size w w2 := hb1.trans (hb2.mono hs1)
  clear hb1 hb2
  go_wp2_with fail
  refine (wmake_seat (base := w.heap.size) hd2 (by omega) (by omega) ⟨by omega, by omega, by omega, by omega⟩).mono ?_
  rintro e w3 ⟨mb3, k3, B3, lb, sb, rfl, hS3, hk3, hlog3, hK3⟩
  have hs3 := hK3.size
  have hbw3 : Below w.heap.size w w3 := hbw2.trans (hK3.below (by omega) (fun i e => by omega))
  obtain ⟨lo, hlo⟩ : ∃ lo, lo = w3.heap.size := ⟨_, rfl⟩
  obtain ⟨rn, hrn⟩ : ∃ rn, ringN n = rn := ⟨_, rfl⟩
  have hrI : 64 * ((n : Int) / 2 - 2) = (rn : Int) := by rw [← hrn]; unfold ringN; omega
  have hr1 : 1920 ≤ rn ∧ rn ≤ 4000 := by rw [← hrn]; unfold ringN; omega
  have hI0 : Hid (FulI lo n w w3 db nb lb sb rn) := by
    rw [hlo]
    exact ⟨mb3, k3, B3, [], by omega, by rw [encR_nil]; exact hrn.symm, CutS.start hS3 hlog3 hbw3 hbw3.size⟩
  have HRn : Hid (ringN n = rn) := hrn
  have HRI : Hid (64 * ((n : Int) / 2 - 2) = (rn : Int)) := hrI
  clear hK3 hbw2 hd2 hS3 hlog3 hbw3 hlo hrn hrI
  go_wp2_with fail
  rw [HRI.out]
  go_loopw [8] (fun s8 wr => ∃ q : Nat, q ≤ rn ∧ s8 = .int .i64 q ∧ Hid (FulI lo n w wr db nb lb sb q)) (fun s8 _ => (RowKit.intOf s8).toNat)
  case atStart => exact ⟨rn, Nat.le_refl _, rfl, hI0⟩
  case round => as_aux_lemma =>
    obtain ⟨q, hq, rfl, HI⟩ := hrel
    clear hI0
    have HC : Hid (Calls Tryz.prog 25 #[.pointer (some ⟨lb, 0, none⟩)] wr fun e w' => e = .returned (.int .i64 (q : Int)) ∧ FulI lo n w w' db nb lb sb q) := HI.out.room
    clear HI
    by_cases hge : m + 2 ≤ q
    · go_wp2_with fail
      refine HC.out.mono ?_
      rintro e w4 ⟨rfl, hI4⟩
      have HI4 : Hid (FulI lo n w w4 db nb lb sb q) := hI4
      clear hI4 HC
      go_wp2_with fail
      refine (text_at m 1 _ rfl (by omega) _).mono ?_
      rintro e w5 ⟨g, rfl, hg5, hB5, hb5⟩
      obtain ⟨mbr, kr, Br, R, hkr, hqR, hSr⟩ := HI4.out
      have HqR : Hid (q + (encR R).length = ringN n) := hqR
      have hez : (encR R).length + (m + 2) ≤ ringN n := by omega
      have hS5 := hSr.keep hb5
      have hlo := hSr.sz
      clear HI4 hSr hb5 hqR
      go_wp2_with fail
      refine (hS5.append (by omega) hB5 (textB_len _ _) (by omega) (by omega) (Nat.le_refl _) (by omega) hez).mono ?_
      rintro e w6 ⟨rfl, mb6, k6, B6, hk6, hS6, _⟩
      have HN : Hid (FulI lo n w w6 db nb lb sb (q - (m + 2))) := ⟨mb6, k6, B6, _, by omega, by have := HqR.out; rw [encR_snoc_len, textB_len]; omega, hS6⟩
      clear hS5 hB5 hez hS6 HqR
      go_wp2_with fail
      exact ⟨⟨q - (m + 2), by omega, by congr 1; omega, HN⟩, by simp [RowKit.intOf]; omega⟩
    · go_wp2_with fail
      refine HC.out.mono ?_
      rintro e w4 ⟨rfl, hI4⟩
      have HC4 : Hid (Calls Tryz.prog 25 #[.pointer (some ⟨lb, 0, none⟩)] w4 fun e w' => e = .returned (.int .i64 (q : Int)) ∧ FulI lo n w w' db nb lb sb q) := hI4.room
      clear hI4 HC
      go_wp2_with fail
      refine HC4.out.mono ?_
      rintro e w5 ⟨rfl, hI5⟩
      have HI5 : Hid (FulI lo n w w5 db nb lb sb q) := hI5
      clear hI5 HC4
      go_wp2_with fail
      refine (text_at m 2 _ rfl (by omega) _).mono ?_
      rintro e w6 ⟨g, rfl, hg6, hB6, hb6⟩
      obtain ⟨mbr, kr, Br, R, hkr, hqR, hSr⟩ := HI5.out
      have hS6 := hSr.keep hb6
      have hfull := append_full hS6.l hS6.d 0 (encR R).length 0 0 hS6.log.tl hS6.log.al hS6.log.sz (some ⟨g, 0, none⟩) m m ⟨hm1, hm2⟩ (by omega)
      have HFull : Hid (Calls Tryz.prog 18 #[.pointer (some ⟨lb, 0, none⟩), .slice (some ⟨g, 0, none⟩) m m] w6 fun e w' => e = .returned (.int .i64 5) ∧ CutS w.heap.size lo n w w' db nb mbr n kr lb sb Br 0 false (.slice none 0 0) 0 R [] 0 0) := hfull.mono fun e w' h => ⟨h.1, hS6.keep h.2⟩
      have HqR : Hid (q + (encR R).length = ringN n) := hqR
      clear HI5 hSr hb6 hqR hS6 hfull hB6
      go_wp2_with fail
      refine HFull.out.mono ?_
      rintro e w7 ⟨rfl, hS7⟩
      clear HFull
      by_cases hq3 : 3 ≤ q
      · obtain ⟨p, hp⟩ : ∃ p, q = p + 2 := ⟨q - 2, by omega⟩
        subst hp
        go_wp2_with fail
        refine (text_at p 3 _ rfl (by omega) _).mono ?_
        rintro e w8 ⟨g8, rfl, hg8, hB8, hb8⟩
        have hS8 := hS7.keep hb8
        have hlo := hS7.sz
        have hez8 : (encR R).length + (p + 2) ≤ ringN n := by have := HqR.out; omega
        clear hS7 hb8 HqR
        go_wp2_with fail
        refine (hS8.append (by omega) hB8 (textB_len _ _) (by omega) (by omega) (Nat.le_refl _) (by omega) hez8).mono ?_
        rintro e w9 ⟨rfl, mb9, k9, B9, hk9, hS9, _⟩
        clear hS8 hB8 hez8
        go_wp2_with fail
        refine (hS9.reset (by omega) 0 0 (fun q hq => by simp at hq; omega)).mono ?_
        rintro e w10 ⟨rfl, mb10, k10, B10, a10, hk10, hS10, _⟩
        clear hS9
        have HR10 : Hid (Calls Tryz.prog 25 #[.pointer (some ⟨lb, 0, none⟩)] w10 fun e w' => e = .returned (.int .i64 (rn : Int)) ∧ Below w10.heap.size w10 w') := by
          have := room_at hS10.l hS10.d a10 (encR ([] : List (List UInt8))).length 0 0 hS10.log.tl hS10.log.al hS10.log.sz
          rw [encR_nil, HRn.out] at this
          exact this
        go_wp2_with fail
        refine HR10.out.mono ?_
        rintro e w11 ⟨rfl, hb11⟩
        have hS11 := hS10.keep hb11
        clear HR10 hS10 hb11
        have hrI := HRI.out
        go_wp2_with fail
        refine (text_at m 4 _ rfl (by omega) _).mono ?_
        rintro e w12 ⟨g12, rfl, hg12, hB12, hb12⟩
        clear hrI
        have hS12 := hS11.keep hb12
        have hlo12 := hS11.sz
        have hez12 : (encR ([] : List (List UInt8))).length + (m + 2) ≤ ringN n := by rw [encR_nil, HRn.out]; show 0 + (m + 2) ≤ rn; omega
        clear hS11 hb12
        go_wp2_with fail
        refine (hS12.append (by omega) hB12 (textB_len _ _) (by omega) (by omega) (Nat.le_refl _) (by omega) hez12).mono ?_
        rintro e w13 ⟨rfl, mb13, k13, B13, hk13, hS13, _⟩
        clear hS12 hB12 hez12
        go_wp2_with fail
        refine (text_at 1001 1 _ rfl (by omega) _).mono ?_
        rintro e w14 ⟨g14, rfl, hg14, hB14, hb14⟩
        have hS14 := hS13.keep hb14
        clear hS13 hb14 hB14
        go_wp2_with fail
        refine (append_form hS14.l _ _ _ (by omega)).mono ?_
        rintro e w15 ⟨rfl, hw15⟩
        replace hw15 := hw15.symm
        subst hw15
        go_wp2_with fail
        refine (append_form hS14.l _ _ _ (by omega)).mono ?_
        rintro e w16 ⟨rfl, hw16⟩
        replace hw16 := hw16.symm
        subst hw16
        have hbF := hS14.bel
        clear hS14
        go_wp2_with fail
        go_ret
        exact ⟨rfl, hbF⟩
      · clear HqR
        go_wp2_with fail
        refine (hS7.reset (by omega) 0 0 (fun q hq => by simp at hq; omega)).mono ?_
        rintro e w10 ⟨rfl, mb10, k10, B10, a10, hk10, hS10, _⟩
        clear hS7
        have HR10 : Hid (Calls Tryz.prog 25 #[.pointer (some ⟨lb, 0, none⟩)] w10 fun e w' => e = .returned (.int .i64 (rn : Int)) ∧ Below w10.heap.size w10 w') := by
          have := room_at hS10.l hS10.d a10 (encR ([] : List (List UInt8))).length 0 0 hS10.log.tl hS10.log.al hS10.log.sz
          rw [encR_nil, HRn.out] at this
          exact this
        go_wp2_with fail
        refine HR10.out.mono ?_
        rintro e w11 ⟨rfl, hb11⟩
        have hS11 := hS10.keep hb11
        clear HR10 hS10 hb11
        have hrI := HRI.out
        go_wp2_with fail
        refine (text_at m 4 _ rfl (by omega) _).mono ?_
        rintro e w12 ⟨g12, rfl, hg12, hB12, hb12⟩
        clear hrI
        have hS12 := hS11.keep hb12
        have hlo12 := hS11.sz
        have hez12 : (encR ([] : List (List UInt8))).length + (m + 2) ≤ ringN n := by rw [encR_nil, HRn.out]; show 0 + (m + 2) ≤ rn; omega
        clear hS11 hb12
        go_wp2_with fail
        refine (hS12.append (by omega) hB12 (textB_len _ _) (by omega) (by omega) (Nat.le_refl _) (by omega) hez12).mono ?_
        rintro e w13 ⟨rfl, mb13, k13, B13, hk13, hS13, _⟩
        clear hS12 hB12 hez12
        go_wp2_with fail
        refine (text_at 1001 1 _ rfl (by omega) _).mono ?_
        rintro e w14 ⟨g14, rfl, hg14, hB14, hb14⟩
        have hS14 := hS13.keep hb14
        clear hS13 hb14 hB14
        go_wp2_with fail
        refine (append_form hS14.l _ _ _ (by omega)).mono ?_
        rintro e w15 ⟨rfl, hw15⟩
        replace hw15 := hw15.symm
        subst hw15
        go_wp2_with fail
        refine (append_form hS14.l _ _ _ (by omega)).mono ?_
        rintro e w16 ⟨rfl, hw16⟩
        replace hw16 := hw16.symm
        subst hw16
        have hbF := hS14.bel
        clear hS14
        go_wp2_with fail
        go_ret
        exact ⟨rfl, hbF⟩
end Go.Proofs.YtlmdeafmlommeaaGreatDoor
