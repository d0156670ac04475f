import Derived.Test.YtlmdeafmlommeaaGreatDoorLgC
import Derived.Test.YtlmdeafmlommeaaGreatDoorBgD
namespace Go.Proofs.YtlmdeafmlommeaaGreatDoor
open Go.RowKit Go.Maps

/-- The records of the rounds. -/
def newR (j : Nat) : List (List UInt8) := (List.range j).map fun i => textB 20 (UInt8.ofNat i)
theorem newR_len (j : Nat) : (newR j).length = j := by unfold newR; simp
theorem newR_succ (j : Nat) : newR (j + 1) = newR j ++ [textB 20 (UInt8.ofNat j)] := by unfold newR; rw [List.range_succ, List.map_append]; rfl
theorem newR_enc (j : Nat) : (encR (newR j)).length = j * 22 := by
  induction j with
  | zero => simp [newR, encR_nil]
  | succ j ih => rw [newR_succ, encR_snoc_len, textB_len, ih]; omega
theorem newR_last (j : Nat) (h : j < (newR (j + 1)).length) : (newR (j + 1))[j] = textB 20 (UInt8.ofNat j) := by
  have e : (newR (j + 1))[j]? = some (textB 20 (UInt8.ofNat j)) := by rw [newR_succ, List.getElem?_append_right (by rw [newR_len]; omega), newR_len, Nat.sub_self]; rfl
  rw [List.getElem?_eq_getElem h] at e
  exact Option.some.inj e
/-- A record of the list itself is appended. -/
theorem CutS.append2 {base lo n : Nat} {w wr : World} {db nb mb cap k lb sb : Nat} {B : List UInt8} {v : Value} {a : Nat} {RL RV : List (List UInt8)} {x y : Int} (h : CutS base lo n w wr db nb mb cap k lb sb B 0 false v a RL RV x y) (hk : k ≤ 1000) {g c m : Nat} {s : List UInt8} (hB : wr.rangeAt g 0 (bytesV s)) (hm : s.length = m) (hm1 : 1 ≤ m) (hm2 : m ≤ 1000) (hz : (encR RL).length + (m + 2) ≤ ringN n) :
    Calls Tryz.prog 18 #[.pointer (some ⟨lb, 0, none⟩), .slice (some ⟨g, 0, none⟩) m c] wr fun e w' => e = .returned (.int .i64 0) ∧ ∃ mb' k' B', k' ≤ 1 ∧ CutS base lo n w w' db nb mb' cap k' lb sb B' 0 false v a (RL ++ [s]) RV x y := by
  have h1 := h.sz
  have h3 := h.four
  refine (append_seat h.seat h.log g 0 c s m hm hm1 hm2 hz hB (by omega) hk).mono ?_
  rintro e w5 ⟨mb5, k5, B5, rfl, hS5, hk5, hlog5, hK5⟩
  have hs5 := hK5.size
  exact ⟨rfl, mb5, k5, B5, hk5, ⟨hS5.d, hS5.l, hS5.s, hS5.ne, hS5.nl, hS5.low, h3, hlog5, h.rcs.keepM hK5 h.d.noRow (fun i h1 h2 => by unfold five at h2; omega), h.bel.trans (five_below h.seat hK5 (by omega)), by omega⟩⟩
/-- The loop's. -/
def NewI (lo : Nat) (w wr : World) (db nb lb sb : Nat) (v : Value) (j : Nat) : Prop :=
  ∃ mb k B, k ≤ 10 ∧ CutS w.heap.size lo 64 w wr db nb mb 64 k lb sb B 0 false v 0 (newR j) (newR j) 0 0
set_option maxRecDepth 100000 in
set_option maxHeartbeats 4000000 in
theorem logNew_true (n0 f0 : Int) (ka : Option Addr) (kl kc : Nat) (K : List Bool) (w : World) (hK : KeepB w w.heap.size ka kl K) (hg : w.cell? ⟨0, 0, none⟩ = some errType) :
    Calls Tryz.prog 12 #[.int .i64 n0, .int .i64 f0, .slice ka kl kc] w fun e w' => e = .returned (.bool true) ∧ Below w.heap.size w w' := by
  have hr0 := rem_any n0 6 (by omega)
  have hr2 := rem_any f0 6 (by omega)
  go_enter Tryz.func12, Tryz.ntmps12
  go_wp2_with fail
  refine (begun4_true _ hg).mono ?_
  rintro e w1 ⟨rfl, hb1⟩
  clear hg
  have hs1 := hb1.size
  go_wp2_with fail
  obtain ⟨nn, hnn, hnn8⟩ : ∃ nn : Nat, (n0.tmod 6 + 6) % 6 = (nn : Int) ∧ nn < 6 := ⟨((n0.tmod 6 + 6) % 6).toNat, by omega, by omega⟩
  rw [hnn]
  clear hnn hr0
  refine (new_at 64 w1 (by omega) (by omega)).mono ?_
  rintro e w2 ⟨db, nb, mb, rfl, l1, l2, l3, hd2, hb2⟩
  have hs2 := hb2.size
  have hbw2 : Below w.heap.size w w2 := hb1.trans (hb2.mono hs1)
  clear hb1 hb2
  go_wp2_with fail
  refine (wmake_seat (base := w.heap.size) hd2 (by omega) (by omega) ⟨by omega, by omega, by omega, by omega⟩).mono ?_
  rintro e w3 ⟨mb3, k3, B3, lb, sb, rfl, hS3, hk3, hlog3, hK3⟩
  have hs3 := hK3.size
  have hbw3 : Below w.heap.size w w3 := hbw2.trans (hK3.below (by omega) (fun i e => by omega))
  obtain ⟨lo, hlo⟩ : ∃ lo, lo = w3.heap.size := ⟨_, rfl⟩
  have hI0 : Hid (NewI lo w w3 db nb lb sb (.slice none 0 0) 0) := by
    rw [hlo]
    exact ⟨mb3, k3, B3, by omega, CutS.start hS3 hlog3 hbw3 hbw3.size⟩
  clear hK3 hbw2 hd2 hS3 hlog3 hbw3 hlo
  go_wp2_with fail
  go_loopw [11, 12] (fun s11 s12 wr => ∃ j : Nat, j ≤ nn ∧ s12 = .int .i64 j ∧ Hid (NewI lo w wr db nb lb sb s11 j)) (fun _ s12 _ => nn - (RowKit.intOf s12).toNat)
  case atStart => exact ⟨0, Nat.zero_le _, rfl, hI0⟩
  case round => as_aux_lemma =>
    obtain ⟨j, hj, rfl, HI⟩ := hrel
    clear hI0
    by_cases hlt : j < nn
    · go_wp2_with fail
      have hbx := text_at 20 (UInt8.ofNat j) (j : Int) (by rw [UInt8.toNat_ofNat']; omega) (by omega) wr
      refine hbx.mono ?_
      rintro e w4 ⟨g, rfl, hg4, hB4, hb4⟩
      clear hbx
      obtain ⟨mbr, kr, Br, hkr, hSr⟩ := HI.out
      have hS4 := hSr.keep hb4
      have hlo := hSr.sz
      have hv4 : RecV w4 lo (.slice (some ⟨g, 0, none⟩) 20 20) (textB 20 (UInt8.ofNat j)) := ⟨g, 20, by rw [textB_len], by rw [textB_len]; omega, by omega, hB4⟩
      obtain ⟨x1, x2, hc5, hlo5⟩ := hS4.boxed hv4
      have HX : Hid (CutS w.heap.size lo 64 w (w4.alloc (.cells #[.slice (some ⟨g, 0, none⟩) 20 20] 34)) db nb mbr 64 kr lb sb Br 0 false u11 0 (newR j) (newR j) 0 0 ∧ RecV (w4.alloc (.cells #[.slice (some ⟨g, 0, none⟩) 20 20] 34)) lo (.slice (some ⟨g, 0, none⟩) 20 20) (textB 20 (UInt8.ofNat j))) := ⟨x1, x2⟩
      have hcl : (newR j).length ≤ 100000 := by rw [newR_len]; omega
      clear x1 x2 hv4 hS4 hB4 hb4 HI hSr
      go_wp2_with (at_builtin; refine wpList_append_rec rfl _ _ rfl lo _ (newR j) rfl HX.out.1.rcs w4.heap.size _ (textB 20 (UInt8.ofNat j)) rfl hc5 HX.out.2 hlo5 hcl ?_)
      intro v1 w6 hr6 hg6 _
      rw [← newR_succ] at hr6
      have hS6 := HX.out.1.list hr6 hg6
      have hj1 : j < (newR (j + 1)).length := by rw [newR_len]; omega
      obtain ⟨gl, cap6, ge, ce, ev, hc6, hra6, _, _⟩ := hS6.rcs.toU.at_ j hj1
      have hlast := newR_last j hj1
      rw [hlast, textB_len] at hc6
      rw [hlast] at hra6
      rw [newR_len] at ev
      subst ev
      have HS6 : Hid (CutS w.heap.size lo 64 w w6 db nb mbr 64 kr lb sb Br 0 false (.slice (some ⟨gl, 0, none⟩) (j + 1) cap6) 0 (newR j) (newR (j + 1)) 0 0 ∧ w6.rangeAt ge 0 (bytesV (textB 20 (UInt8.ofNat j)))) := ⟨hS6, hra6⟩
      clear HX hc5 hr6 hg6 hlo5 hcl hS6 hra6 hlast hj1
      go_wp2_with fail
      refine (HS6.out.1.append2 (c := ce) (by omega) HS6.out.2 (textB_len _ _) (by omega) (by omega) (by rw [newR_enc]; unfold ringN; omega)).mono ?_
      rintro e w7 ⟨rfl, mb7, k7, B7, hk7, hS7⟩
      rw [← newR_succ] at hS7
      have HN : Hid (NewI lo w w7 db nb lb sb (.slice (some ⟨gl, 0, none⟩) (j + 1) cap6) (j + 1)) := ⟨mb7, k7, B7, by omega, hS7⟩
      clear HS6 hS7 hc6
      go_wp2_with fail
      exact ⟨⟨j + 1, by omega, by go_num, HN⟩, by simp [RowKit.intOf]; omega⟩
    · obtain rfl : j = nn := by omega
      obtain ⟨mbr, kr, Br, hkr, hSr⟩ := HI.out
      clear HI
      go_wp2_with fail
      have hfb : f0.tmod 6 % 6 ≤ 9223372036854775807 := by omega
      generalize f0.tmod 6 % 6 = ff at hfb ⊢
      refine (hSr.fuse ff hfb).mono ?_
      rintro e w4 ⟨rfl, hS4⟩
      clear hSr
      go_wp2_with fail
      refine (wmake_cut hS4.d (by omega) hS4.log).mono ?_
      rintro e w5 ⟨code, pv, mb5, k5, B5, D5, left5, down5, rfl, hd5, hk5, hm5, hK5, hcode, hC⟩
      have h4s := hS4.sz
      have h44 := hS4.four
      have h4l := hS4.low
      have hR5 := hS4.rcs.keepM hK5 hS4.d.noRow (fun i h1 h2 => by omega)
      have hbw5 : Below w.heap.size w w5 := hS4.bel.trans (hK5.below (by omega) (fun i e => by omega))
      clear hS4 hK5
      rcases hcode with ⟨rfl, ⟨lb5, sb5, rfl, hlb5, hL5⟩, hlog5⟩ | ⟨rfl, rfl⟩
      · go_wp2_with fail
        have hroom : ringN 64 - (encR ([] : List (List UInt8))).length = 1920 := by rw [encR_nil]; rfl
        refine (room_at hL5 hd5 0 (encR ([] : List (List UInt8))).length 0 0 hlog5.tl hlog5.al hlog5.sz).mono ?_
        rintro e w6 ⟨rfl, hb6⟩
        rw [hroom]
        have hd6 := hd5.keeps (Keeps.of_below (S := fun _ => False) hb6) (fun e => e) (fun e => e) (fun e => e)
        have hR6 := hR5.below hb6
        have hbw6 := hbw5.trans (hb6.mono hbw5.size)
        have hKp6 := hK.below hbw6
        clear hd5 hL5 hR5 hbw5 hb6 hroom hlog5
        go_wp2_with fail
        refine (crash_l hd6 (by omega) kc hKp6).mono ?_
        rintro e w7 ⟨L, db7, nb7, mb7, cap7, hLp, _, rfl, z1, z2, z3, hd7, hb7⟩
        have hs7 := hb7.size
        have hbw7 := hbw6.trans (hb7.mono hbw6.size)
        have hR7 := hR6.below hb7
        obtain hlog7 : LogOn 64 (crashB D5 K L B5 L.length) 0 [] 0 0 := by
          rcases hC K L hLp with q | ⟨q1, _⟩
          · exact q
          · cases q1
        clear hC hR6 hbw6 hb7 hd6 hKp6 hLp
        go_wp2_with fail
        refine (wopen_at hd7 hlog7).mono ?_
        rintro e w8 ⟨lb8, sb8, rv, U, rfl, y1, y2, y3, hL8, _, hR8, hU8, hb8⟩
        have hbw8 := hbw7.trans (hb8.mono hbw7.size)
        have hW8 := (hR7.below hb8).toU
        obtain ⟨rp, rc, rfl⟩ := hR8.shape
        clear hbw7 hR7 hd7 hb8 hU8 hW8 hL8 hlog7 hR8
        go_wp2_with fail
        go_ret
        exact ⟨rfl, hbw8⟩
      · have hbw6 := hbw5
        have hR6 := hR5
        have hKp6 := hK.below hbw6
        clear hbw5 hR5
        go_wp2_with fail
        refine (crash_l hd5 (by omega) kc hKp6).mono ?_
        rintro e w7 ⟨L, db7, nb7, mb7, cap7, hLp, _, rfl, z1, z2, z3, hd7, hb7⟩
        have hs7 := hb7.size
        have hbw7 := hbw6.trans (hb7.mono hbw6.size)
        have hR7 := hR6.below hb7
        obtain ⟨R7, hR7c, hlog7⟩ : ∃ R7, (R7 = [] ∨ R7 = newR j) ∧ LogOn 64 (crashB D5 K L B5 L.length) 0 R7 0 0 := by
          rcases hC K L hLp with q | ⟨_, q⟩
          · exact ⟨_, Or.inl rfl, q⟩
          · exact ⟨_, Or.inr rfl, q⟩
        clear hC hR6 hbw6 hb7 hd5 hKp6 hLp
        go_wp2_with fail
        refine (wopen_at hd7 hlog7).mono ?_
        rintro e w8 ⟨lb8, sb8, rv, U, rfl, y1, y2, y3, hL8, _, hR8, hU8, hb8⟩
        have hbw8 := hbw7.trans (hb8.mono hbw7.size)
        have hW8 := (hR7.below hb8).toU
        obtain ⟨rp, rc, rfl⟩ := hR8.shape
        have HX : Hid (RecsU w8 U (.slice rp R7.length rc) R7 ∧ RecsU w8 (fun i => lo ≤ i ∧ i < w8.heap.size) u11 (newR j) ∧ Below w.heap.size w w8 ∧ (newR j).length ≤ 8) := ⟨hR8, hW8, hbw8, by rw [newR_len]; omega⟩
        clear hbw7 hR7 hd7 hb8 hU8 hW8 hL8 hlog7 hR8 hbw8
        by_cases h5 : R7.length = 0
        · have hb9 := HX.out.2.2.1
          have e5 : (((R7.length : Nat) : Int) == 0) = true := by simp; exact List.eq_nil_of_length_eq_zero h5
          clear HX h5 hR7c
          go_wp2_with fail
          go_ret
          exact ⟨rfl, hb9⟩
        · have e5 : (((R7.length : Nat) : Int) == 0) = false := by rw [beq_eq_false_iff_ne]; omega
          have e7 : R7 = newR j := by
            rcases hR7c with q | q
            · rw [q] at h5; exact absurd rfl h5
            · exact q
          have HQ : Hid (R7 = newR j) := e7
          have h8 : R7.length ≤ 8 := by rw [e7]; exact HX.out.2.2.2
          clear h5 hR7c e7
          go_wp2_with fail
          refine (records_at HX.out.1 HX.out.2.1 (by omega)).mono ?_
          rintro e w11 ⟨rfl, hsm⟩
          rw [decide_eq_true HQ.out]
          have hb11 : Below w.heap.size w w11 := HX.out.2.2.1.trans ((hsm.keeps (fun _ => False)).below HX.out.2.2.1.size (fun _ e => e.elim))
          clear HX hsm
          go_wp2_with fail
          go_ret
          exact ⟨rfl, hb11⟩
end Go.Proofs.YtlmdeafmlommeaaGreatDoor
