import Derived.Test.YtlmdeafmlommeaaGreatDoorLgC
import Derived.Test.YtlmdeafmlommeaaGreatDoorBgD
namespace Go.Proofs.YtlmdeafmlommeaaGreatDoor
open Go.RowKit Go.Maps

/-- The records of the rounds. -/
def resR (j : Nat) : List (List UInt8) := (List.range j).map fun i => textB (9 + i) (UInt8.ofNat i)
theorem resR_len (j : Nat) : (resR j).length = j := by unfold resR; simp
theorem resR_succ (j : Nat) : resR (j + 1) = resR j ++ [textB (9 + j) (UInt8.ofNat j)] := by unfold resR; rw [List.range_succ, List.map_append]; rfl
theorem resR_enc (j : Nat) (h : j ≤ 8) : (encR (resR j)).length ≤ j * 20 := by
  induction j with
  | zero => simp [resR, encR_nil]
  | succ j ih => rw [resR_succ, encR_snoc_len, textB_len]; have := ih (by omega); omega
/-- The loop's. -/
def ResI (lo : Nat) (w wr : World) (db nb lb sb : Nat) (v : Value) (j : Nat) : Prop :=
  ∃ mb k B a, k ≤ 10 ∧ CutS w.heap.size lo 128 w wr db nb mb 128 k lb sb B 0 false v a (resR j) (resR j) 3 4
set_option maxRecDepth 100000 in
set_option maxHeartbeats 4000000 in
theorem logReset_true (n0 f0 x y : Int) (hx : -9223372036854775808 ≤ x ∧ x ≤ 9223372036854775807) (hy : -9223372036854775808 ≤ y ∧ y ≤ 9223372036854775807) (ka : Option Addr) (kl kc : Nat) (K : List Bool) (w : World) (hK : KeepB w w.heap.size ka kl K) (hg : w.cell? ⟨0, 0, none⟩ = some errType) :
    Calls Tryz.prog 9 #[.int .i64 n0, .int .i64 x, .int .i64 y, .int .i64 f0, .slice ka kl kc] w fun e w' => e = .returned (.bool true) ∧ Below w.heap.size w w' := by
  have hr0 := rem_any n0 8 (by omega)
  have hr2 := rem_any f0 5 (by omega)
  have hfxy : AllFit [x, y] := fun v hv => by
    simp only [List.mem_cons, List.not_mem_nil, or_false] at hv
    rcases hv with rfl | rfl
    · exact hx
    · exact hy
  go_enter Tryz.func9, Tryz.ntmps9
  go_wp2_with fail
  refine (begun4_true _ hg).mono ?_
  rintro e w1 ⟨rfl, hb1⟩
  clear hg
  have hs1 := hb1.size
  go_wp2_with fail
  obtain ⟨nn, hnn, hnn8⟩ : ∃ nn : Nat, (n0.tmod 8 + 8) % 8 = (nn : Int) ∧ nn < 8 := ⟨((n0.tmod 8 + 8) % 8).toNat, by omega, by omega⟩
  rw [hnn]
  clear hnn hr0
  refine (new_at 128 w1 (by omega) (by omega)).mono ?_
  rintro e w2 ⟨db, nb, mb, rfl, l1, l2, l3, hd2, hb2⟩
  have hs2 := hb2.size
  have hbw2 : Below w.heap.size w w2 := hb1.trans (hb2.mono hs1)
  clear hb1 hb2
  go_wp2_with fail
  refine (wmake_seat (base := w.heap.size) hd2 (by omega) (by omega) ⟨by omega, by omega, by omega, by omega⟩).mono ?_
  rintro e w3 ⟨mb3, k3, B3, lb, sb, rfl, hS3, hk3, hlog3, hK3⟩
  have hs3 := hK3.size
  have hbw3 : Below w.heap.size w w3 := hbw2.trans (hK3.below (by omega) (fun i e => by omega))
  clear hK3 hbw2 hd2
  go_wp2_with fail
  have hf34 : AllFit [3, 4] := fun q hq => by simp at hq; omega
  refine (reset_seat hS3 hlog3 3 4 hf34 hbw3.size (by omega)).mono ?_
  rintro e w3' ⟨mb4, k4, B4, a4, rfl, hS4, hk4, hlog4, hK4⟩
  have hs4 := hK4.size
  have hbw4 : Below w.heap.size w w3' := hbw3.trans (five_below hS3 hK4 hbw3.size)
  obtain ⟨lo, hlo⟩ : ∃ lo, lo = w3'.heap.size := ⟨_, rfl⟩
  have hI0 : Hid (ResI lo w w3' db nb lb sb (.slice none 0 0) 0) := by
    rw [hlo]
    exact ⟨mb4, k4, B4, a4, by omega, CutS.start hS4 hlog4 hbw4 hbw4.size⟩
  clear hS3 hlog3 hbw3 hS4 hlog4 hK4 hbw4 hlo
  go_wp2_with fail
  go_loopw [15, 16] (fun s15 s16 wr => ∃ j : Nat, j ≤ nn ∧ s16 = .int .i64 j ∧ Hid (ResI lo w wr db nb lb sb s15 j)) (fun _ s16 _ => nn - (RowKit.intOf s16).toNat)
  case atStart => exact ⟨0, Nat.zero_le _, rfl, hI0⟩
  case round => as_aux_lemma =>
    obtain ⟨j, hj, rfl, HI⟩ := hrel
    clear hI0
    by_cases hlt : j < nn
    · go_wp2_with fail
      refine (text_at (9 + j) (UInt8.ofNat j) _ ?_ (by omega) _).mono ?_
      · rw [UInt8.toNat_ofNat']; omega
      rintro e w4 ⟨g, rfl, hg4, hB4, hb4⟩
      obtain ⟨mbr, kr, Br, ar, hkr, hSr⟩ := HI.out
      have hS4 := hSr.keep hb4
      have hlo := hSr.sz
      clear HI hSr
      go_wp2_with fail
      have hez : (encR (resR j)).length + (9 + j + 2) ≤ ringN 128 := by
        have := resR_enc j (by omega)
        unfold ringN; omega
      refine (hS4.append (by omega) hB4 (textB_len _ _) (by omega) (by omega) (Nat.le_refl _) (by omega) hez).mono ?_
      rintro e w5 ⟨rfl, mb5, k5, B5, hk5, hS5, hv5⟩
      rw [← resR_succ] at hS5
      obtain ⟨x1, x2, hc5, hlo5⟩ := hS5.boxed hv5
      have HX : Hid (CutS w.heap.size lo 128 w (w5.alloc (.cells #[.slice (some ⟨g, 0, none⟩) (9 + j) (9 + j)] 34)) db nb mb5 128 k5 lb sb B5 0 false u15 ar (resR (j + 1)) (resR j) 3 4 ∧ RecV (w5.alloc (.cells #[.slice (some ⟨g, 0, none⟩) (9 + j) (9 + j)] 34)) lo (.slice (some ⟨g, 0, none⟩) (9 + j) (9 + j)) (textB (9 + j) (UInt8.ofNat j))) := ⟨x1, x2⟩
      have hcl : (resR j).length ≤ 100000 := by rw [resR_len]; omega
      clear x1 x2 hS5 hv5 hS4 hB4 hez hb4
      go_wp2_with (at_builtin; refine wpList_append_rec rfl _ _ rfl lo _ (resR j) rfl HX.out.1.rcs w5.heap.size _ (textB (9 + j) (UInt8.ofNat j)) rfl hc5 HX.out.2 hlo5 hcl ?_)
      intro v1 w6 hr6 hg6 _
      have HN : Hid (ResI lo w w6 db nb lb sb v1 (j + 1)) := by
        rw [← resR_succ] at hr6
        exact ⟨mb5, k5, B5, ar, by omega, HX.out.1.list hr6 hg6⟩
      clear HX hc5 hr6 hg6 hlo5 hcl
      go_wp2_with fail
      exact ⟨⟨j + 1, by omega, by go_num, HN⟩, by simp [RowKit.intOf]; omega⟩
    · obtain rfl : j = nn := by omega
      obtain ⟨mbr, kr, Br, ar, hkr, hSr⟩ := HI.out
      clear HI
      go_wp2_with fail
      have hfb : f0.tmod 5 % 5 ≤ 9223372036854775807 := by omega
      generalize f0.tmod 5 % 5 = ff at hfb ⊢
      refine (hSr.fuse ff hfb).mono ?_
      rintro e w4 ⟨rfl, hS4⟩
      clear hSr
      go_wp2_with fail
      refine (reset_cut hS4.l hS4.d hS4.s hS4.ne hS4.nl (by omega) hS4.log x y hfxy).mono ?_
      rintro e w6 ⟨code, mb6, k6, B6, D6, left6, down6, rfl, hd6, hk6, hm6, hK6, hcode, hC⟩
      have h4s := hS4.sz
      have h44 := hS4.four
      have h4l := hS4.low
      have hR6 := hS4.rcs.keepM hK6 hS4.d.noRow (fun i h1 h2 => by unfold five at h2; omega)
      have hbw6 : Below w.heap.size w w6 := hS4.bel.trans (hK6.below (by omega) (fun i e => by unfold five at e; omega))
      have hKp6 := hK.below hbw6
      clear hS4 hK6
      go_wp2_with fail
      refine (crash_l hd6 (by omega) kc hKp6).mono ?_
      rintro e w7 ⟨L, db7, nb7, mb7, cap7, hLp, _, rfl, z1, z2, z3, hd7, hb7⟩
      have hs7 := hb7.size
      have hbw7 := hbw6.trans (hb7.mono hbw6.size)
      have hR7 := hR6.below hb7
      obtain ⟨R7, a7, x7, y7, hR7c, hlog7⟩ : ∃ R7 a7 x7 y7, (R7 = [] ∧ x7 = x ∧ y7 = y ∨ code = 9 ∧ R7 = resR j ∧ x7 = 3 ∧ y7 = 4) ∧ LogOn 128 (crashB D6 K L B6 L.length) a7 R7 x7 y7 := by
        rcases hC K L hLp with ⟨a', q⟩ | ⟨q1, q2⟩
        · exact ⟨_, _, _, _, Or.inl ⟨rfl, rfl, rfl⟩, q⟩
        · exact ⟨_, _, _, _, Or.inr ⟨q1, rfl, rfl, rfl⟩, q2⟩
      clear hC hR6 hbw6 hb7 hd6 hKp6 hLp
      go_wp2_with fail
      refine (wopen_at hd7 hlog7).mono ?_
      rintro e w8 ⟨lb8, sb8, rv, U, rfl, y1, y2, y3, hL8, _, hR8, hU8, hb8⟩
      have hbw8 := hbw7.trans (hb8.mono hbw7.size)
      have hW8 := (hR7.below hb8).toU
      have hd8 := hd7.keeps (Keeps.of_below (S := fun _ => False) hb8) (fun e => e) (fun e => e) (fun e => e)
      clear hbw7 hR7 hd7 hb8 hU8
      go_wp2_with fail
      refine (area_at hL8 hd8 a7 (encR R7).length x7 y7 hlog7.tl hlog7.al hlog7.sz).mono ?_
      rintro e w9 ⟨rfl, hb9⟩
      have hK9 := Keeps.of_below (S := fun _ => False) hb9
      obtain ⟨rp, rc, rfl⟩ := hR8.shape
      have HX : Hid (RecsU w9 U (.slice rp R7.length rc) R7 ∧ RecsU w9 (fun i => lo ≤ i ∧ i < w8.heap.size) u15 (resR j) ∧ Below w.heap.size w w9) := ⟨hR8.keep hK9 (fun _ _ e => e), hW8.keep hK9 (fun _ _ e => e), hbw8.trans (hb9.mono hbw8.size)⟩
      have hQ : (resR j).length = j := resR_len j
      clear hR8 hW8 hbw8 hL8 hd8 hlog7 hb9 hK9 hfxy
      generalize resR j = Q at *
      rcases hR7c with ⟨rfl, rfl, rfl⟩ | ⟨rfl, rfl, rfl, rfl⟩
      · have hb9 := HX.out.2.2
        clear HX hcode hQ
        go_wp2_with fail
        go_ret
        exact ⟨rfl, hb9⟩
      · clear hcode
        have hQ8 : R7.length ≤ 8 := by omega
        clear hQ
        by_cases h3 : x = 3
        · subst h3
          by_cases h4 : y = 4
          · subst h4
            by_cases h5 : R7.length = 0
            · have hb9 := HX.out.2.2
              clear HX
              have e5 : (((R7.length : Nat) : Int) == 0) = true := by simp; exact List.eq_nil_of_length_eq_zero h5
              clear h5
              go_wp2_with fail
              go_ret
              exact ⟨rfl, hb9⟩
            · have e5 : (((R7.length : Nat) : Int) == 0) = false := by rw [beq_eq_false_iff_ne]; omega
              clear h5
              go_wp2_with fail
              refine (records_at HX.out.1 HX.out.2.1 (by omega)).mono ?_
              rintro e w11 ⟨rfl, hsm⟩
              rw [decide_eq_true rfl]
              have hb11 : Below w.heap.size w w11 := HX.out.2.2.trans ((hsm.keeps (fun _ => False)).below HX.out.2.2.size (fun _ e => e.elim))
              clear HX hsm
              go_wp2_with fail
              go_ret
              exact ⟨rfl, hb11⟩
          · have e4 : ((4 : Int) == y) = false := by rw [beq_eq_false_iff_ne]; omega
            clear h4
            go_wp2_with fail
            refine (records_at HX.out.1 HX.out.2.1 (by omega)).mono ?_
            rintro e w11 ⟨rfl, hsm⟩
            rw [decide_eq_true rfl]
            have hb11 : Below w.heap.size w w11 := HX.out.2.2.trans ((hsm.keeps (fun _ => False)).below HX.out.2.2.size (fun _ e => e.elim))
            clear HX hsm
            go_wp2_with fail
            go_ret
            exact ⟨rfl, hb11⟩
        · have e3 : ((3 : Int) == x) = false := by rw [beq_eq_false_iff_ne]; omega
          clear h3
          go_wp2_with fail
          refine (records_at HX.out.1 HX.out.2.1 (by omega)).mono ?_
          rintro e w11 ⟨rfl, hsm⟩
          rw [decide_eq_true rfl]
          have hb11 : Below w.heap.size w w11 := HX.out.2.2.trans ((hsm.keeps (fun _ => False)).below HX.out.2.2.size (fun _ e => e.elim))
          clear HX hsm
          go_wp2_with fail
          go_ret
          exact ⟨rfl, hb11⟩
end Go.Proofs.YtlmdeafmlommeaaGreatDoor
