import Derived.Test.YtlmdeafmlommeaaGreatDoorLgB
import Derived.Test.YtlmdeafmlommeaaGreatDoorBgD
namespace Go.Proofs.YtlmdeafmlommeaaGreatDoor
open Go.RowKit Go.Maps

/-- The records of the rounds. -/
def cutR (m : Nat) (j : Nat) : List (List UInt8) := (List.range j).map fun i => textB m (UInt8.ofNat i)
theorem cutR_len (m j : Nat) : (cutR m j).length = j := by unfold cutR; simp
theorem cutR_succ (m j : Nat) : cutR m (j + 1) = cutR m j ++ [textB m (UInt8.ofNat j)] := by unfold cutR; rw [List.range_succ, List.map_append]; rfl
theorem cutR_enc (m j : Nat) : (encR (cutR m j)).length = j * (m + 2) := by
  induction j with
  | zero => simp [cutR, encR_nil]
  | succ j ih => rw [cutR_succ, encR_snoc_len, ih, textB_len, Nat.succ_mul]
/-- The loop's: the log holds the records, the list too. -/
def CutI (w wL wr : World) (db nb lb sb m : Nat) (v : Value) (j : Nat) : Prop :=
  ∃ mb k B, Seat w.heap.size wr db nb mb 128 128 k lb sb B ∧ k ≤ 10 ∧ LogOn 128 B 0 (cutR m j) 0 0 ∧ RecsAt wr wL.heap.size v (cutR m j) ∧ Below w.heap.size w wr ∧ wL.heap.size ≤ wr.heap.size
theorem ne_snoc {α : Type} (R : List α) (s : α) : ¬ (R = R ++ [s]) := fun e => by
  have := congrArg List.length e
  simp at this
set_option maxRecDepth 100000 in
set_option maxHeartbeats 4000000 in
theorem logCut_true (n0 s0 f0 : Int) (ka : Option Addr) (kl kc : Nat) (K : List Bool) (w : World) (hK : KeepB w w.heap.size ka kl K) (hg : w.cell? ⟨0, 0, none⟩ = some errType) :
    Calls Tryz.prog 8 #[.int .i64 n0, .int .i64 s0, .int .i64 f0, .slice ka kl kc] w fun e w' => e = .returned (.bool true) ∧ Below w.heap.size w w' := by
  have hr0 := rem_any n0 8 (by omega)
  have hr1 := rem_any s0 200 (by omega)
  have hr2 := rem_any f0 8 (by omega)
  go_enter Tryz.func8, Tryz.ntmps8
  go_wp2_with fail
  refine (begun4_true _ hg).mono ?_
  rintro e w1 ⟨rfl, hb1⟩
  clear hg
  have hs1 := hb1.size
  go_wp2_with fail
  obtain ⟨nn, hnn, hnn8⟩ : ∃ nn : Nat, (n0.tmod 8 + 8) % 8 = (nn : Int) ∧ nn < 8 := ⟨((n0.tmod 8 + 8) % 8).toNat, by omega, by omega⟩
  obtain ⟨m, hm, hm1, hm2⟩ : ∃ m : Nat, 1 + s0.tmod 200 % 200 = (m : Int) ∧ 1 ≤ m ∧ m ≤ 200 := ⟨(1 + s0.tmod 200 % 200).toNat, by omega, by omega, by omega⟩
  rw [hnn, hm]
  clear hnn hm hr0 hr1
  refine (new_at 128 w1 (by omega) (by omega)).mono ?_
  rintro e w2 ⟨db, nb, mb, rfl, l1, l2, l3, hd2, hb2⟩
  have hs2 := hb2.size
  have hbw2 : Below w.heap.size w w2 := hb1.trans (hb2.mono hs1)
  have hdl2 := hd2.dlt
  have hnl2 := hd2.nlt
  clear hb1 hb2
  go_wp2_with fail
  refine (wmake_seat (base := w.heap.size) hd2 (by omega) (by omega) ⟨by omega, by omega, by omega, by omega⟩).mono ?_
  rintro e w3 ⟨mb3, k3, B3, lb, sb, rfl, hS3, hk3, hlog3, hK3⟩
  have hs3 := hK3.size
  have hbw3 : Below w.heap.size w w3 := hbw2.trans (hK3.below (by omega) (fun i e => by omega))
  have hlt3 : db < w3.heap.size ∧ nb < w3.heap.size ∧ sb < w3.heap.size ∧ lb < w3.heap.size := ⟨hS3.d.dlt, hS3.d.nlt, hS3.s.lt, hS3.l.lt⟩
  have hI0 : Hid (CutI w w3 w3 db nb lb sb m (.slice none 0 0) 0) := ⟨mb3, k3, B3, hS3, by omega, hlog3, RecsAt.nil _ _, hbw3, Nat.le_refl _⟩
  have hs13 := hbw3.size
  clear hS3 hlog3 hK3 hbw3 hbw2 hd2
  go_wp2_with fail
  go_loopw [13, 14] (fun s13 s14 wr => ∃ j : Nat, j ≤ nn ∧ s14 = .int .i64 j ∧ Hid (CutI w w3 wr db nb lb sb m s13 j)) (fun _ s14 _ => nn - (RowKit.intOf s14).toNat)
  case atStart => exact ⟨0, Nat.zero_le _, rfl, hI0⟩
  case round => as_aux_lemma =>
    obtain ⟨j, hj, rfl, HI⟩ := hrel
    clear hI0
    by_cases hlt : j < nn
    · go_wp2_with fail
      refine (text_at m (UInt8.ofNat j) _ ?_ (by omega) _).mono ?_
      · rw [UInt8.toNat_ofNat']; omega
      rintro e w4 ⟨g, rfl, hg4, hB4, hb4⟩
      have hs4 := hb4.size
      obtain ⟨mbr, kr, Br, hSr, hkr, hlogr, hRr, hbr, hwr⟩ := HI.out
      have hS4 := hSr.keep hb4
      have hR4 := hRr.below hb4
      have hbw4 := hbr.trans (hb4.mono hbr.size)
      clear HI hSr hRr hbr
      go_wp2_with fail
      have hez : (encR (cutR m j)).length + (m + 2) ≤ ringN 128 := by
        rw [cutR_enc]
        have : j * (m + 2) ≤ 7 * 202 := Nat.mul_le_mul (by omega) (by omega)
        unfold ringN; omega
      refine (append_seat hS4 hlogr g 0 m (textB m (UInt8.ofNat j)) m (textB_len _ _) hm1 (by omega) hez hB4.range hbw4.size (by omega)).mono ?_
      rintro e w5 ⟨mb5, k5, B5, rfl, hS5, hk5, hlog5, hK5⟩
      have hs5 := hK5.size
      have hgl := hB4.lt
      have hR5 := hR4.keepM hK5 hS4.d.noRow (fun i h1 h2 => by unfold five at h2; omega)
      have hv5 : RecV w5 w3.heap.size (.slice (some ⟨g, 0, none⟩) m m) (textB m (UInt8.ofNat j)) := by
        have : RecV w4 w3.heap.size (.slice (some ⟨g, 0, none⟩) m m) (textB m (UInt8.ofNat j)) := ⟨g, m, by rw [textB_len], by rw [textB_len]; omega, by omega, hB4⟩
        exact this.keepM hK5 hS4.d.noRow (fun i h1 h2 => by unfold five at h2; omega)
      have hbw5 : Below w.heap.size w w5 := hbw4.trans (five_below hS4 hK5 hbw4.size)
      rw [← cutR_succ] at hlog5
      have hbA : Below w5.heap.size w5 (w5.alloc (.cells #[.slice (some ⟨g, 0, none⟩) m m] 34)) := (Below.refl _ _).alloc (Nat.le_refl _) _
      have hKA := Keeps.of_below (S := fun _ => False) hbA
      have HX : Hid (Seat w.heap.size (w5.alloc (.cells #[.slice (some ⟨g, 0, none⟩) m m] 34)) db nb mb5 128 128 k5 lb sb B5 ∧ LogOn 128 B5 0 (cutR m (j + 1)) 0 0 ∧ RecsAt (w5.alloc (.cells #[.slice (some ⟨g, 0, none⟩) m m] 34)) w3.heap.size u13 (cutR m j) ∧ RecV (w5.alloc (.cells #[.slice (some ⟨g, 0, none⟩) m m] 34)) w3.heap.size (.slice (some ⟨g, 0, none⟩) m m) (textB m (UInt8.ofNat j)) ∧ Below w.heap.size w (w5.alloc (.cells #[.slice (some ⟨g, 0, none⟩) m m] 34))) := ⟨hS5.keep hbA, hlog5, hR5.below hbA, hv5.keep hKA (fun _ _ e => e), hbw5.alloc hbw5.size _⟩
      have hc5 : (w5.alloc (.cells #[.slice (some ⟨g, 0, none⟩) m m] 34)).cell? ⟨w5.heap.size, 0, none⟩ = some (.slice (some ⟨g, 0, none⟩) m m) := by rw [cell_of_row _ _ 0 _ 34 (0, 0) (heap_alloc_last w5 _)]; rfl
      have hs5A : w3.heap.size ≤ (w5.alloc (.cells #[.slice (some ⟨g, 0, none⟩) m m] 34)).heap.size := by simp; omega
      have hcl : (cutR m j).length ≤ 100000 := by rw [cutR_len]; omega
      clear hS5 hlog5 hR5 hv5 hbw5 hK5 hS4 hR4 hbw4 hlogr hez hB4 hbA hKA hb4
      go_wp2_with (at_builtin; refine wpList_append_rec rfl _ _ rfl w3.heap.size _ (cutR m j) rfl HX.out.2.2.1 w5.heap.size _ (textB m (UInt8.ofNat j)) rfl hc5 HX.out.2.2.2.1 hs5A hcl ?_)
      intro v1 w6 hr6 hg6 _
      have HN : Hid (CutI w w3 w6 db nb lb sb m v1 (j + 1)) := by
        obtain ⟨x1, x2, x3, x4, x5⟩ := HX.out
        have hk6 := (x3.grownKeeps hg6).1
        have hz6 := hk6.size
        rw [← cutR_succ] at hr6
        exact ⟨mb5, k5, B5, x1.grownR x3 hg6 hlt3, by omega, x2, hr6, x5.trans (hk6.below x5.size (fun i h => by omega)), by omega⟩
      clear HX hc5 hr6 hg6 hs5A hcl
      go_wp2_with fail
      exact ⟨⟨j + 1, by omega, by go_num, HN⟩, by simp [RowKit.intOf]; omega⟩
    · obtain rfl : j = nn := by omega
      obtain ⟨mbr, kr, Br, hSr, hkr, hlogr, hRr, hbr, hwr⟩ := HI.out
      clear HI
      go_wp2_with fail
      have hfb : f0.tmod 8 % 8 ≤ 9223372036854775807 := by omega
      generalize f0.tmod 8 % 8 = ff at hfb ⊢
      refine (fuse_any hSr.d ff hfb).mono ?_
      rintro e w4 ⟨rfl, hd4, hk4⟩
      have hs4 := hk4.size
      have hlow := hSr.low
      have hl4 := hSr.l.keeps hk4 (by have := hSr.nl; omega)
      have hsl4 := hSr.s.keeps hk4 (by have := hSr.ne; omega)
      have hbw4 : Below w.heap.size w w4 := hbr.trans (hk4.below hbr.size (fun i e => by omega))
      have hR4 := hRr.keep hk4 (fun i h1 h2 => by omega)
      have hne := hSr.ne
      have hnl := hSr.nl
      clear hk4 hSr hRr hbr
      go_wp2_with fail
      refine (text_at m 200 _ rfl (by omega) _).mono ?_
      rintro e w5 ⟨g, rfl, hg5, hB5, hb5⟩
      have hs5 := hb5.size
      have hK5 := Keeps.of_below (S := fun _ => False) hb5
      have hl5 := hl4.keeps hK5 (fun e => e)
      have hsl5 := hsl4.keeps hK5 (fun e => e)
      have hd5 := hd4.keeps hK5 (fun e => e) (fun e => e) (fun e => e)
      have hR5 := hR4.below hb5
      have hbw5 := hbw4.trans (hb5.mono hbw4.size)
      have dl4 := hd4.dlt
      have nl4 := hd4.nlt
      have ml4 := hd4.mlt
      have ll4 := hl4.lt
      have sl4 := hsl4.lt
      clear hl4 hsl4 hd4 hR4 hbw4 hb5 hK5
      go_wp2_with fail
      have hez : (encR (cutR m j)).length + (m + 2) ≤ ringN 128 := by
        rw [cutR_enc]
        have : j * (m + 2) ≤ 7 * 202 := Nat.mul_le_mul (by omega) (by omega)
        unfold ringN; omega
      refine (append_cut hl5 hd5 hsl5 hne hnl (by omega) hlogr g 0 m (textB m 200) m (textB_len _ _) hm1 (by omega) hez hB5.range).mono ?_
      rintro e w6 ⟨code, mb6, k6, B6, D6, left6, down6, rfl, hd6, hk6, hm6, hK6, hcode, hC⟩
      have hs6 := hK6.size
      have hR6 := hR5.keepM hK6 hd5.noRow (fun i h1 h2 => by unfold five at h2; omega)
      have hv6 : RecV w6 w3.heap.size (.slice (some ⟨g, 0, none⟩) m m) (textB m 200) := by
        have : RecV w5 w3.heap.size (.slice (some ⟨g, 0, none⟩) m m) (textB m 200) := ⟨g, m, by rw [textB_len], by rw [textB_len]; omega, by omega, hB5⟩
        exact this.keepM hK6 hd5.noRow (fun i h1 h2 => by unfold five at h2; omega)
      have hbw6 : Below w.heap.size w w6 := hbw5.trans (hK6.below hbw5.size (fun i e => by unfold five at e; omega))
      have hKp6 := hK.below hbw6
      clear hl5 hsl5 hd5 hR5 hbw5 hK6 hB5 hez
      go_wp2_with fail
      refine (crash_l hd6 (by omega) kc hKp6).mono ?_
      rintro e w7 ⟨L, db7, nb7, mb7, cap7, hLp, _, rfl, z1, z2, z3, hd7, hb7⟩
      have hs7 := hb7.size
      have hK7 := Keeps.of_below (S := fun _ => False) hb7
      have hbw7 := hbw6.trans (hb7.mono hbw6.size)
      have hR7 := hR6.below hb7
      have hv7 := hv6.keep hK7 (fun _ _ e => e)
      obtain ⟨R7, hR7c, hlog7⟩ : ∃ R7, (R7 = cutR m j ++ [textB m 200] ∨ code = 9 ∧ R7 = cutR m j) ∧ LogOn 128 (crashB D6 K L B6 L.length) 0 R7 0 0 := by
        rcases hC K L hLp with q | ⟨q1, q2⟩
        · exact ⟨_, Or.inl rfl, q⟩
        · exact ⟨_, Or.inr ⟨q1, rfl⟩, q2⟩
      have hcode7 : code = 0 ∨ code = 9 ∧ LgAt w7 lb db 128 sb true 0 (encR (cutR m j)).length 0 0 := by
        rcases hcode with q | ⟨q1, q2⟩
        · exact Or.inl q
        · exact Or.inr ⟨q1, q2.keeps hK7 (fun e => e)⟩
      clear hC hcode hR6 hv6 hbw6 hK7 hb7 hd6 hKp6
      go_wp2_with fail
      refine (wopen_at hd7 hlog7).mono ?_
      rintro e w8 ⟨lb8, sb8, rv, U, rfl, y1, y2, y3, _, _, hR8, hU8, hb8⟩
      have hs8 := hb8.size
      have hK8 := Keeps.of_below (S := fun _ => False) hb8
      have hbw8 := hbw7.trans (hb8.mono hbw7.size)
      have hW8 := hR7.below hb8
      have hv8 := hv7.keep hK8 (fun _ _ e => e)
      have hcode8 : code = 0 ∨ code = 9 ∧ LgAt w8 lb db 128 sb true 0 (encR (cutR m j)).length 0 0 := by
        rcases hcode7 with q | ⟨q1, q2⟩
        · exact Or.inl q
        · exact Or.inr ⟨q1, q2.keeps hK8 (fun e => e)⟩
      have hcl : (cutR m j).length ≤ 1000 := by rw [cutR_len]; omega
      have hs38 : w3.heap.size ≤ w8.heap.size := by omega
      have HX : Hid (RecsU w8 U rv R7 ∧ (∀ i, U i → i < w8.heap.size) ∧ RecsAt w8 w3.heap.size u13 (cutR m j) ∧ RecV w8 w3.heap.size (.slice (some ⟨g, 0, none⟩) m m) (textB m 200) ∧ Below w.heap.size w w8 ∧ (cutR m j).length ≤ 1000) := ⟨hR8, fun i hi => (hU8 i hi).2.1, hW8, hv8, hbw8, hcl⟩
      clear hR8 hU8 hW8 hv8 hbw8 hbw7 hR7 hv7 hcode7 hd7 hlog7 hK8 hb8 hlogr hLp
      generalize hQ : cutR m j = Q at *
      have HF : Hid (∀ v9 w9, RecsAt w9 w3.heap.size v9 Q → w8.grownBy w9 none → (v9.ownBlock = none ∨ v9.ownBlock = some w8.heap.size) → RecsAt (w9.alloc (.cells #[.slice (some ⟨g, 0, none⟩) m m] 34)) w3.heap.size v9 Q ∧ RecV (w9.alloc (.cells #[.slice (some ⟨g, 0, none⟩) m m] 34)) w3.heap.size (.slice (some ⟨g, 0, none⟩) m m) (textB m 200) ∧ (w9.alloc (.cells #[.slice (some ⟨g, 0, none⟩) m m] 34)).cell? ⟨w9.heap.size, 0, none⟩ = some (.slice (some ⟨g, 0, none⟩) m m) ∧ w3.heap.size ≤ (w9.alloc (.cells #[.slice (some ⟨g, 0, none⟩) m m] 34)).heap.size ∧ ∀ v10 w10, RecsAt w10 w3.heap.size v10 (Q ++ [textB m 200]) → (w9.alloc (.cells #[.slice (some ⟨g, 0, none⟩) m m] 34)).grownBy w10 v9.ownBlock → RecsU w10 U rv R7 ∧ RecsU w10 (fun i => w3.heap.size ≤ i ∧ i < w8.heap.size) u13 Q ∧ RecsU w10 (fun i => w3.heap.size ≤ i ∧ i < w10.heap.size) v10 (Q ++ [textB m 200]) ∧ Below w.heap.size w w10) := by
        intro v9 w9 h1 h2 h3
        obtain ⟨x1, x2, x3, x4, x5, _⟩ := HX.out
        have hk9 : Keeps (fun _ => False) w8 w9 := (Keeps.refl _ w8).grown h2 (fun k e => by cases e)
        have hbA : Below w9.heap.size w9 (w9.alloc (.cells #[.slice (some ⟨g, 0, none⟩) m m] 34)) := (Below.refl _ _).alloc (Nat.le_refl _) _
        have hkA : Keeps (fun _ => False) w8 (w9.alloc (.cells #[.slice (some ⟨g, 0, none⟩) m m] 34)) := hk9.trans (Keeps.of_below hbA)
        have hzA := hkA.size
        refine ⟨h1.below hbA, x4.keep hkA (fun _ _ e => e), by rw [cell_of_row _ _ 0 _ 34 (0, 0) (heap_alloc_last w9 _)]; rfl, by omega, fun v10 w10 h4 h5 => ?_⟩
        have hk10 : Keeps (fun i => i = w8.heap.size) w8 w10 := (hkA.mono (fun _ e => e.elim)).grown h5 (fun k e => by rcases h3 with q | q <;> rw [q] at e <;> cases e; rfl)
        refine ⟨x1.keep hk10 (fun i hi e => by have := x2 i hi; omega), x3.toU.keep hk10 (fun i hi e => by omega), h4.toU, x5.trans (hk10.below x5.size (fun i e => by have := x5.size; omega))⟩
      rcases hcode8 with rfl | ⟨rfl, hLg⟩
      · obtain rfl : R7 = Q ++ [textB m 200] := by
          rcases hR7c with q | ⟨q, _⟩
          · exact q
          · cases q
        clear hR7c
        go_wp2_with (at_builtin; refine wpList_append_recs rfl _ _ rfl w3.heap.size _ _ [] Q rfl (RecsAt.nil _ _) rfl HX.out.2.2.1 hs38 ?hcl1 ?_)
        case hcl1 => simp only [List.length_nil]; omega
        intro v9 w9 h1 h2 h3
        obtain ⟨a1, a2, a3, a4, a5⟩ := HF.out v9 w9 h1 h2 h3
        have HA : Hid (RecsAt (w9.alloc (.cells #[.slice (some ⟨g, 0, none⟩) m m] 34)) w3.heap.size v9 Q ∧ RecV (w9.alloc (.cells #[.slice (some ⟨g, 0, none⟩) m m] 34)) w3.heap.size (.slice (some ⟨g, 0, none⟩) m m) (textB m 200)) := ⟨a1, a2⟩
        have HG : Hid (∀ v10 w10, RecsAt w10 w3.heap.size v10 (Q ++ [textB m 200]) → (w9.alloc (.cells #[.slice (some ⟨g, 0, none⟩) m m] 34)).grownBy w10 v9.ownBlock → RecsU w10 U rv (Q ++ [textB m 200]) ∧ RecsU w10 (fun i => w3.heap.size ≤ i ∧ i < w8.heap.size) u13 Q ∧ RecsU w10 (fun i => w3.heap.size ≤ i ∧ i < w10.heap.size) v10 (Q ++ [textB m 200]) ∧ Below w.heap.size w w10) := a5
        clear HF h1 h2 h3 a1 a2 a5 HX
        go_wp2_with (at_builtin; refine wpList_append_rec rfl _ _ rfl w3.heap.size v9 Q rfl HA.out.1 w9.heap.size _ (textB m 200) rfl a3 HA.out.2 a4 (by omega) ?_)
        intro v10 w10 h4 h5 _
        obtain ⟨b1, b2, b3, b4⟩ := HG.out v10 w10 h4 h5
        have HB : Hid (RecsU w10 U rv (Q ++ [textB m 200]) ∧ RecsU w10 (fun i => w3.heap.size ≤ i ∧ i < w8.heap.size) u13 Q ∧ RecsU w10 (fun i => w3.heap.size ≤ i ∧ i < w10.heap.size) v10 (Q ++ [textB m 200]) ∧ Below w.heap.size w w10) := ⟨b1, b2, b3, b4⟩
        clear HG HA a3 a4 h4 h5 b1 b2 b3 b4
        go_wp2_with fail
        refine (records_at HB.out.1 HB.out.2.2.1 (by simp only [List.length_append, List.length_singleton]; omega)).mono ?_
        rintro e w11 ⟨rfl, hsm⟩
        rw [decide_eq_true rfl]
        have hb11 : Below w.heap.size w w11 := HB.out.2.2.2.trans ((hsm.keeps (fun _ => False)).below HB.out.2.2.2.size (fun _ e => e.elim))
        clear HB hsm
        go_wp2_with fail
        go_ret
        exact ⟨rfl, hb11⟩
      · go_wp2_with fail
        refine (append_over hLg _).mono ?_
        rintro e w8' ⟨rfl, hw8⟩
        replace hw8 := hw8.symm
        subst hw8
        clear hLg
        go_wp2_with (at_builtin; refine wpList_append_recs rfl _ _ rfl w3.heap.size _ _ [] Q rfl (RecsAt.nil _ _) rfl HX.out.2.2.1 hs38 ?hcl1 ?_)
        case hcl1 => simp only [List.length_nil]; omega
        intro v9 w9 h1 h2 h3
        obtain ⟨a1, a2, a3, a4, a5⟩ := HF.out v9 w9 h1 h2 h3
        have HA : Hid (RecsAt (w9.alloc (.cells #[.slice (some ⟨g, 0, none⟩) m m] 34)) w3.heap.size v9 Q ∧ RecV (w9.alloc (.cells #[.slice (some ⟨g, 0, none⟩) m m] 34)) w3.heap.size (.slice (some ⟨g, 0, none⟩) m m) (textB m 200)) := ⟨a1, a2⟩
        have HG : Hid (∀ v10 w10, RecsAt w10 w3.heap.size v10 (Q ++ [textB m 200]) → (w9.alloc (.cells #[.slice (some ⟨g, 0, none⟩) m m] 34)).grownBy w10 v9.ownBlock → RecsU w10 U rv R7 ∧ RecsU w10 (fun i => w3.heap.size ≤ i ∧ i < w8.heap.size) u13 Q ∧ RecsU w10 (fun i => w3.heap.size ≤ i ∧ i < w10.heap.size) v10 (Q ++ [textB m 200]) ∧ Below w.heap.size w w10) := a5
        clear HF h1 h2 h3 a1 a2 a5 HX
        go_wp2_with (at_builtin; refine wpList_append_rec rfl _ _ rfl w3.heap.size v9 Q rfl HA.out.1 w9.heap.size _ (textB m 200) rfl a3 HA.out.2 a4 (by omega) ?_)
        intro v10 w10 h4 h5 _
        obtain ⟨b1, b2, b3, b4⟩ := HG.out v10 w10 h4 h5
        have HB : Hid (RecsU w10 U rv R7 ∧ RecsU w10 (fun i => w3.heap.size ≤ i ∧ i < w8.heap.size) u13 Q ∧ RecsU w10 (fun i => w3.heap.size ≤ i ∧ i < w10.heap.size) v10 (Q ++ [textB m 200]) ∧ Below w.heap.size w w10) := ⟨b1, b2, b3, b4⟩
        clear HG HA a3 a4 h4 h5 b1 b2 b3 b4
        go_wp2_with fail
        rcases hR7c with q | ⟨_, q⟩
        · subst q
          refine (records_at HB.out.1 HB.out.2.2.1 (by simp only [List.length_append, List.length_singleton]; omega)).mono ?_
          rintro e w11 ⟨rfl, hsm⟩
          rw [decide_eq_true rfl]
          have hb11 : Below w.heap.size w w11 := HB.out.2.2.2.trans ((hsm.keeps (fun _ => False)).below HB.out.2.2.2.size (fun _ e => e.elim))
          clear HB hsm
          go_wp2_with fail
          go_ret
          exact ⟨rfl, hb11⟩
        · subst q
          refine (records_at HB.out.1 HB.out.2.2.1 (by omega)).mono ?_
          rintro e w11 ⟨rfl, hsm⟩
          rw [decide_eq_false (ne_snoc _ _)]
          have hk11 := hsm.keeps (fun _ => False)
          have HC : Hid (RecsU w11 U rv R7 ∧ RecsU w11 (fun i => w3.heap.size ≤ i ∧ i < w8.heap.size) u13 R7 ∧ Below w.heap.size w w11) := ⟨HB.out.1.keep hk11 (fun _ _ e => e), HB.out.2.1.keep hk11 (fun _ _ e => e), HB.out.2.2.2.trans (hk11.below HB.out.2.2.2.size (fun _ e => e.elim))⟩
          clear HB hsm hk11
          go_wp2_with fail
          refine (records_at HC.out.1 HC.out.2.1 (by omega)).mono ?_
          rintro e w12 ⟨rfl, hsm⟩
          rw [decide_eq_true rfl]
          have hb12 : Below w.heap.size w w12 := HC.out.2.2.trans ((hsm.keeps (fun _ => False)).below HC.out.2.2.size (fun _ e => e.elim))
          clear HC hsm
          go_wp2_with fail
          go_ret
          exact ⟨rfl, hb12⟩
end Go.Proofs.YtlmdeafmlommeaaGreatDoor
