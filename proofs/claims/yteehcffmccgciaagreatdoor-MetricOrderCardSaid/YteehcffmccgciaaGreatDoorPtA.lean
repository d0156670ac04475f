import Derived.Test.YteehcffmccgciaaGreatDoorPlA
import Derived.Test.YteehcffmccgciaaGreatDoorBgE
namespace Go.Proofs.YteehcffmccgciaaGreatDoor
open Go.RowKit Go.Maps

/-- Pairs of numbers that a slice reads. -/
def PairsAt (w : World) (a : Option Addr) (m : Nat) : Prop := ∀ j, j < m → ∃ (b o : Nat) (x y : Int), a = some ⟨b, o, none⟩ ∧ b < w.heap.size ∧ (-9223372036854775808 ≤ x ∧ x ≤ 9223372036854775807) ∧ (-9223372036854775808 ≤ y ∧ y ≤ 9223372036854775807) ∧
  w.cell? ⟨b, o + j * 2, none⟩ = some (.int .i64 x) ∧ w.cell? ⟨b, o + j * 2 + 1, none⟩ = some (.int .i64 y)
theorem mod_form (y m : Int) (h0 : 0 < m) (h1 : m ≤ 1000000) : (IntKind.i64.wrap (y.tmod m + m)).tmod m = y.tmod m % m := by
  have := rem_any y m h0
  rw [wrap_i64_id _ (by omega) (by omega), Int.tmod_eq_emod_of_nonneg (by omega), Int.add_emod_right]
theorem sizeL_low {L : List (Option Int)} {o k : Int} (h : ∀ x, some x ∈ L → x < 10) (ho : o < 10) : ∀ x, some x ∈ (sizeL L o k).1 → x < 10 := by
  intro x hx
  rcases sizeL_mem hx with rfl | hx
  · exact ho
  · exact h x hx
theorem ofL_none {L : List (Option Int)} {o : Int} (h : ∀ x, some x ∈ L → x < 10) (ho : 10 ≤ o) : ofL L o = [] := by
  cases hq : ofL L o with
  | nil => rfl
  | cons i r =>
    have hm : i ∈ ofL L o := by rw [hq]; exact List.mem_cons_self ..
    obtain ⟨_, x, hx, hp⟩ := (idxs_mem _ _ _ _).1 hm
    have : x = some o := by simpa [isO] using hp
    subst this
    have := h o (List.mem_of_getElem? hx)
    omega
set_option maxRecDepth 100000 in
set_option maxHeartbeats 4000000 in
theorem poolTurn_true (n0 : Int) (oa : Option Addr) (om oc : Nat) (o0 k0 : Int) (w : World) (hO : PairsAt w oa om) (hg : w.cell? ⟨0, 0, none⟩ = some errType) :
    Calls Tryz.prog 5 #[.int .i64 n0, .slice oa om oc, .int .i64 o0, .int .i64 k0] w fun e w' => e = .returned (.bool true) ∧ Below w.heap.size w w' := by
  have HO : Hid (PairsAt w oa om) := hO
  have hr0 := rem_any n0 60 (by omega)
  have hr1 := rem_any o0 5 (by omega)
  have hr2 := rem_any k0 80 (by omega)
  clear hO
  go_enter Tryz.func5, Tryz.ntmps5
  go_wp2_with fail
  refine (begun7_true _ hg).mono ?_
  rintro e w1 ⟨rfl, hb1⟩
  clear hg
  go_wp2_with fail
  obtain ⟨n, hn, hn1⟩ : ∃ n : Nat, n0.tmod 60 % 60 = (n : Int) ∧ n < 60 := ⟨(n0.tmod 60 % 60).toNat, by omega, by omega⟩
  rw [hn]
  refine (new_at_pool n w1).mono ?_
  have hpn : poolN n = n := by unfold poolN; omega
  rw [hpn]
  rintro e w2 ⟨pb, gb, rfl, hP2, hpb, hgb, hb2⟩
  have hs1 := hb1.size
  have hs2 := hb2.size
  have HI0 : Hid (∃ L, PoolAt w2 pb gb n L ∧ (∀ x, some x ∈ L → x < 10) ∧ Below w.heap.size w w2) := ⟨_, hP2, fun x hx => by simp at hx, hb1.trans (hb2.mono hs1)⟩
  have hpb0 : w.heap.size ≤ pb := by omega
  have hgb0 : w.heap.size ≤ gb := by omega
  clear hb1 hb2 hP2 hpn hn hpb hgb hs1 hs2
  go_wp2_with fail
  go_loopw [11] (fun s11 wr => ∃ j : Nat, j ≤ om ∧ s11 = .int .i64 j ∧ Hid (∃ L, PoolAt wr pb gb n L ∧ (∀ x, some x ∈ L → x < 10) ∧ Below w.heap.size w wr)) (fun s11 _ => om - (RowKit.intOf s11).toNat)
  case atStart => exact ⟨0, Nat.zero_le _, rfl, HI0⟩
  case round =>
    clear HI0
    obtain ⟨j, hj, rfl, HI⟩ := hrel
    by_cases hlt : j < om ∧ j < 20
    · obtain ⟨b, o, x, y, rfl, hbl, hx, hy, c0, c1⟩ := HO.out j hlt.1
      obtain ⟨L, hP, hlow, hbw⟩ := HI.out
      have f0 := (hbw.cell (p := ⟨b, o + j * 2, none⟩) hbl).trans c0
      have f1 := (hbw.cell (p := ⟨b, o + j * 2 + 1, none⟩) hbl).trans c1
      have hrx := rem_any x 4 (by omega)
      have hry := rem_any y 20 (by omega)
      have hlt1 := hlt.1
      have hlt2 := hlt.2
      have HS : Hid (Calls Tryz.prog 15 #[.pointer (some ⟨pb, 0, none⟩), .int .i64 (x.tmod 4), .int .i64 ((IntKind.i64.wrap (y.tmod 20 + 20)).tmod 20)] wr.drew fun e w' => (∃ c, e = .returned (.int .i64 c)) ∧ (w'.cell? ⟨b, o + j * 2, none⟩ = some (.int .i64 x) ∧ w'.cell? ⟨b, o + j * 2 + 1, none⟩ = some (.int .i64 y)) ∧ Hid (∃ L, PoolAt w' pb gb n L ∧ (∀ x, some x ∈ L → x < 10) ∧ Below w.heap.size w w')) := by
        show Calls _ _ _ _ _
        rw [mod_form y 20 (by omega) (by omega)]
        refine (psize_at (hP.keeps (Keeps.drew (Keeps.refl (fun _ => False) wr)) (fun e => e) (fun e => e)) (x.tmod 4) (y.tmod 20 % 20) (by omega)).mono ?_
        rintro e w' ⟨rfl, h1, h2⟩
        have hbd : Below w.heap.size w wr.drew := ⟨hbw.os, hbw.tape, hbw.output, hbw.size, hbw.block⟩
        have hb3 := hbd.trans (h2.below hbd.size (fun i e => by omega))
        exact ⟨⟨_, rfl⟩, ⟨(hb3.cell (p := ⟨b, o + j * 2, none⟩) hbl).trans c0, (hb3.cell (p := ⟨b, o + j * 2 + 1, none⟩) hbl).trans c1⟩, _, h1, sizeL_low hlow (by omega), hb3⟩
      clear HI hP hlow hbw c0 c1
      go_wp2_with fail
      refine wp_region_noPanic ?_
      go_region_held (fun w' => w'.cell? ⟨b, o + j * 2, none⟩ = some (.int .i64 x) ∧ w'.cell? ⟨b, o + j * 2 + 1, none⟩ = some (.int .i64 y)) (first | assumption | exact ⟨f0, f1⟩ | go_keep)
        (first | (go_at_call 15; refine HS.out.mono ?_; rintro e w3 ⟨⟨c3, rfl⟩, hS3, HI3⟩))
      refine NoPanic.normal ?_
      clear HS f0 f1
      go_wp2_with fail
      exact ⟨⟨j + 1, by omega, rfl, HI3⟩, by simp [RowKit.intOf]; omega⟩
    · obtain ⟨L, hP, hlow, hbw⟩ := HI.out
      obtain ⟨ow, how, how1⟩ : ∃ ow : Int, 10 + o0.tmod 5 % 5 = ow ∧ (10 ≤ ow ∧ ow < 15) := ⟨_, rfl, by omega⟩
      obtain ⟨q, hq, hq1⟩ : ∃ q : Nat, k0.tmod 80 % 80 = (q : Int) ∧ q < 80 := ⟨(k0.tmod 80 % 80).toNat, by omega, by omega⟩
      have HP : Hid (PoolAt wr pb gb n L) := hP
      have HB : Hid (Below w.heap.size w wr) := hbw
      have hof : ofL L ow = [] := ofL_none hlow how1.1
      have HOF : Hid ((ofL L ow).length = 0) := by show _ = _; rw [hof]; rfl
      have hfl : frees L ≤ 1000 := by have := frees_le L; have := hP.len; have := hP.n1; omega
      clear HI hP hbw hlow hof
      rcases (show om ≤ j ∨ (j < om ∧ 20 ≤ j) by omega) with hex | ⟨hex1, hex2⟩
      all_goals
        go_wp2_with fail
        refine (free_at HP.out).mono ?_
        rintro e wa ⟨rfl, hba⟩
        have HPa : Hid (PoolAt wa pb gb n L) := HP.out.below hba
        have HBa : Hid (Below w.heap.size w wa) := HB.out.trans (hba.mono HB.out.size)
        clear HP HB hba
        obtain ⟨f, hf⟩ : ∃ f, frees L = f := ⟨_, rfl⟩
        have HF : Hid (frees L = f) := hf
        rw [hf] at hfl ⊢
        clear hf
        go_wp2_with fail
        refine (psize_at HPa.out ow q (by omega)).mono ?_
        rintro e wb ⟨rfl, hPb, hkb⟩
        have HBb : Hid (Below w.heap.size w wb) := HBa.out.trans (hkb.below HBa.out.size (fun i e => by omega))
        by_cases hqf : q ≤ f
        · obtain ⟨e1, e2, e3⟩ := sizeL_ok (L := L) (o := ow) (k := q) (by omega) (by rw [HOF.out, HF.out]; omega)
          rw [e1]
          rw [HOF.out, HF.out] at e3
          have HPb : Hid (PoolAt wb pb gb n (sizeL L ow q).1) := hPb
          clear HPa HBa hPb hkb e1 HF HOF
          generalize (sizeL L ow q).1 = L1 at *
          obtain ⟨f1, hf1, hf2⟩ : ∃ f1 : Nat, frees L1 = f1 ∧ (f1 : Int) = f - q := ⟨f - q, by omega, by omega⟩
          have HF1 : Hid (frees L1 = f1) := hf1
          have HO1 : Hid ((ofL L1 ow).length = q) := by show _ = _; omega
          clear e2 e3 hf1
          go_wp2_with fail
          refine (free_at HPb.out).mono ?_
          rintro e wc ⟨rfl, hbc⟩
          rw [HF1.out]
          have HPc : Hid (PoolAt wc pb gb n L1) := HPb.out.below hbc
          have HBc : Hid (Below w.heap.size w wc) := HBb.out.trans (hbc.mono HBb.out.size)
          clear HPb HBb hbc
          go_wp2_with fail
          refine (of_at HPc.out ow).mono ?_
          rintro e wd ⟨v, rfl, hvd, hbd⟩
          obtain ⟨pv, cv, rfl, _⟩ := hvd.shape
          rw [natsI_length, HO1.out]
          have HPd : Hid (PoolAt wd pb gb n L1) := HPc.out.below hbd
          have HBd : Hid (Below w.heap.size w wd) := HBc.out.trans (hbd.mono HBc.out.size)
          clear HPc HBc hbd hvd
          go_wp2_with fail
          have HK0 : Hid ((sizeL L1 ow 0).2 = 0 ∧ (ofL (sizeL L1 ow 0).1 ow).length = 0 ∧ frees (sizeL L1 ow 0).1 = f) := by
            obtain ⟨e1, e2, e3⟩ := sizeL_ok (L := L1) (o := ow) (k := 0) (by omega) (by have := HO1.out; omega)
            rw [HO1.out, HF1.out] at e3
            exact ⟨e1, e2, by omega⟩
          refine (psize_at HPd.out ow 0 (by omega)).mono ?_
          rintro e we ⟨rfl, hPe, hke⟩
          rw [HK0.out.1]
          have HPe : Hid (PoolAt we pb gb n (sizeL L1 ow 0).1) := hPe
          have HBe : Hid (Below w.heap.size w we) := HBd.out.trans (hke.below HBd.out.size (fun i e => by omega))
          have HF2 : Hid (frees (sizeL L1 ow 0).1 = f) := HK0.out.2.2
          have HO2 : Hid ((ofL (sizeL L1 ow 0).1 ow).length = 0) := HK0.out.2.1
          clear HPd HBd hPe hke HK0 HF1 HO1
          generalize (sizeL L1 ow 0).1 = L2 at *
          go_wp2_with fail
          refine (free_at HPe.out).mono ?_
          rintro e wf ⟨rfl, hbf⟩
          rw [HF2.out]
          have HPf : Hid (PoolAt wf pb gb n L2) := HPe.out.below hbf
          have HBf : Hid (Below w.heap.size w wf) := HBe.out.trans (hbf.mono HBe.out.size)
          clear HPe HBe hbf
          go_wp2_with fail
          refine (of_at HPf.out ow).mono ?_
          rintro e wg ⟨v2, rfl, hvg, hbg⟩
          obtain ⟨pv2, cv2, rfl, _⟩ := hvg.shape
          rw [natsI_length, HO2.out]
          have HPg : Hid (PoolAt wg pb gb n L2) := HPf.out.below hbg
          have HBg : Hid (Below w.heap.size w wg) := HBf.out.trans (hbg.mono HBf.out.size)
          clear HPf HBf hbg hvg
          go_wp2_with fail
          refine (psize_at HPg.out ow (-1) (by omega)).mono ?_
          rintro e wh ⟨rfl, hPh, hkh⟩
          rw [sizeL_below (by omega)]
          have HBh : Hid (Below w.heap.size w wh) := HBg.out.trans (hkh.below HBg.out.size (fun i e => by omega))
          clear HPg HBg hPh hkh
          go_wp2_with fail
          go_ret
          exact ⟨rfl, HBh.out⟩
        · have hm := sizeL_many (L := L) (o := ow) (k := q) (by rw [HOF.out, HF.out]; omega)
          rw [hm] at hPb
          rw [hm]
          have HPb : Hid (PoolAt wb pb gb n L) := hPb
          have hqf2 : f < q := by omega
          clear HPa HBa hPb hkb hm hqf
          have HF1 : Hid (frees L = f) := HF.out
          have HO1 : Hid ((ofL L ow).length = 0) := HOF.out
          clear HF HOF
          go_wp2_with fail
          refine (free_at HPb.out).mono ?_
          rintro e wc ⟨rfl, hbc⟩
          rw [HF1.out]
          have HPc : Hid (PoolAt wc pb gb n L) := HPb.out.below hbc
          have HBc : Hid (Below w.heap.size w wc) := HBb.out.trans (hbc.mono HBb.out.size)
          clear HPb HBb hbc
          go_wp2_with fail
          refine (of_at HPc.out ow).mono ?_
          rintro e wd ⟨v, rfl, hvd, hbd⟩
          obtain ⟨pv, cv, rfl, _⟩ := hvd.shape
          rw [natsI_length, HO1.out]
          have HPd : Hid (PoolAt wd pb gb n L) := HPc.out.below hbd
          have HBd : Hid (Below w.heap.size w wd) := HBc.out.trans (hbd.mono HBc.out.size)
          clear HPc HBc hbd hvd
          go_wp2_with fail
          have HK0 : Hid ((sizeL L ow 0).2 = 0 ∧ (ofL (sizeL L ow 0).1 ow).length = 0 ∧ frees (sizeL L ow 0).1 = f) := by
            obtain ⟨e1, e2, e3⟩ := sizeL_ok (L := L) (o := ow) (k := 0) (by omega) (by have := HO1.out; omega)
            rw [HO1.out, HF1.out] at e3
            exact ⟨e1, e2, by omega⟩
          refine (psize_at HPd.out ow 0 (by omega)).mono ?_
          rintro e we ⟨rfl, hPe, hke⟩
          rw [HK0.out.1]
          have HPe : Hid (PoolAt we pb gb n (sizeL L ow 0).1) := hPe
          have HBe : Hid (Below w.heap.size w we) := HBd.out.trans (hke.below HBd.out.size (fun i e => by omega))
          have HF2 : Hid (frees (sizeL L ow 0).1 = f) := HK0.out.2.2
          have HO2 : Hid ((ofL (sizeL L ow 0).1 ow).length = 0) := HK0.out.2.1
          clear HPd HBd hPe hke HK0 HF1 HO1
          generalize (sizeL L ow 0).1 = L2 at *
          go_wp2_with fail
          refine (free_at HPe.out).mono ?_
          rintro e wf ⟨rfl, hbf⟩
          rw [HF2.out]
          have HPf : Hid (PoolAt wf pb gb n L2) := HPe.out.below hbf
          have HBf : Hid (Below w.heap.size w wf) := HBe.out.trans (hbf.mono HBe.out.size)
          clear HPe HBe hbf
          go_wp2_with fail
          refine (of_at HPf.out ow).mono ?_
          rintro e wg ⟨v2, rfl, hvg, hbg⟩
          obtain ⟨pv2, cv2, rfl, _⟩ := hvg.shape
          rw [natsI_length, HO2.out]
          have HPg : Hid (PoolAt wg pb gb n L2) := HPf.out.below hbg
          have HBg : Hid (Below w.heap.size w wg) := HBf.out.trans (hbg.mono HBf.out.size)
          clear HPf HBf hbg hvg
          go_wp2_with fail
          refine (psize_at HPg.out ow (-1) (by omega)).mono ?_
          rintro e wh ⟨rfl, hPh, hkh⟩
          rw [sizeL_below (by omega)]
          have HBh : Hid (Below w.heap.size w wh) := HBg.out.trans (hkh.below HBg.out.size (fun i e => by omega))
          clear HPg HBg hPh hkh
          go_wp2_with fail
          go_ret
          exact ⟨rfl, HBh.out⟩
end Go.Proofs.YteehcffmccgciaaGreatDoor
