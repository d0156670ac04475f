import Derived.Test.YteehcffmccgciaaGreatDoorQtH
import Derived.Test.YteehcffmccgciaaGreatDoorBgE
import Derived.BigQuiet
namespace Go.Proofs.YteehcffmccgciaaGreatDoor
open Go.RowKit Go.Maps

/-- What QuantOrder holds ahead of the codes. -/
structure OrdQ (w wr : World) (r gl gs ga gb d : Nat) (L S A B : List Int) : Prop where
  k : BookAt wr (some ⟨gl, 0, none⟩) d d (some ⟨gs, 0, none⟩) d d L S
  k0 : wr.cell? ⟨r, 0, none⟩ = some (.slice (some ⟨gl, 0, none⟩) d d)
  k1 : wr.cell? ⟨r, 1, none⟩ = some (.slice (some ⟨gs, 0, none⟩) d d)
  a : VecAt wr (some ⟨ga, 0, none⟩) d d A
  b : VecAt wr (some ⟨gb, 0, none⟩) d d B
  u : Below w.heap.size w wr
theorem OrdQ.below {w wr w' : World} {r gl gs ga gb d : Nat} {L S A B : List Int} (h : OrdQ w wr r gl gs ga gb d L S A B) (hb : Below wr.heap.size wr w') : OrdQ w w' r gl gs ga gb d L S A B := by
  have hl : r < wr.heap.size := World.block_lt_of_cell? wr _ h.k0
  exact ⟨h.k.all hb, (hb.cell (p := ⟨r, 0, none⟩) hl).trans h.k0, (hb.cell (p := ⟨r, 1, none⟩) hl).trans h.k1, h.a.all hb, h.b.all hb, h.u.trans (hb.mono h.u.size)⟩
/-- .. behind them. -/
structure OrdR (w wr : World) (px py : Option Addr) (cx cy ga gb d : Nat) (X Y A B : List Int) : Prop where
  x : ByAt wr px d cx X
  y : ByAt wr py d cy Y
  a : VecAt wr (some ⟨ga, 0, none⟩) d d A
  b : VecAt wr (some ⟨gb, 0, none⟩) d d B
  u : Below w.heap.size w wr
theorem drew_below (w : World) : Below w.heap.size w w.drew := ⟨rfl, rfl, rfl, Nat.le_refl _, fun _ _ => rfl⟩
theorem OrdR.below {w wr w' : World} {px py : Option Addr} {cx cy ga gb d : Nat} {X Y A B : List Int} (h : OrdR w wr px py cx cy ga gb d X Y A B) (hb : Below wr.heap.size wr w') : OrdR w w' px py cx cy ga gb d X Y A B :=
  ⟨h.x.all hb, h.y.all hb, h.a.all hb, h.b.all hb, h.u.trans (hb.mono h.u.size)⟩
theorem codes_mono {L S A B : List Int} {d : Nat} (hf : fineB L S = true) (hL : L.length = d) (hA : A.length = d) (hB : B.length = d) (i : Nat) (hi : i < d) :
    (A.getD i 0 ≤ B.getD i 0 → (codesZ L S A).getD i 0 ≤ (codesZ L S B).getD i 0) ∧ (B.getD i 0 ≤ A.getD i 0 → (codesZ L S B).getD i 0 ≤ (codesZ L S A).getD i 0) := by
  obtain ⟨h1, h2⟩ := fineB_yes hf
  have hs : 1 ≤ S.getD i 0 := by
    refine h2 _ ?_
    rw [List.getD_eq_getElem?_getD, List.getElem?_eq_getElem (by omega)]; exact List.getElem_mem _
  rw [codesZ_getD _ _ _ _ (by omega), codesZ_getD _ _ _ _ (by omega), if_pos (by omega), if_pos (by omega)]
  exact ⟨codeZ_mono hs, codeZ_mono hs⟩
set_option maxRecDepth 100000 in
set_option maxHeartbeats 4000000 in
theorem quantOrder_true (d0 : Int) (va : Option Addr) (vm vc : Nat) (VS : List (List Int)) (aa ba : Option Addr) (an ac bn bc : Nat) (A0 B0 : List Int) (w : World) (hV : VecsAt w va vm vc VS) (hA : VecAt w aa an ac A0) (hB : VecAt w ba bn bc B0) (hg : w.cell? ⟨0, 0, none⟩ = some errType) :
    Calls Tryz.prog 11 #[.int .i64 d0, .slice va vm vc, .slice aa an ac, .slice ba bn bc] w fun e w' => e = .returned (.bool true) ∧ Below w.heap.size w w' := by
  have HV : Hid (VecsAt w va vm vc VS) := hV
  have HA : Hid (VecAt w aa an ac A0) := hA
  have HB : Hid (VecAt w ba bn bc B0) := hB
  clear hV hA hB
  go_enter Tryz.func11, Tryz.ntmps11
  go_wp2_with fail
  refine (begun7_true _ hg).mono ?_
  rintro e w1 ⟨rfl, hb1⟩
  have HB1 : Hid (Below w.heap.size w w1) := hb1
  clear hg hb1
  go_wp2_with fail
  refine (dim_at d0 w1).mono ?_
  rintro e w1' ⟨d, rfl, hd1, hd2, hw1⟩
  subst hw1
  go_wp2_with fail
  refine (vecs_at (HV.out.all HB1.out) d (by omega) 10 (by omega)).mono ?_
  rintro e w2 ⟨u, gs0, rfl, hI⟩
  obtain ⟨p, c, rfl, hVS⟩ := hI.toAt (by omega)
  have HB2 : Hid (Below w.heap.size w w2) := HB1.out.trans (hI.u.mono HB1.out.size)
  clear hI HB1
  obtain ⟨K, hK⟩ : ∃ K, (List.range (min vm 10)).map (fun i => clampA (VS.getD i []) d) = K := ⟨_, rfl⟩
  rw [hK] at hVS
  clear hK
  obtain ⟨mm, hmm⟩ : ∃ mm, min vm 10 = mm := ⟨_, rfl⟩
  rw [hmm] at hVS ⊢
  have hmm2 : mm ≤ 10 := by omega
  clear hmm
  have HVS : Hid (VecsAt w2 p mm c K) := hVS
  clear hVS
  go_wp2_with fail
  refine (qmake_at HVS.out (by omega) d ⟨hd1, hd2⟩).mono ?_
  rintro e w3 ⟨gl, gs, rfl, hT⟩
  unfold bookV
  have hbk := hT.book (fun k => loZ_fit k)
  have hfn := fine_steps (goodL d K) d
  have hll : (lowsZ (goodL d K) d).length = d := by simp [lowsZ]
  generalize lowsZ (goodL d K) d = L at *
  generalize stepsZ (goodL d K) d = S at *
  have HK3 : Hid (BookAt w3 (some ⟨gl, 0, none⟩) d d (some ⟨gs, 0, none⟩) d d L S ∧ Below w.heap.size w w3 ∧ fineB L S = true ∧ L.length = d) := ⟨hbk, HB2.out.trans (hT.u.mono HB2.out.size), hfn, hll⟩
  clear hbk hfn hll hT HVS HB2
  go_wp2_with fail
  have hk0 : (w3.alloc (.cells #[.slice (some ⟨gl, 0, none⟩) d d, .slice (some ⟨gs, 0, none⟩) d d] 58)).cell? ⟨w3.heap.size, 0, none⟩ = some (.slice (some ⟨gl, 0, none⟩) d d) := by simp
  have hk1 : (w3.alloc (.cells #[.slice (some ⟨gl, 0, none⟩) d d, .slice (some ⟨gs, 0, none⟩) d d] 58)).cell? ⟨w3.heap.size, 1, none⟩ = some (.slice (some ⟨gs, 0, none⟩) d d) := by simp
  have hA4 : Below w3.heap.size w3 (w3.alloc (.cells #[.slice (some ⟨gl, 0, none⟩) d d, .slice (some ⟨gs, 0, none⟩) d d] 58)) := (Below.refl _ _).alloc (Nat.le_refl _) _
  have HK4 : Hid (BookAt (w3.alloc (.cells #[.slice (some ⟨gl, 0, none⟩) d d, .slice (some ⟨gs, 0, none⟩) d d] 58)) (some ⟨gl, 0, none⟩) d d (some ⟨gs, 0, none⟩) d d L S ∧ Below w.heap.size w (w3.alloc (.cells #[.slice (some ⟨gl, 0, none⟩) d d, .slice (some ⟨gs, 0, none⟩) d d] 58)) ∧ (w3.alloc (.cells #[.slice (some ⟨gl, 0, none⟩) d d, .slice (some ⟨gs, 0, none⟩) d d] 58)).cell? ⟨w3.heap.size, 0, none⟩ = some (.slice (some ⟨gl, 0, none⟩) d d) ∧ (w3.alloc (.cells #[.slice (some ⟨gl, 0, none⟩) d d, .slice (some ⟨gs, 0, none⟩) d d] 58)).cell? ⟨w3.heap.size, 1, none⟩ = some (.slice (some ⟨gs, 0, none⟩) d d)) := ⟨HK3.out.1.all hA4, HK3.out.2.1.trans (hA4.mono HK3.out.2.1.size), hk0, hk1⟩
  have HF : Hid (fineB L S = true ∧ L.length = d) := HK3.out.2.2
  clear hA4 hk0 hk1 HK3
  generalize (w3.alloc (.cells #[.slice (some ⟨gl, 0, none⟩) d d, .slice (some ⟨gs, 0, none⟩) d d] 58)) = w4 at *
  generalize w3.heap.size = r at *
  refine (vec_at (HA.out.all HK4.out.2.1) d (by omega)).mono ?_
  rintro e w5 ⟨ga, rfl, hga, hRa, hb5⟩
  have HB5 : Hid (Below w.heap.size w w5) := HK4.out.2.1.trans (hb5.mono HK4.out.2.1.size)
  go_wp2_with fail
  refine (vec_at (HB.out.all HB5.out) d (by omega)).mono ?_
  rintro e w6 ⟨gb, rfl, hgb, hRb, hb6⟩
  have hlA : (clampA A0 d).length = d := clampA_length _ _
  have hlB : (clampA B0 d).length = d := clampA_length _ _
  have hra : r < w4.heap.size := World.block_lt_of_cell? _ _ HK4.out.2.2.1
  have HQ : Hid (OrdQ w w6 r gl gs ga gb d L S (clampA A0 d) (clampA B0 d)) := by
    have hb46 : Below w4.heap.size w4 w6 := hb5.trans (hb6.mono hb5.size)
    exact ⟨HK4.out.1.all hb46, (hb46.cell (p := ⟨r, 0, none⟩) hra).trans HK4.out.2.2.1, (hb46.cell (p := ⟨r, 1, none⟩) hra).trans HK4.out.2.2.2, (hRa.below hb6).one' (clampA_fit _ _), hRb.one' (clampA_fit _ _), HB5.out.trans (hb6.mono HB5.out.size)⟩
  have HL : Hid ((clampA A0 d).length = d ∧ (clampA B0 d).length = d) := ⟨hlA, hlB⟩
  clear hRa hb5 HB5 hRb hb6 HK4 HA HB hlA hlB hga hgb hra
  generalize clampA A0 d = A at *
  generalize clampA B0 d = B at *
  have HM : Hid (∀ i, i < d → (A.getD i 0 ≤ B.getD i 0 → (codesZ L S A).getD i 0 ≤ (codesZ L S B).getD i 0) ∧ (B.getD i 0 ≤ A.getD i 0 → (codesZ L S B).getD i 0 ≤ (codesZ L S A).getD i 0)) := fun i hi => codes_mono HF.out.1 HF.out.2 HL.out.1 HL.out.2 i hi
  have hca : codesV L S A = codesZ L S A := if_pos HF.out.1
  have hcb : codesV L S B = codesZ L S B := if_pos HF.out.1
  have hcl : (codesZ L S A).length = d ∧ (codesZ L S B).length = d := by rw [codesZ_length, codesZ_length]; exact ⟨HF.out.2, HF.out.2⟩
  have HC1 : Hid (Calls Tryz.prog 32 #[.agg #[.slice (some ⟨gl, 0, none⟩) d d, .slice (some ⟨gs, 0, none⟩) d d], .slice (some ⟨ga, 0, none⟩) d d] w6.drew fun e w' => ∃ px cx, e = .returned (.slice px d cx) ∧ (w'.cell? ⟨r, 0, none⟩ = some (.slice (some ⟨gl, 0, none⟩) d d) ∧ w'.cell? ⟨r, 1, none⟩ = some (.slice (some ⟨gs, 0, none⟩) d d)) ∧ Hid (OrdQ w w' r gl gs ga gb d L S A B ∧ ByAt w' px d cx (codesZ L S A))) := by
    have hq := HQ.out.below (drew_below w6)
    refine (code_at hq.k hq.a (by omega) (by omega) (by omega)).mono ?_
    rintro e w' ⟨v, rfl, hv, hb⟩
    rw [hca] at hv
    obtain ⟨px, cx, rfl, hx, _⟩ := hv.toAt (codesZ_range L S A)
    rw [hcl.1] at hx ⊢
    have hq2 := hq.below hb
    exact ⟨px, cx, rfl, ⟨hq2.k0, hq2.k1⟩, hq2, hx⟩
  have HC2 : Hid (∀ W px cx, (OrdQ w W r gl gs ga gb d L S A B ∧ ByAt W px d cx (codesZ L S A)) → Calls Tryz.prog 32 #[.agg #[.slice (some ⟨gl, 0, none⟩) d d, .slice (some ⟨gs, 0, none⟩) d d], .slice (some ⟨gb, 0, none⟩) d d] W fun e w' => ∃ py cy, e = .returned (.slice py d cy) ∧ (w'.cell? ⟨r, 0, none⟩ = some (.slice (some ⟨gl, 0, none⟩) d d) ∧ w'.cell? ⟨r, 1, none⟩ = some (.slice (some ⟨gs, 0, none⟩) d d)) ∧ Hid (OrdR w w' px py cx cy ga gb d (codesZ L S A) (codesZ L S B) A B)) := by
    rintro W px cx ⟨hq, hx⟩
    refine (code_at hq.k hq.b (by omega) (by omega) (by omega)).mono ?_
    rintro e w' ⟨v, rfl, hv, hb⟩
    rw [hcb] at hv
    obtain ⟨py, cy, rfl, hy, _⟩ := hv.toAt (codesZ_range L S B)
    rw [hcl.2] at hy ⊢
    have hq2 := hq.below hb
    exact ⟨py, cy, rfl, ⟨hq2.k0, hq2.k1⟩, hx.all hb, hy, hq2.a, hq2.b, hq2.u⟩
  have c0 := HQ.out.k0
  have c1 := HQ.out.k1
  clear hca hcb hcl HQ HF HL
  generalize codesZ L S A = X at *
  generalize codesZ L S B = Y at *
  go_wp2_with fail
  refine wp_region_noPanic ?_
  go_region_held (fun w' => w'.cell? ⟨r, 0, none⟩ = some (.slice (some ⟨gl, 0, none⟩) d d) ∧ w'.cell? ⟨r, 1, none⟩ = some (.slice (some ⟨gs, 0, none⟩) d d)) (first | assumption | exact ⟨c0, c1⟩ | go_keep)
    (first | (go_at_call 32; refine (HC2.out _ _ _ HX.out).mono ?_; rintro e w8 ⟨py, cy, rfl, hS8, HR⟩) | (go_at_call 32; refine HC1.out.mono ?_; rintro e w7 ⟨px, cx, rfl, hS7, HX⟩))
  refine NoPanic.normal ?_
  clear HC1 HC2 HX hS7 hS8 c0 c1
  go_wp2_with fail
  go_loopw [48] (fun s48 wr => ∃ j : Nat, j ≤ d ∧ s48 = .int .i64 j ∧ Hid (OrdR w wr px py cx cy ga gb d X Y A B)) (fun s48 _ => d - (RowKit.intOf s48).toNat)
  case atStart => exact ⟨0, Nat.zero_le _, rfl, HR⟩
  case round =>
    clear HR
    obtain ⟨j, hj, rfl, HI⟩ := hrel
    by_cases hlt : j < d
    · obtain ⟨b1, o1, rfl, h1, e1, x1, x2⟩ := HI.out.x.cell j hlt
      obtain ⟨b2, o2, rfl, h2, e2, y1, y2⟩ := HI.out.y.cell j hlt
      obtain ⟨b3, o3, q3, h3, e3, _⟩ := HI.out.a.cell j hlt
      obtain ⟨b4, o4, q4, h4, e4, _⟩ := HI.out.b.cell j hlt
      injection q3 with q3
      injection q3 with q3 q3'
      subst q3; subst q3'
      injection q4 with q4
      injection q4 with q4 q4'
      subst q4; subst q4'
      have hm := HM.out j hlt
      have HN : Hid (∀ q, OrdR w (wr.drewN q) (some ⟨b1, o1, none⟩) (some ⟨b2, o2, none⟩) cx cy ga gb d X Y A B) := fun q => HI.out.below (below_drewN (Below.refl _ wr))
      clear HI h1 h2 h3 h4
      generalize X.getD j 0 = x at *
      generalize Y.getD j 0 = y at *
      generalize A.getD j 0 = a at *
      generalize B.getD j 0 = b at *
      have h0 : 0 + j = j := Nat.zero_add j
      rw [h0] at e3 e4
      have hS0 : wr.cell? ⟨ga, j, none⟩ = some (.int .i32 a) ∧ wr.cell? ⟨gb, j, none⟩ = some (.int .i32 b) ∧ wr.cell? ⟨b1, o1 + j, none⟩ = some (.int .u8 x) ∧ wr.cell? ⟨b2, o2 + j, none⟩ = some (.int .u8 y) := ⟨e3, e4, e1, e2⟩
      clear e1 e2 e3 e4 h0
      rcases (show (a < b ∧ x ≤ y) ∨ (a = b ∧ x = y) ∨ (b < a ∧ y ≤ x) by omega) with ⟨k1, k2⟩ | ⟨k1, k2⟩ | ⟨k1, k2⟩
      · clear hm
        go_wp2_with fail
        have k3 : ¬ (b ≤ a) := by omega
        have k4 : a ≤ b := by omega
        have k5 : ¬ (y < x) := by omega
        clear k2
        obtain ⟨f1, f2, f3, f4⟩ := hS0
        go_quiet (fail)
        clear f1 f2 f3 f4
        go_wp2_with fail
        exact ⟨⟨j + 1, by omega, rfl, (show Hid _ from HN.out nq)⟩, by simp [RowKit.intOf]; omega⟩
      · subst k1; subst k2
        clear hm
        go_wp2_with fail
        obtain ⟨f1, f2, f3, f4⟩ := hS0
        go_quiet (fail)
        clear f1 f2 f3 f4
        go_wp2_with fail
        exact ⟨⟨j + 1, by omega, rfl, (show Hid _ from HN.out nq)⟩, by simp [RowKit.intOf]; omega⟩
      · clear hm
        go_wp2_with fail
        have k3 : ¬ (a ≤ b) := by omega
        have k4 : b ≤ a := by omega
        have k5 : ¬ (x < y) := by omega
        clear k2
        obtain ⟨f1, f2, f3, f4⟩ := hS0
        go_quiet (fail)
        clear f1 f2 f3 f4
        go_wp2_with fail
        exact ⟨⟨j + 1, by omega, rfl, (show Hid _ from HN.out nq)⟩, by simp [RowKit.intOf]; omega⟩
    · obtain rfl : j = d := by omega
      go_wp2_with fail
      go_ret
      exact ⟨rfl, HI.out.u⟩
end Go.Proofs.YteehcffmccgciaaGreatDoor
