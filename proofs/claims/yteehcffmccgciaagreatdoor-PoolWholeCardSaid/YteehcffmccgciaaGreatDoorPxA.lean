import Derived.Test.YteehcffmccgciaaGreatDoorSeA
import Derived.Test.YteehcffmccgciaaGreatDoorPtA
namespace Go.Proofs.YteehcffmccgciaaGreatDoor
open Go.RowKit Go.Maps

/-- Numbers that a slice reads, in a block that isn't the map's. -/
def ReadI (w : World) (mb : Nat) (a : Option Addr) (A : List Int) : Prop := ∀ j, j < A.length → ∃ g, a = some ⟨g, 0, none⟩ ∧ g < w.heap.size ∧ g ≠ mb ∧ w.cell? ⟨g, j, none⟩ = some (.int .i64 (A.getD j 0))
theorem ReadI.keeps {S : Nat → Prop} {w w' : World} {mb : Nat} {a : Option Addr} {A : List Int} (h : ReadI w mb a A) (hk : Keeps S w w') (hs : ∀ i, i ≠ mb → ¬ S i) : ReadI w' mb a A := fun j hj => by
  obtain ⟨g, e, h1, h2, h3⟩ := h j hj
  exact ⟨g, e, Nat.lt_of_lt_of_le h1 hk.size, h2, (hk.cell (p := ⟨g, j, none⟩) h1 (hs g h2)).trans h3⟩
theorem IntsR.read {w : World} {lo mb : Nat} {v : Value} {A : List Int} (h : IntsR w lo v A) (hm : mb < lo) : ∃ p c, v = .slice p A.length c ∧ ReadI w mb p A := by
  obtain ⟨p, c, e, _⟩ := h.shape
  refine ⟨p, c, e, fun j hj => ?_⟩
  obtain ⟨g, c', e2, _, h2, h3, h4⟩ := h.at_ (by omega)
  rw [e] at e2
  injection e2 with a1 _ _
  exact ⟨g, a1, h3, by omega, h4 j hj⟩
theorem getDn_mem {A : List Nat} {k : Nat} (h : k < A.length) : A.getD k 0 ∈ A := by
  rw [List.getD_eq_getElem?_getD, List.getElem?_eq_getElem h]
  exact List.getElem_mem h
theorem IntsR.max {w : World} {lo : Nat} {v : Value} {A : List Int} (h : IntsR w lo v A) : A.length ≤ 9223372036854775807 := by
  rcases h.2 with ⟨_, h0⟩ | ⟨g, cap, cur, _, _, _, hc, hm, _⟩
  · omega
  · unfold maxLen at hm; omega
theorem seen_few {L : List (Option Int)} {O : List Int} (ho : OwnersL L O) (i k : Nat) (h : i < O.length) : (seenL L O i k).length ≤ L.length := by
  obtain ⟨R, hR⟩ := seen_pre L O i k h
  have h1 := congrArg List.length hR
  rw [List.length_append] at h1
  have h2 := seen_all ho
  have h3 : (seenL L O O.length 0).length = (O.flatMap (ofL L)).length := by
    unfold seenL
    rw [List.take_length, List.take_zero, List.append_nil]
  omega
/-- What PoolWhole holds. -/
structure WhQ (w wr : World) (pb gb mb n : Nat) (L : List (Option Int)) (O : List Int) (K : List Nat) (po : Option Addr) : Prop where
  p : PoolAt wr pb gb n L
  s : SeenAt wr mb K
  o : ReadI wr mb po O
  ne : pb ≠ mb ∧ gb ≠ mb
  m0 : w.heap.size ≤ mb
  u : Below w.heap.size w wr
theorem WhQ.below {w wr w' : World} {pb gb mb n : Nat} {L : List (Option Int)} {O : List Int} {K : List Nat} {po : Option Addr} (h : WhQ w wr pb gb mb n L O K po) (hb : Below wr.heap.size wr w') : WhQ w w' pb gb mb n L O K po :=
  ⟨h.p.below hb, h.s.below hb, h.o.keeps (Keeps.of_below (S := fun _ => False) hb) (fun _ _ e => e), h.ne, h.m0, h.u.trans (hb.mono h.u.size)⟩
theorem WhQ.put {w wr w' : World} {pb gb mb n : Nat} {L : List (Option Int)} {O : List Int} {K : List Nat} {po : Option Addr} {D : DataW Unit} (h : WhQ w wr pb gb mb n L O K po) (hk : Keeps (fun i => i = mb) wr w') (q2 : Tidy D) (q3 : ∀ i : Nat, Maps.has D (.int .i64 (i : Int)) = decide (i ∈ K)) (q4 : Maps.size D = K.length) (k : Nat) (hn : k ∉ K) (m : Nat)
    (hown : w'.ownsMap Tryz.prog 3 (plainElem (H := Unit) Tryz.prog 4) mb m (D.put (.int .i64 (k : Int)) (.lit (.bool true)))) : WhQ w w' pb gb mb n L O (K ++ [k]) po :=
  ⟨h.p.keeps hk h.ne.1 h.ne.2, sm_put q2 q3 q4 k hn m hown, h.o.keeps hk (fun _ e f => e f), h.ne, h.m0, h.u.trans (hk.below h.u.size (fun i e => by have := h.m0; omega))⟩
set_option maxRecDepth 100000 in
set_option maxHeartbeats 4000000 in
theorem poolWhole_true (n0 : Int) (oa : Option Addr) (om oc : Nat) (w : World) (hO : PairsAt w oa om) (hg : w.cell? ⟨0, 0, none⟩ = some errType) :
    Calls Tryz.prog 4 #[.int .i64 n0, .slice oa om oc] w fun e w' => e = .returned (.bool true) ∧ Below w.heap.size w w' := by
  have HO : Hid (PairsAt w oa om) := hO
  have hr0 := rem_any n0 100 (by omega)
  clear hO
  have hmm := @run_makeMap Tryz.prog
  go_enter Tryz.func4, Tryz.ntmps4
  go_wp2_with fail
  refine (begun7_true _ hg).mono ?_
  rintro e w1 ⟨rfl, hb1⟩
  clear hg
  go_wp2_with fail
  obtain ⟨n, hn, hn1⟩ : ∃ n : Nat, n0.tmod 100 % 100 = (n : Int) ∧ n < 100 := ⟨(n0.tmod 100 % 100).toNat, by omega, by omega⟩
  have HNn : Hid (n0.tmod 100 % 100 = (n : Int)) := hn
  rw [hn]
  refine (new_at_pool n w1).mono ?_
  have hpn : poolN n = n := by unfold poolN; omega
  rw [hpn]
  rintro e w2 ⟨pb, gb, rfl, hP2, hpb, hgb, hb2⟩
  have hs1 := hb1.size
  have HI0 : Hid (∃ L, PoolAt w2 pb gb n L ∧ Below w.heap.size w w2) := ⟨_, hP2, hb1.trans (hb2.mono hs1)⟩
  have hpb0 : w.heap.size ≤ pb := by omega
  have hgb0 : w.heap.size ≤ gb := by omega
  clear hb1 hb2 hP2 hpn hn hpb hgb hs1
  go_wp2_with fail
  go_loopw [7] (fun s7 wr => ∃ j : Nat, j ≤ om ∧ s7 = .int .i64 j ∧ Hid (∃ L, PoolAt wr pb gb n L ∧ Below w.heap.size w wr)) (fun s7 _ => om - (RowKit.intOf s7).toNat)
  case atStart => exact ⟨0, Nat.zero_le _, rfl, HI0⟩
  case round =>
    clear HI0
    obtain ⟨j, hj, rfl, HI⟩ := hrel
    by_cases hlt : j < om ∧ j < 30
    · obtain ⟨b, o, x, y, rfl, hbl, hx, hy, c0, c1⟩ := HO.out j hlt.1
      obtain ⟨L, hP, hbw⟩ := HI.out
      have f0 := (hbw.cell (p := ⟨b, o + j * 2, none⟩) hbl).trans c0
      have f1 := (hbw.cell (p := ⟨b, o + j * 2 + 1, none⟩) hbl).trans c1
      have hrx := rem_any x 5 (by omega)
      have hry := rem_any y 40 (by omega)
      have hlt1 := hlt.1
      have hlt2 := hlt.2
      have HS : Hid (Calls Tryz.prog 15 #[.pointer (some ⟨pb, 0, none⟩), .int .i64 (x.tmod 5), .int .i64 (y.tmod 40)] wr.drew fun e w' => (∃ c, e = .returned (.int .i64 c)) ∧ (w'.cell? ⟨b, o + j * 2, none⟩ = some (.int .i64 x) ∧ w'.cell? ⟨b, o + j * 2 + 1, none⟩ = some (.int .i64 y)) ∧ Hid (∃ L, PoolAt w' pb gb n L ∧ Below w.heap.size w w')) := by
        refine (psize_at (hP.keeps (Keeps.drew (Keeps.refl (fun _ => False) wr)) (fun e => e) (fun e => e)) (x.tmod 5) (y.tmod 40) (by omega)).mono ?_
        rintro e w' ⟨rfl, h1, h2⟩
        have hbd : Below w.heap.size w wr.drew := ⟨hbw.os, hbw.tape, hbw.output, hbw.size, hbw.block⟩
        have hb3 := hbd.trans (h2.below hbd.size (fun i e => by omega))
        exact ⟨⟨_, rfl⟩, ⟨(hb3.cell (p := ⟨b, o + j * 2, none⟩) hbl).trans c0, (hb3.cell (p := ⟨b, o + j * 2 + 1, none⟩) hbl).trans c1⟩, _, h1, hb3⟩
      clear HI hP hbw c0 c1
      go_wp2_with fail
      refine wp_region_noPanic ?_
      go_region_held (fun w' => w'.cell? ⟨b, o + j * 2, none⟩ = some (.int .i64 x) ∧ w'.cell? ⟨b, o + j * 2 + 1, none⟩ = some (.int .i64 y)) (first | assumption | exact ⟨f0, f1⟩ | go_keep)
        (first | (go_at_call 15; refine HS.out.mono ?_; rintro e w3 ⟨⟨c3, rfl⟩, hS3, HI3⟩))
      refine NoPanic.normal ?_
      clear HS f0 f1
      go_wp2_with fail
      exact ⟨⟨j + 1, by omega, rfl, HI3⟩, by simp [RowKit.intOf]; omega⟩
    · obtain ⟨L, hP, hbw⟩ := HI.out
      have HP : Hid (PoolAt wr pb gb n L) := hP
      have HB : Hid (Below w.heap.size w wr) := hbw
      clear HI hP hbw
      rcases (show om ≤ j ∨ (j < om ∧ 30 ≤ j) by omega) with hex | ⟨hex1, hex2⟩
      all_goals
        have HW0 : Hid (PoolAt (wr.alloc (.map #[] 0)) pb gb n L ∧ SeenAt (wr.alloc (.map #[] 0)) wr.heap.size [] ∧ Below w.heap.size w (wr.alloc (.map #[] 0)) ∧ (pb ≠ wr.heap.size ∧ gb ≠ wr.heap.size) ∧ w.heap.size ≤ wr.heap.size ∧ wr.heap.size < (wr.alloc (.map #[] 0)).heap.size) := by
          have hA : Below wr.heap.size wr (wr.alloc (.map #[] 0)) := (Below.refl _ _).alloc (Nat.le_refl _) _
          have h1 := HP.out.pl
          have h2 := HP.out.gl
          exact ⟨HP.out.below hA, sm_new wr, HB.out.trans (hA.mono HB.out.size), ⟨by omega, by omega⟩, HB.out.size, by simp⟩
        clear HP HB
        go_wp2_with fail
        have hz := HNn.out
        rw [hz]
        clear hz HNn hmm hr0
        generalize hmb : wr.heap.size = mb at *
        generalize wr.alloc (.map #[] 0) = w3 at *
        clear hmb
        refine (owners_at HW0.out.1).mono ?_
        rintro e w4 ⟨v, O, rfl, hO, hv, hb4⟩
        obtain ⟨po, co, rfl, hro⟩ := hv.read (mb := mb) HW0.out.2.2.2.2.2
        have HOw : Hid (OwnersL L O ∧ L.length = n) := ⟨hO, HW0.out.1.len⟩
        have HI0 : Hid (WhQ w w4 pb gb mb n L O (seenL L O 0 0) po) := by
          obtain ⟨q1, q2, q3, q4, q5, q6⟩ := HW0.out
          exact ⟨q1.below hb4, q2.below hb4, hro, q4, q5, q3.trans (hb4.mono q3.size)⟩
        obtain ⟨m, hm⟩ : ∃ m, O.length = m := ⟨_, rfl⟩
        have HM : Hid (O.length = m) := hm
        have hm9 : m ≤ 9223372036854775807 := by have := hv.max; omega
        rw [hm]
        clear hv hb4 hro hO HW0 hm
        go_wp2_with fail
        go_loopw [51] (fun s51 wr => ∃ i : Nat, i ≤ m ∧ s51 = .int .i64 i ∧ Hid (WhQ w wr pb gb mb n L O (seenL L O i 0) po)) (fun s51 _ => m - (RowKit.intOf s51).toNat)
        case atStart => exact ⟨0, Nat.zero_le _, rfl, HI0⟩
        case round =>
          clear HI0
          obtain ⟨i, hi, rfl, HI⟩ := hrel
          by_cases hlt5 : i < m
          · obtain ⟨g, rfl, hg1, hg2, hg3⟩ := HI.out.o i (by rw [HM.out]; exact hlt5)
            have HOi : Hid (0 < (ofL L (O.getD i 0)).length) := owner_has HOw.out.1 i (by rw [HM.out]; exact hlt5)
            have hprev : i = 0 ∨ (0 < i ∧ ∃ y, wr.cell? ⟨g, i - 1, none⟩ = some (.int .i64 y) ∧ y < O.getD i 0) := by
              by_cases h0 : i = 0
              · exact Or.inl h0
              · obtain ⟨g', e', _, _, h3⟩ := HI.out.o (i - 1) (by rw [HM.out]; omega)
                injection e' with e'
                injection e' with e' _
                subst e'
                exact Or.inr ⟨by omega, _, h3, owner_rise HOw.out.1 i (by omega) (by rw [HM.out]; exact hlt5)⟩
            have HSN : Hid (∀ k, k < (ofL L (O.getD i 0)).length → seenL L O i (k + 1) = seenL L O i k ++ [(ofL L (O.getD i 0)).getD k 0] ∧ (ofL L (O.getD i 0)).getD k 0 ∉ seenL L O i k) := fun k hk => ⟨seen_step L O i k hk, seen_new HOw.out.1 i k (by rw [HM.out]; exact hlt5) hk⟩
            have HSE : Hid (seenL L O i (ofL L (O.getD i 0)).length = seenL L O (i + 1) 0) := seen_next L O i (by rw [HM.out]; exact hlt5)
            have HFL : Hid (∀ k, k < (ofL L (O.getD i 0)).length → (ofL L (O.getD i 0)).getD k 0 < n ∧ (0 < k → (ofL L (O.getD i 0)).getD (k - 1) 0 < (ofL L (O.getD i 0)).getD k 0)) := fun k hk => by
              refine ⟨?_, fun h0 => of_rise L _ k h0 hk⟩
              have : (ofL L (O.getD i 0)).getD k 0 ∈ ofL L (O.getD i 0) := by
                exact getDn_mem hk
              have := ofL_lt this
              have := HOw.out.2
              omega
            have HKL : Hid (∀ k, (seenL L O i k).length ≤ 100) := fun k => by
              have := seen_few HOw.out.1 i k (by rw [HM.out]; exact hlt5)
              have := HOw.out.2
              omega
            generalize O.getD i 0 = o at *
            go_wp2_with fail
            refine (of_at HI.out.p o).mono ?_
            rintro e w5 ⟨v2, rfl, hv2, hb5⟩
            obtain ⟨p2, c2, rfl, hr2⟩ := hv2.read (mb := mb) HI.out.s.lt
            generalize ofL L o = F at *
            have hl := World.block_lt_of_cell? _ _ hg3
            have hg3 := (hb5.cell (p := ⟨g, i, none⟩) hl).trans hg3
            have HJ : Hid (WhQ w w5 pb gb mb n L O (seenL L O i 0) (some ⟨g, 0, none⟩) ∧ ReadI w5 mb p2 (natsI F)) := ⟨HI.out.below hb5, hr2⟩
            obtain ⟨q, hq⟩ : ∃ q, F.length = q := ⟨_, rfl⟩
            have HQ : Hid (F.length = q) := hq
            have hq0 : 0 < q := by have := HOi.out; omega
            have hq9 : F.length ≤ 9223372036854775807 := by
              have := hv2.max
              rw [natsI_length] at this
              exact this
            rw [hq] at hq9
            rw [natsI_length, hq]
            clear hv2 hr2 HI hq HOi
            have hprev : i = 0 ∨ (0 < i ∧ ∃ y, w5.cell? ⟨g, i - 1, none⟩ = some (.int .i64 y) ∧ y < o) := by
              rcases hprev with h0 | ⟨h0, y, h1, h2⟩
              · exact Or.inl h0
              · exact Or.inr ⟨h0, y, (hb5.cell (p := ⟨g, i - 1, none⟩) (World.block_lt_of_cell? _ _ h1)).trans h1, h2⟩
            clear hb5 hl
            have HD : Hid (∀ N, WhQ w (w5.drewN N) pb gb mb n L O (seenL L O i 0) (some ⟨g, 0, none⟩) ∧ ReadI (w5.drewN N) mb p2 (natsI F)) := fun N => ⟨HJ.out.1.below (drewN_belowQ w5 N), HJ.out.2.keeps (Keeps.of_below (S := fun _ => False) (drewN_belowQ w5 N)) (fun _ _ e => e)⟩
            clear HJ
            rcases hprev with rfl | ⟨h0, y, hy1, hy2⟩
            · go_wp2_with fail
              have hq1 : ((q : Int) == 0) = false := by simp; omega
              go_quiet (fail)
              have HJ := HD.out nq
              have HJ : Hid (WhQ w (w5.drewN nq) pb gb mb n L O (seenL L O 0 0) (some ⟨g, 0, none⟩) ∧ ReadI (w5.drewN nq) mb p2 (natsI F)) := HJ
              clear HD
              generalize w5.drewN nq = w6 at *
              go_wp2_with fail
              go_loopw [81] (fun s81 wr => ∃ k : Nat, k ≤ q ∧ s81 = .int .i64 k ∧ Hid (WhQ w wr pb gb mb n L O (seenL L O 0 k) (some ⟨g, 0, none⟩) ∧ ReadI wr mb p2 (natsI F))) (fun s81 _ => q - (RowKit.intOf s81).toNat)
              case atStart => exact ⟨0, Nat.zero_le _, rfl, HJ⟩
              case round =>
                obtain ⟨k, hk, rfl, HI2⟩ := hrel
                by_cases hkq : k < q
                · obtain ⟨hx1, hx2⟩ := HFL.out k (by rw [HQ.out]; exact hkq)
                  have HS1 : Hid (seenL L O 0 (k + 1) = seenL L O 0 k ++ [F.getD k 0] ∧ F.getD k 0 ∉ seenL L O 0 k) := HSN.out k (by rw [HQ.out]; exact hkq)
                  obtain ⟨g6, rfl, hh1, hh2, hc⟩ := HI2.out.2 k (by rw [natsI_length, HQ.out]; exact hkq)
                  rw [natsI_getD] at hc
                  have hlk : ∀ N, (Instr.lookup 36 (.map (some mb)) (.int .i64 ((F.getD k 0 : Nat) : Int)) false).run Tryz.prog (wr.drewN N) = .ok (.bool false) (wr.drewN N) := fun N => sm_look (HI2.out.1.s.below (drewN_belowQ wr N)) _ (by omega) HS1.out.2
                  have hpk : k = 0 ∨ (0 < k ∧ ∃ y : Nat, wr.cell? ⟨g6, k - 1, none⟩ = some (.int .i64 (y : Int)) ∧ y < F.getD k 0) := by
                    by_cases h0 : k = 0
                    · exact Or.inl h0
                    · obtain ⟨g', e', _, _, h3⟩ := HI2.out.2 (k - 1) (by rw [natsI_length, HQ.out]; omega)
                      injection e' with e'
                      injection e' with e' _
                      subst e'
                      rw [natsI_getD] at h3
                      exact Or.inr ⟨by omega, _, h3, hx2 (by omega)⟩
                  have HD2 : Hid (∀ N, Hid (WhQ w (wr.drewN N) pb gb mb n L O (seenL L O 0 k) (some ⟨g, 0, none⟩) ∧ ReadI (wr.drewN N) mb (some ⟨g6, 0, none⟩) (natsI F))) := fun N => ⟨HI2.out.1.below (drewN_belowQ wr N), HI2.out.2.keeps (Keeps.of_below (S := fun _ => False) (drewN_belowQ wr N)) (fun _ _ e => e)⟩
                  obtain ⟨x, hx⟩ : ∃ x, F.getD k 0 = x := ⟨_, rfl⟩
                  have HX : Hid (F.getD k 0 = x) := hx
                  rw [hx] at hx1 HS1 hc hlk hpk
                  clear hx hx2 HI2 hh1
                  rcases hpk with rfl | ⟨hk0, y, hy1, hy2⟩
                  · go_wp2_with fail
                    have e1 : ¬ ((x : Int) < 0) := by omega
                    have e2 : ¬ ((n : Int) ≤ (x : Int)) := by omega
                    go_quiet (fail)
                    obtain ⟨HJa, HJb⟩ := (show Hid _ from HD2.out nq).out
                    clear HD2 hlk
                    generalize wr.drewN nq = w7 at *
                    obtain ⟨D, d1, d2, d3, d4⟩ := HJa.s
                    have HJc : Hid (WhQ w w7 pb gb mb n L O (seenL L O 0 0) (some ⟨g, 0, none⟩) ∧ ReadI w7 mb (some ⟨g6, 0, none⟩) (natsI F)) := ⟨HJa, HJb⟩
                    have HDD : Hid (Tidy D ∧ (∀ zz : Nat, Maps.has D (.int .i64 (zz : Int)) = decide (zz ∈ seenL L O 0 0)) ∧ Maps.size D = (seenL L O 0 0).length) := ⟨d2, d3, d4⟩
                    have hbd : Maps.size D < maxLen := by rw [d4]; have := HKL.out 0; unfold maxLen; omega
                    have hkey := keyOf_i (x : Int) (by omega)
                    have hc7 : w7.cell? ⟨g6, 0, none⟩ = some (.int .i64 (x : Int)) := by
                      obtain ⟨g', e', _, _, h3⟩ := HJb 0 (by rw [natsI_length, HQ.out]; exact hkq)
                      injection e' with e'
                      injection e' with e' _
                      subst e'
                      rw [natsI_getD, HX.out] at h3
                      exact h3
                    clear HJa HJb d2 d3 d4
                    go_wp2_with (at_mapUpdate; refine wpList_mapUpdate_own _ rfl _ _ _ 36 rfl 3 4 law3 Tryz.underlying36 (plainElem (H := Unit) Tryz.prog 4) mb (Maps.size D) D rfl d1 hbd _ _ _ rfl rfl hkey (.lit (.bool true)) [] (plainElem_bool Tryz.underlying4 true) ?_)
                    intro w8 hown8 hg8
                    have hk8 : Keeps (fun i => i = mb) w7 w8 := (Keeps.refl (fun i => i = mb) w7).grown hg8 (fun j e => by cases e; rfl)
                    have HN : Hid (WhQ w w8 pb gb mb n L O (seenL L O 0 (0 + 1)) (some ⟨g, 0, none⟩) ∧ ReadI w8 mb (some ⟨g6, 0, none⟩) (natsI F)) := by
                      refine ⟨?_, HJc.out.2.keeps hk8 (fun _ e f => e f)⟩
                      rw [HS1.out.1]
                      exact HJc.out.1.put hk8 HDD.out.1 HDD.out.2.1 HDD.out.2.2 x HS1.out.2 _ hown8
                    clear hown8 hg8 hk8 HJc HDD hbd hkey hc7 d1
                    go_wp2_with fail
                    exact ⟨⟨0 + 1, by omega, rfl, HN⟩, by simp [RowKit.intOf]; omega⟩
                  · have hk1 : ((k : Int) - 1) = ((k - 1 : Nat) : Int) := by omega
                    go_wp2_with fail
                    have e1 : ¬ ((x : Int) < 0) := by omega
                    have e2 : ¬ ((n : Int) ≤ (x : Int)) := by omega
                    have e3 : (0 : Int) < (k : Int) := by omega
                    have e4 : ¬ ((x : Int) ≤ (y : Int)) := by omega
                    go_quiet (fail)
                    obtain ⟨HJa, HJb⟩ := (show Hid _ from HD2.out nq).out
                    clear HD2 hlk
                    generalize wr.drewN nq = w7 at *
                    obtain ⟨D, d1, d2, d3, d4⟩ := HJa.s
                    have HJc : Hid (WhQ w w7 pb gb mb n L O (seenL L O 0 k) (some ⟨g, 0, none⟩) ∧ ReadI w7 mb (some ⟨g6, 0, none⟩) (natsI F)) := ⟨HJa, HJb⟩
                    have HDD : Hid (Tidy D ∧ (∀ zz : Nat, Maps.has D (.int .i64 (zz : Int)) = decide (zz ∈ seenL L O 0 k)) ∧ Maps.size D = (seenL L O 0 k).length) := ⟨d2, d3, d4⟩
                    have hbd : Maps.size D < maxLen := by rw [d4]; have := HKL.out k; unfold maxLen; omega
                    have hkey := keyOf_i (x : Int) (by omega)
                    have hc7 : w7.cell? ⟨g6, k, none⟩ = some (.int .i64 (x : Int)) := by
                      obtain ⟨g', e', _, _, h3⟩ := HJb k (by rw [natsI_length, HQ.out]; exact hkq)
                      injection e' with e'
                      injection e' with e' _
                      subst e'
                      rw [natsI_getD, HX.out] at h3
                      exact h3
                    clear HJa HJb d2 d3 d4
                    go_wp2_with (at_mapUpdate; refine wpList_mapUpdate_own _ rfl _ _ _ 36 rfl 3 4 law3 Tryz.underlying36 (plainElem (H := Unit) Tryz.prog 4) mb (Maps.size D) D rfl d1 hbd _ _ _ rfl rfl hkey (.lit (.bool true)) [] (plainElem_bool Tryz.underlying4 true) ?_)
                    intro w8 hown8 hg8
                    have hk8 : Keeps (fun i => i = mb) w7 w8 := (Keeps.refl (fun i => i = mb) w7).grown hg8 (fun j e => by cases e; rfl)
                    have HN : Hid (WhQ w w8 pb gb mb n L O (seenL L O 0 (k + 1)) (some ⟨g, 0, none⟩) ∧ ReadI w8 mb (some ⟨g6, 0, none⟩) (natsI F)) := by
                      refine ⟨?_, HJc.out.2.keeps hk8 (fun _ e f => e f)⟩
                      rw [HS1.out.1]
                      exact HJc.out.1.put hk8 HDD.out.1 HDD.out.2.1 HDD.out.2.2 x HS1.out.2 _ hown8
                    clear hown8 hg8 hk8 HJc HDD hbd hkey hc7 d1
                    go_wp2_with fail
                    exact ⟨⟨k + 1, by omega, rfl, HN⟩, by simp [RowKit.intOf]; omega⟩
                · obtain rfl : k = q := by omega
                  have HE : Hid (WhQ w wr pb gb mb n L O (seenL L O (0 + 1) 0) (some ⟨g, 0, none⟩)) := by
                    have h1 := HI2.out.1
                    have h2 := HSE.out
                    rw [HQ.out] at h2
                    rw [h2] at h1
                    exact h1
                  clear HI2
                  go_wp2_with fail
                  exact ⟨⟨0 + 1, by omega, rfl, HE⟩, by simp [RowKit.intOf]; omega⟩
            · have hi1 : ((i : Int) - 1) = ((i - 1 : Nat) : Int) := by omega
              go_wp2_with fail
              have hi2 : (0 : Int) < (i : Int) := by omega
              have hy3 : ¬ (o ≤ y) := by omega
              have hq1 : ((q : Int) == 0) = false := by simp; omega
              go_quiet (fail)
              have HJ := HD.out nq
              have HJ : Hid (WhQ w (w5.drewN nq) pb gb mb n L O (seenL L O i 0) (some ⟨g, 0, none⟩) ∧ ReadI (w5.drewN nq) mb p2 (natsI F)) := HJ
              clear HD
              generalize w5.drewN nq = w6 at *
              go_wp2_with fail
              go_loopw [81] (fun s81 wr => ∃ k : Nat, k ≤ q ∧ s81 = .int .i64 k ∧ Hid (WhQ w wr pb gb mb n L O (seenL L O i k) (some ⟨g, 0, none⟩) ∧ ReadI wr mb p2 (natsI F))) (fun s81 _ => q - (RowKit.intOf s81).toNat)
              case atStart => exact ⟨0, Nat.zero_le _, rfl, HJ⟩
              case round =>
                obtain ⟨k, hk, rfl, HI2⟩ := hrel
                by_cases hkq : k < q
                · obtain ⟨hx1, hx2⟩ := HFL.out k (by rw [HQ.out]; exact hkq)
                  have HS1 : Hid (seenL L O i (k + 1) = seenL L O i k ++ [F.getD k 0] ∧ F.getD k 0 ∉ seenL L O i k) := HSN.out k (by rw [HQ.out]; exact hkq)
                  obtain ⟨g6, rfl, hh1, hh2, hc⟩ := HI2.out.2 k (by rw [natsI_length, HQ.out]; exact hkq)
                  rw [natsI_getD] at hc
                  have hlk : ∀ N, (Instr.lookup 36 (.map (some mb)) (.int .i64 ((F.getD k 0 : Nat) : Int)) false).run Tryz.prog (wr.drewN N) = .ok (.bool false) (wr.drewN N) := fun N => sm_look (HI2.out.1.s.below (drewN_belowQ wr N)) _ (by omega) HS1.out.2
                  have hpk : k = 0 ∨ (0 < k ∧ ∃ y : Nat, wr.cell? ⟨g6, k - 1, none⟩ = some (.int .i64 (y : Int)) ∧ y < F.getD k 0) := by
                    by_cases h0 : k = 0
                    · exact Or.inl h0
                    · obtain ⟨g', e', _, _, h3⟩ := HI2.out.2 (k - 1) (by rw [natsI_length, HQ.out]; omega)
                      injection e' with e'
                      injection e' with e' _
                      subst e'
                      rw [natsI_getD] at h3
                      exact Or.inr ⟨by omega, _, h3, hx2 (by omega)⟩
                  have HD2 : Hid (∀ N, Hid (WhQ w (wr.drewN N) pb gb mb n L O (seenL L O i k) (some ⟨g, 0, none⟩) ∧ ReadI (wr.drewN N) mb (some ⟨g6, 0, none⟩) (natsI F))) := fun N => ⟨HI2.out.1.below (drewN_belowQ wr N), HI2.out.2.keeps (Keeps.of_below (S := fun _ => False) (drewN_belowQ wr N)) (fun _ _ e => e)⟩
                  obtain ⟨x, hx⟩ : ∃ x, F.getD k 0 = x := ⟨_, rfl⟩
                  have HX : Hid (F.getD k 0 = x) := hx
                  rw [hx] at hx1 HS1 hc hlk hpk
                  clear hx hx2 HI2 hh1
                  rcases hpk with rfl | ⟨hk0, y, hy1, hy2⟩
                  · go_wp2_with fail
                    have e1 : ¬ ((x : Int) < 0) := by omega
                    have e2 : ¬ ((n : Int) ≤ (x : Int)) := by omega
                    go_quiet (fail)
                    obtain ⟨HJa, HJb⟩ := (show Hid _ from HD2.out nq).out
                    clear HD2 hlk
                    generalize wr.drewN nq = w7 at *
                    obtain ⟨D, d1, d2, d3, d4⟩ := HJa.s
                    have HJc : Hid (WhQ w w7 pb gb mb n L O (seenL L O i 0) (some ⟨g, 0, none⟩) ∧ ReadI w7 mb (some ⟨g6, 0, none⟩) (natsI F)) := ⟨HJa, HJb⟩
                    have HDD : Hid (Tidy D ∧ (∀ zz : Nat, Maps.has D (.int .i64 (zz : Int)) = decide (zz ∈ seenL L O i 0)) ∧ Maps.size D = (seenL L O i 0).length) := ⟨d2, d3, d4⟩
                    have hbd : Maps.size D < maxLen := by rw [d4]; have := HKL.out 0; unfold maxLen; omega
                    have hkey := keyOf_i (x : Int) (by omega)
                    have hc7 : w7.cell? ⟨g6, 0, none⟩ = some (.int .i64 (x : Int)) := by
                      obtain ⟨g', e', _, _, h3⟩ := HJb 0 (by rw [natsI_length, HQ.out]; exact hkq)
                      injection e' with e'
                      injection e' with e' _
                      subst e'
                      rw [natsI_getD, HX.out] at h3
                      exact h3
                    clear HJa HJb d2 d3 d4
                    go_wp2_with (at_mapUpdate; refine wpList_mapUpdate_own _ rfl _ _ _ 36 rfl 3 4 law3 Tryz.underlying36 (plainElem (H := Unit) Tryz.prog 4) mb (Maps.size D) D rfl d1 hbd _ _ _ rfl rfl hkey (.lit (.bool true)) [] (plainElem_bool Tryz.underlying4 true) ?_)
                    intro w8 hown8 hg8
                    have hk8 : Keeps (fun i => i = mb) w7 w8 := (Keeps.refl (fun i => i = mb) w7).grown hg8 (fun j e => by cases e; rfl)
                    have HN : Hid (WhQ w w8 pb gb mb n L O (seenL L O i (0 + 1)) (some ⟨g, 0, none⟩) ∧ ReadI w8 mb (some ⟨g6, 0, none⟩) (natsI F)) := by
                      refine ⟨?_, HJc.out.2.keeps hk8 (fun _ e f => e f)⟩
                      rw [HS1.out.1]
                      exact HJc.out.1.put hk8 HDD.out.1 HDD.out.2.1 HDD.out.2.2 x HS1.out.2 _ hown8
                    clear hown8 hg8 hk8 HJc HDD hbd hkey hc7 d1
                    go_wp2_with fail
                    exact ⟨⟨0 + 1, by omega, rfl, HN⟩, by simp [RowKit.intOf]; omega⟩
                  · have hk1 : ((k : Int) - 1) = ((k - 1 : Nat) : Int) := by omega
                    go_wp2_with fail
                    have e1 : ¬ ((x : Int) < 0) := by omega
                    have e2 : ¬ ((n : Int) ≤ (x : Int)) := by omega
                    have e3 : (0 : Int) < (k : Int) := by omega
                    have e4 : ¬ ((x : Int) ≤ (y : Int)) := by omega
                    go_quiet (fail)
                    obtain ⟨HJa, HJb⟩ := (show Hid _ from HD2.out nq).out
                    clear HD2 hlk
                    generalize wr.drewN nq = w7 at *
                    obtain ⟨D, d1, d2, d3, d4⟩ := HJa.s
                    have HJc : Hid (WhQ w w7 pb gb mb n L O (seenL L O i k) (some ⟨g, 0, none⟩) ∧ ReadI w7 mb (some ⟨g6, 0, none⟩) (natsI F)) := ⟨HJa, HJb⟩
                    have HDD : Hid (Tidy D ∧ (∀ zz : Nat, Maps.has D (.int .i64 (zz : Int)) = decide (zz ∈ seenL L O i k)) ∧ Maps.size D = (seenL L O i k).length) := ⟨d2, d3, d4⟩
                    have hbd : Maps.size D < maxLen := by rw [d4]; have := HKL.out k; unfold maxLen; omega
                    have hkey := keyOf_i (x : Int) (by omega)
                    have hc7 : w7.cell? ⟨g6, k, none⟩ = some (.int .i64 (x : Int)) := by
                      obtain ⟨g', e', _, _, h3⟩ := HJb k (by rw [natsI_length, HQ.out]; exact hkq)
                      injection e' with e'
                      injection e' with e' _
                      subst e'
                      rw [natsI_getD, HX.out] at h3
                      exact h3
                    clear HJa HJb d2 d3 d4
                    go_wp2_with (at_mapUpdate; refine wpList_mapUpdate_own _ rfl _ _ _ 36 rfl 3 4 law3 Tryz.underlying36 (plainElem (H := Unit) Tryz.prog 4) mb (Maps.size D) D rfl d1 hbd _ _ _ rfl rfl hkey (.lit (.bool true)) [] (plainElem_bool Tryz.underlying4 true) ?_)
                    intro w8 hown8 hg8
                    have hk8 : Keeps (fun i => i = mb) w7 w8 := (Keeps.refl (fun i => i = mb) w7).grown hg8 (fun j e => by cases e; rfl)
                    have HN : Hid (WhQ w w8 pb gb mb n L O (seenL L O i (k + 1)) (some ⟨g, 0, none⟩) ∧ ReadI w8 mb (some ⟨g6, 0, none⟩) (natsI F)) := by
                      refine ⟨?_, HJc.out.2.keeps hk8 (fun _ e f => e f)⟩
                      rw [HS1.out.1]
                      exact HJc.out.1.put hk8 HDD.out.1 HDD.out.2.1 HDD.out.2.2 x HS1.out.2 _ hown8
                    clear hown8 hg8 hk8 HJc HDD hbd hkey hc7 d1
                    go_wp2_with fail
                    exact ⟨⟨k + 1, by omega, rfl, HN⟩, by simp [RowKit.intOf]; omega⟩
                · obtain rfl : k = q := by omega
                  have HE : Hid (WhQ w wr pb gb mb n L O (seenL L O (i + 1) 0) (some ⟨g, 0, none⟩)) := by
                    have h1 := HI2.out.1
                    have h2 := HSE.out
                    rw [HQ.out] at h2
                    rw [h2] at h1
                    exact h1
                  clear HI2
                  go_wp2_with fail
                  exact ⟨⟨i + 1, by omega, rfl, HE⟩, by simp [RowKit.intOf]; omega⟩
          · obtain rfl : i = m := by omega
            have HE : Hid ((seenL L O i 0).length + frees L = n) := by
              have := seen_all HOw.out.1
              rw [HM.out, HOw.out.2] at this
              exact this
            have hln := sm_len HI.out.s
            have hfl : (seenL L O i 0).length ≤ 100 := by have := HE.out; omega
            generalize seenL L O i 0 = K at *
            go_wp2_with fail
            refine (free_at HI.out.p).mono ?_
            rintro e w5 ⟨rfl, hb5⟩
            have HB5 : Hid (Below w.heap.size w w5) := HI.out.u.trans (hb5.mono HI.out.u.size)
            have hfe : ((K.length : Int) + (frees L : Int)) = (n : Int) := by have := HE.out; omega
            generalize K.length = a at *
            generalize frees L = b at *
            go_wp2_with fail
            go_ret
            exact ⟨rfl, HB5.out⟩
end Go.Proofs.YteehcffmccgciaaGreatDoor
