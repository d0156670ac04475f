import Derived.Test.YtmdjjnjhjojimaaDoorAllG
import Derived.Test.YtmdjjnjhjojimaaDoorBegB
import Derived.Deep.DeepCutAuto
namespace Go.Proofs.YtmdjjnjhjojimaaDoor
open Go.RowKit Go.Maps

theorem idx130w (x : Int) : ∃ q : Nat, q < 130 ∧ (wrap64 (x.tmod 130 + 130)).tmod 130 = (q : Int) := by
  have h := rem_any x 130 (by omega)
  have e : wrap64 (x.tmod 130 + 130) = x.tmod 130 + 130 := by unfold wrap64; omega
  rw [e]
  have h0 : 0 ≤ (x.tmod 130 + 130).tmod 130 := Int.tmod_nonneg 130 (by omega)
  have h1 := Int.tmod_lt_of_pos (x.tmod 130 + 130) (show (0 : Int) < 130 by omega)
  exact ⟨((x.tmod 130 + 130).tmod 130).toNat, by omega, by omega⟩
/-- The steps that an argument reads. -/
def OpsAt (w : World) (a : Option Addr) (m : Nat) : Prop := ∀ j, j < m → ∃ (b o : Nat) (kd i : Int) (x : UInt8) (ka : Option Addr) (kl kc : Nat) (K : List Bool), a = some ⟨b, o, none⟩ ∧ b < w.heap.size ∧ (-9223372036854775808 ≤ i ∧ i ≤ 9223372036854775807) ∧
  w.cell? ⟨b, o + j * 4, none⟩ = some (.int .i64 kd) ∧ w.cell? ⟨b, o + j * 4 + 1, none⟩ = some (.int .i64 i) ∧ w.cell? ⟨b, o + j * 4 + 2, none⟩ = some (.int .u8 x.toNat) ∧ w.cell? ⟨b, o + j * 4 + 3, none⟩ = some (.slice ka kl kc) ∧ KeepB w w.heap.size ka kl K
def OnePair (w : World) (lo n kmax : Nat) (dv rv : Value) : Prop := ∃ (k db dn mb cap : Nat) (B : List UInt8) (D : DataW Unit) (left : Int) (down : Bool) (r nb sb lb cn cs cl : Nat) (Now Safe : Nat → List UInt8) (Lz : Nat → Bool) (fuse : Int) (fused : Bool),
  dv = .pointer (some ⟨db, 0, none⟩) ∧ rv = .pointer (some ⟨r, 0, none⟩) ∧ k ≤ kmax ∧ Pair w n k lo db dn mb cap B D left down r nb sb lb cn cs cl Now Safe Lz fuse fused

set_option maxRecDepth 100000 in
set_option maxHeartbeats 16000000 in
theorem devAll_true (hN : NewDevOk) (nn : Int) (hn0 : -9223372036854775808 ≤ nn ∧ nn ≤ 9223372036854775807) (a : Option Addr) (m c : Nat) (w : World) (hO : OpsAt w a m) (hg : w.cell? ⟨0, 0, none⟩ = some errType) :
    Calls Tryd.prog 3 #[.int .i64 nn, .slice a m c] w fun e w' => e = .returned (.bool true) ∧ Below w.heap.size w w' := by
  go_enter Tryd.func3, Tryd.ntmps3
  go_wp2_with fail
  refine (begun_true _ hg).mono ?_
  rintro e w1 ⟨rfl, hb1⟩
  clear hg
  go_wp2_with fail
  by_cases hnn : nn < 64 ∨ 4096 < nn
  · refine (new_no nn w1 hnn).mono ?_
    rintro e w2 ⟨rfl, hw2⟩
    subst hw2
    rcases hnn with hnn | hnn
    · go_wp2_with fail
      go_ret
      exact ⟨rfl, hb1⟩
    · go_wp2_with fail
      go_ret
      exact ⟨rfl, hb1⟩
  · obtain ⟨n, rfl⟩ : ∃ n : Nat, nn = (n : Int) := ⟨nn.toNat, by omega⟩
    have h64 : 64 ≤ n := by omega
    have h4096 : n ≤ 4096 := by omega
    clear hnn hn0
    refine (new_at n w1 h64 h4096).mono ?_
    rintro e w2 ⟨db, dn, mb, rfl, l1, l2, l3, hd2, hb2⟩
    go_wp2_with fail
    refine (hN n w2 h64 h4096).mono ?_
    rintro e w3 ⟨r, nb, sb, lb, cn, cs, cl, rfl, hr3, z1, z2, z3, z4, hb3⟩
    have hbs1 := hb1.size
    have hbs2 := hb2.size
    have hb12 : Below w.heap.size w w2 := hb1.trans (hb2.mono hbs1)
    have hb13 : Below w.heap.size w w3 := hb12.trans (hb3.mono hb12.size)
    have hd3 := hd2.keeps (Keeps.of_below (S := fun _ => False) hb3) (fun e => e) (fun e => e) (fun e => e)
    have q1 := hd2.dlt
    have q2 := hd2.nlt
    have q3 := hd2.mlt
    have hP3 : OnePair w3 w.heap.size n 0 (.pointer (some ⟨db, 0, none⟩)) (.pointer (some ⟨r, 0, none⟩)) := by
      refine ⟨0, db, dn, mb, n, List.replicate (n * 64) 0, .map [], 0, false, r, nb, sb, lb, cn, cs, cl, fun _ => zsec, fun _ => zsec, fun _ => false, 0, false, rfl, rfl, Nat.le_refl _, ?_⟩
      exact { dev := hd3, sim := Sim.start n, ap := by omega, lo := by omega,
              ref := hr3.move (Keeps.refl (fun _ => False) w3) (fun e => e) (fun e => e) (fun e => e) (fun e => e) (fun b _ x => by
                rcases x with x | x
                · exact x.elim
                · rcases x with x | x | x | x | x | x | x
                  · exact Or.inr (Or.inl x)
                  · exact Or.inr (Or.inr (Or.inl x))
                  · exact Or.inr (Or.inr (Or.inr (Or.inl x)))
                  · exact Or.inr (Or.inr (Or.inr (Or.inr x)))
                  · exact Or.inl (by omega)
                  · exact Or.inl (by omega)
                  · exact Or.inl (by omega)) ⟨Or.inl rfl, Or.inr (Or.inl rfl), Or.inr (Or.inr (Or.inl rfl)), Or.inr (Or.inr (Or.inr (Or.inl rfl)))⟩ (fun b x => by
                have y1 := hr3.rlt
                have y2 := hr3.now.lt
                have y3 := hr3.safe.lt
                have y4 := hr3.llt
                have y5 := hb3.size
                rcases x with x | x | x | x | x | x | x <;> omega) }
    have HO : Hid (OpsAt w a m) := hO
    clear hO hd2 hr3 hd3 hb1 hb2 hb3 hb12
    go_wp2_with fail
    go_loopw [6, 7, 8] (fun s6 s7 s8 wr => ∃ j : Nat, j ≤ 40 ∧ s8 = .int .i64 j ∧ OnePair wr w.heap.size n j s6 s7 ∧ Below w.heap.size w wr) (fun _ _ s8 _ => 40 - (RowKit.intOf s8).toNat)
    case atStart => exact ⟨0, by omega, rfl, hP3, hb13⟩
    case round => as_aux_lemma =>
      obtain ⟨j, hj, rfl, hP, hbr⟩ := hrel
      clear hP3 hb13 q1 q2 q3 z1 z2 z3 z4
      have hbrs := hbr.size
      by_cases hlt : j < m ∧ j < 40
      · obtain ⟨hlt1, hlt2⟩ := hlt
        obtain ⟨b, o, kd, i, x, ka, kl, kc, K, rfl, hbl, hib, e0, e1, e2, e3, hK⟩ := HO.out j hlt1
        have d0 := (hbr.cell (p := ⟨b, o + j * 4, none⟩) hbl).trans e0
        have d1 := (hbr.cell (p := ⟨b, o + j * 4 + 1, none⟩) hbl).trans e1
        have d2 := (hbr.cell (p := ⟨b, o + j * 4 + 2, none⟩) hbl).trans e2
        have d3 := (hbr.cell (p := ⟨b, o + j * 4 + 3, none⟩) hbl).trans e3
        obtain ⟨k, db, dn, mb, cap, B, D, left, down, r, nb, sb, lb, cn, cs, cl, Now, Safe, Lz, fuse, fused, rfl, rfl, hkj, hp⟩ := hP
        have t1 := hp.dev.dlt
        have t2 := hp.dev.nlt
        have t3 := hp.dev.mlt
        have t4 := hp.ref.rlt
        have t5 := hp.ref.now.lt
        have t6 := hp.ref.safe.lt
        have t7 := hp.ref.llt
        have hpA := hp.below ((Below.refl _ wr).alloc (Nat.le_refl _) (.cells #[.int .i64 kd, .int .i64 i, .int .u8 x.toNat, .slice ka kl kc] 30))
        have hbA : Below w.heap.size w (wr.alloc (.cells #[.int .i64 kd, .int .i64 i, .int .u8 x.toNat, .slice ka kl kc] 30)) := hbr.alloc hbrs _
        have v0 : (wr.alloc (.cells #[.int .i64 kd, .int .i64 i, .int .u8 x.toNat, .slice ka kl kc] 30)).cell? ⟨wr.heap.size, 0, none⟩ = some (.int .i64 kd) := by rw [World.cell?_alloc_at _ _ _ _ (by simp)]; rfl
        have v1 : (wr.alloc (.cells #[.int .i64 kd, .int .i64 i, .int .u8 x.toNat, .slice ka kl kc] 30)).cell? ⟨wr.heap.size, 1, none⟩ = some (.int .i64 i) := by rw [World.cell?_alloc_at _ _ _ _ (by simp)]; rfl
        have v2 : (wr.alloc (.cells #[.int .i64 kd, .int .i64 i, .int .u8 x.toNat, .slice ka kl kc] 30)).cell? ⟨wr.heap.size, 2, none⟩ = some (.int .u8 x.toNat) := by rw [World.cell?_alloc_at _ _ _ _ (by simp)]; rfl
        have v3 : (wr.alloc (.cells #[.int .i64 kd, .int .i64 i, .int .u8 x.toNat, .slice ka kl kc] 30)).cell? ⟨wr.heap.size, 3, none⟩ = some (.slice ka kl kc) := by rw [World.cell?_alloc_at _ _ _ _ (by simp)]; rfl
        have hoA : wr.heap.size < (wr.alloc (.cells #[.int .i64 kd, .int .i64 i, .int .u8 x.toNat, .slice ka kl kc] 30)).heap.size := by simp
        have HP : Hid (Pair wr n k w.heap.size db dn mb cap B D left down r nb sb lb cn cs cl Now Safe Lz fuse fused) := hp
        have HK : Hid (KeepB w w.heap.size ka kl K) := hK
        clear e0 e1 e2 e3 hp hK HP
        go_upto_region 13 with fail
        clear d0 d1 d2 d3
        generalize wr.alloc (.cells #[.int .i64 kd, .int .i64 i, .int .u8 x.toNat, .slice ka kl kc] 30) = wA at hpA hbA v0 v1 v2 v3 hoA ⊢
        generalize wr.heap.size = ob at hbrs t1 t2 t3 t4 t5 t6 t7 v0 v1 v2 v3 hoA ⊢
        clear hbr
        go_cut [44] (fun s44 wx => s44 = .int .i64 kd ∧ wA = wx)
        case first =>
          go_wp2_with fail
          go_meet
          exact ⟨rfl, rfl⟩
        case rest =>
        obtain ⟨rfl, rfl⟩ := hcut
        refine ‹∀ (a : Act) (w : World), Code.wp Tryd.prog (Code.block 2 _) _ a w → _› _ _ ?_
        obtain ⟨o1, o2, o3, o4, o5, o6, o7⟩ := hpA.lo
        have hk6 : k ≤ 1000000 := by omega
        have hbAs := hbA.size
        have HDN : Hid (down = (fused && decide (fuse ≤ 0))) := hpA.sim.isDown
        have HPA : Hid (Pair wA n k w.heap.size db dn mb cap B D left down r nb sb lb cn cs cl Now Safe Lz fuse fused) := hpA
        clear hpA
        go_cut [6, 7, 10, 11] (fun s6 s7 s10 s11 wx => ∃ code : Int, s10 = .int .i64 code ∧ s11 = .int .i64 code ∧ OnePair wx w.heap.size n (j + 1) s6 s7 ∧ Below w.heap.size w wx ∧ wx.cell? ⟨ob, 1, none⟩ = some (.int .i64 i))
        case first => as_aux_lemma =>
          by_cases hk0 : kd = 0
          · subst hk0
            go_wp2_with fail
            go_region_held (fun w' => w'.cell? ⟨ob, 1, none⟩ = some (.int .i64 i) ∧ w'.cell? ⟨ob, 2, none⟩ = some (.int .u8 x.toNat)) (first | exact ⟨v1, v2⟩ | (constructor <;> assumption))
              (first
                | (have hold := hb6; clear hold; go_at_call 13; refine (refWrite_any hr6 hWO HP4.out.sim g6 64 (fun _ => ⟨List.length_replicate .., hrg6⟩) y62 (by omega)).mono ?_; rintro e w7 ⟨Now', Lz', fuse', rfl, hr7, hS7, hk7⟩; have v17 := (hk7.cell (p := ⟨ob, 1, none⟩) (by show ob < _; omega) (by show ¬ (ob = r ∨ ob = nb ∨ ob = sb ∨ ob = lb); omega)).trans v16; have v27 := (hk7.cell (p := ⟨ob, 2, none⟩) (by show ob < _; omega) (by show ¬ (ob = r ∨ ob = nb ∨ ob = sb ∨ ob = lb); omega)).trans v26)
                | (have hold := hkW; clear hold; go_at_call 12; refine (bytes_at x _).mono ?_; rintro e w6 ⟨g6, rfl, y61, y62, hrg6, _, hb6⟩; have hr6 := hr5.below hb6; have hs6 := hb6.size; have v16 := (hb6.cell (p := ⟨ob, 1, none⟩) (by show ob < _; omega)).trans v15; have v26 := (hb6.cell (p := ⟨ob, 2, none⟩) (by show ob < _; omega)).trans v25)
                | (have hold := hb4; clear hold; go_at_call 11; refine (devWrite_any HP4.out i g4 64 64 (List.replicate 64 x) (fun _ => ⟨List.length_replicate .., hrg4⟩) (by omega) hk6).mono ?_; rintro e w5 ⟨code, k', B', D', left', down', rfl, hd5, hk5, hkW, hWO⟩; have hr5 := HP4.out.ref1 hkW (Or.inl rfl) hd5.mlt; have hs5 := hkW.size; have v15 := (hkW.cell (p := ⟨ob, 1, none⟩) (by show ob < _; omega) (by show ¬ (ob = db ∨ ob = dn ∨ ob = mb); omega)).trans v14; have v25 := (hkW.cell (p := ⟨ob, 2, none⟩) (by show ob < _; omega) (by show ¬ (ob = db ∨ ob = dn ∨ ob = mb); omega)).trans v24)
                | (go_at_call 12; refine (bytes_at x _).mono ?_; rintro e w4 ⟨g4, rfl, y41, y42, hrg4, _, hb4⟩; have hb4' : Below wA.heap.size wA w4 := (below_dr (Below.refl _ wA)).trans hb4; have hs4 := hb4'.size; have hy4 : wA.heap.size ≤ g4 := y41; have HP4 : Hid (Pair w4 n k w.heap.size db dn mb cap B D left down r nb sb lb cn cs cl Now Safe Lz fuse fused) := HPA.out.below hb4'; have v14 := (hb4'.cell (p := ⟨ob, 1, none⟩) hoA).trans v1; have v24 := (hb4'.cell (p := ⟨ob, 2, none⟩) hoA).trans v2))
            all_goals
              go_wp2_with fail
              go_meet
              obtain ⟨hp7, hk47⟩ := HP4.out.wrote hd5 hkW hb6 hr7 hS7 hk7
              have hb4w : Below w.heap.size w w4 := hbA.trans (hb4'.mono hbAs)
              exact ⟨code, rfl, rfl, ⟨k', db, dn, mb, cap, B', D', left', down', r, nb, sb, lb, cn, cs, cl, Now', Safe, Lz', fuse', fused, rfl, rfl, by omega, hp7⟩, hb4w.trans (hk47.below hb4w.size (fun x e => e)), v17⟩
          · by_cases hk1 : kd = 1
            · subst hk1
              clear hk0
              cases hdv : down
              · have hpF := HPA.out
                have HDF := HDN
                rw [hdv] at hpF HDF
                clear hdv HPA HDN
                go_wp2_with fail
                refine (flush_any hpF.dev).mono ?_
                rintro e w5 ⟨rfl, hd5, hk5⟩
                have hr5 := hpF.ref1 (hk5.mono (fun _ e => Or.inl e)) (Or.inr (Nat.le_refl _)) hd5.mlt
                have hs5 := hk5.size
                have v15 := (hk5.cell (p := ⟨ob, 1, none⟩) hoA (by show ¬ ob = db; omega)).trans v1
                go_wp2_with fail
                refine (refFlush_ok hr5 HDF.out.symm).mono ?_
                rintro e w7 ⟨rfl, hr7, hk7⟩
                have v17 := (hk7.cell (p := ⟨ob, 1, none⟩) (by show ob < _; omega) (by show ¬ (ob = r ∨ ob = sb ∨ ob = lb); omega)).trans v15
                obtain ⟨hp7, hk47⟩ := hpF.flushed (Nat.le_refl _) hd5 hk5 hr7 hpF.sim.flush (hk7.mono (fun x e => by rcases e with e | e | e; exact Or.inl e; exact Or.inr (Or.inr (Or.inl e)); exact Or.inr (Or.inr (Or.inr e)))) hbAs
                have H7 : Hid (OnePair w7 w.heap.size n (j + 1) (.pointer (some ⟨db, 0, none⟩)) (.pointer (some ⟨r, 0, none⟩)) ∧ Below w.heap.size w w7) := ⟨⟨0, db, dn, wA.heap.size, cap, _, _, _, _, r, nb, sb, lb, cn, cs, cl, _, _, _, _, _, rfl, rfl, by omega, hp7⟩, hbA.trans (hk47.below hbAs (fun x e => e))⟩
                clear hp7 hk47 hr7 hr5 hd5 hpF hk5 hk7
                go_wp2_with fail
                go_meet
                exact ⟨0, rfl, rfl, H7.out.1, H7.out.2, v17⟩
              · have hpF := HPA.out
                have HDF := HDN
                rw [hdv] at hpF HDF
                clear hdv HPA HDN
                go_wp2_with fail
                refine (flush_down hpF.dev.c3).mono ?_
                rintro e w5 ⟨rfl, hw5⟩
                subst hw5
                go_wp2_with fail
                refine (refFlush_down hpF.ref HDF.out.symm).mono ?_
                rintro e w7 ⟨rfl, hw7⟩
                subst hw7
                have H7 : Hid (OnePair w7 w.heap.size n (j + 1) (.pointer (some ⟨db, 0, none⟩)) (.pointer (some ⟨r, 0, none⟩))) := ⟨k, db, dn, mb, cap, _, _, _, _, r, nb, sb, lb, cn, cs, cl, _, _, _, _, _, rfl, rfl, by omega, hpF⟩
                clear hpF
                go_wp2_with fail
                go_meet
                exact ⟨9, rfl, rfl, H7.out, hbA, v1⟩
            · by_cases hk2 : kd = 2
              · subst hk2
                clear hk0 hk1
                cases hdv : down
                · have hpF := HPA.out
                  have HDF := HDN
                  rw [hdv] at hpF HDF
                  clear hdv HPA HDN
                  have hkb : -5 ≤ max (-5) (min i 50) ∧ max (-5) (min i 50) ≤ 50 := by omega
                  go_wp2_with fail
                  generalize max (-5) (min i 50) = kk at hkb ⊢
                  refine (fuse_any hpF.dev kk (by omega)).mono ?_
                  rintro e w5 ⟨rfl, hd5, hk5⟩
                  have hr5 := hpF.ref1 (hk5.mono (fun _ e => Or.inl e)) (Or.inl rfl) hd5.mlt
                  have hs5 := hk5.size
                  have v15 := (hk5.cell (p := ⟨ob, 1, none⟩) hoA (by show ¬ ob = db; omega)).trans v1
                  go_wp2_with fail
                  refine (refDown hr5).mono ?_
                  rintro e w6 ⟨rfl, hw6⟩
                  subst hw6
                  rw [← HDF.out]
                  have c3 := hr5.c3
                  have c4 := hr5.c4
                  have f3 := hr5.f 3
                  have f4 := hr5.f 4
                  have hr7 := (hr5.fuseTo kk (by omega) (by omega)).fusedTo true
                  have hk7 : Keeps (fun x => x = r ∨ x = nb ∨ x = sb ∨ x = lb) w6 ((w6.setCell ⟨r, 3, none⟩ (.int .i64 kk)).setCell ⟨r, 4, none⟩ (.bool true)) := ((Keeps.refl (fun x => x = r ∨ x = nb ∨ x = sb ∨ x = lb) w6).setCell (p := ⟨r, 3, none⟩) (Or.inl rfl) _).setCell (p := ⟨r, 4, none⟩) (Or.inl rfl) _
                  have v17 := (hk7.cell (p := ⟨ob, 1, none⟩) (by show ob < _; omega) (by show ¬ (ob = r ∨ ob = nb ∨ ob = sb ∨ ob = lb); omega)).trans v15
                  obtain ⟨hp7, hk47⟩ := hpF.fusedTo hd5 hk5 hr7 (hpF.sim.fuse kk) hk7
                  have H7 : Hid (OnePair ((w6.setCell ⟨r, 3, none⟩ (.int .i64 kk)).setCell ⟨r, 4, none⟩ (.bool true)) w.heap.size n (j + 1) (.pointer (some ⟨db, 0, none⟩)) (.pointer (some ⟨r, 0, none⟩)) ∧ Below w.heap.size w ((w6.setCell ⟨r, 3, none⟩ (.int .i64 kk)).setCell ⟨r, 4, none⟩ (.bool true)) ∧ ((w6.setCell ⟨r, 3, none⟩ (.int .i64 kk)).setCell ⟨r, 4, none⟩ (.bool true)).cell? ⟨ob, 1, none⟩ = some (.int .i64 i)) := ⟨⟨k, db, dn, mb, cap, _, _, _, _, r, nb, sb, lb, cn, cs, cl, _, _, _, _, _, rfl, rfl, by omega, hp7⟩, hbA.trans (hk47.below hbAs (fun x e => e)), v17⟩
                  clear hp7 hk47 hr7 hr5 hd5 hpF hk5 hk7 v17 v15
                  go_wp2_with fail
                  go_meet
                  exact ⟨0, rfl, rfl, H7.out.1, H7.out.2.1, H7.out.2.2⟩
                · have hpF := HPA.out
                  have HDF := HDN
                  rw [hdv] at hpF HDF
                  clear hdv HPA HDN
                  go_wp2_with fail
                  refine (fuse_down hpF.dev.c3 _).mono ?_
                  rintro e w5 ⟨rfl, hw5⟩
                  subst hw5
                  go_wp2_with fail
                  refine (refDown hpF.ref).mono ?_
                  rintro e w6 ⟨rfl, hw6⟩
                  subst hw6
                  rw [← HDF.out]
                  have H7 : Hid (OnePair w6 w.heap.size n (j + 1) (.pointer (some ⟨db, 0, none⟩)) (.pointer (some ⟨r, 0, none⟩))) := ⟨k, db, dn, mb, cap, _, _, _, _, r, nb, sb, lb, cn, cs, cl, _, _, _, _, _, rfl, rfl, by omega, hpF⟩
                  clear hpF
                  go_wp2_with fail
                  go_meet
                  exact ⟨0, rfl, rfl, H7.out, hbA, v1⟩
              · by_cases hk3 : kd = 3
                · subst hk3
                  clear hk0 hk1 hk2
                  have hKA := HK.out.below hbA
                  go_wp2_with fail
                  go_region_held (fun w' => w'.cell? ⟨ob, 3, none⟩ = some (.slice ka kl kc)) (first | exact v3 | assumption)
                    (first
                      | (have hold := hb5; clear hold; go_at_call 19; refine (refCrash hN kc hr5 hK5 hlo5).mono ?_; rintro e w7 ⟨r', nb', sb', lb', cn', cs', cl', rfl, hr7, y1, y2, y3, y4, hb7⟩; have v37 := (hb7.cell (p := ⟨ob, 3, none⟩) (by show ob < _; omega)).trans v35)
                      | (go_at_call 18; refine (crash_l (HPA.out.below (below_dr (Below.refl _ wA))).dev hk6 kc (hKA.below (below_dr (Below.refl _ wA)))).mono ?_; rintro e w5 ⟨L, db', dn', mb', cap', hLp, hLs, rfl, x1, x2, x3, hd5, hb5⟩; have hb5' : Below wA.heap.size wA w5 := (below_dr (Below.refl _ wA)).trans hb5; have hs5 := hb5'.size; have hr5 := HPA.out.ref.below hb5'; have hK5 := hKA.below (hb5'.mono hbAs); have hlo5 : w.heap.size ≤ w5.heap.size := Nat.le_trans hbAs hs5; have v35 := (hb5'.cell (p := ⟨ob, 3, none⟩) hoA).trans v3))
                  all_goals
                    go_wp2_with fail
                    go_meet
                    have hp7 := HPA.out.crashed hbAs hLp hLs ⟨x1, x2, x3⟩ hd5 hb5' hr7 ⟨y1, y2, y3, y4⟩ hb7
                    have hbw5 : Below w.heap.size w w5 := hbA.trans (hb5'.mono hbAs)
                    have v17 := (hb7.cell (p := ⟨ob, 1, none⟩) (by show ob < _; omega)).trans ((hb5'.cell (p := ⟨ob, 1, none⟩) hoA).trans v1)
                    exact ⟨0, rfl, rfl, ⟨0, db', dn', mb', cap', _, _, _, _, r', nb', sb', lb', cn', cs', cl', _, _, _, _, _, rfl, rfl, by omega, hp7⟩, hbw5.trans (hb7.mono hbw5.size), v17⟩
                · obtain ⟨q, hq, hqe⟩ := idx130w i
                  have hqe' : (wrap64 (i.tmod 130 + 130)).tmod 130 = (q : Int) := hqe
                  have hmk : ∀ W, (Instr.makeSlice 33 (.int .i64 ((wrap64 (i.tmod 130 + 130)).tmod 130)) (.int .i64 ((wrap64 (i.tmod 130 + 130)).tmod 130))).run Tryd.prog W = .ok (.slice (some ⟨W.heap.size, 0, none⟩) q q) (W.alloc (.cells (bytesV (List.replicate q 0)).toArray 5)) := fun W => by rw [hqe']; exact mkn q (by omega) W
                  have hbB : Below wA.heap.size wA (wA.alloc (.cells (bytesV (List.replicate q 0)).toArray 5)) := (Below.refl _ wA).alloc (Nat.le_refl _) _
                  have hrB : (wA.alloc (.cells (bytesV (List.replicate q 0)).toArray 5)).rangeAt wA.heap.size 0 (bytesV (List.replicate q 0)) := by
                    intro t u hu
                    rw [cell_of_row _ _ (0 + t) _ 5 (0, 0) (heap_alloc_last wA _)]
                    simpa using hu
                  have hsB : wA.heap.size < (wA.alloc (.cells (bytesV (List.replicate q 0)).toArray 5)).heap.size := by simp
                  have HP4 : Hid (Pair (wA.alloc (.cells (bytesV (List.replicate q 0)).toArray 5)) n k w.heap.size db dn mb cap B D left down r nb sb lb cn cs cl Now Safe Lz fuse fused) := HPA.out.below hbB
                  have v14 := (hbB.cell (p := ⟨ob, 1, none⟩) hoA).trans v1
                  have HBB : Hid (Below wA.heap.size wA (wA.alloc (.cells (bytesV (List.replicate q 0)).toArray 5)) ∧ (wA.alloc (.cells (bytesV (List.replicate q 0)).toArray 5)).rangeAt wA.heap.size 0 (bytesV (List.replicate q 0))) := ⟨hbB, hrB⟩
                  clear hqe hqe' hbB hrB
                  go_wp2_with fail
                  clear hmk
                  generalize wA.alloc (.cells (bytesV (List.replicate q 0)).toArray 5) = w4 at hsB HP4 v14 HBB ⊢
                  have hg4 : wA.heap.size ≤ wA.heap.size := Nat.le_refl _
                  generalize hgA : wA.heap.size = g4 at hsB HBB ⊢
                  rw [hgA] at hoA hg4 hbAs
                  refine (devWrite_any HP4.out 3 g4 q q (List.replicate q 0) (fun e => ⟨by rw [List.length_replicate]; exact e, HBB.out.2⟩) (by omega) hk6).mono ?_
                  rintro e w5 ⟨code, k', B', D', left', down', rfl, hd5, hk5, hkW, hWO⟩
                  have hr5 := HP4.out.ref1 hkW (Or.inl rfl) hd5.mlt
                  have hs5 := hkW.size
                  have v15 := (hkW.cell (p := ⟨ob, 1, none⟩) (by show ob < _; omega) (by show ¬ (ob = db ∨ ob = dn ∨ ob = mb); omega)).trans v14
                  have hrB5 : w5.rangeAt g4 0 (bytesV (List.replicate q 0)) := fun t u hu => (hkW.cell (p := ⟨g4, 0 + t, none⟩) (by show g4 < _; omega) (by show ¬ (g4 = db ∨ g4 = dn ∨ g4 = mb); omega)).trans (HBB.out.2 t u hu)
                  have HRB : Hid (w5.rangeAt g4 0 (bytesV (List.replicate q 0))) := hrB5
                  clear hrB5
                  go_wp2_with fail
                  refine (refWrite_any hr5 hWO HP4.out.sim g4 q (fun e => ⟨by rw [List.length_replicate]; exact e, HRB.out⟩) (by omega) (by omega)).mono ?_
                  rintro e w7 ⟨Now', Lz', fuse', rfl, hr7, hS7, hk7⟩
                  have v17 := (hk7.cell (p := ⟨ob, 1, none⟩) (by show ob < _; omega) (by show ¬ (ob = r ∨ ob = nb ∨ ob = sb ∨ ob = lb); omega)).trans v15
                  obtain ⟨hp7, hk47⟩ := HP4.out.wrote hd5 hkW (Below.refl _ _) hr7 hS7 hk7
                  have hb4w : Below w.heap.size w w4 := hbA.trans (HBB.out.1.mono hbAs)
                  have H7 : Hid (OnePair w7 w.heap.size n (j + 1) (.pointer (some ⟨db, 0, none⟩)) (.pointer (some ⟨r, 0, none⟩)) ∧ Below w.heap.size w w7) := ⟨⟨k', db, dn, mb, cap, B', D', left', down', r, nb, sb, lb, cn, cs, cl, Now', Safe, Lz', fuse', fused, rfl, rfl, by omega, hp7⟩, hb4w.trans (hk47.below hb4w.size (fun x e => e))⟩
                  clear hp7 hk47 hr7 hr5 hd5 hk7 hS7 hWO hkW
                  go_wp2_with fail
                  go_meet
                  exact ⟨code, rfl, rfl, H7.out.1, H7.out.2, v17⟩
        case rest =>
        obtain ⟨code, rfl, rfl, hP, hbc, hvc⟩ := hcut
        clear HPA HDN v0 v1 v2 v3 hoA t1 t2 t3 t4 t5 t6 t7 o1 o2 o3 o4 o5 o6 o7 hk6 hkj hbA hbAs
        obtain ⟨k2, db2, dn2, mb2, cap2, B2, D2, left2, down2, r2, nb2, sb2, lb2, cn2, cs2, cl2, Now2, Safe2, Lz2, fuse2, fused2, rfl, rfl, hk2, hp⟩ := hP
        have HD2 : Hid (down2 = (fused2 && decide (fuse2 ≤ 0))) := hp.sim.isDown
        go_wp2_with fail
        refine (down_any _ _ _ hp.dev.c3).mono ?_
        rintro e w8 ⟨rfl, hw8⟩
        subst hw8
        go_wp2_with fail
        refine (refDown hp.ref).mono ?_
        rintro e w9 ⟨rfl, hw9⟩
        subst hw9
        rw [← HD2.out]
        have hpB := hp.below ((Below.refl _ w9).alloc (Nat.le_refl _) (.cells #[.int .i64 i, .int .i64 3, .int .i64 0, .int .i64 ((n : Int) - 1)] 3))
        have hI : IntsAt (w9.alloc (.cells #[.int .i64 i, .int .i64 3, .int .i64 0, .int .i64 ((n : Int) - 1)] 3)) (w9.alloc (.cells #[.int .i64 i, .int .i64 3, .int .i64 0, .int .i64 ((n : Int) - 1)] 3)).heap.size (some ⟨w9.heap.size, 0, none⟩) 4 [i, 3, 0, (n : Int) - 1] := by
          refine ⟨rfl, fun y hy => ?_, Or.inr ⟨w9.heap.size, 0, rfl, by simp, ?_⟩⟩
          · simp only [List.mem_cons, List.not_mem_nil, or_false] at hy
            rcases hy with rfl | rfl | rfl | rfl <;> omega
          · intro t u hu
            rw [cell_of_row _ _ (0 + t) _ 3 (0, 0) (heap_alloc_last w9 _)]
            simpa using hu
        have HSEC : Hid (Calls Tryd.prog 21 #[.pointer (some ⟨db2, 0, none⟩), .pointer (some ⟨r2, 0, none⟩), .slice (some ⟨w9.heap.size, 0, none⟩) 4 4] (w9.alloc (.cells #[.int .i64 i, .int .i64 3, .int .i64 0, .int .i64 ((n : Int) - 1)] 3)) (fun e w' => e = .returned (.bool true) ∧ Below (w9.alloc (.cells #[.int .i64 i, .int .i64 3, .int .i64 0, .int .i64 ((n : Int) - 1)] 3)).heap.size (w9.alloc (.cells #[.int .i64 i, .int .i64 3, .int .i64 0, .int .i64 ((n : Int) - 1)] 3)) w')) :=
          sectors_true hpB.ref hpB.dev hpB.sim (by omega) w9.heap.size 0 4 [i, 3, 0, (n : Int) - 1] hI (by simp) (by simp)
        have HPB : Hid (Pair (w9.alloc (.cells #[.int .i64 i, .int .i64 3, .int .i64 0, .int .i64 ((n : Int) - 1)] 3)) n k2 w.heap.size db2 dn2 mb2 cap2 B2 D2 left2 down2 r2 nb2 sb2 lb2 cn2 cs2 cl2 Now2 Safe2 Lz2 fuse2 fused2) := hpB
        have hbB : Below w.heap.size w (w9.alloc (.cells #[.int .i64 i, .int .i64 3, .int .i64 0, .int .i64 ((n : Int) - 1)] 3)) := hbc.alloc hbc.size _
        clear hpB hI hp
        go_wp2_with fail
        refine HSEC.out.mono ?_
        rintro e w10 ⟨rfl, hb10⟩
        have hb10w : Below w.heap.size w w10 := hbB.trans (hb10.mono hbB.size)
        have H10 : Hid (OnePair w10 w.heap.size n (j + 1) (.pointer (some ⟨db2, 0, none⟩)) (.pointer (some ⟨r2, 0, none⟩))) := ⟨k2, db2, dn2, mb2, cap2, _, _, _, _, r2, nb2, sb2, lb2, cn2, cs2, cl2, _, _, _, _, _, rfl, rfl, hk2, HPB.out.below hb10⟩
        clear HPB HSEC hb10 hbB
        go_wp2_with fail
        go_roundw
        case rel => exact ⟨j + 1, by omega, by go_num, H10.out, hb10w⟩
        case measure => simp [RowKit.intOf]; omega
      · obtain ⟨k, db, dn, mb, cap, B, D, left, down, r, nb, sb, lb, cn, cs, cl, Now, Safe, Lz, fuse, fused, rfl, rfl, hkj, hp⟩ := hP
        have c0 := hp.dev.c0
        by_cases hjm : j < m
        · have hj40 : j = 40 := by omega
          subst hj40
          go_wp2_with fail
          refine (sectors_any c0).mono ?_
          rintro e w4 ⟨rfl, hw4⟩
          subst hw4
          go_wp2_with fail
          go_ret
          exact ⟨rfl, hbr⟩
        · go_wp2_with fail
          refine (sectors_any c0).mono ?_
          rintro e w4 ⟨rfl, hw4⟩
          subst hw4
          go_wp2_with fail
          go_ret
          exact ⟨rfl, hbr⟩
end Go.Proofs.YtmdjjnjhjojimaaDoor
