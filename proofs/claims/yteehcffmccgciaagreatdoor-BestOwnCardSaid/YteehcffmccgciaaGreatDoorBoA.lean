import Derived.Test.YteehcffmccgciaaGreatDoorBsX
import Derived.Test.YteehcffmccgciaaGreatDoorBgE
namespace Go.Proofs.YteehcffmccgciaaGreatDoor
open Go.RowKit Go.Maps

theorem hitsV_setId (H : List Hit) (j : Nat) (y : Int) (h : j < H.length) : (hitsV H).set (j * 2) (.int .i64 y) = hitsV (H.set j (y, (hat H j).2)) := by
  induction H generalizing j with
  | nil => simp at h
  | cons x r ih =>
    cases j with
    | zero => rfl
    | succ j =>
      rw [hitsV_cons, List.set_cons_succ, hitsV_cons, show (j + 1) * 2 = j * 2 + 1 + 1 by omega]
      simp only [List.set_cons_succ]
      rw [ih j (by simpa using h)]
      rfl
theorem HitsR.setId {w : World} {lo g n c : Nat} {W : List Hit} (h : HitsR w lo (.slice (some ⟨g, 0, none⟩) n c) W) (j : Nat) (hj : j < W.length) (y : Int) : HitsR (w.setCell ⟨g, j * 2, none⟩ (.int .i64 y)) lo (.slice (some ⟨g, 0, none⟩) n c) (W.set j (y, (hat W j).2)) := by
  obtain ⟨p', c', e⟩ := h.shape
  injection e with _ e2 _
  subst e2
  have := (World.ownsRow.stored h (j * 2) (.int .i64 y)).1
  rw [hitsV_setId W j y hj] at this
  show World.ownsRow _ _ _ _ _ _ _
  rw [List.length_set]
  exact this
theorem HitsR.own {w : World} {lo : Nat} {v : Value} {W : List Hit} (h : HitsR w lo v W) (i : Nat) (e : v.ownBlock = some i) : lo ≤ i ∧ i < w.heap.size := by
  rcases h.2 with ⟨rfl, _⟩ | ⟨g, cap, cur, rfl, hg, hH, _⟩
  · cases e
  · cases e
    exact ⟨hg, (Array.getElem?_eq_some_iff.1 hH).1⟩
theorem blenW_at {w : World} {lo bb mb k : Nat} {v : Value} {W : List Hit} (h : BestW w lo bb mb k v W) : Calls Tryz.prog 30 #[.pointer (some ⟨bb, 0, none⟩)] w fun e w' => e = .returned (.int .i64 W.length) ∧ w' = w := by
  obtain ⟨H, hB, _, hP, _⟩ := h
  rw [← hP.length_eq]
  exact blen_at hB
/-- What stands while the list that was told is written over. -/
structure OwnQ (w wr : World) (lo1 lo2 lo3 bb mb k : Nat) (v p9 p8 : Value) (W : List Hit) : Prop where
  l : ∃ W', W'.length = W.length ∧ HitsR wr lo2 p8 W'
  r : HitsR wr lo3 p9 W
  b : BestW wr lo1 bb mb k v W
  u : Below w.heap.size w wr
  s1 : w.heap.size ≤ lo2
  s2 : bb < lo2
  s3 : mb < lo2
  s4 : ∀ i, v.ownBlock = some i → i < lo2
  s5 : ∀ i, p8.ownBlock = some i → i < lo3
theorem OwnQ.set {w wr : World} {lo1 lo2 lo3 bb mb k g c : Nat} {v p9 : Value} {W : List Hit} (h : OwnQ w wr lo1 lo2 lo3 bb mb k v p9 (.slice (some ⟨g, 0, none⟩) W.length c) W) (t : Nat) (ht : t < W.length) (y : Int) :
    OwnQ w (wr.setCell ⟨g, t * 2, none⟩ (.int .i64 y)) lo1 lo2 lo3 bb mb k v p9 (.slice (some ⟨g, 0, none⟩) W.length c) W := by
  obtain ⟨W', hl, hR⟩ := h.l
  have hg := hR.own g rfl
  have hg3 := h.s5 g rfl
  have hk : Keeps (fun i => i = g) wr (wr.setCell ⟨g, t * 2, none⟩ (.int .i64 y)) := Keeps.setCell (p := ⟨g, t * 2, none⟩) (Keeps.refl (fun i => i = g) wr) rfl _
  exact { h with
    l := ⟨_, by rw [List.length_set]; exact hl, hR.setId t (by omega) y⟩
    r := h.r.keep hk (fun i e e2 => by have := (h.r.own i e).1; omega)
    b := h.b.keeps hk (fun e => by have := h.s2; omega) (fun e => by have := h.s3; omega) (fun i e e2 => by have := h.s4 i e; omega)
    u := h.u.trans (hk.below h.u.size (fun i e => by have := h.s1; omega)) }
theorem ballIn_at {w wr : World} {lo bb mb k : Nat} {v : Value} {W : List Hit} (h : BestW wr lo bb mb k v W) (hu : Below w.heap.size w wr) :
    Calls Tryz.prog 28 #[.pointer (some ⟨bb, 0, none⟩)] wr fun e w' => ∃ p c, e = .returned (.slice p W.length c) ∧ Hid (HitsIn w' p W.length W ∧ Below wr.heap.size wr w' ∧ BestW w' lo bb mb k v W ∧ Below w.heap.size w w') := by
  have hid : ∀ x ∈ W, -9223372036854775808 ≤ x.1 ∧ x.1 ≤ 9223372036854775807 := by
    obtain ⟨_, _, _, _, _, h, _⟩ := h
    exact h
  refine (ball_at h).mono ?_
  rintro e w' ⟨v', rfl, hR, hb⟩
  obtain ⟨p, c, rfl⟩ := hR.shape
  exact ⟨p, c, rfl, hR.toIn hid, hb, h.below hb, hu.trans (hb.mono hu.size)⟩
theorem hitsSame_at {w wr : World} {a b : Option Addr} {n c d lo bb mb k : Nat} {v : Value} {W : List Hit} (hA : HitsIn wr a n W) (hB : HitsIn wr b n W) (hn : n ≤ 1000000) (h : BestW wr lo bb mb k v W) (hu : Below w.heap.size w wr) :
    Calls Tryz.prog 29 #[.slice a n c, .slice b n d] wr fun e w' => e = .returned (.bool true) ∧ Hid (BestW w' lo bb mb k v W ∧ Below w.heap.size w w') := by
  refine (hits_at hA hB hn hn).mono ?_
  rintro e w' ⟨rfl, hb⟩
  exact ⟨by simp, h.below hb, hu.trans (hb.mono hu.size)⟩
theorem hitsV_one (H : List Hit) : ∀ u ∈ hitsV H, u.oneCell' = true := by
  intro u hu
  simp only [hitsV, List.mem_flatMap, hitC] at hu
  obtain ⟨x, _, hx⟩ := hu
  rcases List.mem_cons.1 hx with rfl | hx
  · rfl
  · rcases List.mem_cons.1 hx with rfl | hx
    · rfl
    · cases hx
theorem HitsR.cells {w : World} {lo g n c : Nat} {W : List Hit} (h : HitsR w lo (.slice (some ⟨g, 0, none⟩) n c) W) : ∀ j u, (hitsV W)[j]? = some u → w.cell? (Addr.add ⟨g, 0, none⟩ j) = some u := by
  rcases h.2 with ⟨e, _⟩ | ⟨g', cap, cur, e, hg, hH, hc, hcm, hcs, htk⟩
  · cases e
  · injection e with e _ _
    injection e with e
    injection e with e
    subst e
    intro j u hu
    rw [Addr.add_mid, Nat.zero_add]
    rw [← htk, List.getElem?_take] at hu
    split at hu
    · rw [cell_of_row _ _ j _ 46 (0, 0) hH]; simpa using hu
    · cases hu
set_option maxRecDepth 100000 in
set_option maxHeartbeats 4000000 in
theorem bestOwn_true (k0 : Int) (a : Option Addr) (m c : Nat) (L : List Hit) (w : World) (hL : HitsIn w a m L) (hg : w.cell? ⟨0, 0, none⟩ = some errType) :
    Calls Tryz.prog 9 #[.int .i64 k0, .slice a m c] w fun e w' => e = .returned (.bool true) ∧ Below w.heap.size w w' := by
  have HL : Hid (HitsIn w a m L) := hL
  have hr0 := rem_any k0 10 (by omega)
  clear hL
  go_enter Tryz.func9, Tryz.ntmps9
  go_wp2_with fail
  refine (begun7_true _ hg).mono ?_
  rintro e w1 ⟨rfl, hb1⟩
  have HB1 : Hid (Below w.heap.size w w1) := hb1
  clear hg hb1
  go_wp2_with fail
  obtain ⟨k1, hk1, hk2⟩ : ∃ k1 : Int, 1 + k0.tmod 10 % 10 = k1 ∧ k1 ≤ 9223372036854775807 := ⟨_, rfl, by omega⟩
  rw [hk1]
  have hB0 := bnew_at k1 w1
  have hkk : (k1.toNat : Int) ≤ 9223372036854775807 := by omega
  generalize k1.toNat = k at *
  refine hB0.mono ?_
  rintro e w2 ⟨bb, mb, rfl, hB2, hb2⟩
  have hs1 : w.heap.size ≤ w1.heap.size := HB1.out.size
  have HI0 : Hid (∃ v, BestW w2 w1.heap.size bb mb k v (bestOf k (L.take 0)) ∧ Below w.heap.size w w2) := ⟨_, BestW.new hB2, HB1.out.trans (hb2.mono hs1)⟩
  have HS1 : Hid (w.heap.size ≤ w1.heap.size) := hs1
  generalize w1.heap.size = lo1 at *
  clear hB2 hb2 hB0 hk1 hk2 hr0 HB1 hs1
  go_wp2_with fail
  go_loopw [7] (fun s7 wr => ∃ j : Nat, j ≤ m ∧ j ≤ 20 ∧ s7 = .int .i64 j ∧ Hid (∃ v, BestW wr lo1 bb mb k v (bestOf k (L.take j)) ∧ Below w.heap.size w wr)) (fun s7 _ => m - (RowKit.intOf s7).toNat)
  case atStart => exact ⟨0, Nat.zero_le _, by omega, rfl, HI0⟩
  case round =>
    clear HI0
    obtain ⟨j, hj, hj2, rfl, HI⟩ := hrel
    obtain ⟨v, hB, hb⟩ := HI.out
    clear HI
    by_cases hlt : j < m ∧ j < 20
    · obtain ⟨hlt, hlt2⟩ := hlt
      have hjL : j < L.length := by have := HL.out.len; omega
      obtain ⟨b, o, rfl, hbl, hc⟩ : ∃ b o, a = some ⟨b, o, none⟩ ∧ b < w.heap.size ∧ ∀ j, j < m → w.cell? ⟨b, o + j * 2, none⟩ = some (.int .i64 (hat L j).1) ∧ w.cell? ⟨b, o + j * 2 + 1, none⟩ = some (.int .i64 (hat L j).2) := by
        rcases HL.out.at_ with h0 | h0
        · omega
        · exact h0
      obtain ⟨d0, d1⟩ := hc j hlt
      have f0 := (hb.cell (p := ⟨b, o + j * 2, none⟩) hbl).trans d0
      have f1 := (hb.cell (p := ⟨b, o + j * 2 + 1, none⟩) hbl).trans d1
      have HX : Hid (bestOf k (L.take (j + 1)) = (putL k (bestOf k (L.take j)) (hat L j)).1) := bestOf_take hjL
      have hid : -9223372036854775808 ≤ (hat L j).1 ∧ (hat L j).1 ≤ 9223372036854775807 := HL.out.ids _ (by rw [hat_lt hjL]; exact List.getElem_mem _)
      obtain ⟨x1, x2, hx⟩ : ∃ x1 x2, hat L j = (x1, x2) := ⟨_, _, rfl⟩
      rw [hx] at f0 f1 HX hid
      have hbA : Below wr.heap.size wr (wr.alloc (.cells #[.int .i64 x1, .int .i64 x2] 46)) := (Below.refl _ _).alloc (Nat.le_refl _) _
      have HP : Hid (∀ W, Below wr.heap.size wr W → Calls Tryz.prog 27 #[.pointer (some ⟨bb, 0, none⟩), .agg #[.int .i64 x1, .int .i64 x2]] W fun e w' => (∃ q, e = .returned (.bool q)) ∧ Hid (∃ v, BestW w' lo1 bb mb k v (bestOf k (L.take (j + 1))) ∧ Below w.heap.size w w')) := by
        intro W hbW
        have hB2 := hB.below hbW
        have hb2 := hb.trans (hbW.mono hb.size)
        have hln : (bestOf k (L.take j)).length < 1000000 := by
          have := bestOf_len k (L.take j)
          rw [List.length_take] at this
          omega
        have hB2c := hB2
        obtain ⟨H, hBA, _⟩ := hB2c
        have hlo : lo1 ≤ W.heap.size := by
          have h1 := hBA.l1
          have h2 := hBA.row.bl
          omega
        refine (bput_at hB2 hkk x1 x2 hid hln hlo).mono ?_
        rintro e w' ⟨rfl, ⟨v', hB3, _⟩, hk3⟩
        refine ⟨⟨_, rfl⟩, v', by rw [HX.out]; exact hB3, hb2.trans (hk3.below hb2.size (fun i e => ?_))⟩
        have := HS1.out
        rcases e with e | e | e
        · have := hBA.l1; omega
        · have := hBA.l2; omega
        · have := (hBA.row.ow i e).1; omega
      clear hB hb hc d0 d1 hx hid hbA HX
      go_wp2_with fail
      refine (HP.out _ (by first | exact Below.refl _ _ | exact (Below.refl _ _).alloc (Nat.le_refl _) _)).mono ?_
      rintro e w4 ⟨⟨q, rfl⟩, HN⟩
      clear HP
      go_wp2_with fail
      exact ⟨⟨j + 1, hlt, hlt2, rfl, HN⟩, by simp [RowKit.intOf]; omega⟩
    · have hW20 : (bestOf k (L.take j)).length ≤ 20 := by
        have := bestOf_len k (L.take j)
        rw [List.length_take] at this
        omega
      generalize bestOf k (L.take j) = W at *
      have hWid : ∀ x ∈ W, -9223372036854775808 ≤ x.1 ∧ x.1 ≤ 9223372036854775807 := by
        obtain ⟨_, _, _, _, _, h, _⟩ := hB
        exact h
      have HW : Hid ((∀ x ∈ W, -9223372036854775808 ≤ x.1 ∧ x.1 ≤ 9223372036854775807) ∧ W.length ≤ 20) := ⟨hWid, hW20⟩
      have HA : Hid (Calls Tryz.prog 28 #[.pointer (some ⟨bb, 0, none⟩)] wr fun e w' => ∃ c8, (W = [] ∧ e = .returned (.slice none 0 0) ∧ Hid (BestW w' lo1 bb mb k v W ∧ Below w.heap.size w w')) ∨ ∃ g, e = .returned (.slice (some ⟨g, 0, none⟩) W.length c8) ∧ Hid (HitsR w' wr.heap.size (.slice (some ⟨g, 0, none⟩) W.length c8) W ∧ BestW w' lo1 bb mb k v W ∧ Below w.heap.size w w' ∧ w.heap.size ≤ wr.heap.size ∧ bb < wr.heap.size ∧ mb < wr.heap.size ∧ ∀ i, v.ownBlock = some i → i < wr.heap.size)) := by
        refine (ball_at hB).mono ?_
        rintro e w' ⟨v', rfl, hR, hb5⟩
        have hbB := hb.trans (hb5.mono hb.size)
        have hB5 := hB.below hb5
        obtain ⟨H, hBA, _⟩ := hB
        rcases hR.2 with ⟨rfl, h0⟩ | ⟨g, cap, cur, rfl, hg, hH, _⟩
        · exact ⟨0, .inl ⟨List.eq_nil_of_length_eq_zero h0, rfl, hB5, hbB⟩⟩
        · exact ⟨cap, .inr ⟨g, rfl, hR, hB5, hbB, hb.size, hBA.row.bl, hBA.ids.lt, fun i e => (hBA.row.ow i e).2.1⟩⟩
      generalize wr.heap.size = lo2 at *
      clear hB hb hWid hW20 hkk
      rcases (show (¬ (j:Int) < m) ∨ ((j:Int) < m ∧ ¬ (j:Int) < 20) by omega) with q1 | ⟨q1, q2⟩
      · clear hlt
        go_wp2_with fail
        refine HA.out.mono ?_
        rintro e w3 ⟨c8, ⟨rfl, rfl, HN⟩ | ⟨g, rfl, HN⟩⟩
        · clear HA
          go_wp2_with fail
          go_loopw [43] (fun s43 wr => s43 = .int .i64 0 ∧ wr = w3) (fun _ _ => 0)
          case atStart => exact ⟨rfl, rfl⟩
          case round =>
            obtain ⟨rfl, rfl⟩ := hrel
            have hE : HitsIn wr none 0 [] := ⟨rfl, (fun x hx => nomatch hx), Or.inl rfl⟩
            have HE : Hid (HitsIn wr none 0 []) := hE
            clear hE
            go_wp2_with fail
            refine (ballIn_at HN.out.1 HN.out.2).mono ?_
            rintro e w5 ⟨p5, c5, rfl, HQ⟩
            have HE5 : Hid (HitsIn w5 none 0 []) := HE.out.below HQ.out.2.1
            go_wp2_with fail
            refine (hitsSame_at HQ.out.1 HE5.out (by simp) HQ.out.2.2.1 HQ.out.2.2.2).mono ?_
            rintro e w6 ⟨rfl, HQ6⟩
            clear HQ HE5 HE
            go_wp2_with fail
            refine (blenW_at HQ6.out.1).mono ?_
            rintro e w7 ⟨rfl, rfl⟩
            go_wp2_with fail
            go_ret
            exact ⟨rfl, HQ6.out.2⟩
        · clear HA
          obtain ⟨i0, hi, hz0, hz1, hz2⟩ := info_parts infoHit
          have hlen : (hitsV W).length = W.length * 2 := hitsV_length W
          have hcell := HN.out.1.cells
          have HO : Hid (∀ u ∈ hitsV W, u.oneCell' = true) := hitsV_one W
          have hq4 : 0 + W.length ≤ maxLen := by have := HW.out.2; unfold maxLen; omega
          have hq5 : (0 + W.length) * 16 ≤ 140737488355328 := by have := HW.out.2; omega
          go_wp2_with (at_builtin; go_loud (refine wpList_append_own _ rfl _ _ 47 rfl w3.heap.size 46 i0 (.agg #[.int .i64 0, .int .i64 0]) 2 16 Tryz.underlying47 hi hz0 hz1 hz2 rfl (by decide) (.slice none 0 0) 0 [] rfl (World.ownsRow_nil _ _ _ _) ⟨g, 0, none⟩ W.length c8 (hitsV W) rfl hlen hcell HO.out hq4 hq5 ?qc6 ?_))
          case qc6 => simp
          intro v9 w4 hown hgrow hnil
          have hb4 : RowKit.Below w3.heap.size w3 w4 := (Below.refl _ w3).grown hgrow (Nat.le_refl _) (by intro k hk; simp [Value.ownBlock] at hk)
          have hR9 : HitsR w4 w3.heap.size v9 W := by
            exact hown
          obtain ⟨p9, c9, hv9⟩ := hR9.shape
          subst hv9
          have HQ0 : Hid (OwnQ w w4 lo1 lo2 w3.heap.size bb mb k v (.slice p9 W.length c9) (.slice (some ⟨g, 0, none⟩) W.length c8) W) := by
            obtain ⟨h1, h2, h3, h4, h5, h6, h7⟩ := HN.out
            exact ⟨⟨W, rfl, h1.below hb4⟩, hR9, h2.below hb4, h3.trans (hb4.mono h3.size), h4, h5, h6, h7, fun i e => (h1.own i e).2⟩
          generalize w3.heap.size = lo3 at *
          clear hR9 hb4 hown hgrow hnil hq4 hq5 hcell HO hlen HN
          go_wp2_with fail
          go_loopw [43] (fun s43 wr => ∃ t : Nat, t ≤ W.length ∧ s43 = .int .i64 t ∧ Hid (OwnQ w wr lo1 lo2 lo3 bb mb k v (.slice p9 W.length c9) (.slice (some ⟨g, 0, none⟩) W.length c8) W)) (fun s43 _ => W.length - (RowKit.intOf s43).toNat)
          case atStart => exact ⟨0, Nat.zero_le _, rfl, HQ0⟩
          case round =>
            clear HQ0
            obtain ⟨t, ht, rfl, HI⟩ := hrel
            by_cases htl : t < W.length
            · obtain ⟨W', hl', hR'⟩ := HI.out.l
              obtain ⟨g', c', e', _, _, _, d0, _, hf⟩ := hR'.at_ t (by omega)
              injection e' with e' _ _
              injection e' with e'
              injection e' with e'
              subst e'
              have hf0 := hf (t * 2)
              have htl' : (t : Int) < W.length := by omega
              have ht20 : t < 20 := by have := HW.out.2; omega
              have HN2 : Hid (OwnQ w (wr.setCell ⟨g, t * 2, none⟩ (.int .i64 (-7))) lo1 lo2 lo3 bb mb k v (.slice p9 W.length c9) (.slice (some ⟨g, 0, none⟩) W.length c8) W) := HI.out.set t htl (-7)
              clear HI hR' hf hl'
              go_wp2_with fail
              exact ⟨⟨t + 1, htl, rfl, HN2⟩, by simp [RowKit.intOf]; omega⟩
            · obtain rfl : t = W.length := by omega
              have HE : Hid (HitsIn wr p9 W.length W) := HI.out.r.toIn HW.out.1
              go_wp2_with fail
              refine (ballIn_at HI.out.b HI.out.u).mono ?_
              rintro e w5 ⟨p5, c5, rfl, HQ⟩
              have HE5 : Hid (HitsIn w5 p9 W.length W) := HE.out.below HQ.out.2.1
              clear HI HE
              go_wp2_with fail
              refine (hitsSame_at HQ.out.1 HE5.out (by have := HW.out.2; omega) HQ.out.2.2.1 HQ.out.2.2.2).mono ?_
              rintro e w6 ⟨rfl, HQ6⟩
              clear HQ HE5
              go_wp2_with fail
              refine (blenW_at HQ6.out.1).mono ?_
              rintro e w7 ⟨rfl, rfl⟩
              go_wp2_with fail
              go_ret
              exact ⟨rfl, HQ6.out.2⟩
      · clear hlt
        go_wp2_with fail
        refine HA.out.mono ?_
        rintro e w3 ⟨c8, ⟨rfl, rfl, HN⟩ | ⟨g, rfl, HN⟩⟩
        · clear HA
          go_wp2_with fail
          go_loopw [43] (fun s43 wr => s43 = .int .i64 0 ∧ wr = w3) (fun _ _ => 0)
          case atStart => exact ⟨rfl, rfl⟩
          case round =>
            obtain ⟨rfl, rfl⟩ := hrel
            have hE : HitsIn wr none 0 [] := ⟨rfl, (fun x hx => nomatch hx), Or.inl rfl⟩
            have HE : Hid (HitsIn wr none 0 []) := hE
            clear hE
            go_wp2_with fail
            refine (ballIn_at HN.out.1 HN.out.2).mono ?_
            rintro e w5 ⟨p5, c5, rfl, HQ⟩
            have HE5 : Hid (HitsIn w5 none 0 []) := HE.out.below HQ.out.2.1
            go_wp2_with fail
            refine (hitsSame_at HQ.out.1 HE5.out (by simp) HQ.out.2.2.1 HQ.out.2.2.2).mono ?_
            rintro e w6 ⟨rfl, HQ6⟩
            clear HQ HE5 HE
            go_wp2_with fail
            refine (blenW_at HQ6.out.1).mono ?_
            rintro e w7 ⟨rfl, rfl⟩
            go_wp2_with fail
            go_ret
            exact ⟨rfl, HQ6.out.2⟩
        · clear HA
          obtain ⟨i0, hi, hz0, hz1, hz2⟩ := info_parts infoHit
          have hlen : (hitsV W).length = W.length * 2 := hitsV_length W
          have hcell := HN.out.1.cells
          have HO : Hid (∀ u ∈ hitsV W, u.oneCell' = true) := hitsV_one W
          have hq4 : 0 + W.length ≤ maxLen := by have := HW.out.2; unfold maxLen; omega
          have hq5 : (0 + W.length) * 16 ≤ 140737488355328 := by have := HW.out.2; omega
          go_wp2_with (at_builtin; go_loud (refine wpList_append_own _ rfl _ _ 47 rfl w3.heap.size 46 i0 (.agg #[.int .i64 0, .int .i64 0]) 2 16 Tryz.underlying47 hi hz0 hz1 hz2 rfl (by decide) (.slice none 0 0) 0 [] rfl (World.ownsRow_nil _ _ _ _) ⟨g, 0, none⟩ W.length c8 (hitsV W) rfl hlen hcell HO.out hq4 hq5 ?qc6 ?_))
          case qc6 => simp
          intro v9 w4 hown hgrow hnil
          have hb4 : RowKit.Below w3.heap.size w3 w4 := (Below.refl _ w3).grown hgrow (Nat.le_refl _) (by intro k hk; simp [Value.ownBlock] at hk)
          have hR9 : HitsR w4 w3.heap.size v9 W := by
            exact hown
          obtain ⟨p9, c9, hv9⟩ := hR9.shape
          subst hv9
          have HQ0 : Hid (OwnQ w w4 lo1 lo2 w3.heap.size bb mb k v (.slice p9 W.length c9) (.slice (some ⟨g, 0, none⟩) W.length c8) W) := by
            obtain ⟨h1, h2, h3, h4, h5, h6, h7⟩ := HN.out
            exact ⟨⟨W, rfl, h1.below hb4⟩, hR9, h2.below hb4, h3.trans (hb4.mono h3.size), h4, h5, h6, h7, fun i e => (h1.own i e).2⟩
          generalize w3.heap.size = lo3 at *
          clear hR9 hb4 hown hgrow hnil hq4 hq5 hcell HO hlen HN
          go_wp2_with fail
          go_loopw [43] (fun s43 wr => ∃ t : Nat, t ≤ W.length ∧ s43 = .int .i64 t ∧ Hid (OwnQ w wr lo1 lo2 lo3 bb mb k v (.slice p9 W.length c9) (.slice (some ⟨g, 0, none⟩) W.length c8) W)) (fun s43 _ => W.length - (RowKit.intOf s43).toNat)
          case atStart => exact ⟨0, Nat.zero_le _, rfl, HQ0⟩
          case round =>
            clear HQ0
            obtain ⟨t, ht, rfl, HI⟩ := hrel
            by_cases htl : t < W.length
            · obtain ⟨W', hl', hR'⟩ := HI.out.l
              obtain ⟨g', c', e', _, _, _, d0, _, hf⟩ := hR'.at_ t (by omega)
              injection e' with e' _ _
              injection e' with e'
              injection e' with e'
              subst e'
              have hf0 := hf (t * 2)
              have htl' : (t : Int) < W.length := by omega
              have ht20 : t < 20 := by have := HW.out.2; omega
              have HN2 : Hid (OwnQ w (wr.setCell ⟨g, t * 2, none⟩ (.int .i64 (-7))) lo1 lo2 lo3 bb mb k v (.slice p9 W.length c9) (.slice (some ⟨g, 0, none⟩) W.length c8) W) := HI.out.set t htl (-7)
              clear HI hR' hf hl'
              go_wp2_with fail
              exact ⟨⟨t + 1, htl, rfl, HN2⟩, by simp [RowKit.intOf]; omega⟩
            · obtain rfl : t = W.length := by omega
              have HE : Hid (HitsIn wr p9 W.length W) := HI.out.r.toIn HW.out.1
              go_wp2_with fail
              refine (ballIn_at HI.out.b HI.out.u).mono ?_
              rintro e w5 ⟨p5, c5, rfl, HQ⟩
              have HE5 : Hid (HitsIn w5 p9 W.length W) := HE.out.below HQ.out.2.1
              clear HI HE
              go_wp2_with fail
              refine (hitsSame_at HQ.out.1 HE5.out (by have := HW.out.2; omega) HQ.out.2.2.1 HQ.out.2.2.2).mono ?_
              rintro e w6 ⟨rfl, HQ6⟩
              clear HQ HE5
              go_wp2_with fail
              refine (blenW_at HQ6.out.1).mono ?_
              rintro e w7 ⟨rfl, rfl⟩
              go_wp2_with fail
              go_ret
              exact ⟨rfl, HQ6.out.2⟩
end Go.Proofs.YteehcffmccgciaaGreatDoor
