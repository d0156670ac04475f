import Derived.Test.YtmdjjnjhjojimaaDoorAllD
namespace Go.Proofs.YtmdjjnjhjojimaaDoor
open Go.RowKit Go.Maps

theorem news_of_range {w : World} {b o : Nat} {xs : List Value} (h : w.rangeAt b o xs) : ∀ j u, xs[j]? = some u → w.cell? (Addr.add ⟨b, o, none⟩ j) = some u := by
  intro j u hj
  rw [Addr.add_mid]
  exact h j u hj
theorem news_below {w w' : World} {b o : Nat} {xs : List Value} (h : ∀ j u, xs[j]? = some u → w.cell? (Addr.add ⟨b, o, none⟩ j) = some u) (hb : Below w.heap.size w w') (hl : b < w.heap.size) : ∀ j u, xs[j]? = some u → w'.cell? (Addr.add ⟨b, o, none⟩ j) = some u := by
  intro j u hj
  have h1 := h j u hj
  rw [Addr.add_mid] at h1 ⊢
  exact (hb.cell (p := ⟨b, o + j, none⟩) hl).trans h1
/-- What NewDev makes. -/
def NewDevOk : Prop := ∀ (n : Nat) (w : World), 64 ≤ n → n ≤ 4096 → Calls Tryd.prog 10 #[.int .i64 n] w (fun e w' => ∃ r nb sb lb cn cs cl, e = .returned (.pointer (some ⟨r, 0, none⟩)) ∧
  RefAt w' (fun b => b < w.heap.size ∨ b = r ∨ b = nb ∨ b = sb ∨ b = lb) r nb sb lb n cn cs cl (fun _ => zsec) (fun _ => zsec) (fun _ => false) 0 false ∧ w.heap.size ≤ r ∧ w.heap.size ≤ nb ∧ w.heap.size ≤ sb ∧ w.heap.size ≤ lb ∧ Below w.heap.size w w')

/-- Two copies of a sector are put into Now and Safe. -/
theorem RefAt.two {w2 w3 : World} {X : List UInt8} {j g1 cg1 g2 cg2 : Nat} {w : World} {Bad : Nat → Prop} {r nb sb lb n cn cs cl : Nat} {Now Safe : Nat → List UInt8} {Lz : Nat → Bool} {fuse : Int} {fused : Bool} (h : RefAt w Bad r nb sb lb n cn cs cl Now Safe Lz fuse fused) (hX : X.length = 64) (hj : j < n) (hb2 : Below w.heap.size w w2) (hb3 : Below w2.heap.size w2 w3)
    (ho1 : w2.ownsRow w.heap.size 5 1 (.slice (some ⟨g1, 0, none⟩) (0 + 64) cg1) (0 + 64) ([] ++ bytesV X)) (ho2 : w3.ownsRow w2.heap.size 5 1 (.slice (some ⟨g2, 0, none⟩) (0 + 64) cg2) (0 + 64) ([] ++ bytesV X)) :
    RefAt ((w3.setCell ⟨nb, j, none⟩ (.slice (some ⟨g1, 0, none⟩) 64 cg1)).setCell ⟨sb, j, none⟩ (.slice (some ⟨g2, 0, none⟩) 64 cg2)) Bad r nb sb lb n cn cs cl (upd Now j X) (upd Safe j X) Lz fuse fused ∧
      Keeps (fun x => x = nb ∨ x = sb) w ((w3.setCell ⟨nb, j, none⟩ (.slice (some ⟨g1, 0, none⟩) 64 cg1)).setCell ⟨sb, j, none⟩ (.slice (some ⟨g2, 0, none⟩) 64 cg2)) := by
  rw [show 0 + 64 = 64 from rfl, List.nil_append] at ho1 ho2
  obtain ⟨_, _, e1, l1, l1', r1⟩ := row_at ho1 (by omega)
  obtain ⟨_, _, e2, l2, l2', r2⟩ := row_at ho2 (by omega)
  cases e1
  cases e2
  have hs2 := hb2.size
  have hs3 := hb3.size
  have hb13 : Below w.heap.size w w3 := hb2.trans (hb3.mono hs2)
  have h3 := h.below hb13
  have hg1 : ¬ Bad g1 := fun x => by have := h.blt g1 x; omega
  have hg2 : ¬ Bad g2 := fun x => by have := h.blt g2 x; omega
  have r13 : w3.rangeAt g1 0 (bytesV X) := fun k v hv => (hb3.cell (p := ⟨g1, 0 + k, none⟩) l1').trans (r1 k v hv)
  have h4 := h3.putNow j hj X hX g1 cg1 (by omega) hg1 r13
  have hne : nb ≠ g2 := fun e => hg2 (e ▸ h.bad.2.1)
  have r24 : (w3.setCell ⟨nb, j, none⟩ (.slice (some ⟨g1, 0, none⟩) 64 cg1)).rangeAt g2 0 (bytesV X) := fun k v hv => (World.cell?_setCell_far _ _ _ _ hne).trans (r2 k v hv)
  have h5 := h4.putSafe j hj X hX g2 cg2 (by simpa [World.setCell] using l2') hg2 r24
  exact ⟨h5, ((Keeps.of_below hb13).setCell (p := ⟨nb, j, none⟩) (Or.inl rfl) _).setCell (p := ⟨sb, j, none⟩) (Or.inr rfl) _⟩

set_option maxRecDepth 100000 in
set_option maxHeartbeats 4000000 in
theorem refCrash (hN : NewDevOk) {Lim : Nat} {ka : Option Addr} {kl : Nat} {K : List Bool} (kc : Nat) {w : World} {Bad : Nat → Prop} {r nb sb lb n cn cs cl : Nat} {Now Safe : Nat → List UInt8} {Lz : Nat → Bool} {fuse : Int} {fused : Bool} (h : RefAt w Bad r nb sb lb n cn cs cl Now Safe Lz fuse fused) (hK : KeepB w Lim ka kl K) (hLim : Lim ≤ w.heap.size) :
    Calls Tryd.prog 19 #[.pointer (some ⟨r, 0, none⟩), .slice ka kl kc] w fun e w' => ∃ r' nb' sb' lb' cn' cs' cl', e = .returned (.pointer (some ⟨r', 0, none⟩)) ∧
      RefAt w' (fun b => b < w.heap.size ∨ b = r' ∨ b = nb' ∨ b = sb' ∨ b = lb') r' nb' sb' lb' n cn' cs' cl' (crashN Now Safe Lz K) (crashN Now Safe Lz K) (fun _ => false) 0 false ∧ w.heap.size ≤ r' ∧ w.heap.size ≤ nb' ∧ w.heap.size ≤ sb' ∧ w.heap.size ≤ lb' ∧ Below w.heap.size w w' := by
  obtain ⟨i0, hi0, hz0, hz1, hz2⟩ := info_parts info5
  have c0 := h.c0
  have hn1 := h.n1
  have hn2 := h.n2
  have hq3 : 0 < 64 := by omega
  have hq4 : 0 + 64 ≤ maxLen := by unfold maxLen; omega
  have hq5 : (0 + 64) * 1 ≤ 140737488355328 := by omega
  go_enter Tryd.func19, Tryd.ntmps19
  go_wp2_with fail
  refine (hN n w hn1 hn2).mono ?_
  rintro e w1 ⟨r', nb', sb', lb', cn', cs', cl', rfl, hA, z1, z2, z3, z4, hb1⟩
  have h1 := h.below hb1
  have c01 := h1.c0
  clear c0
  go_wp2_with fail
  have H0 : Hid (RefAt w Bad r nb sb lb n cn cs cl Now Safe Lz fuse fused) := h
  have HK0 : Hid (KeepB w Lim ka kl K) := hK
  have hBs := hb1.size
  clear h hK h1 c01
  go_loopw [6, 20] (fun s6 s20 wr => ∃ j : Nat, j ≤ n ∧ s20 = .int .i64 j ∧ s6 = .int .i64 (looseN Lz j).length ∧ RefAt wr (fun b => b < w.heap.size ∨ b = r' ∨ b = nb' ∨ b = sb' ∨ b = lb') r' nb' sb' lb' n cn' cs' cl' (mix (crashN Now Safe Lz K) (fun _ => zsec) j) (mix (crashN Now Safe Lz K) (fun _ => zsec) j) (fun _ => false) 0 false ∧ Keeps (fun x => x = nb' ∨ x = sb') w1 wr) (fun _ s20 _ => n - (RowKit.intOf s20).toNat)
  case atStart => exact ⟨0, Nat.zero_le _, rfl, rfl, by rw [mix_zero]; exact hA, Keeps.refl _ _⟩
  case round => as_aux_lemma =>
    obtain ⟨j, hj, rfl, rfl, hn, hkn⟩ := hrel
    clear hA
    have hbr : Below w.heap.size w wr := hb1.trans (hkn.below hBs (fun i e => by rcases e with e | e <;> omega))
    by_cases hlt : j < n
    · have hr := H0.out.below hbr
      obtain ⟨b1, d1, e1, hl1, _, hr1⟩ := hr.now.at_ j hlt
      obtain ⟨b2, d2, e2, hl2, _, hr2⟩ := hr.safe.at_ j hlt
      have hlen1 := hr.now.len j hlt
      have hlen2 := hr.safe.len j hlt
      have c0 := hr.c0
      have c1 := hr.c1
      have c2 := hr.c2
      have hlz := hr.lz j hlt
      have q0 := hn.c0
      have q1 := hn.c1
      have hrl' := hn.rlt
      have hnl' := hn.now.lt
      have hsl' := hn.safe.lt
      obtain ⟨x1, y1, n1, _⟩ := hn.now.at_ j hlt
      obtain ⟨x2, y2, n2, _⟩ := hn.safe.at_ j hlt
      have f1 := hn.now.fz j
      have f2 := hn.safe.fz j
      obtain ⟨m1, m2, m3, k4, m5, m6⟩ := hn.ne
      have k1 := Ne.symm m1
      have k2 := Ne.symm m2
      have HN : Hid (RefAt wr (fun b => b < w.heap.size ∨ b = r' ∨ b = nb' ∨ b = sb' ∨ b = lb') r' nb' sb' lb' n cn' cs' cl' (mix (crashN Now Safe Lz K) (fun _ => zsec) j) (mix (crashN Now Safe Lz K) (fun _ => zsec) j) (fun _ => false) 0 false) := hn
      have hkl := looseN_len Lz j
      have hls := looseN_succ Lz j
      have hKr := HK0.out.below (hbr.mono hLim)
      clear hn hr m1 m2 m3 m5 m6
      cases hz : Lz j
      · rw [hz] at hlz
        rw [hz, if_neg (by simp)] at hls
        have HK1 : Hid ((looseN Lz (j + 1)).length = (looseN Lz j).length) := congrArg List.length hls
        clear hls hKr
        have HX : Hid (crashN Now Safe Lz K j = Now j) := by show crashN Now Safe Lz K j = _; unfold crashN; rw [hz, if_neg (by simp)]
        have hq1 : (bytesV (Now j)).length = 64 * 1 := by rw [bytesV_length, hlen1]
        have hq2 := news_of_range hr1
        clear hr1 hr2
        go_wp2_with fail
        refine wp_region_noPanic ?_
        go_region_held_law (fun w' => w'.cell? ⟨r', 0, none⟩ = some (.slice (some ⟨nb', 0, none⟩) n cn') ∧ w'.cell? ⟨r', 1, none⟩ = some (.slice (some ⟨sb', 0, none⟩) n cs')) (first | exact ⟨q0, q1⟩ | (constructor <;> assumption) | go_keep)
          (first
            | (have hold := hb12; clear hold; refine step_append_lies _ rfl _ _ 33 rfl w2.heap.size 5 i0 (.int .u8 0) 1 1 Tryd.underlying33 hi0 hz0 hz1 hz2 rfl (by decide) (.slice none 0 0) 0 [] rfl (World.ownsRow_nil _ _ _ _) ⟨b1, 0, none⟩ 64 d1 (bytesV (Now j)) rfl hq1 hq22 (bytesV_one _) hq3 hq4 hq5 (Nat.le_refl _) _ rfl ?_; intro g2 cg2 w3 hown2 hgrow2 hat2 hlt2; have hb23 : Below w2.heap.size w2 w3 := (Below.refl _ w2).grown hgrow2 (Nat.le_refl _) (fun k e => by cases e); have q03 := (hb23.cell (p := ⟨r', 0, none⟩) (Nat.lt_of_lt_of_le hrl' hs12)).trans q02; have q13 := (hb23.cell (p := ⟨r', 1, none⟩) (Nat.lt_of_lt_of_le hrl' hs12)).trans q12; have n13 := (hb23.cell (p := ⟨nb', j, none⟩) (Nat.lt_of_lt_of_le hnl' hs12)).trans n12; have f13 := (hb23.frozen (p := ⟨nb', j, none⟩) (Nat.lt_of_lt_of_le hnl' hs12)).trans f12; have n23 : ∀ v, (w3.setCell ⟨nb', j, none⟩ v).cell? ⟨sb', j, none⟩ = some (.slice (some ⟨x2, 0, none⟩) 64 y2) := fun v => (World.cell?_setCell_far _ _ _ _ k4).trans ((hb23.cell (p := ⟨sb', j, none⟩) (Nat.lt_of_lt_of_le hsl' hs12)).trans n22); have f23 : ∀ v, (w3.setCell ⟨nb', j, none⟩ v).frozen? ⟨sb', j, none⟩ = false := fun v => (World.frozen?_setCell _ _ _ _).trans ((hb23.frozen (p := ⟨sb', j, none⟩) (Nat.lt_of_lt_of_le hsl' hs12)).trans f22))
            | (refine step_append_lies _ rfl _ _ 33 rfl wr.heap.size 5 i0 (.int .u8 0) 1 1 Tryd.underlying33 hi0 hz0 hz1 hz2 rfl (by decide) (.slice none 0 0) 0 [] rfl (World.ownsRow_nil _ _ _ _) ⟨b1, 0, none⟩ 64 d1 (bytesV (Now j)) rfl hq1 hq2 (bytesV_one _) hq3 hq4 hq5 (Nat.le_refl _) _ rfl ?_; intro g1 cg1 w2 hown1 hgrow1 hat1 hlt1; have hb12 : Below wr.heap.size wr w2 := (below_dr (Below.refl _ wr)).grown hgrow1 (Nat.le_refl _) (fun k e => by cases e); have hs12 := hb12.size; have q02 := (hb12.cell (p := ⟨r', 0, none⟩) hrl').trans q0; have q12 := (hb12.cell (p := ⟨r', 1, none⟩) hrl').trans q1; have n12 := (hb12.cell (p := ⟨nb', j, none⟩) hnl').trans n1; have f12 := (hb12.frozen (p := ⟨nb', j, none⟩) hnl').trans f1; have n22 := (hb12.cell (p := ⟨sb', j, none⟩) hsl').trans n2; have f22 := (hb12.frozen (p := ⟨sb', j, none⟩) hsl').trans f2; have hq22 := news_below hq2 hb12 hl1))
        refine NoPanic.normal ?_
        have hE := HN.out.two (X := Now j) hlen1 hlt hb12 hb23 hown1 hown2
        obtain ⟨hE1, hE2⟩ := hE
        have HE : Hid _ := hE1
        have hkE := hkn.trans hE2
        clear hown1 hown2 hgrow1 hgrow2 hE1 hE2 q02 q12 n12 f12 n22 f22 q03 q13 n13 f13 n23 f23 hq22 hq2 hq1 hb12 hb23
        generalize ((w3.setCell ⟨nb', j, none⟩ (.slice (some ⟨g1, 0, none⟩) 64 cg1)).setCell ⟨sb', j, none⟩ (.slice (some ⟨g2, 0, none⟩) 64 cg2)) = wE at HE hkE ⊢
        go_wp2_with fail
        go_roundw
        case rel => exact ⟨j + 1, by omega, by go_num, by rw [HK1.out] <;> go_num, by rw [← mix_step, HX.out]; exact HE.out, hkE⟩
        case measure => simp [RowKit.intOf]; omega
      · rw [hz] at hlz
        rw [hz, if_pos rfl] at hls
        have HK1 : Hid ((looseN Lz (j + 1)).length = (looseN Lz j).length + 1) := by show (looseN Lz (j + 1)).length = _; rw [hls, List.length_append]; rfl
        clear hls
        by_cases hk : (looseN Lz j).length < kl
        · obtain ⟨kb, ko, rfl, _, hck⟩ := hKr.cell _ hk
          cases hkv : K.getD (looseN Lz j).length false
          · rw [hkv] at hck
            clear hKr
            have HX : Hid (crashN Now Safe Lz K j = Safe j) := by show crashN Now Safe Lz K j = _; unfold crashN; rw [hz, if_pos rfl, hkv, if_neg (by simp)]
            have hq1 : (bytesV (Safe j)).length = 64 * 1 := by rw [bytesV_length, hlen2]
            have hq2 := news_of_range hr2
            clear hr1 hr2
            go_wp2_with fail
            refine wp_region_noPanic ?_
            go_region_held_law (fun w' => w'.cell? ⟨r', 0, none⟩ = some (.slice (some ⟨nb', 0, none⟩) n cn') ∧ w'.cell? ⟨r', 1, none⟩ = some (.slice (some ⟨sb', 0, none⟩) n cs')) (first | exact ⟨q0, q1⟩ | (constructor <;> assumption) | go_keep)
              (first
                | (have hold := hb12; clear hold; refine step_append_lies _ rfl _ _ 33 rfl w2.heap.size 5 i0 (.int .u8 0) 1 1 Tryd.underlying33 hi0 hz0 hz1 hz2 rfl (by decide) (.slice none 0 0) 0 [] rfl (World.ownsRow_nil _ _ _ _) ⟨b2, 0, none⟩ 64 d2 (bytesV (Safe j)) rfl hq1 hq22 (bytesV_one _) hq3 hq4 hq5 (Nat.le_refl _) _ rfl ?_; intro g2 cg2 w3 hown2 hgrow2 hat2 hlt2; have hb23 : Below w2.heap.size w2 w3 := (Below.refl _ w2).grown hgrow2 (Nat.le_refl _) (fun k e => by cases e); have q03 := (hb23.cell (p := ⟨r', 0, none⟩) (Nat.lt_of_lt_of_le hrl' hs12)).trans q02; have q13 := (hb23.cell (p := ⟨r', 1, none⟩) (Nat.lt_of_lt_of_le hrl' hs12)).trans q12; have n13 := (hb23.cell (p := ⟨nb', j, none⟩) (Nat.lt_of_lt_of_le hnl' hs12)).trans n12; have f13 := (hb23.frozen (p := ⟨nb', j, none⟩) (Nat.lt_of_lt_of_le hnl' hs12)).trans f12; have n23 : ∀ v, (w3.setCell ⟨nb', j, none⟩ v).cell? ⟨sb', j, none⟩ = some (.slice (some ⟨x2, 0, none⟩) 64 y2) := fun v => (World.cell?_setCell_far _ _ _ _ k4).trans ((hb23.cell (p := ⟨sb', j, none⟩) (Nat.lt_of_lt_of_le hsl' hs12)).trans n22); have f23 : ∀ v, (w3.setCell ⟨nb', j, none⟩ v).frozen? ⟨sb', j, none⟩ = false := fun v => (World.frozen?_setCell _ _ _ _).trans ((hb23.frozen (p := ⟨sb', j, none⟩) (Nat.lt_of_lt_of_le hsl' hs12)).trans f22))
                | (refine step_append_lies _ rfl _ _ 33 rfl wr.heap.size 5 i0 (.int .u8 0) 1 1 Tryd.underlying33 hi0 hz0 hz1 hz2 rfl (by decide) (.slice none 0 0) 0 [] rfl (World.ownsRow_nil _ _ _ _) ⟨b2, 0, none⟩ 64 d2 (bytesV (Safe j)) rfl hq1 hq2 (bytesV_one _) hq3 hq4 hq5 (Nat.le_refl _) _ rfl ?_; intro g1 cg1 w2 hown1 hgrow1 hat1 hlt1; have hb12 : Below wr.heap.size wr w2 := (below_dr (Below.refl _ wr)).grown hgrow1 (Nat.le_refl _) (fun k e => by cases e); have hs12 := hb12.size; have q02 := (hb12.cell (p := ⟨r', 0, none⟩) hrl').trans q0; have q12 := (hb12.cell (p := ⟨r', 1, none⟩) hrl').trans q1; have n12 := (hb12.cell (p := ⟨nb', j, none⟩) hnl').trans n1; have f12 := (hb12.frozen (p := ⟨nb', j, none⟩) hnl').trans f1; have n22 := (hb12.cell (p := ⟨sb', j, none⟩) hsl').trans n2; have f22 := (hb12.frozen (p := ⟨sb', j, none⟩) hsl').trans f2; have hq22 := news_below hq2 hb12 hl2))
            refine NoPanic.normal ?_
            have hE := HN.out.two (X := Safe j) hlen2 hlt hb12 hb23 hown1 hown2
            obtain ⟨hE1, hE2⟩ := hE
            have HE : Hid _ := hE1
            have hkE := hkn.trans hE2
            clear hown1 hown2 hgrow1 hgrow2 hE1 hE2 q02 q12 n12 f12 n22 f22 q03 q13 n13 f13 n23 f23 hq22 hq2 hq1 hb12 hb23
            generalize ((w3.setCell ⟨nb', j, none⟩ (.slice (some ⟨g1, 0, none⟩) 64 cg1)).setCell ⟨sb', j, none⟩ (.slice (some ⟨g2, 0, none⟩) 64 cg2)) = wE at HE hkE ⊢
            go_wp2_with fail
            go_roundw
            case rel => exact ⟨j + 1, by omega, by go_num, by rw [HK1.out] <;> go_num, by rw [← mix_step, HX.out]; exact HE.out, hkE⟩
            case measure => simp [RowKit.intOf]; omega
          · rw [hkv] at hck
            clear hKr
            have HX : Hid (crashN Now Safe Lz K j = Now j) := by show crashN Now Safe Lz K j = _; unfold crashN; rw [hz, if_pos rfl, hkv, if_pos rfl]
            have hq1 : (bytesV (Now j)).length = 64 * 1 := by rw [bytesV_length, hlen1]
            have hq2 := news_of_range hr1
            clear hr1 hr2
            go_wp2_with fail
            refine wp_region_noPanic ?_
            go_region_held_law (fun w' => w'.cell? ⟨r', 0, none⟩ = some (.slice (some ⟨nb', 0, none⟩) n cn') ∧ w'.cell? ⟨r', 1, none⟩ = some (.slice (some ⟨sb', 0, none⟩) n cs')) (first | exact ⟨q0, q1⟩ | (constructor <;> assumption) | go_keep)
              (first
                | (have hold := hb12; clear hold; refine step_append_lies _ rfl _ _ 33 rfl w2.heap.size 5 i0 (.int .u8 0) 1 1 Tryd.underlying33 hi0 hz0 hz1 hz2 rfl (by decide) (.slice none 0 0) 0 [] rfl (World.ownsRow_nil _ _ _ _) ⟨b1, 0, none⟩ 64 d1 (bytesV (Now j)) rfl hq1 hq22 (bytesV_one _) hq3 hq4 hq5 (Nat.le_refl _) _ rfl ?_; intro g2 cg2 w3 hown2 hgrow2 hat2 hlt2; have hb23 : Below w2.heap.size w2 w3 := (Below.refl _ w2).grown hgrow2 (Nat.le_refl _) (fun k e => by cases e); have q03 := (hb23.cell (p := ⟨r', 0, none⟩) (Nat.lt_of_lt_of_le hrl' hs12)).trans q02; have q13 := (hb23.cell (p := ⟨r', 1, none⟩) (Nat.lt_of_lt_of_le hrl' hs12)).trans q12; have n13 := (hb23.cell (p := ⟨nb', j, none⟩) (Nat.lt_of_lt_of_le hnl' hs12)).trans n12; have f13 := (hb23.frozen (p := ⟨nb', j, none⟩) (Nat.lt_of_lt_of_le hnl' hs12)).trans f12; have n23 : ∀ v, (w3.setCell ⟨nb', j, none⟩ v).cell? ⟨sb', j, none⟩ = some (.slice (some ⟨x2, 0, none⟩) 64 y2) := fun v => (World.cell?_setCell_far _ _ _ _ k4).trans ((hb23.cell (p := ⟨sb', j, none⟩) (Nat.lt_of_lt_of_le hsl' hs12)).trans n22); have f23 : ∀ v, (w3.setCell ⟨nb', j, none⟩ v).frozen? ⟨sb', j, none⟩ = false := fun v => (World.frozen?_setCell _ _ _ _).trans ((hb23.frozen (p := ⟨sb', j, none⟩) (Nat.lt_of_lt_of_le hsl' hs12)).trans f22))
                | (refine step_append_lies _ rfl _ _ 33 rfl wr.heap.size 5 i0 (.int .u8 0) 1 1 Tryd.underlying33 hi0 hz0 hz1 hz2 rfl (by decide) (.slice none 0 0) 0 [] rfl (World.ownsRow_nil _ _ _ _) ⟨b1, 0, none⟩ 64 d1 (bytesV (Now j)) rfl hq1 hq2 (bytesV_one _) hq3 hq4 hq5 (Nat.le_refl _) _ rfl ?_; intro g1 cg1 w2 hown1 hgrow1 hat1 hlt1; have hb12 : Below wr.heap.size wr w2 := (below_dr (Below.refl _ wr)).grown hgrow1 (Nat.le_refl _) (fun k e => by cases e); have hs12 := hb12.size; have q02 := (hb12.cell (p := ⟨r', 0, none⟩) hrl').trans q0; have q12 := (hb12.cell (p := ⟨r', 1, none⟩) hrl').trans q1; have n12 := (hb12.cell (p := ⟨nb', j, none⟩) hnl').trans n1; have f12 := (hb12.frozen (p := ⟨nb', j, none⟩) hnl').trans f1; have n22 := (hb12.cell (p := ⟨sb', j, none⟩) hsl').trans n2; have f22 := (hb12.frozen (p := ⟨sb', j, none⟩) hsl').trans f2; have hq22 := news_below hq2 hb12 hl1))
            refine NoPanic.normal ?_
            have hE := HN.out.two (X := Now j) hlen1 hlt hb12 hb23 hown1 hown2
            obtain ⟨hE1, hE2⟩ := hE
            have HE : Hid _ := hE1
            have hkE := hkn.trans hE2
            clear hown1 hown2 hgrow1 hgrow2 hE1 hE2 q02 q12 n12 f12 n22 f22 q03 q13 n13 f13 n23 f23 hq22 hq2 hq1 hb12 hb23
            generalize ((w3.setCell ⟨nb', j, none⟩ (.slice (some ⟨g1, 0, none⟩) 64 cg1)).setCell ⟨sb', j, none⟩ (.slice (some ⟨g2, 0, none⟩) 64 cg2)) = wE at HE hkE ⊢
            go_wp2_with fail
            go_roundw
            case rel => exact ⟨j + 1, by omega, by go_num, by rw [HK1.out] <;> go_num, by rw [← mix_step, HX.out]; exact HE.out, hkE⟩
            case measure => simp [RowKit.intOf]; omega
        · have hkv : K.getD (looseN Lz j).length false = false := getD_ge _ _ _ (by have := HK0.out.len; omega)
          clear hKr
          have HX : Hid (crashN Now Safe Lz K j = Safe j) := by show crashN Now Safe Lz K j = _; unfold crashN; rw [hz, if_pos rfl, hkv, if_neg (by simp)]
          have hq1 : (bytesV (Safe j)).length = 64 * 1 := by rw [bytesV_length, hlen2]
          have hq2 := news_of_range hr2
          clear hr1 hr2
          go_wp2_with fail
          refine wp_region_noPanic ?_
          go_region_held_law (fun w' => w'.cell? ⟨r', 0, none⟩ = some (.slice (some ⟨nb', 0, none⟩) n cn') ∧ w'.cell? ⟨r', 1, none⟩ = some (.slice (some ⟨sb', 0, none⟩) n cs')) (first | exact ⟨q0, q1⟩ | (constructor <;> assumption) | go_keep)
            (first
              | (have hold := hb12; clear hold; refine step_append_lies _ rfl _ _ 33 rfl w2.heap.size 5 i0 (.int .u8 0) 1 1 Tryd.underlying33 hi0 hz0 hz1 hz2 rfl (by decide) (.slice none 0 0) 0 [] rfl (World.ownsRow_nil _ _ _ _) ⟨b2, 0, none⟩ 64 d2 (bytesV (Safe j)) rfl hq1 hq22 (bytesV_one _) hq3 hq4 hq5 (Nat.le_refl _) _ rfl ?_; intro g2 cg2 w3 hown2 hgrow2 hat2 hlt2; have hb23 : Below w2.heap.size w2 w3 := (Below.refl _ w2).grown hgrow2 (Nat.le_refl _) (fun k e => by cases e); have q03 := (hb23.cell (p := ⟨r', 0, none⟩) (Nat.lt_of_lt_of_le hrl' hs12)).trans q02; have q13 := (hb23.cell (p := ⟨r', 1, none⟩) (Nat.lt_of_lt_of_le hrl' hs12)).trans q12; have n13 := (hb23.cell (p := ⟨nb', j, none⟩) (Nat.lt_of_lt_of_le hnl' hs12)).trans n12; have f13 := (hb23.frozen (p := ⟨nb', j, none⟩) (Nat.lt_of_lt_of_le hnl' hs12)).trans f12; have n23 : ∀ v, (w3.setCell ⟨nb', j, none⟩ v).cell? ⟨sb', j, none⟩ = some (.slice (some ⟨x2, 0, none⟩) 64 y2) := fun v => (World.cell?_setCell_far _ _ _ _ k4).trans ((hb23.cell (p := ⟨sb', j, none⟩) (Nat.lt_of_lt_of_le hsl' hs12)).trans n22); have f23 : ∀ v, (w3.setCell ⟨nb', j, none⟩ v).frozen? ⟨sb', j, none⟩ = false := fun v => (World.frozen?_setCell _ _ _ _).trans ((hb23.frozen (p := ⟨sb', j, none⟩) (Nat.lt_of_lt_of_le hsl' hs12)).trans f22))
              | (refine step_append_lies _ rfl _ _ 33 rfl wr.heap.size 5 i0 (.int .u8 0) 1 1 Tryd.underlying33 hi0 hz0 hz1 hz2 rfl (by decide) (.slice none 0 0) 0 [] rfl (World.ownsRow_nil _ _ _ _) ⟨b2, 0, none⟩ 64 d2 (bytesV (Safe j)) rfl hq1 hq2 (bytesV_one _) hq3 hq4 hq5 (Nat.le_refl _) _ rfl ?_; intro g1 cg1 w2 hown1 hgrow1 hat1 hlt1; have hb12 : Below wr.heap.size wr w2 := (below_dr (Below.refl _ wr)).grown hgrow1 (Nat.le_refl _) (fun k e => by cases e); have hs12 := hb12.size; have q02 := (hb12.cell (p := ⟨r', 0, none⟩) hrl').trans q0; have q12 := (hb12.cell (p := ⟨r', 1, none⟩) hrl').trans q1; have n12 := (hb12.cell (p := ⟨nb', j, none⟩) hnl').trans n1; have f12 := (hb12.frozen (p := ⟨nb', j, none⟩) hnl').trans f1; have n22 := (hb12.cell (p := ⟨sb', j, none⟩) hsl').trans n2; have f22 := (hb12.frozen (p := ⟨sb', j, none⟩) hsl').trans f2; have hq22 := news_below hq2 hb12 hl2))
          refine NoPanic.normal ?_
          have hE := HN.out.two (X := Safe j) hlen2 hlt hb12 hb23 hown1 hown2
          obtain ⟨hE1, hE2⟩ := hE
          have HE : Hid _ := hE1
          have hkE := hkn.trans hE2
          clear hown1 hown2 hgrow1 hgrow2 hE1 hE2 q02 q12 n12 f12 n22 f22 q03 q13 n13 f13 n23 f23 hq22 hq2 hq1 hb12 hb23
          generalize ((w3.setCell ⟨nb', j, none⟩ (.slice (some ⟨g1, 0, none⟩) 64 cg1)).setCell ⟨sb', j, none⟩ (.slice (some ⟨g2, 0, none⟩) 64 cg2)) = wE at HE hkE ⊢
          go_wp2_with fail
          go_roundw
          case rel => exact ⟨j + 1, by omega, by go_num, by rw [HK1.out] <;> go_num, by rw [← mix_step, HX.out]; exact HE.out, hkE⟩
          case measure => simp [RowKit.intOf]; omega
    · have hjn : j = n := by omega
      subst hjn
      go_wp2_with fail
      go_ret
      refine ⟨r', rfl, nb', sb', lb', ⟨cn', cs', cl', hn.congr (fun k hk => ?_) (fun k hk => ?_) (fun _ _ => rfl)⟩, z1, z2, z3, z4, hbr⟩
      · unfold mix; rw [if_pos hk]
      · unfold mix; rw [if_pos hk]
end Go.Proofs.YtmdjjnjhjojimaaDoor
