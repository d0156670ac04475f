import Derived.Test.YtmdjjnjhjojimaaDoorBallE
import Derived.Test.YtmdjjnjhjojimaaDoorIntsA
namespace Go.Proofs.YtmdjjnjhjojimaaDoor
open Go.RowKit Go.Maps

theorem RdAt.drew {w : World} {rb : Nat} {s : List UInt8} {a : Option Addr} {c : Nat} {err : Int} (h : RdAt w rb s a c err) : RdAt w.drew rb s a c err := h.below ⟨rfl, rfl, rfl, Nat.le_refl _, fun _ _ => rfl⟩
/-- A slice of bools that reads K. -/
structure KeepL (w : World) (Lim : Nat) (ka : Option Addr) (kl : Nat) (K : List Bool) : Prop where
  len : K.length = kl
  at_ : kl = 0 ∨ ∃ kb ko, ka = some ⟨kb, ko, none⟩ ∧ kb < Lim ∧ w.rangeAt kb ko (K.map Value.bool)
theorem KeepL.below {w w' : World} {Lim : Nat} {ka : Option Addr} {kl : Nat} {K : List Bool} (h : KeepL w Lim ka kl K) (hb : Below Lim w w') : KeepL w' Lim ka kl K := by
  refine ⟨h.len, ?_⟩
  rcases h.at_ with h0 | ⟨kb, ko, e, hl, hr⟩
  · exact Or.inl h0
  · exact Or.inr ⟨kb, ko, e, hl, fun j v hv => (hb.cell (p := ⟨kb, ko + j, none⟩) hl).trans (hr j v hv)⟩
theorem KeepL.cell {w : World} {Lim : Nat} {ka : Option Addr} {kl : Nat} {K : List Bool} (h : KeepL w Lim ka kl K) (p : Nat) (hp : p < kl) : ∃ kb ko, ka = some ⟨kb, ko, none⟩ ∧ kb < Lim ∧ w.cell? ⟨kb, ko + p, none⟩ = some (.bool (K.getD p false)) := by
  rcases h.at_ with h0 | ⟨kb, ko, e, hl, hr⟩
  · omega
  · have := h.len
    exact ⟨kb, ko, e, hl, hr p _ (by rw [List.getElem?_map, List.getElem?_eq_getElem (by omega)]; simp [List.getD, List.getElem?_eq_getElem (show p < K.length by omega)])⟩
/-- What is still to be read of the first m numbers. -/
def restA (A : List Int) (m j : Nat) : List UInt8 := ((A.take m).drop j).flatMap encInt
theorem restA_step (A : List Int) (m j : Nat) (hj : j < m) (hm : m ≤ A.length) : restA A m j = encInt (A.getD j 0) ++ restA A m (j + 1) := by
  unfold restA
  have hl : j < (A.take m).length := by rw [List.length_take]; omega
  rw [List.drop_eq_getElem_cons hl, List.flatMap_cons, List.getElem_take]
  simp [List.getD, List.getElem?_eq_getElem (show j < A.length by omega)]
theorem restA_end (A : List Int) (m : Nat) : restA A m m = [] := by
  unfold restA; rw [List.drop_of_length_le (by rw [List.length_take]; omega)]; rfl
def restT (T : List ByteArray) (m j : Nat) : List UInt8 := ((T.take m).drop j).flatMap encT
theorem restT_step (T : List ByteArray) (m j : Nat) (hj : j < m) (hm : m ≤ T.length) : restT T m j = encT (T.getD j ⟨#[]⟩) ++ restT T m (j + 1) := by
  unfold restT
  have hl : j < (T.take m).length := by rw [List.length_take]; omega
  rw [List.drop_eq_getElem_cons hl, List.flatMap_cons, List.getElem_take]
  simp [List.getD, List.getElem?_eq_getElem (show j < T.length by omega)]
theorem restT_end (T : List ByteArray) (m : Nat) : restT T m m = [] := by
  unfold restT; rw [List.drop_of_length_le (by rw [List.length_take]; omega)]; rfl

set_option maxRecDepth 100000 in
set_option maxHeartbeats 16000000 in
theorem binAll_true (a1 a2 a4 a5 : Option Addr) (n1 c1 n2 c2 n4 c4 n5 c5 : Nat) (cut : Int) (A : List Int) (T : List ByteArray) (w : World) (hA : IntsAt w w.heap.size a1 n1 A) (hT : StrsAt w w.heap.size a2 n2 T) (Rw : List UInt8) (hRl : Rw.length = n4) (hR : BAny w w.heap.size a4 c4 Rw) (hc4 : c4 ≤ 9223372036854775807) (K : List Bool) (hK : KeepL w w.heap.size a5 n5 K) (hg : w.cell? ⟨0, 0, none⟩ = some errType) :
    Calls Tryd.prog 6 #[.slice a1 n1 c1, .slice a2 n2 c2, .int .i64 cut, .slice a4 n4 c4, .slice a5 n5 c5] w fun e w' => e = .returned (.bool true) ∧ Below w.heap.size w w' := by
  obtain ⟨i0, hi0, hz0, hz1, hz2⟩ := info_parts info5
  go_enter Tryd.func6, Tryd.ntmps6
  go_wp2_with fail
  refine (begun_true _ hg).mono ?_
  rintro e w1 ⟨rfl, hb1⟩
  clear hg
  have hbs := hb1.size
  have HA0 : Hid (IntsAt w w.heap.size a1 n1 A) := hA
  have HT0 : Hid (StrsAt w w.heap.size a2 n2 T) := hT
  have HR0 : Hid (BAny w w.heap.size a4 c4 Rw ∧ Rw.length = n4) := ⟨hR, hRl⟩
  have HK0 : Hid (KeepL w w.heap.size a5 n5 K) := hK
  have hn4 : n4 ≤ c4 := by have := hR.hc; omega
  clear hA hT hR hRl hK
  go_wp2_with fail
  have hbW : Below w.heap.size w (w1.alloc (.cells #[.slice none 0 0] 55)) := hb1.alloc hbs _
  have h2 : Two (w1.alloc (.cells #[.slice none 0 0] 55)) w1.heap.size (w1.heap.size + 1) [] none 0 (.slice none 0 0) :=
    ⟨⟨by simp, by simp, World.ownsRow_nil _ _ _ _, by simp, by simp [Value.ownBlock]⟩, World.ownsRow_nil _ _ _ _, by simp [Value.ownBlock], fun g e => by cases e⟩
  obtain ⟨wb, hwb⟩ : ∃ wb, w1.heap.size = wb := ⟨_, rfl⟩
  rw [hwb] at h2 hbs ⊢
  clear hb1 hwb
  go_loopw [13, 14] (fun s13 s14 wr => ∃ (j : Nat) (av : Option Addr) (cv : Nat), j ≤ 12 ∧ j ≤ n1 ∧ s14 = .int .i64 j ∧ Two wr wb (wb + 1) (flat A j) av cv s13 ∧ Below w.heap.size w wr) (fun _ s14 _ => 12 - (RowKit.intOf s14).toNat)
  case atStart => exact ⟨0, none, 0, by omega, by omega, rfl, h2, hbW⟩
  case round => as_aux_lemma =>
    obtain ⟨j, av, cv, hj, hjn, rfl, h2r, hbr⟩ := hrel
    clear h2 hbW
    have hbrs := hbr.size
    by_cases hlt : j < 12 ∧ j < n1
    · obtain ⟨hlt1, hlt2⟩ := hlt
      have hAr := HA0.out.below hbr
      obtain ⟨b1, o1, rfl, hcell⟩ := hAr.cell j hlt2
      have hb1l : b1 < w.heap.size := by
        rcases hAr.at_ with h9 | ⟨b, o, e, h9, _⟩
        · omega
        · cases e; exact h9
      have hxb : -9223372036854775808 ≤ A.getD j 0 ∧ A.getD j 0 ≤ 9223372036854775807 := by
        have h9 : j < A.length := by have := HA0.out.len; omega
        have := HA0.out.fit A[j] (List.getElem_mem h9)
        simpa [List.getD, List.getElem?_eq_getElem h9] using this
      have HF : Hid (flat A (j + 1) = flat A j ++ encInt (A.getD j 0)) := flat_succ A j (by have := HA0.out.len; omega)
      have hfl := flat_lenA A j
      clear hAr
      generalize A.getD j 0 = x at hcell hxb HF
      generalize flat A j = s at h2r HF hfl
      have hwl := wid_le x
      go_wp2_with fail
      have hwA := h2r.wr.alloc (.cells #[.int .i64 x] 2)
      have hnA : (wr.alloc (.cells #[.int .i64 x] 2)).rangeAt wr.heap.size 0 ([x].map (Value.int .i64)) := by
        intro j v hv
        rw [cell_of_row _ _ (0 + j) _ 2 (0, 0) (heap_alloc_last wr _)]
        simpa using hv
      have h2A : Two (wr.alloc (.cells #[.int .i64 x] 2)) wb (wb + 1) s av cv u13 := ⟨hwA, h2r.row.alloc _, h2r.ne1, h2r.ne2⟩
      have hbA : Below w.heap.size w (wr.alloc (.cells #[.int .i64 x] 2)) := hbr.alloc hbrs _
      have hcellA : (wr.alloc (.cells #[.int .i64 x] 2)).cell? ⟨b1, o1 + j, none⟩ = some (.int .i64 x) := by rw [World.cell?_alloc_lt _ _ ⟨b1, o1 + j, none⟩ (World.block_lt_of_cell? _ _ hcell)]; exact hcell
      have hwlt := h2r.wr.lt
      have hne3 : (Value.slice av s.length cv).ownBlock ≠ some wr.heap.size := fun e => by have := (h2r.wr.own e).2; omega
      clear h2r hbr hcell
      generalize wr.alloc (.cells #[.int .i64 x] 2) = wA at hwA hnA h2A hbA hcellA ⊢
      refine (int_any hwA wr.heap.size 0 1 [x] hnA (by omega) hne3 (by intro y hy; simp at hy; subst hy; exact hxb) (by simp; omega)).mono ?_
      rintro e wB ⟨aB, cB, rfl, hwB, hkB, hmB⟩
      rw [show [x].flatMap encInt = encInt x by simp] at hwB hmB
      obtain ⟨hrowB, hneB⟩ := h2A.written hkB hmB
      have hne1 := h2A.ne1
      have hbB : Below w.heap.size w wB := hbA.trans (hkB.below hbA.size (fun i e => by
        rcases e with e | e
        · omega
        · have := (hwA.own e).1; omega))
      have hcellB : wB.cell? ⟨b1, o1 + j, none⟩ = some (.int .i64 x) := (hkB.cell (p := ⟨b1, o1 + j, none⟩) (World.block_lt_of_cell? _ _ hcellA) (by
        rintro (e | e)
        · have e : b1 = wb := e
          omega
        · have := (hwA.own e).1; have e2 : wb + 1 ≤ b1 := this; omega)).trans hcellA
      clear h2A hwA hnA hbA hcellA hkB hmB hne3
      go_wp2_with fail
      refine (refInt_any x wB hxb.1 hxb.2).mono ?_
      rintro e wC ⟨g1, c1', rfl, hrow1, hbC⟩
      have hwC := hwB.keeps (S := fun _ => False) (Keeps.of_below hbC) (fun e => e) (fun _ _ e => e)
      have hrowC := row_keeps hrowB (Keeps.of_below (S := fun _ => False) hbC) (fun _ _ e => e)
      have hbC' : Below w.heap.size w wC := hbB.trans (hbC.mono hbB.size)
      have hbsC := hbC.size
      have hwBlt := hwB.lt
      clear hwB hrowB hbB hcellB hbC
      have hlen2 : (bytesV (encInt x)).length = (1 + wid x) * 1 := by rw [bytesV_length, encInt_length]; omega
      go_wp2_with (at_builtin; refine wpList_append_own_at _ rfl _ _ 33 rfl (wb + 1) 5 i0 (.int .u8 0) 1 1 Tryd.underlying33 hi0 hz0 hz1 hz2 rfl (by decide) u13 s.length _ rfl hrowC ⟨g1, 0, none⟩ (1 + wid x) c1' (bytesV (encInt x)) rfl hlen2 ?q6 ?q1 ?q2 ?q3 ?q4 ?_)
      case q6 =>
        intro j u hu
        have h9 := row_cell hrow1 hu
        by_cases hj0 : j = 0
        · subst hj0; exact h9
        · simpa [Addr.add, hj0] using h9
      case q1 => exact bytesV_one _
      case q2 => unfold maxLen; omega
      case q3 => omega
      case q4 => omega
      intro v2 wD hrow2 hg2 _ hl2
      have HE : Hid ((s ++ encInt x).length = s.length + (1 + wid x)) := by show _ = _; rw [List.length_append, encInt_length]
      have h2D : Two wD wb (wb + 1) (s ++ encInt x) aB cB v2 := Two.done hwC hne1 hneB (by rw [HE.out, bytesV_append]; exact hrow2) hg2 hl2
      have hbD : Below w.heap.size w wD := hbC'.grown hg2 (by have := hbC'.size; omega) (fun k e => by have := (row_own hrowC e).1; omega)
      rw [← HF.out] at h2D
      clear hwC hrowC hbC' hrow2 hg2 hl2 hrow1 hne1 hneB
      go_wp2_with fail
      go_roundw
      case rel => exact ⟨j + 1, aB, cB, by omega, by omega, by go_num, h2D, hbD⟩
      case measure => simp [RowKit.intOf]; omega
    · go_upto_region 7 with fail
      go_cut [39] (fun s39 wx => s39 = .bool false ∧ wr = wx)
      case first =>
        by_cases hn : j < n1
        all_goals
          try have hj12 : ¬ j < 12 := by omega
          clear hlt
          go_wp2_with fail
          go_meet
          exact ⟨by first | rfl | (simp; omega), rfl⟩
      case rest =>
      obtain ⟨rfl, rfl⟩ := hcut
      obtain ⟨m, hm⟩ : ∃ m, j = m := ⟨_, rfl⟩
      rw [hm] at h2r hj hjn hlt ⊢
      have HM : Hid (¬ (m < 12 ∧ m < n1)) := hlt
      clear hm hlt
      go_wp2_with fail
      go_loopw [13, 15] (fun s13 s15 wr => ∃ (j : Nat) (av : Option Addr) (cv : Nat), j ≤ 5 ∧ j ≤ n2 ∧ s15 = .int .i64 j ∧ Two wr wb (wb + 1) (flat A m ++ flatT T j) av cv s13 ∧ Below w.heap.size w wr) (fun _ s15 _ => 5 - (RowKit.intOf s15).toNat)
      case atStart => exact ⟨0, av, cv, by omega, by omega, rfl, by simpa [flatT] using h2r, hbr⟩
      case round => as_aux_lemma =>
        obtain ⟨j, av, cv, hj2, hjn2, rfl, h2r, hbr⟩ := hrel
        have hbrs := hbr.size
        by_cases hlt2 : j < 5 ∧ j < n2
        · obtain ⟨hlt3, hlt4⟩ := hlt2
          have hTr := HT0.out.below hbr
          obtain ⟨b1, o1, rfl, hcell⟩ := hTr.cell j hlt4
          have hb1l : b1 < w.heap.size := by
            rcases hTr.at_ with h9 | ⟨b, o, e, h9, _⟩
            · omega
            · cases e; exact h9
          have HF : Hid (flat A m ++ flatT T (j + 1) = (flat A m ++ flatT T j) ++ encT (T.getD j ⟨#[]⟩)) := by
            show _ = _
            rw [flatT_succ T j (by have := HT0.out.len; omega), List.append_assoc]
          have hfl : (flat A m ++ flatT T j).length ≤ 400 := by have := flatT_len T j; have := flat_lenA A m; rw [List.length_append]; omega
          clear hTr
          generalize T.getD j ⟨#[]⟩ = t at hcell HF
          generalize flat A m ++ flatT T j = s at h2r HF hfl
          go_wp2_with fail
          refine (text30 t _).mono ?_
          rintro e w' ⟨rfl, hw⟩
          obtain rfl := hw.symm
          clear hw
          go_wp2_with fail
          refine (text_fine h2r.wr (by omega) (cut30 t) (by have := cut30_size t; omega)).mono ?_
          rintro e wB ⟨aB, cB, rfl, hwB, hkB, hmB⟩
          have hwB : WrAt wB wb (wb + 1) (s ++ encT t) aB cB := hwB
          have hmB : Moved wr (.slice av s.length cv) (.slice aB (s ++ encT t).length cB) := hmB
          obtain ⟨hrowB, hneB⟩ := h2r.written hkB hmB
          have hne1 := h2r.ne1
          have hwr0 := h2r.wr
          have hbB : Below w.heap.size w wB := hbr.trans (hkB.below hbrs (fun i e => by
            rcases e with e | e
            · omega
            · have := (hwr0.own e).1; omega))
          have hcellB : wB.cell? ⟨b1, o1 + j, none⟩ = some (.string t) := (hkB.cell (p := ⟨b1, o1 + j, none⟩) (World.block_lt_of_cell? _ _ hcell) (by
            rintro (e | e)
            · have e : b1 = wb := e
              omega
            · have := (hwr0.own e).1; have e2 : wb + 1 ≤ b1 := this; omega)).trans hcell
          clear h2r hbr hcell hkB hmB hwr0
          go_wp2_with fail
          refine (text30 t _).mono ?_
          rintro e w' ⟨rfl, hw⟩
          obtain rfl := hw.symm
          clear hw
          go_wp2_with fail
          refine (reftext_any (cut30 t) wB (by have := cut30_size t; omega)).mono ?_
          rintro e wC ⟨g1, c1', rfl, hrow1, hbC⟩
          have hwC := hwB.keeps (S := fun _ => False) (Keeps.of_below hbC) (fun e => e) (fun _ _ e => e)
          have hrowC := row_keeps hrowB (Keeps.of_below (S := fun _ => False) hbC) (fun _ _ e => e)
          have hbC' : Below w.heap.size w wC := hbB.trans (hbC.mono hbB.size)
          have hbsC := hbC.size
          have hwBlt := hwB.lt
          have hrow1 : wC.ownsRow wB.heap.size 5 1 (.slice (some ⟨g1, 0, none⟩) (1 + wid (cut30 t).size + (cut30 t).size) c1') (1 + wid (cut30 t).size + (cut30 t).size) (bytesV (encT t)) := hrow1
          have hel : (encT t).length = 1 + wid (cut30 t).size + (cut30 t).size := by unfold encT; rw [List.length_append, encInt_length]; simp
          have HE : Hid ((s ++ encT t).length = s.length + (1 + wid (cut30 t).size + (cut30 t).size)) := by show _ = _; rw [List.length_append, hel]
          have hlen2 : (bytesV (encT t)).length = (1 + wid (cut30 t).size + (cut30 t).size) * 1 := by rw [bytesV_length, hel]; omega
          have hle : 1 + wid (cut30 t).size + (cut30 t).size ≤ 40 := by have := encT_len t; omega
          obtain ⟨q, hq⟩ : ∃ q, 1 + wid (cut30 t).size + (cut30 t).size = q := ⟨_, rfl⟩
          rw [hq] at hrow1 HE hlen2 hle
          rw [hq]
          clear hq
          clear hwB hrowB hbB hcellB hbC hel
          go_wp2_with (at_builtin; refine wpList_append_own_at _ rfl _ _ 33 rfl (wb + 1) 5 i0 (.int .u8 0) 1 1 Tryd.underlying33 hi0 hz0 hz1 hz2 rfl (by decide) u13 s.length _ rfl hrowC ⟨g1, 0, none⟩ q c1' (bytesV (encT t)) rfl hlen2 ?q6 ?q1 ?q2 ?q3 ?q4 ?_)
          case q6 =>
            intro j u hu
            have h9 := row_cell hrow1 hu
            by_cases hj0 : j = 0
            · subst hj0; exact h9
            · simpa [Addr.add, hj0] using h9
          case q1 => exact bytesV_one _
          case q2 => unfold maxLen; omega
          case q3 => omega
          case q4 => omega
          intro v2 wD hrow2 hg2 _ hl2
          have h2D : Two wD wb (wb + 1) (s ++ encT t) aB cB v2 := Two.done hwC hne1 hneB (by rw [HE.out, bytesV_append]; exact hrow2) hg2 hl2
          have hbD : Below w.heap.size w wD := hbC'.grown hg2 (by have := hbC'.size; omega) (fun k e => by have := (row_own hrowC e).1; omega)
          rw [← HF.out] at h2D
          clear hwC hrowC hbC' hrow2 hg2 hl2 hrow1 hne1 hneB
          go_wp2_with fail
          go_roundw
          case rel => exact ⟨j + 1, aB, cB, by omega, by omega, by go_num, h2D, hbD⟩
          case measure => simp [RowKit.intOf]; omega
        · go_upto_region 12 with fail
          go_cut [62] (fun s62 wx => s62 = .bool false ∧ wr = wx)
          case first =>
            by_cases hn : j < n2
            all_goals
              try have hj5 : ¬ j < 5 := by omega
              clear hlt2
              go_wp2_with fail
              go_meet
              exact ⟨by first | rfl | (simp; omega), rfl⟩
          case rest =>
          obtain ⟨rfl, rfl⟩ := hcut
          obtain ⟨k, hk⟩ : ∃ k, j = k := ⟨_, rfl⟩
          rw [hk] at h2r hj2 hjn2 hlt2 ⊢
          have HK : Hid (¬ (k < 5 ∧ k < n2)) := hlt2
          clear hk hlt2
          have hSl : (flat A m ++ flatT T k).length ≤ 400 := by have := flatT_len T k; have := flat_lenA A m; rw [List.length_append]; omega
          obtain ⟨S, hSe⟩ : ∃ S, flat A m ++ flatT T k = S := ⟨_, rfl⟩
          rw [hSe] at h2r hSl
          have HS : Hid (S = restA A m 0 ++ restT T k 0) := hSe.symm
          clear hSe
          go_wp2_with fail
          refine (wbytes_b h2r.wr (by omega)).mono ?_
          rintro e w2 ⟨ba, bc, rfl, hB2, hb2, hbcm⟩
          have hrow2 := row_keeps h2r.row (Keeps.of_below (S := fun _ => False) hb2) (fun _ _ e => e)
          have hcb := hB2.conv
          have hcw := conv_row hrow2
          have hb2' : Below w.heap.size w w2 := hbr.trans (hb2.mono hbrs)
          clear h2r hbr hb2 hrow2
          go_wp2_with fail
          clear hcb hcw
          refine (newreader_b hB2 (by omega)).mono ?_
          rintro e w3 ⟨rb, ra, rc, rfl, hrb, hrd, hb3⟩
          have hB3 := hB2.below hb3
          have hb3' : Below w.heap.size w w3 := hb2'.trans (hb3.mono hb2'.size)
          have hw2s := hb2'.size
          obtain ⟨Lb, hLb⟩ : ∃ Lb, w2.heap.size = Lb := ⟨_, rfl⟩
          rw [hLb] at hB3 hrb hw2s
          clear hB2 hb3 hb2' hLb
          rw [HS.out] at hrd
          go_wp2_with fail
          go_loopw [18] (fun s18 wr => ∃ (j : Nat) (ra : Option Addr) (rc : Nat), j ≤ m ∧ s18 = .int .i64 j ∧ RdAt wr rb (restA A m j ++ restT T k 0) ra rc 0 ∧ BytesAt wr Lb ba bc S ∧ Below w.heap.size w wr) (fun s18 _ => m - (RowKit.intOf s18).toNat)
          case atStart => exact ⟨0, ra, rc, by omega, rfl, hrd, hB3, hb3'⟩
          case round => as_aux_lemma =>
            obtain ⟨j, ra, rc, hj3, rfl, hrd, hB, hbr⟩ := hrel
            clear hB3 hb3'
            have hbrs := hbr.size
            by_cases hlt5 : j < m
            · have hAr := HA0.out.below hbr
              obtain ⟨b1, o1, rfl, hcell⟩ := hAr.cell j (by omega)
              have hb1l : b1 < w.heap.size := by
                rcases hAr.at_ with h9 | ⟨b, o, e, h9, _⟩
                · omega
                · cases e; exact h9
              have hxb : -9223372036854775808 ≤ A.getD j 0 ∧ A.getD j 0 ≤ 9223372036854775807 := by
                have h9 : j < A.length := by have := HA0.out.len; omega
                have := HA0.out.fit A[j] (List.getElem_mem h9)
                simpa [List.getD, List.getElem?_eq_getElem h9] using this
              rw [restA_step A m j hlt5 (by have := HA0.out.len; omega), List.append_assoc] at hrd
              clear hAr
              generalize A.getD j 0 = x at hcell hxb hrd
              have hj12 : j < 12 := by omega
              have hjn1 : j < n1 := by omega
              go_upto_region 23 with fail
              go_cut [108] (fun s108 wx => s108 = .bool false ∧ ∃ (a5 : Option Addr) (c5 : Nat), RdAt wx rb (restA A m (j + 1) ++ restT T k 0) a5 c5 0 ∧ BytesAt wx Lb ba bc S ∧ Below w.heap.size w wx)
              case first =>
                go_region_held (fun w' => w'.cell? ⟨b1, o1 + j, none⟩ = some (.int .i64 x)) (first | assumption | exact hcell)
                  (first
                    | (go_at_call 33; refine (rint_next hrd.drew hxb.1 hxb.2).mono ?_; rintro e w5 ⟨a5, c5, rfl, hrd5, hk5⟩; have hc15 := hrd5.c1; have hcell5 : w5.cell? ⟨b1, o1 + j, none⟩ = some (.int .i64 x) := (hk5.cell (p := ⟨b1, o1 + j, none⟩) (World.block_lt_of_cell? _ _ hcell) (by show ¬ b1 = rb; omega)).trans hcell)
                    | (go_at_call 34; refine (rerr_cell rb 0 _ hc15).mono ?_; rintro e w6 ⟨rfl, hw⟩; obtain rfl := hw.symm; clear hw))
                all_goals
                  go_wp2_with fail
                  go_meet
                  have hrbl := hrd.lt
                  have hD : Below Lb wr wr.drew := ⟨rfl, rfl, rfl, Nat.le_refl _, fun _ _ => rfl⟩
                  have hD' : Below w.heap.size w wr.drew := ⟨hbr.os, hbr.tape, hbr.output, hbr.size, hbr.block⟩
                  have hk6 : Below Lb wr w5 := hD.trans (hk5.below (B := Lb) (show Lb ≤ wr.heap.size by omega) (fun i e => by omega))
                  exact ⟨rfl, a5, c5, hrd5, hB.below hk6, hD'.trans (hk5.below (show w.heap.size ≤ wr.heap.size from hbrs) (fun i e => by omega))⟩
              case rest =>
              obtain ⟨rfl, a5, c5, hrd5, hB5, hb5⟩ := hcut
              clear hrd hB hbr hcell
              go_wp2_with fail
              go_roundw
              case rel => exact ⟨j + 1, a5, c5, by omega, by go_num, hrd5, hB5, hb5⟩
              case measure => simp [RowKit.intOf]; omega
            · have hjm : j = m := by omega
              rw [hjm, restA_end, List.nil_append] at hrd
              have hM : ¬ (j < 12 ∧ j < n1) := by have := HM.out; omega
              clear hjm hj3
              go_upto_region 21 with fail
              go_cut [94] (fun s94 wx => s94 = .bool false ∧ wr = wx)
              case first =>
                by_cases hn : j < n1
                all_goals
                  try have hj12 : ¬ j < 12 := by omega
                  clear hM hlt5
                  go_wp2_with fail
                  go_meet
                  exact ⟨by first | rfl | (simp; omega), rfl⟩
              case rest =>
              obtain ⟨rfl, rfl⟩ := hcut
              clear hM hlt5
              go_wp2_with fail
              go_loopw [19] (fun s19 wr => ∃ (i : Nat) (ra : Option Addr) (rc : Nat), i ≤ k ∧ s19 = .int .i64 i ∧ RdAt wr rb (restT T k i) ra rc 0 ∧ BytesAt wr Lb ba bc S ∧ Below w.heap.size w wr) (fun s19 _ => k - (RowKit.intOf s19).toNat)
              case atStart => exact ⟨0, ra, rc, by omega, rfl, hrd, hB, hbr⟩
              case round => as_aux_lemma =>
                obtain ⟨i, ra, rc, hi3, rfl, hrd, hB, hbr⟩ := hrel
                have hbrs := hbr.size
                by_cases hlt6 : i < k
                · have hTr := HT0.out.below hbr
                  obtain ⟨b1, o1, rfl, hcell⟩ := hTr.cell i (by omega)
                  have hb1l : b1 < w.heap.size := by
                    rcases hTr.at_ with h9 | ⟨b, o, e, h9, _⟩
                    · omega
                    · cases e; exact h9
                  rw [restT_step T k i hlt6 (by have := HT0.out.len; omega)] at hrd
                  clear hTr
                  generalize T.getD i ⟨#[]⟩ = t at hcell hrd
                  have hi5 : i < 5 := by omega
                  have hin2 : i < n2 := by omega
                  go_upto_region 28 with fail
                  go_cut [131] (fun s131 wx => s131 = .bool false ∧ ∃ (a5 : Option Addr) (c5 : Nat), RdAt wx rb (restT T k (i + 1)) a5 c5 0 ∧ BytesAt wx Lb ba bc S ∧ Below w.heap.size w wx)
                  case first =>
                    go_region_held (fun w' => w'.cell? ⟨b1, o1 + i, none⟩ = some (.string t)) (first | assumption | exact hcell)
                      (first
                        | (go_at_call 35; refine (rtext_next hrd.drew).mono ?_; rintro e w5 ⟨a5, c5, rfl, hrd5, hk5⟩; have hc15 := hrd5.c1; have hcell5 : w5.cell? ⟨b1, o1 + i, none⟩ = some (.string t) := (hk5.cell (p := ⟨b1, o1 + i, none⟩) (World.block_lt_of_cell? _ _ hcell) (by show ¬ b1 = rb; omega)).trans hcell)
                        | (go_at_call 34; refine (rerr_cell rb 0 _ hc15).mono ?_; rintro e w6 ⟨rfl, hw⟩; obtain rfl := hw.symm; clear hw)
                        | (go_at_call 29; refine (text30 t _).mono ?_; rintro e w6 ⟨rfl, hw⟩; obtain rfl := hw.symm; clear hw))
                    all_goals
                      go_wp2_with fail
                      go_meet
                      have hrbl := hrd.lt
                      have hD : Below Lb wr wr.drew := ⟨rfl, rfl, rfl, Nat.le_refl _, fun _ _ => rfl⟩
                      have hD' : Below w.heap.size w wr.drew := ⟨hbr.os, hbr.tape, hbr.output, hbr.size, hbr.block⟩
                      have hk6 : Below Lb wr w5 := hD.trans (hk5.below (B := Lb) (show Lb ≤ wr.heap.size by omega) (fun i e => by omega))
                      exact ⟨rfl, a5, c5, hrd5, hB.below hk6, hD'.trans (hk5.below (show w.heap.size ≤ wr.heap.size from hbrs) (fun i e => by omega))⟩
                  case rest =>
                  obtain ⟨rfl, a5, c5, hrd5, hB5, hb5⟩ := hcut
                  clear hrd hB hbr hcell
                  go_wp2_with fail
                  go_roundw
                  case rel => exact ⟨i + 1, a5, c5, by omega, by go_num, hrd5, hB5, hb5⟩
                  case measure => simp [RowKit.intOf]; omega
                · have hik : i = k := by omega
                  rw [hik, restT_end] at hrd
                  have hM : ¬ (i < 5 ∧ i < n2) := by have := HK.out; omega
                  clear hik hi3
                  go_upto_region 26 with fail
                  go_cut [116] (fun s116 wx => s116 = .bool false ∧ wr = wx)
                  case first =>
                    by_cases hn : i < n2
                    all_goals
                      try have hi5 : ¬ i < 5 := by omega
                      clear hM hlt6
                      go_wp2_with fail
                      go_meet
                      exact ⟨by first | rfl | (simp; omega), rfl⟩
                  case rest =>
                  obtain ⟨rfl, rfl⟩ := hcut
                  clear hM hlt6
                  go_wp2_with fail
                  refine (rend_at hrd).mono ?_
                  rintro e w6 ⟨rfl, hw⟩
                  obtain rfl := hw.symm
                  clear hw
                  go_wp2_with fail
                  have hcall := rint_any hrd
                  rw [show rdInt [] 0 = (0, [], 1) from rfl] at hcall
                  refine hcall.mono ?_
                  clear hcall
                  rintro e w6 ⟨a6, c6, rfl, hrd6, hk6, _⟩
                  have hrbl := hrd.lt
                  have hB6 := hB.below (hk6.below (B := Lb) (by omega) (fun i e => by omega))
                  have hb6 : Below w.heap.size w w6 := hbr.trans (hk6.below hbrs (fun i e => by omega))
                  have hc16 := hrd6.c1
                  have hLb6 : Lb ≤ w6.heap.size := by have := hk6.size; omega
                  clear hrd hB hbr hk6
                  go_wp2_with fail
                  refine (rerr_cell rb 1 _ hc16).mono ?_
                  rintro e w7 ⟨rfl, hw⟩
                  obtain rfl := hw.symm
                  clear hw hc16 hrd6
                  have hSc := hB6.hc
                  have hM0 : 0 ≤ (cut.tmod ((S.length : Int) + 1) + (S.length : Int) + 1) % ((S.length : Int) + 1) := Int.emod_nonneg _ (by omega)
                  have hM1 : (cut.tmod ((S.length : Int) + 1) + (S.length : Int) + 1) % ((S.length : Int) + 1) < (S.length : Int) + 1 := Int.emod_lt_of_pos _ (by omega)
                  have hM2 := rem_any cut ((S.length : Int) + 1) (by omega)
                  go_upto_region 33 with fail
                  have hr4 : (min (n4 : Int) 60).toNat ≤ n4 ∧ (min (n4 : Int) 60).toNat ≤ 60 := by omega
                  generalize (min (n4 : Int) 60).toNat = r4 at hr4 ⊢
                  go_wp2_with fail
                  have hct : ((cut.tmod ((S.length : Int) + 1) + (S.length : Int) + 1) % ((S.length : Int) + 1)).toNat ≤ S.length := by omega
                  clear hM0 hM1 hM2
                  generalize ((cut.tmod ((S.length : Int) + 1) + (S.length : Int) + 1) % ((S.length : Int) + 1)).toNat = ct at hct ⊢
                  have hR6 := (HR0.out.1.below hb6).head r4
                  have hRl : (Rw.take r4).length = r4 := by rw [List.length_take, HR0.out.2]; omega
                  have hS6 := hB6.any.head ct
                  have hSl6 : (S.take ct).length = ct := by rw [List.length_take]; omega
                  have hb6s := hb6.size
                  obtain ⟨lb, hlb⟩ : ∃ lb, w6.heap.size = lb := ⟨_, rfl⟩
                  have HB : Hid (∀ q, q < 2 → ∃ (ca : Option Addr) (cc : Nat) (C : List UInt8), (w6.alloc (.cells #[.slice a4 r4 c4, .slice ba ct bc] 33)).cell? ⟨lb, q, none⟩ = some (.slice ca C.length cc) ∧ BAny (w6.alloc (.cells #[.slice a4 r4 c4, .slice ba ct bc] 33)) lb ca cc C ∧ C.length ≤ 400 ∧ cc ≤ 9223372036854775807) := by
                    intro q hq
                    rcases (show q = 0 ∨ q = 1 by omega) with rfl | rfl
                    · refine ⟨a4, c4, Rw.take r4, by rw [hRl, ← hlb]; simp, ?_, by omega, hc4⟩
                      have h9 := hR6.below (((Below.refl _ w6).alloc (Nat.le_refl _) (.cells #[.slice a4 r4 c4, .slice ba ct bc] 33)).mono (by omega))
                      exact ⟨h9.hc, by
                        rcases h9.at_ with h0 | ⟨b, o, e, hl, hr⟩
                        · exact Or.inl h0
                        · exact Or.inr ⟨b, o, e, by omega, hr⟩⟩
                    · refine ⟨ba, bc, S.take ct, by rw [hSl6, ← hlb]; simp, ?_, by omega, hbcm⟩
                      have h9 := hS6.below (((Below.refl _ w6).alloc (Nat.le_refl _) (.cells #[.slice a4 r4 c4, .slice ba ct bc] 33)).mono (by omega))
                      exact ⟨h9.hc, by
                        rcases h9.at_ with h0 | ⟨b, o, e, hl, hr⟩
                        · exact Or.inl h0
                        · exact Or.inr ⟨b, o, e, by omega, hr⟩⟩
                  have hbA : Below w.heap.size w (w6.alloc (.cells #[.slice a4 r4 c4, .slice ba ct bc] 33)) := hb6.alloc hb6s _
                  have hszA : lb + 1 ≤ (w6.alloc (.cells #[.slice a4 r4 c4, .slice ba ct bc] 33)).heap.size := by simp; omega
                  rw [hlb] at hb6s hLb6 ⊢
                  clear hR6 hRl hS6 hSl6 hB6 hb6 hlb hn4 hr4 hct hSc
                  generalize w6.alloc (.cells #[.slice a4 r4 c4, .slice ba ct bc] 33) = wA at HB hbA hszA ⊢
                  go_loopw [168] (fun s168 wr => ∃ (p : Nat), p ≤ 2 ∧ s168 = .int .i64 p ∧ Below (lb + 1) wA wr) (fun s168 _ => 2 - (RowKit.intOf s168).toNat)
                  case atStart => exact ⟨0, by omega, rfl, Below.refl _ _⟩
                  case round => as_aux_lemma =>
                    obtain ⟨p, hp, rfl, hbw⟩ := hrel
                    have hbwS := hbw.size
                    by_cases hp2 : p < 2
                    · obtain ⟨ca, cc, C, hcell0, hBA0, hCl, hccm⟩ := HB.out p hp2
                      have hcell := (hbw.cell (p := ⟨lb, p, none⟩) (show lb < lb + 1 by omega)).trans hcell0
                      have hBA := hBA0.below (hbw.mono (by omega))
                      have hbr' : Below w.heap.size w wr := hbA.trans (hbw.mono (by omega))
                      clear hcell0 hBA0
                      go_upto_region 36 with fail
                      go_wp2_with fail
                      refine (newreader_any hBA (by omega)).mono ?_
                      rintro e w8 ⟨rb2, ra2, rc2, rfl, hrb2, hrd8, hb8⟩
                      have hBA8 := hBA.below (hb8.mono (by omega))
                      have hb8' : Below w.heap.size w w8 := hbr'.trans (hb8.mono hbr'.size)
                      have hb8A : Below (lb + 1) wA w8 := hbw.trans (hb8.mono (by omega))
                      have hcc := hBA8.hc
                      have hs8A := hb8A.size
                      clear hBA hbr' hb8 hcell
                      go_wp2_with fail
                      go_loopw [23, 24, 25] (fun s23 s24 s25 wr => ∃ (i at_ : Nat) (bad : Bool) (ra : Option Addr) (rc : Nat), i ≤ 20 ∧ s25 = .int .i64 i ∧ s23 = .int .i64 at_ ∧ s24 = .bool bad ∧ at_ ≤ C.length ∧ RdAt wr rb2 (if bad then [] else C.drop at_) ra rc (if bad then 1 else 0) ∧ Keeps (fun i => i = rb2) w8 wr) (fun _ _ s25 _ => 20 - (RowKit.intOf s25).toNat)
                      case atStart => exact ⟨0, 0, false, ra2, rc2, by omega, rfl, rfl, rfl, by omega, by simpa using hrd8, Keeps.refl _ _⟩
                      case round => as_aux_lemma =>
                        obtain ⟨i, at_, bad, ra, rc, hi, rfl, rfl, rfl, hat, hrd, hkk⟩ := hrel
                        clear hrd8
                        have hkb : Below (lb + 1) w8 wr := hkk.below (by omega) (fun i e => by omega)
                        have hBAr := hBA8.below (hkb.mono (by omega))
                        have hbr : Below w.heap.size w wr := hb8'.trans (hkb.mono (by omega))
                        by_cases hlt7 : i < 20 ∧ i < n5
                        · obtain ⟨hi20, hin5⟩ := hlt7
                          obtain ⟨kb, ko, rfl, hkbl, hkc⟩ := (HK0.out.below hbr).cell i hin5
                          have hdl : (C.drop at_).length = C.length - at_ := by rw [List.length_drop]
                          have hget := getint_b (hBAr.from_ at_ hat) (by omega)
                          rw [hdl] at hget
                          have HG : Hid (Calls Tryd.prog 37 #[.slice (from_ ca cc at_) (C.length - at_) (cc - at_)] wr fun e w' => e = .returned (.tuple #[.int .i64 (getI (C.drop at_)).1, .int .i64 ((getI (C.drop at_)).2 : Int)]) ∧ Below wr.heap.size wr w') := hget
                          clear hdl hget
                          go_upto_region 40 with fail
                          go_cut [26, 27] (fun s26 s27 wx => s26 = .int .i64 (getI (C.drop at_)).1 ∧ s27 = .int .i64 ((getI (C.drop at_)).2 : Int) ∧ Below wr.heap.size wr wx)
                          case first =>
                            by_cases hca : cc = at_
                            · have h9 := HG.out
                              rw [show from_ ca cc at_ = ca from by unfold from_; rw [if_pos hca], show cc - at_ = 0 by omega, show C.length - at_ = 0 by omega] at h9
                              have HG2 : Hid (Calls Tryd.prog 37 _ _ _) := h9
                              clear h9 HG
                              subst hca
                              go_wp2_with fail
                              refine HG2.out.mono ?_
                              rintro e w9 ⟨rfl, hb9⟩
                              go_wp2_with fail
                              go_meet
                              exact ⟨rfl, rfl, hb9⟩
                            · have h9 := HG.out
                              rw [show from_ ca cc at_ = ca.map (fun x => x.add at_) from by unfold from_; rw [if_neg hca]] at h9
                              have HG2 : Hid (Calls Tryd.prog 37 _ _ _) := h9
                              clear h9 HG
                              go_wp2_with fail
                              refine HG2.out.mono ?_
                              rintro e w9 ⟨rfl, hb9⟩
                              go_wp2_with fail
                              go_meet
                              exact ⟨rfl, rfl, hb9⟩
                          case rest =>
                          obtain ⟨rfl, rfl, hb9⟩ := hcut
                          clear HG
                          have hrd9 := hrd.below hb9
                          have hkc9 := (hb9.cell (p := ⟨kb, ko + i, none⟩) (World.block_lt_of_cell? _ _ hkc)).trans hkc
                          have hk9 : Keeps (fun i => i = rb2) w8 wc := hkk.trans (Keeps.of_below hb9)
                          have hBA9 := hBAr.below (hb9.mono (by have := hkb.size; omega))
                          have HG0 : Hid ((getI (C.drop at_)).2 = 0 → cutS (C.drop at_) = none) := fun h => getI_none h
                          have HG1 : Hid ((getI (C.drop at_)).2 ≠ 0 → cutS (C.drop at_) = some ((getI (C.drop at_)).1, (C.drop at_).drop (getI (C.drop at_)).2) ∧ (getI (C.drop at_)).2 ≤ (C.drop at_).length) := fun h => getI_some h
                          clear hrd hkc hBAr hb9 hkk hkb hbr
                          have HGB : Hid (-9223372036854775808 ≤ (getI (C.drop at_)).1 ∧ (getI (C.drop at_)).1 ≤ 9223372036854775807) := getI_bound _
                          generalize (getI (C.drop at_)).1 = gn at HG0 HG1 HGB
                          generalize (getI (C.drop at_)).2 = gk at HG0 HG1
                          generalize K.getD i false = kv at hkc9
                          cases bad with
                          | true => as_aux_lemma =>
                            have hrdX : RdAt wc rb2 [] ra rc 1 := hrd9
                            clear hrd9
                            have hrd9 := hrdX
                            clear hrdX
                            cases kv with
                            | false => as_aux_lemma =>
                              go_wp2_with fail
                              refine (rint_of hrd9 (by rfl)).mono ?_
                              rintro e wE ⟨aE, cE, rfl, hrdE, hkE⟩
                              have hc1E := hrdE.c1
                              have hkE' : Keeps (fun i => i = rb2) w8 wE := hk9.trans hkE
                              clear hrd9 hkE hk9 hkc9
                              go_wp2_with (go_at_call 34; refine (rerr_cell rb2 1 _ hc1E).mono ?_; rintro e wF ⟨rfl, hw⟩; obtain rfl := hw.symm; clear hw)
                              go_roundw
                              case rel => exact ⟨i + 1, at_, true, aE, cE, by omega, by go_num, by first | rfl | go_num, rfl, by omega, by simpa using hrdE, hkE'⟩
                              case measure => simp [RowKit.intOf]; omega
                            | true => as_aux_lemma =>
                              go_wp2_with fail
                              refine (rtext_fail hrd9 (by rfl)).mono ?_
                              rintro e wE ⟨aE, cE, rfl, hrdE, hkE⟩
                              have hc1E := hrdE.c1
                              have hkE' : Keeps (fun i => i = rb2) w8 wE := hk9.trans hkE
                              have hkcE := (hkE.cell (p := ⟨kb, ko + i, none⟩) (World.block_lt_of_cell? _ _ hkc9) (by show ¬ (kb = rb2); omega)).trans hkc9
                              clear hrd9 hkE hk9 hkc9
                              go_wp2_with (go_at_call 34; refine (rerr_cell rb2 1 _ hc1E).mono ?_; rintro e wF ⟨rfl, hw⟩; obtain rfl := hw.symm; clear hw)
                              go_roundw
                              case rel => exact ⟨i + 1, at_, true, aE, cE, by omega, by go_num, by first | rfl | go_num, rfl, by omega, by simpa using hrdE, hkE'⟩
                              case measure => simp [RowKit.intOf]; omega
                          | false => as_aux_lemma =>
                            have hrdX : RdAt wc rb2 (C.drop at_) ra rc 0 := hrd9
                            clear hrd9
                            have hrd9 := hrdX
                            clear hrdX
                            by_cases hk0 : gk = 0
                            · subst hk0
                              have hcN := HG0.out rfl
                              have hrI : rdInt (C.drop at_) 0 = (0, [], 1) := by unfold rdInt; rw [if_pos rfl, hcN]
                              have HRI : Hid (rdInt (C.drop at_) 0 = (0, [], 1)) := hrI
                              have HRT : Hid (rdText (C.drop at_) 0 10 = ([], [], 1)) := by show _ = _; unfold rdText; rw [hrI]; rfl
                              clear hcN hrI HG0 HG1
                              cases kv with
                              | false => as_aux_lemma =>
                                go_wp2_with fail
                                refine (rint_of hrd9 HRI.out).mono ?_
                                rintro e wE ⟨aE, cE, rfl, hrdE, hkE⟩
                                have hc1E := hrdE.c1
                                have hkE' : Keeps (fun i => i = rb2) w8 wE := hk9.trans hkE
                                clear hrd9 hkE hk9 hkc9
                                go_wp2_with (go_at_call 34; refine (rerr_cell rb2 1 _ hc1E).mono ?_; rintro e wF ⟨rfl, hw⟩; obtain rfl := hw.symm; clear hw)
                                go_roundw
                                case rel => exact ⟨i + 1, at_, true, aE, cE, by omega, by go_num, by first | rfl | go_num, rfl, by omega, by simpa using hrdE, hkE'⟩
                                case measure => simp [RowKit.intOf]; omega
                              | true => as_aux_lemma =>
                                go_wp2_with fail
                                refine (rtext_fail hrd9 HRT.out).mono ?_
                                rintro e wE ⟨aE, cE, rfl, hrdE, hkE⟩
                                have hc1E := hrdE.c1
                                have hkE' : Keeps (fun i => i = rb2) w8 wE := hk9.trans hkE
                                have hkcE := (hkE.cell (p := ⟨kb, ko + i, none⟩) (World.block_lt_of_cell? _ _ hkc9) (by show ¬ (kb = rb2); omega)).trans hkc9
                                clear hrd9 hkE hk9 hkc9
                                go_wp2_with (go_at_call 34; refine (rerr_cell rb2 1 _ hc1E).mono ?_; rintro e wF ⟨rfl, hw⟩; obtain rfl := hw.symm; clear hw)
                                go_roundw
                                case rel => exact ⟨i + 1, at_, true, aE, cE, by omega, by go_num, by first | rfl | go_num, rfl, by omega, by simpa using hrdE, hkE'⟩
                                case measure => simp [RowKit.intOf]; omega
                            · have hk1 : ((gk : Int) == 0) = false := by simp; omega
                              obtain ⟨hcS, hgl⟩ := HG1.out hk0
                              have hrI : rdInt (C.drop at_) 0 = (gn, (C.drop at_).drop gk, 0) := by unfold rdInt; rw [if_pos rfl, hcS]
                              have HRI : Hid (rdInt (C.drop at_) 0 = (gn, (C.drop at_).drop gk, 0)) := hrI
                              rw [List.length_drop] at hgl
                              have HDD : Hid ((C.drop at_).drop gk = C.drop (at_ + gk)) := by show _ = _; rw [List.drop_drop]
                              have hgnb : -9223372036854775808 ≤ gn ∧ gn ≤ 9223372036854775807 := by
                                have h9 := HGB.out
                                exact h9
                              clear hcS hrI HG0 HG1 hk0
                              cases kv with
                              | false => as_aux_lemma =>
                                go_wp2_with fail
                                refine (rint_of hrd9 HRI.out).mono ?_
                                rintro e wE ⟨aE, cE, rfl, hrdE, hkE⟩
                                have hc1E := hrdE.c1
                                have hkE' : Keeps (fun i => i = rb2) w8 wE := hk9.trans hkE
                                clear hrd9 hkE hk9 hkc9
                                go_wp2_with (go_at_call 34; refine (rerr_cell rb2 0 _ hc1E).mono ?_; rintro e wF ⟨rfl, hw⟩; obtain rfl := hw.symm; clear hw)
                                go_roundw
                                case rel => exact ⟨i + 1, at_ + gk, false, aE, cE, by omega, by go_num, by first | rfl | go_num, rfl, by omega, by rw [← HDD.out]; simpa using hrdE, hkE'⟩
                                case measure => simp [RowKit.intOf]; omega
                              | true => as_aux_lemma =>
                                have hdl : ((C.drop at_).drop gk).length = C.length - at_ - gk := by rw [List.length_drop, List.length_drop]
                                by_cases hbd : gn < 0 ∨ 10 < gn ∨ ((C.length - at_ - gk : Nat) : Int) < gn
                                · have HRT : Hid (rdText (C.drop at_) 0 10 = ([], [], 1)) := by
                                    show _ = _
                                    unfold rdText
                                    rw [HRI.out]
                                    simp only [if_true]
                                    rw [if_pos (by rw [hdl]; exact hbd)]
                                  clear hdl HRI
                                  rcases (show gn < 0 ∨ (¬ gn < 0 ∧ 10 < gn) ∨ (¬ gn < 0 ∧ ¬ 10 < gn ∧ (C.length : Int) - (at_ : Int) - (gk : Int) < gn) by omega) with h1 | ⟨h1, h2⟩ | ⟨h1, h2, h3⟩
                                  all_goals
                                    clear hbd
                                    go_wp2_with fail
                                    refine (rtext_fail hrd9 HRT.out).mono ?_
                                    rintro e wE ⟨aE, cE, rfl, hrdE, hkE⟩
                                    have hc1E := hrdE.c1
                                    have hkE' : Keeps (fun i => i = rb2) w8 wE := hk9.trans hkE
                                    have hkcE := (hkE.cell (p := ⟨kb, ko + i, none⟩) (World.block_lt_of_cell? _ _ hkc9) (by show ¬ (kb = rb2); omega)).trans hkc9
                                    clear hrd9 hkE hk9 hkc9
                                    go_wp2_with (go_at_call 34; refine (rerr_cell rb2 1 _ hc1E).mono ?_; rintro e wF ⟨rfl, hw⟩; obtain rfl := hw.symm; clear hw)
                                    go_roundw
                                    case rel => exact ⟨i + 1, at_, true, aE, cE, by omega, by go_num, by first | rfl | go_num, rfl, by omega, by simpa using hrdE, hkE'⟩
                                    case measure => simp [RowKit.intOf]; omega
                                · obtain ⟨q, rfl⟩ : ∃ q : Nat, gn = (q : Int) := ⟨gn.toNat, by omega⟩
                                  have hq10 : q ≤ 10 := by omega
                                  have hqr : q ≤ C.length - at_ - gk := by omega
                                  have HRT : Hid (rdText (C.drop at_) 0 10 = ((C.drop (at_ + gk)).take q, (C.drop (at_ + gk)).drop q, 0)) := by
                                    show _ = _
                                    unfold rdText
                                    rw [HRI.out]
                                    simp only [if_true]
                                    rw [if_neg (by rw [hdl]; omega), HDD.out]
                                    simp
                                  have hCB := (hBA9.from_ (at_ + gk) (by omega)).head q
                                  have hCl2 : ((C.drop (at_ + gk)).take q).length = q := by rw [List.length_take, List.length_drop]; omega
                                  have hcv := hCB.conv
                                  rw [hCl2] at hcv
                                  have HDE : Hid ((C.drop (at_ + gk)).drop q = C.drop (at_ + gk + q)) := by show _ = _; rw [List.drop_drop]
                                  clear hbd hdl HRI hCB hCl2
                                  have hq0 : ¬ ((q : Int) < 0) := by omega
                                  have hq1 : ¬ (10 < (q : Int)) := by omega
                                  have hq2 : ¬ ((C.length : Int) - (at_ : Int) - (gk : Int) < (q : Int)) := by omega
                                  go_upto_region 46 with fail
                                  by_cases hca : cc = at_ + gk
                                  · rw [show from_ ca cc (at_ + gk) = ca from by unfold from_; rw [if_pos hca], show cc - (at_ + gk) = 0 by omega] at hcv
                                    subst hca
                                    go_wp2_with fail
                                    refine (rtext_good hrd9 HRT.out).mono ?_
                                    rintro e wE ⟨aE, cE, rfl, hrdE, hkE⟩
                                    have hc1E := hrdE.c1
                                    have hkcE := (hkE.cell (p := ⟨kb, ko + i, none⟩) (World.block_lt_of_cell? _ _ hkc9) (by show ¬ (kb = rb2); omega)).trans hkc9
                                    have hkE' : Keeps (fun i => i = rb2) w8 wE := hk9.trans hkE
                                    clear hrd9 hkE hk9 hkc9
                                    go_wp2_with (go_at_call 34; refine (rerr_cell rb2 0 _ hc1E).mono ?_; rintro e wF ⟨rfl, hw⟩; obtain rfl := hw.symm; clear hw)
                                    go_roundw
                                    case rel => exact ⟨i + 1, at_ + gk + q, false, aE, cE, by omega, by go_num, by first | rfl | go_num, rfl, by omega, by rw [← HDE.out]; simpa using hrdE, hkE'⟩
                                    case measure => simp [RowKit.intOf]; omega
                                  · rw [show from_ ca cc (at_ + gk) = ca.map (fun x => x.add (at_ + gk)) from by unfold from_; rw [if_neg hca]] at hcv
                                    go_wp2_with fail
                                    refine (rtext_good hrd9 HRT.out).mono ?_
                                    rintro e wE ⟨aE, cE, rfl, hrdE, hkE⟩
                                    have hc1E := hrdE.c1
                                    have hkcE := (hkE.cell (p := ⟨kb, ko + i, none⟩) (World.block_lt_of_cell? _ _ hkc9) (by show ¬ (kb = rb2); omega)).trans hkc9
                                    have hkE' : Keeps (fun i => i = rb2) w8 wE := hk9.trans hkE
                                    clear hrd9 hkE hk9 hkc9
                                    go_wp2_with (go_at_call 34; refine (rerr_cell rb2 0 _ hc1E).mono ?_; rintro e wF ⟨rfl, hw⟩; obtain rfl := hw.symm; clear hw)
                                    go_roundw
                                    case rel => exact ⟨i + 1, at_ + gk + q, false, aE, cE, by omega, by go_num, by first | rfl | go_num, rfl, by omega, by rw [← HDE.out]; simpa using hrdE, hkE'⟩
                                    case measure => simp [RowKit.intOf]; omega
                        · have HE : Hid (rdEnd (if bad then [] else C.drop at_) (if bad then 1 else 0) = if (!bad && decide (at_ = C.length)) then 0 else 1) := by
                            show _ = _
                            cases bad with
                            | true => rfl
                            | false => as_aux_lemma =>
                              by_cases hq : at_ = C.length
                              · subst hq; simp [rdEnd]
                              · have : C.drop at_ ≠ [] := by intro h9; have := congrArg List.length h9; simp at this; omega
                                simp [rdEnd, this, hq]
                          have hend := rend_any hrd
                          rw [HE.out] at hend
                          have HN : Hid (Calls Tryd.prog 36 _ _ _) := hend
                          clear hend HE hrd
                          have hbe : Below (lb + 1) wA wr := hb8A.trans hkb
                          clear hkk hkb hBAr hbr
                          have hpp : p + 1 ≤ 2 := by omega
                          rcases (show ¬ i < n5 ∨ (i < n5 ∧ ¬ i < 20) by omega) with hx | ⟨hx, hy⟩
                          all_goals
                            clear hlt7
                            cases bad with
                            | true => as_aux_lemma =>
                              have HN2 : Hid (Calls Tryd.prog 36 #[.pointer (some ⟨rb2, 0, none⟩)] wr fun e w' => e = .returned (.int .i64 1) ∧ w' = wr) := HN.out
                              clear HN
                              go_wp2_with fail
                              refine HN2.out.mono ?_
                              rintro e w9 ⟨rfl, rfl⟩
                              go_wp2_with fail
                              go_roundw
                              case rel => exact ⟨p + 1, hpp, by go_num, hbe⟩
                              case measure => simp [RowKit.intOf]; omega
                            | false => as_aux_lemma =>
                              by_cases hq : at_ = C.length
                              · subst hq
                                have HN2 : Hid (Calls Tryd.prog 36 #[.pointer (some ⟨rb2, 0, none⟩)] wr fun e w' => e = .returned (.int .i64 0) ∧ w' = wr) := by have h8 := HN.out; simp at h8; exact h8
                                clear HN
                                go_wp2_with fail
                                refine HN2.out.mono ?_
                                rintro e w9 ⟨rfl, rfl⟩
                                go_wp2_with fail
                                go_roundw
                                case rel => exact ⟨p + 1, hpp, by go_num, hbe⟩
                                case measure => simp [RowKit.intOf]; omega
                              · have hqi : ¬ ((at_ : Int) = (C.length : Int)) := by omega
                                have HN2 : Hid (Calls Tryd.prog 36 #[.pointer (some ⟨rb2, 0, none⟩)] wr fun e w' => e = .returned (.int .i64 1) ∧ w' = wr) := by have h8 := HN.out; simp [hq] at h8; exact h8
                                clear HN
                                go_wp2_with fail
                                refine HN2.out.mono ?_
                                rintro e w9 ⟨rfl, rfl⟩
                                go_wp2_with fail
                                go_roundw
                                case rel => exact ⟨p + 1, hpp, by go_num, hbe⟩
                                case measure => simp [RowKit.intOf]; omega
                    · go_wp2
                      go_ret
                      exact ⟨rfl, hbA.trans (hbw.mono (by omega))⟩
end Go.Proofs.YtmdjjnjhjojimaaDoor
