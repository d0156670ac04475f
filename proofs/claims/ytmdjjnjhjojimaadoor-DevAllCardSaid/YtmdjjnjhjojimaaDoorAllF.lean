import Derived.Test.YtmdjjnjhjojimaaDoorAllD
import Derived.Deep.QuietTactic
import Derived.BigQuiet
import Derived.Laws.AppendOwnNone
import Derived.Test.YtmdjjnjhjojimaaDoorBegA
namespace Go.Proofs.YtmdjjnjhjojimaaDoor
open Go.RowKit Go.Maps

theorem news_of_range' {w : World} {b o : Nat} {xs : List Value} (h : w.rangeAt b o xs) : ∀ j u, xs[j]? = some u → w.cell? (Addr.add ⟨b, o, none⟩ j) = some u := by
  intro j u hj
  rw [Addr.add_mid]
  exact h j u hj
/-- A row of numbers reads as numbers. -/
theorem row_ints {w : World} {base : Nat} {v : Value} {L : List Int} (h : w.ownsRow base 3 1 v L.length (L.map encZ)) (hf : AllFit L) : ∃ a c, v = .slice a L.length c ∧ IntsAt w w.heap.size a L.length L ∧ (0 < L.length → ∃ g, a = some ⟨g, 0, none⟩) := by
  obtain ⟨hl, ⟨e, h0⟩ | ⟨g, cap, cur, e, hg, hblk, hnc, hcm, hcs, hcur⟩⟩ := h
  · have hL : L = [] := List.eq_nil_of_length_eq_zero h0
    subst hL
    exact ⟨none, 0, e, ⟨rfl, hf, Or.inl rfl⟩, fun x => by simp at x⟩
  · refine ⟨some ⟨g, 0, none⟩, cap, e, ⟨rfl, hf, Or.inr ⟨g, 0, rfl, (Array.getElem?_eq_some_iff.1 hblk).1, ?_⟩⟩, fun _ => ⟨g, rfl⟩⟩
    intro j u hu
    rw [cell_of_row _ _ (0 + j) cur 3 (0, 0) hblk]
    have hu' : (L.map encZ)[j]? = some u := hu
    rw [← hcur, List.getElem?_take] at hu'
    split at hu'
    · simpa using hu'
    · cases hu'
theorem looseL_fit (Lz : Nat → Bool) (n : Nat) (hn : n ≤ 4096) : AllFit (looseL Lz n) := fun x hx => by
  have := (looseL_mem Lz n x).1 hx
  omega
theorem looseL_len (Lz : Nat → Bool) (n : Nat) : (looseL Lz n).length ≤ n := by unfold looseL; rw [List.length_map]; exact looseN_len Lz n
theorem refLoose_ints {w : World} {Bad : Nat → Prop} {r nb sb lb n cn cs cl : Nat} {Now Safe : Nat → List UInt8} {Lz : Nat → Bool} {fuse : Int} {fused : Bool} (h : RefAt w Bad r nb sb lb n cn cs cl Now Safe Lz fuse fused) : Calls Tryd.prog 47 #[.pointer (some ⟨r, 0, none⟩)] w fun e w' => ∃ a c, e = .returned (.slice a (looseL Lz n).length c) ∧ IntsAt w' w'.heap.size a (looseL Lz n).length (looseL Lz n) ∧ Below w.heap.size w w' := by
  refine (refLoose h).mono ?_
  rintro e w' ⟨v, rfl, hrow, hb⟩
  obtain ⟨a, c, rfl, hI, _⟩ := row_ints hrow (looseL_fit Lz n h.n2)
  exact ⟨a, c, rfl, hI, hb⟩
theorem AllFit.getD {L : List Int} (h : AllFit L) (p : Nat) (hp : p < L.length) : -9223372036854775808 ≤ L.getD p 0 ∧ L.getD p 0 ≤ 9223372036854775807 := by
  have := h L[p] (List.getElem_mem hp)
  rw [getD_lt L p 0 hp]; exact this
theorem AllFit.append {L M : List Int} (h : AllFit L) (h' : AllFit M) : AllFit (L ++ M) := fun x hx => by
  rcases List.mem_append.1 hx with e | e
  · exact h x e
  · exact h' x e

theorem loose_ints2 {w : World} {db nb mb n cap : Nat} {B : List UInt8} {k : Nat} {D : DataW Unit} {left : Int} {down : Bool} (h : DevAt w db nb mb n cap B k D left down) (hk : k ≤ 1000000) :
    Calls Tryd.prog 25 #[.pointer (some ⟨db, 0, none⟩)] w fun e w' => ∃ (L : List Int) (la : Option Addr) (lc : Nat), e = .returned (.slice la L.length lc) ∧ IntsAt w' w'.heap.size la L.length L ∧ L.Perm (intKeys D) ∧ L.Pairwise (fun x y => x ≤ y) ∧ Below w.heap.size w w' ∧ ((la = none ∧ lc = 0 ∧ L = []) ∨ (∃ g, la = some ⟨g, 0, none⟩ ∧ 0 < L.length ∧ w'.rangeAt g 0 (L.map encZ))) := by
  refine (loose_row h hk).mono ?_
  rintro e w' ⟨L, h1, h2, h3, h4, h5⟩
  have hn2 := h.n2
  have hfit : AllFit L := fun x hx => by have := h.keys x (h2.subset hx); omega
  rcases h5 with ⟨rfl, rfl⟩ | ⟨g, c, rfl, h6, h7, h8⟩
  · exact ⟨[], none, 0, rfl, ⟨rfl, hfit, Or.inl rfl⟩, h2, h3, h4, Or.inl ⟨rfl, rfl, rfl⟩⟩
  · refine ⟨L, some ⟨g, 0, none⟩, c, rfl, ⟨rfl, hfit, Or.inr ⟨g, 0, rfl, ?_, h8⟩⟩, h2, h3, h4, Or.inr ⟨g, rfl, h7, h8⟩⟩
    have h9 := h8 0 (encZ L[0]) (by simp [List.getElem?_eq_getElem h7])
    exact World.block_lt_of_cell? w' _ h9

set_option maxRecDepth 100000 in
set_option maxHeartbeats 4000000 in
theorem sectors_true {db dn mb cap : Nat} {B : List UInt8} {k : Nat} {D : DataW Unit} {left : Int} {down : Bool} {w : World} {Bad : Nat → Prop} {r nb sb lb n cn cs cl : Nat} {Now Safe : Nat → List UInt8} {Lz : Nat → Bool} {fuse : Int} {fused : Bool} (h : RefAt w Bad r nb sb lb n cn cs cl Now Safe Lz fuse fused) (hd : DevAt w db dn mb n cap B k D left down) (hs : Sim n B D left down Now Safe Lz fuse fused) (hk : k ≤ 1000000)
    (ib io ic : Nat) (I : List Int) (hI : IntsAt w w.heap.size (some ⟨ib, io, none⟩) I.length I) (hIp : 0 < I.length) (hIl : I.length ≤ 100) :
    Calls Tryd.prog 21 #[.pointer (some ⟨db, 0, none⟩), .pointer (some ⟨r, 0, none⟩), .slice (some ⟨ib, io, none⟩) I.length ic] w fun e w' => e = .returned (.bool true) ∧ Below w.heap.size w w' := by
  obtain ⟨i0, hi0, hz0, hz1, hz2⟩ := info_parts info3
  have hn1 := h.n1
  have hn2 := h.n2
  go_enter Tryd.func21, Tryd.ntmps21
  go_wp2_with fail
  refine (loose_ints2 hd hk).mono ?_
  rintro e w1 ⟨L, la, lc, rfl, hL1, hLp, hLs, hb1, hcase⟩
  have hLe := hs.looseEq hd hLp hLs
  have h1 := h.below hb1
  have hd1 := hd.keeps (Keeps.of_below (S := fun _ => False) hb1) (fun e => e) (fun e => e) (fun e => e)
  have hll := looseL_len Lz n
  have hfit := looseL_fit Lz n hn2
  rw [← hLe] at hll hfit
  clear hLp hLs
  go_wp2_with fail
  refine (refLoose_ints h1).mono ?_
  rw [← hLe]
  rintro e w2 ⟨ma, mc, rfl, hM2, hb2⟩
  have hbs1 := hb1.size
  have hbs2 := hb2.size
  have hb02 : Below w.heap.size w w2 := hb1.trans (hb2.mono hbs1)
  have hL2 := hL1.below hb2
  have HH : Hid (RefAt w Bad r nb sb lb n cn cs cl Now Safe Lz fuse fused ∧ DevAt w db dn mb n cap B k D left down ∧ Sim n B D left down Now Safe Lz fuse fused) := ⟨h, hd, hs⟩
  have HI : Hid (IntsAt w w.heap.size (some ⟨ib, io, none⟩) I.length I) := hI
  have HF : Hid (AllFit L) := hfit
  have HLe : Hid (L = looseL Lz n) := hLe
  clear h hd hs h1 hd1 hI hfit hLe hb1 hL1
  go_wp2_with fail
  go_loopw [25] (fun s25 wr => ∃ p : Nat, p ≤ L.length ∧ s25 = .int .i64 p ∧ Below w2.heap.size w2 wr) (fun s25 _ => L.length - (RowKit.intOf s25).toNat)
  case atStart => exact ⟨0, Nat.zero_le _, rfl, Below.refl _ _⟩
  case round => as_aux_lemma =>
    obtain ⟨p, hp, rfl, hbp⟩ := hrel
    by_cases hlt : p < L.length
    · obtain ⟨b1, o1, rfl, hc1⟩ := (hL2.below (hbp.mono hbs2)).cell p hlt
      obtain ⟨b2, o2, rfl, hc2⟩ := (hM2.below hbp).cell p hlt
      generalize L.getD p 0 = x at hc1 hc2
      go_wp2_with fail
      go_quiet (fail)
      go_wp2_with fail
      go_roundw
      case rel => exact ⟨p + 1, by omega, by go_num, below_drewN hbp _⟩
      case measure => simp [RowKit.intOf]; omega
    · have hbr : Below w.heap.size w wr := hb02.trans (hbp.mono hb02.size)
      have hbrs := hbr.size
      have hIr := HI.out.below hbr
      have hIg : wr.rangeAt ib io (I.map encZ) := by
        rcases hIr.at_ with h0 | ⟨b, o, e, _, hr⟩
        · omega
        · cases e; exact hr
      have hIL : ib < wr.heap.size := by
        rcases hIr.at_ with h0 | ⟨b, o, e, hb, hr⟩
        · omega
        · cases e; omega
      have HIF : Hid (AllFit I) := hIr.fit
      have HIG : Hid (wr.rangeAt ib io (I.map encZ)) := hIg
      clear hIr hIg
      rcases hcase with ⟨rfl, rfl, rfl⟩ | ⟨lg, rfl, hLpos, hLr⟩
      · go_wp2_with (first
          | (at_builtin; refine wpList_append_own _ rfl _ _ 43 rfl wr.heap.size 3 i0 (.int .i64 0) 1 8 Tryd.underlying43 hi0 hz0 hz1 hz2 rfl (by decide) _ 0 [] rfl (World.ownsRow_nil _ _ _ _) ⟨ib, io, none⟩ I.length ic (I.map encZ) rfl ?q1 ?q2 ?q3 ?q4 ?q5 ?q6 ?_))
        case q1 => rw [List.length_map]; omega
        case q2 => exact news_of_range' HIG.out
        case q3 => exact zrow_one I
        case q4 => unfold maxLen; omega
        case q5 => omega
        case q6 => exact Nat.le_refl _
        intro v1 wc hown1 hg1 hnil1
        have hbc : Below wr.heap.size wr wc := (Below.refl _ wr).grown hg1 (Nat.le_refl _) (fun k e => by cases e)
        have hrow0 : wc.ownsRow wr.heap.size 3 1 v1 I.length (I.map encZ) := by
          first | exact hown1 | (rw [Nat.zero_add, List.nil_append] at hown1; exact hown1)
        have hrowJ := hrow0
        have hfitJ := HIF.out
        have hJl : I.length ≤ 100 := hIl
        clear hown1 hg1 hnil1
        have hbJ : Below w.heap.size w wc := hbr.trans (hbc.mono hbrs)
        obtain ⟨ja, jc, rfl, hJ, _⟩ := row_ints hrowJ hfitJ
        have HJF : Hid (AllFit I) := hfitJ
        clear hrowJ hfitJ
        go_wp2_with (at_builtin; refine wpList_append_own_none rfl _ _ 43 rfl wr.heap.size 3 i0 1 Tryd.underlying43 hi0 _ I.length (I.map encZ) rfl hrow0 rfl ?_)
        go_loopw [43] (fun s43 wr => ∃ q : Nat, q ≤ I.length ∧ s43 = .int .i64 q ∧ Below wc.heap.size wc wr) (fun s43 _ => I.length - (RowKit.intOf s43).toNat)
        case atStart => exact ⟨0, Nat.zero_le _, rfl, Below.refl _ _⟩
        case round => as_aux_lemma =>
          obtain ⟨q, hq, rfl, hbq⟩ := hrel
          have hbQ : Below w.heap.size w wr := hbJ.trans (hbq.mono hbJ.size)
          by_cases hqt : q < I.length
          · obtain ⟨b1, o1, rfl, hcq⟩ := (hJ.below hbq).cell q hqt
            have hxb := HJF.out.getD q hqt
            have hrq := HH.out.1.below hbQ
            have hdq := HH.out.2.1.keeps (Keeps.of_below (S := fun _ => False) hbQ) (fun e => e) (fun e => e) (fun e => e)
            have c0 := hrq.c0
            generalize I.getD q 0 = x at hcq hxb
            by_cases hx : x < 0 ∨ (n : Int) ≤ x
            · go_wp2_with fail
              refine (read_no hdq x hx).mono ?_
              rintro e w3 ⟨rfl, hw3⟩
              subst hw3
              clear hrq hdq
              rcases hx with hx | hx
              · go_wp2_with fail
                go_roundw
                case rel => exact ⟨q + 1, by omega, by go_num, hbq⟩
                case measure => simp [RowKit.intOf]; omega
              · go_wp2_with fail
                go_roundw
                case rel => exact ⟨q + 1, by omega, by go_num, hbq⟩
                case measure => simp [RowKit.intOf]; omega
            · obtain ⟨xi, rfl⟩ : ∃ xi : Nat, x = (xi : Int) := ⟨x.toNat, by omega⟩
              have hxi : xi < n := by omega
              clear hx
              go_wp2_with fail
              refine (read_at hdq xi hxi).mono ?_
              rintro e w3 ⟨gx, cx, rfl, x1, x2, hrx, hb3⟩
              have hb3q : Below wc.heap.size wc w3 := hbq.trans (hb3.mono hbq.size)
              have hr3 := hrq.below hb3
              have c03 := hr3.c0
              obtain ⟨bN, cN, eN, hlN, _, hrN⟩ := hr3.now.at_ xi hxi
              rw [HH.out.2.2.now xi hxi] at hrN
              have hsl := sec_length hdq.len hxi
              generalize sec B xi = S at hrx hrN hsl
              have hcx : ∀ W, Below w3.heap.size w3 W → (convert 33 9 (.slice (some ⟨gx, 0, none⟩) 64 cx)).run Tryd.prog W = .ok (.string ⟨S.toArray⟩) W := fun W hW => conv_bytes gx 0 64 cx S W hsl (fun j v hv => (hW.cell (p := ⟨gx, 0 + j, none⟩) x2).trans (hrx j v hv))
              have hcn : ∀ W, Below w3.heap.size w3 W → (convert 33 9 (.slice (some ⟨bN, 0, none⟩) 64 cN)).run Tryd.prog W = .ok (.string ⟨S.toArray⟩) W := fun W hW => conv_bytes bN 0 64 cN S W hsl (fun j v hv => (hW.cell (p := ⟨bN, 0 + j, none⟩) hlN).trans (hrN j v hv))
              clear hrq hdq hr3 hrx hrN c0 hb3
              go_wp2_with fail
              refine wp_region_noPanic ?_
              go_region_held (fun w' => Below w3.heap.size w3 w' ∧ w'.cell? ⟨r, 0, none⟩ = some (.slice (some ⟨nb, 0, none⟩) n cn) ∧ w'.cell? ⟨nb, xi, none⟩ = some (.slice (some ⟨bN, 0, none⟩) 64 cN)) (first | assumption | exact ⟨below_dr (Below.refl _ _), c03, eN⟩) (fail)
              refine NoPanic.normal ?_
              clear hcx hcn
              go_wp2_with fail
              go_roundw
              case rel => exact ⟨q + 1, by omega, by go_num, below_dr hb3q⟩
              case measure => simp [RowKit.intOf]; omega
          · go_wp2_with fail
            go_ret
            exact ⟨rfl, hbQ⟩
      · go_wp2_with (first
          | (at_builtin; refine wpList_append_own _ rfl _ _ 43 rfl wr.heap.size 3 i0 (.int .i64 0) 1 8 Tryd.underlying43 hi0 hz0 hz1 hz2 rfl (by decide) _ 0 [] rfl (World.ownsRow_nil _ _ _ _) ⟨ib, io, none⟩ I.length ic (I.map encZ) rfl ?q1 ?q2 ?q3 ?q4 ?q5 ?q6 ?_))
        case q1 => rw [List.length_map]; omega
        case q2 => exact news_of_range' HIG.out
        case q3 => exact zrow_one I
        case q4 => unfold maxLen; omega
        case q5 => omega
        case q6 => exact Nat.le_refl _
        intro v1 wa hown1 hg1 hnil1
        have hba : Below wr.heap.size wr wa := (Below.refl _ wr).grown hg1 (Nat.le_refl _) (fun k e => by cases e)
        have hbas := hba.size
        have hrow0 : wa.ownsRow wr.heap.size 3 1 v1 I.length (I.map encZ) := by
          first | exact hown1 | (rw [Nat.zero_add, List.nil_append] at hown1; exact hown1)
        have hLa : wa.rangeAt lg 0 (L.map encZ) := by
          intro j u hu
          have hj := hLr j u hu
          have hl := World.block_lt_of_cell? _ _ hj
          have h1 := (hb2.cell (p := ⟨lg, 0 + j, none⟩) hl).trans hj
          have h2 := (hbp.cell (p := ⟨lg, 0 + j, none⟩) (Nat.lt_of_lt_of_le hl hbs2)).trans h1
          exact (hba.cell (p := ⟨lg, 0 + j, none⟩) (World.block_lt_of_cell? _ _ h2)).trans h2
        have HLA : Hid (wa.rangeAt lg 0 (L.map encZ)) := hLa
        have hown0 : v1.ownBlock = none ∨ ∃ g, v1.ownBlock = some g ∧ wr.heap.size ≤ g := by
          obtain ⟨_, ⟨e, _⟩ | ⟨g, cap, cur, e, hg, _⟩⟩ := hrow0
          · exact Or.inl (by rw [e]; rfl)
          · exact Or.inr ⟨g, by rw [e]; rfl, hg⟩
        clear hown1 hg1 hnil1 hLa
        go_wp2_with (first
          | (at_builtin; refine wpList_append_own _ rfl _ _ 43 rfl wr.heap.size 3 i0 (.int .i64 0) 1 8 Tryd.underlying43 hi0 hz0 hz1 hz2 rfl (by decide) _ I.length (I.map encZ) rfl hrow0 ⟨lg, 0, none⟩ L.length lc (L.map encZ) rfl ?q1 ?q2 ?q3 ?q4 ?q5 ?q6 ?_))
        case q1 => rw [List.length_map]; omega
        case q2 => exact news_of_range' HLA.out
        case q3 => exact zrow_one L
        case q4 => unfold maxLen; omega
        case q5 => omega
        case q6 => exact hbas
        intro v2 wc hown2 hg2 hnil2
        have hbc : Below wr.heap.size wr wc := hba.grown hg2 hbas (fun k e => by
          rcases hown0 with e1 | ⟨g, e1, hg⟩
          · rw [e1] at e; cases e
          · rw [e1] at e; cases e; exact hg)
        have hrowJ : wc.ownsRow wr.heap.size 3 1 v2 (I ++ L).length ((I ++ L).map encZ) := by
          rw [List.length_append, List.map_append]; exact hown2
        have hfitJ := HIF.out.append HF.out
        have hJl : (I ++ L).length ≤ 5000 := by rw [List.length_append]; omega
        clear hown2 hg2 hnil2 hown0 hba hrow0
        obtain ⟨J, hJe⟩ : ∃ J : List Int, I ++ L = J := ⟨_, rfl⟩
        rw [hJe] at hrowJ hfitJ hJl
        have hbJ : Below w.heap.size w wc := hbr.trans (hbc.mono hbrs)
        obtain ⟨ja, jc, rfl, hJ, _⟩ := row_ints hrowJ hfitJ
        have HJF : Hid (AllFit J) := hfitJ
        clear hrowJ hfitJ
        go_wp2_with fail
        go_loopw [43] (fun s43 wr => ∃ q : Nat, q ≤ J.length ∧ s43 = .int .i64 q ∧ Below wc.heap.size wc wr) (fun s43 _ => J.length - (RowKit.intOf s43).toNat)
        case atStart => exact ⟨0, Nat.zero_le _, rfl, Below.refl _ _⟩
        case round => as_aux_lemma =>
          obtain ⟨q, hq, rfl, hbq⟩ := hrel
          have hbQ : Below w.heap.size w wr := hbJ.trans (hbq.mono hbJ.size)
          by_cases hqt : q < J.length
          · obtain ⟨b1, o1, rfl, hcq⟩ := (hJ.below hbq).cell q hqt
            have hxb := HJF.out.getD q hqt
            have hrq := HH.out.1.below hbQ
            have hdq := HH.out.2.1.keeps (Keeps.of_below (S := fun _ => False) hbQ) (fun e => e) (fun e => e) (fun e => e)
            have c0 := hrq.c0
            generalize J.getD q 0 = x at hcq hxb
            by_cases hx : x < 0 ∨ (n : Int) ≤ x
            · go_wp2_with fail
              refine (read_no hdq x hx).mono ?_
              rintro e w3 ⟨rfl, hw3⟩
              subst hw3
              clear hrq hdq
              rcases hx with hx | hx
              · go_wp2_with fail
                go_roundw
                case rel => exact ⟨q + 1, by omega, by go_num, hbq⟩
                case measure => simp [RowKit.intOf]; omega
              · go_wp2_with fail
                go_roundw
                case rel => exact ⟨q + 1, by omega, by go_num, hbq⟩
                case measure => simp [RowKit.intOf]; omega
            · obtain ⟨xi, rfl⟩ : ∃ xi : Nat, x = (xi : Int) := ⟨x.toNat, by omega⟩
              have hxi : xi < n := by omega
              clear hx
              go_wp2_with fail
              refine (read_at hdq xi hxi).mono ?_
              rintro e w3 ⟨gx, cx, rfl, x1, x2, hrx, hb3⟩
              have hb3q : Below wc.heap.size wc w3 := hbq.trans (hb3.mono hbq.size)
              have hr3 := hrq.below hb3
              have c03 := hr3.c0
              obtain ⟨bN, cN, eN, hlN, _, hrN⟩ := hr3.now.at_ xi hxi
              rw [HH.out.2.2.now xi hxi] at hrN
              have hsl := sec_length hdq.len hxi
              generalize sec B xi = S at hrx hrN hsl
              have hcx : ∀ W, Below w3.heap.size w3 W → (convert 33 9 (.slice (some ⟨gx, 0, none⟩) 64 cx)).run Tryd.prog W = .ok (.string ⟨S.toArray⟩) W := fun W hW => conv_bytes gx 0 64 cx S W hsl (fun j v hv => (hW.cell (p := ⟨gx, 0 + j, none⟩) x2).trans (hrx j v hv))
              have hcn : ∀ W, Below w3.heap.size w3 W → (convert 33 9 (.slice (some ⟨bN, 0, none⟩) 64 cN)).run Tryd.prog W = .ok (.string ⟨S.toArray⟩) W := fun W hW => conv_bytes bN 0 64 cN S W hsl (fun j v hv => (hW.cell (p := ⟨bN, 0 + j, none⟩) hlN).trans (hrN j v hv))
              clear hrq hdq hr3 hrx hrN c0 hb3
              go_wp2_with fail
              refine wp_region_noPanic ?_
              go_region_held (fun w' => Below w3.heap.size w3 w' ∧ w'.cell? ⟨r, 0, none⟩ = some (.slice (some ⟨nb, 0, none⟩) n cn) ∧ w'.cell? ⟨nb, xi, none⟩ = some (.slice (some ⟨bN, 0, none⟩) 64 cN)) (first | assumption | exact ⟨below_dr (Below.refl _ _), c03, eN⟩) (fail)
              refine NoPanic.normal ?_
              clear hcx hcn
              go_wp2_with fail
              go_roundw
              case rel => exact ⟨q + 1, by omega, by go_num, below_dr hb3q⟩
              case measure => simp [RowKit.intOf]; omega
          · go_wp2_with fail
            go_ret
            exact ⟨rfl, hbQ⟩
end Go.Proofs.YtmdjjnjhjojimaaDoor
