import Derived.Test.YtlmdeafmlommeaaGreatDoorLgU
import Derived.Test.YtlmdeafmlommeaaGreatDoorBgD
namespace Go.Proofs.YtlmdeafmlommeaaGreatDoor
open Go.RowKit Go.Maps

section
variable {base n : Nat} {E : Nat → Prop} {w w0 wr w' : World} {db nb mb cap k lb sb : Nat} {B : List UInt8} {left : Int} {down : Bool} {v : Value} {a : Nat} {RL RV : List (List UInt8)} {x y : Int}
/-- Another device, another log, in new blocks. -/
theorem CutU.renew (h : CutU base n E w w0 wr db nb mb cap k lb sb B left down v a RL RV x y) (hb : Below wr.heap.size wr w') {db' nb' mb' cap' k' lb' sb' n' : Nat} {B' : List UInt8} {left' : Int} {down' : Bool} {a' : Nat} {RL' : List (List UInt8)} {x' y' : Int} (hd : DevAt w' db' nb' mb' n' cap' B' k' (.map []) left' down') (hl : LgAt w' lb' db' n' sb' false 0 0 0 0) (hs : SlAt w' sb' db' false) (hne : sb' ≠ db' ∧ sb' ≠ nb' ∧ sb' ≠ mb') (hnl : lb' ≠ db' ∧ lb' ≠ nb' ∧ lb' ≠ mb' ∧ lb' ≠ sb') (hge : wr.heap.size ≤ db' ∧ wr.heap.size ≤ nb' ∧ wr.heap.size ≤ mb' ∧ wr.heap.size ≤ sb' ∧ wr.heap.size ≤ lb') (hg : LogOn n' B' a' RL' x' y') : CutU base n' E w w0 w' db' nb' mb' cap' k' lb' sb' B' left' down' v a' RL' RV x' y' := by
  have h5 := h.sz
  have h6 := hb.size
  refine ⟨hd, hl, hs, hne, hnl, by omega, hg, ?_, h.bel.trans (hb.mono h5), by omega, fun i hi => ?_⟩
  · refine h.rcs.keep (Keeps.of_below (S := fun _ => False) hb) (fun _ _ e => e.elim) (fun i hi e => ?_)
    rcases e with e | e
    · unfold five at e; omega
    · exact Or.inr e
  · obtain ⟨p1, p2, p3⟩ := h.ext i hi
    exact ⟨fun e => by unfold five at e; omega, by omega, (hb.block i p2).trans p3⟩
end
/-- The first byte of a round's record. -/
def onB (i r : Nat) : UInt8 := UInt8.ofNat (i + r)
/-- The outer loop's. -/
def OnO (bT : Nat) (w wT wr : World) (s10 s11 s13 : Value) (r : Nat) : Prop :=
  ∃ db nb mb cap k lb sb B R, s10 = .pointer (some ⟨db, 0, none⟩) ∧ s11 = .pointer (some ⟨lb, 0, none⟩) ∧ k ≤ 10 ∧ (encR R).length ≤ 620 * r ∧ R.length ≤ 10 * r ∧ CutU w.heap.size 128 (fun i => i = bT) w wT wr db nb mb cap k lb sb B 0 false s13 0 R R 0 0
/-- The inner loop's. -/
def OnI (bT : Nat) (w wT wr : World) (db nb cap lb sb : Nat) (s13 : Value) (r i : Nat) : Prop :=
  ∃ mb k B R, k ≤ 10 ∧ (encR R).length ≤ 620 * r + 62 * i ∧ R.length ≤ 10 * r + i ∧ CutU w.heap.size 128 (fun i => i = bT) w wT wr db nb mb cap k lb sb B 0 false s13 0 R R 0 0
set_option maxRecDepth 100000 in
set_option maxHeartbeats 4000000 in
theorem logOn_true (a1 a2 : Option Addr) (n1 n2 c1 c2 : Nat) (A1 A2 : List Int) (f0 : Int) (w : World) (h1 : IntsAt w w.heap.size a1 n1 A1) (h2 : IntsAt w w.heap.size a2 n2 A2) (hc1 : n1 ≤ c1 ∧ c1 ≤ 9223372036854775807) (hc2 : n2 ≤ c2 ∧ c2 ≤ 9223372036854775807) (ka : Option Addr) (kl kc : Nat) (K : List Bool) (hK : KeepB w w.heap.size ka kl K) (hg : w.cell? ⟨0, 0, none⟩ = some errType) :
    Calls Tryz.prog 10 #[.slice a1 n1 c1, .slice a2 n2 c2, .int .i64 f0, .slice ka kl kc] w fun e w' => e = .returned (.bool true) ∧ Below w.heap.size w w' := by
  have hr2 := rem_any f0 4 (by omega)
  go_enter Tryz.func10, Tryz.ntmps10
  go_wp2_with fail
  refine (begun4_true _ hg).mono ?_
  rintro e w1 ⟨rfl, hb1⟩
  clear hg
  have hs1 := hb1.size
  go_wp2_with fail
  refine (new_at 128 w1 (by omega) (by omega)).mono ?_
  rintro e w2 ⟨db, nb, mb, rfl, l1, l2, l3, hd2, hb2⟩
  have hs2 := hb2.size
  have hbw2 : Below w.heap.size w w2 := hb1.trans (hb2.mono hs1)
  clear hb1 hb2
  go_wp2_with fail
  refine (wmake_seat (base := w.heap.size) hd2 (by omega) (by omega) ⟨by omega, by omega, by omega, by omega⟩).mono ?_
  rintro e w3 ⟨mb3, k3, B3, lb, sb, rfl, hS3, hk3, hlog3, hK3⟩
  have hs3 := hK3.size
  have hbw3 : Below w.heap.size w w3 := hbw2.trans (hK3.below (by omega) (fun i e => by omega))
  have hbT : Below w3.heap.size w3 (w3.alloc (.cells #[.slice a1 n1 c1, .slice a2 n2 c2] 49)) := (Below.refl _ _).alloc (Nat.le_refl _) _
  have hT0 : ∀ r, r < 2 → ∃ az ns cs Az, (w3.alloc (.cells #[.slice a1 n1 c1, .slice a2 n2 c2] 49)).cell? ⟨w3.heap.size, r, none⟩ = some (.slice az ns cs) ∧ IntsAt w w.heap.size az ns Az ∧ ns ≤ 9223372036854775807 := by
    intro r hr
    have hl := heap_alloc_last w3 (.cells #[.slice a1 n1 c1, .slice a2 n2 c2] 49)
    match r, hr with
    | 0, _ => exact ⟨a1, n1, c1, A1, by rw [cell_of_row _ _ 0 _ 49 (0, 0) hl]; rfl, h1, by omega⟩
    | 1, _ => exact ⟨a2, n2, c2, A2, by rw [cell_of_row _ _ 1 _ 49 (0, 0) hl]; rfl, h2, by omega⟩
  have HT : Hid (∀ r, r < 2 → ∃ az ns cs Az, (w3.alloc (.cells #[.slice a1 n1 c1, .slice a2 n2 c2] 49)).cell? ⟨w3.heap.size, r, none⟩ = some (.slice az ns cs) ∧ IntsAt w w.heap.size az ns Az ∧ ns ≤ 9223372036854775807) := hT0
  have hsT := hbT.size
  have hbT3 : w3.heap.size < (w3.alloc (.cells #[.slice a1 n1 c1, .slice a2 n2 c2] 49)).heap.size := by simp
  have hI0 : Hid (OnO w3.heap.size w (w3.alloc (.cells #[.slice a1 n1 c1, .slice a2 n2 c2] 49)) (w3.alloc (.cells #[.slice a1 n1 c1, .slice a2 n2 c2] 49)) (.pointer (some ⟨db, 0, none⟩)) (.pointer (some ⟨lb, 0, none⟩)) (.slice none 0 0) 0) := by
    have q1 := hS3.d.dlt
    have q2 := hS3.d.nlt
    have q3 := hS3.d.mlt
    have q4 := hS3.s.lt
    have q5 := hS3.l.lt
    refine ⟨db, nb, mb3, 128, k3, lb, sb, B3, [], rfl, rfl, by omega, by rw [encR_nil]; exact Nat.zero_le _, Nat.zero_le _, CutU.start (hS3.keep hbT) hlog3 (hbw3.trans (hbT.mono hbw3.size)) (by omega) (fun i hi => ⟨fun e => ?_, by omega⟩)⟩
    unfold five at e
    omega
  have hws3 := hbw3.size
  clear hK3 hbw2 hd2 hS3 hlog3 hbw3 hT0 hbT h1 h2
  go_wp2_with fail
  generalize w3.alloc (.cells #[.slice a1 n1 c1, .slice a2 n2 c2] 49) = wT at HT hI0 hsT hbT3 ⊢
  go_loopw [10, 11, 13, 34] (fun s10 s11 s13 s34 wr => ∃ r : Nat, r ≤ 2 ∧ s34 = .int .i64 r ∧ Hid (OnO w3.heap.size w wT wr s10 s11 s13 r)) (fun _ _ _ s34 _ => 2 - (RowKit.intOf s34).toNat)
  case atStart => exact ⟨0, by omega, rfl, hI0⟩
  case round => as_aux_lemma =>
    obtain ⟨r, hr, rfl, HI⟩ := hrel
    clear hI0
    by_cases hlt : r < 2
    · obtain ⟨db, nb, mb, cap, k, lb, sb, B, R, rfl, rfl, hk, he, hRl, hS⟩ := HI.out
      obtain ⟨az, ns, cs, Az, hcT, hIa, hns⟩ := HT.out r hlt
      have hcr : wr.cell? ⟨w3.heap.size, r, none⟩ = some (.slice az ns cs) := (World.cell?_of_block (w := wT) (w' := wr) (a := ⟨w3.heap.size, r, none⟩) (hS.ext w3.heap.size rfl).2.2).trans hcT
      have hJ0 : Hid (OnI w3.heap.size w wT wr db nb cap lb sb u13 r 0) := ⟨mb, k, B, R, hk, by omega, by omega, hS⟩
      have HIa : Hid (IntsAt w w.heap.size az ns Az) := hIa
      clear HI hS hcT hIa HT
      go_wp2_with fail
      rw [show decide ((r : Int) < 2) = true from decide_eq_true (by omega)]
      go_loopw [13, 16] (fun s13 s16 wq => ∃ i : Nat, i ≤ 10 ∧ s16 = .int .i64 i ∧ Hid (OnI w3.heap.size w wT wq db nb cap lb sb s13 r i)) (fun _ s16 _ => 10 - (RowKit.intOf s16).toNat)
      case atStart => exact ⟨0, by omega, rfl, hJ0⟩
      case round => as_aux_lemma =>
        obtain ⟨i, hi, rfl, HJ⟩ := hrel
        clear hJ0
        by_cases hcond : i < 10 ∧ i < ns
        · obtain ⟨hi10, hin⟩ := hcond
          obtain ⟨mbq, kq, Bq, Rq, hkq, heq, hRq, hSq⟩ := HJ.out
          obtain ⟨b1, o1, rfl, hcell⟩ := (HIa.out.below hSq.bel).cell i hin
          generalize Az.getD i 0 = xv at hcell
          have hxr := rem_any xv 60 (by omega)
          have HSq : Hid (CutU w.heap.size 128 (fun i => i = w3.heap.size) w wT wr db nb mbq cap kq lb sb Bq 0 false u13 0 Rq Rq 0 0) := hSq
          clear HJ hSq
          -- ROUND
          go_wp2_with fail
          obtain ⟨m, hm, hm1, hm2⟩ : ∃ m : Nat, 1 + xv.tmod 60 % 60 = (m : Int) ∧ 1 ≤ m ∧ m ≤ 60 := ⟨(1 + xv.tmod 60 % 60).toNat, by omega, by omega, by omega⟩
          rw [hm]
          clear hm hxr
          refine (text_at m (onB i r) _ ?_ (by omega) _).mono ?_
          · unfold onB; rw [UInt8.toNat_ofNat']; omega
          rintro e w4 ⟨g, rfl, hg4, hB4, hb4⟩
          have hsl : (textB m (onB i r)).length = m := textB_len _ _
          generalize textB m (onB i r) = s at hB4 hsl
          have hN4 := HSq.out.newRec hg4 hB4 hsl (Nat.le_refl _)
          have hS4 := HSq.out.keep hb4
          have hez : (encR Rq).length + (m + 2) ≤ ringN 128 := by unfold ringN; omega
          have HSl : Hid (s.length = m) := hsl
          clear HSq hB4 hb4 hcell hsl
          go_wp2_with fail
          refine (hS4.append (by omega) hN4 HSl.out hm1 (by omega) hez).mono ?_
          rintro e w5 ⟨rfl, mb5, k5, B5, hk5, hS5, hv5⟩
          obtain ⟨x1, x2, hc5, hlo5⟩ := hS5.boxed hv5
          have HX : Hid (CutU w.heap.size 128 (fun i => i = w3.heap.size) w wT (w5.alloc (.cells #[.slice (some ⟨g, 0, none⟩) m m] 34)) db nb mb5 cap k5 lb sb B5 0 false u13 0 (Rq ++ [s]) Rq 0 0 ∧ RecN w.heap.size (w5.alloc (.cells #[.slice (some ⟨g, 0, none⟩) m m] 34)) (fun i => five db nb mb5 sb lb i ∨ i = w3.heap.size) (.slice (some ⟨g, 0, none⟩) m m) s) := ⟨x1, x2⟩
          have hcl : Rq.length ≤ 100000 := by omega
          clear x1 x2 hS5 hv5 hS4 hN4 hez
          go_wp2_with (at_builtin; refine wpList_append_cut rfl _ _ rfl HX.out.1 rfl w5.heap.size _ s rfl hc5 HX.out.2 hcl ?_)
          intro v1 w6 hS6
          have HN : Hid (OnI w3.heap.size w wT w6 db nb cap lb sb v1 r (i + 1)) := ⟨mb5, k5, B5, Rq ++ [s], by omega, by rw [encR_snoc_len, HSl.out]; omega, by rw [List.length_append, List.length_singleton]; omega, hS6⟩
          clear HX hc5 hlo5 hcl hS6
          go_wp2_with fail
          go_roundw
          case rel => exact ⟨i + 1, by omega, by go_num, HN⟩
          case measure => simp [RowKit.intOf]; omega
        · obtain ⟨mbq, kq, Bq, Rq, hkq, heq, hRq, hSq⟩ := HJ.out
          clear HJ
          have hi2 : i ≤ 10 := hi
          rcases (show ns ≤ i ∨ (i < ns ∧ 10 ≤ i) by omega) with hex | ⟨hex1, hex2⟩
          all_goals
            go_wp2_with fail
            refine (crash_l hSq.d (by omega) kc (hK.below hSq.bel)).mono ?_
            rintro e w4 ⟨L4, db4, nb4, mb4, cap4, hLp4, _, rfl, y1, y2, y3, hd4, hb4⟩
            rw [crash_nothing hLp4] at hd4
            have hs4 := hb4.size
            have hlog := hSq.log
            go_wp2_with fail
            have hfb : f0.tmod 4 % 4 ≤ 9223372036854775807 := by omega
            generalize f0.tmod 4 % 4 = ff at hfb ⊢
            refine (fuse_any hd4 ff hfb).mono ?_
            rintro e w5 ⟨rfl, hd5, hk5⟩
            have hb5 : Below wr.heap.size wr w5 := hb4.trans (hk5.below hs4 (fun i e => by omega))
            have hs5 := hb5.size
            clear hd4 hb4 hk5
            go_wp2_with fail
            refine (wopen_at hd5 hlog).mono ?_
            rintro e w6 ⟨lb6, sb6, rv6, U6, rfl, _, _, _, _, _, _, _, hb6⟩
            have hd6 := hd5.keeps (Keeps.of_below (S := fun _ => False) hb6) (fun e => e) (fun e => e) (fun e => e)
            have hb6' : Below wr.heap.size wr w6 := hb5.trans (hb6.mono hs5)
            have hs6 := hb6'.size
            have hKp6 := hK.below (hSq.bel.trans (hb6'.mono hSq.sz))
            clear hd5 hb5 hb6
            go_wp2_with fail
            refine (crash_l hd6 (by omega) kc hKp6).mono ?_
            rintro e w7 ⟨L7, db7, nb7, mb7, cap7, hLp7, _, rfl, z1, z2, z3, hd7, hb7⟩
            rw [crash_nothing hLp7] at hd7
            have hb7' : Below wr.heap.size wr w7 := hb6'.trans (hb7.mono hs6)
            have hs7 := hb7.size
            have q1 := hd7.dlt
            have q2 := hd7.nlt
            have q3 := hd7.mlt
            clear hd6 hKp6 hb6' hb7
            go_wp2_with fail
            refine (wopen_at hd7 hlog).mono ?_
            rintro e w8 ⟨lb8, sb8, rv8, U8, rfl, p1, p2, p3, hL8, hSl8, hR8, hU8, hb8⟩
            have hK8 := Keeps.of_below (S := fun _ => False) hb8
            have hs8 := hb8.size
            have hS8 : CutU w.heap.size 128 (fun i => i = w3.heap.size) w wT w8 db7 nb7 mb7 cap7 0 lb8 sb8 Bq 0 false u13 0 Rq Rq 0 0 := hSq.renew (hb7'.trans (hb8.mono (by omega))) (hd7.keeps hK8 (fun e => e) (fun e => e) (fun e => e)) hL8 hSl8 ⟨by omega, by omega, by omega⟩ ⟨by omega, by omega, by omega, p3⟩ (by omega) hlog
            obtain ⟨UW, hUW, _⟩ := hS8.rcs
            have HR : Hid (Calls Tryz.prog 24 #[rv8, u13] w8 fun e w' => e = .returned (.bool true) ∧ Same w8 w') := (records_at hR8 hUW (by omega)).mono fun e w' h => ⟨by rw [h.1, decide_eq_true rfl], h.2⟩
            have HS8 : Hid (CutU w.heap.size 128 (fun i => i = w3.heap.size) w wT w8 db7 nb7 mb7 cap7 0 lb8 sb8 Bq 0 false u13 0 Rq Rq 0 0) := hS8
            clear hSq hb7' hd7 hL8 hSl8 hR8 hU8 hb8 hK8 hS8 hUW hlog
            go_wp2_with fail
            refine HR.out.mono ?_
            rintro e w9 ⟨rfl, hsm⟩
            have HN : Hid (OnO w3.heap.size w wT w9 (.pointer (some ⟨db7, 0, none⟩)) (.pointer (some ⟨lb8, 0, none⟩)) u13 (r + 1)) := ⟨db7, nb7, mb7, cap7, 0, lb8, sb8, Bq, Rq, rfl, rfl, by omega, by omega, by omega, HS8.out.keep ((hsm.keeps (fun _ => False)).below (Nat.le_refl _) (fun _ e => e.elim))⟩
            clear HR HS8 hsm
            go_wp2_with fail
            exact ⟨⟨r + 1, by omega, by go_num, HN⟩, by simp [RowKit.intOf]; omega⟩
    · obtain ⟨db, nb, mb, cap, k, lb, sb, B, R, rfl, rfl, hk, he, hRl, hS⟩ := HI.out
      clear HI HT
      go_wp2_with fail
      refine (text_at 5 1 _ rfl (by omega) _).mono ?_
      rintro e w4 ⟨g, rfl, hg4, hB4, hb4⟩
      have hsl : (textB 5 1).length = 5 := textB_len _ _
      generalize textB 5 1 = s at hB4 hsl
      have hN4 := hS.newRec hg4 hB4 hsl (Nat.le_refl _)
      have hS4 := hS.keep hb4
      have hez : (encR R).length + (5 + 2) ≤ ringN 128 := by unfold ringN; omega
      have HSl : Hid (s.length = 5) := hsl
      clear hS hB4 hb4 hsl
      go_wp2_with fail
      refine (hS4.append (by omega) hN4 HSl.out (by omega) (by omega) hez).mono ?_
      rintro e w5 ⟨rfl, mb5, k5, B5, hk5, hS5, hv5⟩
      have hbF := hS5.bel
      clear hS5 hv5 hS4 hN4 hez
      go_wp2_with fail
      go_ret
      exact ⟨rfl, hbF⟩
end Go.Proofs.YtlmdeafmlommeaaGreatDoor
