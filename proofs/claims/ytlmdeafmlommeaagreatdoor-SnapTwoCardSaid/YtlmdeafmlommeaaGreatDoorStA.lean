import Derived.Test.YtlmdeafmlommeaaGreatDoorSnG
import Derived.Test.YtlmdeafmlommeaaGreatDoorBgD
namespace Go.Proofs.YtlmdeafmlommeaaGreatDoor
open Go.RowKit Go.Maps

/-- The loop's. -/
def SnI (w wr : World) (s6 s7 : Value) (i : Nat) : Prop :=
  ∃ db nb mb cap k lb sb B a R x y, s6 = .pointer (some ⟨db, 0, none⟩) ∧ s7 = .pointer (some ⟨lb, 0, none⟩) ∧ k ≤ 10 ∧ Seat w.heap.size wr db nb mb 256 cap k lb sb B ∧ LogOn 256 B a R x y ∧ Below w.heap.size w wr ∧ otherA x = 1 + (i : Int) % 2
theorem other_next (i : Nat) : otherA (1 + (i : Int) % 2) = 1 + ((i + 1 : Nat) : Int) % 2 := by
  unfold otherA
  split <;> omega
set_option maxRecDepth 100000 in
set_option maxHeartbeats 4000000 in
theorem snapTwo_true (a1 : Option Addr) (n1 c1 : Nat) (A1 : List Int) (w : World) (h1 : IntsAt w w.heap.size a1 n1 A1) (_hc1 : n1 ≤ c1 ∧ c1 ≤ 9223372036854775807) (ka : Option Addr) (kl kc : Nat) (K : List Bool) (hK : KeepB w w.heap.size ka kl K) (hg : w.cell? ⟨0, 0, none⟩ = some errType) :
    Calls Tryz.prog 13 #[.slice a1 n1 c1, .slice ka kl kc] w fun e w' => e = .returned (.bool true) ∧ Below w.heap.size w w' := by
  go_enter Tryz.func13, Tryz.ntmps13
  go_wp2_with fail
  refine (begun4_true _ hg).mono ?_
  rintro e w1 ⟨rfl, hb1⟩
  clear hg
  have hs1 := hb1.size
  go_wp2_with fail
  refine (new_at 256 w1 (by omega) (by omega)).mono ?_
  rintro e w2 ⟨db, nb, mb, rfl, l1, l2, l3, hd2, hb2⟩
  have hs2 := hb2.size
  have hbw2 : Below w.heap.size w w2 := hb1.trans (hb2.mono hs1)
  clear hb1 hb2
  go_wp2_with fail
  refine (wmake_seat (base := w.heap.size) hd2 (by omega) (by omega) ⟨by omega, by omega, by omega, by omega⟩).mono ?_
  rintro e w3 ⟨mb3, k3, B3, lb, sb, rfl, hS3, hk3, hlog3, hK3⟩
  have hs3 := hK3.size
  have hbw3 : Below w.heap.size w w3 := hbw2.trans (hK3.below (by omega) (fun i e => by omega))
  have hI0 : Hid (SnI w w3 (.pointer (some ⟨db, 0, none⟩)) (.pointer (some ⟨lb, 0, none⟩)) 0) := ⟨db, nb, mb3, 256, k3, lb, sb, B3, 0, [], 0, 0, rfl, rfl, by omega, hS3, hlog3, hbw3, rfl⟩
  have HA : Hid (IntsAt w w.heap.size a1 n1 A1 ∧ KeepB w w.heap.size ka kl K) := ⟨h1, hK⟩
  clear hK3 hbw2 hd2 hS3 hlog3 hbw3 h1 hK
  go_wp2_with fail
  go_loopw [6, 7, 9] (fun s6 s7 s9 wr => ∃ i : Nat, i ≤ 8 ∧ s9 = .int .i64 i ∧ Hid (SnI w wr s6 s7 i)) (fun _ _ s9 _ => 8 - (RowKit.intOf s9).toNat)
  case atStart => exact ⟨0, by omega, rfl, hI0⟩
  case round => as_aux_lemma =>
    obtain ⟨i, hi, rfl, HI⟩ := hrel
    clear hI0
    obtain ⟨db, nb, mb, cap, k, lb, sb, B, a, R, x, y, rfl, rfl, hk, hS, hlog, hbr, hox⟩ := HI.out
    by_cases hcond : i < 8 ∧ i < n1
    · obtain ⟨hi8, hin⟩ := hcond
      obtain ⟨b1, o1, rfl, hcell⟩ := (HA.out.1.below hbr).cell i hin
      generalize A1.getD i 0 = xv at hcell
      have hxr := rem_any xv 4097 (by omega)
      have HS : Hid (Seat w.heap.size wr db nb mb 256 cap k lb sb B ∧ LogOn 256 B a R x y ∧ Below w.heap.size w wr ∧ otherA x = 1 + (i : Int) % 2) := ⟨hS, hlog, hbr, hox⟩
      clear HI hS hlog hbr hox
      go_wp2_with fail
      -- ROUND
      obtain ⟨m, hm, hm2⟩ : ∃ m : Nat, xv.tmod 4097 % 4097 = (m : Int) ∧ m ≤ 4096 := ⟨(xv.tmod 4097 % 4097).toNat, by omega, by omega⟩
      rw [hm]
      clear hm hxr hcell
      refine (text_at m (UInt8.ofNat i) _ (by rw [UInt8.toNat_ofNat']; omega) (by omega) _).mono ?_
      rintro e w4 ⟨g, rfl, hg4, hB4, hb4⟩
      have hsl : (textB m (UInt8.ofNat i)).length = m := textB_len _ _
      generalize textB m (UInt8.ofNat i) = s at hB4 hsl
      obtain ⟨hS, hlog, hbr, hox⟩ := HS.out
      have hs4 := hb4.size
      have hlt := hS.lt5
      have hS4 := hS.keep hb4
      have hbw4 : Below w.heap.size w w4 := hbr.trans (hb4.mono hbr.size)
      have hg5 : ¬ five db nb mb sb lb g := fun e => by have := (hlt g e).2; omega
      have HSl : Hid (s.length = m) := hsl
      have HP : Hid (Calls Tryz.prog 28 #[.pointer (some ⟨db, 0, none⟩), .pointer (some ⟨lb, 0, none⟩), .slice (some ⟨g, 0, none⟩) m m] w4 fun e w' => e = .returned (.int .i64 0) ∧ ∃ mb' k' B' q, k' ≤ 1 ∧ Seat w.heap.size w' db nb mb' 256 cap k' lb sb B' ∧ LogOn 256 B' q [] (1 + (i : Int) % 2) (m : Int) ∧ cutB B' (areaAt 256 (1 + (i : Int) % 2)) m = s ∧ BlkAt w' g s ∧ ¬ five db nb mb' sb lb g ∧ Below w.heap.size w w') := by
        show Calls _ _ _ _ _
        refine (put_seat hS4 hlog g m s m hsl (by omega) (Nat.le_refl _) hB4 hg5 hbw4.size (by omega)).mono ?_
        rintro e w' ⟨rfl, mb', k', B', q, p1, p2, p3, p4, p5⟩
        rw [hox] at p3 p4
        have hgl := hB4.lt
        have hmb : mb' ≠ g := fun e => (BlkAt.nomap (hB4.keep p5 hg5) p2.d.noRow) e.symm
        refine ⟨rfl, mb', k', B', q, p1, p2, p3, p4, hB4.keep p5 hg5, fun e => ?_, hbw4.trans (p5.below hbw4.size (fun i e => (hS4.lt5 i e).1))⟩
        unfold five at e hg5
        omega
      have hnx := other_next i
      clear HS hS hlog hbr hox hS4 hB4 hb4 hg5 hbw4 hlt hsl
      generalize hax : 1 + (i : Int) % 2 = ax at *
      have ha12 : ax = 1 ∨ ax = 2 := by omega
      have HAx : Hid (1 + (i : Int) % 2 = ax ∧ otherA ax = 1 + ((i + 1 : Nat) : Int) % 2) := ⟨hax, hnx⟩
      clear hax hnx
      go_wp2_with fail
      refine HP.out.mono ?_
      rintro e w5 ⟨rfl, mb5, k5, B5, q5, hk5, hS5, hlog5, htx5, hB5, hg5, hbw5⟩
      have hAr := area_at hS5.l hS5.d q5 (encR ([] : List (List UInt8))).length ax (m : Int) hlog5.tl hlog5.al hlog5.sz
      have HQ5 : Hid (∀ w', Below w5.heap.size w5 w' → Seat w.heap.size w' db nb mb5 256 cap k5 lb sb B5 ∧ BlkAt w' g s ∧ Below w.heap.size w w') := fun w' hb => ⟨hS5.keep hb, hB5.keep (Keeps.of_below (S := fun _ => False) hb) (fun e => e), hbw5.trans (hb.mono hbw5.size)⟩
      have HL5 : Hid (LogOn 256 B5 q5 [] ax (m : Int) ∧ cutB B5 (areaAt 256 ax) m = s) := ⟨hlog5, htx5⟩
      have HAr : Hid (Calls Tryz.prog 23 #[.pointer (some ⟨lb, 0, none⟩)] w5 fun e w' => e = .returned (.tuple #[.int .i64 ax, .int .i64 (m : Int)]) ∧ Below w5.heap.size w5 w') := hAr
      clear HP hS5 hlog5 htx5 hB5 hbw5 hAr
      go_wp2_with fail
      refine HAr.out.mono ?_
      rintro e w6 ⟨rfl, hb6⟩
      obtain ⟨hS6, hB6, hbw6⟩ := HQ5.out w6 hb6
      have HS6 : Hid (Seat w.heap.size w6 db nb mb5 256 cap k5 lb sb B5 ∧ BlkAt w6 g s ∧ Below w.heap.size w w6) := ⟨hS6, hB6, hbw6⟩
      have hax := HAx.out.1
      clear HAr HQ5 hb6 hS6 hB6 hbw6
      go_wp2_with fail
      clear hax
      refine (text_at 3 (UInt8.ofNat i) _ (by rw [UInt8.toNat_ofNat']; omega) (by omega) _).mono ?_
      rintro e w7 ⟨g7, rfl, hg7, hB7, hb7⟩
      have hsl7 : (textB 3 (UInt8.ofNat i)).length = 3 := textB_len _ _
      generalize textB 3 (UInt8.ofNat i) = s7 at hB7 hsl7
      have HApp : Hid (Calls Tryz.prog 18 #[.pointer (some ⟨lb, 0, none⟩), .slice (some ⟨g7, 0, none⟩) 3 3] w7 fun e w' => e = .returned (.int .i64 0) ∧ ∃ mb' k' B', k' ≤ 1 ∧ DevAt w' db nb mb' 256 cap B' k' (.map []) 0 false ∧ LogOn 256 B' q5 [s7] ax (m : Int) ∧ cutB B' (areaAt 256 ax) m = s ∧ BlkAt w' g s ∧ Below w.heap.size w w') := by
        show Calls _ _ _ _ _
        obtain ⟨hS6, hB6, hbw6⟩ := HS6.out
        have hbw7 := hbw6.trans (hb7.mono hbw6.size)
        refine (append_text (hS6.keep hb7) HL5.out.1 g7 0 3 s7 3 hsl7 (by omega) (by omega) (by rw [encR_nil]; show 0 + (3 + 2) ≤ (256 / 2 - 2) * 64; omega) hB7.range hbw7.size (by omega)).mono ?_
        rintro e w' ⟨rfl, mb', k', B', p1, p2, p3, p4, p5⟩
        have hB7' := hB6.keep (Keeps.of_below (S := fun _ => False) hb7) (fun e => e)
        refine ⟨rfl, mb', k', B', p1, p2.d, p3, ?_, hB7'.keep p4 hg5, hbw7.trans (p4.below hbw7.size (fun i e => ((hS6.keep hb7).lt5 i e).1))⟩
        rw [p5 _ _ (show 256 / 2 ≤ areaAt 256 ax by unfold areaAt; omega)]
        exact HL5.out.2
      clear HS6 HL5 hB7 hb7 hsl7
      go_wp2_with fail
      refine HApp.out.mono ?_
      rintro e w8 ⟨rfl, mb8, k8, B8, hk8, hd8, hlog8, htx8, hB8, hbw8⟩
      clear HApp
      go_wp2_with fail
      refine (crash_l hd8 (by omega) kc (HA.out.2.below hbw8)).mono ?_
      rintro e w9 ⟨L9, db9, nb9, mb9, cap9, hLp9, _, rfl, y1, y2, y3, hd9, hb9⟩
      rw [crash_nothing hLp9] at hd9
      have hs9 := hb9.size
      have hs8 := hbw8.size
      have hbw9 := hbw8.trans (hb9.mono hs8)
      have hB9 := hB8.keep (Keeps.of_below (S := fun _ => False) hb9) (fun e => e)
      have z1 := hd9.dlt
      have z2 := hd9.nlt
      have z3 := hd9.mlt
      clear hd8 hbw8 hB8 hb9 hLp9
      go_wp2_with fail
      refine (wopen_at hd9 hlog8).mono ?_
      rintro e w10 ⟨lb10, sb10, rv10, U10, rfl, p1, p2, p3, hL10, hSl10, hR10, hU10, hb10⟩
      obtain ⟨rp, rc, rfl⟩ := hR10.shape
      have hK10 := Keeps.of_below (S := fun _ => False) hb10
      have hs10 := hb10.size
      have hd10 := hd9.keeps hK10 (fun e => e) (fun e => e) (fun e => e)
      have hB10 := hB9.keep hK10 (fun e => e)
      have hbw10 := hbw9.trans (hb10.mono (by omega))
      have hS10 : Seat w.heap.size w10 db9 nb9 mb9 256 cap9 0 lb10 sb10 B8 := ⟨hd10, hL10, hSl10, ⟨by omega, by omega, by omega⟩, ⟨by omega, by omega, by omega, p3⟩, by omega⟩
      have HGet : Hid (Calls Tryz.prog 27 #[.pointer (some ⟨db9, 0, none⟩), .pointer (some ⟨lb10, 0, none⟩)] w10 fun e w' => ∃ v, e = .returned (.tuple #[v, .int .i64 0]) ∧ (convert 34 9 v).run Tryz.prog w' = .ok (.string ⟨s.toArray⟩) w' ∧ (convert 34 9 (.slice (some ⟨g, 0, none⟩) m m)).run Tryz.prog w' = .ok (.string ⟨s.toArray⟩) w' ∧ Hid (SnI w w' (.pointer (some ⟨db9, 0, none⟩)) (.pointer (some ⟨lb10, 0, none⟩)) (i + 1))) := by
        show Calls _ _ _ _ _
        refine (sget_log_at hL10 hd10 hlog8 ha12 (show m ≤ 256 / 4 * 64 by omega) htx8).mono ?_
        rintro e w' ⟨v, rfl, hv, hb⟩
        have hBw := hB10.keep (Keeps.of_below (S := fun _ => False) hb) (fun e => e)
        exact ⟨v, rfl, conv_SlB hv, conv_bytes g 0 m m s w' HSl.out hBw.range, db9, nb9, mb9, cap9, 0, lb10, sb10, B8, q5, [s7], ax, (m : Int), rfl, rfl, by omega, hS10.keep hb, hlog8, hbw10.trans (hb.mono hbw10.size), HAx.out.2⟩
      clear hd9 hlog8 htx8 hB9 hbw9 hL10 hSl10 hR10 hU10 hb10 hK10 hd10 hB10 hbw10 hS10
      go_wp2_with fail
      refine HGet.out.mono ?_
      rintro e w11 ⟨v11, rfl, hcv, hcb, HN⟩
      clear HGet
      go_wp2_with fail
      exact ⟨⟨i + 1, by omega, by go_num, HN⟩, by simp [RowKit.intOf]; omega⟩
    · clear HI hS hlog
      rcases (show n1 ≤ i ∨ (i < n1 ∧ 8 ≤ i) by omega) with hex | ⟨hex1, hex2⟩
      all_goals
        go_wp2_with fail
        go_ret
        exact ⟨rfl, hbr⟩
end Go.Proofs.YtlmdeafmlommeaaGreatDoor
