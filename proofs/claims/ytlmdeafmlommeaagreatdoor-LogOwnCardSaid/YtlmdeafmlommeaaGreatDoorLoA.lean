import Derived.Test.YtlmdeafmlommeaaGreatDoorLgC
import Derived.Test.YtlmdeafmlommeaaGreatDoorBgD
import Derived.Deep.QuietTactic
import Derived.BigQuiet
namespace Go.Proofs.YtlmdeafmlommeaaGreatDoor
open Go.RowKit Go.Maps

theorem RecsU.one {w : World} {U : Nat → Prop} {v : Value} {s : List UInt8} (h : RecsU w U v [s]) : ∃ gr cap ge ce, v = .slice (some ⟨gr, 0, none⟩) 1 cap ∧ w.cell? ⟨gr, 0, none⟩ = some (.slice (some ⟨ge, 0, none⟩) s.length ce) ∧ BlkAt w ge s ∧ U gr ∧ U ge ∧ gr ≠ ge := by
  obtain ⟨V, hVl, hrow, hrec⟩ := h
  obtain ⟨gr, capr, curr, rfl, hUr, hHr, _, _, _, hTk⟩ : ∃ g cap cur, v = .slice (some ⟨g, 0, none⟩) [s].length cap ∧ U g ∧ w.heap[g]? = some (.cells cur 34) ∧ [s].length ≤ cap ∧ cap ≤ maxLen ∧ cur.size = cap ∧ cur.toList.take [s].length = V := by
    rcases hrow with ⟨_, h⟩ | h
    · cases h
    · exact h
  obtain ⟨v0, hv0⟩ : ∃ v0, V[0]? = some v0 := ⟨_, List.getElem?_eq_getElem (by rw [hVl]; exact Nat.one_pos)⟩
  obtain ⟨ge, ce, rfl, _, hUe, hBe⟩ := hrec 0 v0 s hv0 rfl
  refine ⟨gr, capr, ge, ce, rfl, ?_, hBe, hUr, hUe, ?_⟩
  · rw [cell_of_row _ _ 0 _ 34 (0, 0) hHr]
    rw [← hTk, List.getElem?_take, if_pos (show 0 < [s].length from Nat.one_pos)] at hv0
    simpa using hv0
  · rintro rfl
    obtain ⟨cur, hH, _⟩ := hBe
    rw [hHr] at hH
    cases hH
theorem BlkAt.first {w : World} {g : Nat} {s : List UInt8} (h : BlkAt w g s) (hs : 1 ≤ s.length) : ∃ y : UInt8, w.cell? ⟨g, 0, none⟩ = some (.int .u8 (y.toNat : Int)) ∧ w.frozen? ⟨g, 0, none⟩ = false := by
  refine ⟨s[0], ?_, ?_⟩
  · exact h.range 0 _ (by unfold bytesV; rw [List.getElem?_map, List.getElem?_eq_getElem (by omega)]; rfl)
  · obtain ⟨cur, hH, _⟩ := h
    unfold World.frozen?
    rw [hH]
    simp
theorem BlkAt.ne {w : World} {g mb : Nat} {s : List UInt8} (h : BlkAt w g s) (hm : NoRow w mb) : g ≠ mb := by
  rintro rfl
  obtain ⟨cur, hH, _⟩ := h
  exact hm _ _ hH
theorem BlkAt.keepM {S : Nat → Prop} {w w' : World} {g mb : Nat} {s : List UInt8} (h : BlkAt w g s) (hk : Keeps S w w') (hm : NoRow w mb) (hs : S g → g = mb) : BlkAt w' g s := h.keep hk (fun e => h.ne hm (hs e))
theorem Seat.keepS {base : Nat} {S : Nat → Prop} {w w' : World} {db nb mb n cap k lb sb : Nat} {B : List UInt8} (h : Seat base w db nb mb n cap k lb sb B) (hk : Keeps S w w') (s1 : ¬ S db) (s2 : ¬ S nb) (s3 : ¬ S mb) (s4 : ¬ S lb) (s5 : ¬ S sb) : Seat base w' db nb mb n cap k lb sb B :=
  ⟨h.d.keeps hk s1 s2 s3, h.l.keeps hk s4, h.s.keeps hk s5, h.ne, h.nl, h.low⟩
theorem conv_drewN {w : World} {g m c : Nat} {s : List UInt8} (h : w.rangeAt g 0 (bytesV s)) (hm : s.length = m) : ∀ q, (convert 34 9 (.slice (some ⟨g, 0, none⟩) m c)).run Tryz.prog (w.drewN q) = .ok (.string ⟨s.toArray⟩) (w.drewN q) := fun q =>
  conv_bytes g 0 m c s _ hm (fun i v hv => ((same_drewN (Same.refl w) q).cell ⟨g, 0 + i, none⟩).trans (h i v hv))
set_option maxRecDepth 100000 in
set_option maxHeartbeats 4000000 in
theorem logOwn_true (n0 : Int) (x : UInt8) (w : World) (hg : w.cell? ⟨0, 0, none⟩ = some errType) :
    Calls Tryz.prog 11 #[.int .i64 n0, .int .u8 (x.toNat : Int)] w fun e w' => e = .returned (.bool true) ∧ Below w.heap.size w w' := by
  have hr0 := rem_any n0 100 (by omega)
  have hx0 : (x.toNat : Int) ≤ 255 := by have := x.toNat_lt; omega
  obtain ⟨i0, hi, hz0, hz1, hz2⟩ := info_parts info5
  go_enter Tryz.func11, Tryz.ntmps11
  go_wp2_with fail
  refine (begun4_true _ hg).mono ?_
  rintro e w1 ⟨rfl, hb1⟩
  clear hg
  have hs1 := hb1.size
  go_wp2_with fail
  refine (new_at 64 w1 (by omega) (by omega)).mono ?_
  rintro e w2 ⟨db, nb, mb, rfl, l1, l2, l3, hd2, hb2⟩
  have hs2 := hb2.size
  have hbw2 : Below w.heap.size w w2 := hb1.trans (hb2.mono hs1)
  clear hb1 hb2
  go_wp2_with fail
  refine (wmake_seat (base := w.heap.size) hd2 (by omega) (by omega) ⟨by omega, by omega, by omega, by omega⟩).mono ?_
  rintro e w3 ⟨mb3, k3, B3, lb, sb, rfl, hS3, hk3, hlog3, hK3⟩
  have hs3 := hK3.size
  have hbw3 : Below w.heap.size w w3 := hbw2.trans (hK3.below (by omega) (fun i e => by omega))
  obtain ⟨lo, hlo⟩ : ∃ lo, lo = w3.heap.size := ⟨_, rfl⟩
  have HI0 : Hid (CutS w.heap.size lo 64 w w3 db nb mb3 64 k3 lb sb B3 0 false (.slice none 0 0) 0 [] [] 0 0) := by
    show CutS _ _ _ _ _ _ _ _ _ _ _ _ _ _ _ _ _ _ _ _ _
    rw [hlo]
    exact CutS.start hS3 hlog3 hbw3 hbw3.size
  clear hK3 hbw2 hd2 hS3 hlog3 hbw3 hlo
  go_wp2_with fail
  obtain ⟨m, hm, hm1, hm2⟩ : ∃ m : Nat, 1 + n0.tmod 100 % 100 = (m : Int) ∧ 1 ≤ m ∧ m ≤ 100 := ⟨(1 + n0.tmod 100 % 100).toNat, by omega, by omega, by omega⟩
  rw [hm]
  clear hm hr0
  refine (text_at m x _ rfl (by omega) _).mono ?_
  rintro e w4 ⟨g, rfl, hg4, hB4, hb4⟩
  have hS4 := HI0.out.keep hb4
  have hs4 := hb4.size
  have hlo := HI0.out.sz
  have hsl : (textB m x).length = m := textB_len m x
  generalize textB m x = s at hB4 hsl
  have A : Hid (w4.rangeAt g 0 (bytesV s)) := hB4.range
  have HS4 : Hid (CutS w.heap.size lo 64 w w4 db nb mb3 64 k3 lb sb B3 0 false (.slice none 0 0) 0 [] [] 0 0 ∧ BlkAt w4 g s) := ⟨hS4, hB4⟩
  clear hS4 HI0 hb4 hB4
  go_wp2_with (at_builtin; refine wpList_append_own _ rfl _ _ 34 rfl w4.heap.size 5 i0 (.int .u8 0) 1 1 Tryz.underlying34 hi hz0 hz1 hz2 rfl (by decide) _ 0 [] rfl (World.ownsRow_nil _ _ _ _) ⟨g, 0, none⟩ m m (bytesV s) rfl ?qc1 ?qc2 ?qc3 ?qc4 ?qc5 (Nat.le_refl _) ?_)
  case qc1 => rw [bytesV_length]; omega
  case qc2 => intro j u hj; rw [Addr.add_mid]; exact A.out j u hj
  case qc3 => exact bytesV_one _
  case qc4 => unfold maxLen; omega
  case qc5 => omega
  intro v5 w5 hown hgrow hnil
  have hk5 : Keeps (fun _ => False) w4 w5 := (Keeps.refl _ w4).grown hgrow (fun k e => by cases e)
  have hb5 : Below w4.heap.size w4 w5 := hk5.below (Nat.le_refl _) (fun _ e => e.elim)
  have hs5 := hb5.size
  have hgl : g < w4.heap.size := HS4.out.2.lt
  obtain ⟨hxl, hown⟩ := hown
  rcases hown with ⟨rfl, h0⟩ | ⟨gc, capc, cur, rfl, hgc, hH, hc1, hc2, hcs, htk⟩
  · omega
  rw [Nat.mul_one] at htk
  have hBc : BlkAt w5 gc s := ⟨cur, hH, by rw [hsl]; exact htk⟩
  have h44 := HS4.out.1.four
  have HS5 : Hid (CutS w.heap.size lo 64 w w5 db nb mb3 64 k3 lb sb B3 0 false (.slice none 0 0) 0 [] [] 0 0 ∧ BlkAt w5 gc s ∧ BlkAt w5 g s) := ⟨HS4.out.1.keep hb5, hBc, HS4.out.2.keep hk5 (fun e => e)⟩
  have HSl : Hid (s.length = m) := hsl
  clear HS4 hBc hk5 hb5 hxl hH hcs htk hgrow hnil A hsl
  go_wp2_with fail
  have hez : (encR ([] : List (List UInt8))).length + (m + 2) ≤ ringN 64 := by
    rw [encR_nil]
    show 0 + (m + 2) ≤ (64 / 2 - 2) * 64
    omega
  refine (append_seat HS5.out.1.seat HS5.out.1.log gc 0 capc s m HSl.out hm1 (by omega) hez HS5.out.2.1.range (by omega) (by omega)).mono ?_
  rintro e w6 ⟨mb6, k6, B6, rfl, hS6, hk6, hlog6, hK6⟩
  have hs6 := hK6.size
  have hBc6 := HS5.out.2.1.keepM hK6 HS5.out.1.d.noRow (fun e => by unfold five at e; omega)
  have hB6 := HS5.out.2.2.keepM hK6 HS5.out.1.d.noRow (fun e => by unfold five at e; omega)
  have hbw6 : Below w.heap.size w w6 := HS5.out.1.bel.trans (five_below HS5.out.1.seat hK6 (by omega))
  obtain ⟨y, hcy, hfy⟩ := hBc6.first (by rw [HSl.out]; exact hm1)
  have hy0 : (y.toNat : Int) ≤ 255 := by have := y.toNat_lt; omega
  have hlog6 : LogOn 64 B6 0 [s] 0 0 := hlog6
  have HOpen : Hid (∀ v, Calls Tryz.prog 22 #[.pointer (some ⟨db, 0, none⟩)] (w6.setCell ⟨gc, 0, none⟩ v) fun e w' => ∃ lb7 rv U, e = .returned (.tuple #[.pointer (some ⟨lb7, 0, none⟩), rv, .int .i64 0]) ∧ RecsU w' U rv [s] ∧ (∀ i, U i → w6.heap.size ≤ i) ∧ DevAt w' db nb mb6 64 64 B6 k6 (.map []) 0 false ∧ BlkAt w' g s ∧ Below w.heap.size w w' ∧ w6.heap.size ≤ w'.heap.size) := by
    intro v
    have hk := (Keeps.refl (fun i => i = gc) w6).setCell (p := ⟨gc, 0, none⟩) rfl v
    have hz := hk.size
    have hmb := hBc6.ne hS6.d.noRow
    have hd := hS6.d.keeps hk (by omega) (by omega) (by omega)
    refine (wopen_at hd hlog6).mono ?_
    rintro e w7 ⟨lb7, sb7, rv, U, rfl, y1, y2, y3, _, _, hR7, hU7, hb7⟩
    have hK7 := Keeps.of_below (S := fun _ => False) hb7
    have hz7 := hb7.size
    exact ⟨lb7, rv, U, rfl, hR7, fun i hi => by have := (hU7 i hi).1; omega, hd.keeps hK7 (fun e => e) (fun e => e) (fun e => e), (hB6.keep hk (by omega)).keep hK7 (fun e => e), (hbw6.trans (hk.below (by omega) (fun i e => by omega))).trans (hb7.mono (by omega)), by omega⟩
  have HLog : Hid (LogOn 64 B6 0 [s] 0 0) := hlog6
  have hd6l := hS6.d.dlt
  have hd6n := hS6.d.nlt
  have hd6m := hS6.d.mlt
  clear HS5 hS6 hK6 hBc6 hB6 hbw6 hez hlog6
  go_wp2_with fail
  refine (HOpen.out _).mono ?_
  rintro e w7 ⟨lb7, rv, U, rfl, hR7, hU7, hd7, hB7, hbw7, hs7⟩
  obtain ⟨gr, cap7, ge, ce, rfl, hc7, hBe7, ur, ue, hne⟩ := hR7.one
  have hger := hU7 gr ur
  have hgee := hU7 ge ue
  rw [HSl.out] at hc7
  have hcx := conv_drewN (m := m) (c := ce) hBe7.range HSl.out
  have hcb := conv_drewN (m := m) (c := m) hB7.range HSl.out
  have HQ : Hid (∀ q, DevAt (w7.drewN q) db nb mb6 64 64 B6 k6 (.map []) 0 false ∧ (w7.drewN q).cell? ⟨gr, 0, none⟩ = some (.slice (some ⟨ge, 0, none⟩) m ce) ∧ BlkAt (w7.drewN q) ge s ∧ BlkAt (w7.drewN q) g s ∧ Below w.heap.size w (w7.drewN q) ∧ w6.heap.size ≤ (w7.drewN q).heap.size) := fun q => by
    have hk := keeps_drewN (Keeps.refl (fun _ => False) w7) q
    exact ⟨hd7.keeps hk (fun e => e) (fun e => e) (fun e => e), (hk.cell (p := ⟨gr, 0, none⟩) (World.block_lt_of_cell? w7 _ hc7) (fun e => e)).trans hc7, hBe7.keep hk (fun e => e), hB7.keep hk (fun e => e), hbw7.trans (hk.below hbw7.size (fun _ e => e.elim)), by have := hk.size; omega⟩
  clear HOpen hR7 hU7 hd7 hB7 hbw7 hBe7 ur ue
  go_wp2_with fail
  go_quiet (fail)
  obtain ⟨p1, p2, p3, p4, p5, p6⟩ := HQ.out nq
  generalize w7.drewN nq = wq at p1 p2 p3 p4 p5 p6 ⊢
  clear HQ hcx hcb hc7
  obtain ⟨y2, hcy2, hfy2⟩ := p3.first (by rw [HSl.out]; exact hm1)
  have hy20 : (y2.toNat : Int) ≤ 255 := by have := y2.toNat_lt; omega
  have HC : Hid (∀ v, Calls Tryz.prog 21 #[.pointer (some ⟨db, 0, none⟩), .slice none 0 0] (wq.setCell ⟨ge, 0, none⟩ v) fun e w' => ∃ db8 nb8 mb8 cap8, e = .returned (.pointer (some ⟨db8, 0, none⟩)) ∧ DevAt w' db8 nb8 mb8 64 cap8 B6 0 (.map []) 0 false ∧ BlkAt w' g s ∧ Below w.heap.size w w') := by
    intro v
    have hk := (Keeps.refl (fun i => i = ge) wq).setCell (p := ⟨ge, 0, none⟩) rfl v
    have hz := hk.size
    have hd := p1.keeps hk (by omega) (by omega) (by omega)
    have hKn : KeepB (wq.setCell ⟨ge, 0, none⟩ v) 0 none 0 [] := ⟨rfl, Or.inl rfl⟩
    refine (crash_l hd (by omega) 0 hKn).mono ?_
    rintro e w8 ⟨L8, db8, nb8, mb8, cap8, hLp8, _, rfl, _, _, _, hd8, hb8⟩
    rw [crash_nothing hLp8] at hd8
    have hK8 := Keeps.of_below (S := fun _ => False) hb8
    exact ⟨db8, nb8, mb8, cap8, rfl, hd8, (p4.keep hk (by omega)).keep hK8 (fun e => e), (p5.trans (hk.below (by omega) (fun i e => by omega))).trans (hb8.mono (by omega))⟩
  clear p1 p3 p4 p5
  go_wp2_with fail
  refine (HC.out _).mono ?_
  rintro e w8 ⟨db8, nb8, mb8, cap8, rfl, hd8, hB8, hbw8⟩
  clear HC p2 hcy2 hfy2
  go_wp2_with fail
  refine (wopen_at hd8 HLog.out).mono ?_
  rintro e w9 ⟨lb9, sb9, rv9, U9, rfl, _, _, _, _, _, hR9, hU9, hb9⟩
  obtain ⟨gr9, cap9, ge9, ce9, rfl, hc9, hBe9, _, _, _⟩ := hR9.one
  have hB9 := hB8.keep (Keeps.of_below (S := fun _ => False) hb9) (fun e => e)
  have hbw9 := hbw8.trans (hb9.mono hbw8.size)
  rw [HSl.out] at hc9
  have hcx := conv_drewN (m := m) (c := ce9) hBe9.range HSl.out
  have hcb := conv_drewN (m := m) (c := m) hB9.range HSl.out
  clear hR9 hU9 hd8 hB8 hbw8 hb9 hBe9 hB9
  go_wp2_with fail
  go_quiet (fail)
  all_goals go_wp2_with fail
  all_goals go_ret
  all_goals exact ⟨rfl, below_drewN hbw9⟩
end Go.Proofs.YtlmdeafmlommeaaGreatDoor
