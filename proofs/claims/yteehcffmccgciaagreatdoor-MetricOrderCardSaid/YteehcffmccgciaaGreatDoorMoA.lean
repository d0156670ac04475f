import Derived.Test.YteehcffmccgciaaGreatDoorBsW
import Derived.Test.YteehcffmccgciaaGreatDoorBgE
namespace Go.Proofs.YteehcffmccgciaaGreatDoor
open Go.RowKit Go.Maps

theorem SortH.step {W : List Hit} (h : SortH W) (j : Nat) (hj : j + 1 < W.length) : lessH (hat W j) (hat W (j + 1)) = true := by
  rw [hat_lt (show j < W.length by omega), hat_lt hj]
  exact List.pairwise_iff_getElem.1 h j (j + 1) (by omega) hj (by omega)
/-- Three hits that the law itself has boxed. -/
def Box3 (w : World) (p q r : Nat) (a b c : Hit) : Prop := (w.cell? ⟨p, 0, none⟩ = some (.int .i64 a.1) ∧ w.cell? ⟨p, 1, none⟩ = some (.int .i64 a.2)) ∧ (w.cell? ⟨q, 0, none⟩ = some (.int .i64 b.1) ∧ w.cell? ⟨q, 1, none⟩ = some (.int .i64 b.2)) ∧ (w.cell? ⟨r, 0, none⟩ = some (.int .i64 c.1) ∧ w.cell? ⟨r, 1, none⟩ = some (.int .i64 c.2))
theorem Box3.below {w w' : World} {p q r : Nat} {a b c : Hit} (h : Box3 w p q r a b c) (hb : Below w.heap.size w w') : Box3 w' p q r a b c :=
  ⟨two_below hb h.1, two_below hb h.2.1, two_below hb h.2.2⟩
theorem HitsR.cellN {w : World} {lo n c : Nat} {p : Option Addr} {W : List Hit} (h : HitsR w lo (.slice p n c) W) (j : Nat) (hj : j < n) : ∃ g, p = some ⟨g, 0, none⟩ ∧ w.cell? ⟨g, j * 2, none⟩ = some (.int .i64 (hat W j).1) ∧ w.cell? ⟨g, j * 2 + 1, none⟩ = some (.int .i64 (hat W j).2) := by
  obtain ⟨p', c', e⟩ := h.shape
  injection e with _ e2 _
  obtain ⟨g, c2, e4, _, _, _, a1, a2, _⟩ := h.at_ j (by omega)
  injection e4 with e4 _ _
  exact ⟨g, e4, a1, a2⟩
theorem some_inj {g g' : Nat} (h : (some ⟨g, 0, none⟩ : Option Addr) = some ⟨g', 0, none⟩) : g = g' := by
  injection h with h
  injection h
theorem newTwo (w : World) (b : Nat) (hb : w.heap.size = b) (x1 x2 : Int) : (w.alloc (.cells #[.int .i64 x1, .int .i64 x2] 46)).cell? ⟨b, 0, none⟩ = some (.int .i64 x1) ∧ (w.alloc (.cells #[.int .i64 x1, .int .i64 x2] 46)).cell? ⟨b, 1, none⟩ = some (.int .i64 x2) := by
  subst hb
  exact ⟨by rw [cell_of_row _ _ 0 _ 46 (0, 0) (heap_alloc_last w _)]; rfl, by rw [cell_of_row _ _ 1 _ 46 (0, 0) (heap_alloc_last w _)]; rfl⟩
theorem newThree (w : World) (a b c : Hit) (h : ∀ x ∈ [a, b, c], -9223372036854775808 ≤ x.1 ∧ x.1 ≤ 9223372036854775807) : HitsIn (w.alloc (.cells #[.int .i64 a.1, .int .i64 a.2, .int .i64 b.1, .int .i64 b.2, .int .i64 c.1, .int .i64 c.2] 46)) (some ⟨w.heap.size, 0, none⟩) 3 [a, b, c] := by
  refine ⟨rfl, h, Or.inr ⟨w.heap.size, 0, rfl, by simp, fun j hj => ?_⟩⟩
  have hr := heap_alloc_last w (.cells #[.int .i64 a.1, .int .i64 a.2, .int .i64 b.1, .int .i64 b.2, .int .i64 c.1, .int .i64 c.2] 46)
  rw [cell_of_row _ _ (0 + j * 2) _ 46 (0, 0) hr, cell_of_row _ _ (0 + j * 2 + 1) _ 46 (0, 0) hr]
  rcases j with _ | _ | _ | j
  · exact ⟨rfl, rfl⟩
  · exact ⟨rfl, rfl⟩
  · exact ⟨rfl, rfl⟩
  · omega
set_option maxRecDepth 100000 in
set_option maxHeartbeats 4000000 in
theorem metricOrder_true (a1 a2 b1 b2 c1 c2 : Int) (ha : -9223372036854775808 ≤ a1 ∧ a1 ≤ 9223372036854775807) (hb : -9223372036854775808 ≤ b1 ∧ b1 ≤ 9223372036854775807) (hc : -9223372036854775808 ≤ c1 ∧ c1 ≤ 9223372036854775807) (w : World) (hg : w.cell? ⟨0, 0, none⟩ = some errType) :
    Calls Tryz.prog 8 #[.agg #[.int .i64 a1, .int .i64 a2], .agg #[.int .i64 b1, .int .i64 b2], .agg #[.int .i64 c1, .int .i64 c2]] w fun e w' => e = .returned (.bool true) ∧ Below w.heap.size w w' := by
  have hw0 : 0 < w.heap.size := World.block_lt_of_cell? w _ hg
  have hbA : Below w.heap.size w (((w.alloc (.cells #[.int .i64 a1, .int .i64 a2] 46)).alloc (.cells #[.int .i64 b1, .int .i64 b2] 46)).alloc (.cells #[.int .i64 c1, .int .i64 c2] 46)) := (((Below.refl _ w).alloc (Nat.le_refl _) _).alloc (by simp) _).alloc (by simp; omega) _
  have hgA := (hbA.cell (p := ⟨0, 0, none⟩) hw0).trans hg
  have HX : Hid (Box3 (((w.alloc (.cells #[.int .i64 a1, .int .i64 a2] 46)).alloc (.cells #[.int .i64 b1, .int .i64 b2] 46)).alloc (.cells #[.int .i64 c1, .int .i64 c2] 46)) w.heap.size (w.heap.size + 1) (w.heap.size + 1 + 1) (a1, a2) (b1, b2) (c1, c2)) := by
    have h1 := newTwo w _ rfl a1 a2
    have h2 := newTwo (w.alloc (.cells #[.int .i64 a1, .int .i64 a2] 46)) (w.heap.size + 1) (by simp) b1 b2
    have h3 := newTwo ((w.alloc (.cells #[.int .i64 a1, .int .i64 a2] 46)).alloc (.cells #[.int .i64 b1, .int .i64 b2] 46)) (w.heap.size + 1 + 1) (by simp) c1 c2
    have g2 : Below (w.alloc (.cells #[.int .i64 a1, .int .i64 a2] 46)).heap.size (w.alloc (.cells #[.int .i64 a1, .int .i64 a2] 46)) ((w.alloc (.cells #[.int .i64 a1, .int .i64 a2] 46)).alloc (.cells #[.int .i64 b1, .int .i64 b2] 46)) := (Below.refl _ _).alloc (Nat.le_refl _) _
    have g3 : Below ((w.alloc (.cells #[.int .i64 a1, .int .i64 a2] 46)).alloc (.cells #[.int .i64 b1, .int .i64 b2] 46)).heap.size ((w.alloc (.cells #[.int .i64 a1, .int .i64 a2] 46)).alloc (.cells #[.int .i64 b1, .int .i64 b2] 46)) (((w.alloc (.cells #[.int .i64 a1, .int .i64 a2] 46)).alloc (.cells #[.int .i64 b1, .int .i64 b2] 46)).alloc (.cells #[.int .i64 c1, .int .i64 c2] 46)) := (Below.refl _ _).alloc (Nat.le_refl _) _
    exact ⟨two_below g3 (two_below g2 h1), two_below g3 h2, h3⟩
  have HBA : Hid (Below w.heap.size w (((w.alloc (.cells #[.int .i64 a1, .int .i64 a2] 46)).alloc (.cells #[.int .i64 b1, .int .i64 b2] 46)).alloc (.cells #[.int .i64 c1, .int .i64 c2] 46))) := hbA
  clear hbA hg
  go_enter Tryz.func8, Tryz.ntmps8
  go_wp2_with fail
  refine (begun7_true _ hgA).mono ?_
  rintro e w1 ⟨rfl, hb1⟩
  have HX1 : Hid (Box3 w1 w.heap.size (w.heap.size + 1) (w.heap.size + 1 + 1) (a1, a2) (b1, b2) (c1, c2)) := HX.out.below hb1
  have HB1 : Hid (Below w.heap.size w w1) := HBA.out.trans (hb1.mono HBA.out.size)
  clear hb1 HX HBA hgA
  obtain ⟨⟨q1, q2⟩, ⟨q3, q4⟩, ⟨q5, q6⟩⟩ := HX1.out
  simp only at q1 q2 q3 q4 q5 q6
  go_wp2_with fail
  have hin := newThree w1 (a1, a2) (b1, b2) (c1, c2) (fun x hx => by
    rcases List.mem_cons.1 hx with rfl | hx
    · exact ha
    · rcases List.mem_cons.1 hx with rfl | hx
      · exact hb
      · rcases List.mem_cons.1 hx with rfl | hx
        · exact hc
        · cases hx)
  have hbB : Below w1.heap.size w1 (w1.alloc (.cells #[.int .i64 a1, .int .i64 a2, .int .i64 b1, .int .i64 b2, .int .i64 c1, .int .i64 c2] 46)) := (Below.refl _ _).alloc (Nat.le_refl _) _
  refine (bof_at 3 (by omega) hin (by omega)).mono ?_
  rintro e w2 ⟨v, rfl, hR2, hb2⟩
  have hb12 := hbB.trans (hb2.mono hbB.size)
  have HX2 : Hid (Box3 w2 w.heap.size (w.heap.size + 1) (w.heap.size + 1 + 1) (a1, a2) (b1, b2) (c1, c2)) := HX1.out.below hb12
  have HB2 : Hid (Below w.heap.size w w2) := HB1.out.trans (hb12.mono HB1.out.size)
  have HO : Hid (SortH (bestOf (3 : Int).toNat [(a1, a2), (b1, b2), (c1, c2)])) := (bestOf_ok _ _).sort
  have hln : (bestOf (3 : Int).toNat [(a1, a2), (b1, b2), (c1, c2)]).length ≤ 3 := bestOf_len _ _
  generalize bestOf (3 : Int).toNat [(a1, a2), (b1, b2), (c1, c2)] = W at *
  obtain ⟨p, c, hv⟩ := hR2.shape
  subst hv
  obtain ⟨n, hn⟩ : ∃ n, W.length = n := ⟨_, rfl⟩
  have HN : Hid (W.length = n) := hn
  rw [hn] at hR2 hln ⊢
  obtain ⟨lo, hlo⟩ : ∃ lo, lo = (w1.alloc (.cells #[.int .i64 a1, .int .i64 a2, .int .i64 b1, .int .i64 b2, .int .i64 c1, .int .i64 c2] 46)).heap.size := ⟨_, rfl⟩
  rw [← hlo] at hR2
  have HI0 : Hid (HitsR w2 lo (.slice p n c) W ∧ Box3 w2 w.heap.size (w.heap.size + 1) (w.heap.size + 1 + 1) (a1, a2) (b1, b2) (c1, c2) ∧ Below w.heap.size w w2) := ⟨hR2, HX2.out, HB2.out⟩
  clear hR2 hb2 hb12 hbB hin HX2 HB2 HX1 HB1 hn hlo q1 q2 q3 q4 q5 q6
  go_wp2_with fail
  go_loopw [9] (fun s9 wr => ∃ j : Nat, j + 1 ≤ 4 ∧ s9 = .int .i64 ((j : Int) + 1) ∧ Hid (HitsR wr lo (.slice p n c) W ∧ Box3 wr w.heap.size (w.heap.size + 1) (w.heap.size + 1 + 1) (a1, a2) (b1, b2) (c1, c2) ∧ Below w.heap.size w wr)) (fun s9 _ => 10 - (RowKit.intOf s9).toNat)
  case atStart => exact ⟨0, by omega, rfl, HI0⟩
  case round =>
    clear HI0
    obtain ⟨j, hj, rfl, HI⟩ := hrel
    by_cases hlt : j + 1 < n
    · obtain ⟨g, e1, d0, d1⟩ := HI.out.1.cellN j (by omega)
      obtain ⟨g', e2, d2, d3⟩ := HI.out.1.cellN (j + 1) hlt
      have hgg : g = g' := some_inj (e1.symm.trans e2)
      subst hgg
      clear e2
      subst e1
      have hlss := HO.out.step j (by have := HN.out; omega)
      obtain ⟨x1, x2, hx⟩ : ∃ x1 x2, hat W j = (x1, x2) := ⟨_, _, rfl⟩
      obtain ⟨y1, y2, hy⟩ : ∃ y1 y2, hat W (j + 1) = (y1, y2) := ⟨_, _, rfl⟩
      rw [hx] at d0 d1 hlss
      rw [hy] at d2 d3 hlss
      simp only at d0 d1 d2 d3
      have hlt' : (j : Int) + 1 < n := by omega
      have hS0 : wr.cell? ⟨g, j * 2, none⟩ = some (.int .i64 x1) ∧ wr.cell? ⟨g, j * 2 + 1, none⟩ = some (.int .i64 x2) ∧ wr.cell? ⟨g, (j + 1) * 2, none⟩ = some (.int .i64 y1) ∧ wr.cell? ⟨g, (j + 1) * 2 + 1, none⟩ = some (.int .i64 y2) := ⟨d0, d1, d2, d3⟩
      have HLs : Hid (Calls Tryz.prog 25 #[.agg #[.int .i64 x1, .int .i64 x2], .agg #[.int .i64 y1, .int .i64 y2]] wr.drew fun e w' => e = .returned (.bool true) ∧ (w'.cell? ⟨g, j * 2, none⟩ = some (.int .i64 x1) ∧ w'.cell? ⟨g, j * 2 + 1, none⟩ = some (.int .i64 x2) ∧ w'.cell? ⟨g, (j + 1) * 2, none⟩ = some (.int .i64 y1) ∧ w'.cell? ⟨g, (j + 1) * 2 + 1, none⟩ = some (.int .i64 y2)) ∧ Hid (Below wr.heap.size wr w')) := by
        refine (less_at (x1, x2) (y1, y2) wr.drew).mono ?_
        rintro e w' ⟨rfl, rfl⟩
        have hb : Below wr.heap.size wr (boxed wr.drew (x1, x2) (y1, y2)) := by
          have h0 : Below wr.heap.size wr wr.drew := ⟨rfl, rfl, rfl, Nat.le_refl _, fun _ _ => rfl⟩
          exact h0.trans (boxed_below wr.drew (x1, x2) (y1, y2))
        have k1 := World.block_lt_of_cell? wr _ d0
        exact ⟨by rw [hlss], ⟨(hb.cell (p := ⟨g, j * 2, none⟩) k1).trans d0, (hb.cell (p := ⟨g, j * 2 + 1, none⟩) k1).trans d1, (hb.cell (p := ⟨g, (j + 1) * 2, none⟩) k1).trans d2, (hb.cell (p := ⟨g, (j + 1) * 2 + 1, none⟩) k1).trans d3⟩, hb⟩
      clear hx hy hlss d0 d1 d2 d3
      go_wp2_with fail
      have hwi : IntKind.i64.wrap ((j : Int) + 1 - 1) = (j : Int) := by rw [wrap_i64_id _ (by omega) (by omega)]; omega
      have hwj : IntKind.i64.wrap (j : Int) = (j : Int) := by rw [wrap_i64_id _ (by omega) (by omega)]
      have hjn : (j : Int) < n := by omega
      refine wp_region_noPanic ?_
      go_region_held (fun w' => w'.cell? ⟨g, j * 2, none⟩ = some (.int .i64 x1) ∧ w'.cell? ⟨g, j * 2 + 1, none⟩ = some (.int .i64 x2) ∧ w'.cell? ⟨g, (j + 1) * 2, none⟩ = some (.int .i64 y1) ∧ w'.cell? ⟨g, (j + 1) * 2 + 1, none⟩ = some (.int .i64 y2)) (first | assumption | exact hS0 | go_keep)
        (first | (go_at_call 25; refine HLs.out.mono ?_; rintro e w3 ⟨rfl, hS3, HB3⟩))
      refine NoPanic.normal ?_
      have HI3 : Hid (HitsR w3 lo (.slice (some ⟨g, 0, none⟩) n c) W ∧ Box3 w3 w.heap.size (w.heap.size + 1) (w.heap.size + 1 + 1) (a1, a2) (b1, b2) (c1, c2) ∧ Below w.heap.size w w3) :=
        ⟨HI.out.1.below HB3.out, HI.out.2.1.below HB3.out, HI.out.2.2.trans (HB3.out.mono HI.out.2.2.size)⟩
      clear HI HLs hS0 HB3 hS3 hwi hwj
      go_wp2_with fail
      exact ⟨⟨j + 1, by omega, by congr 1, HI3⟩, by simp [RowKit.intOf]; omega⟩
    · have hX := HI.out.2.1
      have hBw := HI.out.2.2
      obtain ⟨⟨q1, q2⟩, ⟨q3, q4⟩, ⟨q5, q6⟩⟩ := hX
      simp only at q1 q2 q3 q4 q5 q6
      have HB : Hid (Below w.heap.size w wr) := hBw
      have hlt' : ¬ ((j : Int) + 1 < n) := by omega
      clear HI hBw
      have L1 := fun W => less_at (a1, a2) (b1, b2) W
      have L2 := fun W => less_at (b1, b2) (c1, c2) W
      have L3 := fun W => less_at (a1, a2) (c1, c2) W
      have HT : Hid (lessH (a1, a2) (b1, b2) = true → lessH (b1, b2) (c1, c2) = true → lessH (a1, a2) (c1, c2) = true) := fun h1 h2 => lessH_trans h1 h2
      have HX0 : Hid (Box3 wr w.heap.size (w.heap.size + 1) (w.heap.size + 1 + 1) (a1, a2) (b1, b2) (c1, c2)) := ⟨⟨q1, q2⟩, ⟨q3, q4⟩, ⟨q5, q6⟩⟩
      unfold hitV at L1 L2 L3
      generalize lessH (a1, a2) (b1, b2) = l1 at *
      generalize lessH (b1, b2) (c1, c2) = l2 at *
      generalize lessH (a1, a2) (c1, c2) = l3 at *
      have HL1 : Hid (∀ W, Calls Tryz.prog 25 #[.agg #[.int .i64 (a1, a2).1, .int .i64 (a1, a2).2], .agg #[.int .i64 (b1, b2).1, .int .i64 (b1, b2).2]] W fun e w' => e = .returned (.bool l1) ∧ w' = boxed W (a1, a2) (b1, b2)) := L1
      have HL2 : Hid (∀ W, Calls Tryz.prog 25 #[.agg #[.int .i64 (b1, b2).1, .int .i64 (b1, b2).2], .agg #[.int .i64 (c1, c2).1, .int .i64 (c1, c2).2]] W fun e w' => e = .returned (.bool l2) ∧ w' = boxed W (b1, b2) (c1, c2)) := L2
      have HL3 : Hid (∀ W, Calls Tryz.prog 25 #[.agg #[.int .i64 (a1, a2).1, .int .i64 (a1, a2).2], .agg #[.int .i64 (c1, c2).1, .int .i64 (c1, c2).2]] W fun e w' => e = .returned (.bool l3) ∧ w' = boxed W (a1, a2) (c1, c2)) := L3
      clear L1 L2 L3
      go_wp2_with fail
      refine (HL1.out _).mono ?_
      rintro e w3 ⟨rfl, hw3⟩
      have hb3 : Below wr.heap.size wr w3 := by rw [hw3]; exact boxed_below _ _ _
      have HX3 : Hid (Box3 w3 w.heap.size (w.heap.size + 1) (w.heap.size + 1 + 1) (a1, a2) (b1, b2) (c1, c2)) := HX0.out.below hb3
      have HB3 : Hid (Below w.heap.size w w3) := HB.out.trans (hb3.mono HB.out.size)
      clear hw3 hb3 q1 q2 q3 q4 q5 q6 HX0 HB
      obtain ⟨⟨q1, q2⟩, ⟨q3, q4⟩, ⟨q5, q6⟩⟩ := HX3.out
      simp only at q1 q2 q3 q4 q5 q6
      cases l1 with
      | false =>
        go_wp2_with fail
        go_ret
        exact ⟨rfl, HB3.out⟩
      | true =>
        go_wp2_with fail
        refine (HL2.out _).mono ?_
        rintro e w4 ⟨rfl, hw4⟩
        have hb4 : Below w3.heap.size w3 w4 := by rw [hw4]; exact boxed_below _ _ _
        have HX4 : Hid (Box3 w4 w.heap.size (w.heap.size + 1) (w.heap.size + 1 + 1) (a1, a2) (b1, b2) (c1, c2)) := HX3.out.below hb4
        have HB4 : Hid (Below w.heap.size w w4) := HB3.out.trans (hb4.mono HB3.out.size)
        clear hw4 hb4 q1 q2 q3 q4 q5 q6 HX3 HB3
        obtain ⟨⟨q1, q2⟩, ⟨q3, q4⟩, ⟨q5, q6⟩⟩ := HX4.out
        simp only at q1 q2 q3 q4 q5 q6
        cases l2 with
        | false =>
          go_wp2_with fail
          go_ret
          exact ⟨rfl, HB4.out⟩
        | true =>
          have hl3 : l3 = true := by simpa [Hid] using HT.out
          subst hl3
          go_wp2_with fail
          refine (HL3.out _).mono ?_
          rintro e w5 ⟨rfl, hw5⟩
          have hb5 : Below w4.heap.size w4 w5 := by rw [hw5]; exact boxed_below _ _ _
          have HB5 : Hid (Below w.heap.size w w5) := HB4.out.trans (hb5.mono HB4.out.size)
          clear hw5 hb5 HX4 HB4
          go_wp2_with fail
          go_ret
          exact ⟨rfl, HB5.out⟩
end Go.Proofs.YteehcffmccgciaaGreatDoor
