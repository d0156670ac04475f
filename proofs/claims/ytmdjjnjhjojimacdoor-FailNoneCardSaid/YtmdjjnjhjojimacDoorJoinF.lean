import Derived.Test.YtmdjjnjhjojimacDoorJoinE
import Derived.Test.YtmdjjnjhjojimacDoorBegB
namespace Go.Proofs.YtmdjjnjhjojimacDoor
open Go.RowKit Go.Maps

theorem rem_any (x m : Int) (hm : 0 < m) : -m < x.tmod m ∧ x.tmod m < m := by
  refine ⟨?_, Int.tmod_lt_of_pos x hm⟩
  rcases Int.le_total 0 x with h | h
  · have := Int.tmod_nonneg m h; omega
  · have h2 : 0 ≤ (-x).tmod m := Int.tmod_nonneg m (by omega)
    have h3 := Int.tmod_lt_of_pos (-x) hm
    rw [Int.neg_tmod] at h2 h3
    omega

set_option maxRecDepth 100000 in
set_option maxHeartbeats 4000000 in
theorem failNone_true (st : ByteArray) (code inner : Int) (w : World) (hg : w.cell? ⟨0, 0, none⟩ = some errType) :
    Calls Tryd.prog 4 #[.string st, .int .i64 code, .int .i64 inner] w fun e w' => e = .returned (.bool true) ∧ Below w.heap.size w w' := by
  have hN1 := rem_any code 12 (by omega)
  have hN2 := rem_any inner 12 (by omega)
  go_enter Tryd.func4, Tryd.ntmps4
  go_wp2_with fail
  refine (begun_true _ hg).mono ?_
  rintro e w1 ⟨rfl, hb1⟩
  have hbs1 := hb1.size
  have hg1 : w1.cell? ⟨0, 0, none⟩ = some errType := (hb1.cell (p := ⟨0, 0, none⟩) (World.block_lt_of_cell? w _ hg)).trans hg
  clear hg
  go_wp2_with fail
  have hc : 1 ≤ 1 + code.tmod 12 % 12 ∧ 1 + code.tmod 12 % 12 ≤ 12 := by omega
  have hd : 1 ≤ 1 + inner.tmod 12 % 12 ∧ 1 + inner.tmod 12 % 12 ≤ 12 := by omega
  clear hN1 hN2
  generalize 1 + code.tmod 12 % 12 = c at hc ⊢
  generalize 1 + inner.tmod 12 % 12 = d at hd ⊢
  have hbA : Below w.heap.size w (w1.alloc (.cells #[errno c, errno d] 32)) := hb1.alloc hb1.size _
  have hgA : (w1.alloc (.cells #[errno c, errno d] 32)).cell? ⟨0, 0, none⟩ = some errType := (((Below.refl _ w1).alloc (Nat.le_refl _) (.cells #[errno c, errno d] 32)).cell (p := ⟨0, 0, none⟩) (World.block_lt_of_cell? w1 _ hg1)).trans hg1
  refine (join_two w1.heap.size c d _ (by simp) (by simp)).mono ?_
  rintro e w2 ⟨jb, v, rfl, hj, hb2⟩
  have hbw2 : Below w.heap.size w w2 := hbA.trans (hb2.mono hbA.size)
  have hg2 : w2.cell? ⟨0, 0, none⟩ = some errType := (hb2.cell (p := ⟨0, 0, none⟩) (World.block_lt_of_cell? _ _ hgA)).trans hgA
  obtain ⟨r, tt, rfl, hr0, hr1⟩ : ∃ r tt, v = .slice (some ⟨r, 0, none⟩) 2 tt ∧ w2.cell? ⟨r, 0, none⟩ = some (errno c) ∧ w2.cell? ⟨r, 1, none⟩ = some (errno d) := by
    obtain ⟨_, ⟨_, x⟩ | ⟨r, t, cur, e, _, hblk, _, _, _, hcur⟩⟩ := hj.row
    · cases x
    · refine ⟨r, t, e, ?_, ?_⟩
      · rw [cell_of_row _ _ 0 cur 32 (0, 0) hblk]
        have := congrArg (fun l => l[0]?) hcur
        simpa [List.getElem?_take] using this
      · rw [cell_of_row _ _ 1 cur 32 (0, 0) hblk]
        have := congrArg (fun l => l[1]?) hcur
        simpa [List.getElem?_take] using this
  have hj0 := hj.c0
  clear hj hb1 hbA hgA hg1 hb2
  go_wp2_with fail
  refine (at_join st jb w2).mono ?_
  rintro e w3 ⟨rfl, hw⟩
  have hb3 : Below w2.heap.size w2 w3 := by rw [hw]; exact (Below.refl _ w2).alloc (Nat.le_refl _) _
  have hB : Both w3 w2.heap.size jb r tt st c d := {
    p0 := by rw [hw]; simp
    p1 := by rw [hw]; simp
    j0 := (hb3.cell (p := ⟨jb, 0, none⟩) (World.block_lt_of_cell? w2 _ hj0)).trans hj0
    r0 := (hb3.cell (p := ⟨r, 0, none⟩) (World.block_lt_of_cell? w2 _ hr0)).trans hr0
    r1 := (hb3.cell (p := ⟨r, 1, none⟩) (World.block_lt_of_cell? w2 _ hr1)).trans hr1 }
  have hg3 : w3.cell? ⟨0, 0, none⟩ = some errType := (hb3.cell (p := ⟨0, 0, none⟩) (World.block_lt_of_cell? _ _ hg2)).trans hg2
  have hbw3 : Below w.heap.size w w3 := hbw2.trans (hb3.mono hbw2.size)
  clear hw hb3 hr0 hr1 hj0 hg2 hbw2
  generalize w2.heap.size = b at hB ⊢
  go_wp2_with fail
  refine (at_nil st _).mono ?_
  rintro e w' ⟨rfl, hw⟩
  obtain rfl := hw.symm
  clear hw
  go_wp2_with fail
  refine (at_nil st _).mono ?_
  rintro e w' ⟨rfl, hw⟩
  obtain rfl := hw.symm
  clear hw
  go_wp2_with fail
  refine (code_join c d hB hg3).mono ?_
  rintro e w4 ⟨rfl, hb4⟩
  have hB4 := hB.below hb4
  have hbw4 : Below w.heap.size w w4 := hbw3.trans (hb4.mono hbw3.size)
  clear hb4 hB hbw3 hg3
  have hc0 : (c == 0) = false := by simp; omega
  have hd0 : (d == 0) = false := by simp; omega
  go_wp2_with fail
  have h1 := fis_join c d c hB4 hc0
  rw [show (c == c || d == c) = true from by simp] at h1
  refine h1.mono ?_
  clear h1
  rintro e w5 ⟨rfl, hb5⟩
  have hB5 := hB4.below hb5
  have hbw5 : Below w.heap.size w w5 := hbw4.trans (hb5.mono hbw4.size)
  clear hb5 hB4 hbw4
  go_wp2_with fail
  have h1 := fis_join c d d hB5 hd0
  rw [show (c == d || d == d) = true from by simp] at h1
  refine h1.mono ?_
  clear h1
  rintro e w6 ⟨rfl, hb6⟩
  have hB6 := hB5.below hb6
  have hbw6 : Below w.heap.size w w6 := hbw5.trans (hb6.mono hbw5.size)
  clear hb6 hB5 hbw5
  go_wp2_with fail
  refine (fis_nilc c w6 hc0).mono ?_
  rintro e w7 ⟨rfl, hb7⟩
  have hB7 := hB6.below hb7
  have hbw7 : Below w.heap.size w w7 := hbw6.trans (hb7.mono hbw6.size)
  clear hb7 hB6 hbw6
  go_wp2_with fail
  refine (fis_nil w7).mono ?_
  rintro e w8 ⟨rfl, hb8⟩
  have hB8 := hB7.below hb8
  have hbw8 : Below w.heap.size w w8 := hbw7.trans (hb8.mono hbw7.size)
  clear hb8 hB7 hbw7
  go_wp2_with fail
  refine (where_join hB8).mono ?_
  rintro e w9 ⟨a9, c9, rfl, hb9⟩
  have hbw9 : Below w.heap.size w w9 := hbw8.trans (hb9.mono hbw8.size)
  go_wp2
  go_ret
  exact ⟨rfl, hbw9⟩
end Go.Proofs.YtmdjjnjhjojimacDoor
