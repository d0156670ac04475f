import Derived.Test.YtmdjjnjhjojimaaDoorAllB
import Derived.Deep.AppendLies
import Derived.Deep.RegionHeldLaw
import Derived.Deep.RegionHeld3
namespace Go.Proofs.YtmdjjnjhjojimaaDoor
open Go.RowKit Go.Maps

theorem below_dr {B : Nat} {a W : World} (h : Below B a W) : Below B a W.drew := ⟨h.os, h.tape, h.output, h.size, h.block⟩
/-- A row's block and cells. -/
theorem row_at {w : World} {base m : Nat} {v : Value} {xs : List Value} (h : w.ownsRow base 5 1 v m xs) (hm : 0 < m) : ∃ g c, v = .slice (some ⟨g, 0, none⟩) m c ∧ base ≤ g ∧ g < w.heap.size ∧ w.rangeAt g 0 xs := by
  obtain ⟨hl, ⟨e, h0⟩ | ⟨g, cap, cur, e, hg, hblk, hnc, hcm, hcs, hcur⟩⟩ := h
  · omega
  · refine ⟨g, cap, e, hg, (Array.getElem?_eq_some_iff.1 hblk).1, ?_⟩
    intro j u hu
    rw [cell_of_row _ _ (0 + j) cur 5 (0, 0) hblk]
    rw [← hcur, List.getElem?_take] at hu
    split at hu
    · simpa using hu
    · cases hu

set_option maxRecDepth 100000 in
set_option maxHeartbeats 1000000 in
theorem refWrite_ok {w : World} {Bad : Nat → Prop} {r nb sb lb n cn cs cl : Nat} {Now Safe : Nat → List UInt8} {Lz : Nat → Bool} {fuse : Int} {fused : Bool} (h : RefAt w Bad r nb sb lb n cn cs cl Now Safe Lz fuse fused) (hd : (fused && decide (fuse ≤ 0)) = false) (i : Nat) (hi : i < n) (s : List UInt8) (hs : s.length = 64) (b o c : Nat) (hsrc : w.rangeAt b o (bytesV s)) (hb : b < w.heap.size) (hbr : b ≠ r) :
    Calls Tryd.prog 13 #[.pointer (some ⟨r, 0, none⟩), .int .i64 i, .slice (some ⟨b, o, none⟩) 64 c] w fun e w' => e = .returned (.int .i64 0) ∧ RefAt w' Bad r nb sb lb n cn cs cl (upd Now i s) Safe (upd Lz i true) (spendF fused fuse) fused ∧ Keeps (fun x => x = r ∨ x = nb ∨ x = lb) w w' := by
  obtain ⟨i0, hi0, hz0, hz1, hz2⟩ := info_parts info5
  have c0 := h.c0
  have hdd : fuse ≤ 0 → fused = false := by intro e; cases fused; rfl; simp [e] at hd
  go_enter Tryd.func13, Tryd.ntmps13
  go_wp2_with (go_at_call 17; refine (refDown h).mono ?_; rintro e w' ⟨rfl, hw⟩; obtain rfl := hw.symm; rw [hd])
  refine (refSpend' h hdd).mono ?_
  rintro e w1 ⟨rfl, h1, hk1⟩
  have hr1 : w1.rangeAt b o (bytesV s) := fun j v hv => (hk1.cell (p := ⟨b, o + j, none⟩) hb hbr).trans (hsrc j v hv)
  have hk1' : Keeps (fun x => x = r ∨ x = nb ∨ x = lb) w w1 := hk1.mono (fun _ e => Or.inl e)
  clear h hd hdd hsrc hk1 c0
  have c0 := h1.c0
  have hgo : ∀ w2 : World, Below w1.heap.size w1 w2 → RefAt w2 Bad r nb sb lb n cn cs cl Now Safe Lz (spendF fused fuse) fused := fun w2 hb2 => h1.below hb2
  obtain ⟨b0, cb0, e0, _⟩ := h1.now.at_ i hi
  have f0 := h1.now.fz i
  have hnl := h1.now.lt
  have hrl := h1.rlt
  have hrn := h1.ne.1
  have hq1 : (bytesV s).length = 64 * 1 := by rw [bytesV_length]; omega
  have hq2 : ∀ j u, (bytesV s)[j]? = some u → w1.cell? (Addr.add ⟨b, o, none⟩ j) = some u := by
    intro j u hj
    rw [Addr.add_mid]
    exact hr1 j u hj
  have hq3 : 0 < 64 := by omega
  have hq4 : 0 + 64 ≤ maxLen := by unfold maxLen; omega
  have hq5 : (0 + 64) * 1 ≤ 140737488355328 := by omega
  go_wp2_with fail
  refine wp_region_noPanic ?_
  go_region_held_law (fun w' => w'.cell? ⟨r, 0, none⟩ = some (.slice (some ⟨nb, 0, none⟩) n cn)) (first | assumption | exact c0 | (rw [World.cell?_setCell_far _ _ _ _ (fun e => hrn e.symm)]; assumption))
    (first | (refine step_append_lies _ rfl _ _ 33 rfl w1.heap.size 5 i0 (.int .u8 0) 1 1 Tryd.underlying33 hi0 hz0 hz1 hz2 rfl (by decide) (.slice none 0 0) 0 [] rfl (World.ownsRow_nil _ _ _ _) ⟨b, o, none⟩ 64 c (bytesV s) rfl hq1 hq2 (bytesV_one _) hq3 hq4 hq5 (Nat.le_refl _) _ rfl ?_; intro g cg w2 hown hgrow hat hlt; have hb2 : Below w1.heap.size w1 w2 := (below_dr (Below.refl _ w1)).grown hgrow (Nat.le_refl _) (fun k e => by cases e); have c02 : w2.cell? ⟨r, 0, none⟩ = some (.slice (some ⟨nb, 0, none⟩) n cn) := (hb2.cell (p := ⟨r, 0, none⟩) hrl).trans c0; have e02 : w2.cell? ⟨nb, i, none⟩ = some (.slice (some ⟨b0, 0, none⟩) 64 cb0) := (hb2.cell (p := ⟨nb, i, none⟩) hnl).trans e0; have f02 : w2.frozen? ⟨nb, i, none⟩ = false := (hb2.frozen (p := ⟨nb, i, none⟩) hnl).trans f0))
  refine NoPanic.normal ?_
  rw [show 0 + 64 = 64 from rfl, List.nil_append] at hown
  obtain ⟨g', cg', e', hg1, hg2, hrg⟩ := row_at hown (by omega)
  cases e'
  have h2 := hgo w2 hb2
  have hgb : ¬ Bad g := fun x => by have := h1.blt g x; omega
  have hk2 : Keeps (fun x => x = r ∨ x = nb ∨ x = lb) w w2 := hk1'.trans (Keeps.of_below hb2)
  have h3 := h2.putNow i hi s hs g cg hg2 hgb hrg
  have hk3 := hk2.setCell (p := ⟨nb, i, none⟩) (Or.inr (Or.inl rfl)) (.slice (some ⟨g, 0, none⟩) 64 cg)
  have c2 := h3.c2
  have hl := h3.lz i hi
  have fl := h3.lf i
  have h4 := h3.putLoose i hi true
  have hk4 := hk3.setCell (p := ⟨lb, i, none⟩) (Or.inr (Or.inr rfl)) (.bool true)
  clear h1 c0 hr1 hb2 hown hgrow hk1' hgo e0 f0 e02 f02 c02 hq1 hq2 hq3 hq4 hq5 h2 h3 hk2 hk3 hrg

  generalize w2.setCell ⟨nb, i, none⟩ (.slice (some ⟨g, 0, none⟩) 64 cg) = w3 at c2 hl fl h4 hk4 ⊢
  go_wp2
  go_ret
  exact ⟨rfl, h4, hk4⟩
end Go.Proofs.YtmdjjnjhjojimaaDoor
