import Derived.Test.YteaacodloabdcaaGreatDoorQtE
import Derived.Deep.AppendLies
import Derived.Test.YteaacodloabdcaaGreatDoorPlA
namespace Go.Proofs.YteaacodloabdcaaGreatDoor
open Go.RowKit Go.Maps

theorem infoVec : (Tryz.prog.info? 23).map (fun i => (i.zero, i.size, i.bytes)) = some (some (.slice none 0 0), 1, 24) := by kernel_rfl
abbrev slV (d g : Nat) : Value := .slice (some ⟨g, 0, none⟩) d d
/-- How far Vecs has come. -/
structure VecsI (w wr : World) (d j : Nat) (u : Value) (gs : List Nat) (VS : List (List Int)) : Prop where
  row : wr.ownsRow w.heap.size 23 1 u gs.length (gs.map (slV d))
  len : gs.length = j
  at_ : ∀ i, i < j → VecR wr (gs.getD i 0) (slV d (gs.getD i 0)) (clampA (VS.getD i []) d) ∧ w.heap.size ≤ gs.getD i 0
  ne : ∀ i, i < j → u.ownBlock ≠ some (gs.getD i 0)
  u : Below w.heap.size w wr
theorem ownsRow_lt {w : World} {lo e z n : Nat} {v : Value} {V : List Value} (h : w.ownsRow lo e z v n V) (k : Nat) (hk : v.ownBlock = some k) : k < w.heap.size := by
  rcases h.2 with ⟨rfl, _⟩ | ⟨g, cap, cur, rfl, hb, hH, _⟩
  · cases hk
  · cases hk; exact (Array.getElem?_eq_some_iff.1 hH).1
theorem VecsI.grow {w wr W w5 : World} {d j g g5 c5 : Nat} {u : Value} {gs : List Nat} {VS : List (List Int)} (h : VecsI w wr d j u gs VS) (hb : Below wr.heap.size wr W) (hg : wr.heap.size ≤ g) (hgW : g < W.heap.size) (hR : VecR W g (slV d g) (clampA (VS.getD j []) d)) (hgrow : W.grownBy w5 u.ownBlock)
    (hown : w5.ownsRow w.heap.size 23 1 (.slice (some ⟨g5, 0, none⟩) (j + 1) c5) (j + 1) (gs.map (slV d) ++ [slV d g])) (hat : u.ownBlock = some g5 ∨ W.heap.size ≤ g5) : VecsI w w5 d (j + 1) (.slice (some ⟨g5, 0, none⟩) (j + 1) c5) (gs ++ [g]) VS := by
  have hk : Keeps (fun i => u.ownBlock = some i) W w5 := (Keeps.of_below (Below.refl _ _)).grown hgrow (fun k e => e)
  have hl := h.len
  have hul : ∀ k, u.ownBlock = some k → k < wr.heap.size := fun k e => ownsRow_lt h.row k e
  have hlow : ∀ k, u.ownBlock = some k → w.heap.size ≤ k := fun k e => ownsRow_low h.row k e
  have hlast : (gs ++ [g]).getD j 0 = g := by simp [List.getD, ← hl]
  have hfirst : ∀ i, i < j → (gs ++ [g]).getD i 0 = gs.getD i 0 := fun i hi => by simp [List.getD, List.getElem?_append_left (show i < gs.length by omega)]
  have hsz := h.u.size
  have hbs := hb.size
  refine ⟨?_, by rw [List.length_append]; simp [hl], ?_, ?_, ?_⟩
  · rw [List.length_append, List.map_append, hl]
    exact hown
  · intro i hi
    by_cases e : i = j
    · subst e
      rw [hlast]
      exact ⟨hR.far hk (fun e => by have := hul g e; omega), by omega⟩
    · rw [hfirst i (by omega)]
      obtain ⟨h1, h2⟩ := h.at_ i (by omega)
      have h3 := h.ne i (by omega)
      exact ⟨(h1.below hb).far hk h3, h2⟩
  · intro i hi e
    have e : g5 = (gs ++ [g]).getD i 0 := by
      injection e
    by_cases ei : i = j
    · subst ei
      rw [hlast] at e
      rcases hat with q | q
      · have := hul g5 q; omega
      · omega
    · rw [hfirst i (by omega)] at e
      rcases hat with q | q
      · exact h.ne i (by omega) (by rw [q, e])
      · have h1 := (h.at_ i (by omega)).1.gl
        omega
  · exact (h.u.trans (hb.mono hsz)).grown hgrow (by omega) hlow
set_option maxRecDepth 100000 in
set_option maxHeartbeats 1000000 in
theorem vecs_at {w : World} {a : Option Addr} {m c : Nat} {VS : List (List Int)} (h : VecsAt w a m c VS) (d : Nat) (hd : d ≤ 1000) (n : Nat) (hn : n ≤ 1000) :
    Calls Tryz.prog 15 #[.slice a m c, .int .i64 d, .int .i64 n] w fun e w' => ∃ u gs, e = .returned u ∧ VecsI w w' d (min m n) u gs VS := by
  have HV : Hid (VecsAt w a m c VS) := h
  obtain ⟨i0, hi, hz0, hz1, hz2⟩ := info_parts infoVec
  clear h
  have HI0 : Hid (∃ gs, VecsI w w d 0 (.slice none 0 0) gs VS) := ⟨[], World.ownsRow_nil _ _ _ _, rfl, fun i h => by omega, fun i h => by omega, Below.refl _ _⟩
  go_enter Tryz.func15, Tryz.ntmps15
  go_wp2_with fail
  go_loopw [7, 8] (fun s7 s8 wr => ∃ j : Nat, j ≤ m ∧ j ≤ n ∧ s8 = .int .i64 j ∧ Hid (∃ gs, VecsI w wr d j s7 gs VS)) (fun _ s8 _ => m - (RowKit.intOf s8).toNat)
  case atStart => exact ⟨0, Nat.zero_le _, Nat.zero_le _, rfl, HI0⟩
  case round =>
    clear HI0
    obtain ⟨j, hj, hj2, rfl, HI⟩ := hrel
    by_cases hlt : j < m ∧ j < n
    · obtain ⟨hlt, hlt2⟩ := hlt
      obtain ⟨gs, hI⟩ := HI.out
      have HJ : Hid (VecsI w wr d j u7 gs VS) := hI
      obtain ⟨b, o, p, k, cc, rfl, hb, hc, hk, hv⟩ := HV.out.at_ j hlt
      have hc1 := (HJ.out.u.cell (p := ⟨b, o + j, none⟩) hb).trans hc
      have HVw : Hid (VecAt wr p k cc (VS.getD j [])) := hv.all HJ.out.u
      clear HI hI hb hc hv
      go_wp2_with fail
      refine (vec_at HVw.out d hd).mono ?_
      rintro e w2 ⟨g, rfl, hg, hR, hb2⟩
      have hA : Below w2.heap.size w2 (w2.alloc (.cells #[.slice (some ⟨g, 0, none⟩) d d] 23)) := (Below.refl _ _).alloc (Nat.le_refl _) _
      have HbW : Hid (Below wr.heap.size wr (w2.alloc (.cells #[.slice (some ⟨g, 0, none⟩) d d] 23))) := hb2.trans (hA.mono hb2.size)
      have HRW : Hid (VecR (w2.alloc (.cells #[.slice (some ⟨g, 0, none⟩) d d] 23)) g (slV d g) (clampA (VS.getD j []) d)) := hR.below hA
      have hSz : (w2.alloc (.cells #[.slice (some ⟨g, 0, none⟩) d d] 23)).heap.size = w2.heap.size + 1 := by simp
      have hgl := hR.gl
      have HgW : Hid (wr.heap.size ≤ g ∧ g < (w2.alloc (.cells #[.slice (some ⟨g, 0, none⟩) d d] 23)).heap.size) := ⟨hg, by rw [hSz]; omega⟩
      have HOw : Hid ((w2.alloc (.cells #[.slice (some ⟨g, 0, none⟩) d d] 23)).ownsRow w.heap.size 23 1 u7 gs.length (gs.map (slV d))) := ownsRow_stay HJ.out.row (Keeps.of_below (S := fun _ => False) HbW.out) (fun _ _ e => e)
      have hgl2 : gs.length ≤ 1000 := by have := HJ.out.len; omega
      have hq2 : gs.length + 1 ≤ maxLen := by unfold maxLen; omega
      have hq3 : (gs.length + 1) * 24 ≤ 140737488355328 := by omega
      have hq4 : w.heap.size ≤ (w2.alloc (.cells #[.slice (some ⟨g, 0, none⟩) d d] 23)).heap.size := by
        have h1 := HJ.out.u.size
        have h2 := HbW.out.size
        omega
      have hlen := HJ.out.len
      clear hA hR hb2 hg hgl hgl2
      go_wp2_with (at_builtin; refine wpList_append_lies _ rfl _ _ 32 rfl w.heap.size 23 i0 (.slice none 0 0) 1 24 Tryz.underlying32 hi hz0 hz1 hz2 rfl (by decide) u7 gs.length (gs.map (slV d)) rfl HOw.out ⟨w2.heap.size, 0, none⟩ 1 1 [.slice (some ⟨g, 0, none⟩) d d] rfl rfl (one_newW _ _ _ _) (fun u hu => by cases hu with | head => rfl | tail _ h => cases h) (by decide) hq2 hq3 hq4 (w2.heap.size + 1) hSz ?_)
      intro g5 c5 w5 hown5 hgrow5 hat5 hlt5
      have HN : Hid (∃ gs, VecsI w w5 d (j + 1) (.slice (some ⟨g5, 0, none⟩) (j + 1) c5) gs VS) := ⟨_, HJ.out.grow HbW.out HgW.out.1 HgW.out.2 HRW.out hgrow5 hown5 (hat5.elim Or.inl (fun q => Or.inr (by rw [hSz, q]; exact Nat.le_refl _)))⟩
      clear hown5 hgrow5 hat5 hlt5 HJ HbW HRW hSz HgW HOw hq2 hq3 hq4 hlen
      go_wp2_with fail
      exact ⟨⟨j + 1, by omega, by omega, rfl, HN⟩, by simp [RowKit.intOf]; omega⟩
    · have hjm : j = min m n := by omega
      obtain ⟨gs, hI⟩ := HI.out
      have HJ : Hid (VecsI w wr d (min m n) u7 gs VS) := by rw [← hjm]; exact hI
      clear HI hI
      rcases (show m ≤ j ∨ (j < m ∧ n ≤ j) by omega) with hex | ⟨hex1, hex2⟩
      all_goals
        clear hlt hjm
        go_wp2_with fail
        go_ret
        exact ⟨_, gs, rfl, HJ.out⟩
end Go.Proofs.YteaacodloabdcaaGreatDoor
