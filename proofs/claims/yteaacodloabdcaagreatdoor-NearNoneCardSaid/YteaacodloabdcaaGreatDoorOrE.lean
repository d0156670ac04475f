import Derived.Test.YteaacodloabdcaaGreatDoorOrA
import Derived.Deep.RegionWith
import Derived.Deep.DeepCutAuto
import Derived.Deep.CutRange
namespace Go.Proofs.YteaacodloabdcaaGreatDoor
open Go.RowKit Go.Maps

theorem mkInts (n : Nat) (h : n ≤ 1000) (w : World) : (Instr.makeSlice 47 (.int .i64 n) (.int .i64 n)).run Tryz.prog w = .ok (.slice (some ⟨w.heap.size, 0, none⟩) n n) (w.alloc (.cells (irow n) 3)) := by
  have hx := infoInt
  cases hq : Tryz.prog.info? 3 with
  | none => rw [hq] at hx; cases hx
  | some i =>
    rw [hq] at hx
    simp only [Option.map_some, Option.some.injEq, Prod.mk.injEq] at hx
    obtain ⟨h1, h2, h3⟩ := hx
    rw [run_make w 47 3 i _ Tryz.underlying47 hq h1 .i64 .i64 n n (by omega) (by omega) (by rw [h3]; omega) (by omega)]
    have e : madeCells (Value.int .i64 0).cells ((n : Int).toNat * i.size) = irow n := by
      rw [h2]
      show madeCells #[.int .i64 0] (n * 1) = _
      unfold madeCells irow
      apply Array.ext
      · simp
      · intro j hj1 hj2
        simp [Nat.mod_one]
    rw [e]
    simp
/-- How far places and scores are laid. -/
structure OrdJ (w wr : World) (gp gb gs n : Nat) (f : Nat → Int) (j : Nat) : Prop where
  pc : ∀ k, k < n → ∃ v, wr.cell? ⟨gp, k, none⟩ = some v ∧ (k < j → v = .int .i64 k)
  sc : ∀ k, k < n → ∃ v, wr.cell? ⟨gs, k, none⟩ = some v ∧ (k < j → v = .int .i64 (f k))
  b : wr.cell? ⟨gb, 0, none⟩ = some (.slice (some ⟨gs, 0, none⟩) n n)
  pf : ∀ o, wr.frozen? ⟨gp, o, none⟩ = false
  sf : ∀ o, wr.frozen? ⟨gs, o, none⟩ = false
  n1 : gp ≠ gb
  n2 : gp ≠ gs
  n3 : gs ≠ gb
  l1 : w.heap.size ≤ gp ∧ gp < wr.heap.size
  l2 : w.heap.size ≤ gs ∧ gs < wr.heap.size
  u : Below w.heap.size w wr
theorem OrdJ.below {w wr w' : World} {gp gb gs n j : Nat} {f : Nat → Int} (h : OrdJ w wr gp gb gs n f j) (hb : Below wr.heap.size wr w') : OrdJ w w' gp gb gs n f j := { h with
  pc := fun k hk => by
    obtain ⟨v, h1, h2⟩ := h.pc k hk
    exact ⟨v, (hb.cell (p := ⟨gp, k, none⟩) h.l1.2).trans h1, h2⟩
  sc := fun k hk => by
    obtain ⟨v, h1, h2⟩ := h.sc k hk
    exact ⟨v, (hb.cell (p := ⟨gs, k, none⟩) h.l2.2).trans h1, h2⟩
  b := (hb.cell (p := ⟨gb, 0, none⟩) (World.block_lt_of_cell? _ _ h.b)).trans h.b
  pf := fun o => by rw [hb.frozen (p := ⟨gp, o, none⟩) h.l1.2]; exact h.pf o
  sf := fun o => by rw [hb.frozen (p := ⟨gs, o, none⟩) h.l2.2]; exact h.sf o
  l1 := ⟨h.l1.1, Nat.lt_of_lt_of_le h.l1.2 hb.size⟩
  l2 := ⟨h.l2.1, Nat.lt_of_lt_of_le h.l2.2 hb.size⟩
  u := h.u.trans (hb.mono h.u.size) }
theorem OrdJ.step {w wr : World} {gp gb gs n j : Nat} {f : Nat → Int} (h : OrdJ w wr gp gb gs n f j) (hj : j < n) : OrdJ w ((wr.setCell ⟨gp, j, none⟩ (.int .i64 j)).setCell ⟨gs, j, none⟩ (.int .i64 (f j))) gp gb gs n f (j + 1) where
  pc := fun k hk => by
    obtain ⟨v, h1, h2⟩ := h.pc k hk
    rw [World.cell?_setCell_other _ _ _ _ (by intro q; injection q with q; exact h.n2 q.symm)]
    by_cases e : k = j
    · subst e
      exact ⟨_, World.cell?_setCell_same _ _ _ h1, fun _ => rfl⟩
    · exact ⟨v, by rw [World.cell?_setCell_other _ _ _ _ (by intro q; injection q with _ q; exact e q.symm)]; exact h1, fun h3 => h2 (by omega)⟩
  sc := fun k hk => by
    obtain ⟨v, h1, h2⟩ := h.sc k hk
    have h1' : (wr.setCell ⟨gp, j, none⟩ (.int .i64 j)).cell? ⟨gs, k, none⟩ = some v := by
      rw [World.cell?_setCell_other _ _ _ _ (by intro q; injection q with q; exact h.n2 q)]; exact h1
    by_cases e : k = j
    · subst e
      exact ⟨_, World.cell?_setCell_same _ _ _ h1', fun _ => rfl⟩
    · exact ⟨v, by rw [World.cell?_setCell_other _ _ _ _ (by intro q; injection q with _ q; exact e q.symm)]; exact h1', fun h3 => h2 (by omega)⟩
  b := by
    rw [World.cell?_setCell_other _ _ _ _ (by intro q; injection q with q; exact h.n3 q), World.cell?_setCell_other _ _ _ _ (by intro q; injection q with q; exact h.n1 q)]
    exact h.b
  pf := fun o => by rw [World.frozen?_setCell, World.frozen?_setCell]; exact h.pf o
  sf := fun o => by rw [World.frozen?_setCell, World.frozen?_setCell]; exact h.sf o
  n1 := h.n1
  n2 := h.n2
  n3 := h.n3
  l1 := by rw [World.size_setCell, World.size_setCell]; exact h.l1
  l2 := by rw [World.size_setCell, World.size_setCell]; exact h.l2
  u := (h.u.setCell h.l1.1 _).setCell h.l2.1 _
theorem OrdJ.done {w wr : World} {gp gb gs n : Nat} {f : Nat → Int} (h : OrdJ w wr gp gb gs n f n) : OrdI wr wr gp gb gs n f (outS f 0) where
  c := fun k hk => by
    obtain ⟨v, h1, h2⟩ := h.pc k hk
    rw [h1, h2 hk]
    unfold outS
    rw [if_neg (by omega)]
  fz := h.pf
  s := ⟨h.b, fun k hk => by
    obtain ⟨v, h1, h2⟩ := h.sc k hk
    rw [h1, h2 hk]⟩
  k := Keeps.refl _ _
  nb := h.n1
  ns := h.n2
theorem heap3 (w : World) (A B C : Obj) : (((w.alloc A).alloc B).alloc C).drew.heap[w.heap.size]? = some A ∧ (((w.alloc A).alloc B).alloc C).drew.heap[w.heap.size + 1]? = some B ∧ (((w.alloc A).alloc B).alloc C).drew.heap[w.heap.size + 1 + 1]? = some C := by
  have e : (((w.alloc A).alloc B).alloc C).drew.heap = ((w.heap.push A).push B).push C := rfl
  rw [e]
  refine ⟨?_, ?_, ?_⟩
  · rw [Array.getElem?_push, if_neg (by simp; omega), Array.getElem?_push, if_neg (by simp), Array.getElem?_push, if_pos rfl]
  · rw [Array.getElem?_push, if_neg (by simp), Array.getElem?_push, if_pos (by simp)]
  · rw [Array.getElem?_push, if_pos (by simp)]
theorem below3 (w : World) (A B C : Obj) : Below w.heap.size w (((w.alloc A).alloc B).alloc C).drew := by
  have h := (((Below.refl _ w).alloc (Nat.le_refl _) A).alloc (by simp) B).alloc (by simp; omega) C
  exact ⟨h.os, h.tape, h.output, h.size, h.block⟩
theorem OrdJ.rows {w W : World} {gp gb gs m : Nat} {f : Nat → Int} (hp : W.heap[gp]? = some (.cells (irow m) 3)) (hs : W.heap[gs]? = some (.cells (irow m) 2)) (hb : W.heap[gb]? = some (.cells #[.slice (some ⟨gs, 0, none⟩) m m] 98))
    (h1 : gp ≠ gb) (h2 : gp ≠ gs) (h3 : gs ≠ gb) (l1 : w.heap.size ≤ gp) (l2 : w.heap.size ≤ gs) (hu : Below w.heap.size w W) : OrdJ w W gp gb gs m f 0 where
  pc := fun k hk => ⟨.int .i64 0, by rw [cell_of_row _ _ k _ 3 (0, 0) hp]; simp [irow, hk], fun h => absurd h (Nat.not_lt_zero _)⟩
  sc := fun k hk => ⟨.int .i64 0, by rw [cell_of_row _ _ k _ 2 (0, 0) hs]; simp [irow, hk], fun h => absurd h (Nat.not_lt_zero _)⟩
  b := by rw [cell_of_row _ _ 0 _ 98 (0, 0) hb]; rfl
  pf := fun o => frozen_of_row _ _ o _ 3 hp
  sf := fun o => frozen_of_row _ _ o _ 2 hs
  n1 := h1
  n2 := h2
  n3 := h3
  l1 := ⟨l1, (Array.getElem?_eq_some_iff.1 hp).1⟩
  l2 := ⟨l2, (Array.getElem?_eq_some_iff.1 hs).1⟩
  u := hu
set_option maxRecDepth 100000 in
set_option maxHeartbeats 4000000 in
theorem order_at {w : World} {a p : Option Addr} {m c n cc : Nat} {MS : List (List Int)} {V : List Int} (h : VecsAt w a m c MS) (hv : VecAt w p n cc V) (hm : m < 20) (hd : ∀ i, i < m → (MS.getD i []).length ≤ 1000000000) :
    Calls Tryz.prog 32 #[.slice a m c, .slice p n cc] w fun e w' => ∃ gp, e = .returned (.slice (some ⟨gp, 0, none⟩) m m) ∧ (∀ k, k < m → w'.cell? ⟨gp, k, none⟩ = some (.int .i64 (hat (insW (scF MS V) m) k).1)) ∧ gp < w'.heap.size ∧ Below w.heap.size w w' := by
  have HV : Hid (VecsAt w a m c MS) := h
  have HP : Hid (VecAt w p n cc V) := hv
  have HF : Hid (∀ i, scoreW 1 (MS.getD i []) V = scF MS V i) := fun i => rfl
  have hm1 := fun W => mkInts m (by omega) W
  have hm2 := fun W => mkI64 m (by omega) W
  clear h hv
  go_enter Tryz.func32, Tryz.ntmps32
  go_wp2_with fail
  go_cut [5, 6] (fun s5 s6 wx => ∃ gp gb gs : Nat, s5 = .slice (some ⟨gp, 0, none⟩) m m ∧ s6 = .pointer (some ⟨gb, 0, none⟩) ∧ Hid (OrdJ w wx gp gb gs m (scF MS V) 0))
  case first =>
    go_wp2_with fail
    go_region
    all_goals (go_wp2_with fail; go_meet)
    · obtain ⟨h1, h2, h3⟩ := heap3 w (.cells (irow m) 3) (.cells (irow m) 2) (.cells #[.slice (some ⟨w.heap.size + 1, 0, none⟩) m m] 98)
      exact ⟨_, _, _, rfl, rfl, OrdJ.rows h1 h2 h3 (by omega) (by omega) (by omega) (by omega) (by omega) (below3 _ _ _ _)⟩
    · obtain ⟨h1, h2, h3⟩ := heap3 w (.cells (irow m) 3) (.cells #[.slice (some ⟨w.heap.size + 1 + 1, 0, none⟩) m m] 98) (.cells (irow m) 2)
      exact ⟨_, _, _, rfl, rfl, OrdJ.rows h1 h3 h2 (by omega) (by omega) (by omega) (by omega) (by omega) (below3 _ _ _ _)⟩
    · obtain ⟨h1, h2, h3⟩ := heap3 w (.cells (irow m) 2) (.cells (irow m) 3) (.cells #[.slice (some ⟨w.heap.size, 0, none⟩) m m] 98)
      exact ⟨_, _, _, rfl, rfl, OrdJ.rows h2 h1 h3 (by omega) (by omega) (by omega) (by omega) (by omega) (below3 _ _ _ _)⟩
    · obtain ⟨h1, h2, h3⟩ := heap3 w (.cells (irow m) 2) (.cells #[.slice (some ⟨w.heap.size, 0, none⟩) m m] 98) (.cells (irow m) 3)
      exact ⟨_, _, _, rfl, rfl, OrdJ.rows h3 h1 h2 (by omega) (by omega) (by omega) (by omega) (by omega) (below3 _ _ _ _)⟩
    · obtain ⟨h1, h2, h3⟩ := heap3 w (.cells #[.slice (some ⟨w.heap.size + 1 + 1, 0, none⟩) m m] 98) (.cells (irow m) 3) (.cells (irow m) 2)
      exact ⟨_, _, _, rfl, rfl, OrdJ.rows h2 h3 h1 (by omega) (by omega) (by omega) (by omega) (by omega) (below3 _ _ _ _)⟩
    · obtain ⟨h1, h2, h3⟩ := heap3 w (.cells #[.slice (some ⟨w.heap.size + 1, 0, none⟩) m m] 98) (.cells (irow m) 2) (.cells (irow m) 3)
      exact ⟨_, _, _, rfl, rfl, OrdJ.rows h3 h2 h1 (by omega) (by omega) (by omega) (by omega) (by omega) (below3 _ _ _ _)⟩
  case rest =>
    obtain ⟨gp, gb, gs, rfl, rfl, HJ⟩ := hcut
    clear hm1 hm2
    go_wp2_with fail
    go_loopw [17] (fun s17 wx => ∃ j : Nat, j ≤ m ∧ s17 = .int .i64 j ∧ Hid (OrdJ w wx gp gb gs m (scF MS V) j)) (fun s17 _ => m - (RowKit.intOf s17).toNat)
    case atStart => exact ⟨0, Nat.zero_le _, rfl, HJ⟩
    case round =>
      clear HJ
      obtain ⟨j, hj, rfl, HJ⟩ := hrel
      by_cases hlt : j < m
      · obtain ⟨b, o, q, k, kc, rfl, hb, hc, hk, hvj⟩ := HV.out.at_ j hlt
        have hc1 := (HJ.out.u.cell (p := ⟨b, o + j, none⟩) hb).trans hc
        have hkl : k ≤ 1000000000 := by rw [← hvj.len]; exact hd j hlt
        have hDr : Below wr.heap.size wr wr.drew := ⟨rfl, rfl, rfl, Nat.le_refl _, fun _ _ => rfl⟩
        have hU := (HJ.out.below hDr).u
        have hgb : wr.drew.cell? ⟨gb, 0, none⟩ = some (.slice (some ⟨gs, 0, none⟩) m m) := HJ.out.b
        have HS : Hid (Calls Tryz.prog 9 #[.int .i64 1, .slice q k kc, .slice p n cc] wr.drew fun e w' => e = .returned (.int .i64 (scF MS V j)) ∧ (∃ v1, w'.cell? ⟨gp, j, none⟩ = some v1) ∧ (∃ v2, w'.cell? ⟨gs, j, none⟩ = some v2) ∧ w'.frozen? ⟨gp, j, none⟩ = false ∧ w'.frozen? ⟨gs, j, none⟩ = false ∧ w'.cell? ⟨gb, 0, none⟩ = some (.slice (some ⟨gs, 0, none⟩) m m) ∧ Hid (OrdJ w w' gp gb gs m (scF MS V) j)) := by
          have := score_at 1 (hvj.all hU) (HP.out.all hU) hkl
          rw [HF.out j] at this
          refine this.mono ?_
          rintro e w' ⟨rfl, hb2⟩
          have hO := (HJ.out.below hDr).below hb2
          obtain ⟨v1, h1, _⟩ := hO.pc j hlt
          obtain ⟨v2, h2, _⟩ := hO.sc j hlt
          exact ⟨rfl, ⟨v1, h1⟩, ⟨v2, h2⟩, hO.pf _, hO.sf _, hO.b, hO⟩
        have HN : Hid (∀ W, OrdJ w W gp gb gs m (scF MS V) j → OrdJ w ((W.setCell ⟨gp, j, none⟩ (.int .i64 j)).setCell ⟨gs, j, none⟩ (.int .i64 (scF MS V j))) gp gb gs m (scF MS V) (j + 1)) := fun W h => h.step hlt
        have n1 := HJ.out.n1
        have n2 := HJ.out.n2
        have n3 := HJ.out.n3
        have hjm : (j : Int) < (m : Int) := by omega
        clear hb hc hvj hDr hU HJ
        generalize scF MS V j = x at *
        go_wp2_with fail
        go_region_with (go_at_call 9; refine HS.out.mono ?_; rintro e w9 ⟨rfl, ⟨v1, d1⟩, ⟨v2, d2⟩, d3, d4, d5, HO⟩)
        all_goals
          have HN2 : Hid _ := HN.out _ HO.out
          clear HN HO d1 d2 d3 d4 d5 HS hgb n1 n2 n3
          go_wp2_with fail
          exact ⟨⟨j + 1, hlt, rfl, HN2⟩, by simp [RowKit.intOf]; omega⟩
      · obtain rfl : j = m := by omega
        have HO : Hid (OrdI wr wr gp gb gs j (scF MS V) (outS (scF MS V) 0)) := HJ.out.done
        have HL : Hid (w.heap.size ≤ gp ∧ gp < wr.heap.size ∧ Below w.heap.size w wr) := ⟨HJ.out.l1.1, HJ.out.l1.2, HJ.out.u⟩
        clear HJ
        go_wp2_with fail
        refine (sortStable_at HO.out hm).mono ?_
        rintro e w9 ⟨rfl, hO⟩
        have HO9 : Hid (OrdI wr w9 gp gb gs j (scF MS V) (outS (scF MS V) j)) := hO
        clear hO HO
        go_wp2_with fail
        go_ret
        refine ⟨gp, rfl, fun k hk => ?_, Nat.lt_of_lt_of_le HL.out.2.1 HO9.out.k.size, HL.out.2.2.trans (HO9.out.k.below HL.out.2.2.size (fun i e => by have := HL.out.1; omega))⟩
        rw [HO9.out.c k hk]
        unfold outS
        rw [if_pos hk]
end Go.Proofs.YteaacodloabdcaaGreatDoor
