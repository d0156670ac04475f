import Derived.Test.YteaacodloabdcaaGreatDoorBsA
import Derived.Test.YteaacodloabdcaaGreatDoorPlA
import Derived.Deep.RegionHeld3
import Derived.StillTailTactics
import Derived.Laws.OwnMore
import Derived.BigRegion
import Derived.BigQuiet
import Derived.Maps.OwnSet
import Derived.Maps.Views
import Derived.Deep.QuietTactic
import Derived.Carry
import Derived.Deep.RegionLaw
import Derived.Deep.AppendLies
import Derived.Test.YteaacodloabdcaaGreatDoorSlE
namespace Go.Proofs.YteaacodloabdcaaGreatDoor
open Go.RowKit Go.Maps

def hitC (h : Hit) : List Value := [.int .i64 h.1, .int .i64 h.2]
def hitsV (H : List Hit) : List Value := H.flatMap hitC
theorem hitsV_length (H : List Hit) : (hitsV H).length = H.length * 2 := by
  induction H with
  | nil => rfl
  | cons x r ih => simp only [hitsV, List.flatMap_cons, List.length_append, List.length_cons] at *; simp only [hitC, List.length_cons, List.length_nil]; omega
theorem hitsV_append (A B : List Hit) : hitsV (A ++ B) = hitsV A ++ hitsV B := by simp [hitsV]
theorem hitsV_cons (x : Hit) (H : List Hit) : hitsV (x :: H) = .int .i64 x.1 :: .int .i64 x.2 :: hitsV H := rfl
theorem hitsV_at (H : List Hit) (j : Nat) (h : j < H.length) : (hitsV H)[j * 2]? = some (.int .i64 (hat H j).1) ∧ (hitsV H)[j * 2 + 1]? = some (.int .i64 (hat H j).2) := by
  induction H generalizing j with
  | nil => simp at h
  | cons y r ih =>
    cases j with
    | zero => exact ⟨rfl, rfl⟩
    | succ j =>
      rw [hitsV_cons]
      have := ih j (by simpa using h)
      have e : hat (y :: r) (j + 1) = hat r j := rfl
      rw [e, show (j + 1) * 2 = j * 2 + 1 + 1 by omega]
      simpa using this
theorem hitsV_set (H : List Hit) (j : Nat) (x : Hit) (h : j < H.length) : ((hitsV H).set (j * 2) (.int .i64 x.1)).set (j * 2 + 1) (.int .i64 x.2) = hitsV (H.set j x) := by
  induction H generalizing j with
  | nil => simp at h
  | cons y r ih =>
    cases j with
    | zero => rfl
    | succ j =>
      rw [hitsV_cons, List.set_cons_succ, hitsV_cons, show (j + 1) * 2 = j * 2 + 1 + 1 by omega]
      simp only [List.set_cons_succ]
      rw [ih j (by simpa using h)]
/-- The hits that a field of a Best holds. -/
structure RowAt (w : World) (lo bb : Nat) (v : Value) (H : List Hit) : Prop where
  c1 : w.cell? ⟨bb, 1, none⟩ = some v
  row : w.ownsRow lo 25 2 v H.length (hitsV H)
  ne : v.ownBlock ≠ some bb
  len : H.length ≤ 1000000000
theorem RowAt.bl {w : World} {lo bb : Nat} {v : Value} {H : List Hit} (h : RowAt w lo bb v H) : bb < w.heap.size := World.block_lt_of_cell? w _ h.c1
theorem RowAt.keeps {S : Nat → Prop} {w w' : World} {lo bb : Nat} {v : Value} {H : List Hit} (h : RowAt w lo bb v H) (hk : Keeps S w w') (s1 : ¬ S bb) (s2 : ∀ i, v.ownBlock = some i → ¬ S i) : RowAt w' lo bb v H :=
  { h with
    c1 := (hk.cell (p := ⟨bb, 1, none⟩) h.bl s1).trans h.c1
    row := by
      refine ⟨h.row.1, ?_⟩
      rcases h.row.2 with q | ⟨g, cap, cur, hv, hb, hg, rest⟩
      · exact .inl q
      · exact .inr ⟨g, cap, cur, hv, hb, (hk.block g (Array.getElem?_eq_some_iff.1 hg).1 (s2 g (by rw [hv]; rfl))).trans hg, rest⟩ }
theorem RowAt.below {w w' : World} {lo bb : Nat} {v : Value} {H : List Hit} (h : RowAt w lo bb v H) (hb : Below w.heap.size w w') : RowAt w' lo bb v H :=
  h.keeps (Keeps.of_below (S := fun _ => False) hb) (fun e => e) (fun _ _ e => e)
theorem RowAt.at_ {w : World} {lo bb : Nat} {v : Value} {H : List Hit} (h : RowAt w lo bb v H) (h0 : 0 < H.length) : ∃ g c, v = .slice (some ⟨g, 0, none⟩) H.length c ∧ H.length ≤ c ∧ g ≠ bb ∧ lo ≤ g ∧ g < w.heap.size ∧ (∀ j, j < H.length → w.cell? ⟨g, j * 2, none⟩ = some (.int .i64 (hat H j).1) ∧ w.cell? ⟨g, j * 2 + 1, none⟩ = some (.int .i64 (hat H j).2)) ∧ ∀ o, w.frozen? ⟨g, o, none⟩ = false := by
  rcases h.row.2 with ⟨_, h1⟩ | ⟨g, cap, cur, rfl, hg, hH, hc, _, _, htk⟩
  · omega
  · refine ⟨g, cap, rfl, hc, fun e => h.ne (by rw [e]; rfl), hg, (Array.getElem?_eq_some_iff.1 hH).1, fun j hj => ?_, fun o => frozen_of_row _ _ o _ 25 hH⟩
    obtain ⟨a, b⟩ := hitsV_at H j hj
    rw [cell_of_row _ _ (j * 2) _ 25 (0, 0) hH, cell_of_row _ _ (j * 2 + 1) _ 25 (0, 0) hH]
    rw [← htk, List.getElem?_take, if_pos (by omega)] at a
    rw [← htk, List.getElem?_take, if_pos (by omega)] at b
    exact ⟨by simpa using a, by simpa using b⟩
/-- One of them is written. -/
theorem RowAt.set {w : World} {lo bb g n c : Nat} {H : List Hit} (h : RowAt w lo bb (.slice (some ⟨g, 0, none⟩) n c) H) (hn : H.length = n) (j : Nat) (hj : j < n) (x : Hit) :
    RowAt ((w.setCell ⟨g, j * 2, none⟩ (.int .i64 x.1)).setCell ⟨g, j * 2 + 1, none⟩ (.int .i64 x.2)) lo bb (.slice (some ⟨g, 0, none⟩) n c) (H.set j x) := by
  have hgb : g ≠ bb := fun e => h.ne (by rw [e]; rfl)
  refine { c1 := ?_, row := ?_, ne := h.ne, len := by rw [List.length_set]; exact h.len }
  · rw [World.cell?_setCell_far _ ⟨g, j * 2 + 1, none⟩ ⟨bb, 1, none⟩ _ hgb, World.cell?_setCell_far _ ⟨g, j * 2, none⟩ ⟨bb, 1, none⟩ _ hgb]; exact h.c1
  · have h0 := h.row
    rw [hn] at h0
    have := ((h0.stored (j * 2) (.int .i64 x.1)).1.stored (j * 2 + 1) (.int .i64 x.2)).1
    rw [hitsV_set H j x (by omega)] at this
    rw [List.length_set, hn]
    exact this
/-- What rise and sink read of a row: two hits of it. -/
def TwoAt (w : World) (bb g n c t u : Nat) (x1 x2 y1 y2 : Int) : Prop :=
  w.cell? ⟨bb, 1, none⟩ = some (.slice (some ⟨g, 0, none⟩) n c) ∧ w.cell? ⟨g, t * 2, none⟩ = some (.int .i64 x1) ∧ w.cell? ⟨g, t * 2 + 1, none⟩ = some (.int .i64 x2) ∧ w.cell? ⟨g, u * 2, none⟩ = some (.int .i64 y1) ∧ w.cell? ⟨g, u * 2 + 1, none⟩ = some (.int .i64 y2)
theorem TwoAt.below {w w' : World} {bb g n c t u : Nat} {x1 x2 y1 y2 : Int} (h : TwoAt w bb g n c t u x1 x2 y1 y2) (hb : Below w.heap.size w w') : TwoAt w' bb g n c t u x1 x2 y1 y2 := by
  obtain ⟨h1, h2, h3, h4, h5⟩ := h
  have b1 := World.block_lt_of_cell? w _ h1
  have b2 := World.block_lt_of_cell? w _ h2
  exact ⟨(hb.cell (p := ⟨bb, 1, none⟩) b1).trans h1, (hb.cell (p := ⟨g, t * 2, none⟩) b2).trans h2, (hb.cell (p := ⟨g, t * 2 + 1, none⟩) b2).trans h3, (hb.cell (p := ⟨g, u * 2, none⟩) b2).trans h4, (hb.cell (p := ⟨g, u * 2 + 1, none⟩) b2).trans h5⟩
theorem less_two {w : World} {bb g n c t u : Nat} {x1 x2 y1 y2 : Int} (h : TwoAt w bb g n c t u x1 x2 y1 y2) :
    Calls Tryz.prog 12 #[.agg #[.int .i64 x1, .int .i64 x2], .agg #[.int .i64 y1, .int .i64 y2]] w.drew fun e w' => e = .returned (.bool (lessH (x1, x2) (y1, y2))) ∧
      (w'.cell? ⟨bb, 1, none⟩ = some (.slice (some ⟨g, 0, none⟩) n c) ∧ w'.cell? ⟨g, t * 2, none⟩ = some (.int .i64 x1) ∧ w'.cell? ⟨g, t * 2 + 1, none⟩ = some (.int .i64 x2) ∧ w'.cell? ⟨g, u * 2, none⟩ = some (.int .i64 y1) ∧ w'.cell? ⟨g, u * 2 + 1, none⟩ = some (.int .i64 y2)) ∧ Hid (Below w.heap.size w w') := by
  refine (less_at (x1, x2) (y1, y2) w.drew).mono ?_
  rintro e w' ⟨rfl, rfl⟩
  have hb : Below w.heap.size w (boxed w.drew (x1, x2) (y1, y2)) := by
    have h0 : Below w.heap.size w w.drew := ⟨rfl, rfl, rfl, Nat.le_refl _, fun _ _ => rfl⟩
    exact h0.trans (boxed_below w.drew (x1, x2) (y1, y2))
  exact ⟨rfl, h.below hb, hb⟩
set_option maxRecDepth 100000 in
set_option maxHeartbeats 4000000 in
theorem rise_at {w : World} {lo bb : Nat} {v : Value} {H : List Hit} (h : RowAt w lo bb v H) (hR : RiseI H (H.length - 1)) :
    Calls Tryz.prog 72 #[.pointer (some ⟨bb, 0, none⟩)] w fun e w' => e = .returned (.tuple #[]) ∧ (∃ H', RowAt w' lo bb v H' ∧ HeapL H' ∧ H'.Perm H) ∧ Keeps (fun i => v.ownBlock = some i) w w' := by
  have h0 : 0 < H.length := by have := hR.lt; omega
  obtain ⟨g, c, hv, hc, hgb, _, _, _, _⟩ := h.at_ h0
  obtain ⟨n, hn⟩ : ∃ n, H.length = n := ⟨_, rfl⟩
  rw [hn] at hv hc hR
  subst hv
  have hnl : n ≤ 1000000000 := by rw [← hn]; exact h.len
  have hn1 : 1 ≤ n := by omega
  have c1 := h.c1
  have HI0 : Hid (∃ H', RowAt w lo bb (.slice (some ⟨g, 0, none⟩) n c) H' ∧ H'.length = n ∧ RiseI H' (n - 1) ∧ H'.Perm H ∧ Keeps (fun i => (Value.slice (some ⟨g, 0, none⟩) n c).ownBlock = some i) w w) := ⟨H, h, hn, hR, List.Perm.refl _, Keeps.refl _ _⟩
  clear h hR h0 hn
  go_enter Tryz.func72, Tryz.ntmps72
  go_wp2_with fail
  go_loopw [2] (fun s2 wr => ∃ t : Nat, t < n ∧ s2 = .int .i64 t ∧ Hid (∃ H', RowAt wr lo bb (.slice (some ⟨g, 0, none⟩) n c) H' ∧ H'.length = n ∧ RiseI H' t ∧ H'.Perm H ∧ Keeps (fun i => (Value.slice (some ⟨g, 0, none⟩) n c).ownBlock = some i) w wr)) (fun s2 _ => (RowKit.intOf s2).toNat)
  case atStart => exact ⟨n - 1, by omega, by congr 1; omega, HI0⟩
  case round =>
    clear HI0
    obtain ⟨t, ht, rfl, HI⟩ := hrel
    obtain ⟨H', hR', hl', hI', hP', hK'⟩ := HI.out
    clear HI
    have c1' := hR'.c1
    by_cases ht0 : t = 0
    · subst ht0
      have HE : Hid ((∃ H'', RowAt wr lo bb (.slice (some ⟨g, 0, none⟩) n c) H'' ∧ HeapL H'' ∧ H''.Perm H) ∧ Keeps (fun i => (Value.slice (some ⟨g, 0, none⟩) n c).ownBlock = some i) w wr) := ⟨⟨H', hR', hI'.done (Or.inl rfl), hP'⟩, hK'⟩
      clear hR' hI' hP' hK'
      go_wp2_with fail
      go_end0
      exact ⟨rfl, HE.out⟩
    · obtain ⟨t1, rfl⟩ : ∃ t1, t = t1 + 1 := ⟨t - 1, by omega⟩
      obtain ⟨u, hu, hu1⟩ : ∃ u : Nat, (t1 : Int).tdiv 2 = u ∧ u = t1 / 2 := ⟨t1 / 2, by rw [Int.tdiv_eq_ediv_of_nonneg (by omega)]; omega, rfl⟩
      have hun : u < n := by omega
      have hut : u ≤ t1 := by omega
      clear ht0
      have HPU : Hid ((t1 + 1 - 1) / 2 = u) := by show (t1 + 1 - 1) / 2 = u; rw [Nat.add_sub_cancel]; exact hu1.symm
      clear hu1
      obtain ⟨g', c', e1, _, _, _, _, hcell, hfz⟩ := hR'.at_ (by omega)
      obtain ⟨rfl, rfl⟩ : g' = g ∧ c' = c := by injection e1 with a _ b; injection a with a; injection a with a; exact ⟨a.symm, b.symm⟩
      obtain ⟨p1, p2⟩ := hcell (t1 + 1) (by omega)
      obtain ⟨p3, p4⟩ := hcell u (by omega)
      have HZ : Hid (∀ o, wr.frozen? ⟨g', o, none⟩ = false) := hfz
      have HM : Hid (hat H' (t1 + 1) = hat H' (t1 + 1) ∧ hat H' u = hat H' u) := ⟨rfl, rfl⟩
      have HI : Hid (RowAt wr lo bb (.slice (some ⟨g', 0, none⟩) n c') H' ∧ RiseI H' (t1 + 1) ∧ H'.Perm H ∧ Keeps (fun i => (Value.slice (some ⟨g', 0, none⟩) n c').ownBlock = some i) w wr) := ⟨hR', hI', hP', hK'⟩
      have HL : Hid (H'.length = n) := hl'
      obtain ⟨x1, x2, hx⟩ : ∃ x1 x2, hat H' (t1 + 1) = (x1, x2) := ⟨_, _, rfl⟩
      obtain ⟨y1, y2, hy⟩ : ∃ y1 y2, hat H' u = (y1, y2) := ⟨_, _, rfl⟩
      have HX : Hid (hat H' (t1 + 1) = (x1, x2) ∧ hat H' u = (y1, y2)) := ⟨hx, hy⟩
      rw [hx] at p1 p2
      rw [hy] at p3 p4
      have hT : TwoAt wr bb g' n c' (t1 + 1) u x1 x2 y1 y2 := ⟨c1', p1, p2, p3, p4⟩
      have HLs := less_two hT
      have hS0 : TwoAt wr bb g' n c' (t1 + 1) u x1 x2 y1 y2 := hT
      unfold TwoAt at hS0
      clear hcell hfz e1 hR' hI' hP' hK' hl' HM hx hy hT p1 p2 p3 p4 c1'
      obtain ⟨lv, hlv⟩ : ∃ lv, lessH (x1, x2) (y1, y2) = lv := ⟨_, rfl⟩
      rw [hlv] at HLs
      have HLv : Hid (lessH (x1, x2) (y1, y2) = lv) := hlv
      clear hlv
      go_wp2_with fail
      refine wp_region_noPanic ?_
      go_region_held (fun w' => w'.cell? ⟨bb, 1, none⟩ = some (.slice (some ⟨g', 0, none⟩) n c') ∧ w'.cell? ⟨g', (t1 + 1) * 2, none⟩ = some (.int .i64 x1) ∧ w'.cell? ⟨g', (t1 + 1) * 2 + 1, none⟩ = some (.int .i64 x2) ∧ w'.cell? ⟨g', u * 2, none⟩ = some (.int .i64 y1) ∧ w'.cell? ⟨g', u * 2 + 1, none⟩ = some (.int .i64 y2)) (first | assumption | exact hS0 | go_keep)
        (first | (go_at_call 12; refine HLs.mono ?_; rintro e w3 ⟨rfl, hS3, HB3⟩))
      refine NoPanic.normal ?_
      have HI3 : Hid (RowAt w3 lo bb (.slice (some ⟨g', 0, none⟩) n c') H' ∧ RiseI H' (t1 + 1) ∧ H'.Perm H ∧ Keeps (fun i => (Value.slice (some ⟨g', 0, none⟩) n c').ownBlock = some i) w w3) := ⟨HI.out.1.below HB3.out, HI.out.2.1, HI.out.2.2.1, HI.out.2.2.2.trans (Keeps.of_below HB3.out)⟩
      clear HI HLs hS0 HZ HB3
      cases lv with
      | true =>
        have HE : Hid ((∃ H'', RowAt w3 lo bb (.slice (some ⟨g', 0, none⟩) n c') H'' ∧ HeapL H'' ∧ H''.Perm H) ∧ Keeps (fun i => (Value.slice (some ⟨g', 0, none⟩) n c').ownBlock = some i) w w3) := by
          refine ⟨⟨H', HI3.out.1, HI3.out.2.1.done (Or.inr ?_), HI3.out.2.2.1⟩, HI3.out.2.2.2⟩
          rw [HPU.out, HX.out.1, HX.out.2]
          exact lessH_asymm HLv.out
        clear HI3 hS3
        go_wp2_with fail
        refine bodyPost_ret (results_none rfl _ _ _) rfl ?_
        exact ⟨rfl, HE.out⟩
      | false =>
        have hS := hS3
        obtain ⟨q1, q2, q3, q4, q5⟩ := hS3
        have hfz : ∀ o, w3.frozen? ⟨g', o, none⟩ = false := by
          have hr := HI3.out.1.row
          rw [HL.out] at hr
          exact hr.frozenAt
        have z1 := hfz ((t1 + 1) * 2)
        have z2 := hfz ((t1 + 1) * 2 + 1)
        have z3 := hfz (u * 2)
        have z4 := hfz (u * 2 + 1)
        clear hfz
        have HN : Hid (∃ H'', RowAt ((((w3.setCell ⟨g', (t1 + 1) * 2, none⟩ (.int .i64 y1)).setCell ⟨g', (t1 + 1) * 2 + 1, none⟩ (.int .i64 y2)).setCell ⟨g', u * 2, none⟩ (.int .i64 x1)).setCell ⟨g', u * 2 + 1, none⟩ (.int .i64 x2)).drew lo bb (.slice (some ⟨g', 0, none⟩) n c') H'' ∧ H''.length = n ∧ RiseI H'' u ∧ H''.Perm H ∧
            Keeps (fun i => (Value.slice (some ⟨g', 0, none⟩) n c').ownBlock = some i) w ((((w3.setCell ⟨g', (t1 + 1) * 2, none⟩ (.int .i64 y1)).setCell ⟨g', (t1 + 1) * 2 + 1, none⟩ (.int .i64 y2)).setCell ⟨g', u * 2, none⟩ (.int .i64 x1)).setCell ⟨g', u * 2 + 1, none⟩ (.int .i64 x2)).drew) := by
          have h1 := (HI3.out.1.set HL.out (t1 + 1) ht (y1, y2)).set (by rw [List.length_set]; exact HL.out) u hun (x1, x2)
          refine ⟨swapL H' (t1 + 1) u, ?_, by rw [swapL_length]; exact HL.out, ?_, (swapL_perm H' (t1 + 1) u (by rw [HL.out]; exact ht) (by rw [HL.out]; exact hun)).trans HI3.out.2.2.1, ?_⟩
          · unfold swapL
            rw [HX.out.1, HX.out.2]
            exact h1.keeps (Keeps.drew (Keeps.refl (fun _ => False) _)) (fun e => e) (fun _ _ e => e)
          · have := HI3.out.2.1.step (by omega) (by rw [HPU.out, HX.out.1, HX.out.2]; exact HLv.out)
            rwa [HPU.out] at this
          · exact Keeps.drew (Keeps.setCell (p := ⟨g', u * 2 + 1, none⟩) (Keeps.setCell (p := ⟨g', u * 2, none⟩) (Keeps.setCell (p := ⟨g', (t1 + 1) * 2 + 1, none⟩) (Keeps.setCell (p := ⟨g', (t1 + 1) * 2, none⟩) HI3.out.2.2.2 rfl _) rfl _) rfl _) rfl _)
        clear hS HI3 HX HLv HPU HL
        go_wp2_with fail
        go_region
        go_wp2_with fail
        exact ⟨⟨u, hun, rfl, HN⟩, by simp [RowKit.intOf]; omega⟩
end Go.Proofs.YteaacodloabdcaaGreatDoor

namespace Go.Proofs.YteaacodloabdcaaGreatDoor
open Go.RowKit Go.Maps

/-- The state of sink. -/
def SnkI (w wr : World) (lo bb g n c : Nat) (H : List Hit) (t : Nat) : Prop := ∃ H', RowAt wr lo bb (.slice (some ⟨g, 0, none⟩) n c) H' ∧ H'.length = n ∧ SinkI H' t ∧ H'.Perm H ∧ Keeps (fun i => i = g) w wr
/-- .. and of its inner loop. -/
def WrsI (w wr : World) (lo bb g n c : Nat) (H H' : List Hit) (t m v : Nat) : Prop := RowAt wr lo bb (.slice (some ⟨g, 0, none⟩) n c) H' ∧ H'.length = n ∧ SinkI H' t ∧ H'.Perm H ∧ Keeps (fun i => i = g) w wr ∧ WorstI H' t m v
theorem two_of {w : World} {lo bb g n c : Nat} {H : List Hit} (h : RowAt w lo bb (.slice (some ⟨g, 0, none⟩) n c) H) (hn : H.length = n) (t u : Nat) (ht : t < n) (hu : u < n) : TwoAt w bb g n c t u (hat H t).1 (hat H t).2 (hat H u).1 (hat H u).2 := by
  obtain ⟨g', c', e1, _, _, _, _, hcell, _⟩ := h.at_ (by omega)
  injection e1 with a _ b
  injection a with a
  injection a with a
  subst a
  obtain ⟨p1, p2⟩ := hcell t (by omega)
  obtain ⟨p3, p4⟩ := hcell u (by omega)
  exact ⟨h.c1, p1, p2, p3, p4⟩
theorem soft_of {w : World} {lo bb g n c : Nat} {H : List Hit} (h : RowAt w lo bb (.slice (some ⟨g, 0, none⟩) n c) H) (hn : H.length = n) : ∀ o, w.frozen? ⟨g, o, none⟩ = false := by
  have hr := h.row
  rw [hn] at hr
  exact hr.frozenAt
set_option maxRecDepth 100000 in
set_option maxHeartbeats 8000000 in
theorem sink_at {w : World} {lo bb g n c : Nat} {H : List Hit} (h : RowAt w lo bb (.slice (some ⟨g, 0, none⟩) n c) H) (hn : H.length = n) (hS : SinkI H 0) :
    Calls Tryz.prog 71 #[.pointer (some ⟨bb, 0, none⟩)] w fun e w' => e = .returned (.tuple #[]) ∧ (∃ H', RowAt w' lo bb (.slice (some ⟨g, 0, none⟩) n c) H' ∧ HeapL H' ∧ H'.Perm H) ∧ Keeps (fun i => i = g) w w' := by
  have hn1 : 0 < n := by have := hS.lt; omega
  have hnl : n ≤ 1000000000 := by rw [← hn]; exact h.len
  have HI0 : Hid (SnkI w w lo bb g n c H 0) := ⟨H, h, hn, hS, List.Perm.refl _, Keeps.refl _ _⟩
  clear h hS hn
  go_enter Tryz.func71, Tryz.ntmps71
  go_wp2_with fail
  go_loopw [2] (fun s2 wr => ∃ t : Nat, t < n ∧ s2 = .int .i64 t ∧ Hid (SnkI w wr lo bb g n c H t)) (fun s2 _ => n - (RowKit.intOf s2).toNat)
  case atStart => exact ⟨0, hn1, rfl, HI0⟩
  case round =>
    clear HI0
    obtain ⟨t, ht, rfl, HI⟩ := hrel
    have HW0 : Hid (∃ H', WrsI w wr lo bb g n c H H' t (2 * t + 1) t) := by
      obtain ⟨H', a1, a2, a3, a4, a5⟩ := HI.out
      exact ⟨H', a1, a2, a3, a4, a5, WorstI.start (by omega)⟩
    clear HI
    go_wp2_with fail
    go_loopw [3, 4] (fun s3 s4 wr => ∃ m v : Nat, m ≤ 2 * t + 3 ∧ 2 * t + 1 ≤ m ∧ v < n ∧ s3 = .int .i64 v ∧ s4 = .int .i64 m ∧ Hid (∃ H', WrsI w wr lo bb g n c H H' t m v)) (fun _ s4 _ => 2 * t + 3 - (RowKit.intOf s4).toNat)
    case atStart => exact ⟨2 * t + 1, t, by omega, by omega, ht, rfl, by congr 1, HW0⟩
    case round =>
      clear HW0
      obtain ⟨m, v, hm1, hm2, hvn, rfl, rfl, HW⟩ := hrel
      by_cases hin : m ≤ 2 * t + 2 ∧ m < n
      · obtain ⟨H', hW⟩ := HW.out
        have hT := two_of hW.1 hW.2.1 v m hvn hin.2
        have c1 := hW.1.c1
        have HW1 : Hid (WrsI w wr lo bb g n c H H' t m v) := hW
        have hin1 := hin.1
        have hin2 := hin.2
        have hin1' : (m : Int) ≤ 2 * t + 2 := by omega
        clear HW hW
        obtain ⟨x1, x2, hx⟩ : ∃ x1 x2, hat H' v = (x1, x2) := ⟨_, _, rfl⟩
        obtain ⟨y1, y2, hy⟩ : ∃ y1 y2, hat H' m = (y1, y2) := ⟨_, _, rfl⟩
        have HX : Hid (hat H' v = (x1, x2) ∧ hat H' m = (y1, y2)) := ⟨hx, hy⟩
        rw [hx, hy] at hT
        have HLs := less_two hT
        have hS0 : TwoAt wr bb g n c v m x1 x2 y1 y2 := hT
        unfold TwoAt at hS0
        obtain ⟨lv, hlv⟩ : ∃ lv, lessH (x1, x2) (y1, y2) = lv := ⟨_, rfl⟩
        rw [hlv] at HLs
        have HLv : Hid (lessH (x1, x2) (y1, y2) = lv) := hlv
        clear hlv hx hy hT
        go_wp2_with fail
        refine wp_region_noPanic ?_
        go_region_held (fun w' => w'.cell? ⟨bb, 1, none⟩ = some (.slice (some ⟨g, 0, none⟩) n c) ∧ w'.cell? ⟨g, v * 2, none⟩ = some (.int .i64 x1) ∧ w'.cell? ⟨g, v * 2 + 1, none⟩ = some (.int .i64 x2) ∧ w'.cell? ⟨g, m * 2, none⟩ = some (.int .i64 y1) ∧ w'.cell? ⟨g, m * 2 + 1, none⟩ = some (.int .i64 y2)) (first | assumption | exact hS0 | go_keep)
          (first | (go_at_call 12; refine HLs.mono ?_; rintro e w3 ⟨rfl, hS3, HB3⟩))
        refine NoPanic.normal ?_
        have HW3 : Hid (∃ H', WrsI w w3 lo bb g n c H H' t (m + 1) (if lv then m else v)) := by
          obtain ⟨b1, b2, b3, b4, b5, b6⟩ := HW1.out
          refine ⟨H', b1.below HB3.out, b2, b3, b4, b5.trans (Keeps.of_below HB3.out), ?_⟩
          have hl := HLv.out
          rw [← HX.out.1, ← HX.out.2] at hl
          cases lv with
          | true => exact b6.new (by omega) (by omega) hl
          | false => exact b6.stay hl
        clear HW1 HLs hS0 HB3 HX HLv hS3
        cases lv with
        | true =>
          go_wp2_with fail
          exact ⟨⟨m + 1, m, by omega, by omega, hin2, rfl, by congr 1, HW3⟩, by simp [RowKit.intOf]; omega⟩
        | false =>
          go_wp2_with fail
          exact ⟨⟨m + 1, v, by omega, by omega, hvn, rfl, by congr 1, HW3⟩, by simp [RowKit.intOf]; omega⟩
      · have HV : Hid (∃ H', WrsI w wr lo bb g n c H H' t (2 * t + 3) v) := by
          obtain ⟨H', b1, b2, b3, b4, b5, b6⟩ := HW.out
          refine ⟨H', b1, b2, b3, b4, b5, ?_⟩
          rcases (show m = 2 * t + 3 ∨ n ≤ m by omega) with e | e
          · rw [← e]; exact b6
          · exact b6.short (by omega)
        have hc1 : wr.cell? ⟨bb, 1, none⟩ = some (.slice (some ⟨g, 0, none⟩) n c) := by
          obtain ⟨H', b1, _⟩ := HV.out
          exact b1.c1
        clear HW
        by_cases hvt : v = t
        · subst hvt
          have HE : Hid ((∃ H', RowAt wr lo bb (.slice (some ⟨g, 0, none⟩) n c) H' ∧ HeapL H' ∧ H'.Perm H) ∧ Keeps (fun i => i = g) w wr) := by
            obtain ⟨H', b1, b2, b3, b4, b5, b6⟩ := HV.out
            exact ⟨⟨H', b1, b3.done b6, b4⟩, b5⟩
          clear HV
          rcases (show (2 * v + 2 < m) ∨ (m ≤ 2 * v + 2 ∧ n ≤ m) by omega) with e1 | ⟨e1, e2⟩
          · have e3 : ¬ (m : Int) ≤ 2 * v + 2 := by omega
            go_wp2_with fail
            refine bodyPost_ret (results_none rfl _ _ _) rfl ?_
            exact ⟨rfl, HE.out⟩
          · have e3 : (m : Int) ≤ 2 * v + 2 := by omega
            go_wp2_with fail
            refine bodyPost_ret (results_none rfl _ _ _) rfl ?_
            exact ⟨rfl, HE.out⟩
        · obtain ⟨H', hW⟩ := HV.out
          have hT := two_of hW.1 hW.2.1 t v ht hvn
          have hfz := soft_of hW.1 hW.2.1
          have hvt1 : t < v := by
            rcases hW.2.2.2.2.2.at_ with e | e <;> omega
          have hvt2 : ((v : Int) == (t : Int)) = false := by simp; omega
          obtain ⟨x1, x2, hx⟩ : ∃ x1 x2, hat H' t = (x1, x2) := ⟨_, _, rfl⟩
          obtain ⟨y1, y2, hy⟩ : ∃ y1 y2, hat H' v = (y1, y2) := ⟨_, _, rfl⟩
          have HN : Hid (SnkI w ((((wr.setCell ⟨g, t * 2, none⟩ (.int .i64 y1)).setCell ⟨g, t * 2 + 1, none⟩ (.int .i64 y2)).setCell ⟨g, v * 2, none⟩ (.int .i64 x1)).setCell ⟨g, v * 2 + 1, none⟩ (.int .i64 x2)).drew lo bb g n c H v) := by
            obtain ⟨b1, b2, b3, b4, b5, b6⟩ := hW
            have h1 := (b1.set b2 t ht (y1, y2)).set (by rw [List.length_set]; exact b2) v hvn (x1, x2)
            refine ⟨swapL H' t v, ?_, by rw [swapL_length]; exact b2, b3.step b6 hvt, (swapL_perm H' t v (by rw [b2]; exact ht) (by rw [b2]; exact hvn)).trans b4, ?_⟩
            · unfold swapL
              rw [hx, hy]
              exact h1.keeps (Keeps.drew (Keeps.refl (fun _ => False) _)) (fun e => e) (fun _ _ e => e)
            · exact Keeps.drew (Keeps.setCell (p := ⟨g, v * 2 + 1, none⟩) (Keeps.setCell (p := ⟨g, v * 2, none⟩) (Keeps.setCell (p := ⟨g, t * 2 + 1, none⟩) (Keeps.setCell (p := ⟨g, t * 2, none⟩) b5 rfl _) rfl _) rfl _) rfl _)
          rw [hx, hy] at hT
          obtain ⟨q1, q2, q3, q4, q5⟩ := hT
          simp only at q2 q3 q4 q5
          have z1 := hfz (t * 2)
          have z2 := hfz (t * 2 + 1)
          have z3 := hfz (v * 2)
          have z4 := hfz (v * 2 + 1)
          clear hfz HV hW hx hy
          rcases (show (2 * t + 2 < m) ∨ (m ≤ 2 * t + 2 ∧ n ≤ m) by omega) with e1 | ⟨e1, e2⟩
          · have e3 : ¬ (m : Int) ≤ 2 * t + 2 := by omega
            go_wp2_with fail
            go_region
            go_wp2_with fail
            exact ⟨⟨v, hvn, rfl, HN⟩, by simp [RowKit.intOf]; omega⟩
          · have e3 : (m : Int) ≤ 2 * t + 2 := by omega
            go_wp2_with fail
            go_region
            go_wp2_with fail
            exact ⟨⟨v, hvn, rfl, HN⟩, by simp [RowKit.intOf]; omega⟩
end Go.Proofs.YteaacodloabdcaaGreatDoor

namespace Go.Proofs.YteaacodloabdcaaGreatDoor
open Go.RowKit Go.Maps

/-- The ids of hits, as a set in memory. -/
def IdsAt (w : World) (mb : Nat) (H : List Hit) : Prop := ∃ D : DataW Unit, w.ownsMap Tryz.prog 3 unitElem mb (Maps.size D) D ∧ Tidy D ∧ (∀ i, Maps.has D (.int .i64 i) = hasId H i) ∧ Maps.size D = H.length
theorem ownsMap_tight {w : World} {mb n : Nat} {D : DataW Unit} (h : w.ownsMap Tryz.prog 3 unitElem mb n D) : w.ownsMap Tryz.prog 3 unitElem mb (Maps.size D) D := by
  obtain ⟨es, clock, hb, F, _, hD⟩ := h
  refine ⟨es, clock, hb, F, ?_, hD⟩
  subst hD
  simp [Maps.size, length_sorted]
theorem IdsAt.perm {w : World} {mb : Nat} {A B : List Hit} (h : IdsAt w mb A) (hp : A.Perm B) : IdsAt w mb B := by
  obtain ⟨D, h1, h2, h3, h4⟩ := h
  exact ⟨D, h1, h2, fun i => by rw [h3 i, hasId_perm hp], by rw [h4, hp.length_eq]⟩
theorem IdsAt.lt {w : World} {mb : Nat} {A : List Hit} (h : IdsAt w mb A) : mb < w.heap.size := by
  obtain ⟨D, h1, _⟩ := h
  exact h1.lt
theorem IdsAt.keeps {S : Nat → Prop} {w w' : World} {mb : Nat} {A : List Hit} (h : IdsAt w mb A) (hk : Keeps S w w') (s : ¬ S mb) : IdsAt w' mb A := by
  have hl := h.lt
  obtain ⟨D, ⟨es, clock, hb, F, hs, hD⟩, h2⟩ := h
  exact ⟨D, ⟨es, clock, (hk.block mb hl s).trans hb, F, hs, hD⟩, h2⟩
/-- A Best in memory. -/
structure BestAt (w : World) (lo bb mb k : Nat) (v : Value) (H : List Hit) : Prop where
  c0 : w.cell? ⟨bb, 0, none⟩ = some (.int .i64 k)
  c2 : w.cell? ⟨bb, 2, none⟩ = some (.map (some mb))
  f : ∀ o, w.frozen? ⟨bb, o, none⟩ = false
  row : RowAt w lo bb v H
  ids : IdsAt w mb H
  l1 : lo ≤ bb
  l2 : lo ≤ mb
  ne : bb ≠ mb
theorem BestAt.keeps {S : Nat → Prop} {w w' : World} {lo bb mb k : Nat} {v : Value} {H : List Hit} (h : BestAt w lo bb mb k v H) (hk : Keeps S w w') (s1 : ¬ S bb) (s2 : ¬ S mb) (s3 : ∀ i, v.ownBlock = some i → ¬ S i) : BestAt w' lo bb mb k v H :=
  { h with
    c0 := (hk.cell (p := ⟨bb, 0, none⟩) h.row.bl s1).trans h.c0
    c2 := (hk.cell (p := ⟨bb, 2, none⟩) h.row.bl s1).trans h.c2
    f := fun o => (hk.frozen (p := ⟨bb, o, none⟩) h.row.bl s1).trans (h.f o)
    row := h.row.keeps hk s1 s3
    ids := h.ids.keeps hk s2 }
theorem BestAt.below {w w' : World} {lo bb mb k : Nat} {v : Value} {H : List Hit} (h : BestAt w lo bb mb k v H) (hb : Below w.heap.size w w') : BestAt w' lo bb mb k v H :=
  h.keeps (Keeps.of_below (S := fun _ => False) hb) (fun e => e) (fun e => e) (fun _ _ e => e)
theorem RowAt.ow {w : World} {lo bb : Nat} {v : Value} {H : List Hit} (h : RowAt w lo bb v H) (i : Nat) (hi : v.ownBlock = some i) : lo ≤ i ∧ i < w.heap.size ∧ ∃ cur, w.heap[i]? = some (.cells cur 25) := by
  rcases h.row.2 with ⟨rfl, _⟩ | ⟨g, cap, cur, rfl, hg, hH, _⟩
  · cases hi
  · cases hi
    exact ⟨hg, (Array.getElem?_eq_some_iff.1 hH).1, cur, hH⟩
/-- The row's block is not the set's. -/
theorem BestAt.nm {w : World} {lo bb mb k : Nat} {v : Value} {H : List Hit} (h : BestAt w lo bb mb k v H) : v.ownBlock ≠ some mb := by
  intro e
  obtain ⟨_, _, cur, hH⟩ := h.row.ow mb e
  obtain ⟨D, ⟨es, clock, hb, _⟩, _⟩ := h.ids
  rw [hb] at hH
  cases hH
set_option maxRecDepth 100000 in
set_option maxHeartbeats 1000000 in
theorem bnew_at (k0 : Int) (w : World) : Calls Tryz.prog 37 #[.int .i64 k0] w fun e w' => ∃ bb mb, e = .returned (.pointer (some ⟨bb, 0, none⟩)) ∧ BestAt w' w.heap.size bb mb k0.toNat (.slice none 0 0) [] ∧ Below w.heap.size w w' := by
  obtain ⟨k, hk, hm⟩ : ∃ k : Nat, k0.toNat = k ∧ max k0 0 = (k : Int) := ⟨k0.toNat, rfl, by omega⟩
  rw [hk]
  clear hk
  have hmm := @run_makeMap Tryz.prog
  go_enter Tryz.func37, Tryz.ntmps37
  go_wp2_with fail
  go_ret
  refine ⟨w.heap.size + 1, w.heap.size, rfl, ?_, ((Below.refl _ w).alloc (Nat.le_refl _) _).alloc (by simp) _⟩
  have hr := heap_alloc_last (w.alloc (.map #[] 0)) (.cells #[.int .i64 k, .slice none 0 0, .map (some w.heap.size)] 79)
  have hs : (w.alloc (.map #[] 0)).heap.size = w.heap.size + 1 := by simp
  rw [hs] at hr
  refine { c0 := ?_, c2 := ?_, f := fun o => frozen_of_row _ _ o _ 79 hr, row := { c1 := ?_, row := World.ownsRow_nil _ _ _ _, ne := by simp [Value.ownBlock], len := by simp }, ids := ⟨.map [], ?_, tidy_empty, fun i => by rw [Maps.has_eq]; simp [hasId], rfl⟩, l1 := by omega, l2 := Nat.le_refl _, ne := by omega }
  · rw [cell_of_row _ _ 0 _ 79 (0, 0) hr]; rfl
  · rw [cell_of_row _ _ 2 _ 79 (0, 0) hr]; rfl
  · rw [cell_of_row _ _ 1 _ 79 (0, 0) hr]; rfl
  · exact (World.ownsMap_made w Tryz.prog 3 (unitElem (H := Unit))).alloc (.cells #[.int .i64 k, .slice none 0 0, .map (some w.heap.size)] 79)
theorem blen_at {w : World} {lo bb mb k : Nat} {v : Value} {H : List Hit} (h : BestAt w lo bb mb k v H) : Calls Tryz.prog 26 #[.pointer (some ⟨bb, 0, none⟩)] w fun e w' => e = .returned (.int .i64 H.length) ∧ w' = w := by
  have c1 := h.row.c1
  obtain ⟨p, c, hv⟩ : ∃ p c, v = .slice p H.length c := by
    rcases h.row.row.2 with ⟨rfl, h0⟩ | ⟨g, cap, cur, rfl, _⟩
    · exact ⟨none, 0, by rw [h0]⟩
    · exact ⟨_, _, rfl⟩
  rw [hv] at c1
  clear hv h
  go_enter Tryz.func26, Tryz.ntmps26
  go_wp2_with fail
  go_ret
  exact ⟨rfl, rfl⟩
theorem blen_nil (w : World) : Calls Tryz.prog 26 #[.pointer none] w fun e w' => e = .returned (.int .i64 0) ∧ w' = w := by
  go_enter Tryz.func26, Tryz.ntmps26
  go_wp2
  go_ret
  exact ⟨rfl, rfl⟩
end Go.Proofs.YteaacodloabdcaaGreatDoor

namespace Go.Proofs.YteaacodloabdcaaGreatDoor
open Go.RowKit Go.Maps

theorem infoHit : (Tryz.prog.info? 25).map (fun i => (i.zero, i.size, i.bytes)) = some (some (.agg #[.int .i64 0, .int .i64 0]), 2, 16) := by kernel_rfl
theorem two_newW (w : World) (b : Nat) (u v : Value) (t : TypeId) (hb : w.heap.size = b := by simp) : ∀ j x, [u, v][j]? = some x → (w.alloc (.cells #[u, v] t)).cell? (Addr.add ⟨b, 0, none⟩ j) = some x := by
  intro j x hx
  subst hb
  match j, hx with
  | 0, hx => rw [Addr.add_mid, cell_of_row _ _ (0 + 0) _ t (0, 0) (heap_alloc_last w _)]; simpa using hx
  | 1, hx => rw [Addr.add_mid, cell_of_row _ _ (0 + 1) _ t (0, 0) (heap_alloc_last w _)]; simpa using hx
  | k + 2, hx => simp at hx
/-- An id is put among them. -/
theorem keyOf_i (i : Int) (hi : -9223372036854775808 ≤ i ∧ i ≤ 9223372036854775807) : keyOf Tryz.prog 3 (.int .i64 i) = some (.int .i64 i) := keyOf_int_mk Tryz.underlying3 (WalkArith.wf_i64 (by omega))
theorem Keeps.transN {S T : Nat → Prop} {a b c : World} (h : Keeps S a b) (k : Keeps T b c) (hT : ∀ i, T i → S i ∨ a.heap.size ≤ i) : Keeps S a c :=
  ⟨k.os.trans h.os, k.tape.trans h.tape, k.output.trans h.output, Nat.le_trans h.size k.size, fun i hi hs => (k.block i (Nat.lt_of_lt_of_le hi h.size) (fun t => by
    rcases hT i t with e | e
    · exact hs e
    · omega)).trans (h.block i hi hs)⟩
theorem hasId_snoc (H : List Hit) (x : Hit) (i : Int) : hasId (H ++ [x]) i = (hasId H i || x.1 == i) := by simp [hasId]
theorem isKey (i : Int) : WideAt.IsKeyLit (.int .i64 i) := trivial
set_option maxRecDepth 100000 in
set_option maxHeartbeats 4000000 in
theorem badd_at {w : World} {lo bb mb k : Nat} {v : Value} {H : List Hit} (h : BestAt w lo bb mb k v H) (hH : HeapL H) (x1 x2 : Int) (hx : -9223372036854775808 ≤ x1 ∧ x1 ≤ 9223372036854775807) (hid : hasId H x1 = false) (hl : H.length ≤ 1000000) (hlo : lo ≤ w.heap.size) :
    Calls Tryz.prog 53 #[.pointer (some ⟨bb, 0, none⟩), .agg #[.int .i64 x1, .int .i64 x2]] w fun e w' => e = .returned (.tuple #[]) ∧ (∃ v' H', BestAt w' lo bb mb k v' H' ∧ HeapL H' ∧ H'.Perm (H ++ [(x1, x2)]) ∧ ∀ i, v'.ownBlock = some i → v.ownBlock = some i ∨ w.heap.size ≤ i) ∧ Keeps (fun i => i = bb ∨ i = mb ∨ v.ownBlock = some i) w w' := by
  obtain ⟨i0, hi, hz0, hz1, hz2⟩ := info_parts infoHit
  have HB : Hid (BestAt (w.alloc (.cells #[.int .i64 x1, .int .i64 x2] 25)) lo bb mb k v H) := h.below ((Below.refl _ w).alloc (Nat.le_refl _) _)
  have g0 : (w.alloc (.cells #[.int .i64 x1, .int .i64 x2] 25)).cell? ⟨w.heap.size, 0, none⟩ = some (.int .i64 x1) := by rw [cell_of_row _ _ 0 _ 25 (0, 0) (heap_alloc_last w _)]; rfl
  have g1 : (w.alloc (.cells #[.int .i64 x1, .int .i64 x2] 25)).cell? ⟨w.heap.size, 1, none⟩ = some (.int .i64 x2) := by rw [cell_of_row _ _ 1 _ 25 (0, 0) (heap_alloc_last w _)]; rfl
  have c2 := HB.out.c2
  have hkey := keyOf_i x1 hx
  have hbw := h.row.bl
  have hmw := h.ids.lt
  have HOW : Hid (∀ i, v.ownBlock = some i → i < w.heap.size) := fun i hi => (h.row.ow i hi).2.1
  obtain ⟨D, hD1, hD2, hD3, hD4⟩ := HB.out.ids
  have HD : Hid ((w.alloc (.cells #[.int .i64 x1, .int .i64 x2] 25)).ownsMap Tryz.prog 3 unitElem mb (Maps.size D) D ∧ Tidy D ∧ (∀ i, Maps.has D (.int .i64 i) = hasId H i) ∧ Maps.size D = H.length) := ⟨hD1, hD2, hD3, hD4⟩
  clear hD1 hD2 hD3 hD4 h
  go_enter Tryz.func53, Tryz.ntmps53
  go_wp2_with fail
  have hbA : Below w.heap.size w (w.alloc (.cells #[.int .i64 x1, .int .i64 x2] 25)) := (Below.refl _ w).alloc (Nat.le_refl _) _
  have hsA : (w.alloc (.cells #[.int .i64 x1, .int .i64 x2] 25)).heap.size = w.heap.size + 1 := by simp
  have HBA : Hid (Below w.heap.size w (w.alloc (.cells #[.int .i64 x1, .int .i64 x2] 25)) ∧ (w.alloc (.cells #[.int .i64 x1, .int .i64 x2] 25)).heap.size = w.heap.size + 1) := ⟨hbA, hsA⟩
  clear hbA hsA
  generalize w.alloc (.cells #[.int .i64 x1, .int .i64 x2] 25) = wA at *
  go_still_tail 7, follows
  change wpList _ _ _ _ _ wA.drew
  have hdr : wA.drew.ownsMap Tryz.prog 3 unitElem mb (Maps.size D) D := HD.out.1
  have hbd : Maps.size D < maxLen := by rw [HD.out.2.2.2]; unfold maxLen; omega
  refine wpList_mapUpdate_own _ rfl _ _ _ 77 rfl 3 91 law3 Tryz.underlying77 unitElem mb (Maps.size D) D rfl hdr hbd _ _ _ rfl rfl hkey (.agg []) [] unitElem_mk ?_
  intro w1 hown1 hg1
  have hk1 : Keeps (fun i => i = mb) wA w1 := ((Keeps.refl (fun i => i = mb) wA).drew).grown hg1 (fun j e => by cases e; rfl)
  have HM1 : Hid (IdsAt w1 mb (H ++ [(x1, x2)])) := by
    obtain ⟨_, q2, q3, q4⟩ := HD.out
    have hh : Maps.has D (.int .i64 x1) = false := by rw [q3, hid]
    refine ⟨_, ownsMap_tight hown1, q2.put (isKey x1) _, fun i => ?_, ?_⟩
    · rw [hasId_snoc]
      by_cases e : i = x1
      · subst e
        rw [has_put_same q2.isMap (isKey i)]; simp
      · rw [has_put_other (k' := .int .i64 i) (fun h => e (by injection h)), q3 i]
        simp [Ne.symm e]
    · rw [size_put q2, hh, q4]; simp
  have hnm := HB.out.nm
  have hne := HB.out.ne
  have HR1 : Hid (RowAt w1 lo bb v H) := HB.out.row.keeps hk1 (fun e => hne e) (fun i hi e => hnm (by rw [hi, e]))
  have HC0 : Hid (w1.cell? ⟨bb, 0, none⟩ = some (.int .i64 k) ∧ w1.cell? ⟨bb, 2, none⟩ = some (.map (some mb)) ∧ ∀ o, w1.frozen? ⟨bb, o, none⟩ = false) :=
    ⟨(hk1.cell (p := ⟨bb, 0, none⟩) HB.out.row.bl hne).trans HB.out.c0, (hk1.cell (p := ⟨bb, 2, none⟩) HB.out.row.bl hne).trans HB.out.c2, fun o => (hk1.frozen (p := ⟨bb, o, none⟩) HB.out.row.bl hne).trans (HB.out.f o)⟩
  have hbl : w.heap.size < wA.heap.size := by have := HBA.out.2; omega
  have hnb : w.heap.size ≠ mb := by omega
  have p0 := (hk1.cell (p := ⟨w.heap.size, 0, none⟩) hbl hnb).trans g0
  have p1 := (hk1.cell (p := ⟨w.heap.size, 1, none⟩) hbl hnb).trans g1
  have c1 := HR1.out.c1
  have HK1 : Hid (Keeps (fun i => i = mb) w w1) := (Keeps.of_below HBA.out.1).trans hk1
  have HNN : Hid (bb ≠ mb ∧ lo ≤ bb ∧ lo ≤ mb ∧ v.ownBlock ≠ some mb) := ⟨hne, HB.out.l1, HB.out.l2, hnm⟩
  have HHH : Hid (HeapL H) := hH
  have hs1 : wA.heap.size ≤ w1.heap.size := hk1.size
  clear hown1 hg1 hk1 hdr hbd HD hkey g0 g1 c2 HB hnm hne hH hnb
  go_wp2_with fail
  have hHl : H.length + 1 ≤ maxLen := by unfold maxLen; omega
  have hHb : (H.length + 1) * 16 ≤ 140737488355328 := by omega
  generalize hhb : w.heap.size = hb at *
  have hne2 : hb ≠ bb := by omega
  have hhB : hb < w1.heap.size := by omega
  have hob : ∀ i, v.ownBlock = some i → i ≠ hb := fun i hi => by have := HOW.out i hi; omega
  have hbB : Below w1.heap.size w1 (w1.alloc (.cells #[.int .i64 x1, .int .i64 x2] 25)).drew := by
    have h0 : Below w1.heap.size w1 (w1.alloc (.cells #[.int .i64 x1, .int .i64 x2] 25)) := (Below.refl _ _).alloc (Nat.le_refl _) _
    exact ⟨h0.os, h0.tape, h0.output, h0.size, h0.block⟩
  have HOw : Hid ((w1.alloc (.cells #[.int .i64 x1, .int .i64 x2] 25)).drew.ownsRow lo 25 2 v H.length (hitsV H)) := (HR1.out.below hbB).row
  have HNw : Hid (∀ j x, [Value.int .i64 x1, Value.int .i64 x2][j]? = some x → (w1.alloc (.cells #[.int .i64 x1, .int .i64 x2] 25)).drew.cell? (Addr.add ⟨w1.heap.size, 0, none⟩ j) = some x) := fun j x hx => two_newW w1 _ _ _ 25 rfl j x hx
  have HOn : Hid (∀ u ∈ [Value.int .i64 x1, Value.int .i64 x2], u.oneCell' = true) := fun u hu => by
    rcases List.mem_cons.1 hu with rfl | hu
    · rfl
    · rcases List.mem_cons.1 hu with rfl | hu
      · rfl
      · cases hu
  have HLo : Hid (lo ≤ (w1.alloc (.cells #[.int .i64 x1, .int .i64 x2] 25)).drew.heap.size) := by
    have := hbB.size
    show _ ≤ _
    omega
  have HSz : Hid ((w1.alloc (.cells #[.int .i64 x1, .int .i64 x2] 25)).drew.heap.size = w1.heap.size + 1) := by
    show (w1.alloc (.cells #[.int .i64 x1, .int .i64 x2] 25)).heap.size = _
    simp
  have HG : Hid (∀ W5, (w1.alloc (.cells #[.int .i64 x1, .int .i64 x2] 25)).drew.grownBy W5 v.ownBlock → W5.cell? ⟨hb, 0, none⟩ = some (.int .i64 x1) ∧ W5.cell? ⟨hb, 1, none⟩ = some (.int .i64 x2)) := by
    intro W5 hg
    have hk : Keeps (fun i => v.ownBlock = some i) w1 W5 := (Keeps.of_below hbB).grown hg (fun k e => e)
    exact ⟨(hk.cell (p := ⟨hb, 0, none⟩) hhB (fun e => hob hb e rfl)).trans p0, (hk.cell (p := ⟨hb, 1, none⟩) hhB (fun e => hob hb e rfl)).trans p1⟩
  have HG1 : Hid (∀ W5, (w1.alloc (.cells #[.int .i64 x1, .int .i64 x2] 25)).drew.grownBy W5 v.ownBlock → W5.cell? ⟨bb, 1, none⟩ = some v ∧ ∀ o, W5.frozen? ⟨bb, o, none⟩ = false) := by
    intro W5 hg
    have hk : Keeps (fun i => v.ownBlock = some i) w1 W5 := (Keeps.of_below hbB).grown hg (fun k e => e)
    exact ⟨(hk.cell (p := ⟨bb, 1, none⟩) HR1.out.bl (fun e => HR1.out.ne e)).trans c1, fun o => (hk.frozen (p := ⟨bb, o, none⟩) HR1.out.bl (fun e => HR1.out.ne e)).trans (HC0.out.2.2 o)⟩
  have HG2 : Hid (∀ (W : World) (u : Value), (W.cell? ⟨hb, 0, none⟩ = some (.int .i64 x1) ∧ W.cell? ⟨hb, 1, none⟩ = some (.int .i64 x2)) → (W.setCell ⟨bb, 1, none⟩ u).cell? ⟨hb, 0, none⟩ = some (.int .i64 x1) ∧ (W.setCell ⟨bb, 1, none⟩ u).cell? ⟨hb, 1, none⟩ = some (.int .i64 x2)) := by
    intro W u hs
    exact ⟨(World.cell?_setCell_far W ⟨bb, 1, none⟩ ⟨hb, 0, none⟩ u (Ne.symm hne2)).trans hs.1, (World.cell?_setCell_far W ⟨bb, 1, none⟩ ⟨hb, 1, none⟩ u (Ne.symm hne2)).trans hs.2⟩
  have e1 : (w1.alloc (.cells #[.int .i64 x1, .int .i64 x2] 25)).cell? ⟨bb, 1, none⟩ = some v := (hbB.cell (p := ⟨bb, 1, none⟩) HR1.out.bl).trans c1
  go_region_law ((refine step_append_lies _ (by rfl) _ _ _ (by rfl) lo 25 i0 (.agg #[.int .i64 0, .int .i64 0]) 2 16 Tryz.underlying52 hi hz0 hz1 hz2 (by rfl) (by decide) v H.length (hitsV H) (by rfl) HOw.out ⟨w1.heap.size, 0, none⟩ 1 1 [.int .i64 x1, .int .i64 x2] (by rfl) (by rfl) HNw.out HOn.out (by decide) hHl hHb HLo.out (w1.heap.size + 1) HSz.out ?_; intro g5 c5 w5 hown5 hgrow5 hat5 hlt5; obtain ⟨hc5, hf5⟩ := HG1.out w5 hgrow5; have hf51 := hf5 1))
  all_goals
    clear p0 p1 c1 e1 HG HG2 HOw HNw HOn HLo HSz
    have hk5 : Keeps (fun i => v.ownBlock = some i) w1 w5 := (Keeps.of_below hbB).grown hgrow5 (fun k e => e)
    have hg5b : g5 ≠ bb ∧ g5 ≠ mb ∧ lo ≤ g5 := by
      have hbl1 := HR1.out.bl
      have hml1 := HM1.out.lt
      rcases hat5 with e | e
      · exact ⟨fun x => HR1.out.ne (by rw [e, x]), fun x => HNN.out.2.2.2 (by rw [e, x]), (HR1.out.ow g5 e).1⟩
      · exact ⟨by omega, by omega, by omega⟩
    have HG5 : Hid (v.ownBlock = some g5 ∨ w.heap.size ≤ g5) := by
      rcases hat5 with e | e
      · exact Or.inl e
      · exact Or.inr (by omega)
    have HRow : Hid (RowAt (w5.setCell ⟨bb, 1, none⟩ (.slice (some ⟨g5, 0, none⟩) (H.length + 1) c5)) lo bb (.slice (some ⟨g5, 0, none⟩) (H.length + 1) c5) (H ++ [(x1, x2)])) := by
      refine { c1 := World.cell?_setCell_same _ _ _ hc5, row := ?_, ne := ?_, len := by rw [List.length_append]; simp; omega }
      · rw [List.length_append, hitsV_append]
        exact ownsRow_setCell_other hown5 (a := ⟨bb, 1, none⟩) (fun e => hg5b.1 (by simpa [Value.ownBlock] using e)) _
      · intro e
        exact hg5b.1 (by simpa [Value.ownBlock] using e)
    have hk6 : Keeps (fun i => i = bb ∨ v.ownBlock = some i) w1 (w5.setCell ⟨bb, 1, none⟩ (.slice (some ⟨g5, 0, none⟩) (H.length + 1) c5)) :=
      Keeps.setCell (S := fun i => i = bb ∨ v.ownBlock = some i) (p := ⟨bb, 1, none⟩) (hk5.mono (fun i e => Or.inr e)) (Or.inl rfl) _
    have HM6 : Hid (IdsAt (w5.setCell ⟨bb, 1, none⟩ (.slice (some ⟨g5, 0, none⟩) (H.length + 1) c5)) mb (H ++ [(x1, x2)])) := HM1.out.keeps hk6 (fun e => by
      rcases e with e | e
      · exact HNN.out.1 e.symm
      · exact HNN.out.2.2.2 e)
    have hz0 : w5.cell? ⟨bb, 0, none⟩ = some (.int .i64 k) := (hk5.cell (p := ⟨bb, 0, none⟩) HR1.out.bl (fun e => HR1.out.ne e)).trans HC0.out.1
    have hz2 : w5.cell? ⟨bb, 2, none⟩ = some (.map (some mb)) := (hk5.cell (p := ⟨bb, 2, none⟩) HR1.out.bl (fun e => HR1.out.ne e)).trans HC0.out.2.1
    have HC6 : Hid ((w5.setCell ⟨bb, 1, none⟩ (.slice (some ⟨g5, 0, none⟩) (H.length + 1) c5)).cell? ⟨bb, 0, none⟩ = some (.int .i64 k) ∧ (w5.setCell ⟨bb, 1, none⟩ (.slice (some ⟨g5, 0, none⟩) (H.length + 1) c5)).cell? ⟨bb, 2, none⟩ = some (.map (some mb)) ∧ ∀ o, (w5.setCell ⟨bb, 1, none⟩ (.slice (some ⟨g5, 0, none⟩) (H.length + 1) c5)).frozen? ⟨bb, o, none⟩ = false) := by
      refine ⟨?_, ?_, fun o => by rw [World.frozen?_setCell]; exact hf5 o⟩
      · rw [World.cell?_setCell_other _ _ _ _ (by simp)]; exact hz0
      · rw [World.cell?_setCell_other _ _ _ _ (by simp)]; exact hz2
    have HK6 : Hid (Keeps (fun i => i = bb ∨ i = mb ∨ v.ownBlock = some i) w (w5.setCell ⟨bb, 1, none⟩ (.slice (some ⟨g5, 0, none⟩) (H.length + 1) c5))) :=
      (HK1.out.mono (fun i e => Or.inr (Or.inl e))).trans (hk6.mono (fun i e => by rcases e with e | e; exact Or.inl e; exact Or.inr (Or.inr e)))
    clear hz0 hz2 hk6 hk5 hown5 hgrow5 hc5 hf5 hf51 HM1 HR1 HC0 HK1
    go_wp2_with fail
    refine (rise_at HRow.out (by
      have := RiseI.start HHH.out (x1, x2)
      rw [List.length_append]
      simpa using this)).mono ?_
    rintro e w7 ⟨rfl, ⟨H', hR7, hH7, hP7⟩, hK7⟩
    have hnm7 : ∀ i, (Value.slice (some ⟨g5, 0, none⟩) (H.length + 1) c5).ownBlock = some i → i = g5 := fun i e => by simpa [Value.ownBlock] using e.symm
    have HE : Hid ((∃ v' H', BestAt w7 lo bb mb k v' H' ∧ HeapL H' ∧ H'.Perm (H ++ [(x1, x2)]) ∧ ∀ i, v'.ownBlock = some i → v.ownBlock = some i ∨ w.heap.size ≤ i) ∧ Keeps (fun i => i = bb ∨ i = mb ∨ v.ownBlock = some i) w w7) := by
      refine ⟨⟨_, H', { c0 := ?_, c2 := ?_, f := fun o => ?_, row := hR7, ids := (HM6.out.keeps hK7 (fun e => hg5b.2.1 (hnm7 _ e).symm)).perm hP7.symm, l1 := HNN.out.2.1, l2 := HNN.out.2.2.1, ne := HNN.out.1 }, hH7, hP7, fun i e => ?_⟩, ?_⟩
      · exact (hK7.cell (p := ⟨bb, 0, none⟩) HRow.out.bl (fun e => hg5b.1 (hnm7 _ e).symm)).trans HC6.out.1
      · exact (hK7.cell (p := ⟨bb, 2, none⟩) HRow.out.bl (fun e => hg5b.1 (hnm7 _ e).symm)).trans HC6.out.2.1
      · exact (hK7.frozen (p := ⟨bb, o, none⟩) HRow.out.bl (fun e => hg5b.1 (hnm7 _ e).symm)).trans (HC6.out.2.2 o)
      · have := hnm7 i e
        subst this
        rcases HG5.out with e2 | e2
        · exact Or.inl e2
        · exact Or.inr (by omega)
      · exact HK6.out.transN hK7 (fun i e => by
          have := hnm7 i e
          rcases HG5.out with e2 | e2
          · exact Or.inl (Or.inr (Or.inr (by rw [this]; exact e2)))
          · exact Or.inr (by omega))
    clear hR7 hP7 hK7 HRow HM6 HC6 HK6
    go_wp2_with fail
    go_end0
    exact ⟨rfl, HE.out⟩
end Go.Proofs.YteaacodloabdcaaGreatDoor

namespace Go.Proofs.YteaacodloabdcaaGreatDoor
open Go.RowKit Go.Maps

theorem hasId_repl (y x : Hit) (r : List Hit) (hn : ((y :: r).map (·.1)).Nodup) (i : Int) : hasId (x :: r) i = ((hasId (y :: r) i && !(y.1 == i)) || x.1 == i) := by
  have h1 : y.1 ∉ r.map (·.1) := by
    rw [List.map_cons] at hn
    exact (List.nodup_cons.1 hn).1
  simp only [hasId, List.any_cons]
  by_cases e : y.1 = i
  · have : r.any (fun x => x.1 == i) = false := by
      rw [List.any_eq_false]
      intro z hz hzi
      exact h1 (List.mem_map.2 ⟨z, hz, by rw [e]; simpa using hzi⟩)
    rw [this]
    simp [e]
  · have e' : (y.1 == i) = false := by simpa using e
    rw [e']
    simp [Bool.or_comm]
set_option maxRecDepth 100000 in
set_option maxHeartbeats 4000000 in
theorem brepl_at {w : World} {lo bb mb k g n c : Nat} {H : List Hit} (h : BestAt w lo bb mb k (.slice (some ⟨g, 0, none⟩) n c) H) (hn : H.length = n) (h0 : 0 < n) (hH : HeapL H) (hnd : (H.map (·.1)).Nodup) (x1 x2 : Int) (hx : -9223372036854775808 ≤ x1 ∧ x1 ≤ 9223372036854775807) (hy : -9223372036854775808 ≤ (hat H 0).1 ∧ (hat H 0).1 ≤ 9223372036854775807) (hid : hasId H x1 = false) (hl : n ≤ 1000000) :
    Calls Tryz.prog 52 #[.pointer (some ⟨bb, 0, none⟩), .agg #[.int .i64 x1, .int .i64 x2]] w fun e w' => e = .returned (.tuple #[]) ∧ (∃ H', BestAt w' lo bb mb k (.slice (some ⟨g, 0, none⟩) n c) H' ∧ HeapL H' ∧ H'.Perm (H.set 0 (x1, x2))) ∧ Keeps (fun i => i = mb ∨ i = g) w w' := by
  have hbw := h.row.bl
  have hmw := h.ids.lt
  have hgw : g < w.heap.size := (h.row.ow g rfl).2.1
  have HB : Hid (BestAt (w.alloc (.cells #[.int .i64 x1, .int .i64 x2] 25)) lo bb mb k (.slice (some ⟨g, 0, none⟩) n c) H) := h.below ((Below.refl _ w).alloc (Nat.le_refl _) _)
  have hnm : g ≠ mb := fun e => HB.out.nm (by rw [e]; rfl)
  have hgb : g ≠ bb := fun e => HB.out.row.ne (by rw [e]; rfl)
  have hne := HB.out.ne
  have g0 : (w.alloc (.cells #[.int .i64 x1, .int .i64 x2] 25)).cell? ⟨w.heap.size, 0, none⟩ = some (.int .i64 x1) := by rw [cell_of_row _ _ 0 _ 25 (0, 0) (heap_alloc_last w _)]; rfl
  have g1 : (w.alloc (.cells #[.int .i64 x1, .int .i64 x2] 25)).cell? ⟨w.heap.size, 1, none⟩ = some (.int .i64 x2) := by rw [cell_of_row _ _ 1 _ 25 (0, 0) (heap_alloc_last w _)]; rfl
  have c1 := HB.out.row.c1
  have c2 := HB.out.c2
  have hkey := keyOf_i x1 hx
  have hkeyy := keyOf_i _ hy
  obtain ⟨g', c', e1, _, _, _, _, hcell, _⟩ := HB.out.row.at_ (by omega)
  have d0 := (hcell 0 (by omega)).1
  injection e1 with a e2 b
  injection a with a
  injection a with a
  subst a
  clear hcell b e2
  rw [Nat.zero_mul] at d0
  obtain ⟨D, hD1, hD2, hD3, hD4⟩ := HB.out.ids
  have HD : Hid ((w.alloc (.cells #[.int .i64 x1, .int .i64 x2] 25)).ownsMap Tryz.prog 3 unitElem mb (Maps.size D) D ∧ Tidy D ∧ (∀ i, Maps.has D (.int .i64 i) = hasId H i) ∧ Maps.size D = H.length) := ⟨hD1, hD2, hD3, hD4⟩
  have HS : Hid (HeapL H ∧ (H.map (·.1)).Nodup ∧ hasId H x1 = false ∧ H.length = n) := ⟨hH, hnd, hid, hn⟩
  have HBA : Hid (Below w.heap.size w (w.alloc (.cells #[.int .i64 x1, .int .i64 x2] 25)) ∧ (w.alloc (.cells #[.int .i64 x1, .int .i64 x2] 25)).heap.size = w.heap.size + 1) := ⟨(Below.refl _ w).alloc (Nat.le_refl _) _, by simp⟩
  obtain ⟨y1, hy1⟩ : ∃ y1, (hat H 0).1 = y1 := ⟨_, rfl⟩
  have HY : Hid ((hat H 0).1 = y1) := hy1
  rw [hy1] at d0 hkeyy hy
  clear hD1 hD2 hD3 hD4 h hH hnd hid hn hy1
  go_enter Tryz.func52, Tryz.ntmps52
  go_wp2_with fail
  generalize w.alloc (.cells #[.int .i64 x1, .int .i64 x2] 25) = wA at *
  have h0' : (0 : Int) < (n : Int) := by omega
  go_still_tail 11, follows
  change wpList _ _ _ _ _ wA.drew
  have hdr : wA.drew.ownsMap Tryz.prog 3 unitElem mb (Maps.size D) D := HD.out.1
  refine wpList_delete_own _ rfl _ _ _ 3 rfl 91 law3 Tryz.underlying77 unitElem mb (Maps.size D) D rfl hdr _ _ rfl hkeyy ?_
  intro w1 hown1 hturn1
  have hk1 : Keeps (fun i => i = mb) wA w1 := ((Keeps.refl (fun i => i = mb) wA).drew).grown hturn1.grown (fun j e => by cases e; rfl)
  have hbA : w.heap.size < wA.heap.size := by have := HBA.out.2; omega
  have p0 := (hk1.cell (p := ⟨w.heap.size, 0, none⟩) hbA (show ¬ w.heap.size = mb by omega)).trans g0
  have p1 := (hk1.cell (p := ⟨w.heap.size, 1, none⟩) hbA (show ¬ w.heap.size = mb by omega)).trans g1
  have q2 := (hk1.cell (p := ⟨bb, 2, none⟩) HB.out.row.bl hne).trans c2
  have HD1 : Hid (w1.ownsMap Tryz.prog 3 unitElem mb (Maps.size (D.del (.int .i64 y1))) (D.del (.int .i64 y1)) ∧ Tidy (D.del (.int .i64 y1)) ∧ (∀ i, Maps.has (D.del (.int .i64 y1)) (.int .i64 i) = (hasId H i && !(y1 == i))) ∧ Maps.size (D.del (.int .i64 y1)) + 1 = n) := by
    obtain ⟨_, r2, r3, r4⟩ := HD.out
    refine ⟨ownsMap_tight hown1, r2.del _, fun i => ?_, ?_⟩
    · by_cases e : y1 = i
      · subst e
        rw [has_del_same]; simp
      · rw [has_del_other (k' := .int .i64 i) (fun h => e (by injection h with _ h; exact h.symm)), r3 i]
        simp [e]
    · have hh : Maps.has D (.int .i64 y1) = true := by
        rw [r3, ← HY.out]
        exact hasId_yes (j := 0) (by have := HS.out.2.2.2; omega) rfl
      have := size_del (k := .int .i64 y1) r2
      rw [hh, r4, HS.out.2.2.2] at this
      simpa using this
  have HK1 : Hid (Keeps (fun i => i = mb) wA w1) := hk1
  clear hown1 hturn1 hk1 hdr HD c2 d0 c1
  generalize D.del (.int .i64 y1) = D1 at *
  go_wp2_with fail
  go_still_tail 7, follows
  change wpList _ _ _ _ _ w1.drew
  have hdr1 : w1.drew.ownsMap Tryz.prog 3 unitElem mb (Maps.size D1) D1 := HD1.out.1
  have hbd : Maps.size D1 < maxLen := by have := HD1.out.2.2.2; unfold maxLen; omega
  refine wpList_mapUpdate_own _ rfl _ _ _ 77 rfl 3 91 law3 Tryz.underlying77 unitElem mb (Maps.size D1) D1 rfl hdr1 hbd _ _ _ rfl rfl hkey (.agg []) [] unitElem_mk ?_
  intro w2 hown2 hg2
  have hk2 : Keeps (fun i => i = mb) w1 w2 := ((Keeps.refl (fun i => i = mb) w1).drew).grown hg2 (fun j e => by cases e; rfl)
  have HM2 : Hid (IdsAt w2 mb (H.set 0 (x1, x2))) := by
    obtain ⟨_, r2, r3, r4⟩ := HD1.out
    have hhx : Maps.has D1 (.int .i64 x1) = false := by rw [r3, HS.out.2.2.1]; rfl
    obtain ⟨yy, rr, hHe⟩ : ∃ y r, H = y :: r := by
      cases hc : H with
      | nil => have := HS.out.2.2.2; rw [hc] at this; simp at this; omega
      | cons y r => exact ⟨y, r, rfl⟩
    have hy1 : yy.1 = y1 := by have := HY.out; rw [hHe] at this; exact this
    have hnd := HS.out.2.1
    rw [hHe] at hnd
    refine ⟨_, ownsMap_tight hown2, r2.put (isKey x1) _, fun i => ?_, ?_⟩
    · rw [hHe, List.set_cons_zero, hasId_repl yy (x1, x2) rr hnd i]
      by_cases e : i = x1
      · subst e
        rw [has_put_same r2.isMap (isKey i)]; simp
      · rw [has_put_other (k' := .int .i64 i) (fun h => e (by injection h)), r3 i, hHe, hy1]
        simp [Ne.symm e]
    · rw [size_put r2, hhx, List.length_set, HS.out.2.2.2]
      simpa using r4
  have hkA2 : Keeps (fun i => i = mb) wA w2 := HK1.out.trans hk2
  have HR2 : Hid (RowAt w2 lo bb (.slice (some ⟨g, 0, none⟩) n c) H) := HB.out.row.keeps hkA2 (fun e => hne e) (fun i hi e => hnm ((show g = i by simpa [Value.ownBlock] using hi).trans e))
  have HC2 : Hid (w2.cell? ⟨bb, 0, none⟩ = some (.int .i64 k) ∧ w2.cell? ⟨bb, 2, none⟩ = some (.map (some mb)) ∧ ∀ o, w2.frozen? ⟨bb, o, none⟩ = false) :=
    ⟨(hkA2.cell (p := ⟨bb, 0, none⟩) HB.out.row.bl hne).trans HB.out.c0, (hkA2.cell (p := ⟨bb, 2, none⟩) HB.out.row.bl hne).trans HB.out.c2, fun o => (hkA2.frozen (p := ⟨bb, o, none⟩) HB.out.row.bl hne).trans (HB.out.f o)⟩
  have r0 := (hk2.cell (p := ⟨w.heap.size, 0, none⟩) (World.block_lt_of_cell? w1 _ p0) (show ¬ w.heap.size = mb by omega)).trans p0
  have r1 := (hk2.cell (p := ⟨w.heap.size, 1, none⟩) (World.block_lt_of_cell? w1 _ p1) (show ¬ w.heap.size = mb by omega)).trans p1
  have HK2 : Hid (Keeps (fun i => i = mb) w w2) := (Keeps.of_below HBA.out.1).trans hkA2
  have HL : Hid (lo ≤ bb ∧ lo ≤ mb ∧ bb ≠ mb) := ⟨HB.out.l1, HB.out.l2, HB.out.ne⟩
  have c1 := HR2.out.c1
  have hfz := soft_of HR2.out HS.out.2.2.2
  have z0 := hfz 0
  have z1 := hfz 1
  have hd2 := two_of HR2.out HS.out.2.2.2 0 0 h0 h0
  obtain ⟨_, s0, s1, _, _⟩ := hd2
  simp only [Nat.zero_mul, Nat.zero_add] at s0 s1
  clear hown2 hg2 hk2 hkA2 hdr1 hbd HD1 HK1 HB p0 p1 q2 hkey hkeyy g0 g1 hfz
  go_wp2_with fail
  have HR3 : Hid (RowAt ((w2.setCell ⟨g, 0, none⟩ (.int .i64 x1)).setCell ⟨g, 1, none⟩ (.int .i64 x2)).drew lo bb (.slice (some ⟨g, 0, none⟩) n c) (H.set 0 (x1, x2))) := by
    have := HR2.out.set HS.out.2.2.2 0 h0 (x1, x2)
    simp only [Nat.zero_mul, Nat.zero_add] at this
    exact this.keeps (Keeps.drew (Keeps.refl (fun _ => False) _)) (fun e => e) (fun _ _ e => e)
  have hk3 : Keeps (fun i => i = g) w2 ((w2.setCell ⟨g, 0, none⟩ (.int .i64 x1)).setCell ⟨g, 1, none⟩ (.int .i64 x2)).drew :=
    Keeps.drew (Keeps.setCell (p := ⟨g, 1, none⟩) (Keeps.setCell (p := ⟨g, 0, none⟩) (Keeps.refl (fun i => i = g) w2) rfl _) rfl _)
  have HK3 : Hid (Keeps (fun i => i = g) w2 ((w2.setCell ⟨g, 0, none⟩ (.int .i64 x1)).setCell ⟨g, 1, none⟩ (.int .i64 x2)).drew) := hk3
  have HI3 : Hid (SinkI (H.set 0 (x1, x2)) 0 ∧ (H.set 0 (x1, x2)).length = n) := ⟨SinkI.start HS.out.1 _ (by rw [HS.out.2.2.2]; exact h0), by rw [List.length_set]; exact HS.out.2.2.2⟩
  have hbl2 := HR2.out.bl
  clear hk3
  go_still_tail 6, follows
  go_wp2_with fail
  refine (sink_at HR3.out HI3.out.2 HI3.out.1).mono ?_
  rintro e w7 ⟨rfl, ⟨H', hR7, hH7, hP7⟩, hK7⟩
  have hk27 := HK3.out.trans hK7
  have HE : Hid ((∃ H', BestAt w7 lo bb mb k (.slice (some ⟨g, 0, none⟩) n c) H' ∧ HeapL H' ∧ H'.Perm (H.set 0 (x1, x2))) ∧ Keeps (fun i => i = mb ∨ i = g) w w7) := by
    refine ⟨⟨H', { c0 := ?_, c2 := ?_, f := fun o => ?_, row := hR7, ids := (HM2.out.keeps hk27 (fun e => hnm e.symm)).perm hP7.symm, l1 := HL.out.1, l2 := HL.out.2.1, ne := HL.out.2.2 }, hH7, hP7⟩, ?_⟩
    · exact (hk27.cell (p := ⟨bb, 0, none⟩) hbl2 (fun e => hgb e.symm)).trans HC2.out.1
    · exact (hk27.cell (p := ⟨bb, 2, none⟩) hbl2 (fun e => hgb e.symm)).trans HC2.out.2.1
    · exact (hk27.frozen (p := ⟨bb, o, none⟩) hbl2 (fun e => hgb e.symm)).trans (HC2.out.2.2 o)
    · exact (HK2.out.mono (fun i e => Or.inl e)).trans (hk27.mono (fun i e => Or.inr e))
  clear hR7 hP7 hK7 hk27 HR3 HK3 HM2 HC2
  go_wp2_with fail
  go_end0
  exact ⟨rfl, HE.out⟩
end Go.Proofs.YteaacodloabdcaaGreatDoor

namespace Go.Proofs.YteaacodloabdcaaGreatDoor
open Go.RowKit Go.Maps

/-- What there is, in order, in memory. -/
def BestW (w : World) (lo bb mb k : Nat) (v : Value) (W : List Hit) : Prop := ∃ H, BestAt w lo bb mb k v H ∧ HeapL H ∧ H.Perm W ∧ OkW k W ∧ (∀ x ∈ W, -9223372036854775808 ≤ x.1 ∧ x.1 ≤ 9223372036854775807) ∧ W.length ≤ 1000000
theorem BestW.keeps {S : Nat → Prop} {w w' : World} {lo bb mb k : Nat} {v : Value} {W : List Hit} (h : BestW w lo bb mb k v W) (hk : Keeps S w w') (s1 : ¬ S bb) (s2 : ¬ S mb) (s3 : ∀ i, v.ownBlock = some i → ¬ S i) : BestW w' lo bb mb k v W := by
  obtain ⟨H, h1, h2⟩ := h
  exact ⟨H, h1.keeps hk s1 s2 s3, h2⟩
theorem BestW.below {w w' : World} {lo bb mb k : Nat} {v : Value} {W : List Hit} (h : BestW w lo bb mb k v W) (hb : Below w.heap.size w w') : BestW w' lo bb mb k v W :=
  h.keeps (Keeps.of_below (S := fun _ => False) hb) (fun e => e) (fun e => e) (fun _ _ e => e)
theorem BestW.new {w : World} {lo bb mb k : Nat} {v : Value} (h : BestAt w lo bb mb k v []) : BestW w lo bb mb k v [] :=
  ⟨[], h, HeapL.nil, List.Perm.refl _, OkW.nil k, (fun x hx => by cases hx), Nat.zero_le _⟩
/-- Is it full, and which is the worst? -/
def fullW (k : Nat) (W : List Hit) : Bool := decide (0 < k ∧ W.length = k)
theorem BestAt.len_v {w : World} {lo bb mb k : Nat} {v : Value} {H : List Hit} (h : BestAt w lo bb mb k v H) : ∃ p c, v = .slice p H.length c := by
  rcases h.row.row.2 with ⟨rfl, h0⟩ | ⟨g, cap, cur, rfl, _⟩
  · exact ⟨none, 0, by rw [h0]⟩
  · exact ⟨_, _, rfl⟩
theorem two_set {W : World} {r : Nat} {a b : Value} (h0 : W.cell? ⟨r, 0, none⟩ = some a) (h1 : W.cell? ⟨r, 1, none⟩ = some b) (u v : Value) :
    ((W.setCell ⟨r, 0, none⟩ u).setCell ⟨r, 1, none⟩ v).cell? ⟨r, 0, none⟩ = some u ∧ ((W.setCell ⟨r, 0, none⟩ u).setCell ⟨r, 1, none⟩ v).cell? ⟨r, 1, none⟩ = some v := by
  refine ⟨?_, ?_⟩
  · rw [World.cell?_setCell_other _ _ _ _ (by simp)]; exact World.cell?_setCell_same _ _ _ h0
  · exact World.cell?_setCell_same _ _ _ ((World.cell?_setCell_other _ _ _ _ (by simp)).trans h1)
theorem loadHit (r : Nat) (u v : Value) (w : World) (h0 : w.cell? ⟨r, 0, none⟩ = some u) (h1 : w.cell? ⟨r, 1, none⟩ = some v) : (loadVar 25 ⟨r, 0, none⟩).run Tryz.prog w = .ok (.agg #[u, v]) w := by
  go_simp
theorem resHit {fn : Func} {p q : Tmp} (h : fn.results = #[.cell p 25, .tmp q]) (tmps : Array Value) (w : World) (r : Nat) (u v z : Value) (hp : tmps.getD p undef = .pointer (some ⟨r, 0, none⟩)) (hq : tmps.getD q undef = z) (h0 : w.cell? ⟨r, 0, none⟩ = some u) (h1 : w.cell? ⟨r, 1, none⟩ = some v) : (results fn tmps).run Tryz.prog w = .ok (.tuple #[.agg #[u, v], z]) w := by
  rw [results_cell_tmp h, hp, hq]
  have ha : (asAddr (.pointer (some ⟨r, 0, none⟩))).run Tryz.prog w = .ok ⟨r, 0, none⟩ w := rfl
  rw [ha]
  simp only [Result.andThen]
  rw [loadHit r u v w h0 h1]
set_option maxRecDepth 100000 in
set_option maxHeartbeats 2000000 in
theorem bworst_at {w : World} {lo bb mb k : Nat} {v : Value} {W : List Hit} (h : BestW w lo bb mb k v W) (hk : (k : Int) ≤ 9223372036854775807) :
    Calls Tryz.prog 19 #[.pointer (some ⟨bb, 0, none⟩)] w fun e w' => e = .returned (.tuple #[hitV (if fullW k W then lastH W else zeroH), .bool (fullW k W)]) ∧ Below w.heap.size w w' := by
  obtain ⟨H, hB, hH, hP, hO, hF, hl⟩ := h
  have hlen := hP.length_eq
  obtain ⟨p, c, hv⟩ := hB.len_v
  have hBA : Below w.heap.size w (w.alloc (.cells #[.int .i64 0, .int .i64 0] 25)) := (Below.refl _ w).alloc (Nat.le_refl _) _
  have HB : Hid (BestAt (w.alloc (.cells #[.int .i64 0, .int .i64 0] 25)) lo bb mb k v H) := hB.below hBA
  have c0 := HB.out.c0
  have c1 := HB.out.row.c1
  rw [hv, hlen] at c1
  by_cases hf : fullW k W = true
  · rw [hf]
    have hf' : 0 < k ∧ W.length = k := by simpa [fullW] using hf
    obtain ⟨g, c', e1, _, _, _, _, hcell, _⟩ := HB.out.row.at_ (by omega)
    obtain ⟨d0, d1⟩ := hcell 0 (by omega)
    rw [hv] at e1
    injection e1 with e1 e2 e3
    subst e1
    rw [heap_last hH hP hO.sort (by omega)] at d0 d1
    simp only [Nat.zero_mul, Nat.zero_add] at d0 d1
    obtain ⟨hk0, hkl⟩ := hf'
    rw [hkl] at c1
    have HX : Hid (Below w.heap.size w (w.alloc (.cells #[.int .i64 0, .int .i64 0] 25))) := hBA
    clear hcell e2 e3 hv hB HB hlen hBA hf
    have hk1 : ((k : Int) == 0) = false := by simp; omega
    have hk2 : ¬ ((k : Int) < (k : Int)) := by omega
    go_enter Tryz.func19, Tryz.ntmps19
    go_wp2_with fail
    go_quiet (fail)
    go_wp2_with fail
    have x0 : ∀ q, ((w.alloc (.cells #[.int .i64 0, .int .i64 0] 25)).drewN q).cell? ⟨w.heap.size, 0, none⟩ = some (.int .i64 0) := fun q => by
      show (w.alloc (.cells #[.int .i64 0, .int .i64 0] 25)).cell? _ = _
      rw [cell_of_row _ _ 0 _ 25 (0, 0) (heap_alloc_last w _)]; rfl
    have x1 : ∀ q, ((w.alloc (.cells #[.int .i64 0, .int .i64 0] 25)).drewN q).cell? ⟨w.heap.size, 1, none⟩ = some (.int .i64 0) := fun q => by
      show (w.alloc (.cells #[.int .i64 0, .int .i64 0] 25)).cell? _ = _
      rw [cell_of_row _ _ 1 _ 25 (0, 0) (heap_alloc_last w _)]; rfl
    obtain ⟨y0, y1⟩ := two_set (x0 nq) (x1 nq) (.int .i64 (lastH W).1) (.int .i64 (lastH W).2)
    have hb3 : Below w.heap.size w ((w.alloc (.cells #[.int .i64 0, .int .i64 0] 25)).drewN nq) := below_drewN HX.out _
    have hk := ((Keeps.refl (fun i => i = w.heap.size) ((w.alloc (.cells #[.int .i64 0, .int .i64 0] 25)).drewN nq)).setCell (p := ⟨w.heap.size, 0, none⟩) rfl (.int .i64 (lastH W).1)).setCell (p := ⟨w.heap.size, 1, none⟩) rfl (.int .i64 (lastH W).2)
    exact bodyPost_ret (resHit (p := 2) (q := 3) rfl _ _ w.heap.size _ _ _ rfl rfl y0 y1) rfl ⟨rfl, hb3.trans (hk.below hb3.size (fun i e => by omega))⟩
  · have hff : fullW k W = false := by simpa using hf
    rw [hff]
    have x0 : ∀ q, ((w.alloc (.cells #[.int .i64 0, .int .i64 0] 25)).drewN q).cell? ⟨w.heap.size, 0, none⟩ = some (.int .i64 0) := fun q => by
      show (w.alloc (.cells #[.int .i64 0, .int .i64 0] 25)).cell? _ = _
      rw [cell_of_row _ _ 0 _ 25 (0, 0) (heap_alloc_last w _)]; rfl
    have x1 : ∀ q, ((w.alloc (.cells #[.int .i64 0, .int .i64 0] 25)).drewN q).cell? ⟨w.heap.size, 1, none⟩ = some (.int .i64 0) := fun q => by
      show (w.alloc (.cells #[.int .i64 0, .int .i64 0] 25)).cell? _ = _
      rw [cell_of_row _ _ 1 _ 25 (0, 0) (heap_alloc_last w _)]; rfl
    have X0 : Hid (∀ q, ((((w.alloc (.cells #[.int .i64 0, .int .i64 0] 25)).drewN q).setCell ⟨w.heap.size, 0, none⟩ (.int .i64 0)).setCell ⟨w.heap.size, 1, none⟩ (.int .i64 0)).cell? ⟨w.heap.size, 0, none⟩ = some (.int .i64 0) ∧ ((((w.alloc (.cells #[.int .i64 0, .int .i64 0] 25)).drewN q).setCell ⟨w.heap.size, 0, none⟩ (.int .i64 0)).setCell ⟨w.heap.size, 1, none⟩ (.int .i64 0)).cell? ⟨w.heap.size, 1, none⟩ = some (.int .i64 0) ∧ Below w.heap.size w ((((w.alloc (.cells #[.int .i64 0, .int .i64 0] 25)).drewN q).setCell ⟨w.heap.size, 0, none⟩ (.int .i64 0)).setCell ⟨w.heap.size, 1, none⟩ (.int .i64 0))) := fun q => by
      obtain ⟨y0, y1⟩ := two_set (x0 q) (x1 q) (.int .i64 0) (.int .i64 0)
      have hb3 : Below w.heap.size w ((w.alloc (.cells #[.int .i64 0, .int .i64 0] 25)).drewN q) := below_drewN hBA _
      have hk := ((Keeps.refl (fun i => i = w.heap.size) ((w.alloc (.cells #[.int .i64 0, .int .i64 0] 25)).drewN q)).setCell (p := ⟨w.heap.size, 0, none⟩) rfl (.int .i64 0)).setCell (p := ⟨w.heap.size, 1, none⟩) rfl (.int .i64 0)
      exact ⟨y0, y1, hb3.trans (hk.below hb3.size (fun i e => by omega))⟩
    have hle := hO.len
    clear x0 x1 HB hB hBA hH hP hO hF hv hlen hf
    by_cases hk0 : k = 0
    · subst hk0
      clear hff hle
      go_enter Tryz.func19, Tryz.ntmps19
      go_wp2_with fail
      go_quiet (fail)
      go_wp2_with fail
      exact bodyPost_ret (resHit (p := 2) (q := 3) rfl _ _ w.heap.size _ _ _ rfl rfl (X0.out _).1 (X0.out _).2.1) rfl ⟨rfl, (X0.out _).2.2⟩
    · have hlt : W.length < k := by
        have : ¬ (0 < k ∧ W.length = k) := by simpa [fullW] using hff
        omega
      clear hff hle
      generalize W.length = m at *
      have hk1 : ((k : Int) == 0) = false := by simp; omega
      have hlt' : (m : Int) < (k : Int) := by omega
      go_enter Tryz.func19, Tryz.ntmps19
      go_wp2_with fail
      go_quiet (fail)
      go_wp2_with fail
      exact bodyPost_ret (resHit (p := 2) (q := 3) rfl _ _ w.heap.size _ _ _ rfl rfl (X0.out _).1 (X0.out _).2.1) rfl ⟨rfl, (X0.out _).2.2⟩
end Go.Proofs.YteaacodloabdcaaGreatDoor

namespace Go.Proofs.YteaacodloabdcaaGreatDoor
open Go.RowKit Go.Maps

theorem two_below {w w' : World} {b : Nat} {u v : Value} (hb : Below w.heap.size w w') (h : w.cell? ⟨b, 0, none⟩ = some u ∧ w.cell? ⟨b, 1, none⟩ = some v) : w'.cell? ⟨b, 0, none⟩ = some u ∧ w'.cell? ⟨b, 1, none⟩ = some v :=
  ⟨(hb.cell (p := ⟨b, 0, none⟩) (World.block_lt_of_cell? w _ h.1)).trans h.1, (hb.cell (p := ⟨b, 1, none⟩) (World.block_lt_of_cell? w _ h.2)).trans h.2⟩
theorem ids_look {w : World} {mb : Nat} {H : List Hit} (h : IdsAt w mb H) (i : Int) (hi : -9223372036854775808 ≤ i ∧ i ≤ 9223372036854775807) :
    (Instr.lookup 77 (.map (some mb)) (.int .i64 i) true).run Tryz.prog w = .ok (.tuple #[.agg #[], .bool (hasId H i)]) w := by
  obtain ⟨D, h1, h2, h3, h4⟩ := h
  obtain ⟨v, ps, hrun, hv⟩ := h1.look_ok law3 Tryz.underlying77 (Tryz.zeroValue91 w) unitElem_mk (keyOf_i i hi)
  obtain ⟨rfl, _⟩ := unitElem_inv hv
  rw [hrun, h3 i]
/-- What Put leaves. -/
def PutQ (lo bb mb k : Nat) (v : Value) (W : List Hit) (x : Hit) (w w' : World) : Prop := (∃ v', BestW w' lo bb mb k v' (putL k W x).1 ∧ (v' = v ∨ ∀ i, v'.ownBlock = some i → v.ownBlock = some i ∨ w.heap.size ≤ i)) ∧ Keeps (fun i => i = bb ∨ i = mb ∨ v.ownBlock = some i) w w'
set_option maxRecDepth 100000 in
set_option maxHeartbeats 4000000 in
theorem bput_at {w : World} {lo bb mb k : Nat} {v : Value} {W : List Hit} (h : BestW w lo bb mb k v W) (hk : (k : Int) ≤ 9223372036854775807) (x1 x2 : Int) (hx : -9223372036854775808 ≤ x1 ∧ x1 ≤ 9223372036854775807) (hl : W.length < 1000000) (hlo : lo ≤ w.heap.size) :
    Calls Tryz.prog 25 #[.pointer (some ⟨bb, 0, none⟩), .agg #[.int .i64 x1, .int .i64 x2]] w fun e w' => e = .returned (.bool (putL k W (x1, x2)).2) ∧ PutQ lo bb mb k v W (x1, x2) w w' := by
  have hbA : Below w.heap.size w (w.alloc (.cells #[.int .i64 x1, .int .i64 x2] 25)) := (Below.refl _ w).alloc (Nat.le_refl _) _
  have HBA : Hid (Below w.heap.size w (w.alloc (.cells #[.int .i64 x1, .int .i64 x2] 25))) := hbA
  have HB : Hid (BestW (w.alloc (.cells #[.int .i64 x1, .int .i64 x2] 25)) lo bb mb k v W) := h.below hbA
  have c0 : (w.alloc (.cells #[.int .i64 x1, .int .i64 x2] 25)).cell? ⟨bb, 0, none⟩ = some (.int .i64 k) := by
    obtain ⟨H, h1, _⟩ := HB.out
    exact h1.c0
  clear h hbA
  by_cases hk0 : k = 0
  · subst hk0
    have HE : Hid (putL 0 W (x1, x2) = (W, false)) := putL_zero
    go_enter Tryz.func25, Tryz.ntmps25
    go_wp2_with fail
    go_ret
    refine ⟨by rw [HE.out]; rfl, ⟨v, ?_, Or.inl rfl⟩, Keeps.of_below HBA.out⟩
    rw [HE.out]
    exact HB.out
  · have hkz : ((k : Int) == 0) = false := by simp; omega
    have c2 : (w.alloc (.cells #[.int .i64 x1, .int .i64 x2] 25)).cell? ⟨bb, 2, none⟩ = some (.map (some mb)) := by
      obtain ⟨H, h1, _⟩ := HB.out
      exact h1.c2
    have g0 : (w.alloc (.cells #[.int .i64 x1, .int .i64 x2] 25)).cell? ⟨w.heap.size, 0, none⟩ = some (.int .i64 x1) := by rw [cell_of_row _ _ 0 _ 25 (0, 0) (heap_alloc_last w _)]; rfl
    have g1 : (w.alloc (.cells #[.int .i64 x1, .int .i64 x2] 25)).cell? ⟨w.heap.size, 1, none⟩ = some (.int .i64 x2) := by rw [cell_of_row _ _ 1 _ 25 (0, 0) (heap_alloc_last w _)]; rfl
    have HG : Hid ((w.alloc (.cells #[.int .i64 x1, .int .i64 x2] 25)).cell? ⟨w.heap.size, 0, none⟩ = some (.int .i64 x1) ∧ (w.alloc (.cells #[.int .i64 x1, .int .i64 x2] 25)).cell? ⟨w.heap.size, 1, none⟩ = some (.int .i64 x2)) := ⟨g0, g1⟩
    have hlt : w.heap.size < (w.alloc (.cells #[.int .i64 x1, .int .i64 x2] 25)).heap.size := by simp
    obtain ⟨b, hb⟩ : ∃ b, hasId W x1 = b := ⟨_, rfl⟩
    have HID : Hid (hasId W x1 = b) := hb
    have hlk : ∀ W', Keeps (fun _ => False) (w.alloc (.cells #[.int .i64 x1, .int .i64 x2] 25)) W' → (Instr.lookup 77 (.map (some mb)) (.int .i64 x1) true).run Tryz.prog W' = .ok (.tuple #[.agg #[], .bool b]) W' := by
      intro W' hW
      obtain ⟨H, h1, _, hP, _⟩ := HB.out
      have := ids_look (h1.keeps hW (fun e => e) (fun e => e) (fun _ _ e => e)).ids x1 hx
      rwa [hasId_perm hP, hb] at this
    clear hb
    go_enter Tryz.func25, Tryz.ntmps25
    go_wp2_with fail
    generalize w.alloc (.cells #[.int .i64 x1, .int .i64 x2] 25) = wA at *
    have l1 := hlk wA (Keeps.refl _ _)
    have l2 := hlk wA.drew (Keeps.drew (Keeps.refl _ _))
    have l3 := hlk (wA.alloc (.cells #[] 91)) ((Keeps.refl _ _).alloc _)
    have l4 := hlk (wA.alloc (.cells #[] 91)).drew (Keeps.drew ((Keeps.refl _ _).alloc _))
    clear hlk
    have hbL : Below wA.heap.size wA (wA.alloc (.cells #[] 91)) := (Below.refl _ _).alloc (Nat.le_refl _) _
    have e2 : (wA.alloc (.cells #[] 91)).cell? ⟨bb, 2, none⟩ = some (.map (some mb)) := (hbL.cell (p := ⟨bb, 2, none⟩) (World.block_lt_of_cell? wA _ c2)).trans c2
    have e0 : (wA.alloc (.cells #[] 91)).cell? ⟨w.heap.size, 0, none⟩ = some (.int .i64 x1) := (hbL.cell (p := ⟨w.heap.size, 0, none⟩) hlt).trans g0
    go_region
    all_goals
      have hkL : Keeps (fun _ => False) wA (wA.alloc (.cells #[] 91)).drew := Keeps.drew ((Keeps.refl _ _).alloc _)
      have HBL : Hid (BestW (wA.alloc (.cells #[] 91)).drew lo bb mb k v W) := HB.out.keeps hkL (fun e => e) (fun e => e) (fun _ _ e => e)
      have HGL : Hid ((wA.alloc (.cells #[] 91)).drew.cell? ⟨w.heap.size, 0, none⟩ = some (.int .i64 x1) ∧ (wA.alloc (.cells #[] 91)).drew.cell? ⟨w.heap.size, 1, none⟩ = some (.int .i64 x2)) :=
        ⟨(hkL.cell (p := ⟨w.heap.size, 0, none⟩) hlt (fun e => e)).trans g0, (hkL.cell (p := ⟨w.heap.size, 1, none⟩) hlt (fun e => e)).trans HG.out.2⟩
      have HWL : Hid (Below w.heap.size w (wA.alloc (.cells #[] 91)).drew) := HBA.out.trans (hkL.below HBA.out.size (fun _ e => e.elim))
      clear hkL hbL e2 e0 l1 l2 l3 l4 c0 c2 g0 g1 HB HG hlt HBA
      generalize (wA.alloc (.cells #[] 91)).drew = wL at HBL HGL HWL ⊢
      cases b with
      | true =>
        have HE : Hid (putL k W (x1, x2) = (W, false)) := putL_has HID.out
        go_wp2_with fail
        go_ret
        refine ⟨by rw [HE.out]; rfl, ⟨v, ?_, Or.inl rfl⟩, Keeps.of_below HWL.out⟩
        rw [HE.out]
        exact HBL.out
      | false =>
        go_wp2_with fail
        refine (bworst_at HBL.out hk).mono ?_
        rintro e w3 ⟨rfl, hb3⟩
        have HB3 : Hid (BestW w3 lo bb mb k v W) := HBL.out.below hb3
        have HW3 : Hid (Below w.heap.size w w3) := HWL.out.trans (hb3.mono HWL.out.size)
        have HG3 : Hid (w3.cell? ⟨w.heap.size, 0, none⟩ = some (.int .i64 x1) ∧ w3.cell? ⟨w.heap.size, 1, none⟩ = some (.int .i64 x2)) := two_below hb3 HGL.out
        clear hb3 HBL HGL HWL
        have hlt3 : w.heap.size < w3.heap.size := World.block_lt_of_cell? w3 _ HG3.out.1
        cases hf : fullW k W with
        | true =>
          obtain ⟨y1, y2, hy⟩ : ∃ y1 y2, lastH W = (y1, y2) := ⟨_, _, rfl⟩
          have HY : Hid (lastH W = (y1, y2) ∧ 0 < k ∧ W.length = k) := ⟨hy, by simpa [fullW] using hf⟩
          rw [if_pos rfl, hy]
          unfold hitV
          clear hf hy
          obtain ⟨g0, g1⟩ := HG3.out
          have hbA3 : Below w3.heap.size w3 (w3.alloc (.cells #[.int .i64 y1, .int .i64 y2] 25)) := (Below.refl _ _).alloc (Nat.le_refl _) _
          obtain ⟨g0', g1'⟩ := two_below hbA3 HG3.out
          have HB4 : Hid (BestW (w3.alloc (.cells #[.int .i64 y1, .int .i64 y2] 25)) lo bb mb k v W ∧ Below w.heap.size w (w3.alloc (.cells #[.int .i64 y1, .int .i64 y2] 25)) ∧ ((w3.alloc (.cells #[.int .i64 y1, .int .i64 y2] 25)).cell? ⟨w.heap.size, 0, none⟩ = some (.int .i64 x1) ∧ (w3.alloc (.cells #[.int .i64 y1, .int .i64 y2] 25)).cell? ⟨w.heap.size, 1, none⟩ = some (.int .i64 x2))) :=
            ⟨HB3.out.below hbA3, HW3.out.trans (hbA3.mono HW3.out.size), g0', g1'⟩
          clear HB3 HW3 HG3 hbA3
          go_wp2_with fail
          refine (less_at (x1, x2) (y1, y2) _).mono ?_
          rintro e w5 ⟨rfl, hw5⟩
          have hb5 : Below (w3.alloc (.cells #[.int .i64 y1, .int .i64 y2] 25)).heap.size (w3.alloc (.cells #[.int .i64 y1, .int .i64 y2] 25)) w5 := by rw [hw5]; exact boxed_below _ _ _
          have HB5 : Hid (BestW w5 lo bb mb k v W) := HB4.out.1.below hb5
          have HW5 : Hid (Below w.heap.size w w5) := HB4.out.2.1.trans (hb5.mono HB4.out.2.1.size)
          obtain ⟨p0, p1⟩ := two_below hb5 HB4.out.2.2
          obtain ⟨l, hl5⟩ : ∃ l, lessH (x1, x2) (y1, y2) = l := ⟨_, rfl⟩
          have HL : Hid (lessH (x1, x2) (y1, y2) = l) := hl5
          rw [hl5]
          clear hw5 hb5 HB4 g0 g1 g0' g1' hl5 hlt3
          cases l with
          | false =>
            have HE : Hid (putL k W (x1, x2) = (W, false)) := putL_worse (by have := HY.out.2.2; omega) (by rw [HY.out.1]; exact HL.out)
            go_wp2_with fail
            go_ret
            refine ⟨by rw [HE.out]; rfl, ⟨v, ?_, Or.inl rfl⟩, Keeps.of_below HW5.out⟩
            rw [HE.out]
            exact HB5.out
          | true =>
            obtain ⟨H, hB, hH, hP, hO, hF, hlen⟩ := HB5.out
            have hll := hP.length_eq
            obtain ⟨g, c, hv, _, _, _, _, _, _⟩ := hB.row.at_ (by have := HY.out.2; omega)
            have hHk : H.length = k := by have := HY.out.2.2; omega
            rw [hHk] at hv
            subst hv
            have hlast := heap_last hH hP hO.sort (by have := HY.out.2; omega)
            have hmem : hat H 0 ∈ W := hP.subset (by rw [hat_lt (show 0 < H.length by have := HY.out.2; omega)]; exact List.getElem_mem _)
            have HR : Hid (Calls Tryz.prog 52 #[.pointer (some ⟨bb, 0, none⟩), .agg #[.int .i64 x1, .int .i64 x2]] w5 fun e w' => e = .returned (.tuple #[]) ∧ Hid (PutQ lo bb mb k (.slice (some ⟨g, 0, none⟩) k c) W (x1, x2) w w' ∧ (putL k W (x1, x2)).2 = true)) := by
              refine (brepl_at hB hHk HY.out.2.1 hH (by rw [(hP.map _).nodup_iff]; exact hO.ids) x1 x2 hx (hF _ hmem) (by rw [hasId_perm hP]; exact HID.out) (by omega)).mono ?_
              rintro e w7 ⟨rfl, ⟨H', hB7, hH7, hP7⟩, hK7⟩
              obtain ⟨hp8, ht8⟩ := putL_full hH hP hO.sort HID.out HY.out.2.1 HY.out.2.2 (by rw [hlast, HY.out.1]; exact HL.out) hP7
              refine ⟨rfl, ⟨⟨_, ⟨H', hB7, hH7, hp8, hO.put _, fun y hy => ?_, ?_⟩, Or.inl rfl⟩, ?_⟩, ht8⟩
              · have h9 := hP7.subset (hp8.symm.subset hy)
                rcases List.mem_or_eq_of_mem_set h9 with h9 | h9
                · exact hF y (hP.subset h9)
                · rw [h9]; exact hx
              · rw [← hp8.length_eq, hP7.length_eq, List.length_set]; omega
              · exact (Keeps.of_below HW5.out).trans (hK7.mono (fun i e => by
                  rcases e with e | e
                  · exact Or.inr (Or.inl e)
                  · exact Or.inr (Or.inr (by rw [e]; rfl))))
            clear hB hH hP hO hF hlast hmem HB5 HW5
            go_wp2_with fail
            refine HR.out.mono ?_
            rintro e w7 ⟨rfl, HQ⟩
            clear HR
            go_wp2_with fail
            go_ret
            exact ⟨by rw [HQ.out.2]; rfl, HQ.out.1⟩
        | false =>
          rw [if_neg (by decide)]
          unfold hitV zeroH
          have hnf : ¬ (0 < k ∧ W.length = k) := by simpa [fullW] using hf
          obtain ⟨g0, g1⟩ := HG3.out
          have hbA3 : Below w3.heap.size w3 (w3.alloc (.cells #[.int .i64 0, .int .i64 0] 25)) := (Below.refl _ _).alloc (Nat.le_refl _) _
          obtain ⟨p0, p1⟩ := two_below hbA3 HG3.out
          have HB5 : Hid (BestW (w3.alloc (.cells #[.int .i64 0, .int .i64 0] 25)) lo bb mb k v W) := HB3.out.below hbA3
          have HW5 : Hid (Below w.heap.size w (w3.alloc (.cells #[.int .i64 0, .int .i64 0] 25))) := HW3.out.trans (hbA3.mono HW3.out.size)
          have HR : Hid (Calls Tryz.prog 53 #[.pointer (some ⟨bb, 0, none⟩), .agg #[.int .i64 x1, .int .i64 x2]] (w3.alloc (.cells #[.int .i64 0, .int .i64 0] 25)) fun e w' => e = .returned (.tuple #[]) ∧ Hid (PutQ lo bb mb k v W (x1, x2) w w' ∧ (putL k W (x1, x2)).2 = true)) := by
            obtain ⟨H, hB, hH, hP, hO, hF, hlen⟩ := HB5.out
            have hll := hP.length_eq
            have hok := hO.len
            refine (badd_at hB hH x1 x2 hx (by rw [hasId_perm hP]; exact HID.out) (by omega) (by have := HW5.out.size; omega)).mono ?_
            rintro e w7 ⟨rfl, ⟨v', H', hB7, hH7, hP7, hv7⟩, hK7⟩
            obtain ⟨hp8, ht8⟩ := putL_add (k := k) hP HID.out (by omega) hP7
            refine ⟨rfl, ⟨⟨v', ⟨H', hB7, hH7, hp8, hO.put _, fun y hy => ?_, ?_⟩, Or.inr (fun i e => ?_)⟩, ?_⟩, ht8⟩
            · have h9 := hP7.subset (hp8.symm.subset hy)
              rcases List.mem_append.1 h9 with h9 | h9
              · exact hF y (hP.subset h9)
              · rw [List.mem_singleton.1 h9]; exact hx
            · rw [← hp8.length_eq, hP7.length_eq, List.length_append]; simp; omega
            · rcases hv7 i e with e2 | e2
              · exact Or.inl e2
              · exact Or.inr (Nat.le_trans HW5.out.size e2)
            · exact (Keeps.of_below HW5.out).trans hK7
          clear hf HB3 HW3 HG3 hbA3 HB5 HW5
          go_wp2_with fail
          refine HR.out.mono ?_
          rintro e w7 ⟨rfl, HQ⟩
          clear HR
          go_wp2_with fail
          go_ret
          exact ⟨by rw [HQ.out.2]; rfl, HQ.out.1⟩
end Go.Proofs.YteaacodloabdcaaGreatDoor
