import Derived.Test.YteaacodloabdcaaGreatDoorMnB
import Derived.BigRegion
namespace Go.Proofs.YteaacodloabdcaaGreatDoor
open Go.RowKit Go.Maps

/-- Crowds in memory: how many each has, and its sums. -/
structure CrowdQ (w wr : World) (gc : Nat) (hs : Nat → Nat) (n d : Nat) (cnt : Nat → Int) (sm : Nat → Nat → Int) : Prop where
  c : ∀ k, k < n → wr.cell? ⟨gc, k * 2, none⟩ = some (.int .i64 (cnt k)) ∧ wr.cell? ⟨gc, k * 2 + 1, none⟩ = some (.slice (some ⟨hs k, 0, none⟩) d d)
  s : ∀ k, k < n → ∀ j, j < d → wr.cell? ⟨hs k, j, none⟩ = some (.int .i64 (sm k j))
  f : ∀ o, wr.frozen? ⟨gc, o, none⟩ = false
  fs : ∀ k, k < n → ∀ o, wr.frozen? ⟨hs k, o, none⟩ = false
  g0 : w.heap.size ≤ gc
  h0 : ∀ k, k < n → w.heap.size ≤ hs k
  gl : gc < wr.heap.size
  hl : ∀ k, k < n → hs k < wr.heap.size
  ne : ∀ k, k < n → hs k ≠ gc
  inj : ∀ k l, k < n → l < n → hs k = hs l → k = l
  u : Below w.heap.size w wr
theorem CrowdQ.keep {S : Nat → Prop} {w wr w' : World} {gc : Nat} {hs : Nat → Nat} {n d : Nat} {cnt : Nat → Int} {sm : Nat → Nat → Int} (h : CrowdQ w wr gc hs n d cnt sm) (hk : Keeps S wr w') (s1 : ¬ S gc) (s2 : ∀ k, k < n → ¬ S (hs k)) (hu : Below w.heap.size w w') : CrowdQ w w' gc hs n d cnt sm := { h with
  c := fun k hk' => ⟨(hk.cell (p := ⟨gc, k * 2, none⟩) h.gl s1).trans (h.c k hk').1, (hk.cell (p := ⟨gc, k * 2 + 1, none⟩) h.gl s1).trans (h.c k hk').2⟩
  s := fun k hk' j hj => (hk.cell (p := ⟨hs k, j, none⟩) (h.hl k hk') (s2 k hk')).trans (h.s k hk' j hj)
  f := fun o => by rw [hk.frozen (p := ⟨gc, o, none⟩) h.gl s1]; exact h.f o
  fs := fun k hk' o => by rw [hk.frozen (p := ⟨hs k, o, none⟩) (h.hl k hk') (s2 k hk')]; exact h.fs k hk' o
  gl := Nat.lt_of_lt_of_le h.gl hk.size
  hl := fun k hk' => Nat.lt_of_lt_of_le (h.hl k hk') hk.size
  u := hu }
theorem CrowdQ.below {w wr w' : World} {gc : Nat} {hs : Nat → Nat} {n d : Nat} {cnt : Nat → Int} {sm : Nat → Nat → Int} (h : CrowdQ w wr gc hs n d cnt sm) (hb : Below wr.heap.size wr w') : CrowdQ w w' gc hs n d cnt sm :=
  h.keep (Keeps.of_below (S := fun _ => False) hb) (fun e => e) (fun _ _ e => e) (h.u.trans (hb.mono h.u.size))
theorem CrowdQ.congr {w wr : World} {gc : Nat} {hs : Nat → Nat} {n d : Nat} {cnt cnt' : Nat → Int} {sm sm' : Nat → Nat → Int} (h : CrowdQ w wr gc hs n d cnt sm) (h1 : ∀ k, k < n → cnt k = cnt' k) (h2 : ∀ k, k < n → ∀ j, j < d → sm k j = sm' k j) : CrowdQ w wr gc hs n d cnt' sm' := { h with
  c := fun k hk => by rw [← h1 k hk]; exact h.c k hk
  s := fun k hk j hj => by rw [← h2 k hk j hj]; exact h.s k hk j hj }
theorem CrowdQ.setc {w wr : World} {gc : Nat} {hs : Nat → Nat} {n d : Nat} {cnt : Nat → Int} {sm : Nat → Nat → Int} (h : CrowdQ w wr gc hs n d cnt sm) (k : Nat) (hk : k < n) (x : Int) :
    CrowdQ w (wr.setCell ⟨gc, k * 2, none⟩ (.int .i64 x)) gc hs n d (fun i => if i = k then x else cnt i) sm where
  c := fun i hi => by
    have h1 := h.c i hi
    constructor
    · by_cases e : i = k
      · subst e
        rw [World.cell?_setCell_same _ _ _ h1.1, if_pos rfl]
      · rw [World.cell?_setCell_other _ _ _ _ (by intro q; injection q; omega), if_neg e]
        exact h1.1
    · rw [World.cell?_setCell_other _ _ _ _ (by intro q; injection q; omega)]
      exact h1.2
  s := fun i hi j hj => by
    rw [World.cell?_setCell_other _ _ _ _ (by intro q; injection q with q; exact h.ne i hi q.symm)]
    exact h.s i hi j hj
  f := fun o => by rw [World.frozen?_setCell]; exact h.f o
  fs := fun i hi o => by rw [World.frozen?_setCell]; exact h.fs i hi o
  g0 := h.g0
  h0 := h.h0
  gl := by rw [World.size_setCell]; exact h.gl
  hl := fun i hi => by rw [World.size_setCell]; exact h.hl i hi
  ne := h.ne
  inj := h.inj
  u := h.u.setCell h.g0 _
theorem CrowdQ.sets {w wr : World} {gc : Nat} {hs : Nat → Nat} {n d : Nat} {cnt : Nat → Int} {sm : Nat → Nat → Int} (h : CrowdQ w wr gc hs n d cnt sm) (k : Nat) (hk : k < n) (j : Nat) (hj : j < d) (x : Int) :
    CrowdQ w (wr.setCell ⟨hs k, j, none⟩ (.int .i64 x)) gc hs n d cnt (fun i l => if i = k ∧ l = j then x else sm i l) where
  c := fun i hi => by
    have h1 := h.c i hi
    have h2 := h.ne k hk
    exact ⟨by rw [World.cell?_setCell_other _ _ _ _ (by intro q; injection q with q; exact h2 q)]; exact h1.1, by rw [World.cell?_setCell_other _ _ _ _ (by intro q; injection q with q; exact h2 q)]; exact h1.2⟩
  s := fun i hi l hl => by
    have h1 := h.s i hi l hl
    by_cases e : i = k ∧ l = j
    · obtain ⟨rfl, rfl⟩ := e
      rw [World.cell?_setCell_same _ _ _ h1, if_pos ⟨rfl, rfl⟩]
    · rw [World.cell?_setCell_other _ _ _ _ (by intro q; injection q with q1 q2; exact e ⟨(h.inj k i hk hi q1).symm, q2.symm⟩), if_neg e]
      exact h1
  f := fun o => by rw [World.frozen?_setCell]; exact h.f o
  fs := fun i hi o => by rw [World.frozen?_setCell]; exact h.fs i hi o
  g0 := h.g0
  h0 := h.h0
  gl := by rw [World.size_setCell]; exact h.gl
  hl := fun i hi => by rw [World.size_setCell]; exact h.hl i hi
  ne := h.ne
  inj := h.inj
  u := h.u.setCell (h.h0 k hk) _
set_option maxRecDepth 100000 in
set_option maxHeartbeats 2000000 in
theorem cadd_at {w wr : World} {gc : Nat} {hs : Nat → Nat} {n d : Nat} {cnt : Nat → Int} {sm : Nat → Nat → Int} (h : CrowdQ w wr gc hs n d cnt sm) (k : Nat) (hk : k < n) (hc : 0 ≤ cnt k ∧ cnt k ≤ 1000000) (hs0 : ∀ j, -100000000000 ≤ sm k j ∧ sm k j ≤ 100000000000)
    {q : Option Addr} {kc : Nat} {V : List Int} (hv : VecAt w q d kc V) (hd : d ≤ 1000) :
    Calls Tryz.prog 67 #[.pointer (some ⟨gc, k * 2, none⟩), .slice q d kc] wr fun e w' => e = .returned (.tuple #[]) ∧ CrowdQ w w' gc hs n d (fun i => if i = k then cnt i + 1 else cnt i) (fun i j => if i = k then sm i j + V.getD j 0 else sm i j) := by
  have h1 := (h.c k hk).1
  have h2 := h.f (k * 2)
  have HQ : Hid (CrowdQ w (wr.setCell ⟨gc, k * 2, none⟩ (.int .i64 (cnt k + 1))) gc hs n d (fun i => if i = k then cnt i + 1 else cnt i) sm) := (h.setc k hk _).congr (fun i _ => by
    by_cases e : i = k
    · rw [if_pos e, if_pos e, e]
    · rw [if_neg e, if_neg e]) (fun _ _ _ _ => rfl)
  have h3 : (wr.setCell ⟨gc, k * 2, none⟩ (.int .i64 (cnt k + 1))).cell? ⟨gc, k * 2 + 1, none⟩ = some (.slice (some ⟨hs k, 0, none⟩) d d) := (HQ.out.c k hk).2
  have HV : Hid (VecAt w q d kc V) := hv
  have HC : Hid (∀ j, -100000000000 ≤ sm k j ∧ sm k j ≤ 100000000000) := hs0
  have HK : Hid (k < n) := hk
  clear h hv hs0
  generalize hck : cnt k = x at *
  clear hck
  go_enter Tryz.func67, Tryz.ntmps67
  go_wp2_with fail
  generalize wr.setCell ⟨gc, k * 2, none⟩ (.int .i64 (x + 1)) = w1 at *
  go_loopw [20] (fun s20 wx => ∃ j : Nat, j ≤ d ∧ s20 = .int .i64 j ∧ Hid (CrowdQ w wx gc hs n d (fun i => if i = k then cnt i + 1 else cnt i) (fun i l => if i = k ∧ l < j then sm i l + V.getD l 0 else sm i l))) (fun s20 _ => d - (RowKit.intOf s20).toNat)
  case atStart => exact ⟨0, Nat.zero_le _, rfl, HQ.out.congr (fun _ _ => rfl) (fun i _ j _ => by rw [if_neg (by omega)])⟩
  case round =>
    clear HQ
    obtain ⟨j, hj, rfl, HI⟩ := hrel
    by_cases hlt : j < d
    · have d1 := (HI.out.c k hk).2
      have d2 := HI.out.s k hk j hlt
      rw [if_neg (by omega)] at d2
      have d3 := HI.out.fs k hk j
      obtain ⟨b, o, rfl, hb, hcb, f1, f2⟩ := HV.out.cell j hlt
      have d4 := (HI.out.u.cell (p := ⟨b, o + j, none⟩) hb).trans hcb
      have hsj := HC.out j
      have HN : Hid (CrowdQ w (wr.setCell ⟨hs k, j, none⟩ (.int .i64 (sm k j + V.getD j 0))) gc hs n d (fun i => if i = k then cnt i + 1 else cnt i) (fun i l => if i = k ∧ l < j + 1 then sm i l + V.getD l 0 else sm i l)) :=
        (HI.out.sets k hk j hlt _).congr (fun _ _ => rfl) (fun i _ l _ => by
          by_cases e : i = k ∧ l = j
          · obtain ⟨rfl, rfl⟩ := e
            rw [if_pos ⟨rfl, rfl⟩, if_pos ⟨rfl, by omega⟩]
          · rw [if_neg e]
            by_cases e2 : i = k ∧ l < j
            · rw [if_pos e2, if_pos ⟨e2.1, by omega⟩]
            · rw [if_neg e2, if_neg (by omega)])
      have HN2 : Hid (∀ q, CrowdQ w ((wr.setCell ⟨hs k, j, none⟩ (.int .i64 (sm k j + V.getD j 0))).drewN q) gc hs n d (fun i => if i = k then cnt i + 1 else cnt i) (fun i l => if i = k ∧ l < j + 1 then sm i l + V.getD l 0 else sm i l)) := fun q => HN.out.below ⟨rfl, rfl, rfl, Nat.le_refl _, fun _ _ => rfl⟩
      clear hb hcb HI HN
      generalize V.getD j 0 = y at *
      generalize sm k j = z at *
      generalize hs k = hk0 at *
      go_wp2_with fail
      go_region
      all_goals
        go_wp2_with fail
        exact ⟨⟨j + 1, hlt, rfl, HN2.out 1⟩, by simp [RowKit.intOf]; omega⟩
    · obtain rfl : j = d := by omega
      go_wp2_with fail
      go_end0
      exact ⟨rfl, HI.out.congr (fun _ _ => rfl) (fun i _ l hl => by
        by_cases e : i = k
        · rw [if_pos ⟨e, hl⟩, if_pos e]
        · rw [if_neg (fun q => e q.1), if_neg e])⟩
end Go.Proofs.YteaacodloabdcaaGreatDoor

namespace Go.Proofs.YteaacodloabdcaaGreatDoor
open Go.RowKit Go.Maps

/-- Where a crowd moves a middle to. -/
def cenL (d : Nat) (c : Int) (s : Nat → Int) (A : List Int) : List Int := if c = 0 then A else (List.range d).map fun j => s j / c
theorem VecR.cell2 {w : World} {lo d : Nat} {g : Nat × Nat} {A : List Int} (h : VecR w lo (slC d g) A) (j : Nat) (hj : j < d) : w.cell? ⟨g.1, j, none⟩ = some (.int .i32 (A.getD j 0)) :=
  VecR.cell (n := d) (c := g.2) h j (by rw [h.lo.2.2]; exact hj)
theorem setCell_keepsB {S : Nat → Prop} {w w' : World} (h : Keeps S w w') {a : Addr} (ha : S a.block) (v : Value) : Keeps S w (w'.setCell a v) := Keeps.setCell (p := a) h ha v
set_option maxRecDepth 100000 in
set_option maxHeartbeats 2000000 in
theorem centre_at {w : World} {lo d h0 : Nat} {g : Nat × Nat} {A : List Int} (hA : VecR w lo (slC d g) A) (hd : d ≤ 1000) (c : Int) (hc : 0 ≤ c ∧ c ≤ 1000000) (s : Nat → Int) (hs : ∀ j, j < d → w.cell? ⟨h0, j, none⟩ = some (.int .i64 (s j)) ∧ -100000000000 ≤ s j ∧ s j ≤ 100000000000)
    (hq : c ≠ 0 → ∀ j, j < d → -1048576 ≤ s j / c ∧ s j / c ≤ 1048576) (hne : h0 ≠ g.1) (hl : h0 < w.heap.size) :
    Calls Tryz.prog 68 #[.agg #[.int .i64 c, .slice (some ⟨h0, 0, none⟩) d d], slC d g] w fun e w' => e = .returned (.tuple #[]) ∧ VecR w' lo (slC d g) (cenL d c s A) ∧ Keeps (fun i => i = g.1) w w' := by
  have hb : Below w.heap.size w (w.alloc (.cells #[.int .i64 c, .slice (some ⟨h0, 0, none⟩) d d] 110)) := (Below.refl _ _).alloc (Nat.le_refl _) _
  by_cases hc0 : c = 0
  · subst hc0
    have HR : Hid (VecR (w.alloc (.cells #[.int .i64 0, .slice (some ⟨h0, 0, none⟩) d d] 110)) lo (slC d g) (cenL d 0 s A)) := by
      show VecR _ _ _ _
      unfold cenL
      rw [if_pos rfl]
      exact hA.below hb
    have HK : Hid (Keeps (fun i => i = g.1) w (w.alloc (.cells #[.int .i64 0, .slice (some ⟨h0, 0, none⟩) d d] 110))) := Keeps.of_below hb
    clear hA hs hq hb
    go_enter Tryz.func68, Tryz.ntmps68
    go_wp2_with fail
    refine bodyPost_ret (results_none rfl _ _ _) rfl ?_
    exact ⟨rfl, HR.out, HK.out⟩
  · have hcn : ¬ c = 0 := hc0
    have hc1 : 1 ≤ c := by omega
    have HE : Hid (cenL d c s A = (List.range d).map fun j => s j / c) := by
      show _ = _
      unfold cenL; rw [if_neg hc0]
    have HS : Hid (∀ j, j < d → (w.alloc (.cells #[.int .i64 c, .slice (some ⟨h0, 0, none⟩) d d] 110)).cell? ⟨h0, j, none⟩ = some (.int .i64 (s j)) ∧ -100000000000 ≤ s j ∧ s j ≤ 100000000000) := fun j hj => ⟨(hb.cell (p := ⟨h0, j, none⟩) hl).trans (hs j hj).1, (hs j hj).2⟩
    have HQ : Hid (∀ j, j < d → -1048576 ≤ s j / c ∧ s j / c ≤ 1048576) := hq hc0
    have HR : Hid (VecR (w.alloc (.cells #[.int .i64 c, .slice (some ⟨h0, 0, none⟩) d d] 110)) lo (slC d g) A) := hA.below hb
    have HK : Hid (Keeps (fun i => i = g.1) w (w.alloc (.cells #[.int .i64 c, .slice (some ⟨h0, 0, none⟩) d d] 110))) := Keeps.of_below hb
    have hg0 : g.1 < w.heap.size := hA.lo.2.1
    have hAl : A.length = d := hA.lo.2.2
    have e0 : (w.alloc (.cells #[.int .i64 c, .slice (some ⟨h0, 0, none⟩) d d] 110)).cell? ⟨w.heap.size, 0, none⟩ = some (.int .i64 c) := by simp
    have e1 : (w.alloc (.cells #[.int .i64 c, .slice (some ⟨h0, 0, none⟩) d d] 110)).cell? ⟨w.heap.size, 1, none⟩ = some (.slice (some ⟨h0, 0, none⟩) d d) := by simp
    have e2 : (w.alloc (.cells #[.int .i64 c, .slice (some ⟨h0, 0, none⟩) d d] 110)).heap.size = w.heap.size + 1 := by simp
    have HL2 : Hid (h0 < (w.alloc (.cells #[.int .i64 c, .slice (some ⟨h0, 0, none⟩) d d] 110)).heap.size) := by show _ < _; rw [e2]; omega
    have HW : Hid (w.heap.size < (w.alloc (.cells #[.int .i64 c, .slice (some ⟨h0, 0, none⟩) d d] 110)).heap.size) := by show _ < _; rw [e2]; omega
    have HAl : Hid (A.length = d) := hAl
    have hgw : w.heap.size ≠ g.1 := by omega
    clear hA hs hq hb hc0 e2 hAl
    obtain ⟨g1, g2⟩ := g
    unfold slC at *
    go_enter Tryz.func68, Tryz.ntmps68
    go_wp2_with fail
    generalize w.alloc (.cells #[.int .i64 c, .slice (some ⟨h0, 0, none⟩) d d] 110) = w1 at *
    generalize hr : w.heap.size = r at *
    go_loopw [12] (fun s12 wx => ∃ j : Nat, j ≤ d ∧ s12 = .int .i64 j ∧ Hid (∃ B, VecR wx lo (.slice (some ⟨g1, 0, none⟩) d g2) B ∧ (∀ i, i < d → B.getD i 0 = if i < j then s i / c else A.getD i 0) ∧ B.length = d ∧ Keeps (fun i => i = g1) w1 wx)) (fun s12 _ => d - (RowKit.intOf s12).toNat)
    case atStart => exact ⟨0, Nat.zero_le _, rfl, A, HR.out, fun i _ => by rw [if_neg (by omega)], HAl.out, Keeps.refl _ _⟩
    case round =>
      clear HR
      obtain ⟨j, hj, rfl, HI⟩ := hrel
      obtain ⟨B, hB, hBa, hBl, hKp⟩ := HI.out
      clear HI
      by_cases hlt : j < d
      · have d0 := (hKp.cell (p := ⟨r, 0, none⟩) HW.out (fun e => hgw e)).trans e0
        have d1 := (hKp.cell (p := ⟨r, 1, none⟩) HW.out (fun e => hgw e)).trans e1
        have d2 := (hKp.cell (p := ⟨h0, j, none⟩) HL2.out (fun e => hne e)).trans (HS.out j hlt).1
        have hsj := (HS.out j hlt).2
        have hqj := HQ.out j hlt
        have d3 := VecR.cell (n := d) (c := g2) hB j (by rw [hBl]; exact hlt)
        have d4 := VecR.soft (n := d) (c := g2) hB j
        have HN : Hid (∃ B, VecR (wr.setCell ⟨g1, j, none⟩ (.int .i32 (s j / c))) lo (.slice (some ⟨g1, 0, none⟩) d g2) B ∧ (∀ i, i < d → B.getD i 0 = if i < j + 1 then s i / c else A.getD i 0) ∧ B.length = d ∧ Keeps (fun i => i = g1) w1 (wr.setCell ⟨g1, j, none⟩ (.int .i32 (s j / c)))) := by
          refine ⟨B.set j (s j / c), VecR.set hB j _, fun i hi => ?_, by rw [List.length_set]; exact hBl, setCell_keepsB hKp rfl _⟩
          by_cases e : i = j
          · subst e
            rw [if_pos (by omega)]
            simp [List.getD, hBl, hlt]
          · have e3 : (B.set j (s j / c)).getD i 0 = B.getD i 0 := by
              simp only [List.getD]
              rw [List.getElem?_set_ne (by omega)]
            rw [e3, hBa i hi]
            by_cases h2 : i < j
            · rw [if_pos h2, if_pos (by omega)]
            · rw [if_neg h2, if_neg (by omega)]
        have HP := fun W => part_wp (s j) c (by omega) (by omega) W
        clear hB hBa hBl hKp
        generalize s j / c = y at *
        generalize s j = z at *
        generalize B.getD j 0 = x at *
        go_wp2_with fail
        refine (HP _).mono ?_
        rintro e w' ⟨rfl, rfl⟩
        go_wp2_with fail
        exact ⟨⟨j + 1, hlt, rfl, HN⟩, by simp [RowKit.intOf]; omega⟩
      · obtain rfl : j = d := by omega
        have HF : Hid (VecR wr lo (.slice (some ⟨g1, 0, none⟩) j g2) (cenL j c s A)) := by
          show VecR _ _ _ _
          rw [HE.out, show (List.range j).map (fun i => s i / c) = B from (getD_ext (by rw [hBl]; simp) (fun i hi => by
            rw [hBl] at hi
            rw [hBa i hi, if_pos hi]
            simp [List.getD, hi])).symm]
          exact hB
        have HK2 : Hid (Keeps (fun i => i = g1) w wr) := HK.out.trans hKp
        clear hB hBa hBl hKp
        go_wp2_with fail
        go_end0
        exact ⟨rfl, HF.out, HK2.out⟩
end Go.Proofs.YteaacodloabdcaaGreatDoor

namespace Go.Proofs.YteaacodloabdcaaGreatDoor
open Go.RowKit Go.Maps

def crowC : List Value := [.int .i64 0, .slice none 0 0]
def crowV (n : Nat) : List Value := (List.replicate n crowC).flatten
theorem crowV_length (n : Nat) : (crowV n).length = n * 2 := by
  unfold crowV; simp [crowC]
theorem crowV_at (n i : Nat) (h : i < n * 2) : (crowV n)[i]? = some (if i % 2 = 0 then .int .i64 0 else .slice none 0 0) := by
  induction n generalizing i with
  | zero => omega
  | succ n ih =>
    have e : crowV (n + 1) = .int .i64 0 :: .slice none 0 0 :: crowV n := by
      unfold crowV; rw [List.replicate_succ, List.flatten_cons]; rfl
    rw [e]
    match i with
    | 0 => rfl
    | 1 => rfl
    | i + 2 =>
      rw [List.getElem?_cons_succ, List.getElem?_cons_succ, ih i (by omega)]
      have : (i + 2) % 2 = i % 2 := by omega
      rw [this]
theorem infoCrow : (Tryz.prog.info? 110).map (fun i => (i.zero, i.size, i.bytes)) = some (some (.agg #[.int .i64 0, .slice none 0 0]), 2, 32) := by kernel_rfl
def crow (n : Nat) : Array Value := (crowV n).toArray
theorem mkCrowd (n : Nat) (h : n ≤ 1000) (w : World) : (Instr.makeSlice 108 (.int .i64 n) (.int .i64 n)).run Tryz.prog w = .ok (.slice (some ⟨w.heap.size, 0, none⟩) n n) (w.alloc (.cells (crow n) 110)) := by
  have hx := infoCrow
  cases hq : Tryz.prog.info? 110 with
  | none => rw [hq] at hx; cases hx
  | some i =>
    rw [hq] at hx
    simp only [Option.map_some, Option.some.injEq, Prod.mk.injEq] at hx
    obtain ⟨h1, h2, h3⟩ := hx
    rw [run_make w 108 110 i _ Tryz.underlying108 hq h1 .i64 .i64 n n (by omega) (by omega) (by rw [h3]; omega) (by omega)]
    have e : madeCells (Value.agg #[.int .i64 0, .slice none 0 0]).cells ((n : Int).toNat * i.size) = crow n := by
      rw [h2]
      show madeCells #[.int .i64 0, .slice none 0 0] (n * 2) = _
      unfold madeCells crow
      apply Array.ext
      · simp [crowV_length]
      · intro j hj1 hj2
        have hj : j < n * 2 := by simpa using hj1
        have e1 := crowV_at n j hj
        rw [List.getElem?_eq_getElem (by rw [crowV_length]; exact hj)] at e1
        have e2 := Option.some.inj e1
        rw [Array.getElem_map, Array.getElem_range]
        show _ = (crowV n)[j]'(by rw [crowV_length]; exact hj)
        rw [e2]
        rcases Nat.mod_two_eq_zero_or_one j with h0 | h0 <;> simp [h0]
    rw [e]
    simp
theorem infoI64 : (Tryz.prog.info? 2).map (fun i => (i.zero, i.size, i.bytes)) = some (some (.int .i64 0), 1, 8) := by kernel_rfl
def irow (n : Nat) : Array Value := (List.replicate n (Value.int .i64 0)).toArray
theorem mkI64 (n : Nat) (h : n ≤ 1000) (w : World) : (Instr.makeSlice 98 (.int .i64 n) (.int .i64 n)).run Tryz.prog w = .ok (.slice (some ⟨w.heap.size, 0, none⟩) n n) (w.alloc (.cells (irow n) 2)) := by
  have hx := infoI64
  cases hq : Tryz.prog.info? 2 with
  | none => rw [hq] at hx; cases hx
  | some i =>
    rw [hq] at hx
    simp only [Option.map_some, Option.some.injEq, Prod.mk.injEq] at hx
    obtain ⟨h1, h2, h3⟩ := hx
    rw [run_make w 98 2 i _ Tryz.underlying98 hq h1 .i64 .i64 n n (by omega) (by omega) (by rw [h3]; omega) (by omega)]
    have e : madeCells (Value.int .i64 0).cells ((n : Int).toNat * i.size) = irow n := by
      rw [h2]
      show madeCells #[.int .i64 0] (n * 1) = _
      unfold madeCells irow
      apply Array.ext
      · simp
      · intro j hj1 hj2
        simp [Nat.mod_one]
    rw [e]
    simp
theorem irow_cell (w : World) (n j : Nat) (hj : j < n) : (w.alloc (.cells (irow n) 2)).cell? ⟨w.heap.size, j, none⟩ = some (.int .i64 0) := by
  rw [cell_of_row _ _ j (irow n) 2 (0, 0) (heap_alloc_last w _)]
  simp [irow, hj]
theorem crow_cell (w : World) (n k : Nat) (hk : k < n) : (w.alloc (.cells (crow n) 110)).cell? ⟨w.heap.size, k * 2, none⟩ = some (.int .i64 0) ∧ (w.alloc (.cells (crow n) 110)).cell? ⟨w.heap.size, k * 2 + 1, none⟩ = some (.slice none 0 0) := by
  constructor
  · rw [cell_of_row _ _ (k * 2) (crow n) 110 (0, 0) (heap_alloc_last w _)]
    have := crowV_at n (k * 2) (by omega)
    rw [if_pos (by omega)] at this
    simpa [crow] using this
  · rw [cell_of_row _ _ (k * 2 + 1) (crow n) 110 (0, 0) (heap_alloc_last w _)]
    have := crowV_at n (k * 2 + 1) (by omega)
    rw [if_neg (by omega)] at this
    simpa [crow] using this
/-- How far the sums are laid. -/
structure CrowdI (w wr : World) (gc : Nat) (hs : Nat → Nat) (n d k : Nat) : Prop where
  c : ∀ i, i < n → wr.cell? ⟨gc, i * 2, none⟩ = some (.int .i64 0) ∧ ∃ v, wr.cell? ⟨gc, i * 2 + 1, none⟩ = some v ∧ (i < k → v = .slice (some ⟨hs i, 0, none⟩) d d)
  s : ∀ i, i < k → ∀ j, j < d → wr.cell? ⟨hs i, j, none⟩ = some (.int .i64 0)
  f : ∀ o, wr.frozen? ⟨gc, o, none⟩ = false
  fs : ∀ i, i < k → ∀ o, wr.frozen? ⟨hs i, o, none⟩ = false
  g0 : w.heap.size ≤ gc
  h0 : ∀ i, i < k → gc < hs i
  gl : gc < wr.heap.size
  hl : ∀ i, i < k → hs i < wr.heap.size
  inj : ∀ i l, i < l → l < k → hs i < hs l
  u : Below w.heap.size w wr
theorem CrowdI.start (w : World) (n d : Nat) : CrowdI w (w.alloc (.cells (crow n) 110)) w.heap.size (fun _ => 0) n d 0 where
  c := fun i hi => ⟨(crow_cell w n i hi).1, _, (crow_cell w n i hi).2, fun h => absurd h (Nat.not_lt_zero _)⟩
  s := fun i h => absurd h (Nat.not_lt_zero _)
  f := fun o => World.frozen?_alloc_new _ _ _ _
  fs := fun i h => absurd h (Nat.not_lt_zero _)
  g0 := Nat.le_refl _
  h0 := fun i h => absurd h (Nat.not_lt_zero _)
  gl := by simp
  hl := fun i h => absurd h (Nat.not_lt_zero _)
  inj := fun i l _ h => absurd h (Nat.not_lt_zero _)
  u := (Below.refl _ _).alloc (Nat.le_refl _) _
theorem CrowdI.step {w wr : World} {gc : Nat} {hs : Nat → Nat} {n d k : Nat} (h : CrowdI w wr gc hs n d k) (hk : k < n) :
    CrowdI w ((wr.alloc (.cells (irow d) 2)).setCell ⟨gc, k * 2 + 1, none⟩ (.slice (some ⟨wr.heap.size, 0, none⟩) d d)) gc (fun i => if i = k then wr.heap.size else hs i) n d (k + 1) := by
  have hA : Below wr.heap.size wr (wr.alloc (.cells (irow d) 2)) := (Below.refl _ _).alloc (Nat.le_refl _) _
  have hz : (wr.alloc (.cells (irow d) 2)).heap.size = wr.heap.size + 1 := by simp
  have hnew : ∀ j, j < d → (wr.alloc (.cells (irow d) 2)).cell? ⟨wr.heap.size, j, none⟩ = some (.int .i64 0) := fun j hj => irow_cell wr d j hj
  have hfn : ∀ o, (wr.alloc (.cells (irow d) 2)).frozen? ⟨wr.heap.size, o, none⟩ = false := fun o => World.frozen?_alloc_new _ _ _ _
  have hgl := h.gl
  generalize wr.alloc (.cells (irow d) 2) = W at *
  have hcl : ∀ o, W.cell? ⟨gc, o, none⟩ = wr.cell? ⟨gc, o, none⟩ := fun o => hA.cell (p := ⟨gc, o, none⟩) hgl
  refine ⟨?_, ?_, ?_, ?_, h.g0, ?_, by rw [World.size_setCell]; omega, ?_, ?_, ?_⟩
  · intro i hi
    obtain ⟨h1, v, h2, h3⟩ := h.c i hi
    rw [← hcl] at h1 h2
    refine ⟨by rw [World.cell?_setCell_other _ _ _ _ (by intro q; injection q; omega)]; exact h1, ?_⟩
    by_cases e : i = k
    · subst e
      exact ⟨_, World.cell?_setCell_same _ _ _ h2, fun _ => by rw [if_pos rfl]⟩
    · refine ⟨v, by rw [World.cell?_setCell_other _ _ _ _ (by intro q; injection q; omega)]; exact h2, fun hlt => ?_⟩
      rw [if_neg e]; exact h3 (by omega)
  · intro i hi j hj
    by_cases e : i = k
    · subst e
      rw [if_pos rfl, World.cell?_setCell_other _ _ _ _ (by intro q; injection q; omega)]
      exact hnew j hj
    · rw [if_neg e, World.cell?_setCell_other _ _ _ _ (by intro q; injection q with q; have := h.h0 i (by omega); omega)]
      exact (hA.cell (p := ⟨hs i, j, none⟩) (h.hl i (by omega))).trans (h.s i (by omega) j hj)
  · intro o
    rw [World.frozen?_setCell, hA.frozen (p := ⟨gc, o, none⟩) hgl]
    exact h.f o
  · intro i hi o
    rw [World.frozen?_setCell]
    by_cases e : i = k
    · rw [if_pos e]; exact hfn o
    · rw [if_neg e, hA.frozen (p := ⟨hs i, o, none⟩) (h.hl i (by omega))]
      exact h.fs i (by omega) o
  · intro i hi
    split
    · exact hgl
    · exact h.h0 i (by omega)
  · intro i hi
    rw [World.size_setCell]
    split
    · omega
    · have := h.hl i (by omega); omega
  · intro i l hil hl
    rw [if_neg (show ¬ i = k by omega)]
    split
    · exact h.hl i (by omega)
    · exact h.inj i l hil (by omega)
  · exact (h.u.trans (hA.mono h.u.size)).setCell h.g0 _
theorem CrowdI.done {w wr : World} {gc : Nat} {hs : Nat → Nat} {n d : Nat} (h : CrowdI w wr gc hs n d n) : CrowdQ w wr gc hs n d (fun _ => 0) (fun _ _ => 0) where
  c := fun k hk => by
    obtain ⟨h1, v, h2, h3⟩ := h.c k hk
    exact ⟨h1, by rw [h2, h3 hk]⟩
  s := h.s
  f := h.f
  fs := h.fs
  g0 := h.g0
  h0 := fun k hk => by have := h.h0 k hk; have := h.g0; omega
  gl := h.gl
  hl := h.hl
  ne := fun k hk => by have := h.h0 k hk; omega
  inj := fun k l hk hl e => by
    rcases Nat.lt_trichotomy k l with q | q | q
    · have := h.inj k l q hl; omega
    · exact q
    · have := h.inj l k q hk; omega
  u := h.u
theorem MidsR.cell {lo : Nat} {w : World} {d : Nat} {u : Value} {gs : List (Nat × Nat)} {MS : List (List Int)} (h : MidsR lo w d u gs MS) (i : Nat) (hi : i < gs.length) : ∃ b c, u = .slice (some ⟨b, 0, Option.none⟩) gs.length c ∧ b < w.heap.size ∧ lo ≤ b ∧ w.cell? ⟨b, i, Option.none⟩ = some (slC d (gs.getD i (0, 0))) := by
  rcases h.row.2 with ⟨e, h0⟩ | ⟨g, cap, cur, e, hg, hH, hc, _, _, htk⟩
  · omega
  · refine ⟨g, cap, e, (Array.getElem?_eq_some_iff.1 hH).1, hg, ?_⟩
    rw [cell_of_row _ _ i _ 23 (0, 0) hH]
    have : (cur.toList.take (gs.length * 1))[i]? = some (slC d (gs.getD i (0, 0))) := by
      rw [htk, List.getElem?_map, List.getElem?_eq_getElem hi]; simp [List.getD, hi]
    rw [List.getElem?_take, if_pos (by omega)] at this
    simpa using this
/-- One middle is moved. -/
theorem MidsR.moved {lo : Nat} {w w' : World} {d : Nat} {u : Value} {gs : List (Nat × Nat)} {MS : List (List Int)} (h : MidsR lo w d u gs MS) (k : Nat) (hk : k < gs.length) {A : List Int} (hR : VecR w' lo (slC d (gs.getD k (0, 0))) A) (hA : ∀ x ∈ A, -1048576 ≤ x ∧ x ≤ 1048576)
    (hK : Keeps (fun i => i = (gs.getD k (0, 0)).1) w w') : MidsR lo w' d u gs (MS.set k A) := {
  row := by
    refine ⟨h.row.1, ?_⟩
    rcases h.row.2 with q | ⟨g, cap, cur, hv, hb, hg, rest⟩
    · exact .inl q
    · exact .inr ⟨g, cap, cur, hv, hb, (hK.block g (Array.getElem?_eq_some_iff.1 hg).1 (fun e => h.ne k hk (by rw [hv, ← e]; rfl))).trans hg, rest⟩
  len := by rw [List.length_set]; exact h.len
  vec := fun i hi => by
    by_cases e : i = k
    · subst e
      have : (MS.set i A).getD i [] = A := by simp [List.getD, h.len, hi]
      rw [this]; exact hR
    · have : (MS.set k A).getD i [] = MS.getD i [] := by
        simp only [List.getD]
        rw [List.getElem?_set_ne (by omega)]
      rw [this]
      exact (h.vec i hi).far2 hK (fun e2 => by
        rcases Nat.lt_or_ge i k with q | q
        · exact h.inj i k q hk e2
        · exact h.inj k i (by omega) hi e2.symm)
  ne := h.ne
  inj := h.inj
  fit := fun v hv => by
    rcases List.mem_or_eq_of_mem_set hv with q | q
    · exact h.fit v q
    · subst q
      exact ⟨hR.lo.2.2, hA⟩ }
/-- How far a round has come. -/
def mixL (near : List Int → Int) (MS VS : List (List Int)) (k : Nat) : List (List Int) := (moveL near MS VS).take k ++ MS.drop k
theorem mixL_zero (near : List Int → Int) (MS VS : List (List Int)) : mixL near MS VS 0 = MS := by simp [mixL]
theorem mixL_all (near : List Int → Int) (MS VS : List (List Int)) : mixL near MS VS MS.length = moveL near MS VS := by
  unfold mixL
  rw [List.drop_length, List.append_nil, List.take_of_length_le (by rw [moveL_length]; exact Nat.le_refl _)]
theorem mixL_getD (near : List Int → Int) (MS VS : List (List Int)) (k : Nat) (hk : k < MS.length) : (mixL near MS VS k).getD k [] = MS.getD k [] := by
  unfold mixL
  simp only [List.getD]
  rw [List.getElem?_append_right (by rw [List.length_take]; omega), List.length_take, moveL_length, Nat.min_eq_left (by omega), Nat.sub_self, List.getElem?_drop, Nat.add_zero]
theorem mixL_set (near : List Int → Int) (MS VS : List (List Int)) (k : Nat) (hk : k < MS.length) : (mixL near MS VS k).set k ((moveL near MS VS).getD k []) = mixL near MS VS (k + 1) := by
  unfold mixL
  have hl := moveL_length near MS VS
  rw [List.set_append_right _ _ (by rw [List.length_take]; omega), List.length_take, hl, Nat.min_eq_left (by omega), Nat.sub_self]
  rw [List.take_succ_eq_append_getElem (by omega), List.append_assoc]
  congr 1
  rw [List.drop_eq_getElem_cons hk, List.set_cons_zero]
  simp [List.getD, hl, hk]
end Go.Proofs.YteaacodloabdcaaGreatDoor

namespace Go.Proofs.YteaacodloabdcaaGreatDoor
open Go.RowKit Go.Maps

theorem FitL.sub {d : Nat} {B : Int} {VS : List (List Int)} (h : FitL d B VS) (j : Nat) : FitL d B (VS.take j) := fun v hv => h v (List.mem_of_mem_take hv)
theorem getD_take_snoc {VS : List (List Int)} {j : Nat} (h : j < VS.length) : VS.take (j + 1) = VS.take j ++ [VS.getD j []] := by
  rw [List.take_succ_eq_append_getElem h]
  simp [List.getD, h]
theorem getD_mem {VS : List (List Int)} {j : Nat} (h : j < VS.length) : VS.getD j [] ∈ VS := by
  have : VS.getD j [] = VS[j] := by simp [List.getD, h]
  rw [this]; exact List.getElem_mem _
theorem CrowdQ.rebase {w0 w wr : World} {gc : Nat} {hs : Nat → Nat} {n d : Nat} {cnt : Nat → Int} {sm : Nat → Nat → Int} (h : CrowdQ w wr gc hs n d cnt sm) (hb : Below w0.heap.size w0 wr) (hz : w0.heap.size ≤ w.heap.size) : CrowdQ w0 wr gc hs n d cnt sm := { h with
  g0 := by have := h.g0; omega
  h0 := fun k hk => by have := h.h0 k hk; omega
  u := hb }
/-- What a sum and a count may be. -/
theorem sum_bds {near : List Int → Int} {VS : List (List Int)} {d : Nat} (h : FitL d 1048576 VS) (hl : VS.length ≤ 1000) (k : Nat) :
    (0 ≤ cntL near VS k ∧ cntL near VS k ≤ 1000000) ∧ (∀ j, -100000000000 ≤ sumL near VS k j ∧ sumL near VS k j ≤ 100000000000) ∧ (cntL near VS k ≠ 0 → ∀ j, -1048576 ≤ sumL near VS k j / cntL near VS k ∧ sumL near VS k j / cntL near VS k ≤ 1048576) := by
  have h1 := cntL_low near VS k
  have h2 := fun j => sumL_fit near VS 1048576 (by omega) (fun v hv => (h v hv).2) k j
  refine ⟨by omega, fun j => ?_, fun h0 j => div_fit (by omega) (h2 j).1 (h2 j).2⟩
  have := h2 j
  omega
set_option maxRecDepth 100000 in
set_option maxHeartbeats 4000000 in
theorem move_at {w0 w : World} {a : Option Addr} {m c d : Nat} {VS MS : List (List Int)} {p : Option Addr} {n pc : Nat} {gs : List (Nat × Nat)} (hM : MidsR w0.heap.size w d (.slice p n pc) gs MS) (hU : Below w0.heap.size w0 w) (hv : VecsAt w0 a m c VS) (hf : FitL d 1048576 VS) (hd2 : d ≤ 1000) (hm : m ≤ 1000) (hn : n ≤ 16) (hmn : 0 < m → 0 < n) :
    Calls Tryz.prog 45 #[.slice p n pc, .slice a m c] w fun e w' => e = .returned (.tuple #[]) ∧ MidsR w0.heap.size w' d (.slice p n pc) gs (moveL (nearL MS) MS VS) ∧ Below w0.heap.size w0 w' := by
  obtain ⟨p', c', e, hat⟩ := hM.toAt hd2
  have hgn : n = gs.length := by injection e
  subst hgn
  have e1 : p' = p ∧ c' = pc := by injection e with e1 _ e2; exact ⟨e1.symm, e2.symm⟩
  obtain ⟨rfl, rfl⟩ := e1
  clear e
  have HM : Hid (MidsR w0.heap.size w d (.slice p' gs.length c') gs MS) := hM
  have HAt : Hid (VecsAt w p' gs.length c' MS) := hat
  have HU : Hid (Below w0.heap.size w0 w) := hU
  have HV : Hid (VecsAt w a m c VS) := by
    refine ⟨hv.len, hv.cap, fun i hi => ?_⟩
    obtain ⟨b, o, q, k, kc, e, h1, h2, h3, h4⟩ := hv.at_ i hi
    exact ⟨b, o, q, k, kc, e, Nat.lt_of_lt_of_le h1 hU.size, (hU.cell (p := ⟨b, o + i, none⟩) h1).trans h2, h3, h4.all hU⟩
  have HF : Hid (FitL d 1048576 VS) := hf
  have HL : Hid (VS.length = m) := hv.len
  have HLM : Hid (MS.length = gs.length) := hM.len
  have HI0 : Hid (∃ hs, CrowdI w (w.alloc (.cells (crow gs.length) 110)) w.heap.size hs gs.length d 0) := ⟨_, CrowdI.start w gs.length d⟩
  have hmk := mkCrowd gs.length (by omega) w
  have hmi := mkI64 d hd2
  clear hM hU hv hf hat
  go_enter Tryz.func45, Tryz.ntmps45
  go_wp2_with fail
  generalize w.alloc (.cells (crow gs.length) 110) = w1 at *
  generalize hgc : w.heap.size = gc at *
  have HGC : Hid (w.heap.size = gc) := hgc
  clear hgc
  go_loopw [16] (fun s16 wx => ∃ k : Nat, k ≤ gs.length ∧ s16 = .int .i64 k ∧ Hid (∃ hs, CrowdI w wx gc hs gs.length d k)) (fun s16 _ => gs.length - (RowKit.intOf s16).toNat)
  case atStart => exact ⟨0, Nat.zero_le _, rfl, HI0⟩
  case round =>
    clear HI0
    obtain ⟨k, hk, rfl, HI⟩ := hrel
    by_cases hlt : k < gs.length
    · obtain ⟨hs, hI⟩ := HI.out
      obtain ⟨b, o, q, kk, kc, rfl, hb, hc, hk2, hvj⟩ := HAt.out.at_ k hlt
      have hc1 := (hI.u.cell (p := ⟨b, o + k, none⟩) hb).trans hc
      have hkd : kk = d := by
        rw [← hvj.len]
        exact (HM.out.fit.getD k (by rw [HLM.out]; exact hlt)).1
      subst hkd
      obtain ⟨_, v, hc2, _⟩ := hI.c k hlt
      have hA : Below wr.heap.size wr (wr.alloc (.cells (irow kk) 2)) := (Below.refl _ _).alloc (Nat.le_refl _) _
      have d1 := (hA.cell (p := ⟨gc, k * 2 + 1, none⟩) hI.gl).trans hc2
      have d2 : (wr.alloc (.cells (irow kk) 2)).frozen? ⟨gc, k * 2 + 1, none⟩ = false := by rw [hA.frozen (p := ⟨gc, k * 2 + 1, none⟩) hI.gl]; exact hI.f _
      have HN : Hid (∃ hs, CrowdI w ((wr.alloc (.cells (irow kk) 2)).setCell ⟨gc, k * 2 + 1, none⟩ (.slice (some ⟨wr.heap.size, 0, none⟩) kk kk)) gc hs gs.length kk (k + 1)) := ⟨_, hI.step hlt⟩
      have hmw := hmi wr
      clear HI hI hb hc hvj hA hc2 hmi
      generalize wr.alloc (.cells (irow kk) 2) = wA at *
      go_wp2_with fail
      exact ⟨⟨k + 1, hlt, rfl, HN⟩, by simp [RowKit.intOf]; omega⟩
    · obtain rfl : k = gs.length := by omega
      clear hmi hmk
      obtain ⟨hs, hI⟩ := HI.out
      have HQ : Hid (CrowdQ w wr gc hs gs.length d (cntL (nearL MS) (VS.take 0)) (sumL (nearL MS) (VS.take 0))) := hI.done
      clear HI hI
      go_wp2_with fail
      go_loopw [31] (fun s31 wx => ∃ j : Nat, j ≤ m ∧ s31 = .int .i64 j ∧ Hid (CrowdQ w wx gc hs gs.length d (cntL (nearL MS) (VS.take j)) (sumL (nearL MS) (VS.take j)))) (fun s31 _ => m - (RowKit.intOf s31).toNat)
      case atStart => exact ⟨0, Nat.zero_le _, rfl, HQ⟩
      case round =>
        clear HQ
        obtain ⟨j, hj, rfl, HI⟩ := hrel
        by_cases hlt : j < m
        · obtain ⟨b, o, q, kk, kc, rfl, hb, hc, hk2, hvj⟩ := HV.out.at_ j hlt
          have hc1 := (HI.out.u.cell (p := ⟨b, o + j, none⟩) hb).trans hc
          have hkd : kk = d := by
            rw [← hvj.len]
            exact (HF.out.getD j (by rw [HL.out]; exact hlt)).1
          subst hkd
          have HVJ : Hid (VecAt w q kk kc (VS.getD j [])) := hvj
          have HNr : Hid (Calls Tryz.prog 31 #[.slice p' gs.length c', .slice q kk kc] wr fun e w' => e = .returned (.int .i64 (nearL MS (VS.getD j []))) ∧ Below wr.heap.size wr w') :=
            near_at (HAt.out.all HI.out.u) (HVJ.out.all HI.out.u) (by omega) (fun i hi => by
              have := (HM.out.fit.getD i (by rw [HLM.out]; exact hi)).1
              omega)
          have hn0 := hmn (by omega)
          obtain ⟨k, hk⟩ : ∃ k : Nat, nearL MS (VS.getD j []) = k := by
            have := argT_low (scF MS (VS.getD j [])) MS.length
            have h1 := HLM.out
            unfold nearL
            exact ⟨(argT (scF MS (VS.getD j [])) MS.length).toNat, by omega⟩
          have hkn : k < gs.length := by
            have := argT_low (scF MS (VS.getD j [])) MS.length
            have h1 := HLM.out
            unfold nearL at hk
            omega
          have HK : Hid (nearL MS (VS.getD j []) = k) := hk
          rw [hk] at HNr
          have HTk : Hid (VS.take (j + 1) = VS.take j ++ [VS.getD j []]) := getD_take_snoc (by rw [HL.out]; exact hlt)
          have HB : Hid ((0 ≤ cntL (nearL MS) (VS.take j) k ∧ cntL (nearL MS) (VS.take j) k ≤ 1000000) ∧ ∀ l, -100000000000 ≤ sumL (nearL MS) (VS.take j) k l ∧ sumL (nearL MS) (VS.take j) k l ≤ 100000000000) := by
            have := sum_bds (near := nearL MS) (HF.out.sub j) (by rw [List.length_take]; omega) k
            exact ⟨this.1, this.2.1⟩
          clear hb hc hvj hk
          go_wp2_with fail
          refine HNr.out.mono ?_
          rintro e w2 ⟨rfl, hb2⟩
          have HI2 : Hid (CrowdQ w w2 gc hs gs.length kk (cntL (nearL MS) (VS.take j)) (sumL (nearL MS) (VS.take j))) := HI.out.below hb2
          clear hb2 HI HNr
          go_wp2_with fail
          refine (cadd_at HI2.out k hkn HB.out.1 HB.out.2 HVJ.out (by omega)).mono ?_
          rintro e w3 ⟨rfl, hq3⟩
          have HI3 : Hid (CrowdQ w w3 gc hs gs.length kk (cntL (nearL MS) (VS.take (j + 1))) (sumL (nearL MS) (VS.take (j + 1)))) := by
            refine hq3.congr (fun i _ => ?_) (fun i _ l _ => ?_)
            · rw [HTk.out, cntL_snoc, HK.out]
              by_cases e : i = k
              · rw [if_pos e, if_pos (by omega)]
              · rw [if_neg e, if_neg (by omega)]
            · rw [HTk.out, sumL_snoc, HK.out]
              by_cases e : i = k
              · rw [if_pos e, if_pos (by omega)]
              · rw [if_neg e, if_neg (by omega)]
          clear hq3 HI2 HTk HB HK
          go_wp2_with fail
          exact ⟨⟨j + 1, hlt, rfl, HI3⟩, by simp [RowKit.intOf]; omega⟩
        · obtain rfl : j = m := by omega
          have HQ : Hid (CrowdQ w0 wr gc hs gs.length d (cntL (nearL MS) VS) (sumL (nearL MS) VS)) := by
            have h1 := HI.out
            have h2 := HL.out
            rw [show VS.take j = VS by rw [← h2, List.take_length]] at h1
            exact h1.rebase (HU.out.trans (h1.u.mono HU.out.size)) HU.out.size
          have HH : Hid (w.heap.size ≤ gc ∧ ∀ i, i < gs.length → w.heap.size ≤ hs i) := ⟨HI.out.g0, HI.out.h0⟩
          have HWz : Hid (w.heap.size ≤ wr.heap.size) := HI.out.u.size
          have HS0 : Hid (MidsR w0.heap.size wr d (.slice p' gs.length c') gs (mixL (nearL MS) MS VS 0) ∧ Below w0.heap.size w0 wr) := by
            rw [mixL_zero]
            exact ⟨HM.out.below HI.out.u, HU.out.trans (HI.out.u.mono HU.out.size)⟩
          have HB : Hid (∀ k, (0 ≤ cntL (nearL MS) VS k ∧ cntL (nearL MS) VS k ≤ 1000000) ∧ (∀ l, -100000000000 ≤ sumL (nearL MS) VS k l ∧ sumL (nearL MS) VS k l ≤ 100000000000) ∧ (cntL (nearL MS) VS k ≠ 0 → ∀ j, -1048576 ≤ sumL (nearL MS) VS k j / cntL (nearL MS) VS k ∧ sumL (nearL MS) VS k j / cntL (nearL MS) VS k ≤ 1048576)) :=
            fun k => sum_bds HF.out (by rw [HL.out]; exact hm) k
          have HGl : Hid (∀ k, k < gs.length → (gs.getD k (0, 0)).1 < w.heap.size) := fun k hk => (HM.out.vec k hk).lo.2.1
          have HCN : Hid (∀ k, k < gs.length → cenL d (cntL (nearL MS) VS k) (sumL (nearL MS) VS k) (MS.getD k []) = (moveL (nearL MS) MS VS).getD k []) := fun k hk => by
            rw [moveL_getD _ _ _ _ (by rw [HLM.out]; exact hk)]
            unfold cenL
            rw [(HM.out.fit.getD k (by rw [HLM.out]; exact hk)).1]
          have HFM : Hid (FitL d 1048576 (moveL (nearL MS) MS VS)) := HM.out.fit.move (by omega) HF.out _
          clear HI
          go_wp2_with fail
          go_loopw [45] (fun s45 wx => ∃ k : Nat, k ≤ gs.length ∧ s45 = .int .i64 k ∧ Hid (w.heap.size ≤ wx.heap.size ∧ MidsR w0.heap.size wx d (.slice p' gs.length c') gs (mixL (nearL MS) MS VS k) ∧ CrowdQ w0 wx gc hs gs.length d (cntL (nearL MS) VS) (sumL (nearL MS) VS) ∧ Below w0.heap.size w0 wx)) (fun s45 _ => gs.length - (RowKit.intOf s45).toNat)
          case atStart => exact ⟨0, Nat.zero_le _, rfl, HWz.out, HS0.out.1, HQ.out, HS0.out.2⟩
          case round =>
            clear HS0 HQ HWz
            obtain ⟨k, hk, rfl, HI0⟩ := hrel
            have HZ : Hid (w.heap.size ≤ wr.heap.size) := HI0.out.1
            have HI := HI0.out.2
            have HI : Hid _ := HI
            clear HI0
            by_cases hlt : k < gs.length
            · obtain ⟨b, c2, e, hb, hlo, hcell⟩ := HI.out.1.cell k hlt
              have e1 : p' = some ⟨b, 0, none⟩ := by injection e
              subst e1
              clear e
              have d1 := (HI.out.2.1.c k hlt).1
              have d2 := (HI.out.2.1.c k hlt).2
              have hA : Below wr.heap.size wr (wr.alloc (.cells #[.int .i64 (cntL (nearL MS) VS k), .slice (some ⟨hs k, 0, none⟩) d d] 110)) := (Below.refl _ _).alloc (Nat.le_refl _) _
              have q1 : (wr.alloc (.cells #[.int .i64 (cntL (nearL MS) VS k), .slice (some ⟨hs k, 0, none⟩) d d] 110)).cell? ⟨wr.heap.size, 0, none⟩ = some (.int .i64 (cntL (nearL MS) VS k)) := by simp
              have q2 : (wr.alloc (.cells #[.int .i64 (cntL (nearL MS) VS k), .slice (some ⟨hs k, 0, none⟩) d d] 110)).cell? ⟨wr.heap.size, 1, none⟩ = some (.slice (some ⟨hs k, 0, none⟩) d d) := by simp
              have q3 := (hA.cell (p := ⟨b, k, none⟩) hb).trans hcell
              have HI2 : Hid (MidsR w0.heap.size (wr.alloc (.cells #[.int .i64 (cntL (nearL MS) VS k), .slice (some ⟨hs k, 0, none⟩) d d] 110)) d (.slice (some ⟨b, 0, none⟩) gs.length c') gs (mixL (nearL MS) MS VS k) ∧ CrowdQ w0 (wr.alloc (.cells #[.int .i64 (cntL (nearL MS) VS k), .slice (some ⟨hs k, 0, none⟩) d d] 110)) gc hs gs.length d (cntL (nearL MS) VS) (sumL (nearL MS) VS) ∧ Below w0.heap.size w0 (wr.alloc (.cells #[.int .i64 (cntL (nearL MS) VS k), .slice (some ⟨hs k, 0, none⟩) d d] 110))) :=
                ⟨HI.out.1.below hA, HI.out.2.1.below hA, HI.out.2.2.trans (hA.mono HI.out.2.2.size)⟩
              clear hA hcell HI
              unfold slC at q3
              generalize hgk : gs.getD k (0, 0) = gk at *
              have HBk := HB.out k
              have HCk : Hid (cenL d (cntL (nearL MS) VS k) (sumL (nearL MS) VS k) (MS.getD k []) = (moveL (nearL MS) MS VS).getD k []) := HCN.out k hlt
              have HGk : Hid (gk.1 < w.heap.size ∧ w0.heap.size ≤ gk.1) := by
                rw [← hgk]; exact ⟨HGl.out k hlt, (HM.out.vec k hlt).lo.1⟩
              have HXg : Hid (gs.getD k (0, 0) = gk) := hgk
              have HMX : Hid ((mixL (nearL MS) MS VS k).getD k [] = MS.getD k [] ∧ (mixL (nearL MS) MS VS k).set k ((moveL (nearL MS) MS VS).getD k []) = mixL (nearL MS) MS VS (k + 1)) := ⟨mixL_getD _ _ _ _ (by rw [HLM.out]; exact hlt), mixL_set _ _ _ _ (by rw [HLM.out]; exact hlt)⟩
              have hrb : wr.heap.size ≠ gk.1 := by have := HGk.out.1; have := HZ.out; omega
              have HZ2 : Hid (w.heap.size ≤ (wr.alloc (.cells #[.int .i64 (cntL (nearL MS) VS k), .slice (some ⟨hs k, 0, none⟩) d d] 110)).heap.size) := by show _ ≤ _; have := HZ.out; simp; omega
              have hbg : b ≠ gk.1 := fun e => HI2.out.1.ne k hlt (by rw [hgk, ← e]; rfl)
              clear hgk HB HCN
              go_wp2_with fail
              generalize hwB : wr.alloc (.cells #[.int .i64 (cntL (nearL MS) VS k), .slice (some ⟨hs k, 0, none⟩) d d] 110) = wB at *
              generalize wr.heap.size = r at *
              have HS : Hid (Calls Tryz.prog 68 #[.agg #[.int .i64 (cntL (nearL MS) VS k), .slice (some ⟨hs k, 0, none⟩) d d], slC d gk] wB.drew fun e w' => e = .returned (.tuple #[]) ∧ (w'.cell? ⟨r, 0, none⟩ = some (.int .i64 (cntL (nearL MS) VS k)) ∧ w'.cell? ⟨r, 1, none⟩ = some (.slice (some ⟨hs k, 0, none⟩) d d) ∧ w'.cell? ⟨b, k, none⟩ = some (.slice (some ⟨gk.1, 0, none⟩) d gk.2)) ∧ Hid (w.heap.size ≤ w'.heap.size ∧ MidsR w0.heap.size w' d (.slice (some ⟨b, 0, none⟩) gs.length c') gs (mixL (nearL MS) MS VS (k + 1)) ∧ CrowdQ w0 w' gc hs gs.length d (cntL (nearL MS) VS) (sumL (nearL MS) VS) ∧ Below w0.heap.size w0 w')) := by
                have hD : Below wB.heap.size wB wB.drew := ⟨rfl, rfl, rfl, Nat.le_refl _, fun _ _ => rfl⟩
                have hMd := HI2.out.1.below hD
                have hCd := HI2.out.2.1.below hD
                have hUd := HI2.out.2.2.trans (hD.mono HI2.out.2.2.size)
                have hvk := hMd.vec k hlt
                rw [HXg.out, HMX.out.1] at hvk
                have hrl : r < wB.heap.size := World.block_lt_of_cell? wB _ q1
                have hbl : b < wB.heap.size := World.block_lt_of_cell? wB _ q3
                refine (centre_at hvk hd2 (cntL (nearL MS) VS k) HBk.1 (sumL (nearL MS) VS k) (fun j hj => ⟨hCd.s k hlt j hj, HBk.2.1 j⟩) (fun h0 j _ => HBk.2.2 h0 j) (by have := HH.out.2 k hlt; have := HGk.out.1; omega) (hCd.hl k hlt)).mono ?_
                rintro e w' ⟨rfl, hR, hK⟩
                rw [HCk.out] at hR
                refine ⟨rfl, ⟨?_, ?_, ?_⟩, Nat.le_trans HZ2.out hK.size, ?_, ?_, ?_⟩
                · exact (hK.cell (p := ⟨r, 0, none⟩) hrl hrb).trans q1
                · exact (hK.cell (p := ⟨r, 1, none⟩) hrl hrb).trans q2
                · exact (hK.cell (p := ⟨b, k, none⟩) hbl hbg).trans q3
                · rw [← HMX.out.2]
                  have hfx := HFM.out.getD k (by rw [moveL_length, HLM.out]; exact hlt)
                  exact hMd.moved k hlt (by rw [HXg.out]; exact hR) hfx.2 (by rw [HXg.out]; exact hK)
                · have hUw : Below w0.heap.size w0 w' := hCd.u.trans (hK.below hCd.u.size (fun i e => by have := HGk.out.2; omega))
                  exact hCd.keep hK (by have := HGk.out.1; have := HH.out.1; omega) (fun i hi => by have := HGk.out.1; have := HH.out.2 i hi; omega) hUw
                · exact hUd.trans (hK.below hUd.size (fun i e => by have := HGk.out.2; omega))
              unfold slC at HS
              have S1 : wB.cell? ⟨r, 0, none⟩ = some (.int .i64 (cntL (nearL MS) VS k)) ∧ wB.cell? ⟨r, 1, none⟩ = some (.slice (some ⟨hs k, 0, none⟩) d d) ∧ wB.cell? ⟨b, k, none⟩ = some (.slice (some ⟨gk.1, 0, none⟩) d gk.2) := ⟨q1, q2, q3⟩
              clear HI2 HZ2 HZ q1 q2 q3 HCk HGk HXg HMX hrb hbg hwB HBk
              generalize cntL (nearL MS) VS k = cn at *
              generalize hs k = hk0 at *
              generalize gk.1 = g1 at *
              generalize gk.2 = g2 at *
              refine wp_region_noPanic ?_
              go_region_held (fun w' => w'.cell? ⟨r, 0, none⟩ = some (.int .i64 cn) ∧ w'.cell? ⟨r, 1, none⟩ = some (.slice (some ⟨hk0, 0, none⟩) d d) ∧ w'.cell? ⟨b, k, none⟩ = some (.slice (some ⟨g1, 0, none⟩) d g2)) (first | assumption | exact S1 | go_keep)
                (first | (go_at_call 68; refine HS.out.mono ?_; rintro e w3 ⟨rfl, hS3, HI3⟩))
              refine NoPanic.normal ?_
              clear HS S1
              go_wp2_with fail
              exact ⟨⟨k + 1, hlt, rfl, HI3⟩, by simp [RowKit.intOf]; omega⟩
            · obtain rfl : k = gs.length := by omega
              have HE : Hid (mixL (nearL MS) MS VS gs.length = moveL (nearL MS) MS VS) := by
                show _ = _
                rw [← HLM.out, mixL_all]
              rw [HE.out] at HI
              go_wp2_with fail
              go_end0
              exact ⟨rfl, HI.out.1, HI.out.2.2⟩
end Go.Proofs.YteaacodloabdcaaGreatDoor

namespace Go.Proofs.YteaacodloabdcaaGreatDoor
open Go.RowKit Go.Maps

theorem firstL_pos {n : Nat} (hn : 1 ≤ n) (VS : List (List Int)) : VS ≠ [] → 0 < (firstL n VS).length := by
  refine snoc_ind (p := fun VS => VS ≠ [] → 0 < (firstL n VS).length) (fun h => absurd rfl h) (fun l x _ _ => ?_) VS
  rw [firstL_snoc]
  split
  · rename_i h
    rcases h with h | h
    · omega
    · exact List.length_pos_of_mem h
  · simp
/-- Middles, as the chapter has them. -/
def numM (n : Int) : Nat := (min (max n 1) 16).toNat
def numR (r : Int) : Nat := (min (max r 0) 10).toNat
def middlesL (n r : Int) (VS : List (List Int)) : List (List Int) := roundsL nearL VS (numR r) (firstL (numM n) VS)
theorem middlesL_length (n r : Int) (VS : List (List Int)) : (middlesL n r VS).length = (firstL (numM n) VS).length := roundsL_length _ _ _ _
set_option maxRecDepth 100000 in
set_option maxHeartbeats 4000000 in
theorem middles_at {w : World} {a : Option Addr} {m c d : Nat} {VS : List (List Int)} (hv : VecsAt w a m c VS) (hf : FitL d 1048576 VS) (hd : 1 ≤ d) (hd2 : d ≤ 1000) (hm : m ≤ 1000) (n0 r0 : Int) :
    Calls Tryz.prog 16 #[.int .i64 n0, .int .i64 r0, .slice a m c] w fun e w' => ∃ u gs, e = .returned u ∧ MidsR w.heap.size w' d u gs (middlesL n0 r0 VS) ∧ Below w.heap.size w w' := by
  have HV : Hid (VecsAt w a m c VS) := hv
  have HF : Hid (FitL d 1048576 VS) := hf
  have HL : Hid (VS.length = m) := hv.len
  have hN : min (max n0 1) 16 = (numM n0 : Int) := by unfold numM; omega
  have hR : min (max r0 0) 10 = (numR r0 : Int) := by unfold numR; omega
  have hN1 : 1 ≤ numM n0 ∧ numM n0 ≤ 16 := by unfold numM; omega
  have hR1 : numR r0 ≤ 10 := by unfold numR; omega
  have HD : Hid (∀ F, roundsL nearL VS 0 F = F ∧ ∀ k, roundsL nearL VS (k + 1) F = moveL (nearL (roundsL nearL VS k F)) (roundsL nearL VS k F) VS) := fun F => ⟨rfl, fun _ => rfl⟩
  unfold middlesL
  generalize numM n0 = N at *
  generalize numR r0 = R at *
  clear hv hf
  go_enter Tryz.func16, Tryz.ntmps16
  go_wp2_with fail
  refine (first_at HV.out HF.out hd hd2 hm N hN1.2).mono ?_
  rintro e w2 ⟨u, gs, rfl, hM, hb⟩
  obtain ⟨p, pc, rfl, _⟩ := hM.toAt hd2
  have HG : Hid (gs.length ≤ 16 ∧ (0 < m → 0 < gs.length)) := by
    have h1 := hM.len
    have h2 := (firstL_len N VS).1
    exact ⟨by omega, fun h0 => by
      have := firstL_pos hN1.1 VS (fun e => by have := HL.out; rw [e] at this; simp at this; omega)
      omega⟩
  have HI : Hid (MidsR w.heap.size w2 d (.slice p gs.length pc) gs (roundsL nearL VS 0 (firstL N VS)) ∧ Below w.heap.size w w2) := by
    rw [(HD.out _).1]; exact ⟨hM, hb⟩
  clear hM hb
  go_wp2_with fail
  go_loopw [16] (fun s16 wx => ∃ k : Nat, k ≤ R ∧ s16 = .int .i64 k ∧ Hid (MidsR w.heap.size wx d (.slice p gs.length pc) gs (roundsL nearL VS k (firstL N VS)) ∧ Below w.heap.size w wx)) (fun s16 _ => R - (RowKit.intOf s16).toNat)
  case atStart => exact ⟨0, Nat.zero_le _, rfl, HI⟩
  case round =>
    clear HI
    obtain ⟨k, hk, rfl, HI⟩ := hrel
    by_cases hlt : k < R
    · have hlt' : (k : Int) < (R : Int) := by omega
      have hk10 : k ≤ 10 := by omega
      go_wp2_with fail
      refine (move_at HI.out.1 HI.out.2 HV.out HF.out hd2 hm HG.out.1 HG.out.2).mono ?_
      rintro e w3 ⟨rfl, hM, hb⟩
      have HI3 : Hid (MidsR w.heap.size w3 d (.slice p gs.length pc) gs (roundsL nearL VS (k + 1) (firstL N VS)) ∧ Below w.heap.size w w3) := by
        rw [(HD.out _).2]; exact ⟨hM, hb⟩
      clear hM hb HI
      go_wp2_with fail
      exact ⟨⟨k + 1, hlt, rfl, HI3⟩, by simp [RowKit.intOf]; omega⟩
    · obtain rfl : k = R := by omega
      go_wp2_with fail
      go_ret
      exact ⟨_, _, rfl, HI.out.1, HI.out.2⟩
end Go.Proofs.YteaacodloabdcaaGreatDoor
