import Derived.Test.YteaacodloabdcaaGreatDoorQtB
import Derived.Deep.RegionHeld3
import Derived.BigRegion
import Derived.Test.YteaacodloabdcaaGreatDoorVcA
import Derived.Laws.IdiomCopy
namespace Go.Proofs.YteaacodloabdcaaGreatDoor
open Go.RowKit Go.Maps

theorem wrap_id64 (v : Int) (h0 : -9223372036854775808 ≤ v) (h1 : v ≤ 9223372036854775807) : IntKind.i64.wrap v = v := by
  first
    | (simp [IntKind.wrap, IntKind.bits, IntKind.signed]; omega)
    | (simp [IntKind.wrap, IntKind.bits, IntKind.signed]; split <;> omega)
    | (unfold IntKind.wrap; simp [IntKind.bits, IntKind.signed]; omega)
/-- How far Code has come. -/
structure CodeI (w wr : World) (g j : Nat) (la : Option Addr) (ln lc : Nat) (sa : Option Addr) (sn sc : Nat) (L S : List Int) (va : Option Addr) (vn vc : Nat) (V B : List Int) : Prop where
  q : BoxQ w wr la ln lc sa sn sc L S
  v : VecAt wr va vn vc V
  row : ByR wr g (.slice (some ⟨g, 0, none⟩) ln ln) B
  len : B.length = ln
  at_ : ∀ i, i < ln → B.getD i 0 = if i < j then (codesZ L S V).getD i 0 else 0
  g0 : w.heap.size < g
theorem CodeI.step {w wr : World} {g j b1 o1 b2 o2 b3 o3 ln lc sn sc vn vc : Nat} {L S V B : List Int} (h : CodeI w wr g j (some ⟨b1, o1, none⟩) ln lc (some ⟨b2, o2, none⟩) sn sc L S (some ⟨b3, o3, none⟩) vn vc V B) (hj : j < ln) (m1 : g ≠ b1) (m2 : g ≠ b2) (m3 : g ≠ b3) {c : Int} (hc : (codesZ L S V).getD j 0 = c) :
    CodeI w (wr.setCell ⟨g, j, none⟩ (.int .u8 c)).drew g (j + 1) (some ⟨b1, o1, none⟩) ln lc (some ⟨b2, o2, none⟩) sn sc L S (some ⟨b3, o3, none⟩) vn vc V (B.set j c) := by
  have hk : Keeps (fun i => i = g) wr (wr.setCell ⟨g, j, none⟩ (.int .u8 c)).drew := Keeps.drew (Keeps.setCell (p := ⟨g, j, none⟩) (Keeps.refl (fun i => i = g) wr) rfl _)
  have g0 := h.g0
  have hl : w.heap.size < wr.heap.size := World.block_lt_of_cell? wr _ h.q.c0
  refine ⟨⟨⟨h.q.b.low.keep hk (fun q e => by injection e with e; subst e; exact Ne.symm m1), h.q.b.step.keep hk (fun q e => by injection e with e; subst e; exact Ne.symm m2)⟩, (hk.cell (p := ⟨w.heap.size, 0, none⟩) hl (by show ¬ w.heap.size = g; omega)).trans h.q.c0, (hk.cell (p := ⟨w.heap.size, 1, none⟩) hl (by show ¬ w.heap.size = g; omega)).trans h.q.c1, h.q.u.trans (hk.below h.q.u.size (fun i e => by omega))⟩, h.v.keep hk (fun q e => by injection e with e; subst e; exact Ne.symm m3), (h.row.set j c).keep (Keeps.drew (Keeps.refl (fun _ => False) _)) (fun _ _ e => e), by rw [List.length_set]; exact h.len, ?_, h.g0⟩
  intro i hi
  have h1 := h.at_ i hi
  have hl := h.len
  by_cases e : i = j
  · subst e
    rw [if_pos (by omega), hc]
    simp [List.getD, hl, hj]
  · have e2 : (B.set j c).getD i 0 = B.getD i 0 := by
      simp only [List.getD]
      rw [List.getElem?_set_ne (by omega)]
    rw [e2, h1]
    by_cases h2 : i < j
    · rw [if_pos h2, if_pos (by omega)]
    · rw [if_neg h2, if_neg (by omega)]
theorem CodeI.done {w wr : World} {g j : Nat} {la : Option Addr} {ln lc : Nat} {sa : Option Addr} {sn sc : Nat} {L S : List Int} {va : Option Addr} {vn vc : Nat} {V B : List Int} (h : CodeI w wr g j la ln lc sa sn sc L S va vn vc V B) (hj : ln ≤ j ∨ vn ≤ j) : B = codesZ L S V := by
  have hL := h.q.b.low.len
  refine getD_ext (by rw [h.len, codesZ_length, hL]) (fun i hi => ?_)
  rw [h.len] at hi
  rw [h.at_ i hi]
  split
  · rfl
  · rw [codesZ_getD _ _ _ _ (by omega), if_neg (by have := h.v.len; omega)]
set_option maxRecDepth 100000 in
set_option maxHeartbeats 400000 in
theorem code_at {w : World} {la : Option Addr} {ln lc : Nat} {sa : Option Addr} {sn sc : Nat} {L S : List Int} {va : Option Addr} {vn vc : Nat} {V : List Int} (h : BookAt w la ln lc sa sn sc L S) (hv : VecAt w va vn vc V) (hl : ln ≤ 1000) (hs : sn ≤ 1000) (hn : vn ≤ 1000000000) :
    Calls Tryz.prog 40 #[bookV la ln lc sa sn sc, .slice va vn vc] w fun e w' => ∃ v, e = .returned v ∧ ByR w' w.heap.size v (codesV L S V) ∧ Below w.heap.size w w' := by
  have hb1 : Below w.heap.size w (w.alloc (.cells #[.slice la ln lc, .slice sa sn sc] 60)) := (Below.refl _ w).alloc (Nat.le_refl _) _
  have HQ0 : Hid (BoxQ w (w.alloc (.cells #[.slice la ln lc, .slice sa sn sc] 60)) la ln lc sa sn sc L S) := BoxQ.start h
  have HV0 : Hid (VecAt (w.alloc (.cells #[.slice la ln lc, .slice sa sn sc] 60)) va vn vc V) := hv.all hb1
  have HG : Hid (∀ p : Addr, (la = some p ∧ 0 < ln ∨ sa = some p ∧ 0 < sn ∨ va = some p ∧ 0 < vn) → p.block < w.heap.size) := by
    rintro p (⟨e, h0⟩ | ⟨e, h0⟩ | ⟨e, h0⟩)
    · obtain ⟨b, o, e2, hb, _⟩ := h.low.cell 0 h0
      rw [e] at e2; injection e2 with e2; rw [e2]; exact hb
    · obtain ⟨b, o, e2, hb, _⟩ := h.step.cell 0 h0
      rw [e] at e2; injection e2 with e2; rw [e2]; exact hb
    · obtain ⟨b, o, e2, hb, _⟩ := hv.cell 0 h0
      rw [e] at e2; injection e2 with e2; rw [e2]; exact hb
  clear h hv hb1
  unfold bookV
  go_enter Tryz.func40, Tryz.ntmps40
  go_wp2_with fail
  refine (fits_at HQ0.out.b (by omega) (by omega)).mono ?_
  rintro e w2 ⟨rfl, hb2⟩
  have HQ : Hid (BoxQ w w2 la ln lc sa sn sc L S) := HQ0.out.below hb2
  have HV : Hid (VecAt w2 va vn vc V) := HV0.out.all hb2
  clear HQ0 HV0 hb2
  by_cases hf : fineB L S = true
  · have HF : Hid (codesV L S V = codesZ L S V) := if_pos hf
    have HL : Hid (L.length = S.length ∧ ∀ s ∈ S, 1 ≤ s) := fineB_yes hf
    rw [hf]
    clear hf
    have c0 := HQ.out.c0
    have c1 := HQ.out.c1
    have hmk := fun w => mkBy ln hl w
    have HI0 : Hid (∃ B, CodeI w (w2.alloc (.cells (brow8 ln) 5)) w2.heap.size 0 la ln lc sa sn sc L S va vn vc V B) := by
      have hbA : Below w2.heap.size w2 (w2.alloc (.cells (brow8 ln) 5)) := (Below.refl _ _).alloc (Nat.le_refl _) _
      exact ⟨_, HQ.out.below hbA, HV.out.all hbA, new_by ln hl w2, by simp, fun i hi => by simp [List.getD, hi], World.block_lt_of_cell? w2 _ c0⟩
    obtain ⟨g, hg⟩ : ∃ g, w2.heap.size = g := ⟨_, rfl⟩
    go_wp2_with fail
    clear hmk
    rw [hg] at HI0
    generalize w2.alloc (.cells (brow8 ln) 5) = w3 at *
    clear c0 c1 hg
    obtain ⟨m, hm, hm2⟩ : ∃ m : Nat, min (ln : Int) (vn : Int) = (m : Int) ∧ m = min ln vn := ⟨min ln vn, by omega, rfl⟩
    rw [hm]
    have HM : Hid (m = min ln vn) := hm2
    clear hm hm2
    go_loopw [19] (fun s19 wr => ∃ j : Nat, j ≤ m ∧ s19 = .int .i64 j ∧ Hid (∃ B, CodeI w wr g j la ln lc sa sn sc L S va vn vc V B)) (fun s19 _ => m - (RowKit.intOf s19).toNat)
    case atStart => exact ⟨0, Nat.zero_le _, rfl, HI0⟩
    case round =>
      clear HI0
      obtain ⟨j, hj, rfl, HI⟩ := hrel
      obtain ⟨B, hB⟩ := HI.out
      clear HI
      by_cases hlt : j < m
      · have hjl : j < ln := by have := HM.out; omega
        have hjv : j < vn := by have := HM.out; omega
        have hjs : j < sn := by have := HL.out.1; rw [hB.q.b.low.len, hB.q.b.step.len] at this; omega
        obtain ⟨b1, o1, rfl, h1, e1, x1, x2⟩ := hB.q.b.low.cell j hjl
        obtain ⟨b2, o2, rfl, h2, e2, y1, y2⟩ := hB.q.b.step.cell j hjs
        obtain ⟨b3, o3, rfl, h3, e3, z1, z2⟩ := hB.v.cell j hjv
        have n1 : b1 < w.heap.size := HG.out _ (Or.inl ⟨rfl, by omega⟩)
        have n2 : b2 < w.heap.size := HG.out _ (Or.inr (Or.inl ⟨rfl, by omega⟩))
        have n3 : b3 < w.heap.size := HG.out _ (Or.inr (Or.inr ⟨rfl, by omega⟩))
        have y3 : 1 ≤ S.getD j 0 := by
          refine HL.out.2 _ ?_
          have hjl : j < S.length := by rw [hB.q.b.step.len]; exact hjs
          rw [List.getD_eq_getElem?_getD, List.getElem?_eq_getElem hjl]; exact List.getElem_mem _
        have c0 := hB.q.c0
        have c1 := hB.q.c1
        have d1 := hB.row.cell j (by rw [hB.len]; exact hjl)
        have d2 := hB.row.soft j
        have g0 := hB.g0
        have m1 : g ≠ b1 := by omega
        have m2 : g ≠ b2 := by omega
        have m3 : g ≠ b3 := by omega
        have m4 : g ≠ w.heap.size := by omega
        have HC : Hid ((codesZ L S V).getD j 0 = codeZ (L.getD j 0) (S.getD j 0) (V.getD j 0)) := by
          show _ = _
          rw [codesZ_getD _ _ _ _ (by rw [hB.q.b.low.len]; exact hjl), if_pos (by rw [hB.v.len]; exact hjv)]
        have HB : Hid (CodeI w wr g j (some ⟨b1, o1, none⟩) ln lc (some ⟨b2, o2, none⟩) sn sc L S (some ⟨b3, o3, none⟩) vn vc V B) := hB
        clear hB g0
        have HK : Hid (∀ W, Calls Tryz.prog 64 #[.int .i64 (IntKind.i64.wrap (L.getD j 0)), .int .i64 (IntKind.i64.wrap (S.getD j 0)), .int .i64 (IntKind.i64.wrap (V.getD j 0))] W fun e w' => e = .returned (.int .u8 (codeZ (L.getD j 0) (S.getD j 0) (V.getD j 0))) ∧ w' = W) := fun W => by
          rw [wrap_id64 _ (by omega) (by omega), wrap_id64 _ (by omega) (by omega), wrap_id64 _ (by omega) (by omega)]
          exact codeOf_at (L.getD j 0) (S.getD j 0) (V.getD j 0) ⟨x1, x2⟩ ⟨y3, y2⟩ ⟨z1, z2⟩ W
        generalize L.getD j 0 = x at *
        generalize S.getD j 0 = y at *
        generalize V.getD j 0 = z at *
        clear n1 n2 n3 h1 h2 h3
        go_wp2_with fail
        clear x1 x2 y1 y2 y3 z1 z2
        refine wp_region_noPanic ?_
        go_region_held (fun w' => w'.cell? ⟨w.heap.size, 0, none⟩ = some (.slice (some ⟨b1, o1, none⟩) ln lc) ∧ w'.cell? ⟨w.heap.size, 1, none⟩ = some (.slice (some ⟨b2, o2, none⟩) sn sc) ∧ w'.cell? ⟨b1, o1 + j, none⟩ = some (.int .i32 x) ∧ w'.cell? ⟨b2, o2 + j, none⟩ = some (.int .i32 y) ∧ w'.cell? ⟨b3, o3 + j, none⟩ = some (.int .i32 z)) (first | assumption | exact ⟨c0, c1, e1, e2, e3⟩ | go_keep)
          (first | (go_at_call 64; refine (HK.out _).mono ?_; rintro e w4 ⟨rfl, rfl⟩))
        refine NoPanic.normal ?_
        have HN : Hid (∃ B, CodeI w (wr.setCell ⟨g, j, none⟩ (.int .u8 (codeZ x y z))).drew g (j + 1) (some ⟨b1, o1, none⟩) ln lc (some ⟨b2, o2, none⟩) sn sc L S (some ⟨b3, o3, none⟩) vn vc V B) := ⟨_, HB.out.step hjl m1 m2 m3 HC.out⟩
        clear HB HC HK e1 e2 e3 c0 c1 d1 d2
        go_wp2_with fail
        exact ⟨⟨j + 1, by omega, rfl, HN⟩, by simp [RowKit.intOf]; omega⟩
      · have hD := hB.done (by have := HM.out; omega)
        subst hD
        have HR : Hid (CodeI w wr g j la ln lc sa sn sc L S va vn vc V (codesZ L S V)) := hB
        clear hB
        go_wp2_with fail
        go_ret
        refine ⟨_, rfl, ?_, HR.out.q.u⟩
        rw [HF.out]
        have h1 := HR.out.row
        have h2 := HR.out.g0
        refine ⟨h1.1, ?_⟩
        rcases h1.2 with q | ⟨gg, cap, cur, hv, hb, rest⟩
        · exact .inl q
        · exact .inr ⟨gg, cap, cur, hv, by omega, rest⟩
  · have HZ : Hid (codesV L S V = []) := if_neg hf
    rw [show fineB L S = false by simpa using hf]
    clear hf
    go_wp2_with fail
    go_ret
    refine ⟨_, rfl, ?_, HQ.out.u⟩
    rw [HZ.out]
    exact ByR.nil _ _
end Go.Proofs.YteaacodloabdcaaGreatDoor

namespace Go.Proofs.YteaacodloabdcaaGreatDoor
open Go.RowKit Go.Maps

theorem mul_bound {y z : Int} (h1 : 1 ≤ y) (h2 : y ≤ 2147483647) (h3 : 0 ≤ z) (h4 : z ≤ 255) : 0 ≤ y * z ∧ y * z ≤ 547608329985 := by
  refine ⟨Int.mul_nonneg (by omega) h3, ?_⟩
  have := Int.mul_le_mul h2 h4 h3 (by omega)
  omega
theorem clamp_form (t : Int) : clampQ t = min (max t (-1048576)) 1048576 := by unfold clampQ; omega
/-- How far Back has come. -/
structure BackI (w wr : World) (g j : Nat) (la : Option Addr) (ln lc : Nat) (sa : Option Addr) (sn sc : Nat) (L S : List Int) (va : Option Addr) (vn vc : Nat) (C B : List Int) : Prop where
  q : BoxQ w wr la ln lc sa sn sc L S
  v : ByAt wr va vn vc C
  row : VecR wr g (.slice (some ⟨g, 0, none⟩) ln ln) B
  len : B.length = ln
  at_ : ∀ i, i < ln → B.getD i 0 = if i < j then (backsZ L S C).getD i 0 else 0
  g0 : w.heap.size < g
theorem ByAt.keep0 {S : Nat → Prop} {w w' : World} {a : Option Addr} {n c : Nat} {A : List Int} (h : ByAt w a n c A) (hk : Keeps S w w') (hs : ∀ q : Addr, a = some q → 0 < n → ¬ S q.block) : ByAt w' a n c A :=
  { h with
    at_ := by
      rcases h.at_ with h0 | ⟨b, o, e, hb, hc⟩
      · exact Or.inl h0
      · by_cases h0 : n = 0
        · exact Or.inl h0
        · exact Or.inr ⟨b, o, e, Nat.lt_of_lt_of_le hb hk.size, fun j hj => (hk.cell (p := ⟨b, o + j, none⟩) hb (hs ⟨b, o, none⟩ e (by omega))).trans (hc j hj)⟩ }
theorem BackI.step {w wr : World} {g j b1 o1 b2 o2 ln lc sn sc vn vc : Nat} {va : Option Addr} {L S C B : List Int} (h : BackI w wr g j (some ⟨b1, o1, none⟩) ln lc (some ⟨b2, o2, none⟩) sn sc L S va vn vc C B) (hj : j < ln) (m1 : g ≠ b1) (m2 : g ≠ b2) (m3 : ∀ q : Addr, va = some q → 0 < vn → g ≠ q.block) {c : Int} (hc : (backsZ L S C).getD j 0 = c) :
    BackI w (wr.setCell ⟨g, j, none⟩ (.int .i32 c)).drew g (j + 1) (some ⟨b1, o1, none⟩) ln lc (some ⟨b2, o2, none⟩) sn sc L S va vn vc C (B.set j c) := by
  have hk : Keeps (fun i => i = g) wr (wr.setCell ⟨g, j, none⟩ (.int .i32 c)).drew := Keeps.drew (Keeps.setCell (p := ⟨g, j, none⟩) (Keeps.refl (fun i => i = g) wr) rfl _)
  have g0 := h.g0
  have hl : w.heap.size < wr.heap.size := World.block_lt_of_cell? wr _ h.q.c0
  refine ⟨⟨⟨h.q.b.low.keep hk (fun q e => by injection e with e; subst e; exact Ne.symm m1), h.q.b.step.keep hk (fun q e => by injection e with e; subst e; exact Ne.symm m2)⟩, (hk.cell (p := ⟨w.heap.size, 0, none⟩) hl (by show ¬ w.heap.size = g; omega)).trans h.q.c0, (hk.cell (p := ⟨w.heap.size, 1, none⟩) hl (by show ¬ w.heap.size = g; omega)).trans h.q.c1, h.q.u.trans (hk.below h.q.u.size (fun i e => by omega))⟩, h.v.keep0 hk (fun q e h0 => Ne.symm (m3 q e h0)), (h.row.set j c).keep (Keeps.drew (Keeps.refl (fun _ => False) _)) (fun _ _ e => e), by rw [List.length_set]; exact h.len, ?_, h.g0⟩
  intro i hi
  have h1 := h.at_ i hi
  have hl := h.len
  by_cases e : i = j
  · subst e
    rw [if_pos (by omega), hc]
    simp [List.getD, hl, hj]
  · have e2 : (B.set j c).getD i 0 = B.getD i 0 := by
      simp only [List.getD]
      rw [List.getElem?_set_ne (by omega)]
    rw [e2, h1]
    by_cases h2 : i < j
    · rw [if_pos h2, if_pos (by omega)]
    · rw [if_neg h2, if_neg (by omega)]
theorem BackI.done {w wr : World} {g j : Nat} {la : Option Addr} {ln lc : Nat} {sa : Option Addr} {sn sc : Nat} {L S : List Int} {va : Option Addr} {vn vc : Nat} {C B : List Int} (h : BackI w wr g j la ln lc sa sn sc L S va vn vc C B) (hj : ln ≤ j) : B = backsZ L S C := by
  have hL := h.q.b.low.len
  refine getD_ext (by rw [h.len, backsZ_length, hL]) (fun i hi => ?_)
  rw [h.len] at hi
  rw [h.at_ i hi, if_pos (by omega)]
end Go.Proofs.YteaacodloabdcaaGreatDoor

namespace Go.Proofs.YteaacodloabdcaaGreatDoor
open Go.RowKit Go.Maps

/-- Vectors that a slice reads. -/
structure VecsAt (w : World) (a : Option Addr) (m c : Nat) (VS : List (List Int)) : Prop where
  len : VS.length = m
  cap : m ≤ c
  at_ : ∀ i, i < m → ∃ (b o : Nat) (p : Option Addr) (n cc : Nat), a = some ⟨b, o, none⟩ ∧ b < w.heap.size ∧ w.cell? ⟨b, o + i, none⟩ = some (.slice p n cc) ∧ n ≤ 9223372036854775807 ∧ VecAt w p n cc (VS.getD i [])
theorem VecsAt.all {w w' : World} {a : Option Addr} {m c : Nat} {VS : List (List Int)} (h : VecsAt w a m c VS) (hb : Below w.heap.size w w') : VecsAt w' a m c VS :=
  ⟨h.len, h.cap, fun i hi => by
    obtain ⟨b, o, p, n, cc, e, h1, h2, h3, h4⟩ := h.at_ i hi
    exact ⟨b, o, p, n, cc, e, Nat.lt_of_lt_of_le h1 hb.size, (hb.cell (p := ⟨b, o + i, none⟩) h1).trans h2, h3, h4.all hb⟩⟩
theorem VecR.weaken {w : World} {lo lo' : Nat} {v : Value} {A : List Int} (h : VecR w lo v A) (hl : lo' ≤ lo) : VecR w lo' v A := by
  refine ⟨h.1, ?_⟩
  rcases h.2 with q | ⟨gg, cap, cur, hv, hb, rest⟩
  · exact .inl q
  · exact .inr ⟨gg, cap, cur, hv, by omega, rest⟩
theorem setCells_keeps (g : Nat) (cs : List Value) : ∀ (o : Nat) (w : World), Keeps (fun i => i = g) w (w.setCells g o cs) := by
  induction cs with
  | nil => intro o w; exact Keeps.refl _ w
  | cons v r ih =>
    intro o w
    have h1 : Keeps (fun i => i = g) w (w.setCell ⟨g, o, none⟩ v) := Keeps.setCell (p := ⟨g, o, none⟩) (Keeps.refl (fun i => i = g) w) rfl v
    exact h1.trans (ih (o + 1) _)
theorem setCells_vec {lo g n c : Nat} (cs : List Int) : ∀ (o : Nat) (w : World) (A : List Int), VecR w lo (.slice (some ⟨g, 0, none⟩) n c) A → o + cs.length ≤ A.length →
    ∃ B, VecR (w.setCells g o (cs.map (Value.int .i32))) lo (.slice (some ⟨g, 0, none⟩) n c) B ∧ B.length = A.length ∧ ∀ i, B.getD i 0 = if o ≤ i ∧ i < o + cs.length then cs.getD (i - o) 0 else A.getD i 0 := by
  induction cs with
  | nil => intro o w A h _; exact ⟨A, h, rfl, fun i => by rw [if_neg (by simp)]⟩
  | cons x r ih =>
    intro o w A h hl
    have hl' : o + 1 + r.length ≤ A.length := by simp at hl; omega
    obtain ⟨B, h1, h2, h3⟩ := ih (o + 1) (w.setCell ⟨g, o, none⟩ (.int .i32 x)) (A.set o x) (h.set o x) (by rw [List.length_set]; exact hl')
    refine ⟨B, h1, by rw [h2, List.length_set], fun i => ?_⟩
    rw [h3 i]
    simp only [List.length_cons]
    by_cases e : i = o
    · subst e
      rw [if_neg (by omega), if_pos (by omega)]
      simp [List.getD, show i < A.length by omega]
    · have e2 : (A.set o x).getD i 0 = A.getD i 0 := by
        simp only [List.getD]
        rw [List.getElem?_set_ne (by omega)]
      rw [e2]
      by_cases h4 : o + 1 ≤ i ∧ i < o + 1 + r.length
      · rw [if_pos h4, if_pos (by omega), show i - o = (i - (o + 1)) + 1 by omega]
        simp [List.getD]
      · rw [if_neg h4, if_neg (by omega)]
/-- Two rows that a call has made, place by place. -/
structure TwoQ (w wr : World) (gl gh d : Nat) (fl fh : Nat → Int) : Prop where
  l : ∃ B, VecR wr gl (.slice (some ⟨gl, 0, none⟩) d d) B ∧ B.length = d ∧ ∀ i, i < d → B.getD i 0 = fl i
  h : ∃ B, VecR wr gh (.slice (some ⟨gh, 0, none⟩) d d) B ∧ B.length = d ∧ ∀ i, i < d → B.getD i 0 = fh i
  ne : gl ≠ gh
  l0 : w.heap.size ≤ gl
  h0 : w.heap.size ≤ gh
  u : Below w.heap.size w wr
theorem VecR.far {S : Nat → Prop} {w w' : World} {g : Nat} {n c : Nat} {A : List Int} (h : VecR w g (.slice (some ⟨g, 0, none⟩) n c) A) (hk : Keeps S w w') (hs : ¬ S g) : VecR w' g (.slice (some ⟨g, 0, none⟩) n c) A := by
  refine ⟨h.1, ?_⟩
  rcases h.2 with q | ⟨gg, cap, cur, hv, hb, hH, rest⟩
  · exact .inl q
  · have e : gg = g := by
      injection hv with hv _ _
      injection hv with hv
      injection hv with hv
      exact hv.symm
    subst e
    exact .inr ⟨gg, cap, cur, hv, hb, (hk.block gg (Array.getElem?_eq_some_iff.1 hH).1 hs).trans hH, rest⟩
theorem VecR.gl {w : World} {g : Nat} {n c : Nat} {A : List Int} (h : VecR w g (.slice (some ⟨g, 0, none⟩) n c) A) : g < w.heap.size := by
  rcases h.2 with ⟨e, _⟩ | ⟨gg, cap, cur, hv, hb, hH, rest⟩
  · cases e
  · injection hv with hv _ _
    injection hv with hv
    injection hv with hv
    subst hv
    exact (Array.getElem?_eq_some_iff.1 hH).1
theorem TwoQ.setl {w wr : World} {gl gh d : Nat} {fl fh : Nat → Int} (h : TwoQ w wr gl gh d fl fh) (k : Nat) (hk : k < d) (x : Int) : TwoQ w (wr.setCell ⟨gl, k, none⟩ (.int .i32 x)) gl gh d (fun i => if i = k then x else fl i) fh := by
  have hK : Keeps (fun i => i = gl) wr (wr.setCell ⟨gl, k, none⟩ (.int .i32 x)) := Keeps.setCell (p := ⟨gl, k, none⟩) (Keeps.refl (fun i => i = gl) wr) rfl _
  obtain ⟨B, b1, b2, b3⟩ := h.l
  obtain ⟨C, c1, c2, c3⟩ := h.h
  refine ⟨⟨_, b1.set k x, by rw [List.length_set]; exact b2, fun i hi => ?_⟩, ⟨C, c1.far hK (Ne.symm h.ne), c2, c3⟩, h.ne, h.l0, h.h0, h.u.trans (hK.below h.u.size (fun i e => by have := h.l0; omega))⟩
  by_cases e : i = k
  · subst e
    rw [if_pos rfl]
    simp [List.getD, b2, hi]
  · rw [if_neg e, ← b3 i hi]
    simp only [List.getD]
    rw [List.getElem?_set_ne (by omega)]
theorem TwoQ.seth {w wr : World} {gl gh d : Nat} {fl fh : Nat → Int} (h : TwoQ w wr gl gh d fl fh) (k : Nat) (hk : k < d) (x : Int) : TwoQ w (wr.setCell ⟨gh, k, none⟩ (.int .i32 x)) gl gh d fl (fun i => if i = k then x else fh i) := by
  have hK : Keeps (fun i => i = gh) wr (wr.setCell ⟨gh, k, none⟩ (.int .i32 x)) := Keeps.setCell (p := ⟨gh, k, none⟩) (Keeps.refl (fun i => i = gh) wr) rfl _
  obtain ⟨B, b1, b2, b3⟩ := h.h
  obtain ⟨C, c1, c2, c3⟩ := h.l
  refine ⟨⟨C, c1.far hK h.ne, c2, c3⟩, ⟨_, b1.set k x, by rw [List.length_set]; exact b2, fun i hi => ?_⟩, h.ne, h.l0, h.h0, h.u.trans (hK.below h.u.size (fun i e => by have := h.h0; omega))⟩
  by_cases e : i = k
  · subst e
    rw [if_pos rfl]
    simp [List.getD, b2, hi]
  · rw [if_neg e, ← b3 i hi]
    simp only [List.getD]
    rw [List.getElem?_set_ne (by omega)]
theorem TwoQ.drew {w wr : World} {gl gh d : Nat} {fl fh : Nat → Int} (h : TwoQ w wr gl gh d fl fh) : TwoQ w wr.drew gl gh d fl fh := by
  obtain ⟨B, b1, b2, b3⟩ := h.l
  obtain ⟨C, c1, c2, c3⟩ := h.h
  have hb := h.u
  exact ⟨⟨B, b1.keep (Keeps.drew (Keeps.refl (fun _ => False) _)) (fun _ _ e => e), b2, b3⟩, ⟨C, c1.keep (Keeps.drew (Keeps.refl (fun _ => False) _)) (fun _ _ e => e), c2, c3⟩, h.ne, h.l0, h.h0, ⟨hb.os, hb.tape, hb.output, hb.size, hb.block⟩⟩
theorem TwoQ.copyl {w wr : World} {gl gh d : Nat} {fl fh : Nat → Int} (h : TwoQ w wr gl gh d fl fh) (V : List Int) (hV : V.length = d) : TwoQ w (wr.setCells gl 0 (V.map (Value.int .i32))) gl gh d (fun i => V.getD i 0) fh := by
  have hK := setCells_keeps gl (V.map (Value.int .i32)) 0 wr
  obtain ⟨B, b1, b2, b3⟩ := h.l
  obtain ⟨C, c1, c2, c3⟩ := h.h
  obtain ⟨B', d1, d2, d3⟩ := setCells_vec V 0 wr B b1 (by omega)
  exact ⟨⟨B', d1, by omega, fun i hi => by rw [d3, if_pos (by omega), Nat.sub_zero]⟩, ⟨C, c1.far hK (Ne.symm h.ne), c2, c3⟩, h.ne, h.l0, h.h0, h.u.trans (hK.below h.u.size (fun i e => by have := h.l0; omega))⟩
theorem TwoQ.copyh {w wr : World} {gl gh d : Nat} {fl fh : Nat → Int} (h : TwoQ w wr gl gh d fl fh) (V : List Int) (hV : V.length = d) : TwoQ w (wr.setCells gh 0 (V.map (Value.int .i32))) gl gh d fl (fun i => V.getD i 0) := by
  have hK := setCells_keeps gh (V.map (Value.int .i32)) 0 wr
  obtain ⟨B, b1, b2, b3⟩ := h.h
  obtain ⟨C, c1, c2, c3⟩ := h.l
  obtain ⟨B', d1, d2, d3⟩ := setCells_vec V 0 wr B b1 (by omega)
  exact ⟨⟨C, c1.far hK h.ne, c2, c3⟩, ⟨B', d1, by omega, fun i hi => by rw [d3, if_pos (by omega), Nat.sub_zero]⟩, h.ne, h.l0, h.h0, h.u.trans (hK.below h.u.size (fun i e => by have := h.h0; omega))⟩
theorem TwoQ.cells {w wr : World} {gl gh d : Nat} {fl fh : Nat → Int} (h : TwoQ w wr gl gh d fl fh) (k : Nat) (hk : k < d) : wr.cell? ⟨gl, k, none⟩ = some (.int .i32 (fl k)) ∧ wr.cell? ⟨gh, k, none⟩ = some (.int .i32 (fh k)) ∧ wr.frozen? ⟨gl, k, none⟩ = false ∧ wr.frozen? ⟨gh, k, none⟩ = false := by
  obtain ⟨B, b1, b2, b3⟩ := h.l
  obtain ⟨C, c1, c2, c3⟩ := h.h
  refine ⟨?_, ?_, b1.soft k, c1.soft k⟩
  · rw [b1.cell k (by omega), b3 k hk]
  · rw [c1.cell k (by omega), c3 k hk]
set_option maxRecDepth 100000 in
/-- copy, of a whole vector into a row of as many. -/
theorem run_copy_vec {wr : World} {gl d : Nat} {B : List Int} (hr : VecR wr gl (.slice (some ⟨gl, 0, none⟩) d d) B) (hB : B.length = d) {p : Option Addr} {cc : Nat} {V : List Int} (hv : VecAt wr p d cc V) (h0 : 0 < d) :
    (Builtin.copy_ #[22, 23] 3 #[.slice (some ⟨gl, 0, none⟩) d d, .slice p d cc]).run Tryz.prog wr = .ok (goInt d) (wr.setCells gl 0 (V.map (Value.int .i32))) := by
  obtain ⟨b, o, rfl, _⟩ := hv.cell 0 h0
  have hsz : (Tryz.prog.info? 21).map (·.size) = some 1 := by
    have := infoI32
    cases hq : Tryz.prog.info? 21 with
    | none => rw [hq] at this; cases this
    | some i => rw [hq] at this; simp at this; simp [this.2.1]
  have hl : (V.map (Value.int .i32)).length = d := by rw [List.length_map, hv.len]
  have := run_copy_cells (P := Tryz.prog) wr 22 23 3 21 gl 0 d d ⟨b, o, none⟩ d cc (V.map (Value.int .i32)) Tryz.underlying22 hsz (by rw [hl]; simp) (by
    intro j v hj
    rw [List.getElem?_map] at hj
    rcases hq : V[j]? with _ | x
    · rw [hq] at hj; cases hj
    · rw [hq] at hj
      obtain ⟨hjl, hx⟩ := List.getElem?_eq_some_iff.1 hq
      obtain ⟨b', o', e, _, hc, _⟩ := hv.cell j (by rw [← hv.len]; exact hjl)
      injection e with e
      injection e with e1 e2
      subst e1; subst e2
      rw [Addr.add_mid, hc]
      have e2 : V.getD j 0 = x := by simp [List.getD, hjl, hx]
      rw [e2]
      simpa using hj) (by
    intro j hj
    rw [hl] at hj
    rw [Nat.zero_add, hr.cell j (by omega)]; rfl) (by
    intro j _
    exact hr.soft _) (by
    intro u hu
    obtain ⟨x, _, rfl⟩ := List.mem_map.1 hu
    rfl)
  rw [hl] at this
  exact this
end Go.Proofs.YteaacodloabdcaaGreatDoor
