import Derived.Test.YteaacodloabdcaaGreatDoorBsA
import Derived.Test.YteaacodloabdcaaGreatDoorMnE
import Derived.BigRegion
import Derived.BigQuiet
import Derived.Test.YteaacodloabdcaaGreatDoorWlG
namespace Go.Proofs.YteaacodloabdcaaGreatDoor

/-- Places and their scores, in order, alike ones as they came. -/
def insW (f : Nat → Int) : Nat → List Hit
  | 0 => []
  | i + 1 => ins ((i : Int), f i) (insW f i)
theorem insW_length (f : Nat → Int) (n : Nat) : (insW f n).length = n := by
  induction n with
  | zero => rfl
  | succ n ih => rw [insW, ins_length, ih]
theorem insW_perm (f : Nat → Int) (n : Nat) : (insW f n).Perm ((List.range n).map (fun i : Nat => ((i : Int), f i))) := by
  induction n with
  | zero => exact List.Perm.refl _
  | succ n ih =>
    rw [insW, List.range_succ, List.map_append]
    exact (ins_perm _ _).trans ((List.Perm.cons _ ih).trans (List.perm_append_comm (l₁ := [((n : Int), f n)])))
theorem insW_mem (f : Nat → Int) (n : Nat) : ∀ x ∈ insW f n, ∃ i : Nat, i < n ∧ x = ((i : Int), f i) := by
  intro x hx
  obtain ⟨i, hi, rfl⟩ := List.mem_map.1 ((insW_perm f n).mem_iff.1 hx)
  exact ⟨i, List.mem_range.1 hi, rfl⟩
theorem insW_at (f : Nat → Int) (n k : Nat) (hk : k < n) : ∃ i : Nat, i < n ∧ hat (insW f n) k = ((i : Int), f i) := by
  have hl := insW_length f n
  rw [hat_lt (by omega)]
  exact insW_mem f n _ (List.getElem_mem _)
theorem insW_sort (f : Nat → Int) (n : Nat) : SortH (insW f n) := by
  induction n with
  | zero => exact List.Pairwise.nil
  | succ n ih =>
    refine ins_sort ih (fun x hx => ?_)
    obtain ⟨i, hi, rfl⟩ := insW_mem f n x hx
    show (i : Int) ≠ n
    omega
theorem SortH.lt {W : List Hit} (h : SortH W) (i j : Nat) (hij : i < j) (hj : j < W.length) : lessH (hat W i) (hat W j) = true := by
  rw [hat_lt (by omega), hat_lt hj]
  exact List.pairwise_iff_getElem.1 h i j (by omega) hj hij
theorem hat_ins {h : Hit} {W : List Hit} {t : Nat} (ht : t ≤ W.length) (h1 : ∀ i, i < t → lessH h (hat W i) = false) (h2 : t = W.length ∨ lessH h (hat W t) = true) (k : Nat) :
    hat (ins h W) k = if k < t then hat W k else if k = t then h else hat W (k - 1) := by
  rw [← ins_at ht h1 h2]
  unfold hat
  simp only [List.getD]
  have hl : (W.take t).length = t := by rw [List.length_take]; omega
  split
  · rename_i h
    rw [List.getElem?_append_left (by omega), List.getElem?_take, if_pos h]
  · rename_i hn
    split
    · rename_i e
      subst e
      rw [List.getElem?_append_right (by omega), hl, Nat.sub_self]
      rfl
    · rename_i hne
      rw [List.getElem?_append_right (by omega), hl]
      obtain ⟨m, hm⟩ : ∃ m, k - t = m + 1 := ⟨k - t - 1, by omega⟩
      rw [hm, List.getElem?_cons_succ, List.getElem?_drop]
      congr 1
      congr 1
      omega
/-- Where a place goes: behind all that are as near. -/
theorem insW_put (f : Nat → Int) (i t : Nat) (ht : t ≤ i) (h1 : t = 0 ∨ ¬ f i < (hat (insW f i) (t - 1)).2) (h2 : ∀ k, t ≤ k → k < i → f i < (hat (insW f i) k).2) (k : Nat) :
    hat (insW f (i + 1)) k = if k < t then hat (insW f i) k else if k = t then ((i : Int), f i) else hat (insW f i) (k - 1) := by
  have hl := insW_length f i
  rw [insW]
  refine hat_ins (by omega) (fun j hj => ?_) ?_ k
  · rw [lessH_no]
    have h3 : f i ≥ (hat (insW f i) (t - 1)).2 := by
      rcases h1 with h1 | h1
      · omega
      · omega
    obtain ⟨q, hq, e⟩ := insW_at f i j (by omega)
    have h4 : (hat (insW f i) j).2 ≤ (hat (insW f i) (t - 1)).2 := by
      rcases Nat.lt_or_ge j (t - 1) with h5 | h5
      · have := (lessH_iff _ _).1 ((insW_sort f i).lt j (t - 1) h5 (by omega))
        omega
      · have : j = t - 1 := by omega
        rw [this]; exact Int.le_refl _
    show (hat (insW f i) j).2 < f i ∨ (f i = (hat (insW f i) j).2 ∧ (hat (insW f i) j).1 ≤ (i : Int))
    rw [e] at h4 ⊢
    simp only at h4 ⊢
    omega
  · by_cases e : t = i
    · exact Or.inl (by omega)
    · refine Or.inr ((lessH_iff _ _).2 (Or.inl ?_))
      exact h2 t (Nat.le_refl _) (by omega)
end Go.Proofs.YteaacodloabdcaaGreatDoor

namespace Go.Proofs.YteaacodloabdcaaGreatDoor
open Go.RowKit Go.Maps

/-- What cmp.Compare tells of two numbers. -/
def cmpI (x y : Int) : Int := if x < y then -1 else if x > y then 1 else 0
theorem nan_at (x : Int) (w : World) : Calls Tryz.prog 77 #[.int .i64 x] w fun e w' => e = .returned (.bool false) ∧ w' = w := by
  go_enter Tryz.func77, Tryz.ntmps77
  go_wp2
  go_ret
  exact ⟨by simp, rfl⟩
theorem compare_at (x y : Int) (w : World) : Calls Tryz.prog 60 #[.int .i64 x, .int .i64 y] w fun e w' => e = .returned (.int .i64 (cmpI x y)) ∧ w' = w := by
  have h1 := fun W => nan_at x W
  have h2 := fun W => nan_at y W
  unfold cmpI
  rcases (show x < y ∨ (¬ x < y ∧ x > y) ∨ (¬ x < y ∧ ¬ x > y) by omega) with h | ⟨h, h'⟩ | ⟨h, h'⟩
  · rw [if_pos h]
    go_enter Tryz.func60, Tryz.ntmps60
    go_wp2_with fail
    refine (h1 _).mono ?_
    rintro e w' ⟨rfl, rfl⟩
    go_wp2_with fail
    refine (h2 _).mono ?_
    rintro e w' ⟨rfl, rfl⟩
    go_wp2_with fail
    go_ret
    exact ⟨rfl, rfl⟩
  · rw [if_neg h, if_pos h']
    go_enter Tryz.func60, Tryz.ntmps60
    go_wp2_with fail
    refine (h1 _).mono ?_
    rintro e w' ⟨rfl, rfl⟩
    go_wp2_with fail
    refine (h2 _).mono ?_
    rintro e w' ⟨rfl, rfl⟩
    go_wp2_with fail
    go_ret
    exact ⟨rfl, rfl⟩
  · rw [if_neg h, if_neg h']
    go_enter Tryz.func60, Tryz.ntmps60
    go_wp2_with fail
    refine (h1 _).mono ?_
    rintro e w' ⟨rfl, rfl⟩
    go_wp2_with fail
    refine (h2 _).mono ?_
    rintro e w' ⟨rfl, rfl⟩
    go_wp2_with fail
    go_ret
    exact ⟨rfl, rfl⟩
/-- Scores behind a box. -/
structure ScoAt (w : World) (gb gs n : Nat) (f : Nat → Int) : Prop where
  b : w.cell? ⟨gb, 0, none⟩ = some (.slice (some ⟨gs, 0, none⟩) n n)
  s : ∀ i, i < n → w.cell? ⟨gs, i, none⟩ = some (.int .i64 (f i))
set_option maxRecDepth 100000 in
set_option maxHeartbeats 1000000 in
theorem ocmp_at {w : World} {gb gs n : Nat} {f : Nat → Int} (h : ScoAt w gb gs n f) (a b : Nat) (ha : a < n) (hb : b < n) :
    Calls Tryz.prog 59 #[.int .i64 a, .int .i64 b, .pointer (some ⟨gb, 0, none⟩)] w fun e w' => e = .returned (.int .i64 (cmpI (f a) (f b))) ∧ ∃ q, w' = w.drewN q := by
  have d0 := h.b
  have d1 := h.s a ha
  have d2 := h.s b hb
  have hC := fun W => compare_at (f a) (f b) W
  have ha' : (a : Int) < (n : Int) := by omega
  have hb' : (b : Int) < (n : Int) := by omega
  clear h
  generalize cmpI (f a) (f b) = c at *
  generalize f a = x at *
  generalize f b = y at *
  go_enter Tryz.func59, Tryz.ntmps59
  go_wp2_with fail
  go_quiet ((go_at_call 60; exact Calls.quiet_of_same (hC _)))
  go_wp2_with fail
  go_ret
  exact ⟨rfl, nq, rfl⟩
end Go.Proofs.YteaacodloabdcaaGreatDoor

namespace Go.Proofs.YteaacodloabdcaaGreatDoor
open Go.RowKit Go.Maps

/-- Places in the course of a sort. -/
structure OrdI (w wr : World) (gp gb gs n : Nat) (f : Nat → Int) (p : Nat → Int) : Prop where
  c : ∀ k, k < n → wr.cell? ⟨gp, k, none⟩ = some (.int .i64 (p k))
  fz : ∀ o, wr.frozen? ⟨gp, o, none⟩ = false
  s : ScoAt wr gb gs n f
  k : Keeps (fun i => i = gp) w wr
  nb : gp ≠ gb
  ns : gp ≠ gs
theorem OrdI.congr {w wr : World} {gp gb gs n : Nat} {f p p' : Nat → Int} (h : OrdI w wr gp gb gs n f p) (e : ∀ k, k < n → p k = p' k) : OrdI w wr gp gb gs n f p' := { h with
  c := fun k hk => by rw [← e k hk]; exact h.c k hk }
theorem OrdI.drewN {w wr : World} {gp gb gs n : Nat} {f p : Nat → Int} (h : OrdI w wr gp gb gs n f p) (q : Nat) : OrdI w (wr.drewN q) gp gb gs n f p :=
  ⟨h.c, h.fz, ⟨h.s.b, h.s.s⟩, ⟨h.k.os, h.k.tape, h.k.output, h.k.size, h.k.block⟩, h.nb, h.ns⟩
theorem OrdI.set {w wr : World} {gp gb gs n : Nat} {f p : Nat → Int} (h : OrdI w wr gp gb gs n f p) (k : Nat) (hk : k < n) (x : Int) : OrdI w (wr.setCell ⟨gp, k, none⟩ (.int .i64 x)) gp gb gs n f (fun i => if i = k then x else p i) where
  c := fun i hi => by
    by_cases e : i = k
    · subst e
      rw [World.cell?_setCell_same _ _ _ (h.c i hi), if_pos rfl]
    · rw [World.cell?_setCell_other _ _ _ _ (by intro q; injection q with _ q; exact e q.symm), if_neg e]
      exact h.c i hi
  fz := fun o => by rw [World.frozen?_setCell]; exact h.fz o
  s := ⟨by rw [World.cell?_setCell_other _ _ _ _ (by intro q; injection q with q; exact h.nb q)]; exact h.s.b, fun i hi => by rw [World.cell?_setCell_other _ _ _ _ (by intro q; injection q with q; exact h.ns q)]; exact h.s.s i hi⟩
  k := setCell_keepsB h.k rfl _
  nb := h.nb
  ns := h.ns
def outS (f : Nat → Int) (i k : Nat) : Int := if k < i then (hat (insW f i) k).1 else k
def inS (f : Nat → Int) (i j k : Nat) : Int := if k < j then (hat (insW f i) k).1 else if k = j then i else if k ≤ i then (hat (insW f i) (k - 1)).1 else k
theorem inS_start (f : Nat → Int) (i k : Nat) : inS f i i k = outS f i k := by
  unfold inS outS
  by_cases h : k < i
  · rw [if_pos h, if_pos h]
  · rw [if_neg h, if_neg h]
    by_cases e : k = i
    · rw [if_pos e, e]
    · rw [if_neg e, if_neg (by omega)]
theorem inS_step (f : Nat → Int) (i j k : Nat) (hj : j + 1 ≤ i) : (if k = j then (i : Int) else if k = j + 1 then (hat (insW f i) j).1 else inS f i (j + 1) k) = inS f i j k := by
  unfold inS
  by_cases h1 : k = j
  · rw [if_pos h1, if_neg (by omega), if_pos h1]
  · rw [if_neg h1]
    by_cases h2 : k = j + 1
    · rw [if_pos h2, if_neg (by omega), if_neg h1, if_pos (by omega), h2, Nat.add_sub_cancel]
    · rw [if_neg h2]
      by_cases h3 : k < j
      · rw [if_pos (by omega), if_pos h3]
      · rw [if_neg (by omega), if_neg h2, if_neg h3, if_neg h1]
theorem inS_done (f : Nat → Int) (i t : Nat) (ht : t ≤ i) (h1 : t = 0 ∨ ¬ f i < (hat (insW f i) (t - 1)).2) (h2 : ∀ k, t ≤ k → k < i → f i < (hat (insW f i) k).2) (k : Nat) : inS f i t k = outS f (i + 1) k := by
  have h := insW_put f i t ht h1 h2 k
  unfold inS outS
  by_cases hk : k < i + 1
  · rw [if_pos hk, h]
    by_cases h3 : k < t
    · rw [if_pos h3, if_pos h3]
    · rw [if_neg h3, if_neg h3]
      by_cases h4 : k = t
      · rw [if_pos h4, if_pos h4]
      · rw [if_neg h4, if_neg h4, if_pos (by omega)]
  · rw [if_neg hk, if_neg (by omega), if_neg (by omega), if_neg (by omega)]
theorem outS_one (f : Nat → Int) (k : Nat) : outS f 0 k = outS f 1 k := by
  unfold outS
  rw [if_neg (by omega)]
  by_cases h : k < 1
  · rw [if_pos h]
    have : k = 0 := by omega
    subst this
    rfl
  · rw [if_neg h]
theorem cmpI_neg (x y : Int) : (cmpI x y < 0) = (x < y) := by
  unfold cmpI
  by_cases h : x < y
  · rw [if_pos h]; simp [h]
  · rw [if_neg h]
    split <;> simp [h]
set_option maxRecDepth 100000 in
set_option maxHeartbeats 4000000 in
theorem isort_at {w : World} {gp gb gs n c : Nat} {f : Nat → Int} (h : OrdI w w gp gb gs n f (outS f 0)) (hn : n ≤ 20) :
    Calls Tryz.prog 114 #[.slice (some ⟨gp, 0, none⟩) n c, .int .i64 0, .int .i64 n, .func (.func 59) #[] #[.pointer (some ⟨gb, 0, none⟩)]] w fun e w' => e = .returned (.tuple #[]) ∧ OrdI w w' gp gb gs n f (outS f n) := by
  have H0 : Hid (OrdI w w gp gb gs n f (outS f 1)) := h.congr (fun k _ => outS_one f k)
  clear h
  go_enter Tryz.func114, Tryz.ntmps114
  go_wp2_with fail
  go_loopw [8] (fun s8 wx => ∃ i : Nat, 1 ≤ i ∧ (i ≤ n ∨ i = 1) ∧ s8 = .int .i64 i ∧ Hid (OrdI w wx gp gb gs n f (outS f i))) (fun s8 _ => n - (RowKit.intOf s8).toNat)
  case atStart => exact ⟨1, Nat.le_refl _, Or.inr rfl, rfl, H0⟩
  case round =>
    obtain ⟨i, hi, hi2, rfl, HI⟩ := hrel
    by_cases hlt : i < n
    · have hlt' : (i : Int) < (n : Int) := by omega
      go_wp2_with fail
      go_loopw [9] (fun s9 wx => ∃ j : Nat, j ≤ i ∧ s9 = .int .i64 j ∧ Hid (OrdI w wx gp gb gs n f (inS f i j) ∧ ∀ k, j ≤ k → k < i → f i < (hat (insW f i) k).2)) (fun s9 _ => (RowKit.intOf s9).toNat)
      case atStart => exact ⟨i, Nat.le_refl _, rfl, HI.out.congr (fun k _ => (inS_start f i k).symm), fun k h1 h2 => by omega⟩
      case round =>
        clear HI
        obtain ⟨j, hj, rfl, HI⟩ := hrel
        by_cases h0 : j = 0
        · subst h0
          have hb0 : decide ((0 : Int) < 0) = false := by decide
          have HN : Hid (∀ q, OrdI w (wr.drewN q) gp gb gs n f (outS f (i + 1))) := fun q => (HI.out.1.drewN q).congr (fun k _ => inS_done f i 0 (by omega) (Or.inl rfl) HI.out.2 k)
          clear HI
          go_wp2_with fail
          go_quiet (fail)
          go_wp2_with fail
          exact ⟨⟨i + 1, by omega, by omega, rfl, HN.out nq⟩, by simp [RowKit.intOf]; omega⟩
        · obtain ⟨t, rfl⟩ : ∃ t, j = t + 1 := ⟨j - 1, by omega⟩
          obtain ⟨q, hq, hqe⟩ := insW_at f i t (by omega)
          have d1 := HI.out.1.c (t + 1) (by omega)
          have d2 := HI.out.1.c t (by omega)
          have e1 : inS f i (t + 1) (t + 1) = i := by unfold inS; rw [if_neg (by omega), if_pos rfl]
          have e2 : inS f i (t + 1) t = q := by unfold inS; rw [if_pos (by omega), hqe]
          rw [e1] at d1
          rw [e2] at d2
          have f1 := HI.out.1.fz (t + 1)
          have f2 := HI.out.1.fz t
          have hC : ∀ N, Calls Tryz.prog 59 #[.int .i64 i, .int .i64 q, .pointer (some ⟨gb, 0, none⟩)] (wr.drewN N) fun e w' => e = .returned (.int .i64 (cmpI (f i) (f q))) ∧ ∃ m, w' = (wr.drewN N).drewN m := fun N => ocmp_at (HI.out.1.drewN N).s i q (by omega) (by omega)
          have HCn : Hid ((cmpI (f i) (f q) < 0) = (f i < f q)) := cmpI_neg _ _
          have HX : Hid (∀ N, OrdI w (((wr.drewN N).setCell ⟨gp, t + 1, none⟩ (.int .i64 q)).setCell ⟨gp, t, none⟩ (.int .i64 i)) gp gb gs n f (inS f i t)) := fun N =>
            (((HI.out.1.drewN N).set (t + 1) (by omega) q).set t (by omega) i).congr (fun k _ => by
              have := inS_step f i t k (by omega)
              rw [hqe] at this
              exact this)
          have HD : Hid (∀ N, OrdI w (wr.drewN N) gp gb gs n f (inS f i (t + 1))) := fun N => HI.out.1.drewN N
          have HG : Hid (∀ k, t + 1 ≤ k → k < i → f i < (hat (insW f i) k).2) := HI.out.2
          have HQ : Hid (hat (insW f i) t = ((q : Int), f q)) := hqe
          have hwi : IntKind.i64.wrap ((t : Int) + 1 - 1) = (t : Int) := by rw [wrap_i64_id _ (by omega) (by omega)]; omega
          have hti : (t : Int) + 1 < (n : Int) := by omega
          have htn : (t : Int) < (n : Int) := by omega
          clear HI hqe e1 e2
          by_cases hl : f i < f q
          · have hcl : cmpI (f i) (f q) < 0 := by rw [HCn.out]; exact hl
            have HGn : Hid (∀ k, t ≤ k → k < i → f i < (hat (insW f i) k).2) := fun k h1 h2 => by
              by_cases e : k = t
              · rw [e, HQ.out]; exact hl
              · exact HG.out k (by omega) h2
            clear hl HCn HG HQ HD
            generalize cmpI (f i) (f q) = c0 at *
            go_wp2_with fail
            go_quiet ((go_at_call 59; exact Calls.quiet_of (hC _)))
            have g1 : (wr.drewN nq).cell? ⟨gp, t + 1, none⟩ = some (.int .i64 i) := d1
            have g2 : (wr.drewN nq).cell? ⟨gp, t, none⟩ = some (.int .i64 q) := d2
            have g3 : (wr.drewN nq).frozen? ⟨gp, t + 1, none⟩ = false := f1
            have g4 : (wr.drewN nq).frozen? ⟨gp, t, none⟩ = false := f2
            have HX2 := HX.out nq
            have HX3 : Hid _ := HX2
            clear HX HX2 hC d1 d2 f1 f2
            generalize wr.drewN nq = w2 at *
            go_wp2_with fail
            go_region
            all_goals
              go_wp2_with fail
              exact ⟨⟨t, by omega, rfl, HX3.out.drewN 1, HGn.out⟩, by simp [RowKit.intOf]⟩
          · have hcl : ¬ cmpI (f i) (f q) < 0 := by rw [HCn.out]; exact hl
            have HN : Hid (∀ N, OrdI w (wr.drewN N) gp gb gs n f (outS f (i + 1))) := fun N => (HD.out N).congr (fun k _ => inS_done f i (t + 1) (by omega) (Or.inr (by rw [Nat.add_sub_cancel, HQ.out]; exact hl)) HG.out k)
            clear hl HCn HG HQ HD HX
            generalize cmpI (f i) (f q) = c0 at *
            go_wp2_with fail
            go_quiet ((go_at_call 59; exact Calls.quiet_of (hC _)))
            go_wp2_with fail
            exact ⟨⟨i + 1, by omega, by omega, rfl, HN.out nq⟩, by simp [RowKit.intOf]; omega⟩
    · have hlt' : ¬ (i : Int) < (n : Int) := by omega
      have HF : Hid (OrdI w wr gp gb gs n f (outS f n)) := by
        rcases hi2 with h | h
        · have : i = n := by omega
          have e : outS f i = outS f n := by rw [this]
          show OrdI _ _ _ _ _ _ _ _
          rw [← e]; exact HI.out
        · subst h
          by_cases e : n = 0
          · subst e
            exact HI.out.congr (fun k hk => absurd hk (Nat.not_lt_zero _))
          · have : n = 1 := by omega
            have e2 : outS f 1 = outS f n := by rw [this]
            show OrdI _ _ _ _ _ _ _ _
            rw [← e2]; exact HI.out
      clear HI
      go_wp2_with fail
      go_end0
      exact ⟨rfl, HF.out⟩
end Go.Proofs.YteaacodloabdcaaGreatDoor

namespace Go.Proofs.YteaacodloabdcaaGreatDoor
open Go.RowKit Go.Maps

set_option maxRecDepth 100000 in
set_option maxHeartbeats 4000000 in
theorem stable_at {w : World} {gp gb gs n c : Nat} {f : Nat → Int} (h : OrdI w w gp gb gs n f (outS f 0)) (hn : n < 20) :
    Calls Tryz.prog 76 #[.slice (some ⟨gp, 0, none⟩) n c, .int .i64 n, .func (.func 59) #[] #[.pointer (some ⟨gb, 0, none⟩)]] w fun e w' => e = .returned (.tuple #[]) ∧ OrdI w w' gp gb gs n f (outS f n) := by
  have HC : Hid (Calls Tryz.prog 114 #[.slice (some ⟨gp, 0, none⟩) n c, .int .i64 0, .int .i64 n, .func (.func 59) #[] #[.pointer (some ⟨gb, 0, none⟩)]] w fun e w' => e = .returned (.tuple #[]) ∧ OrdI w w' gp gb gs n f (outS f n)) := isort_at h (by omega)
  clear h
  have h1 : ¬ (20 : Int) ≤ (n : Int) := by omega
  have h2 : ¬ (20 : Int) < (n : Int) := by omega
  go_enter Tryz.func76, Tryz.ntmps76
  go_wp2_with fail
  go_loopw [7, 8] (fun s7 s8 wx => s7 = .int .i64 0 ∧ s8 = .int .i64 20 ∧ wx = w) (fun _ _ _ => 0)
  case atStart => exact ⟨rfl, rfl, rfl⟩
  case round =>
    obtain ⟨rfl, rfl, rfl⟩ := hrel
    go_wp2_with fail
    refine HC.out.mono ?_
    rintro e w2 ⟨rfl, hO⟩
    have HO : Hid (OrdI wr w2 gp gb gs n f (outS f n)) := hO
    clear hO HC
    go_wp2_with fail
    go_loopw [6] (fun s6 wx => s6 = .int .i64 20 ∧ wx = w2) (fun _ _ => 0)
    case atStart => exact ⟨rfl, rfl⟩
    case round =>
      obtain ⟨rfl, rfl⟩ := hrel
      go_wp2_with fail
      go_end0
      exact ⟨rfl, HO.out⟩
set_option maxRecDepth 100000 in
set_option maxHeartbeats 4000000 in
theorem sortStable_at {w : World} {gp gb gs n c : Nat} {f : Nat → Int} (h : OrdI w w gp gb gs n f (outS f 0)) (hn : n < 20) :
    Calls Tryz.prog 58 #[.slice (some ⟨gp, 0, none⟩) n c, .func (.func 59) #[] #[.pointer (some ⟨gb, 0, none⟩)]] w fun e w' => e = .returned (.tuple #[]) ∧ OrdI w w' gp gb gs n f (outS f n) := by
  have HC : Hid (Calls Tryz.prog 76 #[.slice (some ⟨gp, 0, none⟩) n c, .int .i64 n, .func (.func 59) #[] #[.pointer (some ⟨gb, 0, none⟩)]] w fun e w' => e = .returned (.tuple #[]) ∧ OrdI w w' gp gb gs n f (outS f n)) := stable_at h hn
  clear h
  go_enter Tryz.func58, Tryz.ntmps58
  go_wp2_with fail
  refine HC.out.mono ?_
  rintro e w2 ⟨rfl, hO⟩
  have HO : Hid (OrdI w w2 gp gb gs n f (outS f n)) := hO
  clear hO HC
  go_wp2_with fail
  go_end0
  exact ⟨rfl, HO.out⟩
end Go.Proofs.YteaacodloabdcaaGreatDoor
