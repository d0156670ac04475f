import Derived.Test.YteaacodloabdcaaGreatDoorMpA
import Derived.Test.YteaacodloabdcaaGreatDoorBgE
import Derived.Test.YteaacodloabdcaaGreatDoorQuW
namespace Go.Proofs.YteaacodloabdcaaGreatDoor
open Go.RowKit Go.Maps

/-- MetricAll's cells in the course of its last statement. -/
def MetS (w : World) (p : Nat) (x1 x2 y1 y2 : Int) (g1 g2 k1 k2 : Nat) (A B : List Int) (W : World) : Prop :=
  W.cell? ⟨p, 0, none⟩ = some (.int .i64 x1) ∧ W.cell? ⟨p, 1, none⟩ = some (.int .i64 x2) ∧ W.cell? ⟨p + 1, 0, none⟩ = some (.int .i64 y1) ∧ W.cell? ⟨p + 1, 1, none⟩ = some (.int .i64 y2) ∧ Hid (MetQ w W p (p + 1) x1 x2 y1 y2 g1 g2 k1 k2 A B)
theorem MetQ.s {w W : World} {p : Nat} {x1 x2 y1 y2 : Int} {g1 g2 k1 k2 : Nat} {A B : List Int} (h : MetQ w W p (p + 1) x1 x2 y1 y2 g1 g2 k1 k2 A B) : MetS w p x1 x2 y1 y2 g1 g2 k1 k2 A B W := ⟨h.x.1, h.x.2, h.y.1, h.y.2, h⟩
/-- What calls of Score and of Less answer in a class of worlds. -/
structure Call51 (S : World → Prop) (m : Int) (g k g' k' : Nat) (x : Int) : Prop where
  h : ∀ W, S W → Calls Tryz.prog 9 #[.int .i64 m, .slice (some ⟨g, 0, none⟩) k k, .slice (some ⟨g', 0, none⟩) k' k'] W fun e w' => e = .returned (.int .i64 x) ∧ S w'
structure Call54 (S : World → Prop) (x1 x2 y1 y2 : Int) (l : Bool) : Prop where
  h : ∀ W, S W → Calls Tryz.prog 12 #[.agg #[.int .i64 x1, .int .i64 x2], .agg #[.int .i64 y1, .int .i64 y2]] W fun e w' => e = .returned (.bool l) ∧ S w'
theorem Call51.use {S : World → Prop} {m : Int} {g k g' k' : Nat} {x : Int} (h : Call51 S m g k g' k' x) {W : World} (hW : S W) : Calls Tryz.prog 9 #[.int .i64 m, .slice (some ⟨g, 0, none⟩) k k, .slice (some ⟨g', 0, none⟩) k' k'] W fun e w' => e = .returned (.int .i64 x) ∧ S w' := h.h W hW
theorem Call54.use {S : World → Prop} {x1 x2 y1 y2 : Int} {l : Bool} (h : Call54 S x1 x2 y1 y2 l) {W : World} (hW : S W) : Calls Tryz.prog 12 #[.agg #[.int .i64 x1, .int .i64 x2], .agg #[.int .i64 y1, .int .i64 y2]] W fun e w' => e = .returned (.bool l) ∧ S w' := h.h W hW
set_option maxRecDepth 100000 in
set_option maxHeartbeats 8000000 in
theorem metricAll_true {w : World} {a1 a2 : Option Addr} {n1 c1 n2 c2 : Nat} {A B : List Int} (m x1 x2 y1 y2 : Int) (hA : VecAt w a1 n1 c1 A) (hB : VecAt w a2 n2 c2 B) (hn1 : n1 ≤ 9223372036854775807) (hn2 : n2 ≤ 9223372036854775807) (hg : w.cell? ⟨0, 0, none⟩ = some errType) :
    Calls Tryz.prog 3 #[.int .i64 m, .slice a1 n1 c1, .slice a2 n2 c2, .agg #[.int .i64 x1, .int .i64 x2], .agg #[.int .i64 y1, .int .i64 y2]] w fun e w' => e = .returned (.bool true) ∧ Below w.heap.size w w' := by
  have hA2 := ((Below.refl _ w).alloc (Nat.le_refl _) (.cells #[.int .i64 x1, .int .i64 x2] 25)).alloc (by simp) (.cells #[.int .i64 y1, .int .i64 y2] 25)
  have q1 : ((w.alloc (.cells #[.int .i64 x1, .int .i64 x2] 25)).alloc (.cells #[.int .i64 y1, .int .i64 y2] 25)).cell? ⟨w.heap.size, 0, none⟩ = some (.int .i64 x1) ∧ ((w.alloc (.cells #[.int .i64 x1, .int .i64 x2] 25)).alloc (.cells #[.int .i64 y1, .int .i64 y2] 25)).cell? ⟨w.heap.size, 1, none⟩ = some (.int .i64 x2) := by
    constructor <;> (rw [World.cell?_alloc_lt _ _ _ (by simp)]; simp)
  have q2 : ((w.alloc (.cells #[.int .i64 x1, .int .i64 x2] 25)).alloc (.cells #[.int .i64 y1, .int .i64 y2] 25)).cell? ⟨w.heap.size + 1, 0, none⟩ = some (.int .i64 y1) ∧ ((w.alloc (.cells #[.int .i64 x1, .int .i64 x2] 25)).alloc (.cells #[.int .i64 y1, .int .i64 y2] 25)).cell? ⟨w.heap.size + 1, 1, none⟩ = some (.int .i64 y2) := by
    constructor <;> simp
  have hg2 := (hA2.cell (p := ⟨0, 0, none⟩) (World.block_lt_of_cell? w _ hg)).trans hg
  have HA : Hid (VecAt ((w.alloc (.cells #[.int .i64 x1, .int .i64 x2] 25)).alloc (.cells #[.int .i64 y1, .int .i64 y2] 25)) a1 n1 c1 A) := hA.all hA2
  have HB : Hid (VecAt ((w.alloc (.cells #[.int .i64 x1, .int .i64 x2] 25)).alloc (.cells #[.int .i64 y1, .int .i64 y2] 25)) a2 n2 c2 B) := hB.all hA2
  have HU : Hid (Below w.heap.size w ((w.alloc (.cells #[.int .i64 x1, .int .i64 x2] 25)).alloc (.cells #[.int .i64 y1, .int .i64 y2] 25))) := hA2
  clear hA hB hA2
  obtain ⟨k1, hk1, hk1'⟩ : ∃ k : Nat, min (n1 : Int) 8 = k ∧ k ≤ 8 := ⟨min n1 8, by omega, by omega⟩
  obtain ⟨k2, hk2, hk2'⟩ : ∃ k : Nat, min (n2 : Int) 8 = k ∧ k ≤ 8 := ⟨min n2 8, by omega, by omega⟩
  go_enter Tryz.func3, Tryz.ntmps3
  go_wp2_with fail
  generalize (w.alloc (.cells #[.int .i64 x1, .int .i64 x2] 25)).alloc (.cells #[.int .i64 y1, .int .i64 y2] 25) = w0 at *
  refine (begun7_true _ hg2).mono ?_
  rintro e w1 ⟨rfl, hb1⟩
  have Q1 : Hid (w1.cell? ⟨w.heap.size, 0, none⟩ = some (.int .i64 x1) ∧ w1.cell? ⟨w.heap.size, 1, none⟩ = some (.int .i64 x2)) := two_below hb1 q1
  have Q2 : Hid (w1.cell? ⟨w.heap.size + 1, 0, none⟩ = some (.int .i64 y1) ∧ w1.cell? ⟨w.heap.size + 1, 1, none⟩ = some (.int .i64 y2)) := two_below hb1 q2
  have HA1 : Hid (VecAt w1 a1 n1 c1 A) := HA.out.all hb1
  have HB1 : Hid (VecAt w1 a2 n2 c2 B) := HB.out.all hb1
  have HU1 : Hid (Below w.heap.size w w1) := HU.out.trans (hb1.mono HU.out.size)
  clear q1 q2 HA HB HU hb1 hg hg2
  go_wp2_with fail
  refine (vec_at HA1.out k1 (by omega)).mono ?_
  rintro e w2 ⟨g1, rfl, hg1, hR1, hb2⟩
  have HR1 : Hid (VecR w2 g1 (.slice (some ⟨g1, 0, none⟩) k1 k1) (clampA A k1)) := hR1
  have HB2 : Hid (VecAt w2 a2 n2 c2 B) := HB1.out.all hb2
  have Q12 : Hid (w2.cell? ⟨w.heap.size, 0, none⟩ = some (.int .i64 x1) ∧ w2.cell? ⟨w.heap.size, 1, none⟩ = some (.int .i64 x2)) := two_below hb2 Q1.out
  have Q22 : Hid (w2.cell? ⟨w.heap.size + 1, 0, none⟩ = some (.int .i64 y1) ∧ w2.cell? ⟨w.heap.size + 1, 1, none⟩ = some (.int .i64 y2)) := two_below hb2 Q2.out
  have HU2 : Hid (Below w.heap.size w w2) := HU1.out.trans (hb2.mono HU1.out.size)
  clear hR1 hb2 HU1 Q1 Q2 HA1 HB1 hg1
  go_wp2_with fail
  refine (vec_at HB2.out k2 (by omega)).mono ?_
  rintro e w3 ⟨g2, rfl, hg2, hR2, hb3⟩
  have HQ3 : Hid (MetQ w w3 w.heap.size (w.heap.size + 1) x1 x2 y1 y2 g1 g2 k1 k2 (clampA A k1) (clampA B k2)) :=
    ⟨two_below hb3 Q12.out, two_below hb3 Q22.out, (HR1.out.below hb3).one (clampA_fit A k1), hR2.one (clampA_fit B k2), HU2.out.trans (hb3.mono HU2.out.size)⟩
  clear hR2 hb3 HU2 Q12 Q22 HB2 HR1 hg2
  obtain ⟨s, hs⟩ : ∃ s, scoreW m (clampA A k1) (clampA B k2) = s := ⟨_, rfl⟩
  have HS : Hid (scoreW m (clampA A k1) (clampA B k2) = s) := hs
  have hsp : m = 1 → 0 ≤ s := fun e => by
    subst e
    rw [← hs]
    exact score1_pos _ _ (clampA_fit A k1) (clampA_fit B k2) (by rw [clampA_length]; exact hk1')
  clear hs
  go_wp2_with fail
  refine (HQ3.out.ab hk1' m HS.out).mono ?_
  rintro e w4 ⟨rfl, HQ4⟩
  clear HQ3
  generalize w.heap.size = p at *
  obtain ⟨l1, hl1⟩ : ∃ l, lessH (x1, x2) (y1, y2) = l := ⟨_, rfl⟩
  obtain ⟨l2, hl2⟩ : ∃ l, lessH (y1, y2) (x1, x2) = l := ⟨_, rfl⟩
  have HL1 : Hid (lessH (x1, x2) (y1, y2) = l1) := hl1
  have HL2 : Hid (lessH (y1, y2) (x1, x2) = l2) := hl2
  obtain ⟨VA, hVA⟩ : ∃ V, V = clampA A k1 := ⟨_, rfl⟩
  obtain ⟨VB, hVB⟩ : ∃ V, V = clampA B k2 := ⟨_, rfl⟩
  rw [← hVA, ← hVB] at HQ4 HS
  clear hVA hVB
  obtain ⟨S, hS⟩ : ∃ S : World → Prop, S = fun W => MetQ w W p (p + 1) x1 x2 y1 y2 g1 g2 k1 k2 VA VB := ⟨_, rfl⟩
  have HSm : Hid (∀ W, MetQ w W p (p + 1) x1 x2 y1 y2 g1 g2 k1 k2 VA VB → S W) := fun W h => by rw [hS]; exact h
  have HSr : Hid (∀ W, S W → MetQ w W p (p + 1) x1 x2 y1 y2 g1 g2 k1 k2 VA VB) := fun W h => by rw [hS] at h; exact h
  have S1 : S w4.drew := HSm.out _ (HQ4.out.below (show Below w4.heap.size w4 w4.drew from ⟨rfl, rfl, rfl, Nat.le_refl _, fun _ _ => rfl⟩))
  have C52 : Hid (∀ W, S W → Calls Tryz.prog 10 #[.int .i64 m, .slice (some ⟨g1, 0, none⟩) k1 k1, .slice (some ⟨g2, 0, none⟩) k2 k2] W fun e w' => e = .returned (.int .i64 s) ∧ S w') := fun W h => ((HSr.out W h).rab hk1' m HS.out).mono fun _ _ ⟨e, h⟩ => ⟨e, HSm.out _ h.out⟩
  have T51 : Call51 S m g2 k2 g1 k1 s := ⟨fun W h => ((HSr.out W h).ba hk2' m HS.out).mono fun _ _ ⟨e, h⟩ => ⟨e, HSm.out _ h.out⟩⟩
  have T54 : Call54 S x1 x2 y1 y2 l1 := ⟨fun W h => ((HSr.out W h).xy HL1.out).mono fun _ _ ⟨e, h⟩ => ⟨e, HSm.out _ h.out⟩⟩
  have C55 : Hid (∀ W, S W → Calls Tryz.prog 13 #[.agg #[.int .i64 x1, .int .i64 x2], .agg #[.int .i64 y1, .int .i64 y2]] W fun e w' => e = .returned (.bool l1) ∧ S w') := fun W h => ((HSr.out W h).rxy HL1.out).mono fun _ _ ⟨e, h⟩ => ⟨e, HSm.out _ h.out⟩
  have T54' : Call54 S y1 y2 x1 x2 l2 := ⟨fun W h => ((HSr.out W h).yx HL2.out).mono fun _ _ ⟨e, h⟩ => ⟨e, HSm.out _ h.out⟩⟩
  have T51' : Call51 S 1 g1 k1 g1 k1 0 := ⟨fun W h => ((HSr.out W h).aa hk1').mono fun _ _ ⟨e, h⟩ => ⟨e, HSm.out _ h.out⟩⟩
  have f1 : ∀ V : InW S, V.W.cell? ⟨p, 0, none⟩ = some (.int .i64 x1) := fun V => (HSr.out _ V.h).x.1
  have f2 : ∀ V : InW S, V.W.cell? ⟨p, 1, none⟩ = some (.int .i64 x2) := fun V => (HSr.out _ V.h).x.2
  have f3 : ∀ V : InW S, V.W.cell? ⟨p + 1, 0, none⟩ = some (.int .i64 y1) := fun V => (HSr.out _ V.h).y.1
  have f4 : ∀ V : InW S, V.W.cell? ⟨p + 1, 1, none⟩ = some (.int .i64 y2) := fun V => (HSr.out _ V.h).y.2
  clear hS HQ4
  haveI hNe : Nonempty (InW S) := ⟨⟨_, S1⟩⟩
  have hm : m = 1 ∨ m = 2 ∨ (¬ m = 1 ∧ ¬ m = 2) := by omega
  have hx : (l1 = true ∧ l2 = false ∧ (¬ x1 = y1 ∨ (x1 = y1 ∧ ¬ x2 = y2))) ∨ (l1 = false ∧ l2 = true ∧ (¬ x1 = y1 ∨ (x1 = y1 ∧ ¬ x2 = y2))) ∨ (l1 = false ∧ l2 = false ∧ x1 = y1 ∧ x2 = y2) := by
    have h1 := hl1
    have h2 := hl2
    unfold lessH at h1 h2
    simp only at h1 h2
    by_cases e : x2 = y2
    · rw [if_pos e] at h1
      rw [if_pos e.symm] at h2
      rcases (show x1 < y1 ∨ y1 < x1 ∨ x1 = y1 by omega) with q | q | q
      · exact Or.inl ⟨by rw [← h1]; simp [q], by rw [← h2]; simp; omega, by omega⟩
      · exact Or.inr (Or.inl ⟨by rw [← h1]; simp; omega, by rw [← h2]; simp [q], by omega⟩)
      · exact Or.inr (Or.inr ⟨by rw [← h1]; simp; omega, by rw [← h2]; simp; omega, q, e⟩)
    · rw [if_neg e] at h1
      rw [if_neg (fun q => e q.symm)] at h2
      rcases (show x2 < y2 ∨ y2 < x2 by omega) with q | q
      · exact Or.inl ⟨by rw [← h1]; simp [q], by rw [← h2]; simp; omega, by omega⟩
      · exact Or.inr (Or.inl ⟨by rw [← h1]; simp; omega, by rw [← h2]; simp [q], by omega⟩)
  clear hl1 hl2
  rcases hm with rfl | rfl | ⟨hm1, hm2⟩
  · have HKn : Hid (∀ W, S W → Calls Tryz.prog 11 #[.int .i64 1] W fun e w' => e = .returned (.bool true) ∧ S w') := fun W h => by
      have := known_at 1 W
      rw [show decide ((1 : Int) = 1 ∨ (1 : Int) = 2) = true by simp] at this
      exact this.mono fun _ _ ⟨e, hw⟩ => ⟨e, by rw [hw]; exact h⟩
    have hsp1 := hsp rfl
    rcases hx with ⟨rfl, rfl, hne | ⟨rfl, hne⟩⟩ | ⟨rfl, rfl, hne | ⟨rfl, hne⟩⟩ | ⟨rfl, rfl, rfl, rfl⟩
    all_goals
      go_wp2_with fail
      refine wp_region_in (S := S) S1 (by kernel_rfl) (by kernel_rfl) ?_
      simp only [List.append_eq, List.cons_append, List.nil_append]
      repeat (go_big_quiet_step (first
        | (go_at_call 13; exact in_of (C55.out _ (InW.h _)))
        | (go_at_call 11; exact in_of (HKn.out _ (InW.h _)))
        | (go_at_call 10; exact in_of (C52.out _ (InW.h _)))
        | (go_at_call 9; exact in_of (Call51.use (by assumption) (InW.h _)))
        | (go_at_call 12; exact in_of (Call54.use (by assumption) (InW.h _)))))
      refine wpQuiet_nil ?_
      intro _ hw'
      obtain ⟨V, hw''⟩ := hw'
      subst hw''
      have HV : Hid (Below w.heap.size w V.W) := (HSr.out _ V.h).u
      generalize V.W = w9 at *
      go_wp2_with fail
      go_ret
      exact ⟨rfl, HV.out⟩
  · have HKn : Hid (∀ W, S W → Calls Tryz.prog 11 #[.int .i64 2] W fun e w' => e = .returned (.bool true) ∧ S w') := fun W h => by
      have := known_at 2 W
      rw [show decide ((2 : Int) = 1 ∨ (2 : Int) = 2) = true by simp] at this
      exact this.mono fun _ _ ⟨e, hw⟩ => ⟨e, by rw [hw]; exact h⟩
    rcases hx with ⟨rfl, rfl, hne | ⟨rfl, hne⟩⟩ | ⟨rfl, rfl, hne | ⟨rfl, hne⟩⟩ | ⟨rfl, rfl, rfl, rfl⟩
    all_goals
      go_wp2_with fail
      refine wp_region_in (S := S) S1 (by kernel_rfl) (by kernel_rfl) ?_
      simp only [List.append_eq, List.cons_append, List.nil_append]
      repeat (go_big_quiet_step (first
        | (go_at_call 13; exact in_of (C55.out _ (InW.h _)))
        | (go_at_call 11; exact in_of (HKn.out _ (InW.h _)))
        | (go_at_call 10; exact in_of (C52.out _ (InW.h _)))
        | (go_at_call 9; exact in_of (Call51.use (by assumption) (InW.h _)))
        | (go_at_call 12; exact in_of (Call54.use (by assumption) (InW.h _)))))
      refine wpQuiet_nil ?_
      intro _ hw'
      obtain ⟨V, hw''⟩ := hw'
      subst hw''
      have HV : Hid (Below w.heap.size w V.W) := (HSr.out _ V.h).u
      generalize V.W = w9 at *
      go_wp2_with fail
      go_ret
      exact ⟨rfl, HV.out⟩
  · have HKn : Hid (∀ W, S W → Calls Tryz.prog 11 #[.int .i64 m] W fun e w' => e = .returned (.bool false) ∧ S w') := fun W h => by
      have := known_at m W
      rw [show decide ((m : Int) = 1 ∨ (m : Int) = 2) = false by simp [hm1, hm2]] at this
      exact this.mono fun _ _ ⟨e, hw⟩ => ⟨e, by rw [hw]; exact h⟩
    have hb1 : (m == 1) = false := by simp [hm1]
    have hb2 : (m == 2) = false := by simp [hm2]
    have hb3 : (m != 1) = true := by simp [hm1]
    rcases hx with ⟨rfl, rfl, hne | ⟨rfl, hne⟩⟩ | ⟨rfl, rfl, hne | ⟨rfl, hne⟩⟩ | ⟨rfl, rfl, rfl, rfl⟩
    all_goals
      go_wp2_with fail
      refine wp_region_in (S := S) S1 (by kernel_rfl) (by kernel_rfl) ?_
      simp only [List.append_eq, List.cons_append, List.nil_append]
      repeat (go_big_quiet_step (first
        | (go_at_call 13; exact in_of (C55.out _ (InW.h _)))
        | (go_at_call 11; exact in_of (HKn.out _ (InW.h _)))
        | (go_at_call 10; exact in_of (C52.out _ (InW.h _)))
        | (go_at_call 9; exact in_of (Call51.use (by assumption) (InW.h _)))
        | (go_at_call 12; exact in_of (Call54.use (by assumption) (InW.h _)))))
      refine wpQuiet_nil ?_
      intro _ hw'
      obtain ⟨V, hw''⟩ := hw'
      subst hw''
      have HV : Hid (Below w.heap.size w V.W) := (HSr.out _ V.h).u
      generalize V.W = w9 at *
      go_wp2_with fail
      go_ret
      exact ⟨rfl, HV.out⟩
end Go.Proofs.YteaacodloabdcaaGreatDoor
