import Derived.Test.YteehcffmccgciaaGreatDoorQoB
import Derived.Test.YteehcffmccgciaaGreatDoorBgE
import Derived.Deep.DeepCutAuto
import Derived.Deep.CutRange
namespace Go.Proofs.YteehcffmccgciaaGreatDoor
open Go.RowKit Go.Maps

theorem goodL_one {x y : Int} (hx : -1048576 ≤ x ∧ x ≤ 1048576) (hy : -1048576 ≤ y ∧ y ≤ 1048576) : goodL (1 : Nat) [[y], [x]] = [[y], [x]] := by
  have h : ∀ z : Int, (-1048576 ≤ z ∧ z ≤ 1048576) → mayB [z] (1 : Nat) = true := fun z hz => mayB_all ⟨by omega, by omega, rfl⟩ (fun j hj => by
    have : j = 0 := by simp at hj; exact hj
    subst this
    exact hz)
  unfold goodL
  have e1 : mayB [y] (1 : Int) = true := h y hy
  have e2 : mayB [x] (1 : Int) = true := h x hx
  simp [List.filter, e1, e2]
theorem two_vecs (w : World) (lo hi : Int) (hl : -1048576 ≤ lo ∧ lo ≤ 1048576) (hh : -1048576 ≤ hi ∧ hi ≤ 1048576) :
    VecsAt (((w.alloc (.cells #[.int .i32 hi] 21)).alloc (.cells #[.int .i32 lo] 21)).alloc (.cells #[.slice (some ⟨w.heap.size, 0, none⟩) 1 1, .slice (some ⟨w.heap.size + 1, 0, none⟩) 1 1] 42)) (some ⟨w.heap.size + 1 + 1, 0, none⟩) 2 2 [[hi], [lo]] := by
  have one : ∀ (W : World) (x : Int), (-1048576 ≤ x ∧ x ≤ 1048576) → VecAt (W.alloc (.cells #[.int .i32 x] 21)) (some ⟨W.heap.size, 0, none⟩) 1 1 [x] := fun W x hx =>
    ⟨rfl, Nat.le_refl _, fun y hy => by simp at hy; omega, Or.inr ⟨W.heap.size, 0, rfl, by simp, fun j hj => by
      have : j = 0 := by omega
      subst this
      simp⟩⟩
  have h1 := one w hi hh
  have h2 := one (w.alloc (.cells #[.int .i32 hi] 21)) lo hl
  have e2 : (w.alloc (.cells #[.int .i32 hi] 21)).heap.size = w.heap.size + 1 := by simp
  rw [e2] at h2
  generalize hW1 : w.alloc (.cells #[.int .i32 hi] 21) = W1 at *
  have hA1 : Below W1.heap.size W1 (W1.alloc (.cells #[.int .i32 lo] 21)) := (Below.refl _ _).alloc (Nat.le_refl _) _
  have h1 := h1.all hA1
  have e3 : (W1.alloc (.cells #[.int .i32 lo] 21)).heap.size = w.heap.size + 1 + 1 := by simp [e2]
  generalize W1.alloc (.cells #[.int .i32 lo] 21) = W2 at *
  have hA2 : Below W2.heap.size W2 (W2.alloc (.cells #[.slice (some ⟨w.heap.size, 0, none⟩) 1 1, .slice (some ⟨w.heap.size + 1, 0, none⟩) 1 1] 42)) := (Below.refl _ _).alloc (Nat.le_refl _) _
  refine ⟨rfl, Nat.le_refl _, fun i hi => ?_⟩
  rcases (show i = 0 ∨ i = 1 by omega) with rfl | rfl
  · refine ⟨w.heap.size + 1 + 1, 0, some ⟨w.heap.size, 0, none⟩, 1, 1, rfl, by simp [e3], ?_, by omega, h1.all hA2⟩
    rw [← e3]; simp
  · refine ⟨w.heap.size + 1 + 1, 0, some ⟨w.heap.size + 1, 0, none⟩, 1, 1, rfl, by simp [e3], ?_, by omega, h2.all hA2⟩
    rw [← e3]; simp
theorem alloc_drew (W : World) (o : Obj) : Below W.drew.heap.size W.drew (W.alloc o).drew := by
  have h0 : Below W.heap.size W (W.alloc o) := (Below.refl _ W).alloc (Nat.le_refl _) _
  exact ⟨h0.os, h0.tape, h0.output, h0.size, h0.block⟩
/-- What QuantStep holds behind the code. -/
structure StepR (w wr : World) (r gl gs : Nat) (lo st : Int) (px : Option Addr) (cx : Nat) (n0 : Int) : Prop where
  k : BookAt wr (some ⟨gl, 0, none⟩) 1 1 (some ⟨gs, 0, none⟩) 1 1 [lo] [st]
  k0 : wr.cell? ⟨r, 0, none⟩ = some (.slice (some ⟨gl, 0, none⟩) 1 1)
  k1 : wr.cell? ⟨r, 1, none⟩ = some (.slice (some ⟨gs, 0, none⟩) 1 1)
  c : ByAt wr px 1 cx [n0]
  u : Below w.heap.size w wr
theorem StepR.below {w wr w' : World} {r gl gs cx : Nat} {lo st n0 : Int} {px : Option Addr} (h : StepR w wr r gl gs lo st px cx n0) (hb : Below wr.heap.size wr w') : StepR w w' r gl gs lo st px cx n0 := by
  have hl : r < wr.heap.size := World.block_lt_of_cell? wr _ h.k0
  exact ⟨h.k.all hb, (hb.cell (p := ⟨r, 0, none⟩) hl).trans h.k0, (hb.cell (p := ⟨r, 1, none⟩) hl).trans h.k1, h.c.all hb, h.u.trans (hb.mono h.u.size)⟩
theorem StepR.cells {w W : World} {r gl gs cx bc oc : Nat} {lo st n0 : Int} (h : StepR w W r gl gs lo st (some ⟨bc, oc, none⟩) cx n0) : W.cell? ⟨r, 0, none⟩ = some (.slice (some ⟨gl, 0, none⟩) 1 1) ∧ W.cell? ⟨r, 1, none⟩ = some (.slice (some ⟨gs, 0, none⟩) 1 1) ∧ W.cell? ⟨gs, 0, none⟩ = some (.int .i32 st) ∧ W.cell? ⟨bc, oc, none⟩ = some (.int .u8 n0) ∧ Hid (StepR w W r gl gs lo st (some ⟨bc, oc, none⟩) cx n0) := by
  refine ⟨h.k0, h.k1, ?_, ?_, h⟩
  · obtain ⟨b, o, e, _, hc, _⟩ := h.k.step.cell 0 (by omega)
    injection e with e
    injection e with e1 e2
    subst e1; subst e2
    exact hc
  · obtain ⟨b, o, e, _, hc, _⟩ := h.c.cell 0 (by omega)
    injection e with e
    injection e with e1 e2
    subst e1; subst e2
    exact hc
theorem new1 (W : World) (X : Int) (hX : -1048576 ≤ X ∧ X ≤ 1048576) : VecAt (W.alloc (.cells #[.int .i32 (IntKind.i32.wrap X)] 21)) (some ⟨W.heap.size, 0, none⟩) 1 1 [X] := by
  rw [wrap_id32 X (by omega) (by omega)]
  exact ⟨rfl, Nat.le_refl _, fun y hy => by simp at hy; omega, Or.inr ⟨W.heap.size, 0, rfl, by simp, fun j hj => by
      have : j = 0 := by omega
      subst this
      simp⟩⟩
theorem back_on {lo st n0 X : Int} (hX : X = lo + n0 * st) (h1 : -1048576 ≤ X ∧ X ≤ 1048576) (hs : 1 ≤ st) : backsV [lo] [st] [n0] = [X] := by
  have hf : fineB [lo] [st] = true := fineB_all rfl (fun j hj => by
    have : j = 0 := by simp at hj; exact hj
    subst this
    exact hs)
  unfold backsV
  rw [hf]
  show [clampQ (lo + st * n0)] = [X]
  rw [Int.mul_comm, ← hX]
  unfold clampQ
  rw [show max (-1048576) (min X 1048576) = X by omega]
theorem code_on {lo st n0 X : Int} (hX : X = lo + n0 * st) (hn : 0 ≤ n0 ∧ n0 ≤ 255) (hs : 1 ≤ st) : codesV [lo] [st] [X] = [n0] := by
  have hf : fineB [lo] [st] = true := fineB_all rfl (fun j hj => by
    have : j = 0 := by simp at hj; exact hj
    subst this
    exact hs)
  unfold codesV
  rw [hf]
  show [codeZ lo st X] = [n0]
  rw [hX, codeZ_on hs hn.1 hn.2]
theorem bound_on {lo st : Int} (hs : 1 ≤ st) (hs2 : st ≤ 8225) : boundV [lo] [st] = IntKind.i32.wrap ((IntKind.i32.wrap (st + 1)).tdiv 2) := by
  have hf : fineB [lo] [st] = true := fineB_all rfl (fun j hj => by
    have : j = 0 := by simp at hj; exact hj
    subst this
    exact hs)
  unfold boundV
  rw [hf, wrap_id32 (st + 1) (by omega) (by omega), tdiv_pos (by omega) (by omega), wrap_id32 _ (by omega) (by omega)]
  show max 0 ((st + 1) / 2) = _
  omega
set_option maxRecDepth 100000 in
set_option maxHeartbeats 4000000 in
theorem quantStep_true (l0 h0 n0 : Int) (w : World) (hn : 0 ≤ n0 ∧ n0 ≤ 255) (hg : w.cell? ⟨0, 0, none⟩ = some errType) :
    Calls Tryz.prog 10 #[.int .i32 l0, .int .i32 h0, .int .u8 n0] w fun e w' => e = .returned (.bool true) ∧ Below w.heap.size w w' := by
  have hr1 := rem_any l0 1048576 (by omega)
  have hr2 := rem_any h0 1048576 (by omega)
  go_enter Tryz.func10, Tryz.ntmps10
  go_wp2_with fail
  refine (begun7_true _ hg).mono ?_
  rintro e w1 ⟨rfl, hb1⟩
  have HB1 : Hid (Below w.heap.size w w1) := hb1
  clear hg hb1
  go_upto_if 20 with fail
  go_cut [0, 1] (fun s0 s1 wx => ∃ lo hi : Int, s0 = .int .i32 lo ∧ s1 = .int .i32 hi ∧ Hid ((-1048576 < lo ∧ lo < 1048576) ∧ (-1048576 < hi ∧ hi < 1048576) ∧ lo ≤ hi) ∧ wx = w1)
  case first =>
    go_wp2_with fail
    · go_meet
      exact ⟨h0.tmod 1048576, l0.tmod 1048576, rfl, rfl, ⟨hr2, hr1, by omega⟩, rfl⟩
    · go_meet
      exact ⟨l0.tmod 1048576, h0.tmod 1048576, rfl, rfl, ⟨hr1, hr2, by omega⟩, rfl⟩
  case rest =>
    obtain ⟨lo, hi, rfl, rfl, HLH, hwc⟩ := hcut
    have hwc2 := hwc.symm
    subst hwc2
    clear hwc
    obtain ⟨hlo, hhi, hle⟩ := HLH.out
    clear HLH
    go_wp2_with fail
    have HVS : Hid (VecsAt (((w1.alloc (.cells #[.int .i32 hi] 21)).alloc (.cells #[.int .i32 lo] 21)).alloc (.cells #[.slice (some ⟨w1.heap.size, 0, none⟩) 1 1, .slice (some ⟨w1.heap.size + 1, 0, none⟩) 1 1] 42)) (some ⟨w1.heap.size + 1 + 1, 0, none⟩) 2 2 [[hi], [lo]]) := two_vecs w1 lo hi (by omega) (by omega)
    have HBW : Hid (Below w.heap.size w (((w1.alloc (.cells #[.int .i32 hi] 21)).alloc (.cells #[.int .i32 lo] 21)).alloc (.cells #[.slice (some ⟨w1.heap.size, 0, none⟩) 1 1, .slice (some ⟨w1.heap.size + 1, 0, none⟩) 1 1] 42))) := ((HB1.out.alloc HB1.out.size _).alloc (by have := HB1.out.size; simp; omega) _).alloc (by have := HB1.out.size; simp; omega) _
    generalize ((w1.alloc (.cells #[.int .i32 hi] 21)).alloc (.cells #[.int .i32 lo] 21)).alloc (.cells #[.slice (some ⟨w1.heap.size, 0, none⟩) 1 1, .slice (some ⟨w1.heap.size + 1, 0, none⟩) 1 1] 42) = w2 at *
    have hG : goodL (1 : Nat) [[hi], [lo]] = [[hi], [lo]] := goodL_one (by omega) (by omega)
    have HM : Hid (Calls Tryz.prog 31 #[.int .i64 1, .slice (some ⟨w1.heap.size + 1 + 1, 0, none⟩) 2 2] w2 fun e w' => ∃ gl gs, e = .returned (bookV (some ⟨gl, 0, none⟩) 1 1 (some ⟨gs, 0, none⟩) 1 1) ∧ BookAt w' (some ⟨gl, 0, none⟩) 1 1 (some ⟨gs, 0, none⟩) 1 1 [lo] [stepZ lo hi] ∧ Below w2.heap.size w2 w') := by
      refine (qmake_at HVS.out (by omega) 1 (by omega)).mono ?_
      rintro e w' ⟨gl, gs, rfl, hT⟩
      refine ⟨gl, gs, rfl, ?_, hT.u⟩
      have := hT.book (fun k => loZ_fit k)
      rw [hG] at this
      have e1 : lowsZ [[hi], [lo]] 1 = [lo] := by
        show [min hi lo] = [lo]
        rw [show min hi lo = lo by omega]
      have e2 : stepsZ [[hi], [lo]] 1 = [stepZ lo hi] := by
        show [stepZ (min hi lo) (max hi lo)] = _
        rw [show min hi lo = lo by omega, show max hi lo = hi by omega]
      rw [e1, e2] at this
      exact this
    refine HM.out.mono ?_
    rintro e w3 ⟨gl, gs, rfl, hbk, hb3⟩
    have hs1 := stepZ_pos lo hi
    have hs2 := stepZ_reach lo hi
    have hs3 := stepZ_least lo hi
    have hs4 : stepZ lo hi ≤ 8225 := by unfold stepZ; omega
    unfold bookV
    have HK3 : Hid (BookAt w3 (some ⟨gl, 0, none⟩) 1 1 (some ⟨gs, 0, none⟩) 1 1 [lo] [stepZ lo hi] ∧ Below w.heap.size w w3) := ⟨hbk, HBW.out.trans (hb3.mono HBW.out.size)⟩
    clear HM HVS HBW hG hbk hb3 HB1 hr1 hr2
    generalize stepZ lo hi = st at *
    obtain ⟨b1, o1, q1, k1, c1, _⟩ := HK3.out.1.low.cell 0 (by omega)
    obtain ⟨b2, o2, q2, k2, c2, _⟩ := HK3.out.1.step.cell 0 (by omega)
    injection q1 with q1
    injection q1 with q1 q1'
    subst q1; subst q1'
    injection q2 with q2
    injection q2 with q2 q2'
    subst q2; subst q2'
    have n1 : gl ≠ w3.heap.size := by omega
    have n2 : gs ≠ w3.heap.size := by omega
    have hj1 : ¬ (lo + 255 * st < hi) := by omega
    have hp1 : 0 ≤ n0 * st := Int.mul_nonneg (by omega) (by omega)
    have hp2 : n0 * st ≤ 2097375 := by
      have := Int.mul_le_mul hn.2 hs4 (by omega) (by omega)
      omega
    have hb8 : Below w3.heap.size w3 (w3.alloc (.cells #[.slice (some ⟨gl, 0, none⟩) 1 1, .slice (some ⟨gs, 0, none⟩) 1 1] 58)) := (Below.refl _ _).alloc (Nat.le_refl _) _
    have HB8 : Hid (Below w.heap.size w (w3.alloc (.cells #[.slice (some ⟨gl, 0, none⟩) 1 1, .slice (some ⟨gs, 0, none⟩) 1 1] 58))) := HK3.out.2.trans (hb8.mono HK3.out.2.size)
    go_upto_region 8 with fail
    go_cut [76] (fun s76 wx => s76 = .bool false ∧ wx = w3.alloc (.cells #[.slice (some ⟨gl, 0, none⟩) 1 1, .slice (some ⟨gs, 0, none⟩) 1 1] 58))
    case first =>
      go_wp2_with fail
      all_goals
        go_meet
        refine ⟨congrArg Value.bool ?_, rfl⟩
        simp
        omega
    case rest =>
    obtain ⟨rfl, rfl⟩ := hcut
    go_wp2_with fail
    all_goals (first | (go_ret; exact ⟨rfl, HB8.out⟩) | skip)
    all_goals
      obtain ⟨X, hX⟩ : ∃ X, lo + n0 * st = X := ⟨_, rfl⟩
      have HX : Hid (X = lo + n0 * st) := hX.symm
      have hX1 : -1048576 ≤ X ∧ X ≤ 1048576 := by omega
      rw [hX]
      clear hX hp1 hp2 hs2 hs3 hj1 hb8 HB8
      have hQ5 : BookAt ((w3.alloc (.cells #[.slice (some ⟨gl, 0, none⟩) 1 1, .slice (some ⟨gs, 0, none⟩) 1 1] 58)).alloc (.cells #[.int .i32 X] 21)) (some ⟨gl, 0, none⟩) 1 1 (some ⟨gs, 0, none⟩) 1 1 [lo] [st] ∧ ((w3.alloc (.cells #[.slice (some ⟨gl, 0, none⟩) 1 1, .slice (some ⟨gs, 0, none⟩) 1 1] 58)).alloc (.cells #[.int .i32 X] 21)).cell? ⟨w3.heap.size, 0, none⟩ = some (.slice (some ⟨gl, 0, none⟩) 1 1) ∧ ((w3.alloc (.cells #[.slice (some ⟨gl, 0, none⟩) 1 1, .slice (some ⟨gs, 0, none⟩) 1 1] 58)).alloc (.cells #[.int .i32 X] 21)).cell? ⟨w3.heap.size, 1, none⟩ = some (.slice (some ⟨gs, 0, none⟩) 1 1) ∧ VecAt ((w3.alloc (.cells #[.slice (some ⟨gl, 0, none⟩) 1 1, .slice (some ⟨gs, 0, none⟩) 1 1] 58)).alloc (.cells #[.int .i32 X] 21)) (some ⟨w3.heap.size + 1, 0, none⟩) 1 1 [X] ∧ Below w.heap.size w ((w3.alloc (.cells #[.slice (some ⟨gl, 0, none⟩) 1 1, .slice (some ⟨gs, 0, none⟩) 1 1] 58)).alloc (.cells #[.int .i32 X] 21)) := by
        have q0 : (w3.alloc (.cells #[.slice (some ⟨gl, 0, none⟩) 1 1, .slice (some ⟨gs, 0, none⟩) 1 1] 58)).cell? ⟨w3.heap.size, 0, none⟩ = some (.slice (some ⟨gl, 0, none⟩) 1 1) := by simp
        have q1 : (w3.alloc (.cells #[.slice (some ⟨gl, 0, none⟩) 1 1, .slice (some ⟨gs, 0, none⟩) 1 1] 58)).cell? ⟨w3.heap.size, 1, none⟩ = some (.slice (some ⟨gs, 0, none⟩) 1 1) := by simp
        have q2 : (w3.alloc (.cells #[.slice (some ⟨gl, 0, none⟩) 1 1, .slice (some ⟨gs, 0, none⟩) 1 1] 58)).heap.size = w3.heap.size + 1 := by simp
        have q3 : Below w3.heap.size w3 (w3.alloc (.cells #[.slice (some ⟨gl, 0, none⟩) 1 1, .slice (some ⟨gs, 0, none⟩) 1 1] 58)) := (Below.refl _ _).alloc (Nat.le_refl _) _
        have q4 := HK3.out.1.all q3
        have q5 := HK3.out.2.trans (q3.mono HK3.out.2.size)
        generalize w3.alloc (.cells #[.slice (some ⟨gl, 0, none⟩) 1 1, .slice (some ⟨gs, 0, none⟩) 1 1] 58) = W at *
        have q6 := new1 W X hX1
        rw [wrap_id32 X (by omega) (by omega), q2] at q6
        have q7 : Below W.heap.size W (W.alloc (.cells #[.int .i32 X] 21)) := (Below.refl _ _).alloc (Nat.le_refl _) _
        have q8 : w3.heap.size < W.heap.size := by omega
        exact ⟨q4.all q7, (q7.cell (p := ⟨w3.heap.size, 0, none⟩) q8).trans q0, (q7.cell (p := ⟨w3.heap.size, 1, none⟩) q8).trans q1, q6, q5.trans (q7.mono q5.size)⟩
      have HQ5 : Hid _ := hQ5
      generalize (w3.alloc (.cells #[.slice (some ⟨gl, 0, none⟩) 1 1, .slice (some ⟨gs, 0, none⟩) 1 1] 58)).alloc (.cells #[.int .i32 X] 21) = w5 at *
      generalize w3.heap.size = r at *
      refine (code_at HQ5.out.1 HQ5.out.2.2.2.1 (by omega) (by omega) (by omega)).mono ?_
      rw [code_on HX.out hn hs1]
      rintro e w6 ⟨v, rfl, hv, hb6⟩
      obtain ⟨px, cx, rfl, hx, _⟩ := hv.toAt (fun y hy => by simp at hy; omega)
      obtain ⟨bc, oc, rfl, _⟩ := hx.cell 0 (by simp)
      have hR6 : StepR w w6 r gl gs lo st (some ⟨bc, oc, none⟩) cx n0 := by
        have hl : r < w5.heap.size := World.block_lt_of_cell? w5 _ hQ5.2.1
        exact ⟨hQ5.1.all hb6, (hb6.cell (p := ⟨r, 0, none⟩) hl).trans hQ5.2.1, (hb6.cell (p := ⟨r, 1, none⟩) hl).trans hQ5.2.2.1, hx, hQ5.2.2.2.2.trans (hb6.mono hQ5.2.2.2.2.size)⟩
      have HR6 : Hid (StepR w w6 r gl gs lo st (some ⟨bc, oc, none⟩) cx n0) := hR6
      clear hQ5 HQ5 hv hb6 hx hR6 HK3 c1 c2 k1 k2 n1 n2
      have HS : Hid (∀ W, StepR w W r gl gs lo st (some ⟨bc, oc, none⟩) cx n0 → W.cell? ⟨r, 0, none⟩ = some (.slice (some ⟨gl, 0, none⟩) 1 1) ∧ W.cell? ⟨r, 1, none⟩ = some (.slice (some ⟨gs, 0, none⟩) 1 1) ∧ W.cell? ⟨gs, 0, none⟩ = some (.int .i32 st) ∧ W.cell? ⟨bc, oc, none⟩ = some (.int .u8 n0) ∧ Hid (StepR w W r gl gs lo st (some ⟨bc, oc, none⟩) cx n0)) := fun W h => h.cells
      have HC65 : Hid (∀ W, StepR w W r gl gs lo st (some ⟨bc, oc, none⟩) cx n0 → Calls Tryz.prog 34 #[.agg #[.slice (some ⟨gl, 0, none⟩) 1 1, .slice (some ⟨gs, 0, none⟩) 1 1], .slice (some ⟨bc, oc, none⟩) 1 cx] W fun e w' => ∃ p c, e = .returned (.slice p 1 c) ∧ (w'.cell? ⟨r, 0, none⟩ = some (.slice (some ⟨gl, 0, none⟩) 1 1) ∧ w'.cell? ⟨r, 1, none⟩ = some (.slice (some ⟨gs, 0, none⟩) 1 1) ∧ w'.cell? ⟨gs, 0, none⟩ = some (.int .i32 st) ∧ w'.cell? ⟨bc, oc, none⟩ = some (.int .u8 n0) ∧ Hid (StepR w w' r gl gs lo st (some ⟨bc, oc, none⟩) cx n0)) ∧ Hid (VecAt w' p 1 c [X] ∧ Below W.heap.size W w')) := fun W h => by
        refine (back_at h.k h.c (by omega) (by omega) (by omega)).mono ?_
        rw [back_on HX.out hX1 hs1]
        rintro e w' ⟨v, rfl, hv, hb⟩
        obtain ⟨p, c, rfl, hp, _⟩ := hv.toAt (fun y hy => by simp at hy; omega)
        exact ⟨p, c, rfl, (h.below hb).cells, hp, hb⟩
      have HC34 : Hid (∀ W p c q, VecAt W p 1 c [X] → VecAt W q 1 1 [X] → StepR w W r gl gs lo st (some ⟨bc, oc, none⟩) cx n0 → Calls Tryz.prog 33 #[.slice p 1 c, .slice q 1 1] W fun e w' => e = .returned (.bool true) ∧ (w'.cell? ⟨r, 0, none⟩ = some (.slice (some ⟨gl, 0, none⟩) 1 1) ∧ w'.cell? ⟨r, 1, none⟩ = some (.slice (some ⟨gs, 0, none⟩) 1 1) ∧ w'.cell? ⟨gs, 0, none⟩ = some (.int .i32 st) ∧ w'.cell? ⟨bc, oc, none⟩ = some (.int .u8 n0) ∧ Hid (StepR w w' r gl gs lo st (some ⟨bc, oc, none⟩) cx n0))) := fun W p c q h1 h2 h => by
        refine (eq_at h1 h2 (by omega)).mono ?_
        rintro e w' ⟨rfl, hb⟩
        exact ⟨by simp, (h.below hb).cells⟩
      have HC61 : Hid (∀ W, StepR w W r gl gs lo st (some ⟨bc, oc, none⟩) cx n0 → Calls Tryz.prog 35 #[.agg #[.slice (some ⟨gl, 0, none⟩) 1 1, .slice (some ⟨gs, 0, none⟩) 1 1]] W fun e w' => e = .returned (.int .i32 (IntKind.i32.wrap ((IntKind.i32.wrap (st + 1)).tdiv 2))) ∧ (w'.cell? ⟨r, 0, none⟩ = some (.slice (some ⟨gl, 0, none⟩) 1 1) ∧ w'.cell? ⟨r, 1, none⟩ = some (.slice (some ⟨gs, 0, none⟩) 1 1) ∧ w'.cell? ⟨gs, 0, none⟩ = some (.int .i32 st) ∧ w'.cell? ⟨bc, oc, none⟩ = some (.int .u8 n0) ∧ Hid (StepR w w' r gl gs lo st (some ⟨bc, oc, none⟩) cx n0))) := fun W h => by
        refine (bound_at h.k (by omega) (by omega)).mono ?_
        rw [bound_on hs1 hs4]
        rintro e w' ⟨rfl, hb⟩
        exact ⟨rfl, (h.below hb).cells⟩
      have S0 := HR6.out.cells
      have S1 := (HR6.out.below (drew_below w6)).cells
      have HKp : Hid (∀ W w', Below W.heap.size W w' → (W.cell? ⟨r, 0, none⟩ = some (.slice (some ⟨gl, 0, none⟩) 1 1) ∧ W.cell? ⟨r, 1, none⟩ = some (.slice (some ⟨gs, 0, none⟩) 1 1) ∧ W.cell? ⟨gs, 0, none⟩ = some (.int .i32 st) ∧ W.cell? ⟨bc, oc, none⟩ = some (.int .u8 n0) ∧ Hid (StepR w W r gl gs lo st (some ⟨bc, oc, none⟩) cx n0)) → (w'.cell? ⟨r, 0, none⟩ = some (.slice (some ⟨gl, 0, none⟩) 1 1) ∧ w'.cell? ⟨r, 1, none⟩ = some (.slice (some ⟨gs, 0, none⟩) 1 1) ∧ w'.cell? ⟨gs, 0, none⟩ = some (.int .i32 st) ∧ w'.cell? ⟨bc, oc, none⟩ = some (.int .u8 n0) ∧ Hid (StepR w w' r gl gs lo st (some ⟨bc, oc, none⟩) cx n0))) := fun W w' hb h => (h.2.2.2.2.out.below hb).cells
      have HSR : Hid (∀ W : World, (W.cell? ⟨r, 0, none⟩ = some (.slice (some ⟨gl, 0, none⟩) 1 1) ∧ W.cell? ⟨r, 1, none⟩ = some (.slice (some ⟨gs, 0, none⟩) 1 1) ∧ W.cell? ⟨gs, 0, none⟩ = some (.int .i32 st) ∧ W.cell? ⟨bc, oc, none⟩ = some (.int .u8 n0) ∧ Hid (StepR w W r gl gs lo st (some ⟨bc, oc, none⟩) cx n0)) → StepR w W r gl gs lo st (some ⟨bc, oc, none⟩) cx n0) := fun W h => h.2.2.2.2.out
      have HN1 : Hid (∀ W : World, VecAt (W.alloc (.cells #[.int .i32 (IntKind.i32.wrap X)] 21)) (some ⟨W.heap.size, 0, none⟩) 1 1 [X]) := fun W => new1 W X hX1
      clear HS HX hX1 hs1 hs4 S0
      go_wp2_with fail
      refine wp_region_noPanic ?_
      go_region_held (fun W : World => W.cell? ⟨r, 0, none⟩ = some (.slice (some ⟨gl, 0, none⟩) 1 1) ∧ W.cell? ⟨r, 1, none⟩ = some (.slice (some ⟨gs, 0, none⟩) 1 1) ∧ W.cell? ⟨gs, 0, none⟩ = some (.int .i32 st) ∧ W.cell? ⟨bc, oc, none⟩ = some (.int .u8 n0) ∧ Hid (StepR w W r gl gs lo st (some ⟨bc, oc, none⟩) cx n0)) (first | assumption | exact S1 | exact HKp.out _ _ ((Below.refl _ _).alloc (Nat.le_refl _) _) (by assumption) | exact HKp.out w6.drew _ (alloc_drew w6 _) S1 | go_keep)
        (first
          | (go_at_call 35; refine (HC61.out _ (HSR.out _ (by assumption))).mono ?_; rintro e w9 ⟨rfl, hS9⟩)
          | (go_at_call 33; refine (HC34.out _ _ _ _ (HV7.out.1.all ((Below.refl _ _).alloc (Nat.le_refl _) _)) (HN1.out _) (HSR.out _ (by assumption))).mono ?_; rintro e w8 ⟨rfl, hS8⟩)
          | (go_at_call 33; refine (HC34.out _ _ _ _ HV7.out.1 ((show VecAt (w6.alloc (.cells #[.int .i32 (IntKind.i32.wrap X)] 21)).drew (some ⟨w6.heap.size, 0, none⟩) 1 1 [X] from HN1.out w6.drew).all HV7.out.2) (HSR.out _ (by assumption))).mono ?_; rintro e w8 ⟨rfl, hS8⟩)
          | (go_at_call 34; refine (HC65.out _ (HSR.out _ (by assumption))).mono ?_; rintro e w7 ⟨p7, c7, rfl, hS7, HV7⟩))
      all_goals
        refine NoPanic.normal ?_
        go_wp2_with fail
        go_ret
        exact ⟨rfl, hS9.2.2.2.2.out.u⟩
end Go.Proofs.YteehcffmccgciaaGreatDoor
