import Derived.Test.YteaacodloabdcaaGreatDoorBsW
import Derived.Test.YteaacodloabdcaaGreatDoorQtE
import Derived.ChangeSlices
import Derived.ChangeSame
import Derived.Carry
import Derived.Deep.Grids
namespace Go.Proofs.YteaacodloabdcaaGreatDoor
open Go.ChangeShapes Go.WideShapes Go.RowKit

theorem vec_of {H : Type} {enc : TypeId × Value → H} {W : World} {fuel : Nat} {v : Value} {y : DataW H × List MemPlace} (h : DataW.trod enc Tryz.prog W 0 (fun _ => true) true fuel 23 [v] = some y) : ∃ p n c A, v = .slice p n c ∧ VecAt W p n c A ∧ n ≤ 9223372036854775807 := by
  rcases open_ints Tryz.underlying23 Tryz.underlying21 (by kernel_rfl) h with ⟨hcs, _⟩ | ⟨a', len, cap, zs, hcs, _, hl, hm, hz, _, hcell, hwf⟩
  · simp only [List.cons.injEq, and_true] at hcs
    exact ⟨none, 0, 0, [], hcs, ⟨rfl, Nat.le_refl _, fun x hx => (by cases hx), Or.inl rfl⟩, by omega⟩
  · simp only [List.cons.injEq, and_true] at hcs
    simp only [if_true] at hz
    have hm' : len ≤ 9223372036854775807 := by unfold maxLen at hm; omega
    refine ⟨some a', len, cap, zs.take len, hcs, ⟨by rw [List.length_take]; omega, hl, fun x hx => ?_, ?_⟩, hm'⟩
    · have := hwf x (List.mem_of_mem_take hx)
      simpa [Lit.wf, IntKind.min, IntKind.max, IntKind.signed, IntKind.bits] using this
    · rcases Nat.eq_zero_or_pos len with h0 | h0
      · exact Or.inl h0
      · have hc0 := hcell 0 (by omega)
        have hsp := World.cell?_spot hc0
        obtain ⟨ab, ao, asp⟩ := a'
        simp only [Addr.add, if_true] at hsp
        subst hsp
        refine Or.inr ⟨ab, ao, rfl, World.block_lt_of_cell? _ _ hc0, fun j hj => ?_⟩
        have h1 := hcell j (by omega)
        rw [Addr.add_mid] at h1
        rw [h1]
        simp [List.getD, hj]
theorem vec_arg {H : Type} {enc : TypeId × Value → H} {W : World} {a : Option Addr} {l c : Nat} {d : DataW H} {p : List MemPlace} (h : DataW.Trod enc Tryz.prog W 0 (fun _ => true) true 23 (.slice a l c) d p) : ∃ A, VecAt W a l c A ∧ l ≤ 9223372036854775807 := by
  obtain ⟨fuel, hf⟩ := h
  obtain ⟨p', n', c', A, e, hA, hn⟩ := vec_of (v := .slice a l c) hf
  cases e
  exact ⟨A, hA, hn⟩
theorem vecs_arg {H : Type} {enc : TypeId × Value → H} {W : World} {a : Option Addr} {l c : Nat} {d : DataW H} {p : List MemPlace} (h : DataW.Trod enc Tryz.prog W 0 (fun _ => true) true 32 (.slice a l c) d p) : ∃ VS, VecsAt W a l c VS ∧ l ≤ 9223372036854775807 := by
  obtain ⟨fuel, hf⟩ := h
  rcases Go.Deep.open_slice Tryz.underlying32 hf with ⟨hcs, _⟩ | ⟨a', len, cap, m, n, Dx, Pl, hcs, _, hl, hm, hmm, _, hx⟩
  · simp only [Value.cells, List.cons.injEq, and_true, Value.slice.injEq] at hcs
    obtain ⟨rfl, rfl, rfl⟩ := hcs
    exact ⟨[], ⟨rfl, Nat.le_refl _, fun i hi => absurd hi (Nat.not_lt_zero _)⟩, by omega⟩
  · simp only [Value.cells, List.cons.injEq, and_true, Value.slice.injEq] at hcs
    obtain ⟨rfl, rfl, rfl⟩ := hcs
    simp only [if_true] at hmm
    subst hmm
    have hsp : 0 < l → a'.spot = none := fun h0 => by
      obtain ⟨cs0, hd1, _⟩ := hx 0 (by omega)
      have hd2 := World.cells?_some hd1
      have hl0 : cs0.length = 1 := hd2.2.1.trans (by kernel_rfl)
      have h9 := hd2.2.2 0 (by rw [show Tryz.prog.cellsOf 23 = 1 by kernel_rfl]; decide)
      rw [List.getElem?_eq_getElem (show 0 < cs0.length by omega)] at h9
      have h8 := World.cell?_spot h9
      simpa [Addr.add] using h8
    have hm' : l ≤ 9223372036854775807 := by unfold maxLen at hm; omega
    have key : ∀ j : Nat, ∃ A : List Int, j < l → ∃ (b o : Nat) (p : Option Addr) (n cc : Nat), some a' = some ⟨b, o, none⟩ ∧ b < W.heap.size ∧ W.cell? ⟨b, o + j, none⟩ = some (.slice p n cc) ∧ n ≤ 9223372036854775807 ∧ VecAt W p n cc A := by
      intro j
      by_cases hj : j < l
      · obtain ⟨cs', hc1, hc2⟩ := hx j (by omega)
        rw [show Tryz.prog.cellsOf 23 = 1 by kernel_rfl] at hc1
        obtain ⟨_, hlen, hcell⟩ := World.cells?_some hc1
        match cs', hlen with
        | [k0], _ =>
          obtain ⟨p', n', c', A, e, hA, hn⟩ := vec_of hc2
          have q0 := hcell 0 (by omega)
          obtain ⟨ab, ao, asp⟩ := a'
          have hsp0 : asp = none := hsp (by omega)
          subst hsp0
          rw [Addr.add_mid, Addr.add_mid] at q0
          refine ⟨A, fun _ => ⟨ab, ao, p', n', c', rfl, World.block_lt_of_cell? _ _ q0, ?_, hn, hA⟩⟩
          simpa [e] using q0
      · exact ⟨[], fun h => absurd h hj⟩
    obtain ⟨f, hf'⟩ := Classical.axiomOfChoice key
    refine ⟨(List.range l).map f, ⟨by simp, hl, fun i hi => ?_⟩, hm'⟩
    have e : ((List.range l).map f).getD i [] = f i := by simp [List.getD, hi]
    rw [e]
    exact hf' i hi
theorem cells56 : Tryz.prog.cellsOf 25 = 2 := by kernel_rfl
theorem cells3 : Tryz.prog.cellsOf 3 = 1 := by kernel_rfl
theorem cells2 : Tryz.prog.cellsOf 2 = 1 := by kernel_rfl
theorem hits_arg {H : Type} {enc : TypeId × Value → H} {W : World} {a : Option Addr} {l c : Nat} {d : DataW H} {p : List MemPlace} (h : DataW.Trod enc Tryz.prog W 0 (fun _ => true) true 52 (.slice a l c) d p) : ∃ L, HitsIn W a l L ∧ l ≤ c ∧ l ≤ 9223372036854775807 := by
  obtain ⟨fuel, hf⟩ := h
  rcases Go.Deep.open_slice Tryz.underlying52 hf with ⟨hcs, _⟩ | ⟨a', len, cap, m, n, Dx, Pl, hcs, _, hl, hm, hmm, _, hx⟩
  · simp only [Value.cells, List.cons.injEq, and_true, Value.slice.injEq] at hcs
    obtain ⟨rfl, rfl, rfl⟩ := hcs
    exact ⟨[], ⟨rfl, fun x hx => (by cases hx), Or.inl rfl⟩, Nat.le_refl _, by omega⟩
  · simp only [Value.cells, List.cons.injEq, and_true, Value.slice.injEq] at hcs
    obtain ⟨rfl, rfl, rfl⟩ := hcs
    simp only [if_true] at hmm
    subst hmm
    have hsp : 0 < l → a'.spot = none := fun h0 => by
      obtain ⟨cs0, hd1, _⟩ := hx 0 (by omega)
      have hd2 := World.cells?_some hd1
      have hl0 : cs0.length = 2 := hd2.2.1.trans (by kernel_rfl)
      have h9 := hd2.2.2 0 (by rw [show Tryz.prog.cellsOf 25 = 2 by kernel_rfl]; decide)
      rw [List.getElem?_eq_getElem (show 0 < cs0.length by omega)] at h9
      have h8 := World.cell?_spot h9
      simpa [Addr.add] using h8
    have hm' : l ≤ 9223372036854775807 := by unfold maxLen at hm; omega
    have key : ∀ j : Nat, ∃ x : Hit, j < l → ∃ (b o : Nat), some a' = some ⟨b, o, none⟩ ∧ b < W.heap.size ∧ (-9223372036854775808 ≤ x.1 ∧ x.1 ≤ 9223372036854775807) ∧ W.cell? ⟨b, o + j * 2, none⟩ = some (.int .i64 x.1) ∧ W.cell? ⟨b, o + j * 2 + 1, none⟩ = some (.int .i64 x.2) := by
      intro j
      by_cases hj : j < l
      · obtain ⟨cs', hc1, hc2⟩ := hx j (by omega)
        rw [cells56] at hc1
        obtain ⟨_, hlen, hcell⟩ := World.cells?_some hc1
        match cs', hlen with
        | [k0, k1], _ =>
          obtain ⟨xs, n', _, _, _, hxl, hfld⟩ := DataW.trod_struct Tryz.underlying25 hc2
          have g0 : DataW.trod enc Tryz.prog W 0 (fun _ => true) true n' 3 (List.take (Tryz.prog.cellsOf 3) (List.drop 0 [k0, k1])) = xs[0]? := hfld 0 _ rfl
          have g1 : DataW.trod enc Tryz.prog W 0 (fun _ => true) true n' 2 (List.take (Tryz.prog.cellsOf 2) (List.drop 1 [k0, k1])) = xs[1]? := hfld 1 _ rfl
          rw [cells3] at g0
          rw [cells2] at g1
          have hx4 : xs.length = 2 := hxl
          match xs, hx4 with
          | [x0, x1], _ =>
            simp only [List.drop_zero, List.drop_succ_cons, List.take_succ_cons, List.take_zero, List.getElem?_cons_zero, List.getElem?_cons_succ] at g0 g1
            obtain ⟨i, e0, _, w0⟩ := DataW.trod_int Tryz.underlying3 g0
            obtain ⟨k, e1, _, w1⟩ := DataW.trod_int Tryz.underlying2 g1
            simp only [List.cons.injEq, and_true] at e0 e1
            have q0 := hcell 0 (by omega)
            have q1 := hcell 1 (by omega)
            obtain ⟨ab, ao, asp⟩ := a'
            have hsp0 : asp = none := hsp (by omega)
            subst hsp0
            rw [Addr.add_mid, Addr.add_mid] at q0 q1
            refine ⟨(i, k), fun _ => ⟨ab, ao, rfl, World.block_lt_of_cell? _ _ q0, ?_, ?_, ?_⟩⟩
            · simpa [Lit.wf, IntKind.min, IntKind.max, IntKind.signed, IntKind.bits] using w0
            · simpa [e0] using q0
            · simpa [e1] using q1
      · exact ⟨(0, 0), fun h => absurd h hj⟩
    obtain ⟨f, hf'⟩ := Classical.axiomOfChoice key
    refine ⟨(List.range l).map f, ⟨by simp, fun x hx => ?_, ?_⟩, hl, hm'⟩
    · obtain ⟨j, hj, rfl⟩ := List.mem_map.1 hx
      obtain ⟨_, _, _, _, h, _⟩ := hf' j (List.mem_range.1 hj)
      exact h
    · rcases Nat.eq_zero_or_pos l with h0 | h0
      · exact Or.inl h0
      · obtain ⟨b, o, e, hb, _⟩ := hf' 0 h0
        refine Or.inr ⟨b, o, e, hb, fun j hj => ?_⟩
        obtain ⟨b', o', e', _, _, c0, c1⟩ := hf' j hj
        rw [e] at e'
        cases e'
        have e : hat ((List.range l).map f) j = f j := by simp [hat, List.getD, hj]
        rw [e]
        exact ⟨c0, c1⟩
theorem hit_open {H : Type} {enc : TypeId × Value → H} {W : World} {v : Value} {d : DataW H} {p : List MemPlace} (h : DataW.Trod enc Tryz.prog W 0 (fun _ => true) true 25 v d p) (hv : ∃ cs, v = .agg cs ∧ cs.size = Tryz.prog.cellsOf 25) :
    ∃ x y : Int, v = .agg #[.int .i64 x, .int .i64 y] ∧ -9223372036854775808 ≤ x ∧ x ≤ 9223372036854775807 := by
  obtain ⟨cs, rfl, hs⟩ := hv
  rw [cells56] at hs
  obtain ⟨fuel, hf⟩ := h
  obtain ⟨L⟩ := cs
  match L, hs with
  | [k0, k1], _ =>
    have hf : DataW.trod enc Tryz.prog W 0 (fun _ => true) true fuel 25 [k0, k1] = some (d, p) := hf
    obtain ⟨xs, n', _, _, _, hxl, hfld⟩ := DataW.trod_struct Tryz.underlying25 hf
    have g0 : DataW.trod enc Tryz.prog W 0 (fun _ => true) true n' 3 (List.take (Tryz.prog.cellsOf 3) (List.drop 0 [k0, k1])) = xs[0]? := hfld 0 _ rfl
    have g1 : DataW.trod enc Tryz.prog W 0 (fun _ => true) true n' 2 (List.take (Tryz.prog.cellsOf 2) (List.drop 1 [k0, k1])) = xs[1]? := hfld 1 _ rfl
    rw [cells3] at g0
    rw [cells2] at g1
    have hx4 : xs.length = 2 := hxl
    match xs, hx4 with
    | [x0, x1], _ =>
      simp only [List.drop_zero, List.drop_succ_cons, List.take_succ_cons, List.take_zero, List.getElem?_cons_zero, List.getElem?_cons_succ] at g0 g1
      obtain ⟨i, e0, _, w0⟩ := DataW.trod_int Tryz.underlying3 g0
      obtain ⟨k, e1, _, w1⟩ := DataW.trod_int Tryz.underlying2 g1
      simp only [List.cons.injEq, and_true] at e0 e1
      refine ⟨i, k, by rw [e0, e1], ?_⟩
      simpa [Lit.wf, IntKind.min, IntKind.max, IntKind.signed, IntKind.bits] using w0
end Go.Proofs.YteaacodloabdcaaGreatDoor
