import Derived.Test.YtlmdeafmlommeaaGreatDoorLaA
import Derived.Test.YtlmdeafmlommeaaGreatDoorTie
import Derived.Deep.Grids
namespace Go.Proofs.YtlmdeafmlommeaaGreatDoor
open Go.ChangeShapes Go.WideShapes Go.RowKit

theorem keepb_of {H : Type} {enc : TypeId × Value → H} {W : World} {fuel : Nat} {v : Value} {y : DataW H × List MemPlace} (h : DataW.trod enc Tryz.prog W 0 (fun _ => true) true fuel 31 [v] = some y) : ∃ ka kl kc K, v = .slice ka kl kc ∧ KeepB W W.heap.size ka kl K := by
  rcases Go.Deep.open_bools Tryz.underlying31 Tryz.underlying4 (by kernel_rfl) h with ⟨hcs, _⟩ | ⟨a', len, cap, B, hcs, _, hl, _, _, hcell⟩
  · simp only [List.cons.injEq, and_true] at hcs
    exact ⟨none, 0, 0, [], hcs, ⟨rfl, Or.inl rfl⟩⟩
  · simp only [List.cons.injEq, and_true] at hcs
    refine ⟨some a', len, cap, (List.range len).map B, hcs, ⟨by simp, ?_⟩⟩
    rcases Nat.eq_zero_or_pos len with h0 | h0
    · exact Or.inl h0
    · have hc0 := hcell 0 (by omega)
      have hsp := World.cell?_spot hc0
      obtain ⟨ab, ao, asp⟩ := a'
      simp only [Addr.add, if_true] at hsp
      subst hsp
      refine Or.inr ⟨ab, ao, rfl, World.block_lt_of_cell? _ _ hc0, ?_⟩
      intro j u hu
      simp only [List.getElem?_map, List.map_map] at hu
      cases hj : (List.range len)[j]? with
      | none => simp [hj] at hu
      | some i =>
        simp only [hj, Option.map_some, Option.some.injEq, Function.comp] at hu
        subst hu
        obtain ⟨hjl, hje⟩ := List.getElem?_eq_some_iff.1 hj
        simp only [List.length_range] at hjl
        simp only [List.getElem_range] at hje
        subst hje
        rw [← Addr.add_mid]
        exact hcell j (by omega)
theorem cells33 : Tryz.prog.cellsOf 33 = 4 := by kernel_rfl
theorem cells3 : Tryz.prog.cellsOf 3 = 1 := by kernel_rfl
theorem cells5 : Tryz.prog.cellsOf 5 = 1 := by kernel_rfl
theorem cells31 : Tryz.prog.cellsOf 31 = 1 := by kernel_rfl

theorem ops_arg {H : Type} {enc : TypeId × Value → H} {W : World} {a : Option Addr} {l c : Nat} {d : DataW H} {p : List MemPlace} (h : DataW.Trod enc Tryz.prog W 0 (fun _ => true) true 22 (.slice a l c) d p) : OpsAt W a l := by
  obtain ⟨fuel, hf⟩ := h
  rcases Go.Deep.open_slice Tryz.underlying22 hf with ⟨hcs, _⟩ | ⟨a', len, cap, m, n, Dx, Pl, hcs, _, hl, hm, hmm, _, hx⟩
  · simp only [Value.cells, List.cons.injEq, and_true, Value.slice.injEq] at hcs
    obtain ⟨rfl, rfl, rfl⟩ := hcs
    intro j hj
    omega
  · simp only [Value.cells, List.cons.injEq, and_true, Value.slice.injEq] at hcs
    obtain ⟨rfl, rfl, rfl⟩ := hcs
    simp only [if_true] at hmm
    subst hmm
    intro j hj
    obtain ⟨cs', hc1, hc2⟩ := hx j (by omega)
    rw [cells33] at hc1
    obtain ⟨_, hlen, hcell⟩ := World.cells?_some hc1
    match cs', hlen with
    | [k0, k1, k2, k3], _ =>
      obtain ⟨xs, n', _, _, _, hxl, hfld⟩ := DataW.trod_struct Tryz.underlying33 hc2
      have g0 : DataW.trod enc Tryz.prog W 0 (fun _ => true) true n' 3 (List.take (Tryz.prog.cellsOf 3) (List.drop 0 [k0, k1, k2, k3])) = xs[0]? := hfld 0 _ rfl
      have g1 : DataW.trod enc Tryz.prog W 0 (fun _ => true) true n' 3 (List.take (Tryz.prog.cellsOf 3) (List.drop 1 [k0, k1, k2, k3])) = xs[1]? := hfld 1 _ rfl
      have g2 : DataW.trod enc Tryz.prog W 0 (fun _ => true) true n' 5 (List.take (Tryz.prog.cellsOf 5) (List.drop 2 [k0, k1, k2, k3])) = xs[2]? := hfld 2 _ rfl
      have g3 : DataW.trod enc Tryz.prog W 0 (fun _ => true) true n' 31 (List.take (Tryz.prog.cellsOf 31) (List.drop 3 [k0, k1, k2, k3])) = xs[3]? := hfld 3 _ rfl
      rw [cells3] at g0 g1
      rw [cells5] at g2
      rw [cells31] at g3
      have hx4 : xs.length = 4 := hxl
      match xs, hx4 with
      | [x0, x1, x2, x3], _ =>
        simp only [List.drop_zero, List.drop_succ_cons, List.take_succ_cons, List.take_zero, List.getElem?_cons_zero, List.getElem?_cons_succ] at g0 g1 g2 g3
        obtain ⟨kd, e0, _, _⟩ := DataW.trod_int Tryz.underlying3 g0
        obtain ⟨i, e1, _, w1⟩ := DataW.trod_int Tryz.underlying3 g1
        obtain ⟨x, e2, _, w2⟩ := DataW.trod_int Tryz.underlying5 g2
        obtain ⟨ka, kl, kc, K, e3, hK⟩ := keepb_of g3
        simp only [List.cons.injEq, and_true] at e0 e1 e2
        have q0 := hcell 0 (by omega)
        have q1 := hcell 1 (by omega)
        have q2 := hcell 2 (by omega)
        have q3 := hcell 3 (by omega)
        have hsp : a'.spot = none := by
          obtain ⟨cs0, hd1, _⟩ := hx 0 (by omega)
          have hd2 := World.cells?_some hd1
          have hl0 : cs0.length = 4 := hd2.2.1.trans cells33
          have h9 := hd2.2.2 0 (by rw [cells33]; decide)
          rw [List.getElem?_eq_getElem (show 0 < cs0.length by omega)] at h9
          have h8 := World.cell?_spot h9
          simpa [Addr.add] using h8
        obtain ⟨ab, ao, asp⟩ := a'
        have hsp0 : asp = none := hsp
        subst hsp0
        rw [Addr.add_mid, Addr.add_mid] at q0 q1 q2 q3
        have hb1 : -9223372036854775808 ≤ i ∧ i ≤ 9223372036854775807 := by
          simpa [Lit.wf, IntKind.min, IntKind.max, IntKind.signed, IntKind.bits] using w1
        have hb2 : 0 ≤ x ∧ x ≤ 255 := by
          simpa [Lit.wf, IntKind.min, IntKind.max, IntKind.signed, IntKind.bits] using w2
        have hn : (UInt8.ofNat x.toNat).toNat = x.toNat := by rw [UInt8.toNat_ofNat', Nat.mod_eq_of_lt (by omega)]
        have hxu : ((UInt8.ofNat x.toNat).toNat : Int) = x := by rw [hn]; omega
        refine ⟨ab, ao, kd, i, UInt8.ofNat x.toNat, ka, kl, kc, K, rfl, World.block_lt_of_cell? _ _ q0, hb1, ?_, ?_, ?_, ?_, hK⟩
        · simpa [e0] using q0
        · simpa [e1] using q1
        · rw [hxu]; simpa [e2] using q2
        · simpa [e3] using q3
end Go.Proofs.YtlmdeafmlommeaaGreatDoor
