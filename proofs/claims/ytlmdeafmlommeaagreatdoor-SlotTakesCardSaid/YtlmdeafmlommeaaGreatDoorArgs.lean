import Derived.Test.YtlmdeafmlommeaaGreatDoorIntsA
import Derived.Test.YtlmdeafmlommeaaGreatDoorTie
import Derived.ChangeSlices
import Derived.Carry
namespace Go.Proofs.YtlmdeafmlommeaaGreatDoor
open Go.ChangeShapes Go.WideShapes Go.RowKit

theorem ints_arg {H : Type} {enc : TypeId × Value → H} {W : World} {t e : TypeId} {a : Option Addr} {l c : Nat} {d : DataW H} {p : List MemPlace} (ht : Tryz.prog.underlying t = some (.slice e)) (he : Tryz.prog.underlying e = some (.int .i64)) (hc : Tryz.prog.cellsOf e = 1)
    (h : DataW.Trod enc Tryz.prog W 0 (fun _ => true) true t (.slice a l c) d p) : ∃ A : List Int, IntsAt W W.heap.size a l A ∧ l ≤ c ∧ c ≤ 9223372036854775807 := by
  obtain ⟨fuel, hf⟩ := h
  rcases open_ints ht he hc hf with ⟨hcs, _⟩ | ⟨a', len, cap, zs, hcs, _, hl, hm, hz, _, hcell, hwf⟩
  · simp only [Value.cells, List.cons.injEq, and_true, Value.slice.injEq] at hcs
    obtain ⟨rfl, rfl, rfl⟩ := hcs
    exact ⟨[], ⟨rfl, fun x hx => (by cases hx), Or.inl rfl⟩, Nat.le_refl _, by omega⟩
  · simp only [Value.cells, List.cons.injEq, and_true, Value.slice.injEq] at hcs
    obtain ⟨rfl, rfl, rfl⟩ := hcs
    simp only [if_true] at hz
    have hm' : c ≤ 9223372036854775807 := by unfold maxLen at hm; omega
    refine ⟨zs.take l, ⟨by rw [List.length_take]; omega, fun x hx => ?_, ?_⟩, hl, hm'⟩
    · have := hwf x (List.mem_of_mem_take hx)
      simpa [Lit.wf, IntKind.min, IntKind.max, IntKind.signed, IntKind.bits] using this
    · rcases Nat.eq_zero_or_pos l with h0 | h0
      · exact Or.inl h0
      · have hc0 := hcell 0 (by omega)
        have hsp := World.cell?_spot hc0
        obtain ⟨ab, ao, asp⟩ := a'
        simp only [Addr.add, if_true] at hsp
        subst hsp
        refine Or.inr ⟨ab, ao, rfl, World.block_lt_of_cell? _ _ hc0, ?_⟩
        intro j v hv
        simp only [List.getElem?_map] at hv
        cases hj : (zs.take l)[j]? with
        | none => simp [hj] at hv
        | some i =>
          simp only [hj, Option.map_some, Option.some.injEq] at hv
          subst hv
          rw [List.getElem?_take] at hj
          split at hj
          · have h1 := hcell j (by omega)
            have h2 : zs.getD j 0 = i := by simp [List.getD, hj]
            rw [h2] at h1
            rw [← Addr.add_mid]
            exact h1
          · cases hj
end Go.Proofs.YtlmdeafmlommeaaGreatDoor
