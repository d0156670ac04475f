import Derived.Test.YtmdjjnjhjojimabDoorArgs
import Derived.Test.YtmdjjnjhjojimabDoorOwnA
import Derived.Deep.Grids
namespace Go.Proofs.YtmdjjnjhjojimabDoor
open Go.ChangeShapes Go.WideShapes Go.RowKit

theorem keep_arg {H : Type} {enc : TypeId × Value → H} {W : World} {t e : TypeId} {a : Option Addr} {l c : Nat} {d : DataW H} {p : List MemPlace} (ht : Tryd.prog.underlying t = some (.slice e)) (he : Tryd.prog.underlying e = some .bool) (hc : Tryd.prog.cellsOf e = 1)
    (h : DataW.Trod enc Tryd.prog W 0 (fun _ => true) true t (.slice a l c) d p) : KeepAt W (.slice a l c) := by
  obtain ⟨fuel, hf⟩ := h
  rcases Go.Deep.open_bools ht he hc hf with ⟨hcs, _⟩ | ⟨a', len, cap, B, hcs, _, hl, _, _, hcell⟩
  · simp only [Value.cells, List.cons.injEq, and_true, Value.slice.injEq] at hcs
    obtain ⟨rfl, rfl, rfl⟩ := hcs
    exact Or.inl ⟨none, 0, rfl⟩
  · simp only [Value.cells, List.cons.injEq, and_true, Value.slice.injEq] at hcs
    obtain ⟨rfl, rfl, rfl⟩ := hcs
    rcases Nat.eq_zero_or_pos l with h0 | h0
    · subst h0; exact Or.inl ⟨_, _, rfl⟩
    · have hsp := World.cell?_spot (hcell 0 (by omega))
      obtain ⟨ab, ao, asp⟩ := a'
      simp only [Addr.add, if_true] at hsp
      subst hsp
      refine Or.inr ⟨ab, ao, c, (List.range l).map B, by simp, by simpa using h0, ?_⟩
      intro j v hv
      simp only [List.getElem?_map, List.map_map] at hv
      cases hj : (List.range l)[j]? with
      | none => simp [hj] at hv
      | some i =>
        simp only [hj, Option.map_some, Option.some.injEq, Function.comp] at hv
        subst hv
        have hi := List.getElem?_eq_some_iff.1 hj
        obtain ⟨hjl, hje⟩ := hi
        simp only [List.length_range] at hjl
        simp only [List.getElem_range] at hje
        subst hje
        rw [← Addr.add_mid]
        exact hcell j (by omega)
end Go.Proofs.YtmdjjnjhjojimabDoor
