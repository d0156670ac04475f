import Derived.Test.YtmgdkaohdpdmkaaGreatDoorArgsS
import Derived.Test.YtmgdkaohdpdmkaaGreatDoorSlP
import Derived.Deep.Slices
namespace Go.Proofs.YtmgdkaohdpdmkaaGreatDoor
open Go.ChangeShapes Go.WideShapes Go.RowKit

theorem sets_arg {H : Type} {enc : TypeId × Value → H} {W : World} {a : Option Addr} {l c : Nat} {d : DataW H} {p : List MemPlace}
    (h : DataW.Trod enc Tryz.prog W 0 (fun _ => true) true 22 (.slice a l c) d p) : SetsAt W a l := by
  obtain ⟨fuel, hf⟩ := h
  rcases Go.Deep.open_slice1 Tryz.underlying22 (by kernel_rfl) hf with ⟨hcs, _⟩ | ⟨a', len, cap, m, n, V, D, Pl, hcs, hb, hl, hm, hmm, _, hx⟩
  · simp only [Value.cells, List.cons.injEq, and_true, Value.slice.injEq] at hcs
    obtain ⟨rfl, rfl, rfl⟩ := hcs
    intro j hj
    omega
  · simp only [Value.cells, List.cons.injEq, and_true, Value.slice.injEq] at hcs
    obtain ⟨rfl, rfl, rfl⟩ := hcs
    simp only [if_true] at hmm
    subst hmm
    intro j hj
    obtain ⟨hc, hT⟩ := hx j (by omega)
    have hsp := World.cell?_spot (hx 0 (by omega)).1
    obtain ⟨ab, ao, asp⟩ := a'
    simp only [Addr.add, if_true] at hsp
    subst hsp
    rw [Addr.add_mid] at hc
    obtain ⟨aj, nj, cj, hV⟩ : ∃ aj nj cj, V j = .slice aj nj cj := by
      rcases open_ints Tryz.underlying31 Tryz.underlying2 (by kernel_rfl) hT with ⟨hcs, _⟩ | ⟨a2, len2, cap2, zs, hcs, _⟩
      · exact ⟨none, 0, 0, by simpa using hcs⟩
      · exact ⟨_, _, _, by simpa using hcs⟩
    rw [hV] at hc hT
    obtain ⟨A, hI, hf1, hf2⟩ := ints_arg Tryz.underlying31 Tryz.underlying2 (by kernel_rfl) (show DataW.Trod enc Tryz.prog W 0 (fun _ => true) true 31 (.slice aj nj cj) _ _ from ⟨_, hT⟩)
    exact ⟨ab, ao, aj, nj, cj, A, rfl, World.block_lt_of_cell? _ _ hc, hc, hI, hf1, hf2⟩
end Go.Proofs.YtmgdkaohdpdmkaaGreatDoor
