import Derived.Test.YteehcffmccgciaaGreatDoorBsM
import Derived.Test.YteehcffmccgciaaGreatDoorCpt
import Derived.Test.YteehcffmccgciaaGreatDoorQtB
import Derived.BigQuiet
namespace Go.Proofs.YteehcffmccgciaaGreatDoor
open Go.RowKit Go.Maps

/-- Numbers that have been seen: a map to true. -/
def SeenAt (w : World) (mb : Nat) (K : List Nat) : Prop := ∃ D : DataW Unit, w.ownsMap Tryz.prog 3 (plainElem (H := Unit) Tryz.prog 4) mb (Maps.size D) D ∧ Tidy D ∧ (∀ i : Nat, Maps.has D (.int .i64 (i : Int)) = decide (i ∈ K)) ∧ Maps.size D = K.length
theorem seen_tight {w : World} {mb n : Nat} {D : DataW Unit} (h : w.ownsMap Tryz.prog 3 (plainElem (H := Unit) Tryz.prog 4) mb n D) : w.ownsMap Tryz.prog 3 (plainElem (H := Unit) Tryz.prog 4) mb (Maps.size D) D := by
  obtain ⟨es, clock, hb, F, _, hD⟩ := h
  refine ⟨es, clock, hb, F, ?_, hD⟩
  subst hD
  simp [Maps.size, length_sorted]
theorem SeenAt.lt {w : World} {mb : Nat} {K : List Nat} (h : SeenAt w mb K) : mb < w.heap.size := by
  obtain ⟨D, h1, _⟩ := h
  exact h1.lt
theorem SeenAt.keeps {S : Nat → Prop} {w w' : World} {mb : Nat} {K : List Nat} (h : SeenAt w mb K) (hk : Keeps S w w') (s : ¬ S mb) : SeenAt w' mb K := by
  have hl := h.lt
  obtain ⟨D, ⟨es, clock, hb, F, hs, hD⟩, h2⟩ := h
  exact ⟨D, ⟨es, clock, (hk.block mb hl s).trans hb, F, hs, hD⟩, h2⟩
theorem SeenAt.below {w w' : World} {mb : Nat} {K : List Nat} (h : SeenAt w mb K) (hb : Below w.heap.size w w') : SeenAt w' mb K := h.keeps (Keeps.of_below (S := fun _ => False) hb) (fun e => e)
theorem sm_new (w : World) : SeenAt (w.alloc (.map #[] 0)) w.heap.size [] :=
  ⟨.map [], World.ownsMap_made w Tryz.prog 3 (plainElem (H := Unit) Tryz.prog 4), tidy_empty, fun i => by rw [Maps.has_eq]; simp, rfl⟩
theorem sm_look {w : World} {mb : Nat} {K : List Nat} (h : SeenAt w mb K) (i : Nat) (hi : i ≤ 1000) (hn : i ∉ K) :
    (Instr.lookup 36 (.map (some mb)) (.int .i64 (i : Int)) false).run Tryz.prog w = .ok (.bool false) w := by
  obtain ⟨D, ⟨es, clock, hb, F, hs, rfl⟩, h2, h3, h4⟩ := h
  rcases Maps.fit_look false law3 Tryz.underlying36 (Tryz.zeroValue4 w) hb F (keyOf_i (i : Int) (by omega)) with ⟨hrun, _, hat⟩ | ⟨e0, y, _, _, hrun, hRv, hat, _⟩
  · exact hrun
  · exfalso
    have h5 := Maps.has_true_of_atKey hat
    rw [h3 i, decide_eq_true_iff] at h5
    exact hn h5
theorem sm_len {w : World} {mb : Nat} {K : List Nat} (h : SeenAt w mb K) (ty : TypeId) : (Builtin.len_ #[36] ty #[.map (some mb)]).run Tryz.prog w = .ok (.int .i64 (K.length : Int)) w := by
  obtain ⟨D, h1, h2, h3, h4⟩ := h
  rw [h1.len Tryz.underlying36 ty, h4]
/-- One more. -/
theorem sm_put {w' : World} {mb : Nat} {K : List Nat} {D : DataW Unit} (q2 : Tidy D) (q3 : ∀ i : Nat, Maps.has D (.int .i64 (i : Int)) = decide (i ∈ K)) (q4 : Maps.size D = K.length) (k : Nat) (hn : k ∉ K) (n : Nat)
    (hown : w'.ownsMap Tryz.prog 3 (plainElem (H := Unit) Tryz.prog 4) mb n (D.put (.int .i64 (k : Int)) (.lit (.bool true)))) : SeenAt w' mb (K ++ [k]) := by
  have hh : Maps.has D (.int .i64 (k : Int)) = false := by rw [q3]; exact decide_eq_false hn
  refine ⟨_, seen_tight hown, q2.put (isKey k) _, fun i => ?_, ?_⟩
  · by_cases e : i = k
    · subst e
      rw [has_put_same q2.isMap (isKey i)]
      simp
    · rw [has_put_other (k' := .int .i64 (i : Int)) (fun h => e (by injection h with h1 h2; omega)), q3 i]
      simp [e]
  · rw [size_put q2, hh, q4]; simp
end Go.Proofs.YteehcffmccgciaaGreatDoor

namespace Go.Proofs.YteehcffmccgciaaGreatDoor
open Go.RowKit Go.Maps

theorem drewN_belowQ (w : World) (n : Nat) : Below w.heap.size w (w.drewN n) := ⟨rfl, rfl, rfl, Nat.le_refl _, fun _ _ => rfl⟩
/-- What the law's books holds. -/
structure BooksQ (w wr : World) (la : Option Addr) (ln lc : Nat) (sa : Option Addr) (sc : Nat) (la' : Option Addr) (lc' : Nat) (sa' : Option Addr) (sc' : Nat) (L S : List Int) : Prop where
  a : BookAt wr la ln lc sa ln sc L S
  b : BookAt wr la' ln lc' sa' ln sc' L S
  a0 : wr.cell? ⟨w.heap.size, 0, none⟩ = some (.slice la ln lc)
  a1 : wr.cell? ⟨w.heap.size, 1, none⟩ = some (.slice sa ln sc)
  b0 : wr.cell? ⟨w.heap.size + 1, 0, none⟩ = some (.slice la' ln lc')
  b1 : wr.cell? ⟨w.heap.size + 1, 1, none⟩ = some (.slice sa' ln sc')
  u : Below w.heap.size w wr
theorem BooksQ.below {w wr w' : World} {la : Option Addr} {ln lc : Nat} {sa : Option Addr} {sc : Nat} {la' : Option Addr} {lc' : Nat} {sa' : Option Addr} {sc' : Nat} {L S : List Int} (h : BooksQ w wr la ln lc sa sc la' lc' sa' sc' L S) (hb : Below wr.heap.size wr w') : BooksQ w w' la ln lc sa sc la' lc' sa' sc' L S := by
  have hl : w.heap.size < wr.heap.size := World.block_lt_of_cell? wr _ h.a0
  have hl1 : w.heap.size + 1 < wr.heap.size := World.block_lt_of_cell? wr _ h.b0
  exact ⟨h.a.all hb, h.b.all hb, (hb.cell (p := ⟨w.heap.size, 0, none⟩) hl).trans h.a0, (hb.cell (p := ⟨w.heap.size, 1, none⟩) hl).trans h.a1, (hb.cell (p := ⟨w.heap.size + 1, 0, none⟩) hl1).trans h.b0, (hb.cell (p := ⟨w.heap.size + 1, 1, none⟩) hl1).trans h.b1, h.u.trans (hb.mono h.u.size)⟩
end Go.Proofs.YteehcffmccgciaaGreatDoor
