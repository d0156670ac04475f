import Derived.Test.YtlmdeafmlommeaaGreatDoorSlE
namespace Go.Proofs.YtlmdeafmlommeaaGreatDoor
open Go.RowKit

theorem equal_at (g1 o1 l1 c1 g2 o2 l2 c2 : Nat) (s1 s2 : List UInt8) (w : World) (h1 : s1.length = l1) (h2 : s2.length = l2) (hr1 : w.rangeAt g1 o1 (bytesV s1)) (hr2 : w.rangeAt g2 o2 (bytesV s2)) :
    Calls Tryz.prog 89 #[.slice (some ⟨g1, o1, none⟩) l1 c1, .slice (some ⟨g2, o2, none⟩) l2 c2] w fun e w' => e = .returned (.bool (s1 == s2)) ∧ w' = w := by
  have k1 := conv_bytes g1 o1 l1 c1 s1 w h1 hr1
  have k2 := conv_bytes g2 o2 l2 c2 s2 w h2 hr2
  go_enter Tryz.func89, Tryz.ntmps89
  go_wp2_with fail
  go_ret
  exact ⟨rfl, rfl⟩
theorem IntsAt.up {w : World} {L L' : Nat} {a : Option Addr} {n : Nat} {A : List Int} (h : IntsAt w L a n A) (hL : L ≤ L') : IntsAt w L' a n A where
  len := h.len
  fit := h.fit
  at_ := by
    rcases h.at_ with e | ⟨b, o, e, hb, hr⟩
    · exact Or.inl e
    · exact Or.inr ⟨b, o, e, by omega, hr⟩
theorem IntsAt.keep {S : Nat → Prop} {w w' : World} {L : Nat} {a : Option Addr} {n : Nat} {A : List Int} (h : IntsAt w L a n A) (hL : L ≤ w.heap.size) (hk : Keeps S w w') (hS : ∀ b o, a = some ⟨b, o, none⟩ → n ≠ 0 → ¬ S b) : IntsAt w' L a n A where
  len := h.len
  fit := h.fit
  at_ := by
    rcases h.at_ with e | ⟨b, o, e, hb, hr⟩
    · exact Or.inl e
    · by_cases hn : n = 0
      · exact Or.inl hn
      · exact Or.inr ⟨b, o, e, hb, fun j v hv => (hk.cell (p := ⟨b, o + j, none⟩) (by show b < _; omega) (hS b o e hn)).trans (hr j v hv)⟩
/-- A result's two cells, stored. -/
theorem ret59 {T : World} {rc : Nat} (h : T.heap[rc]? = some (.cells #[.int .i64 0, .slice none 0 0] 110)) (u v : Value) : T.cell? ⟨rc, 0, none⟩ = some (.int .i64 0) ∧ T.cell? ⟨rc, 1, none⟩ = some (.slice none 0 0) ∧ T.frozen? ⟨rc, 0, none⟩ = false ∧ T.frozen? ⟨rc, 1, none⟩ = false ∧
    ((T.setCell ⟨rc, 0, none⟩ u).setCell ⟨rc, 1, none⟩ v).cell? ⟨rc, 0, none⟩ = some u ∧ ((T.setCell ⟨rc, 0, none⟩ u).setCell ⟨rc, 1, none⟩ v).cell? ⟨rc, 1, none⟩ = some v ∧ Keeps (fun x => x = rc) T ((T.setCell ⟨rc, 0, none⟩ u).setCell ⟨rc, 1, none⟩ v) := by
  have d0 : T.cell? ⟨rc, 0, none⟩ = some (.int .i64 0) := by rw [cell_of_row _ _ 0 _ 110 (0, 0) h]; rfl
  have d1 : T.cell? ⟨rc, 1, none⟩ = some (.slice none 0 0) := by rw [cell_of_row _ _ 1 _ 110 (0, 0) h]; rfl
  have fz : ∀ o, T.frozen? ⟨rc, o, none⟩ = false := fun o => by unfold World.frozen?; rw [h]; simp
  refine ⟨d0, d1, fz 0, fz 1, ?_, ?_, ((Keeps.refl (fun x => x = rc) T).setCell (p := ⟨rc, 0, none⟩) rfl _).setCell (p := ⟨rc, 1, none⟩) rfl _⟩
  · rw [World.cell?_setCell_other _ _ _ _ (by simp)]; exact World.cell?_setCell_same _ _ _ d0
  · exact World.cell?_setCell_same _ _ _ ((World.cell?_setCell_other _ _ _ _ (by simp)).trans d1)
/-- What load tells. -/
def LoadP (x : Option (Int × List Int)) (w : World) (e : Ending) (w' : World) : Prop := Below w.heap.size w w' ∧ ∃ cv ok, e = .returned (.tuple #[cv, .bool ok]) ∧ (x = none → ok = false ∧ cv = .agg #[.int .i64 0, .slice none 0 0]) ∧ (∀ t ns, x = some (t, ns) → ok = true ∧ ∃ ka kc, cv = .agg #[.int .i64 t, .slice ka ns.length kc] ∧ IntsAt w' w'.heap.size ka ns.length ns ∧ ∀ b o, ka = some ⟨b, o, none⟩ → w.heap.size ≤ b)

set_option maxRecDepth 100000 in
set_option maxHeartbeats 1000000 in
theorem load_at {w : World} {db nb mb n cap : Nat} {B : List UInt8} {k : Nat} {D : DataW Unit} {left : Int} {down : Bool} (h : DevAt w db nb mb n cap B k D left down) (i : Nat) (hi : i < n) :
    Calls Tryz.prog 71 #[.pointer (some ⟨db, 0, none⟩), .int .i64 i] w (LoadP (loadOf (sec B i)) w) := by
  have hn0 := heap_alloc_last w (.cells #[.int .i64 0, .slice none 0 0] 110)
  have hs0 : (w.alloc (.cells #[.int .i64 0, .slice none 0 0] 110)).heap.size = w.heap.size + 1 := by simp
  have hb0 : Below w.heap.size w (w.alloc (.cells #[.int .i64 0, .slice none 0 0] 110)) := (Below.refl _ w).alloc (Nat.le_refl _) _
  have hlen := sec_length h.len hi
  obtain ⟨s, hs⟩ : ∃ s, s = sec B i := ⟨_, rfl⟩
  rw [← hs] at hlen ⊢
  go_enter Tryz.func71, Tryz.ntmps71
  go_wp2_with fail
  generalize w.alloc (.cells #[.int .i64 0, .slice none 0 0] 110) = w0 at hn0 hs0 hb0 ⊢
  have h0 := h.keeps (Keeps.of_below (S := fun _ => False) hb0) (fun e => e) (fun e => e) (fun e => e)
  refine (read_yes h0 i hi).mono ?_
  rintro e w1 ⟨v1, rfl, hown1, hne1, hb1⟩
  rw [← hs] at hown1
  obtain ⟨g1, c1, rfl⟩ := row_shape hown1 hne1
  obtain ⟨q1, q2, q3, q4, q5⟩ := row_base hown1
  have hs1 := hb1.size
  have hn1 : w1.heap[w.heap.size]? = some (.cells #[.int .i64 0, .slice none 0 0] 110) := (hb1.block _ (by omega)).trans hn0
  have hbw1 : Below w.heap.size w w1 := hb0.trans (hb1.mono (by omega))
  clear h h0 hb0 hb1 hn0 hown1 hne1 q5
  clear hs
  go_wp2_with fail
  refine (parse_at g1 0 c1 s hlen w1 q3).mono ?_
  rintro e w2 ⟨hb2, t', ka, kl, kc, ok, rfl, hN, hS⟩
  have hs2 := hb2.size
  have hn2 : w2.heap[w.heap.size]? = some (.cells #[.int .i64 0, .slice none 0 0] 110) := (hb2.block _ (by omega)).trans hn1
  have hbw2 : Below w.heap.size w w2 := hbw1.trans (hb2.mono (by omega))
  have r2 : w2.rangeAt g1 0 (bytesV s) := fun j v hv => (hb2.cell (p := ⟨g1, 0 + j, none⟩) q2).trans (q3 j v hv)
  clear hn1 hbw1 q3
  cases hp : parseOf s with
  | none =>
    have hok := hN hp
    subst hok
    have hL : Hid (loadOf s = none) := by show loadOf s = none; unfold loadOf; rw [hp]
    have hnT : (w2.alloc (.cells #[.int .i64 t', .slice ka kl kc] 110)).heap[w.heap.size]? = some (.cells #[.int .i64 0, .slice none 0 0] 110) := (Below.heap_alloc _ _ _ (by omega)).trans hn2
    have hbT : Below w.heap.size w (w2.alloc (.cells #[.int .i64 t', .slice ka kl kc] 110)) := hbw2.alloc hbw2.size _
    obtain ⟨d0, d1, z0, z1, x0, x1, hK⟩ := ret59 hnT (.int .i64 0) (.slice none 0 0)
    have hbE := hbT.trans (hK.below hbT.size (fun i e => by omega))
    clear hN hS hp hK hnT hbT
    go_wp2_with fail
    refine bodyPost_ret (res_cell (p := 4) (q := 5) rfl _ _ w.heap.size _ _ _ rfl rfl x0 x1) rfl ?_
    exact ⟨hbE, _, false, rfl, fun _ => ⟨rfl, rfl⟩, fun t ns e => by rw [hL.out] at e; cases e⟩
  | some x =>
    obtain ⟨t, ns⟩ := x
    obtain ⟨hok, rfl, rfl, hA, hfr⟩ := hS t ns hp
    subst hok
    have hF := parseOf_fine hp
    have hL : Hid (loadOf s = if s = secOf t' ns then some (t', ns) else none) := by show loadOf s = _; unfold loadOf; rw [hp]
    clear hN hS hp
    have hn3 : (w2.alloc (.cells #[.int .i64 t', .slice ka ns.length kc] 110)).heap[w.heap.size]? = some (.cells #[.int .i64 0, .slice none 0 0] 110) := (Below.heap_alloc _ _ _ (by omega)).trans hn2
    have hc3 := heap_alloc_last w2 (.cells #[.int .i64 t', .slice ka ns.length kc] 110)
    have hb23 : Below w2.heap.size w2 (w2.alloc (.cells #[.int .i64 t', .slice ka ns.length kc] 110)) := (Below.refl _ w2).alloc (Nat.le_refl _) _
    have hs3 : (w2.alloc (.cells #[.int .i64 t', .slice ka ns.length kc] 110)).heap.size = w2.heap.size + 1 := by simp
    go_wp2_with fail
    generalize w2.alloc (.cells #[.int .i64 t', .slice ka ns.length kc] 110) = w3 at hn3 hc3 hb23 hs3 ⊢
    have hA3 := (hA.below hb23).up (show w2.heap.size ≤ w3.heap.size by omega)
    have r3 : w3.rangeAt g1 0 (bytesV s) := fun j v hv => (hb23.cell (p := ⟨g1, 0 + j, none⟩) (by show g1 < _; omega)).trans (r2 j v hv)
    have hbw3 : Below w.heap.size w w3 := hbw2.trans (hb23.mono (by omega))
    refine (sector_at t' ns hF ka kc w3 hA3).mono ?_
    rintro e w4 ⟨g4, rfl, p1, p2, p3, hb34⟩
    have hs4 := hb34.size
    have hn4 : w4.heap[w.heap.size]? = some (.cells #[.int .i64 0, .slice none 0 0] 110) := (hb34.block _ (by omega)).trans hn3
    have hc4 : w4.heap[w2.heap.size]? = some (.cells #[.int .i64 t', .slice ka ns.length kc] 110) := (hb34.block _ (by omega)).trans hc3
    have r4 : w4.rangeAt g1 0 (bytesV s) := fun j v hv => (hb34.cell (p := ⟨g1, 0 + j, none⟩) (by show g1 < _; omega)).trans (r3 j v hv)
    have hA4 := (hA3.below hb34).up hs4
    have hbw4 : Below w.heap.size w w4 := hbw3.trans (hb34.mono (by omega))
    have v0 : w4.cell? ⟨w2.heap.size, 0, none⟩ = some (.int .i64 t') := by rw [cell_of_row _ _ 0 _ 110 (0, 0) hc4]; rfl
    have v1 : w4.cell? ⟨w2.heap.size, 1, none⟩ = some (.slice ka ns.length kc) := by rw [cell_of_row _ _ 1 _ 110 (0, 0) hc4]; rfl
    have hl4 := secOf_len hF
    clear hA hA3 r2 r3 hn2 hn3 hc3 hbw2 hbw3 hb23 hb34
    go_wp2_with fail
    refine (equal_at g1 0 64 c1 g4 0 64 64 s (secOf t' ns) w4 hlen hl4 r4 p3).mono ?_
    rintro e w5 ⟨rfl, hw5⟩
    subst hw5
    by_cases heq : s = secOf t' ns
    · have hL1 : Hid (loadOf s = some (t', ns)) := by show loadOf s = _; rw [hL.out, if_pos heq]
      have hb : (s == secOf t' ns) = true := by rw [beq_iff_eq]; exact heq
      obtain ⟨d0, d1, z0, z1, x0, x1, hK⟩ := ret59 hn4 (.int .i64 t') (.slice ka ns.length kc)
      have hbE := hbw4.trans (hK.below hbw4.size (fun i e => by omega))
      have hsE := hK.size
      have HA : Hid (IntsAt ((w5.setCell ⟨w.heap.size, 0, none⟩ (.int .i64 t')).setCell ⟨w.heap.size, 1, none⟩ (.slice ka ns.length kc)) ((w5.setCell ⟨w.heap.size, 0, none⟩ (.int .i64 t')).setCell ⟨w.heap.size, 1, none⟩ (.slice ka ns.length kc)).heap.size ka ns.length ns) := by
        refine (hA4.keep (Nat.le_refl _) hK ?_).up hsE
        intro b o e _ e2
        have := hfr b o e
        omega
      clear hL hK heq hA4 r4 p3
      go_wp2_with fail
      refine bodyPost_ret (res_cell (p := 4) (q := 5) rfl _ _ w.heap.size _ _ _ rfl rfl x0 x1) rfl ?_
      refine ⟨hbE, _, true, rfl, fun e => (by rw [hL1.out] at e; cases e), fun t ns' e => ?_⟩
      rw [hL1.out] at e
      cases e
      exact ⟨rfl, ka, kc, rfl, HA.out, fun b o e => by have := hfr b o e; omega⟩
    · have hL1 : Hid (loadOf s = none) := by show loadOf s = _; rw [hL.out, if_neg heq]
      have hb : (s == secOf t' ns) = false := by rw [beq_eq_false_iff_ne]; exact heq
      obtain ⟨d0, d1, z0, z1, x0, x1, hK⟩ := ret59 hn4 (.int .i64 0) (.slice none 0 0)
      have hbE := hbw4.trans (hK.below hbw4.size (fun i e => by omega))
      clear hL hK heq hA4 r4 p3
      go_wp2_with fail
      refine bodyPost_ret (res_cell (p := 4) (q := 5) rfl _ _ w.heap.size _ _ _ rfl rfl x0 x1) rfl ?_
      exact ⟨hbE, _, false, rfl, fun _ => ⟨rfl, rfl⟩, fun t ns e => by rw [hL1.out] at e; cases e⟩
end Go.Proofs.YtlmdeafmlommeaaGreatDoor
