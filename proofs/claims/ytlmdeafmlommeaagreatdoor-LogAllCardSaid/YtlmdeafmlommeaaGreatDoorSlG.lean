import Derived.Test.YtlmdeafmlommeaaGreatDoorSlF
import Derived.Deep.RegionHeld3
namespace Go.Proofs.YtlmdeafmlommeaaGreatDoor
open Go.RowKit

theorem after_at (t : Int) (h0 : 0 ≤ t) (h1 : t < turns) (w : World) : Calls Tryz.prog 70 #[.int .i64 t] w fun e w' => e = .returned (.int .i64 (afterT t)) ∧ w' = w := by
  have h1' : t < 1099511627776 := h1
  have hm : (t + 1).tmod 1099511627776 = afterT t := by rw [Int.tmod_eq_emod_of_nonneg (by omega)]; rfl
  go_enter Tryz.func70, Tryz.ntmps70
  go_wp2_with fail
  go_ret
  exact ⟨rfl, rfl⟩
theorem newerT_eq (a b : Int) : newerT a b = (a != b && decide ((a - b) % 1099511627776 < 549755813888)) := by
  unfold newerT turns
  rw [Int.add_emod_right]
  congr 1
  by_cases h : a = b <;> simp [h]
theorem newerT_self (a : Int) : newerT a a = false := by rw [newerT_eq]; simp
theorem newer_at (a b : Int) (h0 : 0 ≤ a) (h1 : a < turns) (h2 : 0 ≤ b) (h3 : b < turns) (w : World) : Calls Tryz.prog 72 #[.int .i64 a, .int .i64 b] w fun e w' => e = .returned (.bool (newerT a b)) ∧ w' = w := by
  have h1' : a < 1099511627776 := h1
  have h3' : b < 1099511627776 := h3
  have e1 := newerT_eq a b
  by_cases hab : a = b
  · subst hab
    rw [newerT_self]
    clear e1
    go_enter Tryz.func72, Tryz.ntmps72
    go_wp2_with fail
    go_ret
    exact ⟨rfl, rfl⟩
  · rw [e1]
    clear e1
    go_enter Tryz.func72, Tryz.ntmps72
    go_wp2_with fail
    go_ret
    exact ⟨rfl, rfl⟩
def NewestP (x : Nat × Option (Int × List Int)) (w : World) (e : Ending) (w' : World) : Prop := Below w.heap.size w w' ∧ ∃ cv ok, e = .returned (.tuple #[.int .i64 x.1, cv, .bool ok]) ∧ (x.2 = none → ok = false ∧ cv = .agg #[.int .i64 0, .slice none 0 0]) ∧ (∀ t ns, x.2 = some (t, ns) → ok = true ∧ ∃ ka kc, cv = .agg #[.int .i64 t, .slice ka ns.length kc] ∧ IntsAt w' w'.heap.size ka ns.length ns ∧ ∀ b o, ka = some ⟨b, o, none⟩ → w.heap.size ≤ b)

theorem below_dr {B : Nat} {a W : World} (h : Below B a W) : Below B a W.drew := ⟨h.os, h.tape, h.output, h.size, h.block⟩
theorem fin_ints {wC E : World} {rc n : Nat} {ka : Option Addr} {ns : List Int} (hA : IntsAt wC wC.heap.size ka n ns) (hK : Keeps (fun x => x = rc) wC E) (hf : ∀ b o, ka = some ⟨b, o, none⟩ → rc < b) : IntsAt E.drew E.drew.heap.size ka n ns := by
  have h1 : IntsAt E wC.heap.size ka n ns := hA.keep (Nat.le_refl _) hK (fun b o e _ e2 => by have := hf b o e; omega)
  have h2 := h1.up hK.size
  exact h2.keep (S := fun _ => False) (Nat.le_refl _) (Keeps.drew (Keeps.refl _ E)) (fun _ _ _ _ e => e)
theorem res3 {fn : Func} {o p q : Tmp} (h : fn.results = #[.tmp o, .cell p 110, .tmp q]) (tmps : Array Value) (w : World) (r : Nat) (x u v z : Value) (ho : tmps.getD o undef = x) (hp : tmps.getD p undef = .pointer (some ⟨r, 0, none⟩)) (hq : tmps.getD q undef = z) (h0 : w.cell? ⟨r, 0, none⟩ = some u) (h1 : w.cell? ⟨r, 1, none⟩ = some v) :
    (results fn tmps).run Tryz.prog w = .ok (.tuple #[x, .agg #[u, v], z]) w := by
  have ha : (asAddr (.pointer (some ⟨r, 0, none⟩))).run Tryz.prog w = .ok ⟨r, 0, none⟩ w := rfl
  have hl := load59 r u v w h0 h1
  rw [Array.getD_eq_getD_getElem?] at ho hp hq
  simp only [results, h]
  simp [Sem.run_bind, Result.andThen, ho, hp, hq, ha, hl]
theorem load_lit {w : World} {db nb mb n cap : Nat} {B : List UInt8} {k : Nat} {D : DataW Unit} {left : Int} {down : Bool} (h : DevAt w db nb mb n cap B k D left down) (v : Int) (i : Nat) (hv : v = (i : Int)) (hi : i < n) :
    Calls Tryz.prog 71 #[.pointer (some ⟨db, 0, none⟩), .int .i64 v] w fun e w' => Below w.heap.size w w' ∧ ∃ t ka kl kc ok, e = .returned (.tuple #[.agg #[.int .i64 t, .slice ka kl kc], .bool ok]) ∧ (loadOf (sec B i) = none → ok = false ∧ t = 0 ∧ ka = none ∧ kl = 0 ∧ kc = 0) ∧ (∀ t' ns, loadOf (sec B i) = some (t', ns) → ok = true ∧ t = t' ∧ kl = ns.length ∧ IntsAt w' w'.heap.size ka ns.length ns ∧ ∀ b o, ka = some ⟨b, o, none⟩ → w.heap.size ≤ b) := by
  subst hv
  refine (load_at h i hi).mono ?_
  rintro e w' ⟨hb, cv, ok, rfl, hN, hS⟩
  refine ⟨hb, ?_⟩
  cases hx : loadOf (sec B i) with
  | none =>
    obtain ⟨rfl, rfl⟩ := hN hx
    exact ⟨0, none, 0, 0, false, rfl, fun _ => ⟨rfl, rfl, rfl, rfl, rfl⟩, fun t' ns e => by cases e⟩
  | some c =>
    obtain ⟨t, ns⟩ := c
    obtain ⟨rfl, ka, kc, rfl, hA, hf⟩ := hS t ns hx
    refine ⟨t, ka, ns.length, kc, true, rfl, fun e => (by cases e), fun t' ns' e => ?_⟩
    cases e
    exact ⟨rfl, rfl, rfl, hA, hf⟩

set_option maxRecDepth 100000 in
set_option maxHeartbeats 1000000 in
theorem newest_at {w : World} {db nb mb n cap : Nat} {B : List UInt8} {k : Nat} {D : DataW Unit} {left : Int} {down : Bool} (h : DevAt w db nb mb n cap B k D left down) (hn2 : 2 ≤ n) :
    Calls Tryz.prog 61 #[.pointer (some ⟨db, 0, none⟩)] w (NewestP (newestOf (sec B 0) (sec B 1)) w) := by
  have hn0 := heap_alloc_last w (.cells #[.int .i64 0, .slice none 0 0] 110)
  have hs0 : (w.alloc (.cells #[.int .i64 0, .slice none 0 0] 110)).heap.size = w.heap.size + 1 := by simp
  have hb0 : Below w.heap.size w (w.alloc (.cells #[.int .i64 0, .slice none 0 0] 110)) := (Below.refl _ w).alloc (Nat.le_refl _) _
  obtain ⟨s0, e0⟩ : ∃ s, s = sec B 0 := ⟨_, rfl⟩
  obtain ⟨s1, e1⟩ : ∃ s, s = sec B 1 := ⟨_, rfl⟩
  rw [← e0, ← e1]
  go_enter Tryz.func61, Tryz.ntmps61
  go_wp2_with fail
  generalize w.alloc (.cells #[.int .i64 0, .slice none 0 0] 110) = w0 at hn0 hs0 hb0 ⊢
  have h0 := h.keeps (Keeps.of_below (S := fun _ => False) hb0) (fun e => e) (fun e => e) (fun e => e)
  have k0 := load_lit h0 0 0 rfl (by omega)
  rw [← e0] at k0
  refine k0.mono ?_
  rintro e w1 ⟨hb1, t0, ka0, kl0, kc0, ok0, rfl, hN0, hS0⟩
  clear k0
  have hs1 := hb1.size
  have hbA : Below w1.heap.size w1 (w1.alloc (.cells #[.int .i64 t0, .slice ka0 kl0 kc0] 110)) := (Below.refl _ w1).alloc (Nat.le_refl _) _
  have hvA := heap_alloc_last w1 (.cells #[.int .i64 t0, .slice ka0 kl0 kc0] 110)
  have hsA : (w1.alloc (.cells #[.int .i64 t0, .slice ka0 kl0 kc0] 110)).heap.size = w1.heap.size + 1 := by simp
  go_wp2_with fail
  generalize w1.alloc (.cells #[.int .i64 t0, .slice ka0 kl0 kc0] 110) = wA at hbA hvA hsA ⊢
  have hb0A : Below w0.heap.size w0 wA := hb1.trans (hbA.mono hs1)
  have hA := h0.keeps (Keeps.of_below (S := fun _ => False) hb0A) (fun e => e) (fun e => e) (fun e => e)
  have k1 := load_lit hA 1 1 rfl (by omega)
  rw [← e1] at k1
  refine k1.mono ?_
  rintro e w2 ⟨hb2, t1, ka1, kl1, kc1, ok1, rfl, hN1, hS1⟩
  clear k1
  have hs2 := hb2.size
  have hbC : Below w2.heap.size w2 (w2.alloc (.cells #[.int .i64 t1, .slice ka1 kl1 kc1] 110)) := (Below.refl _ w2).alloc (Nat.le_refl _) _
  have hvC := heap_alloc_last w2 (.cells #[.int .i64 t1, .slice ka1 kl1 kc1] 110)
  have hsC : (w2.alloc (.cells #[.int .i64 t1, .slice ka1 kl1 kc1] 110)).heap.size = w2.heap.size + 1 := by simp
  have hb2C : Below w.heap.size w (w2.alloc (.cells #[.int .i64 t1, .slice ka1 kl1 kc1] 110)) := (hb0.trans ((hb0A.trans (hb2.mono (by omega))).mono (by omega))).alloc (by have := hb0.size; omega) _
  have hvA2 : (w2.alloc (.cells #[.int .i64 t1, .slice ka1 kl1 kc1] 110)).heap[w1.heap.size]? = some (.cells #[.int .i64 t0, .slice ka0 kl0 kc0] 110) := (Below.heap_alloc _ _ _ (by omega)).trans ((hb2.block _ (by omega)).trans hvA)
  have hout : (w2.alloc (.cells #[.int .i64 t1, .slice ka1 kl1 kc1] 110)).heap[w.heap.size]? = some (.cells #[.int .i64 0, .slice none 0 0] 110) := (Below.heap_alloc _ _ _ (by omega)).trans ((hb2.block _ (by omega)).trans ((hbA.block _ (by omega)).trans ((hb1.block _ (by omega)).trans hn0)))
  have a0 : (w2.alloc (.cells #[.int .i64 t1, .slice ka1 kl1 kc1] 110)).cell? ⟨w1.heap.size, 0, none⟩ = some (.int .i64 t0) := by rw [cell_of_row _ _ 0 _ 110 (0, 0) hvA2]; rfl
  have a1 : (w2.alloc (.cells #[.int .i64 t1, .slice ka1 kl1 kc1] 110)).cell? ⟨w1.heap.size, 1, none⟩ = some (.slice ka0 kl0 kc0) := by rw [cell_of_row _ _ 1 _ 110 (0, 0) hvA2]; rfl
  have b0 : (w2.alloc (.cells #[.int .i64 t1, .slice ka1 kl1 kc1] 110)).cell? ⟨w2.heap.size, 0, none⟩ = some (.int .i64 t1) := by rw [cell_of_row _ _ 0 _ 110 (0, 0) hvC]; rfl
  have b1 : (w2.alloc (.cells #[.int .i64 t1, .slice ka1 kl1 kc1] 110)).cell? ⟨w2.heap.size, 1, none⟩ = some (.slice ka1 kl1 kc1) := by rw [cell_of_row _ _ 1 _ 110 (0, 0) hvC]; rfl
  have n1 : w.heap.size ≠ w1.heap.size := by omega
  have n2 : w.heap.size ≠ w2.heap.size := by omega
  have hS0' : ∀ t' ns, loadOf s0 = some (t', ns) → IntsAt (w2.alloc (.cells #[.int .i64 t1, .slice ka1 kl1 kc1] 110)) (w2.alloc (.cells #[.int .i64 t1, .slice ka1 kl1 kc1] 110)).heap.size ka0 ns.length ns := fun t' ns e => by
    obtain ⟨_, _, _, q, _⟩ := hS0 t' ns e
    have hb12 : Below w1.heap.size w1 (w2.alloc (.cells #[.int .i64 t1, .slice ka1 kl1 kc1] 110)) := (hbA.trans (hb2.mono (by omega))).alloc (by omega) _
    exact (q.below hb12).up hb12.size
  have hS1' : ∀ t' ns, loadOf s1 = some (t', ns) → IntsAt (w2.alloc (.cells #[.int .i64 t1, .slice ka1 kl1 kc1] 110)) (w2.alloc (.cells #[.int .i64 t1, .slice ka1 kl1 kc1] 110)).heap.size ka1 ns.length ns := fun t' ns e => by
    obtain ⟨_, _, _, q, _⟩ := hS1 t' ns e
    exact (q.below hbC).up hbC.size
  cases hx1 : loadOf s1 with
  | none =>
    obtain ⟨rfl, rfl, rfl, rfl, rfl⟩ := hN1 hx1
    have hX : Hid (newestOf s0 s1 = (0, loadOf s0)) := by show newestOf s0 s1 = _; unfold newestOf; rw [hx1]
    have H0 : Hid ((loadOf s0 = none → ok0 = false ∧ t0 = 0 ∧ ka0 = none ∧ kl0 = 0 ∧ kc0 = 0) ∧ (∀ t' ns, loadOf s0 = some (t', ns) → ok0 = true ∧ t0 = t' ∧ kl0 = ns.length ∧ IntsAt w1 w1.heap.size ka0 ns.length ns ∧ ∀ b o, ka0 = some ⟨b, o, none⟩ → w0.heap.size ≤ b)) := ⟨hN0, hS0⟩
    clear hN0 hS0 hN1 hS1 hS1' hx1 hvA2 hvC h h0 hA b0 b1
    go_wp2_with fail
    generalize w2.alloc (.cells #[.int .i64 0, .slice none 0 0] 110) = wC at hout a0 a1 hS0' hb2C hsC hbC ⊢
    obtain ⟨d0, d1, z0, z1, x0, x1, hK⟩ := ret59 hout (.int .i64 t0) (.slice ka0 kl0 kc0)
    have hsE := hK.size
    have hbE := below_dr (hb2C.trans (hK.below hb2C.size (fun i e => by omega)))
    have x0' : ((wC.setCell ⟨w.heap.size, 0, none⟩ (.int .i64 t0)).setCell ⟨w.heap.size, 1, none⟩ (.slice ka0 kl0 kc0)).drew.cell? ⟨w.heap.size, 0, none⟩ = some (.int .i64 t0) := x0
    have x1' : ((wC.setCell ⟨w.heap.size, 0, none⟩ (.int .i64 t0)).setCell ⟨w.heap.size, 1, none⟩ (.slice ka0 kl0 kc0)).drew.cell? ⟨w.heap.size, 1, none⟩ = some (.slice ka0 kl0 kc0) := x1
    have p0 : wC.drew.cell? ⟨w1.heap.size, 0, none⟩ = some (.int .i64 t0) := a0
    have p1 : wC.drew.cell? ⟨w1.heap.size, 1, none⟩ = some (.slice ka0 kl0 kc0) := a1
    go_region_held (fun w' => w'.cell? ⟨w1.heap.size, 0, none⟩ = some (.int .i64 t0) ∧ w'.cell? ⟨w1.heap.size, 1, none⟩ = some (.slice ka0 kl0 kc0)) (first | exact ⟨p0, p1⟩ | go_keep) (fail)
    all_goals go_wp2_with fail
    all_goals refine bodyPost_ret (res3 (o := 2) (p := 3) (q := 4) rfl _ _ w.heap.size _ _ _ _ rfl rfl rfl x0' x1') rfl ?_
    all_goals refine ⟨hbE, _, ok0, by rw [hX.out]; rfl, fun e => ?_, fun t' ns e => ?_⟩
    all_goals rw [hX.out] at e
    · obtain ⟨rfl, rfl, rfl, rfl, rfl⟩ := H0.out.1 e
      exact ⟨rfl, rfl⟩
    · obtain ⟨rfl, rfl, rfl, _, hf⟩ := H0.out.2 t' ns e
      exact ⟨rfl, ka0, kc0, rfl, fin_ints (hS0' _ ns e) hK (fun b o q => by have := hf b o q; omega), fun b o q => by have := hf b o q; omega⟩
  | some gg =>
    obtain ⟨t1', ns1⟩ := gg
    obtain ⟨rfl, rfl, rfl, hI1, hf1⟩ := hS1 t1' ns1 hx1
    have hF1 := (loadOf_some hx1).1
    cases hx0 : loadOf s0 with
    | none =>
      obtain ⟨rfl, rfl, rfl, rfl, rfl⟩ := hN0 hx0
      have hX : Hid (newestOf s0 s1 = (1, some (t1, ns1))) := by show newestOf s0 s1 = _; unfold newestOf; rw [hx1, hx0]
      have hI2 := hS1' t1 ns1 hx1
      clear hN0 hS0 hN1 hS1 hS1' hS0' hx1 hx0 hvA2 hvC h h0 hA a0 a1
      go_wp2_with fail
      generalize w2.alloc (.cells #[.int .i64 t1, .slice ka1 ns1.length kc1] 110) = wC at hout b0 b1 hI2 hb2C hsC hbC ⊢
      obtain ⟨d0, d1, z0, z1, x0, x1, hK⟩ := ret59 hout (.int .i64 t1) (.slice ka1 ns1.length kc1)
      have hsE := hK.size
      have hbE := below_dr (hb2C.trans (hK.below hb2C.size (fun i e => by omega)))
      have x0' : ((wC.setCell ⟨w.heap.size, 0, none⟩ (.int .i64 t1)).setCell ⟨w.heap.size, 1, none⟩ (.slice ka1 ns1.length kc1)).drew.cell? ⟨w.heap.size, 0, none⟩ = some (.int .i64 t1) := x0
      have x1' : ((wC.setCell ⟨w.heap.size, 0, none⟩ (.int .i64 t1)).setCell ⟨w.heap.size, 1, none⟩ (.slice ka1 ns1.length kc1)).drew.cell? ⟨w.heap.size, 1, none⟩ = some (.slice ka1 ns1.length kc1) := x1
      have p0 : wC.drew.cell? ⟨w2.heap.size, 0, none⟩ = some (.int .i64 t1) := b0
      have p1 : wC.drew.cell? ⟨w2.heap.size, 1, none⟩ = some (.slice ka1 ns1.length kc1) := b1
      go_region_held (fun w' => w'.cell? ⟨w2.heap.size, 0, none⟩ = some (.int .i64 t1) ∧ w'.cell? ⟨w2.heap.size, 1, none⟩ = some (.slice ka1 ns1.length kc1)) (first | exact ⟨p0, p1⟩ | go_keep) (fail)
      all_goals go_wp2_with fail
      all_goals refine bodyPost_ret (res3 (o := 2) (p := 3) (q := 4) rfl _ _ w.heap.size _ _ _ _ rfl rfl rfl x0' x1') rfl ?_
      all_goals refine ⟨hbE, _, true, by rw [hX.out]; rfl, fun e => ?_, fun t' ns e => ?_⟩
      all_goals rw [hX.out] at e
      · cases e
      · cases e
        exact ⟨rfl, ka1, kc1, rfl, fin_ints hI2 hK (fun b o q => by have := hf1 b o q; omega), fun b o q => by have := hf1 b o q; omega⟩
    | some ff =>
      obtain ⟨t0', ns0⟩ := ff
      obtain ⟨rfl, rfl, rfl, hI0, hf0⟩ := hS0 t0' ns0 hx0
      have hF0 := (loadOf_some hx0).1
      have hI2 := hS1' t1 ns1 hx1
      have hI3 := hS0' t0 ns0 hx0
      have hX : Hid (newestOf s0 s1 = if newerT t1 t0 = true then (1, some (t1, ns1)) else (0, some (t0, ns0))) := by show newestOf s0 s1 = _; unfold newestOf; rw [hx1, hx0]
      clear hN0 hS0 hN1 hS1 hS1' hS0' hx1 hx0 hvA2 hvC h h0 hA
      clear e0 e1
      go_wp2_with fail
      generalize w2.alloc (.cells #[.int .i64 t1, .slice ka1 ns1.length kc1] 110) = wC at hout a0 a1 b0 b1 hI2 hI3 hb2C hsC hbC ⊢
      refine (newer_at t1 t0 hF1.t0 hF1.t1 hF0.t0 hF0.t1 wC).mono ?_
      rintro e w3 ⟨rfl, hw3⟩
      subst hw3
      cases hnw : newerT t1 t0
      · have hX2 : Hid (newestOf s0 s1 = (0, some (t0, ns0))) := by show newestOf s0 s1 = _; rw [hX.out, if_neg (by rw [hnw]; decide)]
        clear hX hnw
        go_wp2_with fail
        obtain ⟨d0, d1, z0, z1, x0, x1, hK⟩ := ret59 hout (.int .i64 t0) (.slice ka0 ns0.length kc0)
        have hsE := hK.size
        have hbE := below_dr (hb2C.trans (hK.below hb2C.size (fun i e => by omega)))
        have x0' : ((w3.setCell ⟨w.heap.size, 0, none⟩ (.int .i64 t0)).setCell ⟨w.heap.size, 1, none⟩ (.slice ka0 ns0.length kc0)).drew.cell? ⟨w.heap.size, 0, none⟩ = some (.int .i64 t0) := x0
        have x1' : ((w3.setCell ⟨w.heap.size, 0, none⟩ (.int .i64 t0)).setCell ⟨w.heap.size, 1, none⟩ (.slice ka0 ns0.length kc0)).drew.cell? ⟨w.heap.size, 1, none⟩ = some (.slice ka0 ns0.length kc0) := x1
        have p0 : w3.drew.cell? ⟨w1.heap.size, 0, none⟩ = some (.int .i64 t0) := a0
        have p1 : w3.drew.cell? ⟨w1.heap.size, 1, none⟩ = some (.slice ka0 ns0.length kc0) := a1
        go_region_held (fun w' => w'.cell? ⟨w1.heap.size, 0, none⟩ = some (.int .i64 t0) ∧ w'.cell? ⟨w1.heap.size, 1, none⟩ = some (.slice ka0 ns0.length kc0)) (first | exact ⟨p0, p1⟩ | go_keep) (fail)
        all_goals go_wp2_with fail
        all_goals refine bodyPost_ret (res3 (o := 2) (p := 3) (q := 4) rfl _ _ w.heap.size _ _ _ _ rfl rfl rfl x0' x1') rfl ?_
        all_goals refine ⟨hbE, _, true, by rw [hX2.out]; rfl, fun e => ?_, fun t' ns e => ?_⟩
        all_goals rw [hX2.out] at e
        · cases e
        · cases e
          exact ⟨rfl, ka0, kc0, rfl, fin_ints hI3 hK (fun b o q => by have := hf0 b o q; omega), fun b o q => by have := hf0 b o q; omega⟩
      · have hX2 : Hid (newestOf s0 s1 = (1, some (t1, ns1))) := by show newestOf s0 s1 = _; rw [hX.out, if_pos hnw]
        clear hX hnw
        go_wp2_with fail
        obtain ⟨d0, d1, z0, z1, x0, x1, hK⟩ := ret59 hout (.int .i64 t1) (.slice ka1 ns1.length kc1)
        have hsE := hK.size
        have hbE := below_dr (hb2C.trans (hK.below hb2C.size (fun i e => by omega)))
        have x0' : ((w3.setCell ⟨w.heap.size, 0, none⟩ (.int .i64 t1)).setCell ⟨w.heap.size, 1, none⟩ (.slice ka1 ns1.length kc1)).drew.cell? ⟨w.heap.size, 0, none⟩ = some (.int .i64 t1) := x0
        have x1' : ((w3.setCell ⟨w.heap.size, 0, none⟩ (.int .i64 t1)).setCell ⟨w.heap.size, 1, none⟩ (.slice ka1 ns1.length kc1)).drew.cell? ⟨w.heap.size, 1, none⟩ = some (.slice ka1 ns1.length kc1) := x1
        have p0 : w3.drew.cell? ⟨w2.heap.size, 0, none⟩ = some (.int .i64 t1) := b0
        have p1 : w3.drew.cell? ⟨w2.heap.size, 1, none⟩ = some (.slice ka1 ns1.length kc1) := b1
        go_region_held (fun w' => w'.cell? ⟨w2.heap.size, 0, none⟩ = some (.int .i64 t1) ∧ w'.cell? ⟨w2.heap.size, 1, none⟩ = some (.slice ka1 ns1.length kc1)) (first | exact ⟨p0, p1⟩ | go_keep) (fail)
        all_goals go_wp2_with fail
        all_goals refine bodyPost_ret (res3 (o := 2) (p := 3) (q := 4) rfl _ _ w.heap.size _ _ _ _ rfl rfl rfl x0' x1') rfl ?_
        all_goals refine ⟨hbE, _, true, by rw [hX2.out]; rfl, fun e => ?_, fun t' ns e => ?_⟩
        all_goals rw [hX2.out] at e
        · cases e
        · cases e
          exact ⟨rfl, ka1, kc1, rfl, fin_ints hI2 hK (fun b o q => by have := hf1 b o q; omega), fun b o q => by have := hf1 b o q; omega⟩
end Go.Proofs.YtlmdeafmlommeaaGreatDoor
