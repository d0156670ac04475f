import Derived.Test.YtmdjjnjhjojimaaDoorAllE
namespace Go.Proofs.YtmdjjnjhjojimaaDoor
open Go.RowKit Go.Maps

theorem owns_keeps {S : Nat → Prop} {w w' : World} {base : Nat} {e : TypeId} {s n : Nat} {v : Value} {xs : List Value} (h : w.ownsRow base e s v n xs) (hk : Keeps S w w') (hn : ∀ b, v.ownBlock = some b → ¬ S b) : w'.ownsRow base e s v n xs := by
  obtain ⟨hl, ⟨e, h0⟩ | ⟨g, cap, cur, e, hg, hblk, hr⟩⟩ := h
  · exact ⟨hl, Or.inl ⟨e, h0⟩⟩
  · exact ⟨hl, Or.inr ⟨g, cap, cur, e, hg, (hk.block g (Array.getElem?_eq_some_iff.1 hblk).1 (hn g (by rw [e]; rfl))).trans hblk, hr⟩⟩
/-- One list's rows: 64 noughts each, in blocks of their own. -/
def Rowz (w : World) (L j : Nat) (u v : Value) (xs : List Value) : Prop := ∀ i, i < j → ∃ b c, xs[i]? = some (.slice (some ⟨b, 0, none⟩) 64 c) ∧ L ≤ b ∧ b < w.heap.size ∧ u.ownBlock ≠ some b ∧ v.ownBlock ≠ some b ∧ w.rangeAt b 0 (bytesV zsec)
/-- Two lists side by side. -/
structure Two (w : World) (L : Nat) (v1 : Value) (j1 : Nat) (xs1 : List Value) (v2 : Value) (j2 : Nat) (xs2 : List Value) : Prop where
  o1 : w.ownsRow L 33 1 v1 j1 xs1
  o2 : w.ownsRow L 33 1 v2 j2 xs2
  ne : ∀ b, v1.ownBlock = some b → v2.ownBlock ≠ some b
  e1 : Rowz w L j1 v1 v2 xs1
  e2 : Rowz w L j2 v1 v2 xs2
theorem Two.swap {w : World} {L : Nat} {v1 : Value} {j1 : Nat} {xs1 : List Value} {v2 : Value} {j2 : Nat} {xs2 : List Value} (h : Two w L v1 j1 xs1 v2 j2 xs2) : Two w L v2 j2 xs2 v1 j1 xs1 where
  o1 := h.o2
  o2 := h.o1
  ne := fun b h2 h1 => h.ne b h1 h2
  e1 := fun i hi => by obtain ⟨b, c, q1, q2, q3, q4, q5, q6⟩ := h.e2 i hi; exact ⟨b, c, q1, q2, q3, q5, q4, q6⟩
  e2 := fun i hi => by obtain ⟨b, c, q1, q2, q3, q4, q5, q6⟩ := h.e1 i hi; exact ⟨b, c, q1, q2, q3, q5, q4, q6⟩
theorem Two.keeps {S : Nat → Prop} {w w' : World} {L : Nat} {v1 : Value} {j1 : Nat} {xs1 : List Value} {v2 : Value} {j2 : Nat} {xs2 : List Value} (h : Two w L v1 j1 xs1 v2 j2 xs2) (hk : Keeps S w w') (hS : ∀ b, L ≤ b → ¬ S b) : Two w' L v1 j1 xs1 v2 j2 xs2 where
  o1 := owns_keeps h.o1 hk (fun b hb => hS b (h.o1.lt b hb).1)
  o2 := owns_keeps h.o2 hk (fun b hb => hS b (h.o2.lt b hb).1)
  ne := h.ne
  e1 := fun i hi => by
    obtain ⟨b, c, q1, q2, q3, q4, q5, q6⟩ := h.e1 i hi
    exact ⟨b, c, q1, q2, Nat.lt_of_lt_of_le q3 hk.size, q4, q5, fun k u hu => (hk.cell (p := ⟨b, 0 + k, none⟩) q3 (hS b q2)).trans (q6 k u hu)⟩
  e2 := fun i hi => by
    obtain ⟨b, c, q1, q2, q3, q4, q5, q6⟩ := h.e2 i hi
    exact ⟨b, c, q1, q2, Nat.lt_of_lt_of_le q3 hk.size, q4, q5, fun k u hu => (hk.cell (p := ⟨b, 0 + k, none⟩) q3 (hS b q2)).trans (q6 k u hu)⟩
/-- One more row in the first list. -/
theorem Two.half {w w' : World} {L : Nat} {v1 : Value} {j1 : Nat} {xs1 : List Value} {v2 : Value} {j2 : Nat} {xs2 : List Value} (h : Two w L v1 j1 xs1 v2 j2 xs2) (hk : Keeps (fun x => v1.ownBlock = some x) w w') {g c B0 c0 : Nat} (hL : L ≤ w.heap.size)
    (ho : w'.ownsRow L 33 1 (.slice (some ⟨g, 0, none⟩) (j1 + 1) c) (j1 + 1) (xs1 ++ [.slice (some ⟨B0, 0, none⟩) 64 c0])) (hat : v1.ownBlock = some g ∨ B0 < g) (hB0 : w.heap.size ≤ B0) (hB1 : B0 < w'.heap.size) (hr : w'.rangeAt B0 0 (bytesV zsec)) :
    Two w' L (.slice (some ⟨g, 0, none⟩) (j1 + 1) c) (j1 + 1) (xs1 ++ [.slice (some ⟨B0, 0, none⟩) 64 c0]) v2 j2 xs2 := by
  have hx1 : xs1.length = j1 := by have := h.o1.1; omega
  have hgB : g ≠ B0 := by
    rcases hat with e | e
    · have := (h.o1.lt g e).2; omega
    · omega
  have hg2 : v2.ownBlock ≠ some g := by
    rcases hat with e | e
    · exact h.ne g e
    · intro e2
      have := (h.o2.lt g e2).2; omega
  have hold : ∀ b, b < w.heap.size → v1.ownBlock ≠ some b → (Value.slice (some ⟨g, 0, none⟩) (j1 + 1) c).ownBlock ≠ some b := by
    intro b hb hne e
    have e' : g = b := by simpa [Value.ownBlock] using e
    rcases hat with e1 | e1
    · exact hne (e' ▸ e1)
    · omega
  refine ⟨ho, owns_keeps h.o2 hk (fun b hb e => h.ne b e hb), fun b e => ?_, fun i hi => ?_, fun i hi => ?_⟩
  · have e' : g = b := by simpa [Value.ownBlock] using e
    exact e' ▸ hg2
  · by_cases hij : i < j1
    · obtain ⟨b, c', q1, q2, q3, q4, q5, q6⟩ := h.e1 i hij
      exact ⟨b, c', by rw [List.getElem?_append_left (by omega)]; exact q1, q2, Nat.lt_of_lt_of_le q3 hk.size, hold b q3 q4, q5, fun k u hu => (hk.cell (p := ⟨b, 0 + k, none⟩) q3 q4).trans (q6 k u hu)⟩
    · have hij' : i = j1 := by omega
      subst hij'
      refine ⟨B0, c0, by rw [List.getElem?_append_right (by omega), hx1, Nat.sub_self]; rfl, by omega, hB1, fun e => hgB (by simpa [Value.ownBlock] using e), fun e => ?_, hr⟩
      have := (h.o2.lt B0 e).2; omega
  · obtain ⟨b, c', q1, q2, q3, q4, q5, q6⟩ := h.e2 i hi
    exact ⟨b, c', q1, q2, Nat.lt_of_lt_of_le q3 hk.size, hold b q3 q4, q5, fun k u hu => (hk.cell (p := ⟨b, 0 + k, none⟩) q3 q4).trans (q6 k u hu)⟩
/-- The loop's: the device so far. -/
structure NInv (w : World) (L r lb cl n j : Nat) (v1 v2 : Value) (xs1 xs2 : List Value) : Prop where
  c0 : w.cell? ⟨r, 0, none⟩ = some v1
  c1 : w.cell? ⟨r, 1, none⟩ = some v2
  c2 : w.cell? ⟨r, 2, none⟩ = some (.slice (some ⟨lb, 0, none⟩) n cl)
  c3 : w.cell? ⟨r, 3, none⟩ = some (.int .i64 0)
  c4 : w.cell? ⟨r, 4, none⟩ = some (.bool false)
  f : ∀ o, w.frozen? ⟨r, o, none⟩ = false
  two : Two w L v1 j xs1 v2 j xs2
  lz : ∀ i, i < n → w.cell? ⟨lb, i, none⟩ = some (.bool false)
  lf : ∀ o, w.frozen? ⟨lb, o, none⟩ = false
  lim : r < L ∧ lb < L ∧ r ≠ lb ∧ L ≤ w.heap.size
theorem NInv.done {w : World} {L r lb cl n : Nat} {v1 v2 : Value} {xs1 xs2 : List Value} (h : NInv w L r lb cl n n v1 v2 xs1 xs2) (base : Nat) (hb1 : base ≤ r) (n1 : 64 ≤ n) (n2 : n ≤ 4096) : ∃ nb sb cn cs,
    RefAt w (fun b => b < base ∨ b = r ∨ b = nb ∨ b = sb ∨ b = lb) r nb sb lb n cn cs cl (fun _ => zsec) (fun _ => zsec) (fun _ => false) 0 false ∧ base ≤ nb ∧ base ≤ sb := by
  obtain ⟨l1, l2, l3, l4⟩ := h.lim
  obtain ⟨nb, cn, rfl, x1, x2⟩ := h.two.o1.form (by omega)
  obtain ⟨sb, cs, rfl, y1, y2⟩ := h.two.o2.form (by omega)
  have hne : nb ≠ sb := fun e => h.two.ne nb rfl (by rw [e]; rfl)
  refine ⟨nb, sb, cn, cs, { c0 := h.c0, c1 := h.c1, c2 := h.c2, c3 := h.c3, c4 := h.c4, f := h.f, now := ?_, safe := ?_, lz := h.lz, lf := h.lf, llt := by omega, bad := ⟨Or.inr (Or.inl rfl), Or.inr (Or.inr (Or.inl rfl)), Or.inr (Or.inr (Or.inr (Or.inl rfl))), Or.inr (Or.inr (Or.inr (Or.inr rfl)))⟩, ne := by omega, blt := fun b hb => by rcases hb with e | e | e | e | e <;> omega, n1 := n1, n2 := n2, u0 := by omega, u1 := by omega }, by omega, by omega⟩
  · refine ⟨fun i hi => ?_, h.two.o1.frozenAt, fun _ _ => rfl, x2⟩
    obtain ⟨b, c, q1, q2, q3, q4, q5, q6⟩ := h.two.e1 i hi
    refine ⟨b, c, (h.two.o1.cellAt i (by omega)).trans q1, q3, fun e => ?_, q6⟩
    have k1 : nb ≠ b := fun e => q4 (by rw [← e]; rfl)
    have k2 : sb ≠ b := fun e => q5 (by rw [← e]; rfl)
    rcases e with e | e | e | e | e <;> omega
  · refine ⟨fun i hi => ?_, h.two.o2.frozenAt, fun _ _ => rfl, y2⟩
    obtain ⟨b, c, q1, q2, q3, q4, q5, q6⟩ := h.two.e2 i hi
    refine ⟨b, c, (h.two.o2.cellAt i (by omega)).trans q1, q3, fun e => ?_, q6⟩
    have k1 : nb ≠ b := fun e => q4 (by rw [← e]; rfl)
    have k2 : sb ≠ b := fun e => q5 (by rw [← e]; rfl)
    rcases e with e | e | e | e | e <;> omega
theorem NInv.keeps {S : Nat → Prop} {w w' : World} {L r lb cl n j : Nat} {v1 v2 : Value} {xs1 xs2 : List Value} (h : NInv w L r lb cl n j v1 v2 xs1 xs2) (hk : Keeps S w w') (hS : ∀ b, ¬ S b) : NInv w' L r lb cl n j v1 v2 xs1 xs2 := by
  obtain ⟨l1, l2, l3, l4⟩ := h.lim
  have hs := hk.size
  have hr : r < w.heap.size := by omega
  have hl : lb < w.heap.size := by omega
  exact { c0 := (hk.cell (p := ⟨r, 0, none⟩) hr (hS r)).trans h.c0, c1 := (hk.cell (p := ⟨r, 1, none⟩) hr (hS r)).trans h.c1, c2 := (hk.cell (p := ⟨r, 2, none⟩) hr (hS r)).trans h.c2, c3 := (hk.cell (p := ⟨r, 3, none⟩) hr (hS r)).trans h.c3, c4 := (hk.cell (p := ⟨r, 4, none⟩) hr (hS r)).trans h.c4,
          f := fun o => (hk.frozen (p := ⟨r, o, none⟩) hr (hS r)).trans (h.f o), two := h.two.keeps hk (fun b _ => hS b), lz := fun i hi => (hk.cell (p := ⟨lb, i, none⟩) hl (hS lb)).trans (h.lz i hi), lf := fun o => (hk.frozen (p := ⟨lb, o, none⟩) hl (hS lb)).trans (h.lf o), lim := ⟨l1, l2, l3, by omega⟩ }
/-- Behind a round. -/
theorem NInv.round {w w1 w2 : World} {L r lb cl n j : Nat} {v1 v2 : Value} {xs1 xs2 : List Value} (h : NInv w L r lb cl n j v1 v2 xs1 xs2) {g1 cg1 B1 c1 g2 cg2 B2 c2 : Nat}
    (hk1 : Keeps (fun x => v1.ownBlock = some x) w w1) (ho1 : w1.ownsRow L 33 1 (.slice (some ⟨g1, 0, none⟩) (j + 1) cg1) (j + 1) (xs1 ++ [.slice (some ⟨B1, 0, none⟩) 64 c1])) (ha1 : v1.ownBlock = some g1 ∨ B1 < g1) (hB1 : w.heap.size ≤ B1) (hC1 : B1 < w1.heap.size) (hr1 : w1.rangeAt B1 0 (bytesV zsec))
    (hk2 : Keeps (fun x => v2.ownBlock = some x) w1 w2) (ho2 : w2.ownsRow L 33 1 (.slice (some ⟨g2, 0, none⟩) (j + 1) cg2) (j + 1) (xs2 ++ [.slice (some ⟨B2, 0, none⟩) 64 c2])) (ha2 : v2.ownBlock = some g2 ∨ B2 < g2) (hB2 : w1.heap.size ≤ B2) (hC2 : B2 < w2.heap.size) (hr2 : w2.rangeAt B2 0 (bytesV zsec)) :
    NInv ((w2.setCell ⟨r, 0, none⟩ (.slice (some ⟨g1, 0, none⟩) (j + 1) cg1)).setCell ⟨r, 1, none⟩ (.slice (some ⟨g2, 0, none⟩) (j + 1) cg2)) L r lb cl n (j + 1) (.slice (some ⟨g1, 0, none⟩) (j + 1) cg1) (.slice (some ⟨g2, 0, none⟩) (j + 1) cg2) (xs1 ++ [.slice (some ⟨B1, 0, none⟩) 64 c1]) (xs2 ++ [.slice (some ⟨B2, 0, none⟩) 64 c2]) ∧
      Keeps (fun x => x = r ∨ L ≤ x) w ((w2.setCell ⟨r, 0, none⟩ (.slice (some ⟨g1, 0, none⟩) (j + 1) cg1)).setCell ⟨r, 1, none⟩ (.slice (some ⟨g2, 0, none⟩) (j + 1) cg2)) := by
  obtain ⟨l1, l2, l3, l4⟩ := h.lim
  have s1 := hk1.size
  have s2 := hk2.size
  have t1 := h.two.half hk1 l4 ho1 ha1 hB1 hC1 hr1
  have t2 := (t1.swap.half hk2 (by omega) ho2 ha2 hB2 hC2 hr2).swap
  have hn1 : ∀ b, b < L → ¬ v1.ownBlock = some b := fun b hb e => by have := (h.two.o1.lt b e).1; omega
  have hn2 : ∀ b, b < L → ¬ v2.ownBlock = some b := fun b hb e => by have := (h.two.o2.lt b e).1; omega
  have hc : ∀ b o, b < L → w2.cell? ⟨b, o, none⟩ = w.cell? ⟨b, o, none⟩ := fun b o hb => (hk2.cell (p := ⟨b, o, none⟩) (by show b < _; omega) (hn2 b hb)).trans (hk1.cell (p := ⟨b, o, none⟩) (by show b < _; omega) (hn1 b hb))
  have hf : ∀ b o, b < L → w2.frozen? ⟨b, o, none⟩ = w.frozen? ⟨b, o, none⟩ := fun b o hb => (hk2.frozen (p := ⟨b, o, none⟩) (by show b < _; omega) (hn2 b hb)).trans (hk1.frozen (p := ⟨b, o, none⟩) (by show b < _; omega) (hn1 b hb))
  have d0 : w2.cell? ⟨r, 0, none⟩ = some v1 := (hc r 0 l1).trans h.c0
  have d1 : w2.cell? ⟨r, 1, none⟩ = some v2 := (hc r 1 l1).trans h.c1
  have hk3 : Keeps (fun x => x = r) w2 ((w2.setCell ⟨r, 0, none⟩ (.slice (some ⟨g1, 0, none⟩) (j + 1) cg1)).setCell ⟨r, 1, none⟩ (.slice (some ⟨g2, 0, none⟩) (j + 1) cg2)) := ((Keeps.refl (fun x => x = r) w2).setCell (p := ⟨r, 0, none⟩) rfl _).setCell (p := ⟨r, 1, none⟩) rfl _
  have hsz := hk3.size
  refine ⟨{ c0 := ?_, c1 := ?_, c2 := ?_, c3 := ?_, c4 := ?_, f := fun o => ?_, two := t2.keeps hk3 (fun b hb e => by omega), lz := fun i hi => (hk3.cell (p := ⟨lb, i, none⟩) (by show lb < _; omega) (fun e => l3 e.symm)).trans ((hc lb i l2).trans (h.lz i hi)), lf := fun o => (hk3.frozen (p := ⟨lb, o, none⟩) (by show lb < _; omega) (fun e => l3 e.symm)).trans ((hf lb o l2).trans (h.lf o)), lim := ⟨l1, l2, l3, by omega⟩ }, ?_⟩
  · rw [World.cell?_setCell_other _ _ _ _ (by simp)]; exact World.cell?_setCell_same _ _ _ d0
  · exact World.cell?_setCell_same _ _ _ ((World.cell?_setCell_other _ _ _ _ (by simp)).trans d1)
  · rw [World.cell?_setCell_other _ _ _ _ (by simp), World.cell?_setCell_other _ _ _ _ (by simp)]; exact (hc r 2 l1).trans h.c2
  · rw [World.cell?_setCell_other _ _ _ _ (by simp), World.cell?_setCell_other _ _ _ _ (by simp)]; exact (hc r 3 l1).trans h.c3
  · rw [World.cell?_setCell_other _ _ _ _ (by simp), World.cell?_setCell_other _ _ _ _ (by simp)]; exact (hc r 4 l1).trans h.c4
  · rw [World.frozen?_setCell, World.frozen?_setCell]; exact (hf r o l1).trans (h.f o)
  · exact (hk1.mono (fun x e => Or.inr (h.two.o1.lt x e).1)).trans ((hk2.mono (fun x e => Or.inr (h.two.o2.lt x e).1)).trans (hk3.mono (fun x e => Or.inl e)))
end Go.Proofs.YtmdjjnjhjojimaaDoor

namespace Go.Proofs.YtmdjjnjhjojimaaDoor
open Go.RowKit Go.Maps

/-- Has number k come up? -/
def fl (L : Array Bool) (k : Nat) : Bool := L.getD k false
theorem fl_set {L : Array Bool} {i : Nat} (hi : i < L.size) (k : Nat) : fl (L.setIfInBounds i true) k = if k = i then true else fl L k := by
  unfold fl
  simp only [Array.getD_eq_getD_getElem?, Array.getElem?_setIfInBounds]
  by_cases e : k = i
  · subst e; simp [hi]
  · rw [if_neg (fun x => e x.symm), if_neg e]
/-- Number i waits for number k. -/
def waits (ops : Array Oper) (i k : Nat) : Bool := match ops[i]? with
  | some o => o.after.any (fun e => Region.binds .any e && e.on == k)
  | none => false
def forward (ops : Array Oper) : Bool := (List.range ops.size).all fun i => match ops[i]? with
  | some o => o.after.all (fun e => !Region.binds .any e || decide (e.on < i))
  | none => true
theorem ready_all {ops : Array Oper} (hf : forward ops = true) {L : Array Bool} (hL : L.size = ops.size) (h : Region.ready .any ops L = []) : ∀ k, k < ops.size → fl L k = true := by
  intro k
  induction k using Nat.strongRecOn with
  | ind k ih =>
    intro hk
    cases hfl : fl L k with
    | true => rfl
    | false =>
      have hm : k ∈ Region.ready .any ops L := by
        refine mem_ready.2 ⟨?_, ops[k], Array.getElem?_eq_getElem hk, fun e he hb => ?_⟩
        · unfold fl at hfl
          rw [Array.getD_eq_getD_getElem?, Array.getElem?_eq_getElem (by omega)] at hfl ⊢
          exact hfl
        · have h1 := List.all_eq_true.1 hf k (List.mem_range.2 hk)
          rw [Array.getElem?_eq_getElem hk] at h1
          have h2 := Array.all_eq_true'.1 h1 e he
          rw [hb] at h2
          have h3 : e.on < k := by simpa using h2
          exact ih e.on h3 (by omega)
      rw [h] at hm
      cases hm
/-- A condition that each step carries on, in whatever order, holds at the end. -/
theorem any_inv {P : Program} {ops : Array Oper} {Q : Exit → Act → World → Prop} {I : Array Bool → Act → World → Prop} (hsz : ∀ L a w, I L a w → L.size = ops.size) (hf : forward ops = true)
    (hdone : ∀ L a w, I L a w → (∀ k, k < ops.size → fl L k = true) → Q .normal a w)
    (hstep : ∀ i, i < ops.size → ∀ L a w, I L a w → fl L i = false → (∀ k, waits ops i k = true → fl L k = true) → wpOp P ops Q i (fun a' w' => I (L.setIfInBounds i true) a' w') a w) :
    ∀ fuel L a w, I L a w → L.toList.count false ≤ fuel → wpAny P .any ops Q fuel L a w := by
  intro fuel
  induction fuel with
  | zero =>
    intro L a w hI hc
    have hr : Region.ready .any ops L = [] := by
      refine List.eq_nil_iff_forall_not_mem.2 (fun i hi => ?_)
      obtain ⟨h1, _⟩ := mem_ready.1 hi
      rw [Array.getD_eq_getD_getElem?] at h1
      have h2 : L[i]? = some false := by
        cases hx : L[i]? with
        | none => rw [hx] at h1; cases h1
        | some b => rw [hx] at h1; simpa using h1
      have h3 : false ∈ L.toList := by
        obtain ⟨hlt, e⟩ := Array.getElem?_eq_some_iff.1 h2
        rw [← e]; exact Array.getElem_mem_toList hlt
      have := List.count_pos_iff.2 h3
      omega
    exact ⟨hr, hdone L a w hI (ready_all hf (hsz L a w hI) hr)⟩
  | succ fuel ih =>
    intro L a w hI hc
    have hL := hsz L a w hI
    refine ⟨fun hr => hdone L a w hI (ready_all hf hL hr), fun i hi => ?_⟩
    obtain ⟨h1, o, ho, hall⟩ := mem_ready.1 hi
    have hlt : i < ops.size := (Array.getElem?_eq_some_iff.1 ho).1
    have hlt' : i < L.size := by omega
    have hfi : fl L i = false := by
      unfold fl
      rw [Array.getD_eq_getD_getElem?, Array.getElem?_eq_getElem hlt'] at h1 ⊢
      exact h1
    refine wpOp_mono (fun a' w' h' => ih _ a' w' h' ?_) (hstep i hlt L a w hI hfi (fun k hk => ?_))
    · rw [Array.toList_setIfInBounds]
      have hlt2 : i < L.toList.length := by simpa using hlt'
      have hv : L.toList[i] = false := by
        unfold fl at hfi
        rw [Array.getD_eq_getD_getElem?, Array.getElem?_eq_getElem hlt'] at hfi
        simpa using hfi
      rw [List.count_set hlt2, hv, if_pos (show (false == false) = true from rfl), if_neg (show ¬ (true == false) = true by decide)]
      omega
    · unfold waits at hk
      rw [ho] at hk
      obtain ⟨e, he, hb⟩ := Array.any_eq_true'.1 hk
      rw [Bool.and_eq_true, beq_iff_eq] at hb
      have := hall e he hb.1
      rw [hb.2] at this
      exact this
/-- An operation that gives a value. -/
theorem wpOp_value {P : Program} {ops : Array Oper} {Q : Exit → Act → World → Prop} {i : Nat} {K : Act → World → Prop} {a : Act} {w : World} {o : Oper} {v : Value} {w' : World} (ho : ops[i]? = some o) (hg : o.guard = none) (hr : (execOp a.eval o).run P w = .ok (.value v) w') (hK : K (a.put o.dst v) w') : wpOp P ops Q i K a w := by
  unfold wpOp
  rw [ho]
  simp only [Region.wanted, hg, if_true]
  left
  unfold Oper.wp
  rw [hr]
  exact hK
theorem wpOp_oper {P : Program} {ops : Array Oper} {Q : Exit → Act → World → Prop} {i : Nat} {K : Act → World → Prop} {a : Act} {w : World} {o : Oper} (ho : ops[i]? = some o) (hg : o.guard = none) (h : o.wp P a w K Q) : wpOp P ops Q i K a w := by
  unfold wpOp
  rw [ho]
  simp only [Region.wanted, hg, if_true]
  exact Or.inl h

/-- One list's part: made, laid out, appended. -/
structure Ch (wr w : World) (Lm j : Nat) (v : Value) (xs : List Value) (M B A : Bool) (xm xb xa : Value) (m g : Nat) : Prop where
  bm : B = true → M = true
  ab : A = true → B = true
  hM : M = true → xm = .slice (some ⟨m, 0, none⟩) 64 64 ∧ wr.heap.size ≤ m ∧ m < w.heap.size ∧ w.rangeAt m 0 (bytesV zsec)
  hB : B = true → A = false → ∃ b, xb = .slice (some ⟨b, 0, none⟩) 1 1 ∧ wr.heap.size ≤ b ∧ b < w.heap.size ∧ w.cell? ⟨b, 0, none⟩ = some (.slice (some ⟨m, 0, none⟩) 64 64)
  hN : A = false → w.ownsRow Lm 33 1 v j xs
  hA : A = true → ∃ c, xa = .slice (some ⟨g, 0, none⟩) (j + 1) c ∧ w.ownsRow Lm 33 1 xa (j + 1) (xs ++ [.slice (some ⟨m, 0, none⟩) 64 64]) ∧ g < w.heap.size ∧ (v.ownBlock = some g ∨ wr.heap.size ≤ g) ∧ m ≠ g
theorem Ch.keep {T : Nat → Prop} {wr w w' : World} {Lm j : Nat} {v : Value} {xs : List Value} {M B A : Bool} {xm xb xa : Value} {m g : Nat} (h : Ch wr w Lm j v xs M B A xm xb xa m g) (hk : Keeps T w w') (hT : ∀ b, T b → b < wr.heap.size ∧ v.ownBlock ≠ some b) : Ch wr w' Lm j v xs M B A xm xb xa m g where
  bm := h.bm
  ab := h.ab
  hM := fun e => by
    obtain ⟨q1, q2, q3, q4⟩ := h.hM e
    exact ⟨q1, q2, Nat.lt_of_lt_of_le q3 hk.size, fun k u hu => (hk.cell (p := ⟨m, 0 + k, none⟩) q3 (fun t => by have := (hT m t).1; omega)).trans (q4 k u hu)⟩
  hB := fun e1 e2 => by
    obtain ⟨b, q1, q2, q3, q4⟩ := h.hB e1 e2
    exact ⟨b, q1, q2, Nat.lt_of_lt_of_le q3 hk.size, (hk.cell (p := ⟨b, 0, none⟩) q3 (fun t => by have := (hT b t).1; omega)).trans q4⟩
  hN := fun e => owns_keeps (h.hN e) hk (fun b hb t => (hT b t).2 hb)
  hA := fun e => by
    obtain ⟨c, rfl, q2, q3, q4, q5⟩ := h.hA e
    refine ⟨c, rfl, owns_keeps q2 hk (fun b hb t => ?_), Nat.lt_of_lt_of_le q3 hk.size, q4, q5⟩
    have e' : g = b := by simpa [Value.ownBlock] using hb
    subst e'
    rcases q4 with q4 | q4
    · exact (hT g t).2 q4
    · have := (hT g t).1; omega
theorem keeps_alloc (w : World) (o : Obj) : Keeps (fun _ => False) w (w.alloc o) := (Keeps.refl _ w).alloc o
theorem Ch.make {wr w : World} {Lm j : Nat} {v : Value} {xs : List Value} {B A : Bool} {xm xb xa : Value} {m g : Nat} (h : Ch wr w Lm j v xs false B A xm xb xa m g) (hs : wr.heap.size ≤ w.heap.size) :
    Ch wr (w.alloc (.cells (bytesV (List.replicate 64 0)).toArray 5)) Lm j v xs true B A (.slice (some ⟨w.heap.size, 0, none⟩) 64 64) xb xa w.heap.size g := by
  have hB0 : B = false := by cases B; rfl; exact absurd (h.bm rfl) (by decide)
  have hA0 : A = false := by cases A; rfl; have := h.ab rfl; rw [hB0] at this; cases this
  subst hB0 hA0
  have hk := keeps_alloc w (.cells (bytesV (List.replicate 64 0)).toArray 5)
  refine ⟨fun _ => rfl, fun e => e, fun _ => ⟨rfl, hs, by simp, ?_⟩, fun e => (by cases e), fun e => owns_keeps (h.hN e) hk (fun _ _ t => t), fun e => (by cases e)⟩
  intro t u hu
  rw [cell_of_row _ _ (0 + t) _ 5 (0, 0) (heap_alloc_last w _)]
  have hz : zsec = List.replicate 64 0 := rfl
  rw [hz] at hu
  simpa using hu
theorem Ch.build {wr w : World} {Lm j : Nat} {v : Value} {xs : List Value} {A : Bool} {xm xb xa : Value} {m g : Nat} (h : Ch wr w Lm j v xs true false A xm xb xa m g) (hs : wr.heap.size ≤ w.heap.size) :
    Ch wr (w.alloc (.cells #[.slice (some ⟨m, 0, none⟩) 64 64] 33)) Lm j v xs true true A xm (.slice (some ⟨w.heap.size, 0, none⟩) 1 1) xa m g := by
  have hA0 : A = false := by cases A; rfl; exact absurd (h.ab rfl) (by decide)
  subst hA0
  have h1 := h.keep (keeps_alloc w (.cells #[.slice (some ⟨m, 0, none⟩) 64 64] 33)) (fun _ t => t.elim)
  refine ⟨fun _ => rfl, fun e => (by cases e), h1.hM, fun _ _ => ⟨w.heap.size, rfl, hs, by simp, ?_⟩, h1.hN, fun e => (by cases e)⟩
  rw [cell_of_row _ _ 0 _ 33 (0, 0) (heap_alloc_last w _)]; rfl
theorem Ch.app {wr w w1 : World} {Lm j : Nat} {v : Value} {xs : List Value} {M : Bool} {xm xb xa : Value} {m g g' c : Nat} (h : Ch wr w Lm j v xs M true false xm xb xa m g) (hs : wr.heap.size ≤ w.heap.size) (hv : ∀ b, v.ownBlock = some b → b < wr.heap.size)
    (hown : w1.ownsRow Lm 33 1 (.slice (some ⟨g', 0, none⟩) (j + 1) c) (j + 1) (xs ++ [.slice (some ⟨m, 0, none⟩) 64 64])) (hgrow : w.grownBy w1 v.ownBlock) (hat : v.ownBlock = some g' ∨ g' = w.heap.size) (hlt : g' < w1.heap.size) :
    Ch wr w1 Lm j v xs M true true xm xb (.slice (some ⟨g', 0, none⟩) (j + 1) c) m g' := by
  have hM := h.bm rfl
  subst hM
  obtain ⟨q1, q2, q3, q4⟩ := h.hM rfl
  have hk : Keeps (fun b => v.ownBlock = some b) w w1 := (Keeps.refl _ w).grown hgrow (fun _ e => e)
  refine ⟨fun _ => rfl, fun _ => rfl, fun _ => ⟨q1, q2, Nat.lt_of_lt_of_le q3 hk.size, fun k u hu => (hk.cell (p := ⟨m, 0 + k, none⟩) q3 (fun t => by have := hv m t; omega)).trans (q4 k u hu)⟩, fun _ e => (by cases e), fun e => (by cases e), fun _ => ⟨c, rfl, hown, hlt, ?_, ?_⟩⟩
  · rcases hat with e | e
    · exact Or.inl e
    · exact Or.inr (by omega)
  · rcases hat with e | e
    · have := hv g' e; omega
    · omega
/-- Both. -/
structure PP (wr w : World) (Lm j : Nat) (v1 v2 : Value) (xs1 xs2 : List Value) (M1 B1 A1 : Bool) (y1 y2 y3 : Value) (m1 g1 : Nat) (M2 B2 A2 : Bool) (z1 z2 z3 : Value) (m2 g2 : Nat) : Prop where
  k : Keeps (fun b => v1.ownBlock = some b ∨ v2.ownBlock = some b) wr w
  a : Ch wr w Lm j v1 xs1 M1 B1 A1 y1 y2 y3 m1 g1
  b : Ch wr w Lm j v2 xs2 M2 B2 A2 z1 z2 z3 m2 g2
  x1 : A1 = true → A2 = true → g1 ≠ g2
  x2 : A1 = true → M2 = true → m2 ≠ g1
  x3 : A2 = true → M1 = true → m1 ≠ g2
theorem PP.swap {wr w : World} {Lm j : Nat} {v1 v2 : Value} {xs1 xs2 : List Value} {M1 B1 A1 : Bool} {y1 y2 y3 : Value} {m1 g1 : Nat} {M2 B2 A2 : Bool} {z1 z2 z3 : Value} {m2 g2 : Nat} (h : PP wr w Lm j v1 v2 xs1 xs2 M1 B1 A1 y1 y2 y3 m1 g1 M2 B2 A2 z1 z2 z3 m2 g2) :
    PP wr w Lm j v2 v1 xs2 xs1 M2 B2 A2 z1 z2 z3 m2 g2 M1 B1 A1 y1 y2 y3 m1 g1 :=
  ⟨h.k.mono (fun _ e => e.elim Or.inr Or.inl), h.b, h.a, fun e1 e2 e => h.x1 e2 e1 e.symm, h.x3, h.x2⟩
theorem PP.make {wr w : World} {Lm j : Nat} {v1 v2 : Value} {xs1 xs2 : List Value} {B1 A1 : Bool} {y1 y2 y3 : Value} {m1 g1 : Nat} {M2 B2 A2 : Bool} {z1 z2 z3 : Value} {m2 g2 : Nat} (h : PP wr w Lm j v1 v2 xs1 xs2 false B1 A1 y1 y2 y3 m1 g1 M2 B2 A2 z1 z2 z3 m2 g2) :
    PP wr (w.alloc (.cells (bytesV (List.replicate 64 0)).toArray 5)) Lm j v1 v2 xs1 xs2 true B1 A1 (.slice (some ⟨w.heap.size, 0, none⟩) 64 64) y2 y3 w.heap.size g1 M2 B2 A2 z1 z2 z3 m2 g2 :=
  ⟨h.k.alloc _, h.a.make h.k.size, h.b.keep (keeps_alloc w _) (fun _ t => t.elim), h.x1, h.x2, fun e _ => by obtain ⟨_, _, _, q, _⟩ := h.b.hA e; omega⟩
theorem PP.build {wr w : World} {Lm j : Nat} {v1 v2 : Value} {xs1 xs2 : List Value} {A1 : Bool} {y1 y2 y3 : Value} {m1 g1 : Nat} {M2 B2 A2 : Bool} {z1 z2 z3 : Value} {m2 g2 : Nat} (h : PP wr w Lm j v1 v2 xs1 xs2 true false A1 y1 y2 y3 m1 g1 M2 B2 A2 z1 z2 z3 m2 g2) :
    PP wr (w.alloc (.cells #[.slice (some ⟨m1, 0, none⟩) 64 64] 33)) Lm j v1 v2 xs1 xs2 true true A1 y1 (.slice (some ⟨w.heap.size, 0, none⟩) 1 1) y3 m1 g1 M2 B2 A2 z1 z2 z3 m2 g2 :=
  ⟨h.k.alloc _, h.a.build h.k.size, h.b.keep (keeps_alloc w _) (fun _ t => t.elim), h.x1, h.x2, h.x3⟩
theorem PP.app {wr w w1 : World} {Lm j : Nat} {v1 v2 : Value} {xs1 xs2 : List Value} {M1 : Bool} {y1 y2 y3 : Value} {m1 g1 g' c : Nat} {M2 B2 A2 : Bool} {z1 z2 z3 : Value} {m2 g2 : Nat} (h : PP wr w Lm j v1 v2 xs1 xs2 M1 true false y1 y2 y3 m1 g1 M2 B2 A2 z1 z2 z3 m2 g2)
    (hv1 : ∀ b, v1.ownBlock = some b → b < wr.heap.size) (hne : ∀ b, v1.ownBlock = some b → v2.ownBlock ≠ some b)
    (hown : w1.ownsRow Lm 33 1 (.slice (some ⟨g', 0, none⟩) (j + 1) c) (j + 1) (xs1 ++ [.slice (some ⟨m1, 0, none⟩) 64 64])) (hgrow : w.grownBy w1 v1.ownBlock) (hat : v1.ownBlock = some g' ∨ g' = w.heap.size) (hlt : g' < w1.heap.size) :
    PP wr w1 Lm j v1 v2 xs1 xs2 M1 true true y1 y2 (.slice (some ⟨g', 0, none⟩) (j + 1) c) m1 g' M2 B2 A2 z1 z2 z3 m2 g2 := by
  have hs := h.k.size
  have hk : Keeps (fun b => v1.ownBlock = some b) w w1 := (Keeps.refl _ w).grown hgrow (fun _ e => e)
  refine ⟨h.k.trans (hk.mono (fun _ e => Or.inl e)), h.a.app hs hv1 hown hgrow hat hlt, h.b.keep hk (fun b t => ⟨hv1 b t, hne b t⟩), fun _ e2 => ?_, fun _ e2 => ?_, h.x3⟩
  · obtain ⟨_, _, _, q3, q4, _⟩ := h.b.hA e2
    rcases hat with e | e
    · intro e3
      rcases q4 with q4 | q4
      · exact hne g' e (e3 ▸ q4)
      · have := hv1 g' e; omega
    · omega
  · obtain ⟨_, q2, q3, _⟩ := h.b.hM e2
    rcases hat with e | e
    · have := hv1 g' e; omega
    · omega
/-- The world behind the stores. -/
def stored (r : Nat) (s1 s2 : Bool) (y z : Value) (w : World) : World := if s2 = true then (w.setCell ⟨r, 0, none⟩ y).setCell ⟨r, 1, none⟩ z else if s1 = true then w.setCell ⟨r, 0, none⟩ y else w
/-- At the end. -/
theorem PP.done {wr w : World} {L r lb cl n j : Nat} {v1 v2 : Value} {xs1 xs2 : List Value} {y1 y2 y3 : Value} {m1 g1 : Nat} {z1 z2 z3 : Value} {m2 g2 : Nat} (h0 : NInv wr L r lb cl n j v1 v2 xs1 xs2) (h : PP wr w L j v1 v2 xs1 xs2 true true true y1 y2 y3 m1 g1 true true true z1 z2 z3 m2 g2) :
    NInv (stored r true true y3 z3 w) L r lb cl n (j + 1) y3 z3 (xs1 ++ [.slice (some ⟨m1, 0, none⟩) 64 64]) (xs2 ++ [.slice (some ⟨m2, 0, none⟩) 64 64]) ∧ Keeps (fun x => x = r ∨ L ≤ x) wr (stored r true true y3 z3 w) := by
  obtain ⟨l1, l2, l3, l4⟩ := h0.lim
  obtain ⟨_, p2, p3, p4⟩ := h.a.hM rfl
  obtain ⟨_, r2, r3, r4⟩ := h.b.hM rfl
  obtain ⟨ca, rfl, s2, s3, s4, s5⟩ := h.a.hA rfl
  obtain ⟨cb, rfl, t2, t3, t4, t5⟩ := h.b.hA rfl
  have x1 := h.x1 rfl rfl
  have x2 := h.x2 rfl rfl
  have x3 := h.x3 rfl rfl
  have hsz := h.k.size
  have hn : ∀ b, b < L → ¬ (v1.ownBlock = some b ∨ v2.ownBlock = some b) := fun b hb e => by
    rcases e with e | e
    · have := (h0.two.o1.lt b e).1; omega
    · have := (h0.two.o2.lt b e).1; omega
  have hc : ∀ b o, b < L → w.cell? ⟨b, o, none⟩ = wr.cell? ⟨b, o, none⟩ := fun b o hb => h.k.cell (p := ⟨b, o, none⟩) (by show b < _; omega) (hn b hb)
  have hf : ∀ b o, b < L → w.frozen? ⟨b, o, none⟩ = wr.frozen? ⟨b, o, none⟩ := fun b o hb => h.k.frozen (p := ⟨b, o, none⟩) (by show b < _; omega) (hn b hb)
  have ob1 : (Value.slice (some ⟨g1, 0, none⟩) (j + 1) ca).ownBlock = some g1 := rfl
  have ob2 : (Value.slice (some ⟨g2, 0, none⟩) (j + 1) cb).ownBlock = some g2 := rfl
  have hold : ∀ b, b < wr.heap.size → v1.ownBlock ≠ some b → v2.ownBlock ≠ some b → g1 ≠ b ∧ g2 ≠ b := fun b hb e1 e2 => by
    constructor
    · rintro rfl
      rcases s4 with s4 | s4
      · exact e1 s4
      · omega
    · rintro rfl
      rcases t4 with t4 | t4
      · exact e2 t4
      · omega
  have len1 : xs1.length = j := by have := h0.two.o1.1; omega
  have len2 : xs2.length = j := by have := h0.two.o2.1; omega
  have row : ∀ (xs : List Value) (m : Nat), xs.length = j → wr.heap.size ≤ m → m < w.heap.size → w.rangeAt m 0 (bytesV zsec) → m ≠ g1 → m ≠ g2 → Rowz wr L j v1 v2 xs → Rowz w L (j + 1) (.slice (some ⟨g1, 0, none⟩) (j + 1) ca) (.slice (some ⟨g2, 0, none⟩) (j + 1) cb) (xs ++ [.slice (some ⟨m, 0, none⟩) 64 64]) := by
    intro xs m hlen hm1 hm2 hm3 hm4 hm5 hz i hi
    by_cases hij : i < j
    · obtain ⟨b, c, q1, q2, q3, q4, q5, q6⟩ := hz i hij
      obtain ⟨n1, n2⟩ := hold b q3 q4 q5
      exact ⟨b, c, by rw [List.getElem?_append_left (by omega)]; exact q1, q2, by omega, by rw [ob1]; simpa using n1, by rw [ob2]; simpa using n2, fun k u hu => (h.k.cell (p := ⟨b, 0 + k, none⟩) q3 (fun e => e.elim q4 q5)).trans (q6 k u hu)⟩
    · have hij' : i = j := by omega
      subst hij'
      exact ⟨m, 64, by rw [List.getElem?_append_right (by omega), hlen, Nat.sub_self]; rfl, by omega, hm2, by rw [ob1]; simpa using Ne.symm hm4, by rw [ob2]; simpa using Ne.symm hm5, hm3⟩
  have hT : Two w L (.slice (some ⟨g1, 0, none⟩) (j + 1) ca) (j + 1) (xs1 ++ [.slice (some ⟨m1, 0, none⟩) 64 64]) (.slice (some ⟨g2, 0, none⟩) (j + 1) cb) (j + 1) (xs2 ++ [.slice (some ⟨m2, 0, none⟩) 64 64]) :=
    ⟨s2, t2, fun b e => by rw [ob1] at e; rw [ob2]; cases e; simpa using Ne.symm x1, row xs1 m1 len1 p2 p3 p4 s5 x3 h0.two.e1, row xs2 m2 len2 r2 r3 r4 x2 t5 h0.two.e2⟩
  have hst : stored r true true (.slice (some ⟨g1, 0, none⟩) (j + 1) ca) (.slice (some ⟨g2, 0, none⟩) (j + 1) cb) w = (w.setCell ⟨r, 0, none⟩ (.slice (some ⟨g1, 0, none⟩) (j + 1) ca)).setCell ⟨r, 1, none⟩ (.slice (some ⟨g2, 0, none⟩) (j + 1) cb) := rfl
  rw [hst]
  have d0 : w.cell? ⟨r, 0, none⟩ = some v1 := (hc r 0 l1).trans h0.c0
  have d1 : w.cell? ⟨r, 1, none⟩ = some v2 := (hc r 1 l1).trans h0.c1
  have hk3 : Keeps (fun x => x = r) w ((w.setCell ⟨r, 0, none⟩ (.slice (some ⟨g1, 0, none⟩) (j + 1) ca)).setCell ⟨r, 1, none⟩ (.slice (some ⟨g2, 0, none⟩) (j + 1) cb)) := ((Keeps.refl (fun x => x = r) w).setCell (p := ⟨r, 0, none⟩) rfl _).setCell (p := ⟨r, 1, none⟩) rfl _
  have hsz3 := hk3.size
  refine ⟨{ c0 := ?_, c1 := ?_, c2 := ?_, c3 := ?_, c4 := ?_, f := fun o => ?_, two := hT.keeps hk3 (fun b hb e => by omega), lz := fun i hi => (hk3.cell (p := ⟨lb, i, none⟩) (by show lb < _; omega) (fun e => l3 e.symm)).trans ((hc lb i l2).trans (h0.lz i hi)), lf := fun o => (hk3.frozen (p := ⟨lb, o, none⟩) (by show lb < _; omega) (fun e => l3 e.symm)).trans ((hf lb o l2).trans (h0.lf o)), lim := ⟨l1, l2, l3, by omega⟩ }, ?_⟩
  · rw [World.cell?_setCell_other _ _ _ _ (by simp)]; exact World.cell?_setCell_same _ _ _ d0
  · exact World.cell?_setCell_same _ _ _ ((World.cell?_setCell_other _ _ _ _ (by simp)).trans d1)
  · rw [World.cell?_setCell_other _ _ _ _ (by simp), World.cell?_setCell_other _ _ _ _ (by simp)]; exact (hc r 2 l1).trans h0.c2
  · rw [World.cell?_setCell_other _ _ _ _ (by simp), World.cell?_setCell_other _ _ _ _ (by simp)]; exact (hc r 3 l1).trans h0.c3
  · rw [World.cell?_setCell_other _ _ _ _ (by simp), World.cell?_setCell_other _ _ _ _ (by simp)]; exact (hc r 4 l1).trans h0.c4
  · rw [World.frozen?_setCell, World.frozen?_setCell]; exact (hf r o l1).trans (h0.f o)
  · exact (h.k.mono (fun x e => Or.inr (by rcases e with e | e; exact (h0.two.o1.lt x e).1; exact (h0.two.o2.lt x e).1))).trans (hk3.mono (fun x e => Or.inl e))
end Go.Proofs.YtmdjjnjhjojimaaDoor
