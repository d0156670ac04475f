import Derived.Test.YtmdjjnjhjojimaaDoorAllJ
import Derived.Test.YtmdjjnjhjojimaaDoorAllG
namespace Go.Proofs.YtmdjjnjhjojimaaDoor
open Go.RowKit Go.Maps

theorem info33 : (Tryd.prog.info? 33).map (fun i => (i.zero, i.size, i.bytes)) = some (some (.slice none 0 0), 1, 24) := by kernel_rfl
theorem run_build1 (a : Option Addr) (l c : Nat) (w : World) : (Instr.buildSlice 37 1 #[(0, .slice a l c)]).run Tryd.prog w = .ok (.slice (some ⟨w.heap.size, 0, none⟩) 1 1) (w.alloc (.cells #[.slice a l c] 33)) := by
  go_simp
theorem run_load1 (r o : Nat) (v : Value) (w : World) (h : w.cell? ⟨r, o, none⟩ = some v) : (Instr.loadAt 37 (.pointer (some ⟨r, o, none⟩))).run Tryd.prog w = .ok v w := by
  go_simp
theorem run_store1 (r o : Nat) (u : Value) (a : Option Addr) (l c : Nat) (w : World) (h : w.cell? ⟨r, o, none⟩ = some u) (hf : w.frozen? ⟨r, o, none⟩ = false) : (Instr.storeAt 37 (.pointer (some ⟨r, o, none⟩)) (.slice a l c)).run Tryd.prog w = .ok () (w.setCell ⟨r, o, none⟩ (.slice a l c)) := by
  go_simp
theorem run_field0 (r : Nat) (w : World) : (Instr.fieldAt 39 (.pointer (some ⟨r, 0, none⟩)) 0).run Tryd.prog w = .ok (.pointer (some ⟨r, 0, none⟩)) w := by
  go_simp
theorem run_field1 (r : Nat) (w : World) : (Instr.fieldAt 39 (.pointer (some ⟨r, 0, none⟩)) 1).run Tryd.prog w = .ok (.pointer (some ⟨r, 1, none⟩)) w := by
  go_simp
theorem ex_nil (ρ : Operand → Value) (x : Operand) (r : Nat) (w : World) (o : Oper) (ho : o.op = .nilCheck x) (h : ρ x = .pointer (some ⟨r, 0, none⟩)) : (execOp ρ o).run Tryd.prog w = .ok (.value (.pointer (some ⟨r, 0, none⟩))) w := by
  simp only [execOp, ho, h]
  go_simp
theorem ex_move (ρ : Operand → Value) (x : Operand) (v : Value) (w : World) (o : Oper) (ho : o.op = .move x) (h : ρ x = v) : (execOp ρ o).run Tryd.prog w = .ok (.value v) w := by
  simp only [execOp, ho, h]
  rfl
theorem ex_field0 (ρ : Operand → Value) (x : Operand) (r : Nat) (w : World) (o : Oper) (ho : o.op = .fieldAddr 39 x 0) (h : ρ x = .pointer (some ⟨r, 0, none⟩)) : (execOp ρ o).run Tryd.prog w = .ok (.value (.pointer (some ⟨r, 0, none⟩))) w := by
  simp only [execOp, ho, h]
  simp [run_field0]
theorem ex_field1 (ρ : Operand → Value) (x : Operand) (r : Nat) (w : World) (o : Oper) (ho : o.op = .fieldAddr 39 x 1) (h : ρ x = .pointer (some ⟨r, 0, none⟩)) : (execOp ρ o).run Tryd.prog w = .ok (.value (.pointer (some ⟨r, 1, none⟩))) w := by
  simp only [execOp, ho, h]
  simp [run_field1]
theorem ex_load (ρ : Operand → Value) (x : Operand) (r k : Nat) (v : Value) (w : World) (o : Oper) (ho : o.op = .load 37 x) (h : ρ x = .pointer (some ⟨r, k, none⟩)) (hc : w.cell? ⟨r, k, none⟩ = some v) : (execOp ρ o).run Tryd.prog w = .ok (.value v) w := by
  simp only [execOp, ho, h]
  simp [run_load1 r k v w hc]
theorem ex_make (ρ : Operand → Value) (w : World) (o : Oper) (ho : o.op = .makeSlice 33 (.const (.int .i64 64)) (.const (.int .i64 64))) (h : ρ (.const (.int .i64 64)) = .int .i64 64) : (execOp ρ o).run Tryd.prog w = .ok (.value (.slice (some ⟨w.heap.size, 0, none⟩) 64 64)) (w.alloc (.cells (bytesV (List.replicate 64 0)).toArray 5)) := by
  simp only [execOp, ho, h]
  have hm := mkn 64 (by omega) w
  rw [show ((64 : Nat) : Int) = 64 from rfl] at hm
  simp [hm]
theorem ex_build (ρ : Operand → Value) (x : Operand) (a : Option Addr) (l c : Nat) (w : World) (o : Oper) (ho : o.op = .buildSlice 37 1 #[(0, x)]) (h : ρ x = .slice a l c) : (execOp ρ o).run Tryd.prog w = .ok (.value (.slice (some ⟨w.heap.size, 0, none⟩) 1 1)) (w.alloc (.cells #[.slice a l c] 33)) := by
  simp only [execOp, ho]
  simp [h, run_build1]
theorem ex_store (ρ : Operand → Value) (x y : Operand) (r k : Nat) (u : Value) (a : Option Addr) (l c : Nat) (w : World) (o : Oper) (ho : o.op = .store 37 x y) (h1 : ρ x = .pointer (some ⟨r, k, none⟩)) (h2 : ρ y = .slice a l c) (hc : w.cell? ⟨r, k, none⟩ = some u) (hf : w.frozen? ⟨r, k, none⟩ = false) : (execOp ρ o).run Tryd.prog w = .ok .skip (w.setCell ⟨r, k, none⟩ (.slice a l c)) := by
  simp only [execOp, ho, h1, h2]
  simp [run_store1 r k u a l c w hc hf]

def slotOf (k : Nat) : Nat := if k ≤ 17 then k + 14 else k + 13
def valOf (r : Nat) (v1 v2 : Value) : Nat → Option Value
  | 0 | 1 | 2 | 3 | 9 | 10 | 16 | 19 | 4 | 17 => some (.pointer (some ⟨r, 0, none⟩))
  | 11 | 20 => some (.pointer (some ⟨r, 1, none⟩))
  | 5 => some v1
  | 12 => some v2
  | _ => none
theorem slot_inj {r : Nat} {v1 v2 u : Value} {k i : Nat} (hk : valOf r v1 v2 k = some u) (hi : i ≠ 18) (e : slotOf k = slotOf i) : k = i := by
  have h18 : k ≠ 18 := by rintro rfl; cases hk
  unfold slotOf at e
  split at e <;> split at e <;> omega
/-- Where the round stands: what has come up, what it gave, the world. -/
def NdI (A : (Nat → Value) → Act) (wr : World) (Lm r j : Nat) (v1 v2 : Value) (xs1 xs2 : List Value) (L : Array Bool) (a : Act) (w : World) : Prop :=
  L.size = 22 ∧ ∃ (x : Nat → Value) (w0 : World) (m1 g1 m2 g2 : Nat), a = A x ∧ w = stored r (fl L 18) (fl L 21) (x 22) (x 29) w0 ∧
    (∀ k v, fl L k = true → valOf r v1 v2 k = some v → x (slotOf k) = v) ∧
    PP wr w0 Lm j v1 v2 xs1 xs2 (fl L 6) (fl L 7) (fl L 8) (x 20) (x 21) (x 22) m1 g1 (fl L 13) (fl L 14) (fl L 15) (x 27) (x 28) (x 29) m2 g2 ∧
    (fl L 18 = true → fl L 5 = true ∧ fl L 12 = true ∧ fl L 8 = true ∧ fl L 15 = true) ∧ (fl L 21 = true → fl L 18 = true)
theorem upd_ne {α : Type} (f : Nat → α) {i c : Nat} (v : α) (h : c ≠ i) : upd f i v c = f c := by unfold upd; rw [if_neg h]
theorem upd_eq {α : Type} (f : Nat → α) (i : Nat) (v : α) : upd f i v i = v := by unfold upd; rw [if_pos rfl]
theorem slots_up {r : Nat} {v1 v2 : Value} {L : Array Bool} {x : Nat → Value} (hL : L.size = 22) {i : Nat} (hi : i < 22) (h18 : i ≠ 18) (v : Value) (hv : valOf r v1 v2 i = none ∨ valOf r v1 v2 i = some v) (h : ∀ k v, fl L k = true → valOf r v1 v2 k = some v → x (slotOf k) = v) :
    ∀ k u, fl (L.setIfInBounds i true) k = true → valOf r v1 v2 k = some u → upd x (slotOf i) v (slotOf k) = u := by
  intro k u hk hu
  rw [fl_set (by omega)] at hk
  by_cases e : k = i
  · subst e
    rw [upd_eq]
    rcases hv with hv | hv
    · rw [hv] at hu; cases hu
    · rw [hv] at hu; exact Option.some.inj hu
  · rw [if_neg e] at hk
    rw [upd_ne _ _ (fun q => e (slot_inj hu h18 q))]
    exact h k u hk hu
theorem NdI.pure {A : (Nat → Value) → Act} {wr : World} {Lm r j : Nat} {v1 v2 : Value} {xs1 xs2 : List Value} {L : Array Bool} {a : Act} {w : World} (i : Nat) (hi : i ∈ [0, 1, 2, 3, 4, 5, 9, 10, 11, 12, 16, 17, 19, 20]) {v : Value} (hv : valOf r v1 v2 i = some v) (hA : ∀ x, (A x).put (some (slotOf i)) v = A (upd x (slotOf i) v)) (h : NdI A wr Lm r j v1 v2 xs1 xs2 L a w) :
    NdI A wr Lm r j v1 v2 xs1 xs2 (L.setIfInBounds i true) (a.put (some (slotOf i)) v) w := by
  obtain ⟨hL, x, w0, m1, g1, m2, g2, rfl, hw, hs, hp, h1, h2⟩ := h
  have hi22 : i < 22 := by
    simp only [List.mem_cons, List.not_mem_nil, or_false] at hi
    omega
  have hne : i ≠ 6 ∧ i ≠ 7 ∧ i ≠ 8 ∧ i ≠ 13 ∧ i ≠ 14 ∧ i ≠ 15 ∧ i ≠ 18 ∧ i ≠ 21 := by
    simp only [List.mem_cons, List.not_mem_nil, or_false] at hi
    omega
  have hsl : slotOf i ≠ 20 ∧ slotOf i ≠ 21 ∧ slotOf i ≠ 22 ∧ slotOf i ≠ 27 ∧ slotOf i ≠ 28 ∧ slotOf i ≠ 29 := by
    simp only [List.mem_cons, List.not_mem_nil, or_false] at hi
    unfold slotOf
    split <;> omega
  have hfl : ∀ k, k ≠ i → fl (L.setIfInBounds i true) k = fl L k := fun k hk => by rw [fl_set (by omega), if_neg hk]
  have hmo : ∀ k, fl L k = true → fl (L.setIfInBounds i true) k = true := fun k hk => by rw [fl_set (by omega)]; split; rfl; exact hk
  obtain ⟨n1, n2, n3, n4, n5, n6, n7, n8⟩ := hne
  obtain ⟨s1, s2, s3, s4, s5, s6⟩ := hsl
  refine ⟨by rw [Array.size_setIfInBounds]; exact hL, upd x (slotOf i) v, w0, m1, g1, m2, g2, hA x, ?_, slots_up hL hi22 n7 v (Or.inr hv) hs, ?_, ?_, ?_⟩
  · rw [hfl 18 n7.symm, hfl 21 n8.symm, upd_ne _ _ s3.symm, upd_ne _ _ s6.symm]; exact hw
  · rw [hfl 6 n1.symm, hfl 7 n2.symm, hfl 8 n3.symm, hfl 13 n4.symm, hfl 14 n5.symm, hfl 15 n6.symm, upd_ne _ _ s1.symm, upd_ne _ _ s2.symm, upd_ne _ _ s3.symm, upd_ne _ _ s4.symm, upd_ne _ _ s5.symm, upd_ne _ _ s6.symm]; exact hp
  · rw [hfl 18 n7.symm]
    intro e
    obtain ⟨q1, q2, q3, q4⟩ := h1 e
    exact ⟨hmo _ q1, hmo _ q2, hmo _ q3, hmo _ q4⟩
  · rw [hfl 18 n7.symm, hfl 21 n8.symm]; exact h2
theorem NdI.slot {A : (Nat → Value) → Act} {wr : World} {Lm r j : Nat} {v1 v2 : Value} {xs1 xs2 : List Value} {L : Array Bool} {a : Act} {w : World} (h : NdI A wr Lm r j v1 v2 xs1 xs2 L a w) {k c : Nat} {v : Value} (hk : fl L k = true) (hv : valOf r v1 v2 k = some v) (hc : slotOf k = c) (hev : ∀ x, (A x).eval (.tmp c) = x c) : a.eval (.tmp c) = v := by
  obtain ⟨_, x, _, _, _, _, _, rfl, _, hs, _⟩ := h
  rw [hev, ← hc]
  exact hs k v hk hv
/-- Ahead of the stores: the list's cell. -/
theorem NdI.held {A : (Nat → Value) → Act} {wr : World} {Lm r lb cl n j : Nat} {v1 v2 : Value} {xs1 xs2 : List Value} {L : Array Bool} {a : Act} {w : World} (h0 : NInv wr Lm r lb cl n j v1 v2 xs1 xs2) (h : NdI A wr Lm r j v1 v2 xs1 xs2 L a w) (hk : fl L 5 = false ∨ fl L 12 = false) : w.cell? ⟨r, 0, none⟩ = some v1 ∧ w.cell? ⟨r, 1, none⟩ = some v2 := by
  obtain ⟨_, x, w0, _, _, _, _, rfl, hw, _, hp, h1, h2⟩ := h
  have e18 : fl L 18 = false := by
    cases e : fl L 18
    · rfl
    · obtain ⟨q1, q2, _⟩ := h1 e
      rcases hk with hk | hk
      · rw [hk] at q1; cases q1
      · rw [hk] at q2; cases q2
  have e21 : fl L 21 = false := by
    cases e : fl L 21
    · rfl
    · have := h2 e; rw [e18] at this; cases this
  rw [e18, e21] at hw
  have hw' : w = w0 := hw
  subst hw'
  obtain ⟨l1, l2, l3, l4⟩ := h0.lim
  have hn : ¬ (v1.ownBlock = some r ∨ v2.ownBlock = some r) := fun e => by
    rcases e with e | e
    · have := (h0.two.o1.lt r e).1; omega
    · have := (h0.two.o2.lt r e).1; omega
  exact ⟨(hp.k.cell (p := ⟨r, 0, none⟩) (by show r < _; omega) hn).trans h0.c0, (hp.k.cell (p := ⟨r, 1, none⟩) (by show r < _; omega) hn).trans h0.c1⟩

/-- The step that makes list 1's new row. -/
theorem NdI.make1 {A : (Nat → Value) → Act} {wr : World} {Lm r j : Nat} {v1 v2 : Value} {xs1 xs2 : List Value} {L : Array Bool} {a : Act} {w : World} (hf : fl L 6 = false) (hA : ∀ x v, (A x).put (some 20) v = A (upd x 20 v)) (h : NdI A wr Lm r j v1 v2 xs1 xs2 L a w) :
    NdI A wr Lm r j v1 v2 xs1 xs2 (L.setIfInBounds 6 true) (a.put (some 20) (.slice (some ⟨w.heap.size, 0, none⟩) 64 64)) (w.alloc (.cells (bytesV (List.replicate 64 0)).toArray 5)) := by
  obtain ⟨hL, x, w0, m1, g1, m2, g2, rfl, hw, hs, hp, h1, h2⟩ := h
  have hfl : ∀ k, k ≠ 6 → fl (L.setIfInBounds 6 true) k = fl L k := fun k hk => by rw [fl_set (by omega), if_neg hk]
  have hfi : fl (L.setIfInBounds 6 true) 6 = true := by rw [fl_set (by omega), if_pos rfl]
  rw [hf] at hp
  have e8 : fl L 8 = false := by
    cases e : fl L 8
    · rfl
    · have := hp.a.bm (hp.a.ab e); cases this
  have e18 : fl L 18 = false := by
    cases e : fl L 18
    · rfl
    · obtain ⟨_, _, q3, q4⟩ := h1 e; rw [q3] at e8; cases e8
  have e21 : fl L 21 = false := by
    cases e : fl L 21
    · rfl
    · have := h2 e; rw [e18] at this; cases this
  rw [e18, e21] at hw
  have hw' : w = w0 := hw
  subst hw'
  refine ⟨by rw [Array.size_setIfInBounds]; exact hL, upd x 20 (.slice (some ⟨w.heap.size, 0, none⟩) 64 64), w.alloc (.cells (bytesV (List.replicate 64 0)).toArray 5), w.heap.size, g1, m2, g2, hA x _, ?_, slots_up hL (i := 6) (by decide) (by decide) _ (Or.inl rfl) hs, ?_, ?_, ?_⟩
  · rw [hfl 18 (by decide), hfl 21 (by decide), e18, e21]; rfl
  · rw [hfi, hfl 7 (by decide), hfl 8 (by decide), hfl 13 (by decide), hfl 14 (by decide), hfl 15 (by decide), upd_eq, upd_ne _ _ (show (21 : Nat) ≠ 20 by decide), upd_ne _ _ (show (22 : Nat) ≠ 20 by decide), upd_ne _ _ (show (27 : Nat) ≠ 20 by decide), upd_ne _ _ (show (28 : Nat) ≠ 20 by decide), upd_ne _ _ (show (29 : Nat) ≠ 20 by decide)]
    exact hp.make
  · rw [hfl 18 (by decide), e18]; intro e; cases e
  · rw [hfl 18 (by decide), hfl 21 (by decide)]; exact h2
theorem NdI.build1 {A : (Nat → Value) → Act} {wr : World} {Lm r j : Nat} {v1 v2 : Value} {xs1 xs2 : List Value} {L : Array Bool} {a : Act} {w : World} (hf : fl L 7 = false) (hm : fl L 6 = true) (hA : ∀ x v, (A x).put (some 21) v = A (upd x 21 v)) (hev : ∀ x, (A x).eval (.tmp 20) = x 20) (h : NdI A wr Lm r j v1 v2 xs1 xs2 L a w) :
    ∃ m, a.eval (.tmp 20) = .slice (some ⟨m, 0, none⟩) 64 64 ∧ NdI A wr Lm r j v1 v2 xs1 xs2 (L.setIfInBounds 7 true) (a.put (some 21) (.slice (some ⟨w.heap.size, 0, none⟩) 1 1)) (w.alloc (.cells #[.slice (some ⟨m, 0, none⟩) 64 64] 33)) := by
  obtain ⟨hL, x, w0, m1, g1, m2, g2, rfl, hw, hs, hp, h1, h2⟩ := h
  have hfl : ∀ k, k ≠ 7 → fl (L.setIfInBounds 7 true) k = fl L k := fun k hk => by rw [fl_set (by omega), if_neg hk]
  have hfi : fl (L.setIfInBounds 7 true) 7 = true := by rw [fl_set (by omega), if_pos rfl]
  rw [hf, hm] at hp
  have e8 : fl L 8 = false := by
    cases e : fl L 8
    · rfl
    · have := hp.a.ab e; cases this
  have e18 : fl L 18 = false := by
    cases e : fl L 18
    · rfl
    · obtain ⟨_, _, q3, q4⟩ := h1 e; rw [q3] at e8; cases e8
  have e21 : fl L 21 = false := by
    cases e : fl L 21
    · rfl
    · have := h2 e; rw [e18] at this; cases this
  rw [e18, e21] at hw
  have hw' : w = w0 := hw
  subst hw'
  refine ⟨m1, (hev x).trans (hp.a.hM rfl).1, by rw [Array.size_setIfInBounds]; exact hL, upd x 21 (.slice (some ⟨w.heap.size, 0, none⟩) 1 1), w.alloc (.cells #[.slice (some ⟨m1, 0, none⟩) 64 64] 33), m1, g1, m2, g2, hA x _, ?_, slots_up hL (i := 7) (by decide) (by decide) _ (Or.inl rfl) hs, ?_, ?_, ?_⟩
  · rw [hfl 18 (by decide), hfl 21 (by decide), e18, e21]; rfl
  · rw [hfl 6 (by decide), hfi, hfl 8 (by decide), hfl 13 (by decide), hfl 14 (by decide), hfl 15 (by decide), hm, upd_eq, upd_ne _ _ (show (20 : Nat) ≠ 21 by decide), upd_ne _ _ (show (22 : Nat) ≠ 21 by decide), upd_ne _ _ (show (27 : Nat) ≠ 21 by decide), upd_ne _ _ (show (28 : Nat) ≠ 21 by decide), upd_ne _ _ (show (29 : Nat) ≠ 21 by decide)]
    exact hp.build
  · rw [hfl 18 (by decide), e18]; intro e; cases e
  · rw [hfl 18 (by decide), hfl 21 (by decide)]; exact h2
theorem NdI.app1 {A : (Nat → Value) → Act} {wr : World} {Lm r lb cl n j : Nat} {v1 v2 : Value} {xs1 xs2 : List Value} {L : Array Bool} {a : Act} {w : World} (h0 : NInv wr Lm r lb cl n j v1 v2 xs1 xs2) (hf : fl L 8 = false) (hb : fl L 7 = true) (hA : ∀ x v, (A x).put (some 22) v = A (upd x 22 v)) (hev : ∀ x, (A x).eval (.tmp 21) = x 21) (h : NdI A wr Lm r j v1 v2 xs1 xs2 L a w) :
    ∃ m b, a.eval (.tmp 21) = .slice (some ⟨b, 0, none⟩) 1 1 ∧ w.cell? ⟨b, 0, none⟩ = some (.slice (some ⟨m, 0, none⟩) 64 64) ∧ w.ownsRow Lm 33 1 v1 j xs1 ∧ Lm ≤ w.heap.size ∧
      ∀ g' c w1, w1.ownsRow Lm 33 1 (.slice (some ⟨g', 0, none⟩) (j + 1) c) (j + 1) (xs1 ++ [.slice (some ⟨m, 0, none⟩) 64 64]) → w.grownBy w1 v1.ownBlock → (v1.ownBlock = some g' ∨ g' = w.heap.size) → g' < w1.heap.size →
        NdI A wr Lm r j v1 v2 xs1 xs2 (L.setIfInBounds 8 true) (a.put (some 22) (.slice (some ⟨g', 0, none⟩) (j + 1) c)) w1 := by
  obtain ⟨hL, x, w0, m1, g1, m2, g2, rfl, hw, hs, hp, h1, h2⟩ := h
  have hfl : ∀ k, k ≠ 8 → fl (L.setIfInBounds 8 true) k = fl L k := fun k hk => by rw [fl_set (by omega), if_neg hk]
  have hfi : fl (L.setIfInBounds 8 true) 8 = true := by rw [fl_set (by omega), if_pos rfl]
  have e18 : fl L 18 = false := by
    cases e : fl L 18
    · rfl
    · obtain ⟨_, _, q3, q4⟩ := h1 e; rw [q3] at hf; cases hf
  have e21 : fl L 21 = false := by
    cases e : fl L 21
    · rfl
    · have := h2 e; rw [e18] at this; cases this
  rw [hf, hb] at hp
  rw [e18, e21] at hw
  have hw' : w = w0 := hw
  subst hw'
  obtain ⟨b, y1, y2, y3, y4⟩ := hp.a.hB rfl rfl
  have hlim := h0.lim
  have hsz := hp.k.size
  refine ⟨m1, b, (hev x).trans y1, y4, hp.a.hN rfl, by omega, fun g' c w1 z1 z2 z3 z4 => ⟨by rw [Array.size_setIfInBounds]; exact hL, upd x 22 (.slice (some ⟨g', 0, none⟩) (j + 1) c), w1, m1, g', m2, g2, hA x _, ?_, slots_up hL (i := 8) (by decide) (by decide) _ (Or.inl rfl) hs, ?_, ?_, ?_⟩⟩
  · rw [hfl 18 (by decide), hfl 21 (by decide), e18, e21]; rfl
  · rw [hfl 6 (by decide), hfl 7 (by decide), hfi, hfl 13 (by decide), hfl 14 (by decide), hfl 15 (by decide), hb, upd_eq, upd_ne _ _ (show (20 : Nat) ≠ 22 by decide), upd_ne _ _ (show (21 : Nat) ≠ 22 by decide), upd_ne _ _ (show (27 : Nat) ≠ 22 by decide), upd_ne _ _ (show (28 : Nat) ≠ 22 by decide), upd_ne _ _ (show (29 : Nat) ≠ 22 by decide)]
    exact hp.app (fun b e => (h0.two.o1.lt b e).2) h0.two.ne z1 z2 z3 z4
  · rw [hfl 18 (by decide), e18]; intro e; cases e
  · rw [hfl 18 (by decide), hfl 21 (by decide)]; exact h2

/-- The step that makes list 2's new row. -/
theorem NdI.make2 {A : (Nat → Value) → Act} {wr : World} {Lm r j : Nat} {v1 v2 : Value} {xs1 xs2 : List Value} {L : Array Bool} {a : Act} {w : World} (hf : fl L 13 = false) (hA : ∀ x v, (A x).put (some 27) v = A (upd x 27 v)) (h : NdI A wr Lm r j v1 v2 xs1 xs2 L a w) :
    NdI A wr Lm r j v1 v2 xs1 xs2 (L.setIfInBounds 13 true) (a.put (some 27) (.slice (some ⟨w.heap.size, 0, none⟩) 64 64)) (w.alloc (.cells (bytesV (List.replicate 64 0)).toArray 5)) := by
  obtain ⟨hL, x, w0, m1, g1, m2, g2, rfl, hw, hs, hp, h1, h2⟩ := h
  have hfl : ∀ k, k ≠ 13 → fl (L.setIfInBounds 13 true) k = fl L k := fun k hk => by rw [fl_set (by omega), if_neg hk]
  have hfi : fl (L.setIfInBounds 13 true) 13 = true := by rw [fl_set (by omega), if_pos rfl]
  rw [hf] at hp
  have e8 : fl L 15 = false := by
    cases e : fl L 15
    · rfl
    · have := hp.b.bm (hp.b.ab e); cases this
  have e18 : fl L 18 = false := by
    cases e : fl L 18
    · rfl
    · obtain ⟨_, _, q3, q4⟩ := h1 e; rw [q4] at e8; cases e8
  have e21 : fl L 21 = false := by
    cases e : fl L 21
    · rfl
    · have := h2 e; rw [e18] at this; cases this
  rw [e18, e21] at hw
  have hw' : w = w0 := hw
  subst hw'
  refine ⟨by rw [Array.size_setIfInBounds]; exact hL, upd x 27 (.slice (some ⟨w.heap.size, 0, none⟩) 64 64), w.alloc (.cells (bytesV (List.replicate 64 0)).toArray 5), m1, g1, w.heap.size, g2, hA x _, ?_, slots_up hL (i := 13) (by decide) (by decide) _ (Or.inl rfl) hs, ?_, ?_, ?_⟩
  · rw [hfl 18 (by decide), hfl 21 (by decide), e18, e21]; rfl
  · rw [hfl 6 (by decide), hfl 7 (by decide), hfl 8 (by decide), hfi, hfl 14 (by decide), hfl 15 (by decide), upd_eq, upd_ne _ _ (show (20 : Nat) ≠ 27 by decide), upd_ne _ _ (show (21 : Nat) ≠ 27 by decide), upd_ne _ _ (show (22 : Nat) ≠ 27 by decide), upd_ne _ _ (show (28 : Nat) ≠ 27 by decide), upd_ne _ _ (show (29 : Nat) ≠ 27 by decide)]
    exact hp.swap.make.swap
  · rw [hfl 18 (by decide), e18]; intro e; cases e
  · rw [hfl 18 (by decide), hfl 21 (by decide)]; exact h2
theorem NdI.build2 {A : (Nat → Value) → Act} {wr : World} {Lm r j : Nat} {v1 v2 : Value} {xs1 xs2 : List Value} {L : Array Bool} {a : Act} {w : World} (hf : fl L 14 = false) (hm : fl L 13 = true) (hA : ∀ x v, (A x).put (some 28) v = A (upd x 28 v)) (hev : ∀ x, (A x).eval (.tmp 27) = x 27) (h : NdI A wr Lm r j v1 v2 xs1 xs2 L a w) :
    ∃ m, a.eval (.tmp 27) = .slice (some ⟨m, 0, none⟩) 64 64 ∧ NdI A wr Lm r j v1 v2 xs1 xs2 (L.setIfInBounds 14 true) (a.put (some 28) (.slice (some ⟨w.heap.size, 0, none⟩) 1 1)) (w.alloc (.cells #[.slice (some ⟨m, 0, none⟩) 64 64] 33)) := by
  obtain ⟨hL, x, w0, m1, g1, m2, g2, rfl, hw, hs, hp, h1, h2⟩ := h
  have hfl : ∀ k, k ≠ 14 → fl (L.setIfInBounds 14 true) k = fl L k := fun k hk => by rw [fl_set (by omega), if_neg hk]
  have hfi : fl (L.setIfInBounds 14 true) 14 = true := by rw [fl_set (by omega), if_pos rfl]
  rw [hf, hm] at hp
  have e8 : fl L 15 = false := by
    cases e : fl L 15
    · rfl
    · have := hp.b.ab e; cases this
  have e18 : fl L 18 = false := by
    cases e : fl L 18
    · rfl
    · obtain ⟨_, _, q3, q4⟩ := h1 e; rw [q4] at e8; cases e8
  have e21 : fl L 21 = false := by
    cases e : fl L 21
    · rfl
    · have := h2 e; rw [e18] at this; cases this
  rw [e18, e21] at hw
  have hw' : w = w0 := hw
  subst hw'
  refine ⟨m2, (hev x).trans (hp.b.hM rfl).1, by rw [Array.size_setIfInBounds]; exact hL, upd x 28 (.slice (some ⟨w.heap.size, 0, none⟩) 1 1), w.alloc (.cells #[.slice (some ⟨m2, 0, none⟩) 64 64] 33), m1, g1, m2, g2, hA x _, ?_, slots_up hL (i := 14) (by decide) (by decide) _ (Or.inl rfl) hs, ?_, ?_, ?_⟩
  · rw [hfl 18 (by decide), hfl 21 (by decide), e18, e21]; rfl
  · rw [hfl 6 (by decide), hfl 7 (by decide), hfl 8 (by decide), hfl 13 (by decide), hfi, hfl 15 (by decide), hm, upd_eq, upd_ne _ _ (show (20 : Nat) ≠ 28 by decide), upd_ne _ _ (show (21 : Nat) ≠ 28 by decide), upd_ne _ _ (show (22 : Nat) ≠ 28 by decide), upd_ne _ _ (show (27 : Nat) ≠ 28 by decide), upd_ne _ _ (show (29 : Nat) ≠ 28 by decide)]
    exact hp.swap.build.swap
  · rw [hfl 18 (by decide), e18]; intro e; cases e
  · rw [hfl 18 (by decide), hfl 21 (by decide)]; exact h2
theorem NdI.app2 {A : (Nat → Value) → Act} {wr : World} {Lm r lb cl n j : Nat} {v1 v2 : Value} {xs1 xs2 : List Value} {L : Array Bool} {a : Act} {w : World} (h0 : NInv wr Lm r lb cl n j v1 v2 xs1 xs2) (hf : fl L 15 = false) (hb : fl L 14 = true) (hA : ∀ x v, (A x).put (some 29) v = A (upd x 29 v)) (hev : ∀ x, (A x).eval (.tmp 28) = x 28) (h : NdI A wr Lm r j v1 v2 xs1 xs2 L a w) :
    ∃ m b, a.eval (.tmp 28) = .slice (some ⟨b, 0, none⟩) 1 1 ∧ w.cell? ⟨b, 0, none⟩ = some (.slice (some ⟨m, 0, none⟩) 64 64) ∧ w.ownsRow Lm 33 1 v2 j xs2 ∧ Lm ≤ w.heap.size ∧
      ∀ g' c w1, w1.ownsRow Lm 33 1 (.slice (some ⟨g', 0, none⟩) (j + 1) c) (j + 1) (xs2 ++ [.slice (some ⟨m, 0, none⟩) 64 64]) → w.grownBy w1 v2.ownBlock → (v2.ownBlock = some g' ∨ g' = w.heap.size) → g' < w1.heap.size →
        NdI A wr Lm r j v1 v2 xs1 xs2 (L.setIfInBounds 15 true) (a.put (some 29) (.slice (some ⟨g', 0, none⟩) (j + 1) c)) w1 := by
  obtain ⟨hL, x, w0, m1, g1, m2, g2, rfl, hw, hs, hp, h1, h2⟩ := h
  have hfl : ∀ k, k ≠ 15 → fl (L.setIfInBounds 15 true) k = fl L k := fun k hk => by rw [fl_set (by omega), if_neg hk]
  have hfi : fl (L.setIfInBounds 15 true) 15 = true := by rw [fl_set (by omega), if_pos rfl]
  have e18 : fl L 18 = false := by
    cases e : fl L 18
    · rfl
    · obtain ⟨_, _, q3, q4⟩ := h1 e; rw [q4] at hf; cases hf
  have e21 : fl L 21 = false := by
    cases e : fl L 21
    · rfl
    · have := h2 e; rw [e18] at this; cases this
  rw [hf, hb] at hp
  rw [e18, e21] at hw
  have hw' : w = w0 := hw
  subst hw'
  obtain ⟨b, y1, y2, y3, y4⟩ := hp.b.hB rfl rfl
  have hlim := h0.lim
  have hsz := hp.k.size
  refine ⟨m2, b, (hev x).trans y1, y4, hp.b.hN rfl, by omega, fun g' c w1 z1 z2 z3 z4 => ⟨by rw [Array.size_setIfInBounds]; exact hL, upd x 29 (.slice (some ⟨g', 0, none⟩) (j + 1) c), w1, m1, g1, m2, g', hA x _, ?_, slots_up hL (i := 15) (by decide) (by decide) _ (Or.inl rfl) hs, ?_, ?_, ?_⟩⟩
  · rw [hfl 18 (by decide), hfl 21 (by decide), e18, e21]; rfl
  · rw [hfl 6 (by decide), hfl 7 (by decide), hfl 8 (by decide), hfl 13 (by decide), hfl 14 (by decide), hfi, hb, upd_eq, upd_ne _ _ (show (20 : Nat) ≠ 29 by decide), upd_ne _ _ (show (21 : Nat) ≠ 29 by decide), upd_ne _ _ (show (22 : Nat) ≠ 29 by decide), upd_ne _ _ (show (27 : Nat) ≠ 29 by decide), upd_ne _ _ (show (28 : Nat) ≠ 29 by decide)]
    exact (hp.swap.app (fun b e => (h0.two.o2.lt b e).2) (fun b e2 e1 => h0.two.ne b e1 e2) z1 z2 z3 z4).swap
  · rw [hfl 18 (by decide), e18]; intro e; cases e
  · rw [hfl 18 (by decide), hfl 21 (by decide)]; exact h2
end Go.Proofs.YtmdjjnjhjojimaaDoor
