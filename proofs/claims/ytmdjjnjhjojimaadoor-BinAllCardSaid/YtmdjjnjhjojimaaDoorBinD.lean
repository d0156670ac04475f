import Derived.Test.YtmdjjnjhjojimaaDoorBinC
namespace Go.Proofs.YtmdjjnjhjojimaaDoor
open Go.RowKit Go.Maps

theorem strCells_eq (st : ByteArray) : Lib.strCells st = bytesV st.data.toList := rfl

/-- 'append(b, s...)', the new value's shape written out. -/
theorem wpList_append_str {w : World} {ops : Array Oper} {rest : List Oper} {o : Oper} {a : Act} {Q : Exit → Act → World → Prop} (hgd : o.guard = none) (sl x : Operand) (ho : o.op = .call { callee := .builtin .append, args := #[sl, x], argTypes := #[33, 9] })
    (base : Nat) (b n c : Nat) (xs : List Value) (hs : a.eval sl = .slice (some ⟨b, 0, none⟩) n c) (hown : w.ownsRow base 5 1 (.slice (some ⟨b, 0, none⟩) n c) n xs) (st : ByteArray) (hx : a.eval x = .string st)
    (h63 : n + st.size ≤ 100000000000) (hbase : base ≤ w.heap.size)
    (h : ∀ g c' w', w'.ownsRow base 5 1 (.slice (some ⟨g, 0, none⟩) (n + st.size) c') (n + st.size) (xs ++ bytesV st.data.toList) → w.grownBy w' (some b) → wpList Tryd.prog ops Q rest (a.put o.dst (.slice (some ⟨g, 0, none⟩) (n + st.size) c')) w') : wpList Tryd.prog ops Q (o :: rest) a w := by
  obtain ⟨i0, hi, hz0, hz1, hz2⟩ := info_parts info5
  refine Lib.wpList_append_own_string w hgd sl x 33 9 ho base 5 i0 Tryd.underlying33 Tryd.underlying9 hi hz0 hz1 hz2 _ n xs hs hown st hx (by unfold maxLen; omega) (by omega) hbase ?_
  intro v' w' hrow hg hnil
  have hrow' := hrow
  obtain ⟨hl, ⟨rfl, _⟩ | ⟨g, c', cur, rfl, _⟩⟩ := hrow
  · have := (hnil.1 rfl).1; cases this
  · exact h g c' w' hrow' hg

theorem text_nil (st : Value) (w : World) : Calls Tryd.prog 28 #[.pointer none, st] w fun e w' => e = .returned (.tuple #[]) ∧ w' = w := by
  go_enter Tryd.func28, Tryd.ntmps28
  go_wp2
  first | go_end0 | refine bodyPost_ret (results_none rfl _ _ _) rfl ?_
  exact ⟨rfl, rfl⟩

set_option maxRecDepth 100000 in
set_option maxHeartbeats 400000 in
theorem text_any {w : World} {wb base : Nat} {s : List UInt8} {a : Option Addr} {c : Nat} (h : WrAt w wb base s a c) (hwb : wb < base) (st : ByteArray) (hm : s.length + 10 + st.size ≤ 1000000000) :
    Calls Tryd.prog 28 #[.pointer (some ⟨wb, 0, none⟩), .string st] w fun e w' => ∃ a' c', e = .returned (.tuple #[]) ∧ WrAt w' wb base (s ++ (encInt st.size ++ st.data.toList)) a' c' ∧ Keeps (fun i => i = wb ∨ base ≤ i) w w' := by
  have c0 := h.c0
  have hwl := wid_le st.size
  go_enter Tryd.func28, Tryd.ntmps28
  go_wp2_with fail
  refine (appendInt_shape a s.length c base _ st.size w (by omega) (by omega) h.row h.bs (by omega)).mono ?_
  rintro e w1 ⟨g, c1, rfl, hrow1, hk1, hm1⟩
  have HL : Hid (s.length + (1 + wid st.size) = (s ++ encInt st.size).length) := by show _ = _; rw [List.length_append, encInt_length]
  have hst := h.stored HL.out (by rw [bytesV_append]; exact hrow1) hk1 hm1
  have cc : w1.cell? ⟨wb, 0, none⟩ = some (.slice a s.length c) := (hk1.cell (p := ⟨wb, 0, none⟩) h.lt h.ne).trans h.c0
  have cf : w1.frozen? ⟨wb, 0, none⟩ = false := (hk1.frozen (p := ⟨wb, 0, none⟩) h.lt h.ne).trans h.f0
  obtain ⟨h2, hk2⟩ := hst
  clear c0
  have hrow2 := h2.row
  rw [← HL.out] at hrow2
  have hgw : g ≠ wb := fun e => h2.ne (by rw [e]; rfl)
  have HR : Hid ((w1.setCell ⟨wb, 0, none⟩ (.slice (some ⟨g, 0, none⟩) (s.length + (1 + wid st.size)) c1)).ownsRow base 5 1 (.slice (some ⟨g, 0, none⟩) (s.length + (1 + wid st.size)) c1) (s.length + (1 + wid st.size)) (bytesV (s ++ encInt st.size))) := hrow2
  clear hrow2
  go_wp2_with (at_builtin; refine wpList_append_str rfl _ _ rfl base g (s.length + (1 + wid st.size)) c1 _ rfl HR.out st rfl ?b1 ?b2 ?_)
  case b1 => omega
  case b2 => exact h2.bs
  intro g2 c2 w2 hrow3 hg3
  have hk3 : Keeps (fun i => i = wb ∨ base ≤ i) w w2 := by
    have hb1 : base ≤ g := by
      obtain ⟨_, ⟨e, _⟩ | ⟨g', cap, cur, e, r1, _⟩⟩ := HR.out
      · cases e
      · cases e; exact r1
    refine (hk2.mono ?_).grownAt hg3 (fun k e => by cases e; exact Or.inl (Or.inr hb1))
    rintro i (e | e)
    · exact Or.inl e
    · refine Or.inr ?_
      obtain ⟨_, ⟨e', _⟩ | ⟨g', cap, cur, e', r1, _⟩⟩ := h.row
      · injection e' with ea _ _; subst ea; simp [Value.ownBlock] at e
      · cases e'; cases e; exact r1
  have hb2 : base ≤ g2 := by
    obtain ⟨_, ⟨e, _⟩ | ⟨g', cap, cur, e, r1, _⟩⟩ := hrow3
    · cases e
    · cases e; exact r1
  have hlt2 : wb < (w1.setCell ⟨wb, 0, none⟩ (.slice (some ⟨g, 0, none⟩) (s.length + (1 + wid st.size)) c1)).heap.size := h2.lt
  have d1 : w2.cell? ⟨wb, 0, none⟩ = some (.slice (some ⟨g, 0, none⟩) (s.length + (1 + wid st.size)) c1) := by
    rw [World.cell?_of_block (w := w1.setCell ⟨wb, 0, none⟩ (.slice (some ⟨g, 0, none⟩) (s.length + (1 + wid st.size)) c1)) (hg3.block wb hlt2 (by simp; exact fun e => hgw e.symm)), h2.c0, ← HL.out]
  have d2 : w2.frozen? ⟨wb, 0, none⟩ = false := by
    rw [World.frozen?_of_block (w := w1.setCell ⟨wb, 0, none⟩ (.slice (some ⟨g, 0, none⟩) (s.length + (1 + wid st.size)) c1)) (hg3.block wb hlt2 (by simp; exact fun e => hgw e.symm)), h2.f0]
  have HL2 : Hid (s.length + (1 + wid st.size) + st.size = (s ++ (encInt st.size ++ st.data.toList)).length) := by
    show _ = _
    rw [← List.append_assoc, List.length_append, ← HL.out]; rfl
  go_wp2
  go_end0
  refine ⟨some ⟨g2, 0, none⟩, c2, rfl, ?_, hk3.setCell (S := fun i => i = wb ∨ base ≤ i) (p := ⟨wb, 0, none⟩) (Or.inl rfl) _⟩
  have hg2w : g2 ≠ wb := by omega
  have hh := h.bs
  have hsz := hk3.size
  refine { c0 := ?_, f0 := by rw [World.frozen?_setCell]; exact d2, row := ?_, bs := by simp [World.setCell]; omega, ne := by simp [Value.ownBlock]; exact hg2w }
  · rw [World.cell?_setCell_same _ _ _ d1, ← HL2.out]
  · rw [← HL2.out, ← List.append_assoc, bytesV_append]
    obtain ⟨hl, ⟨e, _⟩ | ⟨g', cap, cur, e, r1, r2, r3⟩⟩ := hrow3
    · cases e
    · refine ⟨hl, Or.inr ⟨g', cap, cur, e, r1, ?_, r3⟩⟩
      cases e
      rw [Below.heap_setCell _ _ _ _ hg2w]; exact r2
end Go.Proofs.YtmdjjnjhjojimaaDoor
