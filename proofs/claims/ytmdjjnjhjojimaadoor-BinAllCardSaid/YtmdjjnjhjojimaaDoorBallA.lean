import Derived.Test.YtmdjjnjhjojimaaDoorGetB
import Derived.Test.YtmdjjnjhjojimaaDoorBinD
namespace Go.Proofs.YtmdjjnjhjojimaaDoor
open Go.RowKit Go.Maps

/-- 'append(b, s...)': where the new row lies. -/
theorem append_str_at {w : World} (ty : TypeId) (base b n c : Nat) (xs : List Value) (hown : w.ownsRow base 5 1 (.slice (some ⟨b, 0, none⟩) n c) n xs) (st : ByteArray) (h63 : n + st.size ≤ 100000000000) (hbase : base ≤ w.heap.size) :
    ∃ g c' w', (Builtin.append_ #[33, 9] ty #[.slice (some ⟨b, 0, none⟩) n c, .string st]).run Tryd.prog w = .ok (.slice (some ⟨g, 0, none⟩) (n + st.size) c') w' ∧ w'.ownsRow base 5 1 (.slice (some ⟨g, 0, none⟩) (n + st.size) c') (n + st.size) (xs ++ bytesV st.data.toList) ∧ w.grownBy w' (some b) ∧ (g = b ∨ g = w.heap.size) := by
  obtain ⟨i0, hi, hz0, hz1, hz2⟩ := info_parts info5
  obtain ⟨v', w', hr, h2, h3, h4⟩ := Lib.run_append_own_string (P := Tryd.prog) w base 33 9 ty 5 i0 Tryd.underlying33 Tryd.underlying9 hi hz0 hz1 hz2 (.slice (some ⟨b, 0, none⟩) n c) n xs hown st (by unfold maxLen; omega) (by omega) hbase
  have hown' := hown
  obtain ⟨hl, ⟨e, _⟩ | ⟨g, cap, cur, e, hg, hblk, hnc, hcm, hcs, hcur⟩⟩ := hown
  · cases e
  · cases e
    by_cases hroom : n + st.size ≤ c
    · have h5 := Lib.run_append_room_string (P := Tryd.prog) w 33 9 ty 5 i0 Tryd.underlying33 Tryd.underlying9 hi hz1 b n c cur hblk st hroom (by omega)
      rw [hr] at h5
      injection h5 with e1 e2
      subst e1
      exact ⟨b, c, w', hr, h2, h3, Or.inl rfl⟩
    · have h5 := Lib.run_append_grow_string (P := Tryd.prog) w 33 9 ty 5 i0 (.int .u8 0) Tryd.underlying33 Tryd.underlying9 hi hz0 ⟨b, 0, none⟩ n c xs (by rw [hz1]; exact hl) (hown'.cells (g := b) rfl) st (by omega) (by omega) (by rw [hz2]; exact growslice_fits (by omega) (by omega))
      rw [hr] at h5
      injection h5 with e1 e2
      subst e1
      exact ⟨w.heap.size, _, w', hr, h2, h3, Or.inr rfl⟩
theorem wpList_append_str_at {w : World} {ops : Array Oper} {rest : List Oper} {o : Oper} {a : Act} {Q : Exit → Act → World → Prop} (hgd : o.guard = none) (sl x : Operand) (ho : o.op = .call { callee := .builtin .append, args := #[sl, x], argTypes := #[33, 9] })
    (base : Nat) (b n c : Nat) (xs : List Value) (hs : a.eval sl = .slice (some ⟨b, 0, none⟩) n c) (hown : w.ownsRow base 5 1 (.slice (some ⟨b, 0, none⟩) n c) n xs) (st : ByteArray) (hx : a.eval x = .string st)
    (h63 : n + st.size ≤ 100000000000) (hbase : base ≤ w.heap.size)
    (h : ∀ g c' w', w'.ownsRow base 5 1 (.slice (some ⟨g, 0, none⟩) (n + st.size) c') (n + st.size) (xs ++ bytesV st.data.toList) → w.grownBy w' (some b) → (g = b ∨ g = w.heap.size) → wpList Tryd.prog ops Q rest (a.put o.dst (.slice (some ⟨g, 0, none⟩) (n + st.size) c')) w') : wpList Tryd.prog ops Q (o :: rest) a w := by
  refine wpList_plain hgd fun K hK => ?_
  obtain ⟨g, c', w', hr, h2, h3, h4⟩ := append_str_at o.type base b n c xs hown st h63 hbase
  unfold Oper.wp execOp
  simp only [ho, resolve, invoke, builtin, Sem.run_bind, Sem.run_pure, Result.andThen_ok, List.map_toArray, List.map_cons, List.map_nil, hs, hx, hr]
  exact hK _ _ (h g c' w' h2 h3 h4)

set_option maxRecDepth 100000 in
set_option maxHeartbeats 400000 in
theorem text_fine {w : World} {wb base : Nat} {s : List UInt8} {a : Option Addr} {c : Nat} (h : WrAt w wb base s a c) (hwb : wb < base) (st : ByteArray) (hm : s.length + 10 + st.size ≤ 1000000000) :
    Calls Tryd.prog 28 #[.pointer (some ⟨wb, 0, none⟩), .string st] w fun e w' => ∃ a' c', e = .returned (.tuple #[]) ∧ WrAt w' wb base (s ++ (encInt st.size ++ st.data.toList)) a' c' ∧ Keeps (WrMay wb (.slice a s.length c)) w w' ∧ Moved w (.slice a s.length c) (.slice a' (s ++ (encInt st.size ++ st.data.toList)).length c') := by
  have c0 := h.c0
  have hwl := wid_le st.size
  go_enter Tryd.func28, Tryd.ntmps28
  go_wp2_with fail
  refine (appendInt_shape a s.length c base _ st.size w (by omega) (by omega) h.row h.bs (by omega)).mono ?_
  rintro e w1 ⟨g, c1, rfl, hrow1, hk1, hm1⟩
  have HL : Hid (s.length + (1 + wid st.size) = (s ++ encInt st.size).length) := by show _ = _; rw [List.length_append, encInt_length]
  have hst := h.stored HL.out (by rw [bytesV_append]; exact hrow1) hk1 hm1
  have cc : w1.cell? ⟨wb, 0, none⟩ = some (.slice a s.length c) := (hk1.cell (p := ⟨wb, 0, none⟩) h.lt h.ne).trans h.c0
  have cf : w1.frozen? ⟨wb, 0, none⟩ = false := (hk1.frozen (p := ⟨wb, 0, none⟩) h.lt h.ne).trans h.f0
  obtain ⟨h2, hk2⟩ := hst
  clear c0
  have hrow2 := h2.row
  rw [← HL.out] at hrow2
  have hgw : g ≠ wb := fun e => h2.ne (by rw [e]; rfl)
  have HR : Hid ((w1.setCell ⟨wb, 0, none⟩ (.slice (some ⟨g, 0, none⟩) (s.length + (1 + wid st.size)) c1)).ownsRow base 5 1 (.slice (some ⟨g, 0, none⟩) (s.length + (1 + wid st.size)) c1) (s.length + (1 + wid st.size)) (bytesV (s ++ encInt st.size))) := hrow2
  clear hrow2
  go_wp2_with (at_builtin; refine wpList_append_str_at rfl _ _ rfl base g (s.length + (1 + wid st.size)) c1 _ rfl HR.out st rfl ?b1 ?b2 ?_)
  case b1 => omega
  case b2 => exact h2.bs
  intro g2 c2 w2 hrow3 hg3 hloc3
  have hgS : WrMay wb (.slice a s.length c) g ∨ w.heap.size ≤ g := by
    rcases hm1 with x | ⟨g', x, hge⟩
    · exact Or.inl (Or.inr x.symm)
    · cases x; exact Or.inr hge
  have hk3 : Keeps (WrMay wb (.slice a s.length c)) w w2 := hk2.grownAt hg3 (fun k e => by cases e; exact hgS)
  have hmv : Moved w (.slice a s.length c) (.slice (some ⟨g2, 0, none⟩) (s.length + (1 + wid st.size) + st.size) c2) := by
    rcases hloc3 with rfl | rfl
    · rcases hm1 with x | ⟨g', x, hge⟩
      · exact Or.inl x
      · exact Or.inr ⟨g', x, hge⟩
    · exact Or.inr ⟨_, rfl, hk1.size⟩
  have hb2 : base ≤ g2 := by
    obtain ⟨_, ⟨e, _⟩ | ⟨g', cap, cur, e, r1, _⟩⟩ := hrow3
    · cases e
    · cases e; exact r1
  have hlt2 : wb < (w1.setCell ⟨wb, 0, none⟩ (.slice (some ⟨g, 0, none⟩) (s.length + (1 + wid st.size)) c1)).heap.size := h2.lt
  have d1 : w2.cell? ⟨wb, 0, none⟩ = some (.slice (some ⟨g, 0, none⟩) (s.length + (1 + wid st.size)) c1) := by
    rw [World.cell?_of_block (w := w1.setCell ⟨wb, 0, none⟩ (.slice (some ⟨g, 0, none⟩) (s.length + (1 + wid st.size)) c1)) (hg3.block wb hlt2 (by simp; exact fun e => hgw e.symm)), h2.c0, ← HL.out]
  have d2 : w2.frozen? ⟨wb, 0, none⟩ = false := by
    rw [World.frozen?_of_block (w := w1.setCell ⟨wb, 0, none⟩ (.slice (some ⟨g, 0, none⟩) (s.length + (1 + wid st.size)) c1)) (hg3.block wb hlt2 (by simp; exact fun e => hgw e.symm)), h2.f0]
  have HL2 : Hid (s.length + (1 + wid st.size) + st.size = (s ++ (encInt st.size ++ st.data.toList)).length) := by
    show _ = _
    rw [← List.append_assoc, List.length_append, ← HL.out]; rfl
  go_wp2
  go_end0
  refine ⟨some ⟨g2, 0, none⟩, c2, rfl, ?_, hk3.setCell (S := WrMay wb (.slice a s.length c)) (p := ⟨wb, 0, none⟩) (Or.inl rfl) _, by rw [← HL2.out]; exact hmv⟩
  have hg2w : g2 ≠ wb := by omega
  have hh := h.bs
  have hsz := hk3.size
  refine { c0 := ?_, f0 := by rw [World.frozen?_setCell]; exact d2, row := ?_, bs := by simp [World.setCell]; omega, ne := by simp [Value.ownBlock]; exact hg2w }
  · rw [World.cell?_setCell_same _ _ _ d1, ← HL2.out]
  · rw [← HL2.out, ← List.append_assoc, bytesV_append]
    obtain ⟨hl, ⟨e, _⟩ | ⟨g', cap, cur, e, r1, r2, r3⟩⟩ := hrow3
    · cases e
    · refine ⟨hl, Or.inr ⟨g', cap, cur, e, r1, ?_, r3⟩⟩
      cases e
      rw [Below.heap_setCell _ _ _ _ hg2w]; exact r2

/-- The reference's Text. -/
theorem reftext_any (st : ByteArray) (w : World) (hs : st.size ≤ 1000000) :
    Calls Tryd.prog 30 #[.string st] w fun e w' => ∃ g c, e = .returned (.slice (some ⟨g, 0, none⟩) (1 + wid st.size + st.size) c) ∧ w'.ownsRow w.heap.size 5 1 (.slice (some ⟨g, 0, none⟩) (1 + wid st.size + st.size) c) (1 + wid st.size + st.size) (bytesV (encInt st.size ++ st.data.toList)) ∧ Below w.heap.size w w' := by
  have hwl := wid_le st.size
  go_enter Tryd.func30, Tryd.ntmps30
  go_wp2_with fail
  refine (refInt_any st.size w (by omega) (by omega)).mono ?_
  rintro e w1 ⟨g, c, rfl, hrow, hb⟩
  have hbs := hb.size
  go_wp2_with (at_builtin; refine wpList_append_str_at rfl _ _ rfl w.heap.size g (1 + wid st.size) c _ rfl hrow st rfl ?b1 ?b2 ?_)
  case b1 => omega
  case b2 => exact hbs
  intro g2 c2 w2 hrow2 hg2 _
  have hg0 : w.heap.size ≤ g := by
    obtain ⟨_, ⟨e, _⟩ | ⟨g', cap, cur, e, r1, _⟩⟩ := hrow
    · cases e
    · cases e; exact r1
  have hb2 : Below w.heap.size w w2 := hb.grown hg2 hbs (fun k e => by cases e; exact hg0)
  go_wp2
  go_ret
  exact ⟨g2, c2, rfl, by rw [bytesV_append]; exact hrow2, hb2⟩
end Go.Proofs.YtmdjjnjhjojimaaDoor
