import Derived.Test.YtlmdeafmlommeaaGreatDoorLgU
namespace Go.Proofs.YtlmdeafmlommeaaGreatDoor
open Go.RowKit Go.Maps

/-- append of one record: what turns is the list's own row, the list's blocks beside others. -/
theorem wpList_append_recU2 {w : World} {ops : Array Oper} {rest : List Oper} {o : Oper} {a : Act} {Q : Exit → Act → World → Prop} (hgd : o.guard = none) (s x : Operand)
    (ho : o.op = .call { callee := .builtin .append, args := #[s, x], argTypes := #[30, 30] }) (base : Nat) (P : Nat → Prop) (v : Value) (R : List (List UInt8)) (hs : a.eval s = v) (h1 : ListU base w P v R) (b : Nat) (u : Value) (r : List UInt8) (hx : a.eval x = .slice (some ⟨b, 0, none⟩) 1 1) (hc : w.cell? ⟨b, 0, none⟩ = some u) (h2 : RecN base w P u r) (hlo : base ≤ w.heap.size) (hP : ∀ i, P i → i < w.heap.size) (hb : R.length ≤ 100000)
    (h : ∀ v' w', ListU base w' P v' (R ++ [r]) → Keeps (fun i => v.ownBlock = some i) w w' → wpList Tryz.prog ops Q rest (a.put o.dst v') w') : wpList Tryz.prog ops Q (o :: rest) a w := by
  obtain ⟨i0, hi, hz0, hz1, hz2⟩ := info_parts info44
  obtain ⟨U, ⟨V, hVl, hO, hV⟩, hU⟩ := h1
  obtain ⟨g, c, rfl, hgc, hgb, hgl, hgP, hB⟩ := h2
  have hown : w.ownsRow base 34 1 v R.length V := by
    refine ⟨by omega, ?_⟩
    rcases hO with ⟨rfl, h0⟩ | ⟨g, cap, cur, rfl, hu, hg, q1, q2, q3, q4⟩
    · exact .inl ⟨rfl, by rw [h0]; rfl⟩
    · exact .inr ⟨g, cap, cur, rfl, (hU g hu).1, hg, q1, q2, by omega, by rw [Nat.mul_one]; exact q4⟩
  have hob : ∀ k, v.ownBlock = some k → U k ∧ ∃ cur, w.heap[k]? = some (.cells cur 34) := by
    intro k hk
    rcases hO with ⟨rfl, h0⟩ | ⟨g, cap, cur, rfl, hu, hg, q1, q2, q3, q4⟩
    · cases hk
    · cases hk; exact ⟨hu, cur, hg⟩
  refine wpList_append_own_at w hgd s x 30 ho base 34 i0 (.slice none 0 0) 1 24 Tryz.underlying30 hi hz0 hz1 hz2 rfl (by decide) v R.length V hs hown ⟨b, 0, none⟩ 1 1 [.slice (some ⟨g, 0, none⟩) r.length c] hx rfl ?_ ?_ (by unfold maxLen; omega) (by omega) hlo (fun v1 w1 k1 k2 _ k3 => ?_)
  · intro j u' hu
    match j, hu with
    | 0, hu => rw [Addr.add_mid]; simp at hu; subst hu; exact hc
    | k + 1, hu => simp at hu
  · intro u' hu
    rw [List.mem_singleton] at hu
    subst hu
    rfl
  have hk : Keeps (fun i => v.ownBlock = some i) w w1 := (Keeps.refl _ w).grown k2 (fun k e => e)
  have hz := hk.size
  have hblk : ∀ {g' : Nat} {r' : List UInt8}, BlkAt w g' r' → BlkAt w1 g' r' := fun {g'} {r'} hb' => hb'.keep hk (fun e => by
    obtain ⟨_, cur, hc'⟩ := hob g' e
    obtain ⟨cur2, h2, _⟩ := hb'
    rw [hc'] at h2
    cases h2)
  have hnew : ∀ g1, v1.ownBlock = some g1 → base ≤ g1 → g1 < w1.heap.size → base ≤ g1 ∧ g1 < w1.heap.size ∧ ¬ P g1 := by
    intro g1 e h5 h6
    refine ⟨h5, h6, fun hp => ?_⟩
    rcases k3 with q | q
    · exact (hU g1 (hob g1 (q ▸ e)).1).2.2 hp
    · rw [q] at e
      cases e
      exact Nat.lt_irrefl _ (hP _ hp)
  refine h v1 w1 ⟨fun i => base ≤ i ∧ i < w1.heap.size ∧ ¬ P i, ⟨V ++ [.slice (some ⟨g, 0, none⟩) r.length c], ?_, ?_, ?_⟩, fun i hi => hi⟩ hk
  · simp only [List.length_append, List.length_singleton]; omega
  · rcases k1.2 with ⟨rfl, h0⟩ | ⟨g1, cap1, cur1, rfl, hb1, hg1, p1, p2, p3, p4⟩
    · exact absurd h0 (by omega)
    · refine .inr ⟨g1, cap1, cur1, ?_, hnew g1 rfl hb1 (Array.getElem?_eq_some_iff.1 hg1).1, hg1, ?_, p2, by omega, ?_⟩
      · rw [List.length_append]; rfl
      · rw [List.length_append]; exact p1
      · rw [Nat.mul_one] at p4
        rw [List.length_append]
        exact p4
  · intro j u' r' a1 b1
    by_cases hj : j < R.length
    · rw [List.getElem?_append_left (by omega)] at a1
      rw [List.getElem?_append_left hj] at b1
      obtain ⟨g0, c0, e0, y1, y2, y3⟩ := hV j u' r' a1 b1
      exact ⟨g0, c0, e0, y1, ⟨(hU g0 y2).1, by have := (hU g0 y2).2.1; omega, (hU g0 y2).2.2⟩, hblk y3⟩
    · rw [List.getElem?_append_right (by omega)] at a1
      rw [List.getElem?_append_right (by omega)] at b1
      have hj0 : j - V.length = 0 := by
        have := (List.getElem?_eq_some_iff.1 a1).1
        simp at this; omega
      rw [hj0] at a1
      rw [show j - R.length = 0 by omega] at b1
      simp at a1 b1
      subst a1 b1
      exact ⟨g, c, rfl, hgc, ⟨hgb, by omega, hgP⟩, hblk hB⟩
/-- append of a list to nothing. -/
theorem wpList_append_copyU {w : World} {ops : Array Oper} {rest : List Oper} {o : Oper} {a : Act} {Q : Exit → Act → World → Prop} (hgd : o.guard = none) (s x : Operand)
    (ho : o.op = .call { callee := .builtin .append, args := #[s, x], argTypes := #[30, 30] }) (base : Nat) (P : Nat → Prop) (hs : a.eval s = .slice none 0 0) (v2 : Value) (R2 : List (List UInt8)) (hx : a.eval x = v2) (h2 : ListU base w P v2 R2) (hlo : base ≤ w.heap.size) (hP : ∀ i, P i → i < w.heap.size) (hb : R2.length ≤ 100000)
    (h : ∀ v' w', ListU base w' P v' R2 → (v'.ownBlock = none ∨ v'.ownBlock = some w.heap.size) → Keeps (fun _ => False) w w' → wpList Tryz.prog ops Q rest (a.put o.dst v') w') : wpList Tryz.prog ops Q (o :: rest) a w := by
  obtain ⟨i0, hi, hz0, hz1, hz2⟩ := info_parts info44
  have h2' := h2
  obtain ⟨U, ⟨V, hVl, hO, hV⟩, hU⟩ := h2'
  rcases hO with ⟨rfl, h0⟩ | ⟨g, cap, cur, rfl, hu, hg, q1, q2, q3, q4⟩
  · refine wpList_append_own_none hgd s x 30 ho base 34 i0 1 Tryz.underlying30 hi (.slice none 0 0) 0 [] hs (World.ownsRow_nil _ _ _ _) hx (h (.slice none 0 0) w ?_ (Or.inl rfl) (Keeps.refl _ _))
    rw [h0]
    exact ListU.nil _ _ _
  · refine wpList_append_own_at w hgd s x 30 ho base 34 i0 (.slice none 0 0) 1 24 Tryz.underlying30 hi hz0 hz1 hz2 rfl (by decide) (.slice none 0 0) 0 [] hs (World.ownsRow_nil _ _ _ _) ⟨g, 0, none⟩ R2.length cap V hx (by omega) ?_ ?_ (by unfold maxLen; omega) (by omega) hlo (fun v1 w1 k1 k2 _ k3 => ?_)
    · intro j u hu
      rw [Addr.add_mid, cell_of_row _ _ (0 + j) cur 34 (0, 0) hg]
      rw [← q4, List.getElem?_take] at hu
      split at hu
      · simpa using hu
      · cases hu
    · intro u hu
      obtain ⟨j, hj, e⟩ := List.getElem_of_mem hu
      have hjR : j < R2.length := by omega
      obtain ⟨g2, c2, rfl, _⟩ := hV j u _ (by rw [List.getElem?_eq_getElem hj, e]) (List.getElem?_eq_getElem hjR)
      rfl
    have hk : Keeps (fun _ => False) w w1 := (Keeps.refl _ w).grown k2 (fun k e => by cases e)
    have hz := hk.size
    have k3' : v1.ownBlock = none ∨ v1.ownBlock = some w.heap.size := k3
    refine h v1 w1 ⟨fun i => base ≤ i ∧ i < w1.heap.size ∧ ¬ P i, ⟨V, hVl, ?_, ?_⟩, fun i hi => hi⟩ k3' hk
    · rcases k1.2 with ⟨rfl, h0⟩ | ⟨g1, cap1, cur1, rfl, hb1, hg1, p1, p2, p3, p4⟩
      · refine .inl ⟨rfl, ?_⟩
        rw [Nat.zero_add] at h0
        exact List.eq_nil_of_length_eq_zero h0
      · rw [Nat.zero_add] at p1 p4 ⊢
        refine .inr ⟨g1, cap1, cur1, rfl, ⟨hb1, (Array.getElem?_eq_some_iff.1 hg1).1, fun hp => ?_⟩, hg1, p1, p2, by omega, ?_⟩
        · rcases k3' with q | q
          · cases q
          · cases q
            exact Nat.lt_irrefl _ (hP _ hp)
        · rw [Nat.mul_one, List.nil_append] at p4
          exact p4
    · intro j u' r' a1 b1
      obtain ⟨g0, c0, e0, y1, y2, y3⟩ := hV j u' r' a1 b1
      exact ⟨g0, c0, e0, y1, ⟨(hU g0 y2).1, by have := (hU g0 y2).2.1; omega, (hU g0 y2).2.2⟩, y3.keep hk (fun e => e)⟩
/-- A device that power is taken from: what its log may be behind it. -/
def CutD (base n : Nat) (E : Nat → Prop) (w w0 wr : World) (db nb cap : Nat) (v : Value) (RV : List (List UInt8)) (T : List (List UInt8) → Int → Int → Prop) : Prop :=
  ∃ mb k B D left down, DevAt wr db nb mb n cap B k D left down ∧ k ≤ 3000 ∧ ListU base wr E v RV ∧ Below base w wr ∧ base ≤ wr.heap.size ∧ (∀ i, E i → i < wr.heap.size ∧ wr.heap[i]? = w0.heap[i]?) ∧ ∀ (K : List Bool) (L : List Int), L.Perm (intKeys D) → ∃ a' R' x' y', LogOn n (crashB D K L B L.length) a' R' x' y' ∧ T R' x' y'
section
variable {base n : Nat} {E : Nat → Prop} {w w0 wr w' : World} {db nb mb cap k lb sb : Nat} {B : List UInt8} {left : Int} {down : Bool} {v : Value} {a : Nat} {RL RV : List (List UInt8)} {x y : Int}
theorem CutD.keep {T : List (List UInt8) → Int → Int → Prop} (h : CutD base n E w w0 wr db nb cap v RV T) (hb : Below wr.heap.size wr w') : CutD base n E w w0 w' db nb cap v RV T := by
  obtain ⟨mb, k, B, D, left, down, h1, h2, h3, h4, h5, h6, h7⟩ := h
  have hK := Keeps.of_below (S := fun _ => False) hb
  have hz := hb.size
  exact ⟨mb, k, B, D, left, down, h1.keeps hK (fun e => e) (fun e => e) (fun e => e), h2, h3.below hb, h4.trans (hb.mono h5), by omega, fun i hi => ⟨by have := (h6 i hi).1; omega, (hb.block i (h6 i hi).1).trans (h6 i hi).2⟩, h7⟩
theorem CutD.mono {T T' : List (List UInt8) → Int → Int → Prop} (h : CutD base n E w w0 wr db nb cap v RV T) (ht : ∀ R x y, T R x y → T' R x y) : CutD base n E w w0 wr db nb cap v RV T' := by
  obtain ⟨mb, k, B, D, left, down, h1, h2, h3, h4, h5, h6, h7⟩ := h
  exact ⟨mb, k, B, D, left, down, h1, h2, h3, h4, h5, h6, fun K L hp => by obtain ⟨a', R', x', y', z1, z2⟩ := h7 K L hp; exact ⟨a', R', x', y', z1, ht _ _ _ z2⟩⟩
theorem CutU.cutoff (h : CutU base n E w w0 wr db nb mb cap k lb sb B left down v a RL RV x y) (hk : k ≤ 1000) : CutD base n E w w0 wr db nb cap v RV (fun R' x' y' => R' = RL ∧ x' = x ∧ y' = y) := by
  refine ⟨mb, k, B, _, left, down, h.d, by omega, h.rcs.keep (Keeps.refl (fun _ => False) wr) (fun _ _ e => e.elim) (fun _ _ e => Or.inr e), h.bel, h.sz, fun i hi => ⟨(h.ext i hi).2.1, (h.ext i hi).2.2⟩, fun K L hp => ?_⟩
  rw [crash_nothing hp]
  exact ⟨a, RL, x, y, h.log, rfl, rfl, rfl⟩
/-- What a failing call leaves. -/
theorem CutU.failed (h : CutU base n E w w0 wr db nb mb cap k lb sb B left down v a RL RV x y) {mb' k' : Nat} {B' : List UInt8} {D' : DataW Unit} {left' : Int} {down' : Bool} {T : List (List UInt8) → Int → Int → Prop} (hk : Keeps (five db nb mb sb lb) wr w') (hd : DevAt w' db nb mb' n cap B' k' D' left' down') (hk' : k' ≤ 3000) (hT : ∀ (K : List Bool) (L : List Int), L.Perm (intKeys D') → ∃ a' R' x' y', LogOn n (crashB D' K L B' L.length) a' R' x' y' ∧ T R' x' y') : CutD base n E w w0 w' db nb cap v RV T := by
  have hz := hk.size
  have h5 := h.sz
  exact ⟨mb', k', B', D', left', down', hd, hk', h.rcs.keep hk (fun _ _ e => Or.inl e) (fun _ _ e => Or.inr e), h.bel.trans (hk.below h5 (fun i e => (h.lt5 i e).1)), by omega, fun i hi => ⟨by have := (h.ext i hi).2.1; omega, (hk.block i (h.ext i hi).2.1 (h.ext i hi).1).trans (h.ext i hi).2.2⟩, hT⟩
/-- An Append, whatever comes. -/
theorem CutU.append_two (h : CutU base n E w w0 wr db nb mb cap k lb sb B left down v a RL RV x y) (hk : k ≤ 1000) {g c m : Nat} {s : List UInt8} (hN : RecN base wr (fun i => five db nb mb sb lb i ∨ E i) (.slice (some ⟨g, 0, none⟩) m c) s) (hm : s.length = m) (hm1 : 1 ≤ m) (hm2 : m ≤ 1000) (hz : (encR RL).length + (m + 2) ≤ ringN n) :
    Calls Tryz.prog 18 #[.pointer (some ⟨lb, 0, none⟩), .slice (some ⟨g, 0, none⟩) m c] wr fun e w' => (e = .returned (.int .i64 0) ∧ ∃ mb' k' B' left' down', k' ≤ 1 ∧ CutU base n E w w0 w' db nb mb' cap k' lb sb B' left' down' v a (RL ++ [s]) RV x y ∧ RecN base w' (fun i => five db nb mb' sb lb i ∨ E i) (.slice (some ⟨g, 0, none⟩) m c) s) ∨ (e = .returned (.int .i64 9) ∧ CutD base n E w w0 w' db nb cap v RV (fun R' x' y' => (R' = RL ∨ R' = RL ++ [s]) ∧ x' = x ∧ y' = y) ∧ RecN base w' E (.slice (some ⟨g, 0, none⟩) m c) s) := by
  subst hm
  have hn1 := h.d.n1
  have hn2 := h.d.n2
  have hrng : wr.rangeAt g 0 (bytesV s) := by
    obtain ⟨g', c', e, _, _, _, _, hB⟩ := hN
    injection e with e1
    injection e1 with e1
    injection e1 with e1
    subst e1
    exact hB.range
  refine (append_at h.l h.d h.s h.ne h.nl hk a (encR RL).length x y h.log.tl h.log.al h.log.fit2 g 0 c s hm1 hm2 hz hrng).mono ?_
  rintro e w8 ⟨code8, mb8, k8, B8, D8, left8, down8, rfl, hd8, hk8, hk8', hm8, hK8, hO8, ⟨ov, hSl8, hov⟩, hL8, _⟩
  rcases append_lasts hn1 hn2 h.log ⟨hm1, hm2⟩ hz hO8 with ⟨rfl, rfl, hl⟩ | ⟨rfl, _, hC⟩
  · obtain rfl := hov rfl
    refine Or.inl ⟨rfl, mb8, k8, B8, left8, down8, hk8' rfl, h.turn hK8 hm8 hd8 (hL8 rfl) hSl8 hl, hN.keep hK8 (fun i _ e => Or.inl e) (fun i hi e => ?_)⟩
    rcases e with e | e
    · refine Or.inl ?_
      unfold five at e ⊢
      omega
    · exact Or.inr e
  · refine Or.inr ⟨rfl, h.failed hK8 hd8 (by omega) (fun K L hp => ?_), hN.keep hK8 (fun i _ e => Or.inl e) (fun i hi e => Or.inr e)⟩
    rcases hC hd8 K hp with q | q
    · exact ⟨_, _, _, _, q, Or.inl rfl, rfl, rfl⟩
    · exact ⟨_, _, _, _, q, Or.inr rfl, rfl, rfl⟩
/-- A Reset, whatever comes. -/
theorem CutU.reset_two (h : CutU base n E w w0 wr db nb mb cap k lb sb B left down v a RL RV x y) (hk : k ≤ 1000) (x2 y2 : Int) (hx : AllFit [x2, y2]) :
    Calls Tryz.prog 19 #[.pointer (some ⟨lb, 0, none⟩), .int .i64 x2, .int .i64 y2] wr fun e w' => (e = .returned (.int .i64 0) ∧ ∃ mb' k' B' a' left' down', k' ≤ k + 1 ∧ CutU base n E w w0 w' db nb mb' cap k' lb sb B' left' down' v a' [] RV x2 y2) ∨ (e = .returned (.int .i64 9) ∧ CutD base n E w w0 w' db nb cap v RV (fun R' x' y' => (R' = RL ∧ x' = x ∧ y' = y) ∨ (R' = [] ∧ x' = x2 ∧ y' = y2))) := by
  have hn1 := h.d.n1
  have hn2 := h.d.n2
  refine (reset_at h.l h.d h.s h.ne h.nl hk a (encR RL).length x y h.log.tl h.log.al h.log.sz x2 y2 hx).mono ?_
  rintro e w8 ⟨code8, mb8, k8, B8, D8, left8, down8, rfl, hd8, hk8, hm8, hK8, hO8, hSl8, hL8, _⟩
  rcases reset_lasts hn1 hn2 h.log hx hO8 with ⟨rfl, rfl, hl⟩ | ⟨rfl, _, hC⟩
  · exact Or.inl ⟨rfl, mb8, k8, B8, _, left8, down8, hk8, h.turn hK8 hm8 hd8 (hL8 rfl) hSl8 hl⟩
  · refine Or.inr ⟨rfl, h.failed hK8 hd8 (by omega) (fun K L hp => ?_)⟩
    rcases hC hd8 K hp with q | q
    · exact ⟨_, _, _, _, q, Or.inl ⟨rfl, rfl, rfl⟩⟩
    · exact ⟨_, _, _, _, q, Or.inr ⟨rfl, rfl, rfl⟩⟩
/-- Blocks besides, from here on. -/
theorem CutU.withE (h : CutU base n (fun _ => False) w w0 wr db nb mb cap k lb sb B left down v a RL RV x y) (hb : Below wr.heap.size wr w') (hE : ∀ i, E i → wr.heap.size ≤ i ∧ i < w'.heap.size) : CutU base n E w w' w' db nb mb cap k lb sb B left down v a RL RV x y := by
  have h1 := h.keep hb
  refine { h1 with rcs := ?_, ext := fun i hi => ⟨fun e => ?_, (hE i hi).2, rfl⟩ }
  · obtain ⟨U, q1, q2⟩ := h.rcs
    refine ⟨U, q1.keep (Keeps.of_below (S := fun _ => False) hb) (fun _ _ e => e), fun i hi => ⟨(q2 i hi).1, by have := (q2 i hi).2.1; have := hb.size; omega, fun e => ?_⟩⟩
    rcases e with e | e
    · exact (q2 i hi).2.2 (Or.inl e)
    · have := (hE i e).1; have := (q2 i hi).2.1; omega
  · have := (h.lt5 i e).2; have := (hE i hi).1; omega
theorem CutU.noE (h : CutU base n E w w0 wr db nb mb cap k lb sb B left down v a RL RV x y) : CutU base n (fun _ => False) w wr wr db nb mb cap k lb sb B left down v a RL RV x y :=
  { h with rcs := h.rcs.keep (Keeps.refl (fun _ => False) wr) (fun _ _ e => e.elim) (fun _ _ e => e.elim (fun e => Or.inl e) (fun e => e.elim)), ext := fun _ e => e.elim }
/-- The list is another one; nothing that was there has turned. -/
theorem CutU.relist (h : CutU base n E w w0 wr db nb mb cap k lb sb B left down v a RL RV x y) (hb : Below wr.heap.size wr w') {v1 : Value} {RV1 : List (List UInt8)} (hr : ListU base w' (fun i => five db nb mb sb lb i ∨ E i) v1 RV1) : CutU base n E w w0 w' db nb mb cap k lb sb B left down v1 a RL RV1 x y :=
  { h.keep hb with rcs := hr }
end
end Go.Proofs.YtlmdeafmlommeaaGreatDoor
