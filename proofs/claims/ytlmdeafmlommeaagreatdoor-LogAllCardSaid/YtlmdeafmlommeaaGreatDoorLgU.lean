import Derived.Test.YtlmdeafmlommeaaGreatDoorLgD
namespace Go.Proofs.YtlmdeafmlommeaaGreatDoor
open Go.RowKit Go.Maps

/-- A list of records whose blocks are none of P's. -/
def ListU (base : Nat) (w : World) (P : Nat → Prop) (v : Value) (R : List (List UInt8)) : Prop := ∃ U, RecsU w U v R ∧ ∀ i, U i → base ≤ i ∧ i < w.heap.size ∧ ¬ P i
/-- A record of its own. -/
def RecN (base : Nat) (w : World) (P : Nat → Prop) (u : Value) (r : List UInt8) : Prop := ∃ g c, u = .slice (some ⟨g, 0, none⟩) r.length c ∧ r.length ≤ c ∧ base ≤ g ∧ g < w.heap.size ∧ ¬ P g ∧ BlkAt w g r
theorem ListU.nil (base : Nat) (w : World) (P : Nat → Prop) : ListU base w P (.slice none 0 0) [] := ⟨fun _ => False, ⟨[], rfl, Or.inl ⟨rfl, rfl⟩, fun j u r h _ => by simp at h⟩, fun _ h => h.elim⟩
theorem ListU.keep {base : Nat} {S : Nat → Prop} {w w' : World} {P P' : Nat → Prop} {v : Value} {R : List (List UInt8)} (h : ListU base w P v R) (hk : Keeps S w w') (hS : ∀ i, i < w.heap.size → S i → P i) (hP : ∀ i, i < w.heap.size → P' i → P i) : ListU base w' P' v R := by
  obtain ⟨U, h1, h2⟩ := h
  exact ⟨U, h1.keep hk (fun i hi hs => (h2 i hi).2.2 (hS i (h2 i hi).2.1 hs)), fun i hi => ⟨(h2 i hi).1, Nat.lt_of_lt_of_le (h2 i hi).2.1 hk.size, fun hp => (h2 i hi).2.2 (hP i (h2 i hi).2.1 hp)⟩⟩
theorem RecN.keep {base : Nat} {S : Nat → Prop} {w w' : World} {P P' : Nat → Prop} {u : Value} {r : List UInt8} (h : RecN base w P u r) (hk : Keeps S w w') (hS : ∀ i, i < w.heap.size → S i → P i) (hP : ∀ i, i < w.heap.size → P' i → P i) : RecN base w' P' u r := by
  obtain ⟨g, c, e, hc, h1, h2, h3, hB⟩ := h
  exact ⟨g, c, e, hc, h1, Nat.lt_of_lt_of_le h2 hk.size, fun hp => h3 (hP g h2 hp), hB.keep hk (fun hs => h3 (hS g h2 hs))⟩
theorem ListU.below {base : Nat} {w w' : World} {P : Nat → Prop} {v : Value} {R : List (List UInt8)} (h : ListU base w P v R) (hb : Below w.heap.size w w') : ListU base w' P v R := h.keep (Keeps.of_below (S := fun _ => False) hb) (fun _ _ e => e.elim) (fun _ _ e => e)
theorem ListU.toAt {base : Nat} {w : World} {P : Nat → Prop} {v : Value} {R : List (List UInt8)} (h : ListU base w P v R) : RecsAt w base v R ∧ ∀ k, v.ownBlock = some k → k < w.heap.size ∧ ¬ P k := by
  obtain ⟨U, ⟨V, hl, hO, hV⟩, h2⟩ := h
  refine ⟨⟨V, ⟨by omega, ?_⟩, fun j u r a b => ?_⟩, fun k hk => ?_⟩
  · rcases hO with ⟨rfl, h0⟩ | ⟨g, cap, cur, rfl, hu, hg, q1, q2, q3, q4⟩
    · exact .inl ⟨rfl, by rw [h0]; rfl⟩
    · exact .inr ⟨g, cap, cur, rfl, (h2 g hu).1, hg, q1, q2, by omega, by rw [Nat.mul_one]; exact q4⟩
  · obtain ⟨g, c, e, hc, hu, hb⟩ := hV j u r a b
    exact ⟨g, c, e, hc, (h2 g hu).1, hb⟩
  · rcases hO with ⟨rfl, h0⟩ | ⟨g, cap, cur, rfl, hu, hg, q1, q2, q3, q4⟩
    · cases hk
    · cases hk; exact (h2 g hu).2
/-- append of one record, the list's blocks beside others. -/
theorem wpList_append_recU {w : World} {ops : Array Oper} {rest : List Oper} {o : Oper} {a : Act} {Q : Exit → Act → World → Prop} (hgd : o.guard = none) (s x : Operand)
    (ho : o.op = .call { callee := .builtin .append, args := #[s, x], argTypes := #[30, 30] }) (base : Nat) (P : Nat → Prop) (v : Value) (R : List (List UInt8)) (hs : a.eval s = v) (h1 : ListU base w P v R) (b : Nat) (u : Value) (r : List UInt8) (hx : a.eval x = .slice (some ⟨b, 0, none⟩) 1 1) (hc : w.cell? ⟨b, 0, none⟩ = some u) (h2 : RecN base w P u r) (hlo : base ≤ w.heap.size) (hP : ∀ i, P i → i < w.heap.size) (hb : R.length ≤ 100000)
    (h : ∀ v' w', ListU base w' P v' (R ++ [r]) → Keeps (fun i => base ≤ i ∧ ¬ P i) w w' → wpList Tryz.prog ops Q rest (a.put o.dst v') w') : wpList Tryz.prog ops Q (o :: rest) a w := by
  obtain ⟨i0, hi, hz0, hz1, hz2⟩ := info_parts info44
  obtain ⟨U, ⟨V, hVl, hO, hV⟩, hU⟩ := h1
  obtain ⟨g, c, rfl, hgc, hgb, hgl, hgP, hB⟩ := h2
  have hown : w.ownsRow base 34 1 v R.length V := by
    refine ⟨by omega, ?_⟩
    rcases hO with ⟨rfl, h0⟩ | ⟨g, cap, cur, rfl, hu, hg, q1, q2, q3, q4⟩
    · exact .inl ⟨rfl, by rw [h0]; rfl⟩
    · exact .inr ⟨g, cap, cur, rfl, (hU g hu).1, hg, q1, q2, by omega, by rw [Nat.mul_one]; exact q4⟩
  have hob : ∀ k, v.ownBlock = some k → U k ∧ ∃ cur, w.heap[k]? = some (.cells cur 34) := by
    intro k hk
    rcases hO with ⟨rfl, h0⟩ | ⟨g, cap, cur, rfl, hu, hg, q1, q2, q3, q4⟩
    · cases hk
    · cases hk; exact ⟨hu, cur, hg⟩
  refine wpList_append_own_at w hgd s x 30 ho base 34 i0 (.slice none 0 0) 1 24 Tryz.underlying30 hi hz0 hz1 hz2 rfl (by decide) v R.length V hs hown ⟨b, 0, none⟩ 1 1 [.slice (some ⟨g, 0, none⟩) r.length c] hx rfl ?_ ?_ (by unfold maxLen; omega) (by omega) hlo (fun v1 w1 k1 k2 _ k3 => ?_)
  · intro j u' hu
    match j, hu with
    | 0, hu => rw [Addr.add_mid]; simp at hu; subst hu; exact hc
    | k + 1, hu => simp at hu
  · intro u' hu
    rw [List.mem_singleton] at hu
    subst hu
    rfl
  have hk : Keeps (fun i => v.ownBlock = some i) w w1 := (Keeps.refl _ w).grown k2 (fun k e => e)
  have hz := hk.size
  have hblk : ∀ {g' : Nat} {r' : List UInt8}, BlkAt w g' r' → BlkAt w1 g' r' := fun {g'} {r'} hb' => hb'.keep hk (fun e => by
    obtain ⟨_, cur, hc'⟩ := hob g' e
    obtain ⟨cur2, h2, _⟩ := hb'
    rw [hc'] at h2
    cases h2)
  have hnew : ∀ g1, v1.ownBlock = some g1 → base ≤ g1 → g1 < w1.heap.size → base ≤ g1 ∧ g1 < w1.heap.size ∧ ¬ P g1 := by
    intro g1 e h5 h6
    refine ⟨h5, h6, fun hp => ?_⟩
    rcases k3 with q | q
    · exact (hU g1 (hob g1 (q ▸ e)).1).2.2 hp
    · rw [q] at e
      cases e
      exact Nat.lt_irrefl _ (hP _ hp)
  refine h v1 w1 ⟨fun i => base ≤ i ∧ i < w1.heap.size ∧ ¬ P i, ⟨V ++ [.slice (some ⟨g, 0, none⟩) r.length c], ?_, ?_, ?_⟩, fun i hi => hi⟩ (hk.mono (fun i e => ⟨(hU i (hob i e).1).1, (hU i (hob i e).1).2.2⟩))
  · simp only [List.length_append, List.length_singleton]; omega
  · rcases k1.2 with ⟨rfl, h0⟩ | ⟨g1, cap1, cur1, rfl, hb1, hg1, p1, p2, p3, p4⟩
    · exact absurd h0 (by omega)
    · refine .inr ⟨g1, cap1, cur1, ?_, hnew g1 rfl hb1 (Array.getElem?_eq_some_iff.1 hg1).1, hg1, ?_, p2, by omega, ?_⟩
      · rw [List.length_append]; rfl
      · rw [List.length_append]; exact p1
      · rw [Nat.mul_one] at p4
        rw [List.length_append]
        exact p4
  · intro j u' r' a1 b1
    by_cases hj : j < R.length
    · rw [List.getElem?_append_left (by omega)] at a1
      rw [List.getElem?_append_left hj] at b1
      obtain ⟨g0, c0, e0, y1, y2, y3⟩ := hV j u' r' a1 b1
      exact ⟨g0, c0, e0, y1, ⟨(hU g0 y2).1, by have := (hU g0 y2).2.1; omega, (hU g0 y2).2.2⟩, hblk y3⟩
    · rw [List.getElem?_append_right (by omega)] at a1
      rw [List.getElem?_append_right (by omega)] at b1
      have hj0 : j - V.length = 0 := by
        have := (List.getElem?_eq_some_iff.1 a1).1
        simp at this; omega
      rw [hj0] at a1
      rw [show j - R.length = 0 by omega] at b1
      simp at a1 b1
      subst a1 b1
      exact ⟨g, c, rfl, hgc, ⟨hgb, by omega, hgP⟩, hblk hB⟩
/-- A device with its log, a list of records besides, some blocks E that stay as they were. -/
structure CutU (base n : Nat) (E : Nat → Prop) (w w0 wr : World) (db nb mb cap k lb sb : Nat) (B : List UInt8) (left : Int) (down : Bool) (v : Value) (a : Nat) (RL RV : List (List UInt8)) (x y : Int) : Prop where
  d : DevAt wr db nb mb n cap B k (.map []) left down
  l : LgAt wr lb db n sb false 0 0 0 0
  s : SlAt wr sb db false
  ne : sb ≠ db ∧ sb ≠ nb ∧ sb ≠ mb
  nl : lb ≠ db ∧ lb ≠ nb ∧ lb ≠ mb ∧ lb ≠ sb
  low : base ≤ db ∧ base ≤ nb ∧ base ≤ mb ∧ base ≤ sb ∧ base ≤ lb
  log : LogOn n B a RL x y
  rcs : ListU base wr (fun i => five db nb mb sb lb i ∨ E i) v RV
  bel : Below base w wr
  sz : base ≤ wr.heap.size
  ext : ∀ i, E i → ¬ five db nb mb sb lb i ∧ i < wr.heap.size ∧ wr.heap[i]? = w0.heap[i]?
variable {base n : Nat} {E : Nat → Prop} {w w0 wr w' : World} {db nb mb cap k lb sb : Nat} {B : List UInt8} {left : Int} {down : Bool} {v : Value} {a : Nat} {RL RV : List (List UInt8)} {x y : Int}
theorem CutU.start (h : Seat base wr db nb mb n cap k lb sb B) (hl : LogOn n B a RL x y) (hb : Below base w wr) (h0 : base ≤ wr.heap.size) (hE : ∀ i, E i → ¬ five db nb mb sb lb i ∧ i < wr.heap.size) : CutU base n E w wr wr db nb mb cap k lb sb B 0 false (.slice none 0 0) a RL [] x y :=
  ⟨h.d, h.l, h.s, h.ne, h.nl, h.low, hl, ListU.nil _ _ _, hb, h0, fun i hi => ⟨(hE i hi).1, (hE i hi).2, rfl⟩⟩
theorem CutU.seat (h : CutU base n E w w0 wr db nb mb cap k lb sb B 0 false v a RL RV x y) : Seat base wr db nb mb n cap k lb sb B := ⟨h.d, h.l, h.s, h.ne, h.nl, h.low⟩
theorem CutU.lt5 (h : CutU base n E w w0 wr db nb mb cap k lb sb B left down v a RL RV x y) : ∀ i, five db nb mb sb lb i → base ≤ i ∧ i < wr.heap.size := fun i e => by
  have h1 := h.d.dlt
  have h2 := h.d.nlt
  have h3 := h.d.mlt
  have h4 := h.s.lt
  have h5 := h.l.lt
  have h6 := h.low
  unfold five at e
  omega
theorem CutU.ltP (h : CutU base n E w w0 wr db nb mb cap k lb sb B left down v a RL RV x y) : ∀ i, (five db nb mb sb lb i ∨ E i) → i < wr.heap.size := fun i e => by
  rcases e with e | e
  · exact (h.lt5 i e).2
  · exact (h.ext i e).2.1
/-- What the log's own calls turn. -/
theorem CutU.turn (h : CutU base n E w w0 wr db nb mb cap k lb sb B left down v a RL RV x y) {mb' k' : Nat} {B' : List UInt8} {a' : Nat} {RL' : List (List UInt8)} {x' y' left' : Int} {down' : Bool} (hk : Keeps (five db nb mb sb lb) wr w') (hm : mb' = mb ∨ wr.heap.size ≤ mb') (hd : DevAt w' db nb mb' n cap B' k' (.map []) left' down') (hl : LgAt w' lb db n sb false 0 0 0 0) (hs : SlAt w' sb db false) (hg : LogOn n B' a' RL' x' y') : CutU base n E w w0 w' db nb mb' cap k' lb sb B' left' down' v a' RL' RV x' y' := by
  have h1 := h.ne
  have h2 := h.nl
  have h3 := h.low
  have h4 := hk.size
  have h5 := h.sz
  have h6 := h.s.lt
  have h7 := h.l.lt
  refine ⟨hd, hl, hs, ⟨h1.1, h1.2.1, by omega⟩, ⟨h2.1, h2.2.1, by omega, h2.2.2.2⟩, by omega, hg, ?_, h.bel.trans (hk.below (by omega) (fun i e => (h.lt5 i e).1)), by omega, fun i hi => ?_⟩
  · refine h.rcs.keep hk (fun i _ e => Or.inl e) (fun i hi e => ?_)
    rcases e with e | e
    · refine Or.inl ?_
      unfold five at e ⊢
      omega
    · exact Or.inr e
  · obtain ⟨p1, p2, p3⟩ := h.ext i hi
    refine ⟨fun e => p1 ?_, by omega, (hk.block i p2 p1).trans p3⟩
    unfold five at e ⊢
    omega
theorem CutU.keep (h : CutU base n E w w0 wr db nb mb cap k lb sb B left down v a RL RV x y) (hb : Below wr.heap.size wr w') : CutU base n E w w0 w' db nb mb cap k lb sb B left down v a RL RV x y := by
  have hK := Keeps.of_below (S := fun _ => False) hb
  exact h.turn (Keeps.of_below hb) (Or.inl rfl) (h.d.keeps hK (fun e => e) (fun e => e) (fun e => e)) (h.l.keeps hK (fun e => e)) (h.s.keeps hK (fun e => e)) h.log
/-- The list is another one from here on. -/
theorem CutU.list (h : CutU base n E w w0 wr db nb mb cap k lb sb B left down v a RL RV x y) {v1 : Value} {RV1 : List (List UInt8)} (hr : ListU base w' (fun i => five db nb mb sb lb i ∨ E i) v1 RV1) (hk : Keeps (fun i => base ≤ i ∧ ¬ (five db nb mb sb lb i ∨ E i)) wr w') : CutU base n E w w0 w' db nb mb cap k lb sb B left down v1 a RL RV1 x y := by
  have h4 := hk.size
  have h5 := h.sz
  have hf : ∀ i, five db nb mb sb lb i → ¬ (base ≤ i ∧ ¬ (five db nb mb sb lb i ∨ E i)) := fun i e q => q.2 (Or.inl e)
  exact { h with
    d := h.d.keeps hk (hf _ (by unfold five; omega)) (hf _ (by unfold five; omega)) (hf _ (by unfold five; omega))
    l := h.l.keeps hk (hf _ (by unfold five; omega))
    s := h.s.keeps hk (hf _ (by unfold five; omega))
    rcs := hr
    bel := h.bel.trans (hk.below h5 (fun i e => e.1))
    sz := by omega
    ext := fun i hi => ⟨(h.ext i hi).1, by have := (h.ext i hi).2.1; omega, (hk.block i (h.ext i hi).2.1 (fun q => q.2 (Or.inr hi))).trans (h.ext i hi).2.2⟩ }
theorem CutU.fuse (h : CutU base n E w w0 wr db nb mb cap k lb sb B 0 false v a RL RV x y) (m : Int) (hm : m ≤ 9223372036854775807) :
    Calls Tryz.prog 20 #[.pointer (some ⟨db, 0, none⟩), .int .i64 m] wr fun e w' => e = .returned (.tuple #[]) ∧ CutU base n E w w0 w' db nb mb cap k lb sb B (max m 0) (decide (m ≤ 0)) v a RL RV x y := by
  have h5 := h.ne
  have h6 := h.nl
  refine (fuse_any h.d m hm).mono ?_
  rintro e w4 ⟨rfl, hd4, hk4⟩
  exact ⟨rfl, h.turn (hk4.mono (fun i e => Or.inl e)) (Or.inl rfl) hd4 (h.l.keeps hk4 (by omega)) (h.s.keeps hk4 (by omega)) h.log⟩
/-- A record of its own, as text tells it. -/
theorem CutU.newRec (h : CutU base n E w w0 wr db nb mb cap k lb sb B left down v a RL RV x y) {g c m : Nat} {s : List UInt8} (hg : wr.heap.size ≤ g) (hB : BlkAt w' g s) (hm : s.length = m) (hmc : m ≤ c) : RecN base w' (fun i => five db nb mb sb lb i ∨ E i) (.slice (some ⟨g, 0, none⟩) m c) s := by
  subst hm
  exact ⟨g, c, rfl, hmc, by have := h.sz; omega, hB.lt, fun e => by have := h.ltP g e; omega, hB⟩
/-- One record is appended, nothing cuts it off. -/
theorem CutU.append (h : CutU base n E w w0 wr db nb mb cap k lb sb B 0 false v a RL RV x y) (hk : k ≤ 1000) {g c m : Nat} {s : List UInt8} (hN : RecN base wr (fun i => five db nb mb sb lb i ∨ E i) (.slice (some ⟨g, 0, none⟩) m c) s) (hm : s.length = m) (hm1 : 1 ≤ m) (hm2 : m ≤ 1000) (hz : (encR RL).length + (m + 2) ≤ ringN n) :
    Calls Tryz.prog 18 #[.pointer (some ⟨lb, 0, none⟩), .slice (some ⟨g, 0, none⟩) m c] wr fun e w' => e = .returned (.int .i64 0) ∧ ∃ mb' k' B', k' ≤ 1 ∧ CutU base n E w w0 w' db nb mb' cap k' lb sb B' 0 false v a (RL ++ [s]) RV x y ∧ RecN base w' (fun i => five db nb mb' sb lb i ∨ E i) (.slice (some ⟨g, 0, none⟩) m c) s := by
  have hrng : wr.rangeAt g 0 (bytesV s) := by
    obtain ⟨g', c', e, _, _, _, _, hB⟩ := hN
    injection e with e1
    injection e1 with e1
    injection e1 with e1
    subst e1
    exact hB.range
  refine (append_calm_at h.l h.d h.s h.ne h.nl hk h.log g 0 c s m hm hm1 hm2 hz hrng).mono ?_
  rintro e w8 ⟨mb8, k8, B8, rfl, hd8, hk8, hm8, hK8, hS8, hL8, hlog8⟩
  refine ⟨rfl, mb8, k8, B8, hk8, h.turn hK8 hm8 hd8 hL8 hS8 hlog8, hN.keep hK8 (fun i _ e => Or.inl e) (fun i hi e => ?_)⟩
  rcases e with e | e
  · refine Or.inl ?_
    unfold five at e ⊢
    omega
  · exact Or.inr e
/-- The one-element row of an append. -/
theorem CutU.boxed (h : CutU base n E w w0 wr db nb mb cap k lb sb B left down v a RL RV x y) {u : Value} {r : List UInt8} (hv : RecN base wr (fun i => five db nb mb sb lb i ∨ E i) u r) : CutU base n E w w0 (wr.alloc (.cells #[u] 34)) db nb mb cap k lb sb B left down v a RL RV x y ∧ RecN base (wr.alloc (.cells #[u] 34)) (fun i => five db nb mb sb lb i ∨ E i) u r ∧ (wr.alloc (.cells #[u] 34)).cell? ⟨wr.heap.size, 0, none⟩ = some u ∧ base ≤ (wr.alloc (.cells #[u] 34)).heap.size := by
  have hbA : Below wr.heap.size wr (wr.alloc (.cells #[u] 34)) := (Below.refl _ _).alloc (Nat.le_refl _) _
  have h1 := h.sz
  have h2 := hbA.size
  exact ⟨h.keep hbA, hv.keep (Keeps.of_below (S := fun _ => False) hbA) (fun _ _ e => e.elim) (fun _ _ e => e), by rw [cell_of_row _ _ 0 _ 34 (0, 0) (heap_alloc_last wr _)]; rfl, by omega⟩
/-- The record is put behind the list. -/
theorem wpList_append_cut {ops : Array Oper} {rest : List Oper} {o : Oper} {ac : Act} {Q : Exit → Act → World → Prop} (hgd : o.guard = none) (s0 x0 : Operand)
    (ho : o.op = .call { callee := .builtin .append, args := #[s0, x0], argTypes := #[30, 30] }) (h : CutU base n E w w0 wr db nb mb cap k lb sb B left down v a RL RV x y) (hs : ac.eval s0 = v) (b : Nat) (u : Value) (r : List UInt8) (hx : ac.eval x0 = .slice (some ⟨b, 0, none⟩) 1 1) (hc : wr.cell? ⟨b, 0, none⟩ = some u) (h2 : RecN base wr (fun i => five db nb mb sb lb i ∨ E i) u r) (hb : RV.length ≤ 100000)
    (hq : ∀ v' w', CutU base n E w w0 w' db nb mb cap k lb sb B left down v' a RL (RV ++ [r]) x y → wpList Tryz.prog ops Q rest (ac.put o.dst v') w') : wpList Tryz.prog ops Q (o :: rest) ac wr := by
  refine wpList_append_recU hgd s0 x0 ho base _ v RV hs h.rcs b u r hx hc h2 h.sz h.ltP hb (fun v1 w1 k1 k2 => hq v1 w1 (h.list k1 k2))
end Go.Proofs.YtlmdeafmlommeaaGreatDoor
