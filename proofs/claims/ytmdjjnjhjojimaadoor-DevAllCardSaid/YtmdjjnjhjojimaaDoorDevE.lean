import Derived.Test.YtmdjjnjhjojimaaDoorDevD
import Derived.Deep.DeepMust
namespace Go.Proofs.YtmdjjnjhjojimaaDoor
open Go.RowKit Go.Maps

/-- A sector loaded, in a still region. -/
theorem wpStill_load_mid {P : Program} {ops : Array Oper} {w : World} {Q : Act → Prop} {a : Act} {op : Oper} {rest : List Oper} (hgd : op.guard = none) (ty : TypeId) (x : Operand) (ho : op.op = .load ty x)
    (b o : Nat) (hx : a.eval x = .pointer (some ⟨b, o, none⟩)) (cs : List Value) (d : TypeDesc) (hc : w.rangeAt b o cs)
    (hu : P.underlying ty = some d) (hd : d.isRow = true) (hi : (P.info? ty).map (·.size) = some cs.length)
    (h : wpStill P ops w Q rest (a.put op.dst (.agg cs.toArray))) : wpStill P ops w Q (op :: rest) a := by
  refine wpStill_step (fun K hK => ?_)
  have hw : Region.wanted op (yielded ops a.tmps) = true := by simp [Region.wanted, hgd]
  rw [if_pos hw]
  unfold Oper.still execOp
  simp only [ho, hx, Instr.loadAt, Instr.sureAddr, Sem.run_bind, Sem.run_pure, Result.andThen_ok, run_loadVar_mid w b o ty cs d hc hu hd hi]
  simp only [Oper.stillUpon]
  exact ⟨trivial, hK _ h⟩

theorem rangeAt_append {w : World} {b o : Nat} {x y : List Value} : w.rangeAt b o (x ++ y) ↔ w.rangeAt b o x ∧ w.rangeAt b (o + x.length) y := by
  constructor
  · intro h
    refine ⟨fun j v hv => h j v ?_, fun j v hv => ?_⟩
    · rw [List.getElem?_append_left (List.getElem?_eq_some_iff.1 hv).1]; exact hv
    · rw [Nat.add_assoc]; exact h (x.length + j) v (by rw [List.getElem?_append_right (by omega)]; simpa using hv)
  · rintro ⟨h1, h2⟩ j v hv
    by_cases hj : j < x.length
    · rw [List.getElem?_append_left hj] at hv; exact h1 j v hv
    · rw [List.getElem?_append_right (by omega)] at hv
      have := h2 (j - x.length) v hv
      rw [show o + x.length + (j - x.length) = o + j from by omega] at this
      exact this
/-- A part of a range. -/
theorem rangeAt_part {w : World} {b : Nat} {x : List Value} (h : w.rangeAt b 0 x) (o m : Nat) : w.rangeAt b o ((x.drop o).take m) := fun j v hv => by
  have := h (o + j) v (by
    rw [List.getElem?_take] at hv
    split at hv
    · rwa [List.getElem?_drop] at hv
    · cases hv)
  simpa using this
theorem rangeAt_sec {w : World} {b : Nat} {B : List UInt8} (h : w.rangeAt b 0 (bytesV B)) (i : Nat) : w.rangeAt b (64 * i) (bytesV (sec B i)) := by
  have := rangeAt_part h (64 * i) 64
  simpa [bytesV, sec, List.map_take, List.map_drop] using this

/-- A sector is written anew. -/
theorem DevAt.stored {w : World} {db nb mb n cap : Nat} {B : List UInt8} {k : Nat} {D : DataW Unit} {left : Int} {down : Bool} (h : DevAt w db nb mb n cap B k D left down) {i : Nat} (hi : i < n) {s : List UInt8} (hs : s.length = 64) :
    DevAt (w.setCells nb (64 * i) (bytesV s)) db nb mb n cap (put B i s) k D left down ∧ Keeps (fun j => j = nb) w (w.setCells nb (64 * i) (bytesV s)) := by
  have hk : Keeps (fun j => j = nb) w (w.setCells nb (64 * i) (bytesV s)) := Keeps.setCells (S := fun j => j = nb) rfl _ _ (Keeps.refl _ w)
  have hlen := h.len
  have hB := h.now
  have e : B = B.take (64 * i) ++ (sec B i ++ B.drop (64 * i + 64)) := by
    unfold sec
    rw [show B.drop (64 * i + 64) = (B.drop (64 * i)).drop 64 from by rw [List.drop_drop], List.take_append_drop, List.take_append_drop]
  have l1 : (bytesV (B.take (64 * i))).length = 64 * i := by simp [bytesV, hlen]; omega
  rw [e, bytesV_append, bytesV_append, rangeAt_append, rangeAt_append] at hB
  obtain ⟨r1, r2, r3⟩ := hB
  rw [l1] at r2 r3
  have l2 : (bytesV (sec B i)).length = 64 := by rw [bytesV_length, sec_length hlen hi]
  rw [l2] at r3
  have l3 : (bytesV s).length = 64 := by rw [bytesV_length, hs]
  have hth : w.there nb (64 * i) (bytesV s).length := fun j hj => by
    have := h.thr (64 * i + j) (by rw [l3] at hj; omega)
    simpa using this
  refine ⟨{ h with
    c0 := (hk.cell (p := ⟨db, 0, none⟩) h.dlt h.ne1).trans h.c0
    c1 := (hk.cell (p := ⟨db, 1, none⟩) h.dlt h.ne1).trans h.c1
    c2 := (hk.cell (p := ⟨db, 2, none⟩) h.dlt h.ne1).trans h.c2
    c3 := (hk.cell (p := ⟨db, 3, none⟩) h.dlt h.ne1).trans h.c3
    f := fun o => (hk.frozen (p := ⟨db, o, none⟩) h.dlt h.ne1).trans (h.f o)
    now := ?_
    thr := World.there_setCells h.thr _ _ _
    len := put_length hlen hi hs
    was := ?_ }, hk⟩
  · unfold put
    rw [bytesV_append, bytesV_append, rangeAt_append, rangeAt_append, l1, l3]
    refine ⟨World.rangeAt_setCells_apart r1 _ _ _ (Or.inr (Or.inl (by rw [l1]; omega))), ?_, World.rangeAt_setCells_apart r3 _ _ _ (Or.inr (Or.inr (by rw [l3]; omega)))⟩
    rw [Nat.zero_add]
    exact World.rangeAt_setCells_same _ _ _ _ hth
  · have hlt := h.was.lt
    obtain ⟨es, clock, hb, F, hs', hD⟩ := h.was
    exact ⟨es, clock, (hk.block mb hlt h.ne3).trans hb, F, hs', hD⟩

theorem wpList_store_now {w : World} {db nb mb n cap : Nat} {B : List UInt8} {k : Nat} {D : DataW Unit} {left : Int} {down : Bool} (h : DevAt w db nb mb n cap B k D left down) {i : Nat} (hi : i < n) {s : List UInt8} (hs : s.length = 64)
    {ops : Array Oper} {rest : List Oper} {op : Oper} {a : Act} {Q : Exit → Act → World → Prop} (hgd : op.guard = none) (x y : Operand) (ho : op.op = .store 80 x y)
    (off : Nat) (hx : a.eval x = .pointer (some ⟨nb, off, none⟩)) (hoff : off = 64 * i) (hy : a.eval y = .agg (bytesV s).toArray)
    (hK : ∀ w', DevAt w' db nb mb n cap (put B i s) k D left down → Keeps (fun j => j = nb) w w' → wpList Tryd.prog ops Q rest (a.put op.dst undef) w') : wpList Tryd.prog ops Q (op :: rest) a w := by
  subst hoff
  obtain ⟨h1, h2⟩ := h.stored hi hs
  have l3 : (bytesV s).toArray.size = 64 := by simp [bytesV_length, hs]
  refine wpList_store_mid hgd 80 x y ho nb (64 * i) (bytesV s).toArray hx hy ?_ (by rw [size80, l3]) (all_oneCell_toArray (bytesV_one _)) (hK _ h1 h2)
  intro j hj
  have := h.thr (64 * i + j) (by rw [l3] at hj; omega)
  simpa using this
theorem DevAt.drew {w : World} {db nb mb n cap : Nat} {B : List UInt8} {k : Nat} {D : DataW Unit} {left : Int} {down : Bool} (h : DevAt w db nb mb n cap B k D left down) : DevAt w.drew db nb mb n cap B k D left down :=
  h.keeps (Keeps.drew (Keeps.refl (fun _ => False) w)) (fun e => e) (fun e => e) (fun e => e)

theorem arr80 (sb so sc : Nat) (w : World) : (Instr.arrayAt 80 (.slice (some ⟨sb, so, none⟩) 64 sc)).run Tryd.prog w = .ok (.pointer (some ⟨sb, so, none⟩)) w := by kernel_rfl

/-- 'v, ok := m[k]' on the map of sectors, the value's shape written out. -/
theorem wpList_lookup_sec {w : World} {ops : Array Oper} {rest : List Oper} {o : Oper} {a : Act} {Q : Exit → Act → World → Prop} (hg : o.guard = none) (m x : Operand) (hop : o.op = Op.lookup 82 m x true)
    (b n : Nat) (D : DataW Unit) (hm : a.eval m = .map (some b)) (hown : w.ownsMap Tryd.prog 3 secR b n D) (key : Value) (kl : Lit) (hx : a.eval x = key) (hkey : keyOf Tryd.prog 3 key = some kl)
    (hK : ∀ s : List UInt8, s.length = 64 → D.atKey kl (.lit (.string zsec)) = .lit (.string s) → wpList Tryd.prog ops Q rest (a.put o.dst (.tuple #[.agg (bytesV s).toArray, .bool (Maps.has D kl)])) w) :
    wpList Tryd.prog ops Q (o :: rest) a w := by
  refine wpList_lookup_own_ok _ hg m x 82 hop 3 80 law3 Tryd.underlying82 secR (zero80 _) _ _ (secR_mk zsec rfl) b n D hm hown key kl hx hkey ?_
  intro v ps hv
  obtain ⟨s, hs, rfl, he⟩ := secR_inv hv
  simp only [Prod.mk.injEq] at he
  exact hK s hs he.1

set_option maxRecDepth 100000 in
set_option maxHeartbeats 400000 in
theorem write_loose {w : World} {db nb mb n cap : Nat} {B : List UInt8} {k : Nat} {D : DataW Unit} {left : Int} (h : DevAt w db nb mb n cap B k D left false) (i : Nat) (hi : i < n) (s : List UInt8) (hs : s.length = 64)
    (sb so sc : Nat) (hsrc : w.rangeAt sb so (bytesV s)) (hh : Maps.has D (.int .i64 i) = true) :
    Calls Tryd.prog 11 #[.pointer (some ⟨db, 0, none⟩), .int .i64 i, .slice (some ⟨sb, so, none⟩) 64 sc] w fun e w' => e = .returned (.int .i64 0) ∧
      DevAt w' db nb mb n cap (put B i s) k D (burnL left) (burnD left false) ∧ Keeps (fun j => j = db ∨ j = nb ∨ j = mb) w w' := by
  have hkey : keyOf Tryd.prog 3 (.int .i64 i) = some (.int .i64 i) := keyOf_int_mk Tryd.underlying3 (WalkArith.wf_i64 (by have := h.n2; omega))
  have c1 := h.c1
  go_enter Tryd.func11, Tryd.ntmps11
  go_wp2_with (first
    | (go_at_call 20; refine (down_any _ _ _ h.c3).mono ?_; rintro e w' ⟨rfl, rfl⟩)
    | (go_at_call 43; refine (has_yes _ _ _ _ _ _ h.c0 (by omega) (by omega)).mono ?_; rintro e w' ⟨rfl, rfl⟩)
    | (at_lookup; refine wpList_lookup_sec rfl _ _ rfl mb k _ rfl h.was _ _ rfl hkey ?_; intro s0 hs0 _)
    | (refine wpList_store_fresh _ _ _ rfl _ _ rfl rfl rfl rfl (by simp [bytesV_length, hs0]) (all_oneCell_toArray (bytesV_one _)) ?_; intro w1 hk1))
  have h1 : DevAt w1 db nb mb n cap B k D left false := h.keeps hk1 (fun e => e) (fun e => e) (fun e => e)
  have hsl : sb < w'.heap.size := by
    have := hsrc 0 (bV (s.getD 0 0)) (by cases s with | nil => simp at hs | cons x r => simp [bytesV])
    exact World.block_lt_of_cell? _ _ this
  have hsrc1 : w1.drew.rangeAt sb so (bytesV s) := fun j v hv => (hk1.cell (p := ⟨sb, so + j, none⟩) hsl (fun e => e)).trans (hsrc j v hv)
  have c0 := h1.c0
  clear c1
  refine wp_region_still_tail 9 follows (by kernel_rfl) ?_
  simp only [List.take_succ_cons, List.take_zero, List.drop_succ_cons, List.drop_zero]
  change wpStill _ _ w1.drew (fun a' => wpList _ _ _ _ a' w1.drew) _ _
  still_step
  still_step
  still_step
  still_step
  still_step
  still_step
  have ha := arr80
  still_step
  clear ha
  refine wpStill_load_mid rfl 80 _ rfl sb so rfl (bytesV s) _ hsrc1 Tryd.underlying80 rfl (by rw [size80, bytesV_length, hs]) ?_
  still_step
  refine wpStill_nil ?_
  refine wpList_store_now h1.drew hi hs rfl _ _ rfl _ rfl (by omega) rfl ?_
  intro w2 h2 hk2
  go_wp2_with (go_at_call 44; refine (burn_dev h2).mono ?_; rintro e w3 ⟨rfl, h3, hk3⟩)
  go_ret
  exact ⟨rfl, h3, ((hk1.mono (fun _ e => e.elim)).drew.trans (hk2.mono (fun _ e => Or.inr (Or.inl e)))).trans (hk3.mono (fun _ e => Or.inl e))⟩
end Go.Proofs.YtmdjjnjhjojimaaDoor
