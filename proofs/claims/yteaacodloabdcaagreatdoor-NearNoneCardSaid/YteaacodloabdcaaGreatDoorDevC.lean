import Derived.Test.YteaacodloabdcaaGreatDoorDevA
import Derived.Deep.DeepMust
namespace Go.Proofs.YteaacodloabdcaaGreatDoor
open Go.RowKit Go.Maps

/-- n sectors of noughts, as cells. -/
def zrow (n : Nat) : Array Value := (bytesV (List.replicate (n * 64) 0)).toArray
theorem info80 : (Tryz.prog.info? 178).map (fun i => (i.zero, i.size, i.bytes)) = some (some (.agg (Array.replicate 64 (.int .u8 0))), 64, 64) := by kernel_rfl
theorem madeCells_rep (m n : Nat) (v : Value) (hm : 0 < m) : madeCells (Array.replicate m v) n = Array.replicate n v := by
  unfold madeCells
  apply Array.ext
  · simp
  · intro i h1 h2
    have : i % m < m := Nat.mod_lt _ hm
    simp [this]
theorem mk77 (n : Nat) (h : n ≤ 4096) (w : World) : (Instr.makeSlice 167 (.int .i64 n) (.int .i64 n)).run Tryz.prog w = .ok (.slice (some ⟨w.heap.size, 0, none⟩) n n) (w.alloc (.cells (zrow n) 178)) := by
  have hx := info80
  cases hq : Tryz.prog.info? 178 with
  | none => rw [hq] at hx; cases hx
  | some i =>
    rw [hq] at hx
    simp only [Option.map_some, Option.some.injEq, Prod.mk.injEq] at hx
    obtain ⟨h1, h2, h3⟩ := hx
    rw [run_make w 167 178 i _ Tryz.underlying167 hq h1 .i64 .i64 n n (by omega) (by omega) (by rw [h3]; omega) (by omega)]
    have e : madeCells (Value.agg (Array.replicate 64 (.int .u8 0))).cells ((n : Int).toNat * i.size) = zrow n := by
      show madeCells (Array.replicate 64 (.int .u8 0)) _ = _
      rw [madeCells_rep _ _ _ (by omega), h2]
      simp [zrow, bytesV, bV]
    rw [e]
    simp

theorem new_yes (n : Nat) (w : World) (h1 : 64 ≤ n) (h2 : n ≤ 4096) :
    Calls Tryz.prog 79 #[.int .i64 n] w fun e w' => e = .returned (.pointer (some ⟨w.heap.size + 1 + 1, 0, none⟩)) ∧
      w' = ((w.alloc (.cells (zrow n) 178)).alloc (.map #[] 0)).alloc (.cells #[.slice (some ⟨w.heap.size, 0, none⟩) n n, .map (some (w.heap.size + 1)), .int .i64 0, .bool false] 181) := by
  have hmk := fun w => mk77 n h2 w
  go_enter Tryz.func79, Tryz.ntmps79
  go_wp2_with (go_at_call 116; refine (holding_any _ _ _ _).mono ?_; rintro e w' ⟨rfl, rfl⟩)
  go_ret
  exact ⟨rfl, rfl⟩
theorem new_no (n : Int) (w : World) (h : n < 64 ∨ 4096 < n) :
    Calls Tryz.prog 79 #[.int .i64 n] w fun e w' => e = .returned (.pointer none) ∧ w' = w := by
  rcases h with h | h
  · go_enter Tryz.func79, Tryz.ntmps79
    go_wp2
    go_ret
    exact ⟨rfl, rfl⟩
  · have h' : ¬ n < 64 := by omega
    go_enter Tryz.func79, Tryz.ntmps79
    go_wp2
    go_ret
    exact ⟨rfl, rfl⟩

/-- What New leaves. -/
theorem new_dev (n : Nat) (w : World) (h1 : 64 ≤ n) (h2 : n ≤ 4096) :
    DevAt (((w.alloc (.cells (zrow n) 178)).alloc (.map #[] 0)).alloc (.cells #[.slice (some ⟨w.heap.size, 0, none⟩) n n, .map (some (w.heap.size + 1)), .int .i64 0, .bool false] 181))
      (w.heap.size + 1 + 1) w.heap.size (w.heap.size + 1) n n (List.replicate (n * 64) 0) 0 (.map []) 0 false := {
  c0 := by rw [World.cell?_alloc_at _ _ _ _ (by simp)]; rfl
  c1 := by rw [World.cell?_alloc_at _ _ _ _ (by simp)]; rfl
  c2 := by rw [World.cell?_alloc_at _ _ _ _ (by simp)]; rfl
  c3 := by rw [World.cell?_alloc_at _ _ _ _ (by simp)]; rfl
  f := fun o => by rw [World.frozen?_alloc_at _ _ _ _ (by simp)]
  now := by
    refine World.rangeAt_alloc (World.rangeAt_alloc ?_ _) _
    intro j v hv
    rw [cell_of_row _ _ (0 + j) (zrow n) 178 (0, 0) (heap_alloc_last w _)]
    simpa [zrow] using hv
  thr := by
    refine World.there_alloc (World.there_alloc ?_ _) _
    intro j hj
    refine ⟨?_, by simp⟩
    rw [cell_of_row _ _ (0 + j) (zrow n) 178 (0, 0) (heap_alloc_last w _)]
    simp [zrow, bytesV, hj]
  len := by simp
  was := by
    have := (World.ownsMap_made (w.alloc (.cells (zrow n) 178)) Tryz.prog 3 (secR (H := Unit))).alloc (.cells #[.slice (some ⟨w.heap.size, 0, none⟩) n n, .map (some (w.heap.size + 1)), .int .i64 0, .bool false] 181)
    simpa using this
  ne1 := by omega
  ne2 := by omega
  ne3 := by omega
  n1 := h1
  n2 := h2
  keys := fun x hx => by simp [intKeys] at hx
  l0 := by omega
  l1 := by omega }
end Go.Proofs.YteaacodloabdcaaGreatDoor

namespace Go.Proofs.YteaacodloabdcaaGreatDoor
open Go.RowKit Go.Maps

theorem law3 : Keyed Tryz.prog 3 := int_keyed Tryz.underlying3
theorem size80 : (Tryz.prog.info? 178).map (·.size) = some 64 := by kernel_rfl
theorem follows : Tryz.prog.follows .mixedOrders = true := by kernel_rfl
def zsec : List UInt8 := List.replicate 64 0
theorem zero80 (w : World) : (zeroValue 178).run Tryz.prog w = .ok (.agg (bytesV zsec).toArray) w := by kernel_rfl

/-- A sector's value into a variable that was made just now. -/
theorem wpList_store_fresh {ops : Array Oper} {rest : List Oper} {op : Oper} {a : Act} {Q : Exit → Act → World → Prop} (w0 : World) (c cells : Array Value) (hgd : op.guard = none) (x y : Operand) (ho : op.op = .store 178 x y)
    (hx : a.eval x = .pointer (some ⟨w0.heap.size, 0, none⟩)) (hy : a.eval y = .agg cells) (hc : c.size = 64) (hcs : cells.size = 64) (h1 : cells.all (·.oneCell') = true)
    (hK : ∀ w', Keeps (fun _ => False) w0 w' → wpList Tryz.prog ops Q rest (a.put op.dst undef) w') : wpList Tryz.prog ops Q (op :: rest) a (w0.alloc (.cells c 178)) := by
  refine wpList_store_mid hgd 178 x y ho w0.heap.size 0 cells hx hy ?_ ?_ h1 (hK _ ?_)
  · intro j hj
    refine ⟨?_, by simp⟩
    rw [cell_of_row _ _ (0 + j) c 178 (0, 0) (heap_alloc_last w0 _)]
    simp; omega
  · rw [size80, hcs]
  · have h := Keeps.setCells (S := fun i => i = w0.heap.size) rfl cells.toList 0 ((Keeps.refl (fun i => i = w0.heap.size) w0).alloc (.cells c 178))
    exact ⟨h.os, h.tape, h.output, h.size, fun i hi _ => h.block i hi (by omega)⟩

/-- burn, of a device. -/
def burnL (l : Int) : Int := if l = 0 then 0 else l - 1
def burnD (l : Int) (d : Bool) : Bool := if l = 0 then d else l - 1 == 0
theorem burn_dev {w : World} {db nb mb n cap : Nat} {B : List UInt8} {k : Nat} {D : DataW Unit} {left : Int} {down : Bool} (h : DevAt w db nb mb n cap B k D left down) :
    Calls Tryz.prog 178 #[.pointer (some ⟨db, 0, none⟩)] w fun e w' => e = .returned (.tuple #[]) ∧ DevAt w' db nb mb n cap B k D (burnL left) (burnD left down) ∧ Keeps (fun i => i = db) w w' := by
  by_cases hl : left = 0
  · subst hl
    refine (burn_zero db w h.c2).mono ?_
    rintro e w' ⟨rfl, rfl⟩
    exact ⟨rfl, by simpa [burnL, burnD] using h, Keeps.refl _ _⟩
  · refine (burn_some db left down w h.c2 h.c3 (h.f 2) (h.f 3) (by simpa using hl) h.l0 h.l1).mono ?_
    rintro e w' ⟨rfl, rfl⟩
    have hkp : Keeps (fun i => i = db) w ((w.setCell ⟨db, 2, none⟩ (.int .i64 (left - 1))).setCell ⟨db, 3, none⟩ (.bool (left - 1 == 0))) :=
      ((Keeps.refl (fun i => i = db) w).setCell (p := ⟨db, 2, none⟩) rfl _).setCell (p := ⟨db, 3, none⟩) rfl _
    refine ⟨rfl, ?_, hkp⟩
    have l0 := h.l0
    have l1 := h.l1
    have c0 : ((w.setCell ⟨db, 2, none⟩ (.int .i64 (left - 1))).setCell ⟨db, 3, none⟩ (.bool (left - 1 == 0))).cell? ⟨db, 0, none⟩ = some (.slice (some ⟨nb, 0, none⟩) n cap) := by
      rw [World.cell?_setCell_other _ _ _ _ (by simp), World.cell?_setCell_other _ _ _ _ (by simp)]; exact h.c0
    have c1 : ((w.setCell ⟨db, 2, none⟩ (.int .i64 (left - 1))).setCell ⟨db, 3, none⟩ (.bool (left - 1 == 0))).cell? ⟨db, 1, none⟩ = some (.map (some mb)) := by
      rw [World.cell?_setCell_other _ _ _ _ (by simp), World.cell?_setCell_other _ _ _ _ (by simp)]; exact h.c1
    have c2 : ((w.setCell ⟨db, 2, none⟩ (.int .i64 (left - 1))).setCell ⟨db, 3, none⟩ (.bool (left - 1 == 0))).cell? ⟨db, 2, none⟩ = some (.int .i64 (left - 1)) := by
      rw [World.cell?_setCell_other _ _ _ _ (by simp), World.cell?_setCell_same _ _ _ h.c2]
    have c3 : ((w.setCell ⟨db, 2, none⟩ (.int .i64 (left - 1))).setCell ⟨db, 3, none⟩ (.bool (left - 1 == 0))).cell? ⟨db, 3, none⟩ = some (.bool (left - 1 == 0)) := by
      rw [World.cell?_setCell_same _ _ _ (by rw [World.cell?_setCell_other _ _ _ _ (by simp)]; exact h.c3)]
    exact { h with
      c0 := c0
      c1 := c1
      c2 := by simp only [burnL, if_neg hl]; exact c2
      c3 := by simp only [burnD, if_neg hl]; exact c3
      f := fun o => by rw [World.frozen?_setCell, World.frozen?_setCell]; exact h.f o
      now := fun j v hv => (hkp.cell (p := ⟨nb, 0 + j, none⟩) h.nlt (fun e => h.ne1 e.symm)).trans (h.now j v hv)
      thr := fun j hj => ⟨by rw [hkp.cell (p := ⟨nb, 0 + j, none⟩) h.nlt (fun e => h.ne1 e.symm)]; exact (h.thr j hj).1, by rw [hkp.frozen (p := ⟨nb, 0 + j, none⟩) h.nlt (fun e => h.ne1 e.symm)]; exact (h.thr j hj).2⟩
      was := (h.was.setCell (a := ⟨db, 2, none⟩) h.ne2 _).setCell (a := ⟨db, 3, none⟩) h.ne2 _
      l0 := by simp only [burnL, if_neg hl]; omega
      l1 := by simp only [burnL, if_neg hl]; omega }
end Go.Proofs.YteaacodloabdcaaGreatDoor

namespace Go.Proofs.YteaacodloabdcaaGreatDoor
open Go.RowKit Go.Maps

/-- A sector loaded, in a still region. -/
theorem wpStill_load_mid {P : Program} {ops : Array Oper} {w : World} {Q : Act → Prop} {a : Act} {op : Oper} {rest : List Oper} (hgd : op.guard = none) (ty : TypeId) (x : Operand) (ho : op.op = .load ty x)
    (b o : Nat) (hx : a.eval x = .pointer (some ⟨b, o, none⟩)) (cs : List Value) (d : TypeDesc) (hc : w.rangeAt b o cs)
    (hu : P.underlying ty = some d) (hd : d.isRow = true) (hi : (P.info? ty).map (·.size) = some cs.length)
    (h : wpStill P ops w Q rest (a.put op.dst (.agg cs.toArray))) : wpStill P ops w Q (op :: rest) a := by
  refine wpStill_step (fun K hK => ?_)
  have hw : Region.wanted op (yielded ops a.tmps) = true := by simp [Region.wanted, hgd]
  rw [if_pos hw]
  unfold Oper.still execOp
  simp only [ho, hx, Instr.loadAt, Instr.sureAddr, Sem.run_bind, Sem.run_pure, Result.andThen_ok, run_loadVar_mid w b o ty cs d hc hu hd hi]
  simp only [Oper.stillUpon]
  exact ⟨trivial, hK _ h⟩

theorem rangeAt_append {w : World} {b o : Nat} {x y : List Value} : w.rangeAt b o (x ++ y) ↔ w.rangeAt b o x ∧ w.rangeAt b (o + x.length) y := by
  constructor
  · intro h
    refine ⟨fun j v hv => h j v ?_, fun j v hv => ?_⟩
    · rw [List.getElem?_append_left (List.getElem?_eq_some_iff.1 hv).1]; exact hv
    · rw [Nat.add_assoc]; exact h (x.length + j) v (by rw [List.getElem?_append_right (by omega)]; simpa using hv)
  · rintro ⟨h1, h2⟩ j v hv
    by_cases hj : j < x.length
    · rw [List.getElem?_append_left hj] at hv; exact h1 j v hv
    · rw [List.getElem?_append_right (by omega)] at hv
      have := h2 (j - x.length) v hv
      rw [show o + x.length + (j - x.length) = o + j from by omega] at this
      exact this
/-- A part of a range. -/
theorem rangeAt_part {w : World} {b : Nat} {x : List Value} (h : w.rangeAt b 0 x) (o m : Nat) : w.rangeAt b o ((x.drop o).take m) := fun j v hv => by
  have := h (o + j) v (by
    rw [List.getElem?_take] at hv
    split at hv
    · rwa [List.getElem?_drop] at hv
    · cases hv)
  simpa using this
theorem rangeAt_sec {w : World} {b : Nat} {B : List UInt8} (h : w.rangeAt b 0 (bytesV B)) (i : Nat) : w.rangeAt b (64 * i) (bytesV (sec B i)) := by
  have := rangeAt_part h (64 * i) 64
  simpa [bytesV, sec, List.map_take, List.map_drop] using this

/-- A sector is written anew. -/
theorem DevAt.stored {w : World} {db nb mb n cap : Nat} {B : List UInt8} {k : Nat} {D : DataW Unit} {left : Int} {down : Bool} (h : DevAt w db nb mb n cap B k D left down) {i : Nat} (hi : i < n) {s : List UInt8} (hs : s.length = 64) :
    DevAt (w.setCells nb (64 * i) (bytesV s)) db nb mb n cap (put B i s) k D left down ∧ Keeps (fun j => j = nb) w (w.setCells nb (64 * i) (bytesV s)) := by
  have hk : Keeps (fun j => j = nb) w (w.setCells nb (64 * i) (bytesV s)) := Keeps.setCells (S := fun j => j = nb) rfl _ _ (Keeps.refl _ w)
  have hlen := h.len
  have hB := h.now
  have e : B = B.take (64 * i) ++ (sec B i ++ B.drop (64 * i + 64)) := by
    unfold sec
    rw [show B.drop (64 * i + 64) = (B.drop (64 * i)).drop 64 from by rw [List.drop_drop], List.take_append_drop, List.take_append_drop]
  have l1 : (bytesV (B.take (64 * i))).length = 64 * i := by simp [bytesV, hlen]; omega
  rw [e, bytesV_append, bytesV_append, rangeAt_append, rangeAt_append] at hB
  obtain ⟨r1, r2, r3⟩ := hB
  rw [l1] at r2 r3
  have l2 : (bytesV (sec B i)).length = 64 := by rw [bytesV_length, sec_length hlen hi]
  rw [l2] at r3
  have l3 : (bytesV s).length = 64 := by rw [bytesV_length, hs]
  have hth : w.there nb (64 * i) (bytesV s).length := fun j hj => by
    have := h.thr (64 * i + j) (by rw [l3] at hj; omega)
    simpa using this
  refine ⟨{ h with
    c0 := (hk.cell (p := ⟨db, 0, none⟩) h.dlt h.ne1).trans h.c0
    c1 := (hk.cell (p := ⟨db, 1, none⟩) h.dlt h.ne1).trans h.c1
    c2 := (hk.cell (p := ⟨db, 2, none⟩) h.dlt h.ne1).trans h.c2
    c3 := (hk.cell (p := ⟨db, 3, none⟩) h.dlt h.ne1).trans h.c3
    f := fun o => (hk.frozen (p := ⟨db, o, none⟩) h.dlt h.ne1).trans (h.f o)
    now := ?_
    thr := World.there_setCells h.thr _ _ _
    len := put_length hlen hi hs
    was := ?_ }, hk⟩
  · unfold put
    rw [bytesV_append, bytesV_append, rangeAt_append, rangeAt_append, l1, l3]
    refine ⟨World.rangeAt_setCells_apart r1 _ _ _ (Or.inr (Or.inl (by rw [l1]; omega))), ?_, World.rangeAt_setCells_apart r3 _ _ _ (Or.inr (Or.inr (by rw [l3]; omega)))⟩
    rw [Nat.zero_add]
    exact World.rangeAt_setCells_same _ _ _ _ hth
  · have hlt := h.was.lt
    obtain ⟨es, clock, hb, F, hs', hD⟩ := h.was
    exact ⟨es, clock, (hk.block mb hlt h.ne3).trans hb, F, hs', hD⟩

theorem wpList_store_now {w : World} {db nb mb n cap : Nat} {B : List UInt8} {k : Nat} {D : DataW Unit} {left : Int} {down : Bool} (h : DevAt w db nb mb n cap B k D left down) {i : Nat} (hi : i < n) {s : List UInt8} (hs : s.length = 64)
    {ops : Array Oper} {rest : List Oper} {op : Oper} {a : Act} {Q : Exit → Act → World → Prop} (hgd : op.guard = none) (x y : Operand) (ho : op.op = .store 178 x y)
    (off : Nat) (hx : a.eval x = .pointer (some ⟨nb, off, none⟩)) (hoff : off = 64 * i) (hy : a.eval y = .agg (bytesV s).toArray)
    (hK : ∀ w', DevAt w' db nb mb n cap (put B i s) k D left down → Keeps (fun j => j = nb) w w' → wpList Tryz.prog ops Q rest (a.put op.dst undef) w') : wpList Tryz.prog ops Q (op :: rest) a w := by
  subst hoff
  obtain ⟨h1, h2⟩ := h.stored hi hs
  have l3 : (bytesV s).toArray.size = 64 := by simp [bytesV_length, hs]
  refine wpList_store_mid hgd 178 x y ho nb (64 * i) (bytesV s).toArray hx hy ?_ (by rw [size80, l3]) (all_oneCell_toArray (bytesV_one _)) (hK _ h1 h2)
  intro j hj
  have := h.thr (64 * i + j) (by rw [l3] at hj; omega)
  simpa using this
theorem DevAt.drew {w : World} {db nb mb n cap : Nat} {B : List UInt8} {k : Nat} {D : DataW Unit} {left : Int} {down : Bool} (h : DevAt w db nb mb n cap B k D left down) : DevAt w.drew db nb mb n cap B k D left down :=
  h.keeps (Keeps.drew (Keeps.refl (fun _ => False) w)) (fun e => e) (fun e => e) (fun e => e)

theorem arr80 (sb so sc : Nat) (w : World) : (Instr.arrayAt 178 (.slice (some ⟨sb, so, none⟩) 64 sc)).run Tryz.prog w = .ok (.pointer (some ⟨sb, so, none⟩)) w := by kernel_rfl

/-- 'v, ok := m[k]' on the map of sectors, the value's shape written out. -/
theorem wpList_lookup_sec {w : World} {ops : Array Oper} {rest : List Oper} {o : Oper} {a : Act} {Q : Exit → Act → World → Prop} (hg : o.guard = none) (m x : Operand) (hop : o.op = Op.lookup 179 m x true)
    (b n : Nat) (D : DataW Unit) (hm : a.eval m = .map (some b)) (hown : w.ownsMap Tryz.prog 3 secR b n D) (key : Value) (kl : Lit) (hx : a.eval x = key) (hkey : keyOf Tryz.prog 3 key = some kl)
    (hK : ∀ s : List UInt8, s.length = 64 → D.atKey kl (.lit (.string zsec)) = .lit (.string s) → wpList Tryz.prog ops Q rest (a.put o.dst (.tuple #[.agg (bytesV s).toArray, .bool (Maps.has D kl)])) w) :
    wpList Tryz.prog ops Q (o :: rest) a w := by
  refine wpList_lookup_own_ok _ hg m x 179 hop 3 178 law3 Tryz.underlying179 secR (zero80 _) _ _ (secR_mk zsec rfl) b n D hm hown key kl hx hkey ?_
  intro v ps hv
  obtain ⟨s, hs, rfl, he⟩ := secR_inv hv
  simp only [Prod.mk.injEq] at he
  exact hK s hs he.1

set_option maxRecDepth 100000 in
set_option maxHeartbeats 400000 in
theorem write_loose {w : World} {db nb mb n cap : Nat} {B : List UInt8} {k : Nat} {D : DataW Unit} {left : Int} (h : DevAt w db nb mb n cap B k D left false) (i : Nat) (hi : i < n) (s : List UInt8) (hs : s.length = 64)
    (sb so sc : Nat) (hsrc : w.rangeAt sb so (bytesV s)) (hh : Maps.has D (.int .i64 i) = true) :
    Calls Tryz.prog 154 #[.pointer (some ⟨db, 0, none⟩), .int .i64 i, .slice (some ⟨sb, so, none⟩) 64 sc] w fun e w' => e = .returned (.int .i64 0) ∧
      DevAt w' db nb mb n cap (put B i s) k D (burnL left) (burnD left false) ∧ Keeps (fun j => j = db ∨ j = nb ∨ j = mb) w w' := by
  have hkey : keyOf Tryz.prog 3 (.int .i64 i) = some (.int .i64 i) := keyOf_int_mk Tryz.underlying3 (WalkArith.wf_i64 (by have := h.n2; omega))
  have c1 := h.c1
  go_enter Tryz.func154, Tryz.ntmps154
  go_wp2_with (first
    | (go_at_call 176; refine (down_any _ _ _ h.c3).mono ?_; rintro e w' ⟨rfl, rfl⟩)
    | (go_at_call 177; refine (has_yes _ _ _ _ _ _ h.c0 (by omega) (by omega)).mono ?_; rintro e w' ⟨rfl, rfl⟩)
    | (at_lookup; refine wpList_lookup_sec rfl _ _ rfl mb k _ rfl h.was _ _ rfl hkey ?_; intro s0 hs0 _)
    | (refine wpList_store_fresh _ _ _ rfl _ _ rfl rfl rfl rfl (by simp [bytesV_length, hs0]) (all_oneCell_toArray (bytesV_one _)) ?_; intro w1 hk1))
  have h1 : DevAt w1 db nb mb n cap B k D left false := h.keeps hk1 (fun e => e) (fun e => e) (fun e => e)
  have hsl : sb < w'.heap.size := by
    have := hsrc 0 (bV (s.getD 0 0)) (by cases s with | nil => simp at hs | cons x r => simp [bytesV])
    exact World.block_lt_of_cell? _ _ this
  have hsrc1 : w1.drew.rangeAt sb so (bytesV s) := fun j v hv => (hk1.cell (p := ⟨sb, so + j, none⟩) hsl (fun e => e)).trans (hsrc j v hv)
  have c0 := h1.c0
  clear c1
  refine wp_region_still_tail 9 follows (by kernel_rfl) ?_
  simp only [List.take_succ_cons, List.take_zero, List.drop_succ_cons, List.drop_zero]
  change wpStill _ _ w1.drew (fun a' => wpList _ _ _ _ a' w1.drew) _ _
  still_step
  still_step
  still_step
  still_step
  still_step
  still_step
  have ha := arr80
  still_step
  clear ha
  refine wpStill_load_mid rfl 178 _ rfl sb so rfl (bytesV s) _ hsrc1 Tryz.underlying178 rfl (by rw [size80, bytesV_length, hs]) ?_
  still_step
  refine wpStill_nil ?_
  refine wpList_store_now h1.drew hi hs rfl _ _ rfl _ rfl (by omega) rfl ?_
  intro w2 h2 hk2
  go_wp2_with (go_at_call 178; refine (burn_dev h2).mono ?_; rintro e w3 ⟨rfl, h3, hk3⟩)
  go_ret
  exact ⟨rfl, h3, ((hk1.mono (fun _ e => e.elim)).drew.trans (hk2.mono (fun _ e => Or.inr (Or.inl e)))).trans (hk3.mono (fun _ e => Or.inl e))⟩
end Go.Proofs.YteaacodloabdcaaGreatDoor

namespace Go.Proofs.YteaacodloabdcaaGreatDoor
open Go.RowKit Go.Maps

theorem mem_insertD {H : Type} (x p : Lit × DataW H) : ∀ l : List (Lit × DataW H), p ∈ DataW.insert x l → p = x ∨ p ∈ l
  | [], h => by simp [DataW.insert] at h; exact Or.inl h
  | y :: r, h => by
    unfold DataW.insert at h
    split at h
    · simpa using h
    · rcases List.mem_cons.1 h with h | h
      · exact Or.inr (by simp [h])
      · rcases mem_insertD x p r h with h | h
        · exact Or.inl h
        · exact Or.inr (by simp [h])
theorem intKeys_put {H : Type} (D d : DataW H) (i x : Int) (h : x ∈ intKeys (D.put (.int .i64 i) d)) : x = i ∨ x ∈ intKeys D := by
  unfold DataW.put at h
  split at h
  · simp only [intKeys, List.mem_map] at h ⊢
    obtain ⟨p, hp, rfl⟩ := h
    rcases mem_insertD _ _ _ hp with h | h
    · subst h; exact Or.inl rfl
    · exact Or.inr ⟨p, (List.mem_filter.1 h).1, rfl⟩
  · exact Or.inr h

/-- A sector of the device loaded, in a still region. -/
theorem wpStill_load_sec {ops : Array Oper} {w : World} {Q : Act → Prop} {a : Act} {op : Oper} {rest : List Oper} {nb n i : Nat} {B : List UInt8} (hB : w.rangeAt nb 0 (bytesV B)) (hl : B.length = n * 64) (hi : i < n)
    (hgd : op.guard = none) (x : Operand) (ho : op.op = .load 178 x) (o : Nat) (hx : a.eval x = .pointer (some ⟨nb, o, none⟩)) (hoff : o = 64 * i)
    (h : wpStill Tryz.prog ops w Q rest (a.put op.dst (.agg (bytesV (sec B i)).toArray))) : wpStill Tryz.prog ops w Q (op :: rest) a := by
  subst hoff
  exact wpStill_load_mid hgd 178 x ho nb (64 * i) hx (bytesV (sec B i)) _ (rangeAt_sec hB i) Tryz.underlying178 rfl (by rw [size80, bytesV_length, sec_length hl hi]) h

set_option maxRecDepth 100000 in
set_option maxHeartbeats 400000 in
theorem write_new {w : World} {db nb mb n cap : Nat} {B : List UInt8} {k : Nat} {D : DataW Unit} {left : Int} (h : DevAt w db nb mb n cap B k D left false) (i : Nat) (hi : i < n) (s : List UInt8) (hs : s.length = 64)
    (sb so sc : Nat) (hsrc : w.rangeAt sb so (bytesV s)) (hsm : sb ≠ mb) (hkm : k < maxLen) (hh : Maps.has D (.int .i64 i) = false) :
    Calls Tryz.prog 154 #[.pointer (some ⟨db, 0, none⟩), .int .i64 i, .slice (some ⟨sb, so, none⟩) 64 sc] w fun e w' => e = .returned (.int .i64 0) ∧
      DevAt w' db nb mb n cap (put B i s) (k + 1) (D.put (.int .i64 i) (.lit (.string (sec B i)))) (burnL left) (burnD left false) ∧ Keeps (fun j => j = db ∨ j = nb ∨ j = mb) w w' := by
  have hkey : keyOf Tryz.prog 3 (.int .i64 i) = some (.int .i64 i) := keyOf_int_mk Tryz.underlying3 (WalkArith.wf_i64 (by have := h.n2; omega))
  have c1 := h.c1
  go_enter Tryz.func154, Tryz.ntmps154
  go_wp2_with (first
    | (go_at_call 176; refine (down_any _ _ _ h.c3).mono ?_; rintro e w' ⟨rfl, rfl⟩)
    | (go_at_call 177; refine (has_yes _ _ _ _ _ _ h.c0 (by omega) (by omega)).mono ?_; rintro e w' ⟨rfl, rfl⟩)
    | (at_lookup; refine wpList_lookup_sec rfl _ _ rfl mb k _ rfl h.was _ _ rfl hkey ?_; intro s0 hs0 _)
    | (refine wpList_store_fresh _ _ _ rfl _ _ rfl rfl rfl rfl (by simp [bytesV_length, hs0]) (all_oneCell_toArray (bytesV_one _)) ?_; intro w1 hk1))
  have h1 : DevAt w1 db nb mb n cap B k D left false := h.keeps hk1 (fun e => e) (fun e => e) (fun e => e)
  have hsl : sb < w'.heap.size := by
    have := hsrc 0 (bV (s.getD 0 0)) (by cases s with | nil => simp at hs | cons x r => simp [bytesV])
    exact World.block_lt_of_cell? _ _ this
  have hsrc1 : w1.rangeAt sb so (bytesV s) := fun j v hv => (hk1.cell (p := ⟨sb, so + j, none⟩) hsl (fun e => e)).trans (hsrc j v hv)
  have hsl1 : sb < w1.heap.size := Nat.lt_of_lt_of_le hsl hk1.size
  have c0 := h1.c0
  clear c1
  have c1 := h1.c1
  have hsec := sec_length h.len hi
  refine wp_region_still_tail 12 follows (by kernel_rfl) ?_
  simp only [List.take_succ_cons, List.take_zero, List.drop_succ_cons, List.drop_zero]
  change wpStill _ _ w1.drew (fun a' => wpList _ _ _ _ a' w1.drew) _ _
  iterate 11 still_step
  refine wpStill_load_sec h1.drew.now h1.len hi rfl _ rfl _ rfl (by omega) ?_
  refine wpStill_nil ?_
  refine wpList_mapUpdate_own _ rfl _ _ _ 179 rfl 3 178 law3 Tryz.underlying179 secR mb k D rfl h1.drew.was hkm _ _ _ rfl rfl hkey (.lit (.string (sec B i))) [] (secR_mk _ hsec) ?_
  intro w2 hown2 hg2
  have hk2 : Keeps (fun j => j = mb) w1 w2 := ((Keeps.refl (fun j => j = mb) w1).drew).grown hg2 (fun j e => by cases e; rfl)
  have h2 : DevAt w2 db nb mb n cap B (k + 1) (D.put (.int .i64 i) (.lit (.string (sec B i)))) left false :=
    { h1 with
      c0 := (hk2.cell (p := ⟨db, 0, none⟩) h1.dlt (fun e => h.ne2 e.symm)).trans h1.c0
      c1 := (hk2.cell (p := ⟨db, 1, none⟩) h1.dlt (fun e => h.ne2 e.symm)).trans h1.c1
      c2 := (hk2.cell (p := ⟨db, 2, none⟩) h1.dlt (fun e => h.ne2 e.symm)).trans h1.c2
      c3 := (hk2.cell (p := ⟨db, 3, none⟩) h1.dlt (fun e => h.ne2 e.symm)).trans h1.c3
      f := fun o => (hk2.frozen (p := ⟨db, o, none⟩) h1.dlt (fun e => h.ne2 e.symm)).trans (h1.f o)
      now := fun j v hv => (hk2.cell (p := ⟨nb, 0 + j, none⟩) h1.nlt (fun e => h.ne3 e.symm)).trans (h1.now j v hv)
      thr := fun j hj => ⟨by rw [hk2.cell (p := ⟨nb, 0 + j, none⟩) h1.nlt (fun e => h.ne3 e.symm)]; exact (h1.thr j hj).1, by rw [hk2.frozen (p := ⟨nb, 0 + j, none⟩) h1.nlt (fun e => h.ne3 e.symm)]; exact (h1.thr j hj).2⟩
      was := hown2
      keys := fun x hx => by
        rcases intKeys_put _ _ _ _ hx with rfl | hx
        · omega
        · exact h.keys x hx }
  have hsrc2 : w2.drew.rangeAt sb so (bytesV s) := fun j v hv => (hk2.cell (p := ⟨sb, so + j, none⟩) hsl1 hsm).trans (hsrc1 j v hv)
  clear c0 c1
  have c0 := h2.c0
  go_wp2_with fail
  refine wp_region_still_tail 9 follows (by kernel_rfl) ?_
  simp only [List.take_succ_cons, List.take_zero, List.drop_succ_cons, List.drop_zero]
  change wpStill _ _ w2.drew (fun a' => wpList _ _ _ _ a' w2.drew) _ _
  iterate 6 still_step
  have ha := arr80
  still_step
  clear ha
  refine wpStill_load_mid rfl 178 _ rfl sb so rfl (bytesV s) _ hsrc2 Tryz.underlying178 rfl (by rw [size80, bytesV_length, hs]) ?_
  still_step
  refine wpStill_nil ?_
  refine wpList_store_now h2.drew hi hs rfl _ _ rfl _ rfl (by omega) rfl ?_
  intro w3 h3 hk3
  go_wp2_with (go_at_call 178; refine (burn_dev h3).mono ?_; rintro e w4 ⟨rfl, h4, hk4⟩)
  go_ret
  exact ⟨rfl, h4, (((hk1.mono (fun _ e => e.elim)).trans (hk2.mono (fun _ e => Or.inr (Or.inr e)))).drew.trans (hk3.mono (fun _ e => Or.inr (Or.inl e)))).trans (hk4.mono (fun _ e => Or.inl e))⟩
end Go.Proofs.YteaacodloabdcaaGreatDoor
