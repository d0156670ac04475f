import Derived.Test.YtmdjjnjhjojimaaDoorBinE
import Derived.Test.YtmdjjnjhjojimaaDoorDevE
import Derived.StillTailTactics
namespace Go.Proofs.YtmdjjnjhjojimaaDoor
open Go.RowKit Go.Maps

/-- The memory is as it was. -/
structure Same (w w' : World) : Prop where
  heap : w'.heap = w.heap
  os : w'.os = w.os
  tape : w'.tape = w.tape
  output : w'.output = w.output
theorem Same.refl (w : World) : Same w w := ⟨rfl, rfl, rfl, rfl⟩
theorem Same.drew {a w : World} (h : Same a w) : Same a w.drew := ⟨h.heap, h.os, h.tape, h.output⟩
theorem Same.trans {a b c : World} (h : Same a b) (k : Same b c) : Same a c := ⟨k.heap.trans h.heap, k.os.trans h.os, k.tape.trans h.tape, k.output.trans h.output⟩
theorem Same.cell {w w' : World} (h : Same w w') (p : Addr) : w'.cell? p = w.cell? p := World.cell?_of_block (w := w) (by rw [h.heap])
theorem Same.frozen {w w' : World} (h : Same w w') (p : Addr) : w'.frozen? p = w.frozen? p := World.frozen?_of_block (w := w) (by rw [h.heap])
theorem Same.range {w w' : World} (h : Same w w') {b o : Nat} {cs : List Value} (hr : w.rangeAt b o cs) : w'.rangeAt b o cs := fun j v hv => (h.cell _).trans (hr j v hv)
theorem Same.keeps {w w' : World} (h : Same w w') (S : Nat → Prop) : Keeps S w w' := ⟨h.os, h.tape, h.output, by rw [h.heap]; exact Nat.le_refl _, fun i _ _ => by rw [h.heap]⟩

theorem follows' : Tryd.prog.follows .mixedOrders = true := by kernel_rfl
theorem joinB_bound (s : List UInt8) : -9223372036854775808 ≤ joinB s ∧ joinB s ≤ 9223372036854775807 := by
  unfold joinB
  generalize IntKind.u64.wrap ((uB s : Int) * 2 ^ (8 * (8 - s.length))) = x
  have hx : -9223372036854775808 ≤ wrap64 x ∧ wrap64 x ≤ 9223372036854775807 := by unfold wrap64; omega
  generalize wrap64 x = y at hx
  have hp : (0 : Int) < 2 ^ (8 * (8 - s.length)) := Int.pow_pos (by omega)
  generalize (2 : Int) ^ (8 * (8 - s.length)) = p at hp
  constructor
  · refine Int.le_ediv_of_mul_le hp ?_
    have : -9223372036854775808 * p ≤ -9223372036854775808 := by omega
    omega
  · refine Int.le_of_lt_add_one (Int.ediv_lt_of_lt_mul hp ?_)
    have : (9223372036854775807 + 1) * 1 ≤ (9223372036854775807 + 1) * p := Int.mul_le_mul_of_nonneg_left (by omega) (by omega)
    omega

/-- The number that bytes begin with, and what stands behind it. -/
def cutS : List UInt8 → Option (Int × List UInt8)
  | [] => none
  | b :: r => if 8 < b.toNat ∨ r.length < b.toNat then none else if wid (joinB (r.take b.toNat)) = b.toNat then some (joinB (r.take b.toNat), r.drop b.toNat) else none

theorem cut_nil (a : Option Addr) (c : Nat) (w : World) :
    Calls Tryd.prog 53 #[.slice a 0 c] w fun e w' => e = .returned (.tuple #[.int .i64 0, .slice none 0 0, .bool false]) ∧ w' = w := by
  go_enter Tryd.func53, Tryd.ntmps53
  go_wp2
  go_ret3
  exact ⟨rfl, rfl⟩

theorem elem33 : Tryd.prog.elem 33 = 5 := by kernel_rfl
theorem slice_from (g o len c k : Nat) (hk : k ≤ len) (w : World) : ∃ o', (k < c → o' = o + k) ∧ (Instr.sliceAt 33 (.slice (some ⟨g, o, none⟩) len c) (some (.int .i64 (k : Int))) none none).run Tryd.prog w = .ok (.slice (some ⟨g, o', none⟩) (len - k) (c - k)) w := by
  have hu : Tryd.prog.underlying 33 = some (.slice (Tryd.prog.elem 33)) := by rw [elem33]; exact Tryd.underlying33
  have hs := Tryd.sizeOf5 w
  refine ⟨if c = k then o else o + k, fun h => if_neg (by omega), ?_⟩
  rw [run_sliceAt_slice w 33 _ _ _ _ hu, run_slice_l w 33 _ len c hu .i64 k (by omega) (by omega), elem33, hs]
  by_cases hck : c = k <;> simp [Result.andThen, sliced, hck, Addr.add]
theorem slice_to (g o len c k : Nat) (hk : k ≤ c) (w : World) : ∃ o', (0 < c → o' = o) ∧ (Instr.sliceAt 33 (.slice (some ⟨g, o, none⟩) len c) none (some (.int .i64 (k : Int))) none).run Tryd.prog w = .ok (.slice (some ⟨g, o', none⟩) k c) w := by
  have hu : Tryd.prog.underlying 33 = some (.slice (Tryd.prog.elem 33)) := by rw [elem33]; exact Tryd.underlying33
  have hs := Tryd.sizeOf5 w
  refine ⟨o, fun _ => rfl, ?_⟩
  rw [run_sliceAt_slice w 33 _ _ _ _ hu, run_slice_h w 33 _ len c hu .i64 k (by omega) (by omega), elem33, hs]
  by_cases hck : c = 0 <;> simp [Result.andThen, sliced, hck, Addr.add]
theorem wpStill_slice_from {w : World} {ops : Array Oper} {rest : List Oper} {op : Oper} {a : Act} {Q : Act → Prop} (hgd : op.guard = none) (x y : Operand) (ho : op.op = .slice 33 x (some y) none none)
    (g o len c k : Nat) (hx : a.eval x = .slice (some ⟨g, o, none⟩) len c) (hy : a.eval y = .int .i64 (k : Int)) (hk : k ≤ len)
    (h : ∀ o', (k < c → o' = o + k) → wpStill Tryd.prog ops w Q rest (a.put op.dst (.slice (some ⟨g, o', none⟩) (len - k) (c - k)))) : wpStill Tryd.prog ops w Q (op :: rest) a := by
  obtain ⟨o', ho', hrun⟩ := slice_from g o len c k hk w
  refine wpStill_step (fun K hK => ?_)
  have hw : Region.wanted op (yielded ops a.tmps) = true := by simp [Region.wanted, hgd]
  rw [if_pos hw]
  unfold Oper.still execOp
  simp only [ho, hx, hy, Option.map_some, Option.map_none, hrun, Sem.run_bind, Result.andThen_ok, Sem.run_pure, Oper.stillUpon]
  exact ⟨trivial, hK _ (h o' ho')⟩
theorem wpList_slice_from {w : World} {ops : Array Oper} {rest : List Oper} {op : Oper} {a : Act} {Q : Exit → Act → World → Prop} (hgd : op.guard = none) (x y : Operand) (ho : op.op = .slice 33 x (some y) none none)
    (g o len c k : Nat) (hx : a.eval x = .slice (some ⟨g, o, none⟩) len c) (hy : a.eval y = .int .i64 (k : Int)) (hk : k ≤ len)
    (h : ∀ o', (k < c → o' = o + k) → wpList Tryd.prog ops Q rest (a.put op.dst (.slice (some ⟨g, o', none⟩) (len - k) (c - k))) w) : wpList Tryd.prog ops Q (op :: rest) a w := by
  obtain ⟨o', ho', hrun⟩ := slice_from g o len c k hk w
  refine wpList_plain hgd fun K hK => ?_
  unfold Oper.wp execOp
  simp only [ho, hx, hy, Option.map_some, Option.map_none, hrun, Sem.run_bind, Result.andThen_ok, Sem.run_pure]
  exact hK _ _ (h o' ho')
theorem wpList_slice_to {w : World} {ops : Array Oper} {rest : List Oper} {op : Oper} {a : Act} {Q : Exit → Act → World → Prop} (hgd : op.guard = none) (x y : Operand) (ho : op.op = .slice 33 x none (some y) none)
    (g o len c k : Nat) (hx : a.eval x = .slice (some ⟨g, o, none⟩) len c) (hy : a.eval y = .int .i64 (k : Int)) (hk : k ≤ c)
    (h : ∀ o', (0 < c → o' = o) → wpList Tryd.prog ops Q rest (a.put op.dst (.slice (some ⟨g, o', none⟩) k c)) w) : wpList Tryd.prog ops Q (op :: rest) a w := by
  obtain ⟨o', ho', hrun⟩ := slice_to g o len c k hk w
  refine wpList_plain hgd fun K hK => ?_
  unfold Oper.wp execOp
  simp only [ho, hx, hy, Option.map_some, Option.map_none, hrun, Sem.run_bind, Result.andThen_ok, Sem.run_pure]
  exact hK _ _ (h o' ho')

set_option maxRecDepth 100000 in
set_option maxHeartbeats 400000 in
theorem cut_far (g o c : Nat) (b : UInt8) (r : List UInt8) (w : World) (hr : w.rangeAt g o (bytesV (b :: r))) (hlen : r.length ≤ 1000000000000) (hb : 8 < b.toNat ∨ r.length < b.toNat) :
    Calls Tryd.prog 53 #[.slice (some ⟨g, o, none⟩) (r.length + 1) c] w fun e w' => e = .returned (.tuple #[.int .i64 0, .slice none 0 0, .bool false]) ∧ Same w w' := by
  have hcell : w.cell? ⟨g, o, none⟩ = some (.int .u8 b.toNat) := by have := hr 0 _ (by simp [bytesV]; rfl); simpa [bV] using this
  have hb2 := b.toNat_lt
  generalize b.toNat = x at hcell hb2 hb
  generalize r.length = l at *
  clear hr
  have hl0 : ((l : Int) + 1 == 0) = false := by simp; omega
  have hwx : IntKind.i64.wrap (x : Int) = (x : Int) := by rw [IntKind.wrap_i64]; omega
  by_cases hx : 8 < x
  all_goals
    go_enter Tryd.func53, Tryd.ntmps53
    go_wp2
    refine wp_region_still_lit follows' (by kernel_rfl) ?_
    change wpStill _ _ w.drew _ _ _
    iterate 5 still_step
    refine wpStill_slice_from rfl _ _ rfl g o (l + 1) c 1 rfl rfl (by omega) ?_
    intro o' ho'
    clear ho'
    iterate 2 still_step
    refine wpStill_nil ?_
    go_wp2
    go_ret3
    exact ⟨rfl, (Same.refl w).drew⟩
end Go.Proofs.YtmdjjnjhjojimaaDoor
