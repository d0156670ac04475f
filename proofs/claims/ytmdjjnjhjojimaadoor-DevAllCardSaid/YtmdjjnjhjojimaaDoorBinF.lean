import Derived.Test.YtmdjjnjhjojimaaDoorBinA
import Derived.Test.YtmdjjnjhjojimaaDoorDevE
import Derived.StillTailTactics
namespace Go.Proofs.YtmdjjnjhjojimaaDoor
open Go.RowKit Go.Maps

/-- The memory is as it was. -/
structure Same (w w' : World) : Prop where
  heap : w'.heap = w.heap
  os : w'.os = w.os
  tape : w'.tape = w.tape
  output : w'.output = w.output
theorem Same.refl (w : World) : Same w w := ⟨rfl, rfl, rfl, rfl⟩
theorem Same.drew {a w : World} (h : Same a w) : Same a w.drew := ⟨h.heap, h.os, h.tape, h.output⟩
theorem Same.trans {a b c : World} (h : Same a b) (k : Same b c) : Same a c := ⟨k.heap.trans h.heap, k.os.trans h.os, k.tape.trans h.tape, k.output.trans h.output⟩
theorem Same.cell {w w' : World} (h : Same w w') (p : Addr) : w'.cell? p = w.cell? p := World.cell?_of_block (w := w) (by rw [h.heap])
theorem Same.frozen {w w' : World} (h : Same w w') (p : Addr) : w'.frozen? p = w.frozen? p := World.frozen?_of_block (w := w) (by rw [h.heap])
theorem Same.range {w w' : World} (h : Same w w') {b o : Nat} {cs : List Value} (hr : w.rangeAt b o cs) : w'.rangeAt b o cs := fun j v hv => (h.cell _).trans (hr j v hv)
theorem Same.keeps {w w' : World} (h : Same w w') (S : Nat → Prop) : Keeps S w w' := ⟨h.os, h.tape, h.output, by rw [h.heap]; exact Nat.le_refl _, fun i _ _ => by rw [h.heap]⟩

theorem follows' : Tryd.prog.follows .mixedOrders = true := by kernel_rfl
theorem joinB_bound (s : List UInt8) : -9223372036854775808 ≤ joinB s ∧ joinB s ≤ 9223372036854775807 := by
  unfold joinB
  generalize IntKind.u64.wrap ((uB s : Int) * 2 ^ (8 * (8 - s.length))) = x
  have hx : -9223372036854775808 ≤ wrap64 x ∧ wrap64 x ≤ 9223372036854775807 := by unfold wrap64; omega
  generalize wrap64 x = y at hx
  have hp : (0 : Int) < 2 ^ (8 * (8 - s.length)) := Int.pow_pos (by omega)
  generalize (2 : Int) ^ (8 * (8 - s.length)) = p at hp
  constructor
  · refine Int.le_ediv_of_mul_le hp ?_
    have : -9223372036854775808 * p ≤ -9223372036854775808 := by omega
    omega
  · refine Int.le_of_lt_add_one (Int.ediv_lt_of_lt_mul hp ?_)
    have : (9223372036854775807 + 1) * 1 ≤ (9223372036854775807 + 1) * p := Int.mul_le_mul_of_nonneg_left (by omega) (by omega)
    omega

/-- The number that bytes begin with, and what stands behind it. -/
def cutS : List UInt8 → Option (Int × List UInt8)
  | [] => none
  | b :: r => if 8 < b.toNat ∨ r.length < b.toNat then none else if wid (joinB (r.take b.toNat)) = b.toNat then some (joinB (r.take b.toNat), r.drop b.toNat) else none

theorem cut_nil (a : Option Addr) (c : Nat) (w : World) :
    Calls Tryd.prog 53 #[.slice a 0 c] w fun e w' => e = .returned (.tuple #[.int .i64 0, .slice none 0 0, .bool false]) ∧ w' = w := by
  go_enter Tryd.func53, Tryd.ntmps53
  go_wp2
  go_ret3
  exact ⟨rfl, rfl⟩

theorem elem33 : Tryd.prog.elem 33 = 5 := by kernel_rfl
theorem slice_from (g o len c k : Nat) (hk : k ≤ len) (w : World) : ∃ o', (k < c → o' = o + k) ∧ (Instr.sliceAt 33 (.slice (some ⟨g, o, none⟩) len c) (some (.int .i64 (k : Int))) none none).run Tryd.prog w = .ok (.slice (some ⟨g, o', none⟩) (len - k) (c - k)) w := by
  have hu : Tryd.prog.underlying 33 = some (.slice (Tryd.prog.elem 33)) := by rw [elem33]; exact Tryd.underlying33
  have hs := Tryd.sizeOf5 w
  refine ⟨if c = k then o else o + k, fun h => if_neg (by omega), ?_⟩
  rw [run_sliceAt_slice w 33 _ _ _ _ hu, run_slice_l w 33 _ len c hu .i64 k (by omega) (by omega), elem33, hs]
  by_cases hck : c = k <;> simp [Result.andThen, sliced, hck, Addr.add]
theorem slice_to (g o len c k : Nat) (hk : k ≤ c) (w : World) : ∃ o', (0 < c → o' = o) ∧ (Instr.sliceAt 33 (.slice (some ⟨g, o, none⟩) len c) none (some (.int .i64 (k : Int))) none).run Tryd.prog w = .ok (.slice (some ⟨g, o', none⟩) k c) w := by
  have hu : Tryd.prog.underlying 33 = some (.slice (Tryd.prog.elem 33)) := by rw [elem33]; exact Tryd.underlying33
  have hs := Tryd.sizeOf5 w
  refine ⟨o, fun _ => rfl, ?_⟩
  rw [run_sliceAt_slice w 33 _ _ _ _ hu, run_slice_h w 33 _ len c hu .i64 k (by omega) (by omega), elem33, hs]
  by_cases hck : c = 0 <;> simp [Result.andThen, sliced, hck, Addr.add]
theorem wpStill_slice_from {w : World} {ops : Array Oper} {rest : List Oper} {op : Oper} {a : Act} {Q : Act → Prop} (hgd : op.guard = none) (x y : Operand) (ho : op.op = .slice 33 x (some y) none none)
    (g o len c k : Nat) (hx : a.eval x = .slice (some ⟨g, o, none⟩) len c) (hy : a.eval y = .int .i64 (k : Int)) (hk : k ≤ len)
    (h : ∀ o', (k < c → o' = o + k) → wpStill Tryd.prog ops w Q rest (a.put op.dst (.slice (some ⟨g, o', none⟩) (len - k) (c - k)))) : wpStill Tryd.prog ops w Q (op :: rest) a := by
  obtain ⟨o', ho', hrun⟩ := slice_from g o len c k hk w
  refine wpStill_step (fun K hK => ?_)
  have hw : Region.wanted op (yielded ops a.tmps) = true := by simp [Region.wanted, hgd]
  rw [if_pos hw]
  unfold Oper.still execOp
  simp only [ho, hx, hy, Option.map_some, Option.map_none, hrun, Sem.run_bind, Result.andThen_ok, Sem.run_pure, Oper.stillUpon]
  exact ⟨trivial, hK _ (h o' ho')⟩
theorem wpList_slice_from {w : World} {ops : Array Oper} {rest : List Oper} {op : Oper} {a : Act} {Q : Exit → Act → World → Prop} (hgd : op.guard = none) (x y : Operand) (ho : op.op = .slice 33 x (some y) none none)
    (g o len c k : Nat) (hx : a.eval x = .slice (some ⟨g, o, none⟩) len c) (hy : a.eval y = .int .i64 (k : Int)) (hk : k ≤ len)
    (h : ∀ o', (k < c → o' = o + k) → wpList Tryd.prog ops Q rest (a.put op.dst (.slice (some ⟨g, o', none⟩) (len - k) (c - k))) w) : wpList Tryd.prog ops Q (op :: rest) a w := by
  obtain ⟨o', ho', hrun⟩ := slice_from g o len c k hk w
  refine wpList_plain hgd fun K hK => ?_
  unfold Oper.wp execOp
  simp only [ho, hx, hy, Option.map_some, Option.map_none, hrun, Sem.run_bind, Result.andThen_ok, Sem.run_pure]
  exact hK _ _ (h o' ho')
theorem wpList_slice_to {w : World} {ops : Array Oper} {rest : List Oper} {op : Oper} {a : Act} {Q : Exit → Act → World → Prop} (hgd : op.guard = none) (x y : Operand) (ho : op.op = .slice 33 x none (some y) none)
    (g o len c k : Nat) (hx : a.eval x = .slice (some ⟨g, o, none⟩) len c) (hy : a.eval y = .int .i64 (k : Int)) (hk : k ≤ c)
    (h : ∀ o', (0 < c → o' = o) → wpList Tryd.prog ops Q rest (a.put op.dst (.slice (some ⟨g, o', none⟩) k c)) w) : wpList Tryd.prog ops Q (op :: rest) a w := by
  obtain ⟨o', ho', hrun⟩ := slice_to g o len c k hk w
  refine wpList_plain hgd fun K hK => ?_
  unfold Oper.wp execOp
  simp only [ho, hx, hy, Option.map_some, Option.map_none, hrun, Sem.run_bind, Result.andThen_ok, Sem.run_pure]
  exact hK _ _ (h o' ho')

set_option maxRecDepth 100000 in
set_option maxHeartbeats 400000 in
theorem cut_far (g o c : Nat) (b : UInt8) (r : List UInt8) (w : World) (hr : w.rangeAt g o (bytesV (b :: r))) (hlen : r.length ≤ 1000000000000) (hb : 8 < b.toNat ∨ r.length < b.toNat) :
    Calls Tryd.prog 53 #[.slice (some ⟨g, o, none⟩) (r.length + 1) c] w fun e w' => e = .returned (.tuple #[.int .i64 0, .slice none 0 0, .bool false]) ∧ Same w w' := by
  have hcell : w.cell? ⟨g, o, none⟩ = some (.int .u8 b.toNat) := by have := hr 0 _ (by simp [bytesV]; rfl); simpa [bV] using this
  have hb2 := b.toNat_lt
  generalize b.toNat = x at hcell hb2 hb
  generalize r.length = l at *
  clear hr
  have hl0 : ((l : Int) + 1 == 0) = false := by simp; omega
  have hwx : IntKind.i64.wrap (x : Int) = (x : Int) := by rw [IntKind.wrap_i64]; omega
  by_cases hx : 8 < x
  all_goals
    go_enter Tryd.func53, Tryd.ntmps53
    go_wp2
    refine wp_region_still_lit follows' (by kernel_rfl) ?_
    change wpStill _ _ w.drew _ _ _
    iterate 5 still_step
    refine wpStill_slice_from rfl _ _ rfl g o (l + 1) c 1 rfl rfl (by omega) ?_
    intro o' ho'
    clear ho'
    iterate 2 still_step
    refine wpStill_nil ?_
    go_wp2
    go_ret3
    exact ⟨rfl, (Same.refl w).drew⟩
end Go.Proofs.YtmdjjnjhjojimaaDoor

namespace Go.Proofs.YtmdjjnjhjojimaaDoor
open Go.RowKit Go.Maps

theorem join_len (g o c k : Nat) (s : List UInt8) (w : World) (hk : s.length = k) (hs : k ≤ 8) (hr : w.rangeAt g o (bytesV s)) :
    Calls Tryd.prog 63 #[.slice (some ⟨g, o, none⟩) k c] w fun e w' => e = .returned (.int .i64 (joinB s)) ∧ w' = w := by
  subst hk; exact join_any g o c s w hs hr

theorem rangeAt_nil (w : World) (b o : Nat) : w.rangeAt b o [] := fun j v hv => by simp at hv

set_option maxRecDepth 100000 in
set_option maxHeartbeats 1000000 in
theorem cut_bad (g o c : Nat) (b : UInt8) (r : List UInt8) (w : World) (hr : w.rangeAt g o (bytesV (b :: r))) (hc : r.length + 1 ≤ c) (hlen : r.length ≤ 1000000000000) (h8 : b.toNat ≤ 8) (hbl : b.toNat ≤ r.length) (hwd : wid (joinB (r.take b.toNat)) ≠ b.toNat) :
    Calls Tryd.prog 53 #[.slice (some ⟨g, o, none⟩) (r.length + 1) c] w fun e w' => e = .returned (.tuple #[.int .i64 0, .slice none 0 0, .bool false]) ∧ Same w w' := by
  have hcell : w.cell? ⟨g, o, none⟩ = some (.int .u8 b.toNat) := by have := hr 0 _ (by simp [bytesV]; rfl); simpa [bV] using this
  have hrr : w.rangeAt g (o + 1) (bytesV r) := by
    have : w.rangeAt g o ([bV b] ++ bytesV r) := hr
    rw [rangeAt_append] at this
    exact this.2
  have hrt : w.rangeAt g (o + 1) (bytesV (r.take b.toNat)) := by
    have : w.rangeAt g (o + 1) (bytesV (r.take b.toNat) ++ bytesV (r.drop b.toNat)) := by rw [← bytesV_append, List.take_append_drop]; exact hrr
    rw [rangeAt_append] at this
    exact this.1
  have htl : (r.take b.toNat).length = b.toNat := by rw [List.length_take]; omega
  have hjb := joinB_bound (r.take b.toNat)
  have HJ : Hid ((r.take b.toNat).length = b.toNat ∧ w.rangeAt g (o + 1) (bytesV (r.take b.toNat))) := ⟨htl, hrt⟩
  clear hr hrr hrt htl
  have hne : ((wid (joinB (r.take b.toNat)) : Int) != (b.toNat : Int)) = true := by simp; omega
  obtain ⟨t, ht⟩ : ∃ t, t = r.take b.toNat := ⟨_, rfl⟩
  rw [← ht] at HJ hjb hne
  clear ht hwd
  generalize b.toNat = x at hcell HJ hne h8 hbl
  generalize r.length = l at hc hlen hbl ⊢
  have hl0 : ((l : Int) + 1 == 0) = false := by simp; omega
  have hwx : IntKind.i64.wrap (x : Int) = (x : Int) := by rw [IntKind.wrap_i64]; omega
  go_enter Tryd.func53, Tryd.ntmps53
  go_wp2
  refine wp_region_still_lit follows' (by kernel_rfl) ?_
  change wpStill _ _ w.drew _ _ _
  iterate 5 still_step
  refine wpStill_slice_from rfl _ _ rfl g o (l + 1) c 1 rfl rfl (by omega) ?_
  intro o' ho'
  iterate 2 still_step
  refine wpStill_nil ?_
  have HO : Hid (1 < c → o' = o + 1) := ho'
  clear ho'
  go_wp2_with (refine wpList_slice_to rfl _ _ rfl g o' l (c - 1) x rfl rfl (by omega) ?_; intro o2 ho2; have HO2 : Hid (0 < c - 1 → o2 = o') := ho2; clear ho2)
  have hrt2 : w.drew.rangeAt g o2 (bytesV t) := by
    rcases Nat.eq_zero_or_pos x with hx0 | hx0
    · have : t = [] := List.eq_nil_of_length_eq_zero (by rw [HJ.out.1, hx0])
      rw [this]; exact rangeAt_nil _ _ _
    · rw [HO2.out (by omega), HO.out (by omega)]; exact (Same.refl w).drew.range HJ.out.2
  refine (join_len g o2 (c - 1) x t w.drew HJ.out.1 h8 hrt2).mono ?_
  rintro e w1 ⟨rfl, rfl⟩
  generalize joinB t = q at hjb hne ⊢
  clear hrt2
  go_wp2_with (go_at_call 62; refine (width_all q _ hjb.1 hjb.2).mono ?_; rintro e w2 ⟨rfl, rfl⟩)
  go_ret3
  exact ⟨rfl, (Same.refl w).drew⟩

set_option maxRecDepth 100000 in
set_option maxHeartbeats 1000000 in
theorem cut_yes (g o c : Nat) (b : UInt8) (r : List UInt8) (w : World) (hr : w.rangeAt g o (bytesV (b :: r))) (hc : r.length + 1 ≤ c) (hlen : r.length ≤ 1000000000000) (h8 : b.toNat ≤ 8) (hbl : b.toNat ≤ r.length) (hwd : wid (joinB (r.take b.toNat)) = b.toNat) :
    Calls Tryd.prog 53 #[.slice (some ⟨g, o, none⟩) (r.length + 1) c] w fun e w' => ∃ o3, e = .returned (.tuple #[.int .i64 (joinB (r.take b.toNat)), .slice (some ⟨g, o3, none⟩) (r.length - b.toNat) (c - 1 - b.toNat), .bool true]) ∧ Same w w' ∧ w.rangeAt g o3 (bytesV (r.drop b.toNat)) := by
  have hcell : w.cell? ⟨g, o, none⟩ = some (.int .u8 b.toNat) := by have := hr 0 _ (by simp [bytesV]; rfl); simpa [bV] using this
  have hrr : w.rangeAt g (o + 1) (bytesV r) := by
    have : w.rangeAt g o ([bV b] ++ bytesV r) := hr
    rw [rangeAt_append] at this
    exact this.2
  have hrt : w.rangeAt g (o + 1) (bytesV (r.take b.toNat)) := by
    have : w.rangeAt g (o + 1) (bytesV (r.take b.toNat) ++ bytesV (r.drop b.toNat)) := by rw [← bytesV_append, List.take_append_drop]; exact hrr
    rw [rangeAt_append] at this
    exact this.1
  have hrd : b.toNat < r.length → w.rangeAt g (o + 1 + b.toNat) (bytesV (r.drop b.toNat)) := fun _ => by
    have : w.rangeAt g (o + 1) (bytesV (r.take b.toNat) ++ bytesV (r.drop b.toNat)) := by rw [← bytesV_append, List.take_append_drop]; exact hrr
    rw [rangeAt_append] at this
    have h2 := this.2
    rw [bytesV_length, List.length_take, Nat.min_eq_left (by omega)] at h2
    exact h2
  have hd0 : r.length ≤ b.toNat → r.drop b.toNat = [] := fun h => List.drop_of_length_le h
  have HDr : Hid ((b.toNat < r.length → w.rangeAt g (o + 1 + b.toNat) (bytesV (r.drop b.toNat))) ∧ (r.length ≤ b.toNat → r.drop b.toNat = [])) := ⟨hrd, hd0⟩
  clear hrd hd0
  have htl : (r.take b.toNat).length = b.toNat := by rw [List.length_take]; omega
  have hjb := joinB_bound (r.take b.toNat)
  have HJ : Hid ((r.take b.toNat).length = b.toNat ∧ w.rangeAt g (o + 1) (bytesV (r.take b.toNat))) := ⟨htl, hrt⟩
  clear hr hrr hrt htl
  have hne : ((wid (joinB (r.take b.toNat)) : Int) != (b.toNat : Int)) = false := by simp; omega
  obtain ⟨t, ht⟩ : ∃ t, t = r.take b.toNat := ⟨_, rfl⟩
  rw [← ht] at HJ hjb hne ⊢
  obtain ⟨u, hu⟩ : ∃ u, u = r.drop b.toNat := ⟨_, rfl⟩
  rw [← hu] at HDr ⊢
  clear hu
  clear ht hwd
  generalize b.toNat = x at hcell HJ hne h8 hbl HDr ⊢
  generalize r.length = l at hc hlen hbl HDr ⊢
  have hl0 : ((l : Int) + 1 == 0) = false := by simp; omega
  have hwx : IntKind.i64.wrap (x : Int) = (x : Int) := by rw [IntKind.wrap_i64]; omega
  go_enter Tryd.func53, Tryd.ntmps53
  go_wp2
  refine wp_region_still_lit follows' (by kernel_rfl) ?_
  change wpStill _ _ w.drew _ _ _
  iterate 5 still_step
  refine wpStill_slice_from rfl _ _ rfl g o (l + 1) c 1 rfl rfl (by omega) ?_
  intro o' ho'
  iterate 2 still_step
  refine wpStill_nil ?_
  have HO : Hid (1 < c → o' = o + 1) := ho'
  clear ho'
  go_wp2_with (refine wpList_slice_to rfl _ _ rfl g o' l (c - 1) x rfl rfl (by omega) ?_; intro o2 ho2; have HO2 : Hid (0 < c - 1 → o2 = o') := ho2; clear ho2)
  have hrt2 : w.drew.rangeAt g o2 (bytesV t) := by
    rcases Nat.eq_zero_or_pos x with hx0 | hx0
    · have : t = [] := List.eq_nil_of_length_eq_zero (by rw [HJ.out.1, hx0])
      rw [this]; exact rangeAt_nil _ _ _
    · rw [HO2.out (by omega), HO.out (by omega)]; exact (Same.refl w).drew.range HJ.out.2
  refine (join_len g o2 (c - 1) x t w.drew HJ.out.1 h8 hrt2).mono ?_
  rintro e w1 ⟨rfl, rfl⟩
  generalize hq : joinB t = q at hjb hne ⊢
  have HQ : Hid (joinB t = q) := hq
  clear hq
  clear hrt2
  go_wp2_with (go_at_call 62; refine (width_all q _ hjb.1 hjb.2).mono ?_; rintro e w2 ⟨rfl, rfl⟩)
  refine wp_region_still_lit follows' (by kernel_rfl) ?_
  change wpStill _ _ w.drew.drew _ _ _
  iterate 3 still_step
  refine wpStill_slice_from rfl _ _ rfl g o' l (c - 1) x rfl rfl (by omega) ?_
  intro o3 ho3
  have HO3 : Hid (x < c - 1 → o3 = o' + x) := ho3
  clear ho3
  iterate 3 still_step
  refine wpStill_nil ?_
  go_wp2
  go_ret3
  refine ⟨o3, by rw [HQ.out]; rfl, (Same.refl w).drew.drew, ?_⟩
  rcases Nat.lt_or_ge x l with hxl | hxl
  · rw [HO3.out (by omega), HO.out (by omega)]; exact HDr.out.1 hxl
  · rw [HDr.out.2 hxl]; exact rangeAt_nil _ _ _

end Go.Proofs.YtmdjjnjhjojimaaDoor

namespace Go.Proofs.YtmdjjnjhjojimaaDoor
open Go.RowKit Go.Maps

/-- A Reader in memory: what is left of its bytes, its error. -/
structure RdAt (w : World) (rb : Nat) (s : List UInt8) (a : Option Addr) (c : Nat) (err : Int) : Prop where
  c0 : w.cell? ⟨rb, 0, none⟩ = some (.slice a s.length c)
  c1 : w.cell? ⟨rb, 1, none⟩ = some (.int .i64 err)
  f : ∀ o, w.frozen? ⟨rb, o, none⟩ = false
  sh : (a = none ∧ s = []) ∨ ∃ g o, a = some ⟨g, o, none⟩ ∧ g ≠ rb ∧ w.rangeAt g o (bytesV s)
  hc : s.length ≤ c
  hl : s.length ≤ 1000000000
theorem RdAt.lt {w : World} {rb : Nat} {s : List UInt8} {a : Option Addr} {c : Nat} {err : Int} (h : RdAt w rb s a c err) : rb < w.heap.size := World.block_lt_of_cell? w _ h.c0

theorem rerr_nil (w : World) : Calls Tryd.prog 34 #[.pointer none] w fun e w' => e = .returned (.int .i64 1) ∧ w' = w := by
  go_enter Tryd.func34, Tryd.ntmps34
  go_wp2
  go_ret
  exact ⟨rfl, rfl⟩
theorem rerr_cell (rb : Nat) (err : Int) (w : World) (c1 : w.cell? ⟨rb, 1, none⟩ = some (.int .i64 err)) : Calls Tryd.prog 34 #[.pointer (some ⟨rb, 0, none⟩)] w fun e w' => e = .returned (.int .i64 err) ∧ w' = w := by
  go_enter Tryd.func34, Tryd.ntmps34
  go_wp2
  go_ret
  exact ⟨rfl, rfl⟩
theorem rfail_any (rb : Nat) (v u : Value) (w : World) (c0 : w.cell? ⟨rb, 0, none⟩ = some v) (c1 : w.cell? ⟨rb, 1, none⟩ = some u) (f : ∀ o, w.frozen? ⟨rb, o, none⟩ = false) :
    Calls Tryd.prog 54 #[.pointer (some ⟨rb, 0, none⟩)] w fun e w' => e = .returned (.tuple #[]) ∧ w' = (w.setCell ⟨rb, 0, none⟩ (.slice none 0 0)).setCell ⟨rb, 1, none⟩ (.int .i64 1) := by
  have f0 := f 0
  have f1 := f 1
  clear f
  go_enter Tryd.func54, Tryd.ntmps54
  go_wp2
  go_end0
  exact ⟨rfl, rfl⟩
theorem rfail_at {w : World} {rb : Nat} {s : List UInt8} {a : Option Addr} {c : Nat} {err : Int} (h : RdAt w rb s a c err) :
    Calls Tryd.prog 54 #[.pointer (some ⟨rb, 0, none⟩)] w fun e w' => e = .returned (.tuple #[]) ∧ RdAt w' rb [] none 0 1 ∧ Keeps (fun i => i = rb) w w' := by
  refine (rfail_any rb _ _ w h.c0 h.c1 h.f).mono ?_
  rintro e w' ⟨rfl, rfl⟩
  refine ⟨rfl, ⟨?_, ?_, fun o => ?_, Or.inl ⟨rfl, rfl⟩, by simp, by simp⟩, ((Keeps.refl (fun i => i = rb) w).setCell (p := ⟨rb, 0, none⟩) rfl _).setCell (p := ⟨rb, 1, none⟩) rfl _⟩
  · rw [World.cell?_setCell_other _ _ _ _ (by simp), World.cell?_setCell_same _ _ _ h.c0]; rfl
  · rw [World.cell?_setCell_same _ _ _ (by rw [World.cell?_setCell_other _ _ _ _ (by simp)]; exact h.c1)]
  · rw [World.frozen?_setCell, World.frozen?_setCell]; exact h.f o

/-- What Int reads. -/
def rdInt (s : List UInt8) (err : Int) : Int × List UInt8 × Int :=
  if err = 0 then (match cutS s with | some (n, r) => (n, r, 0) | none => (0, [], 1)) else (0, s, err)

theorem RdAt.same {w w' : World} {rb : Nat} {s : List UInt8} {a : Option Addr} {c : Nat} {err : Int} (h : RdAt w rb s a c err) (k : Same w w') : RdAt w' rb s a c err :=
  { h with
    c0 := (k.cell _).trans h.c0
    c1 := (k.cell _).trans h.c1
    f := fun o => (k.frozen _).trans (h.f o)
    sh := by
      rcases h.sh with x | ⟨g, o, x, y, z⟩
      · exact Or.inl x
      · exact Or.inr ⟨g, o, x, y, k.range z⟩ }

/-- Int, where cutInt finds none. -/
theorem rint_bad {w : World} {rb : Nat} {s : List UInt8} {a : Option Addr} {c : Nat} (h : RdAt w rb s a c 0)
    (hcut : Calls Tryd.prog 53 #[.slice a s.length c] w fun e w' => e = .returned (.tuple #[.int .i64 0, .slice none 0 0, .bool false]) ∧ Same w w') :
    Calls Tryd.prog 33 #[.pointer (some ⟨rb, 0, none⟩)] w fun e w' => e = .returned (.int .i64 0) ∧ RdAt w' rb [] none 0 1 ∧ Keeps (fun i => i = rb) w w' := by
  have c0 := h.c0
  have H : Hid (Calls Tryd.prog 53 #[.slice a s.length c] w fun e w' => e = .returned (.tuple #[.int .i64 0, .slice none 0 0, .bool false]) ∧ Same w w') := hcut
  clear hcut
  go_enter Tryd.func33, Tryd.ntmps33
  go_wp2_with (first
    | (go_at_call 34; refine (rerr_cell rb 0 _ h.c1).mono ?_; rintro e w' ⟨rfl, hw⟩; obtain rfl := hw.symm)
    | (go_at_call 53; refine H.out.mono ?_; rintro e w1 ⟨rfl, hs1⟩)
    | (go_at_call 54; refine (rfail_at (h.same hs1)).mono ?_; rintro e w2 ⟨rfl, h2, hk2⟩))
  go_ret
  exact ⟨rfl, h2, (hs1.keeps _).trans hk2⟩

theorem rint_err {w : World} {rb : Nat} {s : List UInt8} {a : Option Addr} {c : Nat} {err : Int} (h : RdAt w rb s a c err) (he : err ≠ 0) :
    Calls Tryd.prog 33 #[.pointer (some ⟨rb, 0, none⟩)] w fun e w' => e = .returned (.int .i64 0) ∧ w' = w := by
  have hne : (err != 0) = true := by simpa using he
  clear he
  go_enter Tryd.func33, Tryd.ntmps33
  go_wp2_with (go_at_call 34; refine (rerr_cell rb err _ h.c1).mono ?_; rintro e w' ⟨rfl, hw⟩; obtain rfl := hw.symm)
  go_ret
  exact ⟨rfl, rfl⟩

theorem rint_yes {w : World} {rb : Nat} {s : List UInt8} {a : Option Addr} {c : Nat} (h : RdAt w rb s a c 0) (n : Int) (g l c' : Nat) (R : Nat → Prop)
    (hcut : Calls Tryd.prog 53 #[.slice a s.length c] w fun e w' => ∃ o3, e = .returned (.tuple #[.int .i64 n, .slice (some ⟨g, o3, none⟩) l c', .bool true]) ∧ Same w w' ∧ R o3) :
    Calls Tryd.prog 33 #[.pointer (some ⟨rb, 0, none⟩)] w fun e w' => ∃ o3 w1, e = .returned (.int .i64 n) ∧ Same w w1 ∧ w' = w1.setCell ⟨rb, 0, none⟩ (.slice (some ⟨g, o3, none⟩) l c') ∧ R o3 := by
  have c0 := h.c0
  have H : Hid (Calls Tryd.prog 53 #[.slice a s.length c] w fun e w' => ∃ o3, e = .returned (.tuple #[.int .i64 n, .slice (some ⟨g, o3, none⟩) l c', .bool true]) ∧ Same w w' ∧ R o3) := hcut
  clear hcut
  go_enter Tryd.func33, Tryd.ntmps33
  go_wp2_with (first
    | (go_at_call 34; refine (rerr_cell rb 0 _ h.c1).mono ?_; rintro e w' ⟨rfl, hw⟩; obtain rfl := hw.symm)
    | (go_at_call 53; refine H.out.mono ?_; rintro e w1 ⟨o3, rfl, hs1, hR⟩; have d0 := (h.same hs1).c0; have d1 := (h.same hs1).f 0))
  go_ret
  exact ⟨o3, w1, rfl, hs1, rfl, hR⟩
end Go.Proofs.YtmdjjnjhjojimaaDoor
