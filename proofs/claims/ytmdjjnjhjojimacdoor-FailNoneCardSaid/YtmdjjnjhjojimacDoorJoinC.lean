import Derived.Test.YtmdjjnjhjojimacDoorJoinB
namespace Go.Proofs.YtmdjjnjhjojimacDoor
open Go.RowKit Go.Extern.Stop Go.Stop Go.Extern

theorem noAs56 (v : Value) (x : TypeId) (w : World) : (Instr.typeAssert (.iface 56 v) x 112 true).run Tryd.prog w = .ok (.tuple #[.nilIface, .bool false]) w := run_typeAssert_lacksB Tryd.underlying112 (by kernel_rfl) (by kernel_rfl) v x w
theorem noIs56 (v : Value) (x : TypeId) (w : World) : (Instr.typeAssert (.iface 56 v) x 119 true).run Tryd.prog w = .ok (.tuple #[.nilIface, .bool false]) w := run_typeAssert_lacksB Tryd.underlying119 (by kernel_rfl) (by kernel_rfl) v x w
theorem noUn56 (v : Value) (x : TypeId) (w : World) : (Instr.typeAssert (.iface 56 v) x 115 true).run Tryd.prog w = .ok (.tuple #[.nilIface, .bool false]) w := run_typeAssert_lacksB Tryd.underlying115 (by kernel_rfl) (by kernel_rfl) v x w

set_option maxRecDepth 100000 in
set_option maxHeartbeats 1000000 in
theorem as_join (c old : Int) (t va : Addr) (b jb r tt : Nat) (w : World) (hp1 : w.cell? ⟨b, 1, none⟩ = some (.iface 56 (.pointer (some ⟨jb, 0, none⟩)))) (hj : w.cell? ⟨jb, 0, none⟩ = some (.slice (some ⟨r, 0, none⟩) 2 tt)) (hr0 : w.cell? ⟨r, 0, none⟩ = some (errno c))
    (ht0 : w.cell? t = some (.int .i64 old)) (hf0 : w.frozen? t = false) (hv0 : w.cell? va = some (.pointer (some t))) :
    Calls Tryd.prog 42 #[placeV b, .iface 64 (.pointer (some t)), .agg #[.pointer (some ⟨1, 64, none⟩), .pointer (some va), .int .u64 150], .iface 108 (.agg #[.pointer (some ⟨1, 30, none⟩)])] w fun ev w' => ev = .returned (.bool true) ∧
      Keeps (fun i => i = t.block) w w' ∧ w'.cell? t = some (.int .i64 c) ∧ w'.frozen? t = false := by
  have h68 := @run_callFunc_extern Tryd.prog 43 _ ReflectliteType.typeOf Tryd.func43 (by kernel_rfl) (by kernel_rfl) (by kernel_rfl) (by kernel_rfl)
  have h117 := @run_callFunc_extern Tryd.prog 100 _ (ReflectliteType.relation "AssignableTo" ReflectliteType.assignableTo) Tryd.func100 (by kernel_rfl) (by kernel_rfl) (by kernel_rfl) (by kernel_rfl)
  have f2 := typeOf99
  have f2' := typeOf56
  have f3 := mAssi
  have f5 := assi99
  have f5' := assi56
  have f7 := mUnwrap
  have f7' := mUnwraps
  have f8 := noAs99
  have f8' := noAs56
  have f9 := hasUn99
  have f9' := noUn56
  have f9'' := hasUns56
  have hkA : Keeps (fun i => i = t.block) w (w.alloc (.cells #[.pointer (some ⟨1, 64, none⟩), .pointer (some va), .int .u64 150] 89)) := (Keeps.refl _ w).alloc _
  have hb0 : Below w.heap.size w (w.alloc (.cells #[.pointer (some ⟨1, 64, none⟩), .pointer (some va), .int .u64 150] 89)) := (Below.refl _ w).alloc (Nat.le_refl _) _
  have k1 := (hb0.cell (p := ⟨b, 1, none⟩) (World.block_lt_of_cell? _ _ hp1)).trans hp1
  have k2 := (hb0.cell (p := ⟨jb, 0, none⟩) (World.block_lt_of_cell? _ _ hj)).trans hj
  have k3 := (hb0.cell (p := ⟨r, 0, none⟩) (World.block_lt_of_cell? _ _ hr0)).trans hr0
  have k4 := (hb0.cell (p := t) (World.block_lt_of_cell? _ _ ht0)).trans ht0
  have k5 := (hb0.frozen (p := t) (World.block_lt_of_cell? _ _ ht0)).trans hf0
  have k6 := (hb0.cell (p := va) (World.block_lt_of_cell? _ _ hv0)).trans hv0
  go_enter Tryd.func42, Tryd.ntmps42
  go_wp2
  refine wp_loop_rounds 2 ?_
  rw [rounds_succ]
  go_wp2
  rw [rounds_succ]
  go_wp2_with (go_at_call 93; refine (unwraps_any jb r tt _ k2).mono ?_; rintro e w' ⟨rfl, hw⟩; obtain rfl := hw.symm; clear hw)
  clear f2 f2' f5 f5' f7 f7' f8 f8' f9 f9' f9''
  refine wp_loop_rounds 1 ?_
  rw [rounds_succ]
  go_wp2_with fail
  refine (as_chain c old t va [] _ _ rfl k4 k5 k6).mono ?_
  rintro e w2 ⟨rfl, rfl⟩
  go_wp2
  go_ret
  have hk2 := (hkA.alloc (.cells #[.pointer (some ⟨1, 64, none⟩), .pointer (some va), .int .u64 150] 89)).alloc (.cells #[.int .i64 c] 30)
  have htl : t.block < w.heap.size := World.block_lt_of_cell? w _ ht0
  have hold : (((w.alloc (.cells #[.pointer (some ⟨1, 64, none⟩), .pointer (some va), .int .u64 150] 89)).alloc (.cells #[.pointer (some ⟨1, 64, none⟩), .pointer (some va), .int .u64 150] 89)).alloc (.cells #[.int .i64 c] 30)).cell? t = some (.int .i64 old) := by
    rw [World.cell?_alloc_lt _ _ t (by simp; omega), World.cell?_alloc_lt _ _ t (by simp; omega)]
    exact k4
  refine ⟨rfl, hk2.setCell (p := t) rfl _, World.cell?_setCell_same _ _ _ hold, ?_⟩
  rw [World.frozen?_setCell, World.frozen?_alloc_old _ _ t (by simp; omega), World.frozen?_alloc_old _ _ t (by simp; omega)]
  exact k5
end Go.Proofs.YtmdjjnjhjojimacDoor
