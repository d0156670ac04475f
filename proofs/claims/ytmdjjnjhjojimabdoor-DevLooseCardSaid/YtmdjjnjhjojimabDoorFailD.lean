import Derived.Test.YtmdjjnjhjojimabDoorFailC
namespace Go.Proofs.YtmdjjnjhjojimabDoor
open Go.RowKit Go.Extern.Stop Go.Stop Go.Extern

/-- What errors.errorType holds. -/
abbrev errType : Value := .iface 118 (.agg #[.pointer (some ⟨1, 43, none⟩)])

set_option maxRecDepth 100000 in
set_option maxHeartbeats 1000000 in
theorem As_chain (n old : Int) (t : Addr) (ws : List ByteArray) (T : TypeId) (x : Value) (w : World) (hc : Chain w n ws (.iface T x)) (ht0 : w.cell? t = some (.int .i64 old)) (hf0 : w.frozen? t = false) (hg : w.cell? ⟨0, 0, none⟩ = some errType) :
    Calls Tryd.prog 46 #[.iface T x, .iface 91 (.pointer (some t))] w fun ev w' => ev = .returned (.bool true) ∧ Keeps (fun i => i = t.block) w w' ∧ w'.cell? t = some (.int .i64 n) ∧ w'.frozen? t = false := by
  have h64 := @run_callFunc_extern Tryd.prog 54 _ (fun args => ReflectliteValue.unpack (args.getD 0 (.tuple #[]))) Tryd.func54 (by kernel_rfl) (by kernel_rfl) (by kernel_rfl) (by kernel_rfl)
  have h65 := @run_callFunc_extern Tryd.prog 55 _ (ReflectliteValue.methodAny (ReflectliteValue.valueError "reflectlite.Value.Type" 0) (fun t _ _ _ => ReflectliteType.toType t)) Tryd.func55 (by kernel_rfl) (by kernel_rfl) (by kernel_rfl) (by kernel_rfl)
  have h66 := @run_callFunc_extern Tryd.prog 56 _ (ReflectliteValue.method (ReflectliteValue.valueError "reflectlite.Value.IsNil" 0) ReflectliteValue.isNil) Tryd.func56 (by kernel_rfl) (by kernel_rfl) (by kernel_rfl) (by kernel_rfl)
  have h107 := @run_callFunc_extern Tryd.prog 97 _ (ReflectliteType.abiMethod fun t => do pure (.int .u8 (← Rtype.kind t))) Tryd.func97 (by kernel_rfl) (by kernel_rfl) (by kernel_rfl) (by kernel_rfl)
  have h119 := @run_callFunc_extern Tryd.prog 109 _ (ReflectliteType.method ReflectliteType.elem) Tryd.func109 (by kernel_rfl) (by kernel_rfl) (by kernel_rfl) (by kernel_rfl)
  have h120 := @run_callFunc_extern Tryd.prog 110 _ (ReflectliteType.relation "Implements" ReflectliteType.implements_) Tryd.func110 (by kernel_rfl) (by kernel_rfl) (by kernel_rfl) (by kernel_rfl)
  have f1 := valueOf103
  have f2 := type103
  have f3 := mKind
  have f4 := mElem
  have f5 := mImpl
  have f6 := kind103
  have f7 := kind31
  have f8 := elem103
  have f9 := impl31
  have hlt : 0 < w.heap.size := World.block_lt_of_cell? w _ hg
  have htl : t.block < w.heap.size := World.block_lt_of_cell? w _ ht0
  have n8 := isNil103 ⟨w.heap.size, 0, none⟩ t ((w.alloc (.cells #[.pointer (some t)] 91)).alloc (.cells #[.pointer (some ⟨1, 91, none⟩), .pointer (some ⟨w.heap.size, 0, none⟩), .int .u64 150] 101)) (by simp)
  have hg2 : ((w.alloc (.cells #[.pointer (some t)] 91)).alloc (.cells #[.pointer (some ⟨1, 91, none⟩), .pointer (some ⟨w.heap.size, 0, none⟩), .int .u64 150] 101)).cell? ⟨0, 0, none⟩ = some errType := by
    rw [World.cell?_alloc_lt _ _ ⟨0, 0, none⟩ (by simp), World.cell?_alloc_lt _ _ ⟨0, 0, none⟩ hlt]; exact hg
  have hk2 : Keeps (fun _ => False) w ((w.alloc (.cells #[.pointer (some t)] 91)).alloc (.cells #[.pointer (some ⟨1, 91, none⟩), .pointer (some ⟨w.heap.size, 0, none⟩), .int .u64 150] 101)) := ((Keeps.refl (fun _ => False) w).alloc _).alloc _
  have hch := Chain.keeps hk2 (fun _ _ e => e) hc
  have hat := as_chain n old t ⟨w.heap.size, 0, none⟩ ws (.iface T x) ((w.alloc (.cells #[.pointer (some t)] 91)).alloc (.cells #[.pointer (some ⟨1, 91, none⟩), .pointer (some ⟨w.heap.size, 0, none⟩), .int .u64 150] 101)) hch
    ((hk2.cell htl (fun e => e)).trans ht0) ((hk2.frozen htl (fun e => e)).trans hf0) (by simp)
  have H := hat
  have HK : Hid (Calls Tryd.prog 57 _ _ _) := H
  clear H hat hch hk2
  go_enter Tryd.func46, Tryd.ntmps46
  go_wp2_with (go_at_call 57; refine HK.out.mono ?_; rintro e w' ⟨rfl, rfl⟩)
  go_ret
  have hk3 : Keeps (fun i => i = t.block) w (((w.alloc (.cells #[.pointer (some t)] 91)).alloc (.cells #[.pointer (some ⟨1, 91, none⟩), .pointer (some ⟨w.heap.size, 0, none⟩), .int .u64 150] 101)).alloc (.cells #[.pointer (some ⟨1, 91, none⟩), .pointer (some ⟨w.heap.size, 0, none⟩), .int .u64 150] 101) |>.alloc (.cells #[.int .i64 n] 26)) :=
    ((((Keeps.refl (fun i => i = t.block) w).alloc _).alloc _).alloc _).alloc _
  have hk4 : Keeps (fun _ => False) w (((w.alloc (.cells #[.pointer (some t)] 91)).alloc (.cells #[.pointer (some ⟨1, 91, none⟩), .pointer (some ⟨w.heap.size, 0, none⟩), .int .u64 150] 101)).alloc (.cells #[.pointer (some ⟨1, 91, none⟩), .pointer (some ⟨w.heap.size, 0, none⟩), .int .u64 150] 101) |>.alloc (.cells #[.int .i64 n] 26)) :=
    ((((Keeps.refl (fun _ => False) w).alloc _).alloc _).alloc _).alloc _
  refine ⟨rfl, hk3.setCell (S := fun i => i = t.block) rfl _, ?_, ?_⟩
  · rw [World.cell?_setCell_same _ _ _ ((hk4.cell htl (fun e => e)).trans ht0)]
  · rw [World.frozen?_setCell]; exact (hk4.frozen htl (fun e => e)).trans hf0
end Go.Proofs.YtmdjjnjhjojimabDoor
