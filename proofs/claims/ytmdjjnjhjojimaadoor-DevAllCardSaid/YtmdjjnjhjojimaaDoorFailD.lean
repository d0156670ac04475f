import Derived.Test.YtmdjjnjhjojimaaDoorFailC
namespace Go.Proofs.YtmdjjnjhjojimaaDoor
open Go.RowKit Go.Extern.Stop Go.Stop Go.Extern

/-- What errors.errorType holds. -/
abbrev errType : Value := .iface 129 (.agg #[.pointer (some ⟨1, 71, none⟩)])

set_option maxRecDepth 100000 in
set_option maxHeartbeats 1000000 in
theorem As_chain (n old : Int) (t : Addr) (ws : List ByteArray) (T : TypeId) (x : Value) (w : World) (hc : Chain w n ws (.iface T x)) (ht0 : w.cell? t = some (.int .i64 old)) (hf0 : w.frozen? t = false) (hg : w.cell? ⟨0, 0, none⟩ = some errType) :
    Calls Tryd.prog 56 #[.iface T x, .iface 103 (.pointer (some t))] w fun ev w' => ev = .returned (.bool true) ∧ Keeps (fun i => i = t.block) w w' ∧ w'.cell? t = some (.int .i64 n) ∧ w'.frozen? t = false := by
  have h64 := @run_callFunc_extern Tryd.prog 64 _ (fun args => ReflectliteValue.unpack (args.getD 0 (.tuple #[]))) Tryd.func64 (by kernel_rfl) (by kernel_rfl) (by kernel_rfl) (by kernel_rfl)
  have h65 := @run_callFunc_extern Tryd.prog 65 _ (ReflectliteValue.methodAny (ReflectliteValue.valueError "reflectlite.Value.Type" 0) (fun t _ _ _ => ReflectliteType.toType t)) Tryd.func65 (by kernel_rfl) (by kernel_rfl) (by kernel_rfl) (by kernel_rfl)
  have h66 := @run_callFunc_extern Tryd.prog 66 _ (ReflectliteValue.method (ReflectliteValue.valueError "reflectlite.Value.IsNil" 0) ReflectliteValue.isNil) Tryd.func66 (by kernel_rfl) (by kernel_rfl) (by kernel_rfl) (by kernel_rfl)
  have h107 := @run_callFunc_extern Tryd.prog 107 _ (ReflectliteType.abiMethod fun t => do pure (.int .u8 (← Rtype.kind t))) Tryd.func107 (by kernel_rfl) (by kernel_rfl) (by kernel_rfl) (by kernel_rfl)
  have h119 := @run_callFunc_extern Tryd.prog 119 _ (ReflectliteType.method ReflectliteType.elem) Tryd.func119 (by kernel_rfl) (by kernel_rfl) (by kernel_rfl) (by kernel_rfl)
  have h120 := @run_callFunc_extern Tryd.prog 120 _ (ReflectliteType.relation "Implements" ReflectliteType.implements_) Tryd.func120 (by kernel_rfl) (by kernel_rfl) (by kernel_rfl) (by kernel_rfl)
  have f1 := valueOf103
  have f2 := type103
  have f3 := mKind
  have f4 := mElem
  have f5 := mImpl
  have f6 := kind103
  have f7 := kind31
  have f8 := elem103
  have f9 := impl31
  have hlt : 0 < w.heap.size := World.block_lt_of_cell? w _ hg
  have htl : t.block < w.heap.size := World.block_lt_of_cell? w _ ht0
  have n8 := isNil103 ⟨w.heap.size, 0, none⟩ t ((w.alloc (.cells #[.pointer (some t)] 103)).alloc (.cells #[.pointer (some ⟨1, 103, none⟩), .pointer (some ⟨w.heap.size, 0, none⟩), .int .u64 150] 112)) (by simp)
  have hg2 : ((w.alloc (.cells #[.pointer (some t)] 103)).alloc (.cells #[.pointer (some ⟨1, 103, none⟩), .pointer (some ⟨w.heap.size, 0, none⟩), .int .u64 150] 112)).cell? ⟨0, 0, none⟩ = some errType := by
    rw [World.cell?_alloc_lt _ _ ⟨0, 0, none⟩ (by simp), World.cell?_alloc_lt _ _ ⟨0, 0, none⟩ hlt]; exact hg
  have hk2 : Keeps (fun _ => False) w ((w.alloc (.cells #[.pointer (some t)] 103)).alloc (.cells #[.pointer (some ⟨1, 103, none⟩), .pointer (some ⟨w.heap.size, 0, none⟩), .int .u64 150] 112)) := ((Keeps.refl (fun _ => False) w).alloc _).alloc _
  have hch := Chain.keeps hk2 (fun _ _ e => e) hc
  have hat := as_chain n old t ⟨w.heap.size, 0, none⟩ ws (.iface T x) ((w.alloc (.cells #[.pointer (some t)] 103)).alloc (.cells #[.pointer (some ⟨1, 103, none⟩), .pointer (some ⟨w.heap.size, 0, none⟩), .int .u64 150] 112)) hch
    ((hk2.cell htl (fun e => e)).trans ht0) ((hk2.frozen htl (fun e => e)).trans hf0) (by simp)
  have H := hat
  have HK : Hid (Calls Tryd.prog 67 _ _ _) := H
  clear H hat hch hk2
  go_enter Tryd.func56, Tryd.ntmps56
  go_wp2_with (go_at_call 67; refine HK.out.mono ?_; rintro e w' ⟨rfl, rfl⟩)
  go_ret
  have hk3 : Keeps (fun i => i = t.block) w (((w.alloc (.cells #[.pointer (some t)] 103)).alloc (.cells #[.pointer (some ⟨1, 103, none⟩), .pointer (some ⟨w.heap.size, 0, none⟩), .int .u64 150] 112)).alloc (.cells #[.pointer (some ⟨1, 103, none⟩), .pointer (some ⟨w.heap.size, 0, none⟩), .int .u64 150] 112) |>.alloc (.cells #[.int .i64 n] 31)) :=
    ((((Keeps.refl (fun i => i = t.block) w).alloc _).alloc _).alloc _).alloc _
  have hk4 : Keeps (fun _ => False) w (((w.alloc (.cells #[.pointer (some t)] 103)).alloc (.cells #[.pointer (some ⟨1, 103, none⟩), .pointer (some ⟨w.heap.size, 0, none⟩), .int .u64 150] 112)).alloc (.cells #[.pointer (some ⟨1, 103, none⟩), .pointer (some ⟨w.heap.size, 0, none⟩), .int .u64 150] 112) |>.alloc (.cells #[.int .i64 n] 31)) :=
    ((((Keeps.refl (fun _ => False) w).alloc _).alloc _).alloc _).alloc _
  refine ⟨rfl, hk3.setCell (S := fun i => i = t.block) rfl _, ?_, ?_⟩
  · rw [World.cell?_setCell_same _ _ _ ((hk4.cell htl (fun e => e)).trans ht0)]
  · rw [World.frozen?_setCell]; exact (hk4.frozen htl (fun e => e)).trans hf0
end Go.Proofs.YtmdjjnjhjojimaaDoor
