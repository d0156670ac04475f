import Derived.Test.YtmdjjnjhjojimacDoorJoinD
import Derived.Test.YtmdjjnjhjojimacDoorFailG
namespace Go.Proofs.YtmdjjnjhjojimacDoor
open Go.RowKit Go.Extern.Stop Go.Stop Go.Extern

set_option maxRecDepth 100000 in
set_option maxHeartbeats 1000000 in
theorem As_join (c d old : Int) (t : Addr) {b jb r tt : Nat} {s : ByteArray} {w : World} (h : Both w b jb r tt s c d) (ht0 : w.cell? t = some (.int .i64 old)) (hf0 : w.frozen? t = false) (hg : w.cell? ⟨0, 0, none⟩ = some errType) :
    Calls Tryd.prog 25 #[placeV b, .iface 64 (.pointer (some t))] w fun ev w' => ev = .returned (.bool true) ∧ Keeps (fun i => i = t.block) w w' ∧ w'.cell? t = some (.int .i64 c) ∧ w'.frozen? t = false := by
  have h64 := @run_callFunc_extern Tryd.prog 39 _ (fun args => ReflectliteValue.unpack (args.getD 0 (.tuple #[]))) Tryd.func39 (by kernel_rfl) (by kernel_rfl) (by kernel_rfl) (by kernel_rfl)
  have h65 := @run_callFunc_extern Tryd.prog 40 _ (ReflectliteValue.methodAny (ReflectliteValue.valueError "reflectlite.Value.Type" 0) (fun t _ _ _ => ReflectliteType.toType t)) Tryd.func40 (by kernel_rfl) (by kernel_rfl) (by kernel_rfl) (by kernel_rfl)
  have h66 := @run_callFunc_extern Tryd.prog 41 _ (ReflectliteValue.method (ReflectliteValue.valueError "reflectlite.Value.IsNil" 0) ReflectliteValue.isNil) Tryd.func41 (by kernel_rfl) (by kernel_rfl) (by kernel_rfl) (by kernel_rfl)
  have h107 := @run_callFunc_extern Tryd.prog 88 _ (ReflectliteType.abiMethod fun t => do pure (.int .u8 (← Rtype.kind t))) Tryd.func88 (by kernel_rfl) (by kernel_rfl) (by kernel_rfl) (by kernel_rfl)
  have h119 := @run_callFunc_extern Tryd.prog 102 _ (ReflectliteType.method ReflectliteType.elem) Tryd.func102 (by kernel_rfl) (by kernel_rfl) (by kernel_rfl) (by kernel_rfl)
  have h120 := @run_callFunc_extern Tryd.prog 103 _ (ReflectliteType.relation "Implements" ReflectliteType.implements_) Tryd.func103 (by kernel_rfl) (by kernel_rfl) (by kernel_rfl) (by kernel_rfl)
  have f1 := valueOf103
  have f2 := type103
  have f3 := mKind
  have f4 := mElem
  have f5 := mImpl
  have f6 := kind103
  have f7 := kind31
  have f8 := elem103
  have f9 := impl31
  have hlt : 0 < w.heap.size := World.block_lt_of_cell? w _ hg
  have htl : t.block < w.heap.size := World.block_lt_of_cell? w _ ht0
  have n8 := isNil103 ⟨w.heap.size, 0, none⟩ t ((w.alloc (.cells #[.pointer (some t)] 64)).alloc (.cells #[.pointer (some ⟨1, 64, none⟩), .pointer (some ⟨w.heap.size, 0, none⟩), .int .u64 150] 89)) (by simp)
  have hg2 : ((w.alloc (.cells #[.pointer (some t)] 64)).alloc (.cells #[.pointer (some ⟨1, 64, none⟩), .pointer (some ⟨w.heap.size, 0, none⟩), .int .u64 150] 89)).cell? ⟨0, 0, none⟩ = some errType := by
    rw [World.cell?_alloc_lt _ _ ⟨0, 0, none⟩ (by simp), World.cell?_alloc_lt _ _ ⟨0, 0, none⟩ hlt]; exact hg
  have hk2 : Keeps (fun _ => False) w ((w.alloc (.cells #[.pointer (some t)] 64)).alloc (.cells #[.pointer (some ⟨1, 64, none⟩), .pointer (some ⟨w.heap.size, 0, none⟩), .int .u64 150] 89)) := ((Keeps.refl (fun _ => False) w).alloc _).alloc _
  have hk2' : Keeps (fun i => i = t.block) w ((w.alloc (.cells #[.pointer (some t)] 64)).alloc (.cells #[.pointer (some ⟨1, 64, none⟩), .pointer (some ⟨w.heap.size, 0, none⟩), .int .u64 150] 89)) := ((Keeps.refl _ w).alloc _).alloc _
  have h2 := h.below (hk2.below (Nat.le_refl _) (fun _ e => e.elim))
  have hat := as_join c old t ⟨w.heap.size, 0, none⟩ b jb r tt ((w.alloc (.cells #[.pointer (some t)] 64)).alloc (.cells #[.pointer (some ⟨1, 64, none⟩), .pointer (some ⟨w.heap.size, 0, none⟩), .int .u64 150] 89)) h2.p1 h2.j0 h2.r0
    ((hk2.cell htl (fun e => e)).trans ht0) ((hk2.frozen htl (fun e => e)).trans hf0) (by simp)
  have HK : Hid (Calls Tryd.prog 42 _ _ _) := hat
  clear hat h2 hk2 h
  go_enter Tryd.func25, Tryd.ntmps25
  go_wp2_with (go_at_call 42; refine HK.out.mono ?_; rintro e w' ⟨rfl, hk, hc, hf⟩)
  go_ret
  exact ⟨rfl, hk2'.trans hk, hc, hf⟩

set_option maxRecDepth 100000 in
set_option maxHeartbeats 1000000 in
theorem code_join (c d : Int) {b jb r tt : Nat} {s : ByteArray} {w : World} (h : Both w b jb r tt s c d) (hg : w.cell? ⟨0, 0, none⟩ = some errType) :
    Calls Tryd.prog 10 #[placeV b] w fun ev w' => ev = .returned (.int .i64 c) ∧ Below w.heap.size w w' := by
  have hmf : ∀ (fn : Fn) (first cap : Array Value) (w : World), (Instr.makeFunc fn first cap).run Tryd.prog w = .ok (.func fn first cap) w := fun _ _ _ _ => rfl
  have hlt : 0 < w.heap.size := World.block_lt_of_cell? w _ hg
  have hg1 : (w.alloc (.cells #[.int .i64 0] 30)).cell? ⟨0, 0, none⟩ = some errType := by rw [World.cell?_alloc_lt _ _ ⟨0, 0, none⟩ hlt]; exact hg
  have HK : Hid (Calls Tryd.prog 25 _ _ _) := As_join c d 0 ⟨w.heap.size, 0, none⟩ (h.below ((Below.refl _ w).alloc (Nat.le_refl _) (.cells #[.int .i64 0] 30))) (by simp) (by simp) hg1
  clear h hg1 hg
  go_enter_defers Tryd.func10, Tryd.ntmps10
  go_wp2_with (go_at_call 25; refine HK.out.mono ?_; rintro e w1 ⟨rfl, hk1, hc1, hf1⟩)
  refine leaves_cons (f := 24) (args := #[.pointer (some ⟨w.heap.size, 0, none⟩)]) (by simp) (by simp [go_sem]) ?_
  refine (code_idle ⟨w.heap.size, 0, none⟩ _).mono ?_
  rintro e u' w'' ⟨rfl, rfl, rfl⟩
  have hB : Below w.heap.size w (w1.setCell ⟨w.heap.size, 0, none⟩ (.int .i64 c)) :=
    (((Below.refl _ w).alloc (Nat.le_refl _) _).trans (hk1.below (B := w.heap.size) (by simp) (fun i e => by omega))).setCell (by simp) _
  have hres : (w1.setCell ⟨w.heap.size, 0, none⟩ (.int .i64 c)).cell? ⟨w.heap.size, 0, none⟩ = some (.int .i64 c) := World.cell?_setCell_same _ _ _ hc1
  simp [Leaves, settle, results, Tryd.results10, go_sem, hres, hB]

set_option maxRecDepth 100000 in
set_option maxHeartbeats 1000000 in
theorem where_join {c d : Int} {b jb r tt : Nat} {s : ByteArray} {w : World} (h : Both w b jb r tt s c d) :
    Calls Tryd.prog 12 #[placeV b] w fun ev w' => ∃ a cap, ev = .returned (.slice a 1 cap) ∧ Below w.heap.size w w' := by
  obtain ⟨i0, hi, hz0, hz1, hz2⟩ := info_parts info9
  have f1 := ta99_99
  have f2 := ta56_99
  have k0 := h.p0
  have k1 := h.p1
  clear h
  go_enter Tryd.func12, Tryd.ntmps12
  go_wp2
  refine wp_loop_rounds 2 ?_
  rw [rounds_succ]
  go_wp2_with (at_builtin; refine wpList_append_own _ rfl _ _ 37 rfl w.heap.size 9 i0 (.string ⟨#[]⟩) 1 16 Tryd.underlying37 hi hz0 hz1 hz2 rfl (by decide) _ 0 _ rfl (World.ownsRow_nil _ _ _ _) ⟨w.heap.size, 0, none⟩ 1 1 [.string s] rfl rfl (cell_one_new _ _ _) ?q1 ?q2 ?q3 ?q4 ?_)
  case q1 => intro y hy; simp at hy; subst hy; rfl
  case q2 => decide
  case q3 => omega
  case q4 => simp
  intro v1 w1 hown1 hg1 hnil1
  have hb1 : Below w.heap.size w w1 := ((Below.refl _ w).alloc (Nat.le_refl _) _).grown hg1 (by simp) (fun k e => by cases e)
  have k11 : w1.cell? ⟨b, 1, none⟩ = some (.iface 56 (.pointer (some ⟨jb, 0, none⟩))) := (hb1.cell (p := ⟨b, 1, none⟩) (World.block_lt_of_cell? w _ k1)).trans k1
  obtain ⟨r1, t1, rfl⟩ : ∃ r t, v1 = .slice (some ⟨r, 0, none⟩) 1 t := by
    obtain ⟨_, ⟨_, x⟩ | ⟨r, t, _, e, _⟩⟩ := hown1
    · cases x
    · exact ⟨r, t, e⟩
  clear hown1 hg1 hnil1 k0 k1
  go_wp2
  rw [rounds_succ]
  go_wp2
  go_ret
  exact ⟨_, _, rfl, hb1⟩
end Go.Proofs.YtmdjjnjhjojimacDoor
