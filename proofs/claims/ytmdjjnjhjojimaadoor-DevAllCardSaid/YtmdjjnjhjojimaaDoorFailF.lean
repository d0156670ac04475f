import Derived.Test.YtmdjjnjhjojimaaDoorFailD
import Derived.Test.YtmdjjnjhjojimaaDoorFailE
import Derived.Recover
namespace Go.Proofs.YtmdjjnjhjojimaaDoor
open Go.RowKit Go.Extern.Stop Go.Stop Go.Extern

/-- The deferred functions, where nothing panics: they change nothing. -/
theorem code_idle (p : Addr) (w : World) :
    CallsD Tryd.prog 55 #[.pointer (some p)] .returning w fun e u' w' => e = .returned (.tuple #[]) ∧ u' = .returning ∧ w' = w := by
  refine callsD_of_wpS Tryd.func55 rfl fun c₀ cs hu => ?_
  apply wpS_seq
  apply wpS_region
  simp [wpOpsS, go_sem, recoverD, hu, Tryd.ntmps55, Exit.thenS]
  refine wpS_cond (t := false) (by simp [Act.eval, Array.replicate]) ?_
  simp only [Bool.false_eq_true, if_false]
  refine wpS_of_wp (wp_skip ?_)
  cases c₀
  simp_all [bodyPostS, results, Tryd.results55]
theorem is_idle (p : Addr) (w : World) :
    CallsD Tryd.prog 57 #[.pointer (some p)] .returning w fun e u' w' => e = .returned (.tuple #[]) ∧ u' = .returning ∧ w' = w := by
  refine callsD_of_wpS Tryd.func57 rfl fun c₀ cs hu => ?_
  apply wpS_seq
  apply wpS_region
  simp [wpOpsS, go_sem, recoverD, hu, Tryd.ntmps57, Exit.thenS]
  refine wpS_cond (t := false) (by simp [Act.eval, Array.replicate]) ?_
  simp only [Bool.false_eq_true, if_false]
  refine wpS_of_wp (wp_skip ?_)
  cases c₀
  simp_all [bodyPostS, results, Tryd.results57]

set_option maxRecDepth 100000 in
set_option maxHeartbeats 1000000 in
theorem code_chain (n : Int) (ws : List ByteArray) (T : TypeId) (x : Value) (w : World) (hc : Chain w n ws (.iface T x)) (hg : w.cell? ⟨0, 0, none⟩ = some errType) :
    Calls Tryd.prog 39 #[.iface T x] w fun ev w' => ev = .returned (.int .i64 n) ∧ Below w.heap.size w w' := by
  have hmf : ∀ (fn : Fn) (first cap : Array Value) (w : World), (Instr.makeFunc fn first cap).run Tryd.prog w = .ok (.func fn first cap) w := fun _ _ _ _ => rfl
  have hlt : 0 < w.heap.size := World.block_lt_of_cell? w _ hg
  have hch : Chain (w.alloc (.cells #[.int .i64 0] 31)) n ws (.iface T x) := Chain.keeps ((Keeps.refl (fun _ => False) w).alloc _) (fun _ _ e => e) hc
  have hg1 : (w.alloc (.cells #[.int .i64 0] 31)).cell? ⟨0, 0, none⟩ = some errType := by rw [World.cell?_alloc_lt _ _ ⟨0, 0, none⟩ hlt]; exact hg
  have HK : Hid (Calls Tryd.prog 56 _ _ _) := As_chain n 0 ⟨w.heap.size, 0, none⟩ ws T x (w.alloc (.cells #[.int .i64 0] 31)) hch (by simp) (by simp) hg1
  clear hch hc hg1 hg
  go_enter_defers Tryd.func39, Tryd.ntmps39
  go_wp2_with (go_at_call 56; refine HK.out.mono ?_; rintro e w1 ⟨rfl, hk1, hc1, hf1⟩)
  refine leaves_cons (f := 55) (args := #[.pointer (some ⟨w.heap.size, 0, none⟩)]) (by simp) (by simp [go_sem]) ?_
  refine (code_idle ⟨w.heap.size, 0, none⟩ _).mono ?_
  rintro e u' w'' ⟨rfl, rfl, rfl⟩
  have hB : Below w.heap.size w (w1.setCell ⟨w.heap.size, 0, none⟩ (.int .i64 n)) :=
    (((Below.refl _ w).alloc (Nat.le_refl _) _).trans (hk1.below (B := w.heap.size) (by simp) (fun i e => by omega))).setCell (by simp) _
  have hres : (w1.setCell ⟨w.heap.size, 0, none⟩ (.int .i64 n)).cell? ⟨w.heap.size, 0, none⟩ = some (.int .i64 n) := World.cell?_setCell_same _ _ _ hc1
  simp [Leaves, settle, results, Tryd.results39, go_sem, hres, hB]

theorem code_nil (w : World) : Calls Tryd.prog 39 #[.nilIface] w fun ev w' => ev = .returned (.int .i64 0) ∧ Below w.heap.size w w' := by
  have hmf : ∀ (fn : Fn) (first cap : Array Value) (w : World), (Instr.makeFunc fn first cap).run Tryd.prog w = .ok (.func fn first cap) w := fun _ _ _ _ => rfl
  go_enter_defers Tryd.func39, Tryd.ntmps39
  go_wp2
  have hB : Below w.heap.size w (w.alloc (.cells #[.int .i64 0] 31)) := (Below.refl _ w).alloc (Nat.le_refl _) _
  simp [bodyPostD, Leaves, results, Tryd.results39, go_sem, hB]

set_option maxRecDepth 100000 in
set_option maxHeartbeats 1000000 in
theorem fis_chain (n m : Int) (ws : List ByteArray) (T : TypeId) (x : Value) (w : World) (hc : Chain w n ws (.iface T x)) (hm : (m == 0) = false) :
    Calls Tryd.prog 41 #[.iface T x, .int .i64 m] w fun ev w' => ev = .returned (.bool (n == m)) ∧ Below w.heap.size w w' := by
  have hmf : ∀ (fn : Fn) (first cap : Array Value) (w : World), (Instr.makeFunc fn first cap).run Tryd.prog w = .ok (.func fn first cap) w := fun _ _ _ _ => rfl
  have hch : Chain (w.alloc (.cells #[.bool false] 4)) n ws (.iface T x) := Chain.keeps ((Keeps.refl (fun _ => False) w).alloc _) (fun _ _ e => e) hc
  have HK : Hid (Calls Tryd.prog 58 _ _ _) := Is_chain n m ws T x (w.alloc (.cells #[.bool false] 4)) hch
  clear hch hc
  go_enter_defers Tryd.func41, Tryd.ntmps41
  go_wp2_with (go_at_call 58; refine HK.out.mono ?_; rintro e w1 ⟨rfl, rfl⟩)
  refine leaves_cons (f := 57) (args := #[.pointer (some ⟨w.heap.size, 0, none⟩)]) (by simp) (by simp [go_sem]) ?_
  refine (is_idle ⟨w.heap.size, 0, none⟩ _).mono ?_
  rintro e u' w'' ⟨rfl, rfl, rfl⟩
  have hB : Below w.heap.size w (w.alloc (.cells #[.bool (n == m)] 4)) := (Below.refl _ w).alloc (Nat.le_refl _) _
  simp [Leaves, settle, results, Tryd.results41, go_sem, hB]

theorem fis_ok (T : TypeId) (x : Value) (w : World) : Calls Tryd.prog 41 #[.iface T x, .int .i64 0] w fun ev w' => ev = .returned (.bool false) ∧ Below w.heap.size w w' := by
  have hmf : ∀ (fn : Fn) (first cap : Array Value) (w : World), (Instr.makeFunc fn first cap).run Tryd.prog w = .ok (.func fn first cap) w := fun _ _ _ _ => rfl
  go_enter_defers Tryd.func41, Tryd.ntmps41
  go_wp2
  have hB : Below w.heap.size w (w.alloc (.cells #[.bool false] 4)) := (Below.refl _ w).alloc (Nat.le_refl _) _
  simp [bodyPostD, Leaves, results, Tryd.results41, go_sem, hB]
theorem fis_nil (w : World) : Calls Tryd.prog 41 #[.nilIface, .int .i64 0] w fun ev w' => ev = .returned (.bool true) ∧ Below w.heap.size w w' := by
  have hmf : ∀ (fn : Fn) (first cap : Array Value) (w : World), (Instr.makeFunc fn first cap).run Tryd.prog w = .ok (.func fn first cap) w := fun _ _ _ _ => rfl
  go_enter_defers Tryd.func41, Tryd.ntmps41
  go_wp2
  have hB : Below w.heap.size w (w.alloc (.cells #[.bool true] 4)) := (Below.refl _ w).alloc (Nat.le_refl _) _
  simp [bodyPostD, Leaves, results, Tryd.results41, go_sem, hB]
end Go.Proofs.YtmdjjnjhjojimaaDoor
