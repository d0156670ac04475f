import Derived.Test.YtmdjjnjhjojimaaDoorFailB
import Derived.Deep.LoopGhost
namespace Go.Proofs.YtmdjjnjhjojimaaDoor
open Go.RowKit Go.Extern.Stop Go.Stop Go.Extern

/-- Places one in another, a number at the bottom. -/
def Chain (w : World) (n : Int) : List ByteArray → Value → Prop
  | [], v => v = errno n
  | s :: r, v => ∃ b u, v = placeV b ∧ w.cell? ⟨b, 0, none⟩ = some (.string s) ∧ w.cell? ⟨b, 1, none⟩ = some u ∧ Chain w n r u
theorem Chain.keeps {S : Nat → Prop} {w w' : World} {n : Int} (hk : Keeps S w w') (hS : ∀ b, b < w.heap.size → ¬ S b) : ∀ {ws : List ByteArray} {v : Value}, Chain w n ws v → Chain w' n ws v
  | [], _, h => h
  | s :: r, v, ⟨b, u, e, h0, h1, h2⟩ => by
    have hb := World.block_lt_of_cell? w _ h0
    exact ⟨b, u, e, (hk.cell (p := ⟨b, 0, none⟩) hb (hS b hb)).trans h0, (hk.cell (p := ⟨b, 1, none⟩) hb (hS b hb)).trans h1, Chain.keeps hk hS h2⟩

theorem Chain.shape {w : World} {n : Int} : ∀ {ws : List ByteArray} {v : Value}, Chain w n ws v → ∃ T x, v = .iface T x
  | [], _, h => ⟨31, .int .i64 n, h⟩
  | _ :: _, _, ⟨b, _, e, _⟩ => ⟨99, .pointer (some ⟨b, 0, none⟩), e⟩

set_option maxRecDepth 100000 in
set_option maxHeartbeats 1000000 in
theorem as_chain (n old : Int) (t va : Addr) (ws : List ByteArray) (v : Value) (w : World) (hc : Chain w n ws v) (ht0 : w.cell? t = some (.int .i64 old)) (hf0 : w.frozen? t = false) (hv0 : w.cell? va = some (.pointer (some t))) :
    Calls Tryd.prog 67 #[v, .iface 103 (.pointer (some t)), .agg #[.pointer (some ⟨1, 103, none⟩), .pointer (some va), .int .u64 150], .iface 129 (.agg #[.pointer (some ⟨1, 31, none⟩)])] w fun ev w' => ev = .returned (.bool true) ∧
      w' = ((w.alloc (.cells #[.pointer (some ⟨1, 103, none⟩), .pointer (some va), .int .u64 150] 112)).alloc (.cells #[.int .i64 n] 31)).setCell t (.int .i64 n) := by
  have h68 := @run_callFunc_extern Tryd.prog 68 _ ReflectliteType.typeOf Tryd.func68 (by kernel_rfl) (by kernel_rfl) (by kernel_rfl) (by kernel_rfl)
  have h117 := @run_callFunc_extern Tryd.prog 117 _ (ReflectliteType.relation "AssignableTo" ReflectliteType.assignableTo) Tryd.func117 (by kernel_rfl) (by kernel_rfl) (by kernel_rfl) (by kernel_rfl)
  have h74 := @run_callFunc_extern Tryd.prog 74 _ (ReflectliteValue.method (ReflectliteValue.valueError "reflectlite.Value.Elem" 0) ReflectliteValue.elem) Tryd.func74 (by kernel_rfl) (by kernel_rfl) (by kernel_rfl) (by kernel_rfl)
  have h64 := @run_callFunc_extern Tryd.prog 64 _ (fun args => ReflectliteValue.unpack (args.getD 0 (.tuple #[]))) Tryd.func64 (by kernel_rfl) (by kernel_rfl) (by kernel_rfl) (by kernel_rfl)
  have h75 := @run_callFunc_extern Tryd.prog 75 _ ReflectliteValue.set Tryd.func75 (by kernel_rfl) (by kernel_rfl) (by kernel_rfl) (by kernel_rfl)
  have f1 := typeOf31
  have f2 := typeOf99
  have f3 := mAssi
  have f4 := assi31
  have f5 := assi99
  have f6 := valueOf31
  have f7 := mUnwrap
  have f8 := noAs99
  have f9 := hasUn99
  have htl : t.block < w.heap.size := World.block_lt_of_cell? w _ ht0
  have hvl : va.block < w.heap.size := World.block_lt_of_cell? w _ hv0
  have el := elemV103 va t (w.alloc (.cells #[.pointer (some ⟨1, 103, none⟩), .pointer (some va), .int .u64 150] 112)) (by rw [World.cell?_alloc_lt _ _ va hvl]; exact hv0)
  have st := set31 t ⟨w.heap.size + 1, 0, none⟩ n (.int .i64 old) ((w.alloc (.cells #[.pointer (some ⟨1, 103, none⟩), .pointer (some va), .int .u64 150] 112)).alloc (.cells #[.int .i64 n] 31))
    (by rw [World.cell?_alloc_at _ _ _ _ (by simp)]; rfl)
    (by rw [World.cell?_alloc_lt _ _ t (by simp; omega), World.cell?_alloc_lt _ _ t htl]; exact ht0)
    (by rw [World.frozen?_alloc_old _ _ t (by simp; omega), World.frozen?_alloc_old _ _ t (Nat.ne_of_lt htl)]; exact hf0)
  have hch : Chain (w.alloc (.cells #[.pointer (some ⟨1, 103, none⟩), .pointer (some va), .int .u64 150] 112)) n ws v := Chain.keeps ((Keeps.refl (fun _ => False) w).alloc _) (fun _ _ e => e) hc
  go_enter Tryd.func67, Tryd.ntmps67
  go_wp2
  go_loopg [0] ws.length (fun k p wr => (w.alloc (.cells #[.pointer (some ⟨1, 103, none⟩), .pointer (some va), .int .u64 150] 112)) = wr ∧ ∃ r : List ByteArray, r.length = k ∧ Chain wr n r p)
  case atStart => exact ⟨rfl, ws, rfl, hch⟩
  case round =>
    obtain ⟨rfl, r, hrl, hcr⟩ := hrel
    cases r with
    | nil =>
      have hcr' : _ = errno n := hcr
      subst hcr'
      go_wp2
      go_ret
      exact ⟨rfl, rfl⟩
    | cons s r' =>
      obtain ⟨b, u, rfl, d0, d1, d2⟩ := hcr
      obtain ⟨T, x, rfl⟩ := d2.shape
      have A : Aside (r'.length + 1 = gk ∧ Chain (w.alloc (.cells #[.pointer (some ⟨1, 103, none⟩), .pointer (some va), .int .u64 150] 112)) n r' (.iface T x)) := ⟨hrl, d2⟩
      clear hrl d2
      go_wp2
      go_roundg r'.length
      case measure => obtain ⟨a1, a2⟩ := A.out; omega
      case rel => exact ⟨rfl, r', rfl, A.out.2⟩
end Go.Proofs.YtmdjjnjhjojimaaDoor
