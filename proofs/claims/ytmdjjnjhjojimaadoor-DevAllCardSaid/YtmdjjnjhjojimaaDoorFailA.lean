import Derived.Test.YtmdjjnjhjojimaaDoorDevB
import Derived.LaidEql
import Derived.Stop.Asserts
import Derived.RowKitTokens
namespace Go.Proofs.YtmdjjnjhjojimaaDoor
open Go.RowKit Go.Extern.Stop Go.Stop Go.Extern

/-- An Errno as an error. -/
abbrev errno (n : Int) : Value := .iface 31 (.int .i64 n)
abbrev placeV (b : Nat) : Value := .iface 99 (.pointer (some ⟨b, 0, none⟩))

/-! Closed facts on type assertions. -/
theorem ta31_31 (v : Value) (x : TypeId) (w : World) : (Instr.typeAssert (.iface 31 v) x 31 true).run Tryd.prog w = .ok (.tuple #[v, .bool true]) w := by kernel_rfl
theorem ta99_31 (v : Value) (x : TypeId) (w : World) : (Instr.typeAssert (.iface 99 v) x 31 true).run Tryd.prog w = .ok (.tuple #[.int .i64 0, .bool false]) w := by kernel_rfl
theorem ta99_99 (v : Value) (x : TypeId) (w : World) : (Instr.typeAssert (.iface 99 v) x 99 true).run Tryd.prog w = .ok (.tuple #[v, .bool true]) w := by kernel_rfl
theorem ta31_99 (v : Value) (x : TypeId) (w : World) : (Instr.typeAssert (.iface 31 v) x 99 true).run Tryd.prog w = .ok (.tuple #[.pointer none, .bool false]) w := by kernel_rfl
theorem tanil_99 (x : TypeId) (w : World) : (Instr.typeAssert .nilIface x 99 true).run Tryd.prog w = .ok (.tuple #[.pointer none, .bool false]) w := by kernel_rfl
theorem noAs31 (v : Value) (x : TypeId) (w : World) : (Instr.typeAssert (.iface 31 v) x 133 true).run Tryd.prog w = .ok (.tuple #[.nilIface, .bool false]) w := run_typeAssert_lacksB Tryd.underlying133 (by kernel_rfl) (by kernel_rfl) v x w
theorem noAs99 (v : Value) (x : TypeId) (w : World) : (Instr.typeAssert (.iface 99 v) x 133 true).run Tryd.prog w = .ok (.tuple #[.nilIface, .bool false]) w := run_typeAssert_lacksB Tryd.underlying133 (by kernel_rfl) (by kernel_rfl) v x w
theorem noIs31 (v : Value) (x : TypeId) (w : World) : (Instr.typeAssert (.iface 31 v) x 141 true).run Tryd.prog w = .ok (.tuple #[.nilIface, .bool false]) w := run_typeAssert_lacksB Tryd.underlying141 (by kernel_rfl) (by kernel_rfl) v x w
theorem noIs99 (v : Value) (x : TypeId) (w : World) : (Instr.typeAssert (.iface 99 v) x 141 true).run Tryd.prog w = .ok (.tuple #[.nilIface, .bool false]) w := run_typeAssert_lacksB Tryd.underlying141 (by kernel_rfl) (by kernel_rfl) v x w
theorem noUn31 (v : Value) (x : TypeId) (w : World) : (Instr.typeAssert (.iface 31 v) x 136 true).run Tryd.prog w = .ok (.tuple #[.nilIface, .bool false]) w := run_typeAssert_lacksB Tryd.underlying136 (by kernel_rfl) (by kernel_rfl) v x w
theorem hasUn99 (v : Value) (x : TypeId) (w : World) : (Instr.typeAssert (.iface 99 v) x 136 true).run Tryd.prog w = .ok (.tuple #[.iface 99 v, .bool true]) w := run_typeAssert_hasB Tryd.underlying136 (by kernel_rfl) v x w
theorem noUns31 (v : Value) (x : TypeId) (w : World) : (Instr.typeAssert (.iface 31 v) x 138 true).run Tryd.prog w = .ok (.tuple #[.nilIface, .bool false]) w := run_typeAssert_lacksB Tryd.underlying138 (by kernel_rfl) (by kernel_rfl) v x w

theorem at_nil (s : ByteArray) (w : World) : Calls Tryd.prog 38 #[.string s, .nilIface] w fun e w' => e = .returned .nilIface ∧ w' = w := by
  go_enter Tryd.func38, Tryd.ntmps38
  go_wp2
  go_ret
  exact ⟨rfl, rfl⟩
theorem at_ok (s : ByteArray) (w : World) : Calls Tryd.prog 38 #[.string s, errno 0] w fun e w' => e = .returned .nilIface ∧ w' = w := by
  have hta := ta31_31
  go_enter Tryd.func38, Tryd.ntmps38
  go_wp2
  go_ret
  exact ⟨rfl, rfl⟩
theorem at_errno (s : ByteArray) (n : Int) (w : World) (hn : (n == 0) = false) : Calls Tryd.prog 38 #[.string s, errno n] w fun e w' => e = .returned (placeV w.heap.size) ∧ w' = w.alloc (.cells #[.string s, errno n] 101) := by
  have hta := ta31_31
  go_enter Tryd.func38, Tryd.ntmps38
  go_wp2
  go_ret
  exact ⟨rfl, rfl⟩
theorem at_place (s : ByteArray) (b : Nat) (w : World) : Calls Tryd.prog 38 #[.string s, placeV b] w fun e w' => e = .returned (placeV w.heap.size) ∧ w' = w.alloc (.cells #[.string s, placeV b] 101) := by
  have hta := ta99_31
  go_enter Tryd.func38, Tryd.ntmps38
  go_wp2
  go_ret
  exact ⟨rfl, rfl⟩
theorem unwrap_any (b : Nat) (u : Value) (w : World) (h : w.cell? ⟨b, 1, none⟩ = some u) : Calls Tryd.prog 112 #[.pointer (some ⟨b, 0, none⟩)] w fun e w' => e = .returned u ∧ w' = w := by
  go_enter Tryd.func112, Tryd.ntmps112
  go_wp2
  go_ret
  exact ⟨rfl, rfl⟩
end Go.Proofs.YtmdjjnjhjojimaaDoor
