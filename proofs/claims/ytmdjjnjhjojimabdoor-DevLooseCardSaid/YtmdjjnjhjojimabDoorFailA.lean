import Derived.Test.YtmdjjnjhjojimabDoorDevB
import Derived.LaidEql
import Derived.Stop.Asserts
import Derived.RowKitTokens
namespace Go.Proofs.YtmdjjnjhjojimabDoor
open Go.RowKit Go.Extern.Stop Go.Stop Go.Extern

/-- An Errno as an error. -/
abbrev errno (n : Int) : Value := .iface 26 (.int .i64 n)
abbrev placeV (b : Nat) : Value := .iface 87 (.pointer (some ⟨b, 0, none⟩))

/-! Closed facts on type assertions. -/
theorem ta31_31 (v : Value) (x : TypeId) (w : World) : (Instr.typeAssert (.iface 26 v) x 26 true).run Tryd.prog w = .ok (.tuple #[v, .bool true]) w := by kernel_rfl
theorem ta99_31 (v : Value) (x : TypeId) (w : World) : (Instr.typeAssert (.iface 87 v) x 26 true).run Tryd.prog w = .ok (.tuple #[.int .i64 0, .bool false]) w := by kernel_rfl
theorem ta99_99 (v : Value) (x : TypeId) (w : World) : (Instr.typeAssert (.iface 87 v) x 87 true).run Tryd.prog w = .ok (.tuple #[v, .bool true]) w := by kernel_rfl
theorem ta31_99 (v : Value) (x : TypeId) (w : World) : (Instr.typeAssert (.iface 26 v) x 87 true).run Tryd.prog w = .ok (.tuple #[.pointer none, .bool false]) w := by kernel_rfl
theorem tanil_99 (x : TypeId) (w : World) : (Instr.typeAssert .nilIface x 87 true).run Tryd.prog w = .ok (.tuple #[.pointer none, .bool false]) w := by kernel_rfl
theorem noAs31 (v : Value) (x : TypeId) (w : World) : (Instr.typeAssert (.iface 26 v) x 122 true).run Tryd.prog w = .ok (.tuple #[.nilIface, .bool false]) w := run_typeAssert_lacksB Tryd.underlying122 (by kernel_rfl) (by kernel_rfl) v x w
theorem noAs99 (v : Value) (x : TypeId) (w : World) : (Instr.typeAssert (.iface 87 v) x 122 true).run Tryd.prog w = .ok (.tuple #[.nilIface, .bool false]) w := run_typeAssert_lacksB Tryd.underlying122 (by kernel_rfl) (by kernel_rfl) v x w
theorem noIs31 (v : Value) (x : TypeId) (w : World) : (Instr.typeAssert (.iface 26 v) x 130 true).run Tryd.prog w = .ok (.tuple #[.nilIface, .bool false]) w := run_typeAssert_lacksB Tryd.underlying130 (by kernel_rfl) (by kernel_rfl) v x w
theorem noIs99 (v : Value) (x : TypeId) (w : World) : (Instr.typeAssert (.iface 87 v) x 130 true).run Tryd.prog w = .ok (.tuple #[.nilIface, .bool false]) w := run_typeAssert_lacksB Tryd.underlying130 (by kernel_rfl) (by kernel_rfl) v x w
theorem noUn31 (v : Value) (x : TypeId) (w : World) : (Instr.typeAssert (.iface 26 v) x 125 true).run Tryd.prog w = .ok (.tuple #[.nilIface, .bool false]) w := run_typeAssert_lacksB Tryd.underlying125 (by kernel_rfl) (by kernel_rfl) v x w
theorem hasUn99 (v : Value) (x : TypeId) (w : World) : (Instr.typeAssert (.iface 87 v) x 125 true).run Tryd.prog w = .ok (.tuple #[.iface 87 v, .bool true]) w := run_typeAssert_hasB Tryd.underlying125 (by kernel_rfl) v x w
theorem noUns31 (v : Value) (x : TypeId) (w : World) : (Instr.typeAssert (.iface 26 v) x 127 true).run Tryd.prog w = .ok (.tuple #[.nilIface, .bool false]) w := run_typeAssert_lacksB Tryd.underlying127 (by kernel_rfl) (by kernel_rfl) v x w

theorem at_nil (s : ByteArray) (w : World) : Calls Tryd.prog 25 #[.string s, .nilIface] w fun e w' => e = .returned .nilIface ∧ w' = w := by
  go_enter Tryd.func25, Tryd.ntmps25
  go_wp2
  go_ret
  exact ⟨rfl, rfl⟩
theorem at_ok (s : ByteArray) (w : World) : Calls Tryd.prog 25 #[.string s, errno 0] w fun e w' => e = .returned .nilIface ∧ w' = w := by
  have hta := ta31_31
  go_enter Tryd.func25, Tryd.ntmps25
  go_wp2
  go_ret
  exact ⟨rfl, rfl⟩
theorem at_errno (s : ByteArray) (n : Int) (w : World) (hn : (n == 0) = false) : Calls Tryd.prog 25 #[.string s, errno n] w fun e w' => e = .returned (placeV w.heap.size) ∧ w' = w.alloc (.cells #[.string s, errno n] 89) := by
  have hta := ta31_31
  go_enter Tryd.func25, Tryd.ntmps25
  go_wp2
  go_ret
  exact ⟨rfl, rfl⟩
theorem at_place (s : ByteArray) (b : Nat) (w : World) : Calls Tryd.prog 25 #[.string s, placeV b] w fun e w' => e = .returned (placeV w.heap.size) ∧ w' = w.alloc (.cells #[.string s, placeV b] 89) := by
  have hta := ta99_31
  go_enter Tryd.func25, Tryd.ntmps25
  go_wp2
  go_ret
  exact ⟨rfl, rfl⟩
theorem unwrap_any (b : Nat) (u : Value) (w : World) (h : w.cell? ⟨b, 1, none⟩ = some u) : Calls Tryd.prog 102 #[.pointer (some ⟨b, 0, none⟩)] w fun e w' => e = .returned u ∧ w' = w := by
  go_enter Tryd.func102, Tryd.ntmps102
  go_wp2
  go_ret
  exact ⟨rfl, rfl⟩
end Go.Proofs.YtmdjjnjhjojimabDoor
