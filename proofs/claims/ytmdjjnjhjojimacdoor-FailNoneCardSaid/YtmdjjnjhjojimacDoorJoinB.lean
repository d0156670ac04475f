import Derived.Test.YtmdjjnjhjojimacDoorFailD
import Derived.Test.YtmdjjnjhjojimacDoorJoinA
namespace Go.Proofs.YtmdjjnjhjojimacDoor
open Go.RowKit Go.Extern.Stop Go.Stop Go.Extern

theorem typeOf56 (v : Value) (w : World) : (ReflectliteType.typeOf #[.iface 56 v]).run Tryd.prog w = .ok (.iface 108 (.agg #[.pointer (some ⟨1, 56, none⟩)])) w := by kernel_rfl
theorem assi56 (w : World) : (ReflectliteType.relation "AssignableTo" ReflectliteType.assignableTo #[.agg #[.pointer (some ⟨1, 56, none⟩)], .iface 108 (.agg #[.pointer (some ⟨1, 30, none⟩)])]).run Tryd.prog w = .ok (.bool false) w := by kernel_rfl
theorem hasUns56 (v : Value) (x : TypeId) (w : World) : (Instr.typeAssert (.iface 56 v) x 117 true).run Tryd.prog w = .ok (.tuple #[.iface 56 v, .bool true]) w := run_typeAssert_hasB Tryd.underlying117 (by kernel_rfl) v x w
theorem mUnwraps (a : Addr) (w : World) : (Go.method 275 56 (.pointer (some a)) "Unwrap").run Tryd.prog w = .ok (93, .pointer (some a)) w := by kernel_rfl
theorem unwraps_any (b : Nat) (r t : Nat) (w : World) (c0 : w.cell? ⟨b, 0, none⟩ = some (.slice (some ⟨r, 0, none⟩) 2 t)) : Calls Tryd.prog 93 #[.pointer (some ⟨b, 0, none⟩)] w fun e w' => e = .returned (.slice (some ⟨r, 0, none⟩) 2 t) ∧ w' = w := by
  go_enter Tryd.func93, Tryd.ntmps93
  go_wp2
  go_ret
  exact ⟨rfl, rfl⟩
end Go.Proofs.YtmdjjnjhjojimacDoor
