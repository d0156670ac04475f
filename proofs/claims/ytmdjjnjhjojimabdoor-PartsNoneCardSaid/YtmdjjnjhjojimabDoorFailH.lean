import Derived.Test.YtmdjjnjhjojimabDoorFailG
namespace Go.Proofs.YtmdjjnjhjojimabDoor
open Go.RowKit

theorem where_nil (w : World) : Calls Tryd.prog 27 #[.nilIface] w fun ev w' => ev = .returned (.slice none 0 0) ∧ w' = w := by
  have f1 := tanil_99
  go_enter Tryd.func27, Tryd.ntmps27
  go_wp2
  refine wp_loop_rounds 1 ?_
  rw [rounds_succ]
  go_wp2
  go_ret
  exact ⟨rfl, rfl⟩
end Go.Proofs.YtmdjjnjhjojimabDoor
