import Derived.Test.YteaacodloabdcaaGreatDoorProg
import Derived.Deep.QuietTactic
import Derived.BigQuiet
namespace Go.Proofs.YteaacodloabdcaaGreatDoor
open Go

/-- A world of a class. -/
structure InW (S : World → Prop) where
  W : World
  h : S W
/-- A region that draws its order, whose operations read and whose callees leave a world of the class and answer one value: walked once. -/
theorem wp_region_in {S : World → Prop} {P : Program} {id : Nat} {Q : Exit → Act → World → Prop} {a : Act} {w : World} {l : List Oper} (h0 : S w.drew) (hm : P.follows .mixedOrders = true) (hB : Region.lexB .any l.toArray = true)
    (h : wpQuiet P l.toArray (fun w' => ∃ V : InW S, w' = V.W) (fun a' => ∀ w', (∃ V : InW S, w' = V.W) → Q .normal a' w') l a) : (Code.region id l.toArray true).wp P Q a w :=
  wp_region_quiet (C := fun w' => ∃ V : InW S, w' = V.W) hm hB ⟨⟨w.drew, h0⟩, rfl⟩ (by simpa using h)
theorem in_of {S : World → Prop} {P : Program} {f : FuncId} {args : Array Value} {w : World} {v : Value} (h : Calls P f args w fun e w' => e = .returned v ∧ S w') : Calls P f args w fun e w'' => e = .returned v ∧ ∃ V : InW S, w'' = V.W :=
  h.mono fun _ _ ⟨he, hs⟩ => ⟨he, ⟨_, hs⟩, rfl⟩
end Go.Proofs.YteaacodloabdcaaGreatDoor
