/-
  DERIVED. GIVEN WITH THE SEED: THE CARDS: each row of YtmdjjnjhjojimacDoorRows.lean that lists a variable, with what it lists TIED to the program's text (the seventh form; the later family's looks); each row that meets fmt, with fmt's text TOLD by the authors' own Lean function (tested against real Go, not proved from fmt's source: count such statements apart). THE CARD IS WHAT COUNTS. Prove the row's statement (the work); the ties are given (YtmdjjnjhjojimacDoorTie.lean); close each card by the builder's one call (the guide's Derived/Test/ToyasCard.lean, 'card_holds'). Laid BY PROGRAM, IN A SANDBOX (cutbox-door.mjs). By AI agents, Wed Nov 11 2026. No macro, syntax, notation, axiom, sorry.
-/
import Derived.Test.YtmdjjnjhjojimacDoorRows
import GoSem.ClaimSeven
namespace Go.Proofs.YtmdjjnjhjojimacDoor
namespace Rows

/-- THE TIED CARD OF 'fieldfarelaw1.BinUnlike'. -/
def binUnlikeCard : Claim7 := { stood := { row := binUnlikeRow, standIns := [], harness := (true, "e6b843aa7c4a721f9451870e576bbbaf475a1b348c72b01e3e56701801f77377"), looks := true }, kinds := [], alts := [], laidByText := true, laidKinds := [.handle], laidTests := true, laidLooks := .later }
def BinUnlikeCardSaid : Prop := Claim7.holds Tryd.pinned (.plain (OpenSpec.ofChange binUnlikeSpec)) binUnlikeCard

/-- THE TIED CARD OF 'fieldfarelaw1.FailNone'. -/
def failNoneCard : Claim7 := { stood := { row := failNoneRow, standIns := [], harness := (true, "e6b843aa7c4a721f9451870e576bbbaf475a1b348c72b01e3e56701801f77377"), looks := true }, kinds := [], alts := [], laidByText := true, laidKinds := [.handle], laidTests := true, laidLooks := .later }
def FailNoneCardSaid : Prop := Claim7.holds Tryd.pinned (.plain (OpenSpec.ofChange failNoneSpec)) failNoneCard

/-- THE SECOND FORM's CARD OF 'fieldfarelaw1.BinUnlike'. -/
def binUnlikeUptoCard : Claim7 := { stood := { row := binUnlikeUptoRow, standIns := [], harness := (true, "e6b843aa7c4a721f9451870e576bbbaf475a1b348c72b01e3e56701801f77377"), looks := true }, kinds := [], alts := [], laidByText := true, laidKinds := [.handle], laidTests := true, laidLooks := .later }
def BinUnlikeUptoCardSaid : Prop := Claim7.holds Tryd.pinned (.plain (OpenSpec.upto binUnlikeSpec)) binUnlikeUptoCard

/-- THE SECOND FORM's CARD OF 'fieldfarelaw1.FailNone'. -/
def failNoneUptoCard : Claim7 := { stood := { row := failNoneUptoRow, standIns := [], harness := (true, "e6b843aa7c4a721f9451870e576bbbaf475a1b348c72b01e3e56701801f77377"), looks := true }, kinds := [], alts := [], laidByText := true, laidKinds := [.handle], laidTests := true, laidLooks := .later }
def FailNoneUptoCardSaid : Prop := Claim7.holds Tryd.pinned (.plain (OpenSpec.upto failNoneSpec)) failNoneUptoCard
end Rows
end Go.Proofs.YtmdjjnjhjojimacDoor
