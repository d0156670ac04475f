/-
  DERIVED. GIVEN WITH THE SEED: THE CARDS: each row of YtmdjjnjhjojimabDoorRows.lean that lists a variable, with what it lists TIED to the program's text (the seventh form; the later family's looks); each row that meets fmt, with fmt's text TOLD by the authors' own Lean function (tested against real Go, not proved from fmt's source: count such statements apart). THE CARD IS WHAT COUNTS. Prove the row's statement (the work); the ties are given (YtmdjjnjhjojimabDoorTie.lean); close each card by the builder's one call (the guide's Derived/Test/ToyasCard.lean, 'card_holds'). Laid BY PROGRAM, IN A SANDBOX (cutbox-door.mjs). By AI agents, Wed Nov 11 2026. No macro, syntax, notation, axiom, sorry.
-/
import Derived.Test.YtmdjjnjhjojimabDoorRows
import GoSem.ClaimSeven
namespace Go.Proofs.YtmdjjnjhjojimabDoor
namespace Rows

/-- THE TIED CARD OF 'fieldfarelaw1.PartsNone'. -/
def partsNoneCard : Claim7 := { stood := { row := partsNoneRow, standIns := [], harness := (true, "2c8f9deaa7738d28066c4a3b63ef7031d3ff7fd3a3d3e232c949dc3411de0b0c"), looks := true }, kinds := [], alts := [], laidByText := true, laidKinds := [.handle], laidTests := true, laidLooks := .later }
def PartsNoneCardSaid : Prop := Claim7.holds Tryd.pinned (.plain (OpenSpec.ofChange partsNoneSpec)) partsNoneCard

/-- THE TIED CARD OF 'fieldfarelaw1.DevLoose'. -/
def devLooseCard : Claim7 := { stood := { row := devLooseRow, standIns := [], harness := (true, "2c8f9deaa7738d28066c4a3b63ef7031d3ff7fd3a3d3e232c949dc3411de0b0c"), looks := true }, kinds := [], alts := [], laidByText := true, laidKinds := [.handle], laidTests := true, laidLooks := .later }
def DevLooseCardSaid : Prop := Claim7.holds Tryd.pinned (.plain (OpenSpec.ofChange devLooseSpec)) devLooseCard

/-- THE TIED CARD OF 'fieldfarelaw1.DevBad'. -/
def devBadCard : Claim7 := { stood := { row := devBadRow, standIns := [], harness := (true, "2c8f9deaa7738d28066c4a3b63ef7031d3ff7fd3a3d3e232c949dc3411de0b0c"), looks := true }, kinds := [], alts := [], laidByText := true, laidKinds := [.handle], laidTests := true, laidLooks := .later }
def DevBadCardSaid : Prop := Claim7.holds Tryd.pinned (.plain (OpenSpec.ofChange devBadSpec)) devBadCard

/-- THE TIED CARD OF 'fieldfarelaw1.DevAgain'. -/
def devAgainCard : Claim7 := { stood := { row := devAgainRow, standIns := [], harness := (true, "2c8f9deaa7738d28066c4a3b63ef7031d3ff7fd3a3d3e232c949dc3411de0b0c"), looks := true }, kinds := [], alts := [], laidByText := true, laidKinds := [.handle], laidTests := true, laidLooks := .later }
def DevAgainCardSaid : Prop := Claim7.holds Tryd.pinned (.plain (OpenSpec.ofChange devAgainSpec)) devAgainCard

/-- THE TIED CARD OF 'fieldfarelaw1.BinCut'. -/
def binCutCard : Claim7 := { stood := { row := binCutRow, standIns := [], harness := (true, "2c8f9deaa7738d28066c4a3b63ef7031d3ff7fd3a3d3e232c949dc3411de0b0c"), looks := true }, kinds := [], alts := [], laidByText := true, laidKinds := [.handle], laidTests := true, laidLooks := .later }
def BinCutCardSaid : Prop := Claim7.holds Tryd.pinned (.plain (OpenSpec.ofChange binCutSpec)) binCutCard

/-- THE TIED CARD OF 'fieldfarelaw1.BinText'. -/
def binTextCard : Claim7 := { stood := { row := binTextRow, standIns := [], harness := (true, "2c8f9deaa7738d28066c4a3b63ef7031d3ff7fd3a3d3e232c949dc3411de0b0c"), looks := true }, kinds := [], alts := [], laidByText := true, laidKinds := [.handle], laidTests := true, laidLooks := .later }
def BinTextCardSaid : Prop := Claim7.holds Tryd.pinned (.plain (OpenSpec.ofChange binTextSpec)) binTextCard

/-- THE SECOND FORM's CARD OF 'fieldfarelaw1.PartsNone'. -/
def partsNoneUptoCard : Claim7 := { stood := { row := partsNoneUptoRow, standIns := [], harness := (true, "2c8f9deaa7738d28066c4a3b63ef7031d3ff7fd3a3d3e232c949dc3411de0b0c"), looks := true }, kinds := [], alts := [], laidByText := true, laidKinds := [.handle], laidTests := true, laidLooks := .later }
def PartsNoneUptoCardSaid : Prop := Claim7.holds Tryd.pinned (.plain (OpenSpec.upto partsNoneSpec)) partsNoneUptoCard

/-- THE SECOND FORM's CARD OF 'fieldfarelaw1.DevLoose'. -/
def devLooseUptoCard : Claim7 := { stood := { row := devLooseUptoRow, standIns := [], harness := (true, "2c8f9deaa7738d28066c4a3b63ef7031d3ff7fd3a3d3e232c949dc3411de0b0c"), looks := true }, kinds := [], alts := [], laidByText := true, laidKinds := [.handle], laidTests := true, laidLooks := .later }
def DevLooseUptoCardSaid : Prop := Claim7.holds Tryd.pinned (.plain (OpenSpec.upto devLooseSpec)) devLooseUptoCard

/-- THE SECOND FORM's CARD OF 'fieldfarelaw1.DevBad'. -/
def devBadUptoCard : Claim7 := { stood := { row := devBadUptoRow, standIns := [], harness := (true, "2c8f9deaa7738d28066c4a3b63ef7031d3ff7fd3a3d3e232c949dc3411de0b0c"), looks := true }, kinds := [], alts := [], laidByText := true, laidKinds := [.handle], laidTests := true, laidLooks := .later }
def DevBadUptoCardSaid : Prop := Claim7.holds Tryd.pinned (.plain (OpenSpec.upto devBadSpec)) devBadUptoCard

/-- THE SECOND FORM's CARD OF 'fieldfarelaw1.DevAgain'. -/
def devAgainUptoCard : Claim7 := { stood := { row := devAgainUptoRow, standIns := [], harness := (true, "2c8f9deaa7738d28066c4a3b63ef7031d3ff7fd3a3d3e232c949dc3411de0b0c"), looks := true }, kinds := [], alts := [], laidByText := true, laidKinds := [.handle], laidTests := true, laidLooks := .later }
def DevAgainUptoCardSaid : Prop := Claim7.holds Tryd.pinned (.plain (OpenSpec.upto devAgainSpec)) devAgainUptoCard

/-- THE SECOND FORM's CARD OF 'fieldfarelaw1.BinCut'. -/
def binCutUptoCard : Claim7 := { stood := { row := binCutUptoRow, standIns := [], harness := (true, "2c8f9deaa7738d28066c4a3b63ef7031d3ff7fd3a3d3e232c949dc3411de0b0c"), looks := true }, kinds := [], alts := [], laidByText := true, laidKinds := [.handle], laidTests := true, laidLooks := .later }
def BinCutUptoCardSaid : Prop := Claim7.holds Tryd.pinned (.plain (OpenSpec.upto binCutSpec)) binCutUptoCard

/-- THE SECOND FORM's CARD OF 'fieldfarelaw1.BinText'. -/
def binTextUptoCard : Claim7 := { stood := { row := binTextUptoRow, standIns := [], harness := (true, "2c8f9deaa7738d28066c4a3b63ef7031d3ff7fd3a3d3e232c949dc3411de0b0c"), looks := true }, kinds := [], alts := [], laidByText := true, laidKinds := [.handle], laidTests := true, laidLooks := .later }
def BinTextUptoCardSaid : Prop := Claim7.holds Tryd.pinned (.plain (OpenSpec.upto binTextSpec)) binTextUptoCard
end Rows
end Go.Proofs.YtmdjjnjhjojimabDoor
