/-
  DERIVED. GIVEN WITH THE SEED: THE CARDS: each row of YtmdjjnjhjojimaaDoorRows.lean that lists a variable, with what it lists TIED to the program's text (the seventh form; the later family's looks); each row that meets fmt, with fmt's text TOLD by the authors' own Lean function (tested against real Go, not proved from fmt's source: count such statements apart). THE CARD IS WHAT COUNTS. Prove the row's statement (the work); the ties are given (YtmdjjnjhjojimaaDoorTie.lean); close each card by the builder's one call (the guide's Derived/Test/ToyasCard.lean, 'card_holds'). Laid BY PROGRAM, IN A SANDBOX (cutbox-door.mjs). By AI agents, Wed Nov 11 2026. No macro, syntax, notation, axiom, sorry.
-/
import Derived.Test.YtmdjjnjhjojimaaDoorRows
import GoSem.ClaimSeven
namespace Go.Proofs.YtmdjjnjhjojimaaDoor
namespace Rows

/-- THE TIED CARD OF 'fieldfarelaw1.DevAll'. -/
def devAllCard : Claim7 := { stood := { row := devAllRow, standIns := [], harness := (true, "e0f4ae2f81960756713bd8f2886f18c5087cbb3d66e642d6c2b00961d8c0c7b5"), looks := true }, kinds := [], alts := [], laidByText := true, laidKinds := [.handle], laidTests := true, laidLooks := .later }
def DevAllCardSaid : Prop := Claim7.holds Tryd.pinned (.plain (OpenSpec.ofChange devAllSpec)) devAllCard

/-- THE TIED CARD OF 'fieldfarelaw1.DevFuse'. -/
def devFuseCard : Claim7 := { stood := { row := devFuseRow, standIns := [], harness := (true, "e0f4ae2f81960756713bd8f2886f18c5087cbb3d66e642d6c2b00961d8c0c7b5"), looks := true }, kinds := [], alts := [], laidByText := true, laidKinds := [.handle], laidTests := true, laidLooks := .later }
def DevFuseCardSaid : Prop := Claim7.holds Tryd.pinned (.plain (OpenSpec.ofChange devFuseSpec)) devFuseCard

/-- THE TIED CARD OF 'fieldfarelaw1.DevOwn'. -/
def devOwnCard : Claim7 := { stood := { row := devOwnRow, standIns := [], harness := (true, "e0f4ae2f81960756713bd8f2886f18c5087cbb3d66e642d6c2b00961d8c0c7b5"), looks := true }, kinds := [], alts := [], laidByText := true, laidKinds := [.handle], laidTests := true, laidLooks := .later }
def DevOwnCardSaid : Prop := Claim7.holds Tryd.pinned (.plain (OpenSpec.ofChange devOwnSpec)) devOwnCard

/-- THE TIED CARD OF 'fieldfarelaw1.BinAll'. -/
def binAllCard : Claim7 := { stood := { row := binAllRow, standIns := [], harness := (true, "e0f4ae2f81960756713bd8f2886f18c5087cbb3d66e642d6c2b00961d8c0c7b5"), looks := true }, kinds := [], alts := [], laidByText := true, laidKinds := [.handle], laidTests := true, laidLooks := .later }
def BinAllCardSaid : Prop := Claim7.holds Tryd.pinned (.plain (OpenSpec.ofChange binAllSpec)) binAllCard

/-- THE TIED CARD OF 'fieldfarelaw1.BinLeast'. -/
def binLeastCard : Claim7 := { stood := { row := binLeastRow, standIns := [], harness := (true, "e0f4ae2f81960756713bd8f2886f18c5087cbb3d66e642d6c2b00961d8c0c7b5"), looks := true }, kinds := [], alts := [], laidByText := true, laidKinds := [.handle], laidTests := true, laidLooks := .later }
def BinLeastCardSaid : Prop := Claim7.holds Tryd.pinned (.plain (OpenSpec.ofChange binLeastSpec)) binLeastCard

/-- THE SECOND FORM's CARD OF 'fieldfarelaw1.DevAll'. -/
def devAllUptoCard : Claim7 := { stood := { row := devAllUptoRow, standIns := [], harness := (true, "e0f4ae2f81960756713bd8f2886f18c5087cbb3d66e642d6c2b00961d8c0c7b5"), looks := true }, kinds := [], alts := [], laidByText := true, laidKinds := [.handle], laidTests := true, laidLooks := .later }
def DevAllUptoCardSaid : Prop := Claim7.holds Tryd.pinned (.plain (OpenSpec.upto devAllSpec)) devAllUptoCard

/-- THE SECOND FORM's CARD OF 'fieldfarelaw1.DevFuse'. -/
def devFuseUptoCard : Claim7 := { stood := { row := devFuseUptoRow, standIns := [], harness := (true, "e0f4ae2f81960756713bd8f2886f18c5087cbb3d66e642d6c2b00961d8c0c7b5"), looks := true }, kinds := [], alts := [], laidByText := true, laidKinds := [.handle], laidTests := true, laidLooks := .later }
def DevFuseUptoCardSaid : Prop := Claim7.holds Tryd.pinned (.plain (OpenSpec.upto devFuseSpec)) devFuseUptoCard

/-- THE SECOND FORM's CARD OF 'fieldfarelaw1.DevOwn'. -/
def devOwnUptoCard : Claim7 := { stood := { row := devOwnUptoRow, standIns := [], harness := (true, "e0f4ae2f81960756713bd8f2886f18c5087cbb3d66e642d6c2b00961d8c0c7b5"), looks := true }, kinds := [], alts := [], laidByText := true, laidKinds := [.handle], laidTests := true, laidLooks := .later }
def DevOwnUptoCardSaid : Prop := Claim7.holds Tryd.pinned (.plain (OpenSpec.upto devOwnSpec)) devOwnUptoCard

/-- THE SECOND FORM's CARD OF 'fieldfarelaw1.BinAll'. -/
def binAllUptoCard : Claim7 := { stood := { row := binAllUptoRow, standIns := [], harness := (true, "e0f4ae2f81960756713bd8f2886f18c5087cbb3d66e642d6c2b00961d8c0c7b5"), looks := true }, kinds := [], alts := [], laidByText := true, laidKinds := [.handle], laidTests := true, laidLooks := .later }
def BinAllUptoCardSaid : Prop := Claim7.holds Tryd.pinned (.plain (OpenSpec.upto binAllSpec)) binAllUptoCard

/-- THE SECOND FORM's CARD OF 'fieldfarelaw1.BinLeast'. -/
def binLeastUptoCard : Claim7 := { stood := { row := binLeastUptoRow, standIns := [], harness := (true, "e0f4ae2f81960756713bd8f2886f18c5087cbb3d66e642d6c2b00961d8c0c7b5"), looks := true }, kinds := [], alts := [], laidByText := true, laidKinds := [.handle], laidTests := true, laidLooks := .later }
def BinLeastUptoCardSaid : Prop := Claim7.holds Tryd.pinned (.plain (OpenSpec.upto binLeastSpec)) binLeastUptoCard
end Rows
end Go.Proofs.YtmdjjnjhjojimaaDoor
