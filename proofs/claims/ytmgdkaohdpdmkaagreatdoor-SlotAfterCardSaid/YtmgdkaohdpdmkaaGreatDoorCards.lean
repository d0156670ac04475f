/-
  DERIVED. GIVEN WITH THE SEED: THE CARDS: each row of YtmgdkaohdpdmkaaGreatDoorRows.lean that lists a variable, with what it lists TIED to the program's text (the seventh form; the later family's looks); each row that meets fmt, with fmt's text TOLD by the authors' own Lean function (tested against real Go, not proved from fmt's source: count such statements apart). THE CARD IS WHAT COUNTS. Prove the row's statement (the work); the ties are given (YtmgdkaohdpdmkaaGreatDoorTie.lean); close each card by the builder's one call (the guide's Derived/Test/ToyasCard.lean, 'card_holds'). Laid BY PROGRAM, IN A SANDBOX (cutbox-door.mjs). By AI agents, Wed Nov 11 2026. No macro, syntax, notation, axiom, sorry.
-/
import Derived.Test.YtmgdkaohdpdmkaaGreatDoorRows
import GoSem.ClaimSeven
namespace Go.Proofs.YtmgdkaohdpdmkaaGreatDoor
namespace Rows

/-- THE TIED CARD OF 'fieldfarelaw4.SlotAll'. -/
def slotAllCard : Claim7 := { stood := { row := slotAllRow, standIns := [], harness := (true, "640c02e0b035eeed6ee27a66c6105ade5f7060a9f99e03cdfb868413f4cd57ae"), looks := true }, kinds := [], alts := [], laidByText := true, laidKinds := [.handle], laidTests := true, laidLooks := .later }
def SlotAllCardSaid : Prop := Claim7.holds Tryz.pinned (.plain (OpenSpec.ofChange slotAllSpec)) slotAllCard

/-- THE TIED CARD OF 'fieldfarelaw4.SlotMake'. -/
def slotMakeCard : Claim7 := { stood := { row := slotMakeRow, standIns := [], harness := (true, "640c02e0b035eeed6ee27a66c6105ade5f7060a9f99e03cdfb868413f4cd57ae"), looks := true }, kinds := [], alts := [], laidByText := true, laidKinds := [.handle], laidTests := true, laidLooks := .later }
def SlotMakeCardSaid : Prop := Claim7.holds Tryz.pinned (.plain (OpenSpec.ofChange slotMakeSpec)) slotMakeCard

/-- THE TIED CARD OF 'fieldfarelaw4.SlotFirst'. -/
def slotFirstCard : Claim7 := { stood := { row := slotFirstRow, standIns := [], harness := (true, "640c02e0b035eeed6ee27a66c6105ade5f7060a9f99e03cdfb868413f4cd57ae"), looks := true }, kinds := [], alts := [], laidByText := true, laidKinds := [.handle], laidTests := true, laidLooks := .later }
def SlotFirstCardSaid : Prop := Claim7.holds Tryz.pinned (.plain (OpenSpec.ofChange slotFirstSpec)) slotFirstCard

/-- THE TIED CARD OF 'fieldfarelaw4.SlotLong'. -/
def slotLongCard : Claim7 := { stood := { row := slotLongRow, standIns := [], harness := (true, "640c02e0b035eeed6ee27a66c6105ade5f7060a9f99e03cdfb868413f4cd57ae"), looks := true }, kinds := [], alts := [], laidByText := true, laidKinds := [.handle], laidTests := true, laidLooks := .later }
def SlotLongCardSaid : Prop := Claim7.holds Tryz.pinned (.plain (OpenSpec.ofChange slotLongSpec)) slotLongCard

/-- THE TIED CARD OF 'fieldfarelaw4.SlotAfter'. -/
def slotAfterCard : Claim7 := { stood := { row := slotAfterRow, standIns := [], harness := (true, "640c02e0b035eeed6ee27a66c6105ade5f7060a9f99e03cdfb868413f4cd57ae"), looks := true }, kinds := [], alts := [], laidByText := true, laidKinds := [.handle], laidTests := true, laidLooks := .later }
def SlotAfterCardSaid : Prop := Claim7.holds Tryz.pinned (.plain (OpenSpec.ofChange slotAfterSpec)) slotAfterCard

/-- THE TIED CARD OF 'fieldfarelaw4.SlotTakes'. -/
def slotTakesCard : Claim7 := { stood := { row := slotTakesRow, standIns := [], harness := (true, "640c02e0b035eeed6ee27a66c6105ade5f7060a9f99e03cdfb868413f4cd57ae"), looks := true }, kinds := [], alts := [], laidByText := true, laidKinds := [.handle], laidTests := true, laidLooks := .later }
def SlotTakesCardSaid : Prop := Claim7.holds Tryz.pinned (.plain (OpenSpec.ofChange slotTakesSpec)) slotTakesCard

/-- THE SECOND FORM's CARD OF 'fieldfarelaw4.SlotAll'. -/
def slotAllUptoCard : Claim7 := { stood := { row := slotAllUptoRow, standIns := [], harness := (true, "640c02e0b035eeed6ee27a66c6105ade5f7060a9f99e03cdfb868413f4cd57ae"), looks := true }, kinds := [], alts := [], laidByText := true, laidKinds := [.handle], laidTests := true, laidLooks := .later }
def SlotAllUptoCardSaid : Prop := Claim7.holds Tryz.pinned (.plain (OpenSpec.upto slotAllSpec)) slotAllUptoCard

/-- THE SECOND FORM's CARD OF 'fieldfarelaw4.SlotMake'. -/
def slotMakeUptoCard : Claim7 := { stood := { row := slotMakeUptoRow, standIns := [], harness := (true, "640c02e0b035eeed6ee27a66c6105ade5f7060a9f99e03cdfb868413f4cd57ae"), looks := true }, kinds := [], alts := [], laidByText := true, laidKinds := [.handle], laidTests := true, laidLooks := .later }
def SlotMakeUptoCardSaid : Prop := Claim7.holds Tryz.pinned (.plain (OpenSpec.upto slotMakeSpec)) slotMakeUptoCard

/-- THE SECOND FORM's CARD OF 'fieldfarelaw4.SlotFirst'. -/
def slotFirstUptoCard : Claim7 := { stood := { row := slotFirstUptoRow, standIns := [], harness := (true, "640c02e0b035eeed6ee27a66c6105ade5f7060a9f99e03cdfb868413f4cd57ae"), looks := true }, kinds := [], alts := [], laidByText := true, laidKinds := [.handle], laidTests := true, laidLooks := .later }
def SlotFirstUptoCardSaid : Prop := Claim7.holds Tryz.pinned (.plain (OpenSpec.upto slotFirstSpec)) slotFirstUptoCard

/-- THE SECOND FORM's CARD OF 'fieldfarelaw4.SlotLong'. -/
def slotLongUptoCard : Claim7 := { stood := { row := slotLongUptoRow, standIns := [], harness := (true, "640c02e0b035eeed6ee27a66c6105ade5f7060a9f99e03cdfb868413f4cd57ae"), looks := true }, kinds := [], alts := [], laidByText := true, laidKinds := [.handle], laidTests := true, laidLooks := .later }
def SlotLongUptoCardSaid : Prop := Claim7.holds Tryz.pinned (.plain (OpenSpec.upto slotLongSpec)) slotLongUptoCard

/-- THE SECOND FORM's CARD OF 'fieldfarelaw4.SlotAfter'. -/
def slotAfterUptoCard : Claim7 := { stood := { row := slotAfterUptoRow, standIns := [], harness := (true, "640c02e0b035eeed6ee27a66c6105ade5f7060a9f99e03cdfb868413f4cd57ae"), looks := true }, kinds := [], alts := [], laidByText := true, laidKinds := [.handle], laidTests := true, laidLooks := .later }
def SlotAfterUptoCardSaid : Prop := Claim7.holds Tryz.pinned (.plain (OpenSpec.upto slotAfterSpec)) slotAfterUptoCard

/-- THE SECOND FORM's CARD OF 'fieldfarelaw4.SlotTakes'. -/
def slotTakesUptoCard : Claim7 := { stood := { row := slotTakesUptoRow, standIns := [], harness := (true, "640c02e0b035eeed6ee27a66c6105ade5f7060a9f99e03cdfb868413f4cd57ae"), looks := true }, kinds := [], alts := [], laidByText := true, laidKinds := [.handle], laidTests := true, laidLooks := .later }
def SlotTakesUptoCardSaid : Prop := Claim7.holds Tryz.pinned (.plain (OpenSpec.upto slotTakesSpec)) slotTakesUptoCard
end Rows
end Go.Proofs.YtmgdkaohdpdmkaaGreatDoor
