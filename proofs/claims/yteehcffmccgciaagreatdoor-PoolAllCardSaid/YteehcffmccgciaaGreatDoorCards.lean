/-
  DERIVED. GIVEN WITH THE SEED: THE CARDS: each row of YteehcffmccgciaaGreatDoorRows.lean that lists a variable, with what it lists TIED to the program's text (the seventh form; the later family's looks); each row that meets fmt, with fmt's text TOLD by the authors' own Lean function (tested against real Go, not proved from fmt's source: count such statements apart). THE CARD IS WHAT COUNTS. Prove the row's statement (the work); the ties are given (YteehcffmccgciaaGreatDoorTie.lean); close each card by the builder's one call (the guide's Derived/Test/ToyasCard.lean, 'card_holds'). Laid BY PROGRAM, IN A SANDBOX (cutbox-door.mjs). By AI agents, Wed Nov 11 2026. No macro, syntax, notation, axiom, sorry.
-/
import Derived.Test.YteehcffmccgciaaGreatDoorRows
import GoSem.ClaimSeven
namespace Go.Proofs.YteehcffmccgciaaGreatDoor
namespace Rows

/-- THE TIED CARD OF 'fieldfarelaw7.PoolAll'. -/
def poolAllCard : Claim7 := { stood := { row := poolAllRow, standIns := [], harness := (true, "dc0ee22b34999a26beef32f94a468c6f085297a03f55193b1059807d28355406"), looks := true }, kinds := [], alts := [], laidByText := true, laidKinds := [.handle], laidTests := true, laidLooks := .later }
def PoolAllCardSaid : Prop := Claim7.holds Tryz.pinned (.plain (OpenSpec.ofChange poolAllSpec)) poolAllCard

/-- THE TIED CARD OF 'fieldfarelaw7.PoolWhole'. -/
def poolWholeCard : Claim7 := { stood := { row := poolWholeRow, standIns := [], harness := (true, "dc0ee22b34999a26beef32f94a468c6f085297a03f55193b1059807d28355406"), looks := true }, kinds := [], alts := [], laidByText := true, laidKinds := [.handle], laidTests := true, laidLooks := .later }
def PoolWholeCardSaid : Prop := Claim7.holds Tryz.pinned (.plain (OpenSpec.ofChange poolWholeSpec)) poolWholeCard

/-- THE TIED CARD OF 'fieldfarelaw7.PoolTurn'. -/
def poolTurnCard : Claim7 := { stood := { row := poolTurnRow, standIns := [], harness := (true, "dc0ee22b34999a26beef32f94a468c6f085297a03f55193b1059807d28355406"), looks := true }, kinds := [], alts := [], laidByText := true, laidKinds := [.handle], laidTests := true, laidLooks := .later }
def PoolTurnCardSaid : Prop := Claim7.holds Tryz.pinned (.plain (OpenSpec.ofChange poolTurnSpec)) poolTurnCard

/-- THE TIED CARD OF 'fieldfarelaw7.PoolLeast'. -/
def poolLeastCard : Claim7 := { stood := { row := poolLeastRow, standIns := [], harness := (true, "dc0ee22b34999a26beef32f94a468c6f085297a03f55193b1059807d28355406"), looks := true }, kinds := [], alts := [], laidByText := true, laidKinds := [.handle], laidTests := true, laidLooks := .later }
def PoolLeastCardSaid : Prop := Claim7.holds Tryz.pinned (.plain (OpenSpec.ofChange poolLeastSpec)) poolLeastCard

/-- THE TIED CARD OF 'fieldfarelaw7.VectEdges'. -/
def vectEdgesCard : Claim7 := { stood := { row := vectEdgesRow, standIns := [], harness := (true, "dc0ee22b34999a26beef32f94a468c6f085297a03f55193b1059807d28355406"), looks := true }, kinds := [], alts := [], laidByText := true, laidKinds := [.handle], laidTests := true, laidLooks := .later }
def VectEdgesCardSaid : Prop := Claim7.holds Tryz.pinned (.plain (OpenSpec.ofChange vectEdgesSpec)) vectEdgesCard

/-- THE TIED CARD OF 'fieldfarelaw7.MetricOrder'. -/
def metricOrderCard : Claim7 := { stood := { row := metricOrderRow, standIns := [], harness := (true, "dc0ee22b34999a26beef32f94a468c6f085297a03f55193b1059807d28355406"), looks := true }, kinds := [], alts := [], laidByText := true, laidKinds := [.handle], laidTests := true, laidLooks := .later }
def MetricOrderCardSaid : Prop := Claim7.holds Tryz.pinned (.plain (OpenSpec.ofChange metricOrderSpec)) metricOrderCard

/-- THE TIED CARD OF 'fieldfarelaw7.BestOwn'. -/
def bestOwnCard : Claim7 := { stood := { row := bestOwnRow, standIns := [], harness := (true, "dc0ee22b34999a26beef32f94a468c6f085297a03f55193b1059807d28355406"), looks := true }, kinds := [], alts := [], laidByText := true, laidKinds := [.handle], laidTests := true, laidLooks := .later }
def BestOwnCardSaid : Prop := Claim7.holds Tryz.pinned (.plain (OpenSpec.ofChange bestOwnSpec)) bestOwnCard

/-- THE TIED CARD OF 'fieldfarelaw7.QuantStep'. -/
def quantStepCard : Claim7 := { stood := { row := quantStepRow, standIns := [], harness := (true, "dc0ee22b34999a26beef32f94a468c6f085297a03f55193b1059807d28355406"), looks := true }, kinds := [], alts := [], laidByText := true, laidKinds := [.handle], laidTests := true, laidLooks := .later }
def QuantStepCardSaid : Prop := Claim7.holds Tryz.pinned (.plain (OpenSpec.ofChange quantStepSpec)) quantStepCard

/-- THE TIED CARD OF 'fieldfarelaw7.QuantOrder'. -/
def quantOrderCard : Claim7 := { stood := { row := quantOrderRow, standIns := [], harness := (true, "dc0ee22b34999a26beef32f94a468c6f085297a03f55193b1059807d28355406"), looks := true }, kinds := [], alts := [], laidByText := true, laidKinds := [.handle], laidTests := true, laidLooks := .later }
def QuantOrderCardSaid : Prop := Claim7.holds Tryz.pinned (.plain (OpenSpec.ofChange quantOrderSpec)) quantOrderCard

/-- THE SECOND FORM's CARD OF 'fieldfarelaw7.PoolAll'. -/
def poolAllUptoCard : Claim7 := { stood := { row := poolAllUptoRow, standIns := [], harness := (true, "dc0ee22b34999a26beef32f94a468c6f085297a03f55193b1059807d28355406"), looks := true }, kinds := [], alts := [], laidByText := true, laidKinds := [.handle], laidTests := true, laidLooks := .later }
def PoolAllUptoCardSaid : Prop := Claim7.holds Tryz.pinned (.plain (OpenSpec.upto poolAllSpec)) poolAllUptoCard

/-- THE SECOND FORM's CARD OF 'fieldfarelaw7.PoolWhole'. -/
def poolWholeUptoCard : Claim7 := { stood := { row := poolWholeUptoRow, standIns := [], harness := (true, "dc0ee22b34999a26beef32f94a468c6f085297a03f55193b1059807d28355406"), looks := true }, kinds := [], alts := [], laidByText := true, laidKinds := [.handle], laidTests := true, laidLooks := .later }
def PoolWholeUptoCardSaid : Prop := Claim7.holds Tryz.pinned (.plain (OpenSpec.upto poolWholeSpec)) poolWholeUptoCard

/-- THE SECOND FORM's CARD OF 'fieldfarelaw7.PoolTurn'. -/
def poolTurnUptoCard : Claim7 := { stood := { row := poolTurnUptoRow, standIns := [], harness := (true, "dc0ee22b34999a26beef32f94a468c6f085297a03f55193b1059807d28355406"), looks := true }, kinds := [], alts := [], laidByText := true, laidKinds := [.handle], laidTests := true, laidLooks := .later }
def PoolTurnUptoCardSaid : Prop := Claim7.holds Tryz.pinned (.plain (OpenSpec.upto poolTurnSpec)) poolTurnUptoCard

/-- THE SECOND FORM's CARD OF 'fieldfarelaw7.PoolLeast'. -/
def poolLeastUptoCard : Claim7 := { stood := { row := poolLeastUptoRow, standIns := [], harness := (true, "dc0ee22b34999a26beef32f94a468c6f085297a03f55193b1059807d28355406"), looks := true }, kinds := [], alts := [], laidByText := true, laidKinds := [.handle], laidTests := true, laidLooks := .later }
def PoolLeastUptoCardSaid : Prop := Claim7.holds Tryz.pinned (.plain (OpenSpec.upto poolLeastSpec)) poolLeastUptoCard

/-- THE SECOND FORM's CARD OF 'fieldfarelaw7.VectEdges'. -/
def vectEdgesUptoCard : Claim7 := { stood := { row := vectEdgesUptoRow, standIns := [], harness := (true, "dc0ee22b34999a26beef32f94a468c6f085297a03f55193b1059807d28355406"), looks := true }, kinds := [], alts := [], laidByText := true, laidKinds := [.handle], laidTests := true, laidLooks := .later }
def VectEdgesUptoCardSaid : Prop := Claim7.holds Tryz.pinned (.plain (OpenSpec.upto vectEdgesSpec)) vectEdgesUptoCard

/-- THE SECOND FORM's CARD OF 'fieldfarelaw7.MetricOrder'. -/
def metricOrderUptoCard : Claim7 := { stood := { row := metricOrderUptoRow, standIns := [], harness := (true, "dc0ee22b34999a26beef32f94a468c6f085297a03f55193b1059807d28355406"), looks := true }, kinds := [], alts := [], laidByText := true, laidKinds := [.handle], laidTests := true, laidLooks := .later }
def MetricOrderUptoCardSaid : Prop := Claim7.holds Tryz.pinned (.plain (OpenSpec.upto metricOrderSpec)) metricOrderUptoCard

/-- THE SECOND FORM's CARD OF 'fieldfarelaw7.BestOwn'. -/
def bestOwnUptoCard : Claim7 := { stood := { row := bestOwnUptoRow, standIns := [], harness := (true, "dc0ee22b34999a26beef32f94a468c6f085297a03f55193b1059807d28355406"), looks := true }, kinds := [], alts := [], laidByText := true, laidKinds := [.handle], laidTests := true, laidLooks := .later }
def BestOwnUptoCardSaid : Prop := Claim7.holds Tryz.pinned (.plain (OpenSpec.upto bestOwnSpec)) bestOwnUptoCard

/-- THE SECOND FORM's CARD OF 'fieldfarelaw7.QuantStep'. -/
def quantStepUptoCard : Claim7 := { stood := { row := quantStepUptoRow, standIns := [], harness := (true, "dc0ee22b34999a26beef32f94a468c6f085297a03f55193b1059807d28355406"), looks := true }, kinds := [], alts := [], laidByText := true, laidKinds := [.handle], laidTests := true, laidLooks := .later }
def QuantStepUptoCardSaid : Prop := Claim7.holds Tryz.pinned (.plain (OpenSpec.upto quantStepSpec)) quantStepUptoCard

/-- THE SECOND FORM's CARD OF 'fieldfarelaw7.QuantOrder'. -/
def quantOrderUptoCard : Claim7 := { stood := { row := quantOrderUptoRow, standIns := [], harness := (true, "dc0ee22b34999a26beef32f94a468c6f085297a03f55193b1059807d28355406"), looks := true }, kinds := [], alts := [], laidByText := true, laidKinds := [.handle], laidTests := true, laidLooks := .later }
def QuantOrderUptoCardSaid : Prop := Claim7.holds Tryz.pinned (.plain (OpenSpec.upto quantOrderSpec)) quantOrderUptoCard
end Rows
end Go.Proofs.YteehcffmccgciaaGreatDoor
