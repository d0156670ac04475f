/-
  DERIVED. GIVEN WITH THE SEED: THE CARDS: each row of YteaacodloabdcaaGreatDoorRows.lean that lists a variable, with what it lists TIED to the program's text (the seventh form; the later family's looks); each row that meets fmt, with fmt's text TOLD by the authors' own Lean function (tested against real Go, not proved from fmt's source: count such statements apart). THE CARD IS WHAT COUNTS. Prove the row's statement (the work); the ties are given (YteaacodloabdcaaGreatDoorTie.lean); close each card by the builder's one call (the guide's Derived/Test/ToyasCard.lean, 'card_holds'). Laid BY PROGRAM, IN A SANDBOX (cutbox-door.mjs). By AI agents, Wed Nov 11 2026. No macro, syntax, notation, axiom, sorry.
-/
import Derived.Test.YteaacodloabdcaaGreatDoorRows
import GoSem.ClaimSeven
namespace Go.Proofs.YteaacodloabdcaaGreatDoor
namespace Rows

/-- THE TIED CARD OF 'fieldfarelaw7.MetricAll'. -/
def metricAllCard : Claim7 := { stood := { row := metricAllRow, standIns := [], harness := (true, "c74a502fbae736bd998b2968f8ffe20484fb8efe2245af724c21757aebab5afb"), looks := true }, kinds := [], alts := [], laidByText := true, laidKinds := [.handle], laidTests := true, laidLooks := .later }
def MetricAllCardSaid : Prop := Claim7.holds Tryz.pinned (.plain (OpenSpec.ofChange metricAllSpec)) metricAllCard

/-- THE TIED CARD OF 'fieldfarelaw7.MeansOwn'. -/
def meansOwnCard : Claim7 := { stood := { row := meansOwnRow, standIns := [], harness := (true, "c74a502fbae736bd998b2968f8ffe20484fb8efe2245af724c21757aebab5afb"), looks := true }, kinds := [], alts := [], laidByText := true, laidKinds := [.handle], laidTests := true, laidLooks := .later }
def MeansOwnCardSaid : Prop := Claim7.holds Tryz.pinned (.plain (OpenSpec.ofChange meansOwnSpec)) meansOwnCard

/-- THE TIED CARD OF 'fieldfarelaw7.NearNone'. -/
def nearNoneCard : Claim7 := { stood := { row := nearNoneRow, standIns := [], harness := (true, "c74a502fbae736bd998b2968f8ffe20484fb8efe2245af724c21757aebab5afb"), looks := true }, kinds := [], alts := [], laidByText := true, laidKinds := [.handle], laidTests := true, laidLooks := .later }
def NearNoneCardSaid : Prop := Claim7.holds Tryz.pinned (.plain (OpenSpec.ofChange nearNoneSpec)) nearNoneCard

/-- THE TIED CARD OF 'fieldfarelaw7.MeansOne'. -/
def meansOneCard : Claim7 := { stood := { row := meansOneRow, standIns := [], harness := (true, "c74a502fbae736bd998b2968f8ffe20484fb8efe2245af724c21757aebab5afb"), looks := true }, kinds := [], alts := [], laidByText := true, laidKinds := [.handle], laidTests := true, laidLooks := .later }
def MeansOneCardSaid : Prop := Claim7.holds Tryz.pinned (.plain (OpenSpec.ofChange meansOneSpec)) meansOneCard

/-- THE SECOND FORM's CARD OF 'fieldfarelaw7.MetricAll'. -/
def metricAllUptoCard : Claim7 := { stood := { row := metricAllUptoRow, standIns := [], harness := (true, "c74a502fbae736bd998b2968f8ffe20484fb8efe2245af724c21757aebab5afb"), looks := true }, kinds := [], alts := [], laidByText := true, laidKinds := [.handle], laidTests := true, laidLooks := .later }
def MetricAllUptoCardSaid : Prop := Claim7.holds Tryz.pinned (.plain (OpenSpec.upto metricAllSpec)) metricAllUptoCard

/-- THE SECOND FORM's CARD OF 'fieldfarelaw7.MeansOwn'. -/
def meansOwnUptoCard : Claim7 := { stood := { row := meansOwnUptoRow, standIns := [], harness := (true, "c74a502fbae736bd998b2968f8ffe20484fb8efe2245af724c21757aebab5afb"), looks := true }, kinds := [], alts := [], laidByText := true, laidKinds := [.handle], laidTests := true, laidLooks := .later }
def MeansOwnUptoCardSaid : Prop := Claim7.holds Tryz.pinned (.plain (OpenSpec.upto meansOwnSpec)) meansOwnUptoCard

/-- THE SECOND FORM's CARD OF 'fieldfarelaw7.NearNone'. -/
def nearNoneUptoCard : Claim7 := { stood := { row := nearNoneUptoRow, standIns := [], harness := (true, "c74a502fbae736bd998b2968f8ffe20484fb8efe2245af724c21757aebab5afb"), looks := true }, kinds := [], alts := [], laidByText := true, laidKinds := [.handle], laidTests := true, laidLooks := .later }
def NearNoneUptoCardSaid : Prop := Claim7.holds Tryz.pinned (.plain (OpenSpec.upto nearNoneSpec)) nearNoneUptoCard

/-- THE SECOND FORM's CARD OF 'fieldfarelaw7.MeansOne'. -/
def meansOneUptoCard : Claim7 := { stood := { row := meansOneUptoRow, standIns := [], harness := (true, "c74a502fbae736bd998b2968f8ffe20484fb8efe2245af724c21757aebab5afb"), looks := true }, kinds := [], alts := [], laidByText := true, laidKinds := [.handle], laidTests := true, laidLooks := .later }
def MeansOneUptoCardSaid : Prop := Claim7.holds Tryz.pinned (.plain (OpenSpec.upto meansOneSpec)) meansOneUptoCard
end Rows
end Go.Proofs.YteaacodloabdcaaGreatDoor
