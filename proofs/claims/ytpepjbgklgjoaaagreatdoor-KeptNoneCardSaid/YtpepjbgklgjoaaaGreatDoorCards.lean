/-
  DERIVED. GIVEN WITH THE SEED: THE CARDS: each row of YtpepjbgklgjoaaaGreatDoorRows.lean that lists a variable, with what it lists TIED to the program's text (the seventh form; the later family's looks); each row that meets fmt, with fmt's text TOLD by the authors' own Lean function (tested against real Go, not proved from fmt's source: count such statements apart). THE CARD IS WHAT COUNTS. Prove the row's statement (the work); the ties are given (YtpepjbgklgjoaaaGreatDoorTie.lean); close each card by the builder's one call (the guide's Derived/Test/ToyasCard.lean, 'card_holds'). Laid BY PROGRAM, IN A SANDBOX (cutbox-door.mjs). By AI agents, Wed Nov 11 2026. No macro, syntax, notation, axiom, sorry.
-/
import Derived.Test.YtpepjbgklgjoaaaGreatDoorRows
import GoSem.ClaimSeven
namespace Go.Proofs.YtpepjbgklgjoaaaGreatDoor
namespace Rows

/-- THE TIED CARD OF 'fieldfarelaw4.KeptNone'. -/
def keptNoneCard : Claim7 := { stood := { row := keptNoneRow, standIns := [], harness := (true, "df2cf0bc703f49dd4a4315f20bee960dcc911d4e38d408eb8d7e8febb6b3237a"), looks := true }, kinds := [], alts := [], laidByText := true, laidKinds := [.handle], laidTests := true, laidLooks := .later }
def KeptNoneCardSaid : Prop := Claim7.holds Tryz.pinned (.plain (OpenSpec.ofChange keptNoneSpec)) keptNoneCard

/-- THE TIED CARD OF 'fieldfarelaw4.LogCut'. -/
def logCutCard : Claim7 := { stood := { row := logCutRow, standIns := [], harness := (true, "df2cf0bc703f49dd4a4315f20bee960dcc911d4e38d408eb8d7e8febb6b3237a"), looks := true }, kinds := [], alts := [], laidByText := true, laidKinds := [.handle], laidTests := true, laidLooks := .later }
def LogCutCardSaid : Prop := Claim7.holds Tryz.pinned (.plain (OpenSpec.ofChange logCutSpec)) logCutCard

/-- THE TIED CARD OF 'fieldfarelaw4.LogReset'. -/
def logResetCard : Claim7 := { stood := { row := logResetRow, standIns := [], harness := (true, "df2cf0bc703f49dd4a4315f20bee960dcc911d4e38d408eb8d7e8febb6b3237a"), looks := true }, kinds := [], alts := [], laidByText := true, laidKinds := [.handle], laidTests := true, laidLooks := .later }
def LogResetCardSaid : Prop := Claim7.holds Tryz.pinned (.plain (OpenSpec.ofChange logResetSpec)) logResetCard

/-- THE TIED CARD OF 'fieldfarelaw4.LogOwn'. -/
def logOwnCard : Claim7 := { stood := { row := logOwnRow, standIns := [], harness := (true, "df2cf0bc703f49dd4a4315f20bee960dcc911d4e38d408eb8d7e8febb6b3237a"), looks := true }, kinds := [], alts := [], laidByText := true, laidKinds := [.handle], laidTests := true, laidLooks := .later }
def LogOwnCardSaid : Prop := Claim7.holds Tryz.pinned (.plain (OpenSpec.ofChange logOwnSpec)) logOwnCard

/-- THE TIED CARD OF 'fieldfarelaw4.LogNew'. -/
def logNewCard : Claim7 := { stood := { row := logNewRow, standIns := [], harness := (true, "df2cf0bc703f49dd4a4315f20bee960dcc911d4e38d408eb8d7e8febb6b3237a"), looks := true }, kinds := [], alts := [], laidByText := true, laidKinds := [.handle], laidTests := true, laidLooks := .later }
def LogNewCardSaid : Prop := Claim7.holds Tryz.pinned (.plain (OpenSpec.ofChange logNewSpec)) logNewCard

/-- THE TIED CARD OF 'fieldfarelaw4.SnapBad'. -/
def snapBadCard : Claim7 := { stood := { row := snapBadRow, standIns := [], harness := (true, "df2cf0bc703f49dd4a4315f20bee960dcc911d4e38d408eb8d7e8febb6b3237a"), looks := true }, kinds := [], alts := [], laidByText := true, laidKinds := [.handle], laidTests := true, laidLooks := .later }
def SnapBadCardSaid : Prop := Claim7.holds Tryz.pinned (.plain (OpenSpec.ofChange snapBadSpec)) snapBadCard

/-- THE SECOND FORM's CARD OF 'fieldfarelaw4.KeptNone'. -/
def keptNoneUptoCard : Claim7 := { stood := { row := keptNoneUptoRow, standIns := [], harness := (true, "df2cf0bc703f49dd4a4315f20bee960dcc911d4e38d408eb8d7e8febb6b3237a"), looks := true }, kinds := [], alts := [], laidByText := true, laidKinds := [.handle], laidTests := true, laidLooks := .later }
def KeptNoneUptoCardSaid : Prop := Claim7.holds Tryz.pinned (.plain (OpenSpec.upto keptNoneSpec)) keptNoneUptoCard

/-- THE SECOND FORM's CARD OF 'fieldfarelaw4.LogCut'. -/
def logCutUptoCard : Claim7 := { stood := { row := logCutUptoRow, standIns := [], harness := (true, "df2cf0bc703f49dd4a4315f20bee960dcc911d4e38d408eb8d7e8febb6b3237a"), looks := true }, kinds := [], alts := [], laidByText := true, laidKinds := [.handle], laidTests := true, laidLooks := .later }
def LogCutUptoCardSaid : Prop := Claim7.holds Tryz.pinned (.plain (OpenSpec.upto logCutSpec)) logCutUptoCard

/-- THE SECOND FORM's CARD OF 'fieldfarelaw4.LogReset'. -/
def logResetUptoCard : Claim7 := { stood := { row := logResetUptoRow, standIns := [], harness := (true, "df2cf0bc703f49dd4a4315f20bee960dcc911d4e38d408eb8d7e8febb6b3237a"), looks := true }, kinds := [], alts := [], laidByText := true, laidKinds := [.handle], laidTests := true, laidLooks := .later }
def LogResetUptoCardSaid : Prop := Claim7.holds Tryz.pinned (.plain (OpenSpec.upto logResetSpec)) logResetUptoCard

/-- THE SECOND FORM's CARD OF 'fieldfarelaw4.LogOwn'. -/
def logOwnUptoCard : Claim7 := { stood := { row := logOwnUptoRow, standIns := [], harness := (true, "df2cf0bc703f49dd4a4315f20bee960dcc911d4e38d408eb8d7e8febb6b3237a"), looks := true }, kinds := [], alts := [], laidByText := true, laidKinds := [.handle], laidTests := true, laidLooks := .later }
def LogOwnUptoCardSaid : Prop := Claim7.holds Tryz.pinned (.plain (OpenSpec.upto logOwnSpec)) logOwnUptoCard

/-- THE SECOND FORM's CARD OF 'fieldfarelaw4.LogNew'. -/
def logNewUptoCard : Claim7 := { stood := { row := logNewUptoRow, standIns := [], harness := (true, "df2cf0bc703f49dd4a4315f20bee960dcc911d4e38d408eb8d7e8febb6b3237a"), looks := true }, kinds := [], alts := [], laidByText := true, laidKinds := [.handle], laidTests := true, laidLooks := .later }
def LogNewUptoCardSaid : Prop := Claim7.holds Tryz.pinned (.plain (OpenSpec.upto logNewSpec)) logNewUptoCard

/-- THE SECOND FORM's CARD OF 'fieldfarelaw4.SnapBad'. -/
def snapBadUptoCard : Claim7 := { stood := { row := snapBadUptoRow, standIns := [], harness := (true, "df2cf0bc703f49dd4a4315f20bee960dcc911d4e38d408eb8d7e8febb6b3237a"), looks := true }, kinds := [], alts := [], laidByText := true, laidKinds := [.handle], laidTests := true, laidLooks := .later }
def SnapBadUptoCardSaid : Prop := Claim7.holds Tryz.pinned (.plain (OpenSpec.upto snapBadSpec)) snapBadUptoCard
end Rows
end Go.Proofs.YtpepjbgklgjoaaaGreatDoor
