/-
  NARROWER THAN 'FOR EVERY INPUT', by the rows' own cells (each row's printed sentence says how): KeptNone: laid · LogCut: laid · LogReset: laid · LogOwn: laid · LogNew: laid · SnapBad: laid.
  DERIVED. THE GIVEN ROWS OF THIS SEAT. 6 by the template 'for every input the law returns true; each argument reads behind the call as it read before'; 0 by the template 'total and deterministic' (their statements: YtpepjbgklgjoaaaGreatDoorTotals.lean).
  GIVEN WITH THE SEED: the statements are not yours to turn. If you find one false, say at which input.
  Laid BY PROGRAM, IN A SANDBOX (cutbox-rows.mjs): the forced cells as the released guide's own fill.sh prints them over the translation 2ed8a2efe0b3eec9… (all of the seat's roots in one cut). By AI agents, Wed Nov 11 2026. No macro, syntax, notation, axiom, sorry.
-/
import Derived.Test.YtpepjbgklgjoaaaGreatDoorChecked
import GoSem.Claim
import GoSem.ClaimJoined
import GoSem.ClaimMapViews
import Derived.JoinedTies
import Derived.KernelRfl
namespace Go.Proofs.YtpepjbgklgjoaaaGreatDoor
/- THE CELL 'sum', in the pinned program and in every row, IS THE sha256 OF THE DUMP (.gsa) THAT YtpepjbgklgjoaaaGreatDoorProg.lean LOADS. Nothing in Lean hashes anything: it is a label: what it is worth is what the hold of that sum in a sandbox is worth. -/
noncomputable def Tryz.pinned : Pinned := { name := "ytpepjbgklgjoaaagreatdoor", sum := "2ed8a2efe0b3eec997354bcc49902698290a787922dbf9d7c0a47edfe939e0ed", checked := Tryz.checked }
namespace Rows
def none {H : Type} : Left H := { results := [], args := [] }

/- WHAT THE LISTED PACKAGE-LEVEL VARIABLES READ AS WHEN THE CALL BEGINS. Each datum BY PROGRAM (the guide's laid-datum.mjs) off the statement by which the dump's own 'gosem.cut.vars' lays the variable. In a bare row this is a premise. The card (YtpepjbgklgjoaaaGreatDoorCards.lean) ties it to the program's text. -/
def laid_errors_errorType {H : Type} : DataW H := .iface "internal/reflectlite.rtype" (.agg [.ptr (.lit (.string [101, 114, 114, 111, 114]))])

/-- 'fieldfarelaw4.KeptNone': WHATEVER THE INPUT: true; the input reads as it did. -/
def keptNoneSpec : ChangeSpec := { name := "keptNone", fn := fun _ => fun
  | [] => { results := [.lit (.bool true)], args := [] }
  | _ => none }
def keptNoneRow : OpenClaim := { program := "ytpepjbgklgjoaaagreatdoor", sum := "2ed8a2efe0b3eec997354bcc49902698290a787922dbf9d7c0a47edfe939e0ed", func := "fieldfare/fieldfarelaw4.KeptNone", spec := "keptNone", inPlace := ["internal/reflectlite.ValueOf", "(internal/reflectlite.Value).Type", "(internal/reflectlite.Value).IsNil", "internal/reflectlite.TypeOf", "(internal/reflectlite.Value).Elem", "(internal/reflectlite.Value).Set"], unfollowed := true, recurses := true, named := ["errors.errorType"], apart := false, laid := [("errors.errorType", laid_errors_errorType)] }
def KeptNoneSaid : Prop := keptNoneRow.holds Tryz.pinned (OpenSpec.ofChange keptNoneSpec)

/-- ITS FALSE NEIGHBOUR: 'it returns false'. Refute it at one input. -/
def keptNoneWrong : ChangeSpec := { name := "keptNone", fn := fun _ => fun
  | [] => { results := [.lit (.bool false)], args := [] }
  | _ => none }
def KeptNoneWrongFalsely : Prop := keptNoneRow.holds Tryz.pinned (OpenSpec.ofChange keptNoneWrong)

/-- 'fieldfarelaw4.LogCut': WHATEVER THE INPUT: true; the input reads as it did. -/
def logCutSpec : ChangeSpec := { name := "logCut", fn := fun _ => fun
  | [d1, d2, d3, d4] => { results := [.lit (.bool true)], args := [d1, d2, d3, d4] }
  | _ => none }
def logCutRow : OpenClaim := { program := "ytpepjbgklgjoaaagreatdoor", sum := "2ed8a2efe0b3eec997354bcc49902698290a787922dbf9d7c0a47edfe939e0ed", func := "fieldfare/fieldfarelaw4.LogCut", spec := "logCut", inPlace := ["internal/reflectlite.ValueOf", "(internal/reflectlite.Value).Type", "(internal/reflectlite.Value).IsNil", "internal/reflectlite.TypeOf", "(internal/reflectlite.Value).Elem", "(internal/reflectlite.Value).Set"], unfollowed := true, recurses := true, named := ["errors.errorType"], apart := false, laid := [("errors.errorType", laid_errors_errorType)] }
def LogCutSaid : Prop := logCutRow.holds Tryz.pinned (OpenSpec.ofChange logCutSpec)

/-- ITS FALSE NEIGHBOUR: 'it returns false'. Refute it at one input. -/
def logCutWrong : ChangeSpec := { name := "logCut", fn := fun _ => fun
  | [d1, d2, d3, d4] => { results := [.lit (.bool false)], args := [d1, d2, d3, d4] }
  | _ => none }
def LogCutWrongFalsely : Prop := logCutRow.holds Tryz.pinned (OpenSpec.ofChange logCutWrong)

/-- 'fieldfarelaw4.LogReset': WHATEVER THE INPUT: true; the input reads as it did. -/
def logResetSpec : ChangeSpec := { name := "logReset", fn := fun _ => fun
  | [d1, d2, d3, d4, d5] => { results := [.lit (.bool true)], args := [d1, d2, d3, d4, d5] }
  | _ => none }
def logResetRow : OpenClaim := { program := "ytpepjbgklgjoaaagreatdoor", sum := "2ed8a2efe0b3eec997354bcc49902698290a787922dbf9d7c0a47edfe939e0ed", func := "fieldfare/fieldfarelaw4.LogReset", spec := "logReset", inPlace := ["internal/reflectlite.ValueOf", "(internal/reflectlite.Value).Type", "(internal/reflectlite.Value).IsNil", "internal/reflectlite.TypeOf", "(internal/reflectlite.Value).Elem", "(internal/reflectlite.Value).Set"], unfollowed := true, recurses := true, named := ["errors.errorType"], apart := false, laid := [("errors.errorType", laid_errors_errorType)] }
def LogResetSaid : Prop := logResetRow.holds Tryz.pinned (OpenSpec.ofChange logResetSpec)

/-- ITS FALSE NEIGHBOUR: 'it returns false'. Refute it at one input. -/
def logResetWrong : ChangeSpec := { name := "logReset", fn := fun _ => fun
  | [d1, d2, d3, d4, d5] => { results := [.lit (.bool false)], args := [d1, d2, d3, d4, d5] }
  | _ => none }
def LogResetWrongFalsely : Prop := logResetRow.holds Tryz.pinned (OpenSpec.ofChange logResetWrong)

/-- 'fieldfarelaw4.LogOwn': WHATEVER THE INPUT: true; the input reads as it did. -/
def logOwnSpec : ChangeSpec := { name := "logOwn", fn := fun _ => fun
  | [d1, d2] => { results := [.lit (.bool true)], args := [d1, d2] }
  | _ => none }
def logOwnRow : OpenClaim := { program := "ytpepjbgklgjoaaagreatdoor", sum := "2ed8a2efe0b3eec997354bcc49902698290a787922dbf9d7c0a47edfe939e0ed", func := "fieldfare/fieldfarelaw4.LogOwn", spec := "logOwn", inPlace := ["internal/reflectlite.ValueOf", "(internal/reflectlite.Value).Type", "(internal/reflectlite.Value).IsNil", "internal/reflectlite.TypeOf", "(internal/reflectlite.Value).Elem", "(internal/reflectlite.Value).Set"], unfollowed := true, recurses := true, named := ["errors.errorType"], apart := false, laid := [("errors.errorType", laid_errors_errorType)] }
def LogOwnSaid : Prop := logOwnRow.holds Tryz.pinned (OpenSpec.ofChange logOwnSpec)

/-- ITS FALSE NEIGHBOUR: 'it returns false'. Refute it at one input. -/
def logOwnWrong : ChangeSpec := { name := "logOwn", fn := fun _ => fun
  | [d1, d2] => { results := [.lit (.bool false)], args := [d1, d2] }
  | _ => none }
def LogOwnWrongFalsely : Prop := logOwnRow.holds Tryz.pinned (OpenSpec.ofChange logOwnWrong)

/-- 'fieldfarelaw4.LogNew': WHATEVER THE INPUT: true; the input reads as it did. -/
def logNewSpec : ChangeSpec := { name := "logNew", fn := fun _ => fun
  | [d1, d2, d3] => { results := [.lit (.bool true)], args := [d1, d2, d3] }
  | _ => none }
def logNewRow : OpenClaim := { program := "ytpepjbgklgjoaaagreatdoor", sum := "2ed8a2efe0b3eec997354bcc49902698290a787922dbf9d7c0a47edfe939e0ed", func := "fieldfare/fieldfarelaw4.LogNew", spec := "logNew", inPlace := ["internal/reflectlite.ValueOf", "(internal/reflectlite.Value).Type", "(internal/reflectlite.Value).IsNil", "internal/reflectlite.TypeOf", "(internal/reflectlite.Value).Elem", "(internal/reflectlite.Value).Set"], unfollowed := true, recurses := true, named := ["errors.errorType"], apart := false, laid := [("errors.errorType", laid_errors_errorType)] }
def LogNewSaid : Prop := logNewRow.holds Tryz.pinned (OpenSpec.ofChange logNewSpec)

/-- ITS FALSE NEIGHBOUR: 'it returns false'. Refute it at one input. -/
def logNewWrong : ChangeSpec := { name := "logNew", fn := fun _ => fun
  | [d1, d2, d3] => { results := [.lit (.bool false)], args := [d1, d2, d3] }
  | _ => none }
def LogNewWrongFalsely : Prop := logNewRow.holds Tryz.pinned (OpenSpec.ofChange logNewWrong)

/-- 'fieldfarelaw4.SnapBad': WHATEVER THE INPUT: true; the input reads as it did. -/
def snapBadSpec : ChangeSpec := { name := "snapBad", fn := fun _ => fun
  | [d1, d2, d3] => { results := [.lit (.bool true)], args := [d1, d2, d3] }
  | _ => none }
def snapBadRow : OpenClaim := { program := "ytpepjbgklgjoaaagreatdoor", sum := "2ed8a2efe0b3eec997354bcc49902698290a787922dbf9d7c0a47edfe939e0ed", func := "fieldfare/fieldfarelaw4.SnapBad", spec := "snapBad", inPlace := ["internal/reflectlite.ValueOf", "(internal/reflectlite.Value).Type", "(internal/reflectlite.Value).IsNil", "internal/reflectlite.TypeOf", "(internal/reflectlite.Value).Elem", "(internal/reflectlite.Value).Set"], unfollowed := true, recurses := true, named := ["errors.errorType"], apart := false, laid := [("errors.errorType", laid_errors_errorType)] }
def SnapBadSaid : Prop := snapBadRow.holds Tryz.pinned (OpenSpec.ofChange snapBadSpec)

/-- ITS FALSE NEIGHBOUR: 'it returns false'. Refute it at one input. -/
def snapBadWrong : ChangeSpec := { name := "snapBad", fn := fun _ => fun
  | [d1, d2, d3] => { results := [.lit (.bool false)], args := [d1, d2, d3] }
  | _ => none }
def SnapBadWrongFalsely : Prop := snapBadRow.holds Tryz.pinned (OpenSpec.ofChange snapBadWrong)

/- THE SECOND FORM. 'bulk': how many values and letters a reading holds, each counted each time it is reached (what is shared counts as often as it is met; a slice's spare places count too). A statement '..UptoSaid' is the law's where the arguments, and the package variables that the reading takes, are together of bulk at most 1048576: NARROWER than '..Said'. Prove '..Said' where nothing that the law and all that it calls make is longer than what came in: it says more and counts as full. Else prove '..UptoSaid'. A law counts once. -/
mutual
def uptoBulk {H : Type} : DataW H → Nat
  | .lit (.string bytes) => bytes.length + 1
  | .lit _ => 1
  | .nil => 1
  | .ptr d => uptoBulk d + 1
  | .slice elems spare => uptoBulkAll elems + uptoBulkAll spare + 1
  | .agg parts => uptoBulkAll parts + 1
  | .iface _ d => uptoBulk d + 1
  | .map entries => uptoBulkEntries entries + 1
  | .held _ => 1
def uptoBulkAll {H : Type} : List (DataW H) → Nat
  | [] => 0
  | d :: r => uptoBulk d + uptoBulkAll r
def uptoBulkEntries {H : Type} : List (Lit × DataW H) → Nat
  | [] => 0
  | x :: r => uptoBulkEntry x + uptoBulkEntries r
def uptoBulkEntry {H : Type} : Lit × DataW H → Nat
  | (.string bytes, d) => bytes.length + uptoBulk d + 1
  | (_, d) => uptoBulk d + 1
 end
def uptoSmall : (H : Type) → List (DataW H) → Bool := fun _ ds => decide (uptoBulkAll ds ≤ 1048576)
def OpenSpec.upto (s : _root_.Go.ChangeSpec) : _root_.Go.OpenSpec := { _root_.Go.OpenSpec.ofChange s with cond := some uptoSmall }

/-- 'fieldfarelaw4.KeptNone', WHERE WHAT IT READS IS OF BULK AT MOST 1048576: true; the input reads as it did. -/
def keptNoneUptoRow : OpenClaim := { program := "ytpepjbgklgjoaaagreatdoor", sum := "2ed8a2efe0b3eec997354bcc49902698290a787922dbf9d7c0a47edfe939e0ed", func := "fieldfare/fieldfarelaw4.KeptNone", spec := "keptNone", inPlace := ["internal/reflectlite.ValueOf", "(internal/reflectlite.Value).Type", "(internal/reflectlite.Value).IsNil", "internal/reflectlite.TypeOf", "(internal/reflectlite.Value).Elem", "(internal/reflectlite.Value).Set"], unfollowed := true, recurses := true, named := ["errors.errorType"], apart := false, laid := [("errors.errorType", laid_errors_errorType)], narrowed := true }
def KeptNoneUptoSaid : Prop := keptNoneUptoRow.holds Tryz.pinned (OpenSpec.upto keptNoneSpec)

/-- 'fieldfarelaw4.LogCut', WHERE WHAT IT READS IS OF BULK AT MOST 1048576: true; the input reads as it did. -/
def logCutUptoRow : OpenClaim := { program := "ytpepjbgklgjoaaagreatdoor", sum := "2ed8a2efe0b3eec997354bcc49902698290a787922dbf9d7c0a47edfe939e0ed", func := "fieldfare/fieldfarelaw4.LogCut", spec := "logCut", inPlace := ["internal/reflectlite.ValueOf", "(internal/reflectlite.Value).Type", "(internal/reflectlite.Value).IsNil", "internal/reflectlite.TypeOf", "(internal/reflectlite.Value).Elem", "(internal/reflectlite.Value).Set"], unfollowed := true, recurses := true, named := ["errors.errorType"], apart := false, laid := [("errors.errorType", laid_errors_errorType)], narrowed := true }
def LogCutUptoSaid : Prop := logCutUptoRow.holds Tryz.pinned (OpenSpec.upto logCutSpec)

/-- 'fieldfarelaw4.LogReset', WHERE WHAT IT READS IS OF BULK AT MOST 1048576: true; the input reads as it did. -/
def logResetUptoRow : OpenClaim := { program := "ytpepjbgklgjoaaagreatdoor", sum := "2ed8a2efe0b3eec997354bcc49902698290a787922dbf9d7c0a47edfe939e0ed", func := "fieldfare/fieldfarelaw4.LogReset", spec := "logReset", inPlace := ["internal/reflectlite.ValueOf", "(internal/reflectlite.Value).Type", "(internal/reflectlite.Value).IsNil", "internal/reflectlite.TypeOf", "(internal/reflectlite.Value).Elem", "(internal/reflectlite.Value).Set"], unfollowed := true, recurses := true, named := ["errors.errorType"], apart := false, laid := [("errors.errorType", laid_errors_errorType)], narrowed := true }
def LogResetUptoSaid : Prop := logResetUptoRow.holds Tryz.pinned (OpenSpec.upto logResetSpec)

/-- 'fieldfarelaw4.LogOwn', WHERE WHAT IT READS IS OF BULK AT MOST 1048576: true; the input reads as it did. -/
def logOwnUptoRow : OpenClaim := { program := "ytpepjbgklgjoaaagreatdoor", sum := "2ed8a2efe0b3eec997354bcc49902698290a787922dbf9d7c0a47edfe939e0ed", func := "fieldfare/fieldfarelaw4.LogOwn", spec := "logOwn", inPlace := ["internal/reflectlite.ValueOf", "(internal/reflectlite.Value).Type", "(internal/reflectlite.Value).IsNil", "internal/reflectlite.TypeOf", "(internal/reflectlite.Value).Elem", "(internal/reflectlite.Value).Set"], unfollowed := true, recurses := true, named := ["errors.errorType"], apart := false, laid := [("errors.errorType", laid_errors_errorType)], narrowed := true }
def LogOwnUptoSaid : Prop := logOwnUptoRow.holds Tryz.pinned (OpenSpec.upto logOwnSpec)

/-- 'fieldfarelaw4.LogNew', WHERE WHAT IT READS IS OF BULK AT MOST 1048576: true; the input reads as it did. -/
def logNewUptoRow : OpenClaim := { program := "ytpepjbgklgjoaaagreatdoor", sum := "2ed8a2efe0b3eec997354bcc49902698290a787922dbf9d7c0a47edfe939e0ed", func := "fieldfare/fieldfarelaw4.LogNew", spec := "logNew", inPlace := ["internal/reflectlite.ValueOf", "(internal/reflectlite.Value).Type", "(internal/reflectlite.Value).IsNil", "internal/reflectlite.TypeOf", "(internal/reflectlite.Value).Elem", "(internal/reflectlite.Value).Set"], unfollowed := true, recurses := true, named := ["errors.errorType"], apart := false, laid := [("errors.errorType", laid_errors_errorType)], narrowed := true }
def LogNewUptoSaid : Prop := logNewUptoRow.holds Tryz.pinned (OpenSpec.upto logNewSpec)

/-- 'fieldfarelaw4.SnapBad', WHERE WHAT IT READS IS OF BULK AT MOST 1048576: true; the input reads as it did. -/
def snapBadUptoRow : OpenClaim := { program := "ytpepjbgklgjoaaagreatdoor", sum := "2ed8a2efe0b3eec997354bcc49902698290a787922dbf9d7c0a47edfe939e0ed", func := "fieldfare/fieldfarelaw4.SnapBad", spec := "snapBad", inPlace := ["internal/reflectlite.ValueOf", "(internal/reflectlite.Value).Type", "(internal/reflectlite.Value).IsNil", "internal/reflectlite.TypeOf", "(internal/reflectlite.Value).Elem", "(internal/reflectlite.Value).Set"], unfollowed := true, recurses := true, named := ["errors.errorType"], apart := false, laid := [("errors.errorType", laid_errors_errorType)], narrowed := true }
def SnapBadUptoSaid : Prop := snapBadUptoRow.holds Tryz.pinned (OpenSpec.upto snapBadSpec)

end Rows
end Go.Proofs.YtpepjbgklgjoaaaGreatDoor
