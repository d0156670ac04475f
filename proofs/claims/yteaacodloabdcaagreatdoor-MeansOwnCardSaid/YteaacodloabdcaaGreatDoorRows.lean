/-
  NARROWER THAN 'FOR EVERY INPUT', by the rows' own cells (each row's printed sentence says how): MetricAll: laid · MeansOwn: laid · NearNone: laid · MeansOne: laid.
  DERIVED. THE GIVEN ROWS OF THIS SEAT. 4 by the template 'for every input the law returns true; each argument reads behind the call as it read before'; 0 by the template 'total and deterministic' (their statements: YteaacodloabdcaaGreatDoorTotals.lean).
  GIVEN WITH THE SEED: the statements are not yours to turn. If you find one false, say at which input.
  Laid BY PROGRAM, IN A SANDBOX (cutbox-rows.mjs): the forced cells as the released guide's own fill.sh prints them over the translation 91a5d853b6a25a0a… (all of the seat's roots in one cut). By AI agents, Wed Nov 11 2026. No macro, syntax, notation, axiom, sorry.
-/
import Derived.Test.YteaacodloabdcaaGreatDoorChecked
import GoSem.Claim
import GoSem.ClaimJoined
import GoSem.ClaimMapViews
import Derived.JoinedTies
import Derived.KernelRfl
namespace Go.Proofs.YteaacodloabdcaaGreatDoor
/- THE CELL 'sum', in the pinned program and in every row, IS THE sha256 OF THE DUMP (.gsa) THAT YteaacodloabdcaaGreatDoorProg.lean LOADS. Nothing in Lean hashes anything: it is a label: what it is worth is what the hold of that sum in a sandbox is worth. -/
noncomputable def Tryz.pinned : Pinned := { name := "yteaacodloabdcaagreatdoor", sum := "91a5d853b6a25a0a6864f1206f86d6b40dc2683a84dfdcfb2b046e51ee2cef49", checked := Tryz.checked }
namespace Rows
def none {H : Type} : Left H := { results := [], args := [] }

/- WHAT THE LISTED PACKAGE-LEVEL VARIABLES READ AS WHEN THE CALL BEGINS. Each datum BY PROGRAM (the guide's laid-datum.mjs) off the statement by which the dump's own 'gosem.cut.vars' lays the variable. In a bare row this is a premise. The card (YteaacodloabdcaaGreatDoorCards.lean) ties it to the program's text. -/
def laid_errors_errorType {H : Type} : DataW H := .iface "internal/reflectlite.rtype" (.agg [.ptr (.lit (.string [101, 114, 114, 111, 114]))])

/-- 'fieldfarelaw7.MetricAll': WHATEVER THE INPUT: true; the input reads as it did. -/
def metricAllSpec : ChangeSpec := { name := "metricAll", fn := fun _ => fun
  | [d1, d2, d3, d4, d5] => { results := [.lit (.bool true)], args := [d1, d2, d3, d4, d5] }
  | _ => none }
def metricAllRow : OpenClaim := { program := "yteaacodloabdcaagreatdoor", sum := "91a5d853b6a25a0a6864f1206f86d6b40dc2683a84dfdcfb2b046e51ee2cef49", func := "fieldfare/fieldfarelaw7.MetricAll", spec := "metricAll", inPlace := ["internal/reflectlite.ValueOf", "(internal/reflectlite.Value).Type", "(internal/reflectlite.Value).IsNil", "internal/reflectlite.TypeOf", "(internal/reflectlite.Value).Elem", "(internal/reflectlite.Value).Set"], unfollowed := true, recurses := true, named := ["errors.errorType"], apart := false, laid := [("errors.errorType", laid_errors_errorType)] }
def MetricAllSaid : Prop := metricAllRow.holds Tryz.pinned (OpenSpec.ofChange metricAllSpec)

/-- ITS FALSE NEIGHBOUR: 'it returns false'. Refute it at one input. -/
def metricAllWrong : ChangeSpec := { name := "metricAll", fn := fun _ => fun
  | [d1, d2, d3, d4, d5] => { results := [.lit (.bool false)], args := [d1, d2, d3, d4, d5] }
  | _ => none }
def MetricAllWrongFalsely : Prop := metricAllRow.holds Tryz.pinned (OpenSpec.ofChange metricAllWrong)

/-- 'fieldfarelaw7.MeansOwn': WHATEVER THE INPUT: true; the input reads as it did. -/
def meansOwnSpec : ChangeSpec := { name := "meansOwn", fn := fun _ => fun
  | [d1, d2] => { results := [.lit (.bool true)], args := [d1, d2] }
  | _ => none }
def meansOwnRow : OpenClaim := { program := "yteaacodloabdcaagreatdoor", sum := "91a5d853b6a25a0a6864f1206f86d6b40dc2683a84dfdcfb2b046e51ee2cef49", func := "fieldfare/fieldfarelaw7.MeansOwn", spec := "meansOwn", inPlace := ["internal/reflectlite.ValueOf", "(internal/reflectlite.Value).Type", "(internal/reflectlite.Value).IsNil", "internal/reflectlite.TypeOf", "(internal/reflectlite.Value).Elem", "(internal/reflectlite.Value).Set"], unfollowed := true, recurses := true, named := ["errors.errorType"], apart := false, laid := [("errors.errorType", laid_errors_errorType)] }
def MeansOwnSaid : Prop := meansOwnRow.holds Tryz.pinned (OpenSpec.ofChange meansOwnSpec)

/-- ITS FALSE NEIGHBOUR: 'it returns false'. Refute it at one input. -/
def meansOwnWrong : ChangeSpec := { name := "meansOwn", fn := fun _ => fun
  | [d1, d2] => { results := [.lit (.bool false)], args := [d1, d2] }
  | _ => none }
def MeansOwnWrongFalsely : Prop := meansOwnRow.holds Tryz.pinned (OpenSpec.ofChange meansOwnWrong)

/-- 'fieldfarelaw7.NearNone': WHATEVER THE INPUT: true; the input reads as it did. -/
def nearNoneSpec : ChangeSpec := { name := "nearNone", fn := fun _ => fun
  | [] => { results := [.lit (.bool true)], args := [] }
  | _ => none }
def nearNoneRow : OpenClaim := { program := "yteaacodloabdcaagreatdoor", sum := "91a5d853b6a25a0a6864f1206f86d6b40dc2683a84dfdcfb2b046e51ee2cef49", func := "fieldfare/fieldfarelaw7.NearNone", spec := "nearNone", inPlace := ["internal/reflectlite.ValueOf", "(internal/reflectlite.Value).Type", "(internal/reflectlite.Value).IsNil", "internal/reflectlite.TypeOf", "(internal/reflectlite.Value).Elem", "(internal/reflectlite.Value).Set"], unfollowed := true, recurses := true, named := ["errors.errorType"], apart := false, laid := [("errors.errorType", laid_errors_errorType)] }
def NearNoneSaid : Prop := nearNoneRow.holds Tryz.pinned (OpenSpec.ofChange nearNoneSpec)

/-- ITS FALSE NEIGHBOUR: 'it returns false'. Refute it at one input. -/
def nearNoneWrong : ChangeSpec := { name := "nearNone", fn := fun _ => fun
  | [] => { results := [.lit (.bool false)], args := [] }
  | _ => none }
def NearNoneWrongFalsely : Prop := nearNoneRow.holds Tryz.pinned (OpenSpec.ofChange nearNoneWrong)

/-- 'fieldfarelaw7.MeansOne': WHATEVER THE INPUT: true; the input reads as it did. -/
def meansOneSpec : ChangeSpec := { name := "meansOne", fn := fun _ => fun
  | [d1, d2] => { results := [.lit (.bool true)], args := [d1, d2] }
  | _ => none }
def meansOneRow : OpenClaim := { program := "yteaacodloabdcaagreatdoor", sum := "91a5d853b6a25a0a6864f1206f86d6b40dc2683a84dfdcfb2b046e51ee2cef49", func := "fieldfare/fieldfarelaw7.MeansOne", spec := "meansOne", inPlace := ["internal/reflectlite.ValueOf", "(internal/reflectlite.Value).Type", "(internal/reflectlite.Value).IsNil", "internal/reflectlite.TypeOf", "(internal/reflectlite.Value).Elem", "(internal/reflectlite.Value).Set"], unfollowed := true, recurses := true, named := ["errors.errorType"], apart := false, laid := [("errors.errorType", laid_errors_errorType)] }
def MeansOneSaid : Prop := meansOneRow.holds Tryz.pinned (OpenSpec.ofChange meansOneSpec)

/-- ITS FALSE NEIGHBOUR: 'it returns false'. Refute it at one input. -/
def meansOneWrong : ChangeSpec := { name := "meansOne", fn := fun _ => fun
  | [d1, d2] => { results := [.lit (.bool false)], args := [d1, d2] }
  | _ => none }
def MeansOneWrongFalsely : Prop := meansOneRow.holds Tryz.pinned (OpenSpec.ofChange meansOneWrong)

/- THE SECOND FORM. 'bulk': how many values and letters a reading holds, each counted each time it is reached (what is shared counts as often as it is met; a slice's spare places count too). A statement '..UptoSaid' is the law's where the arguments, and the package variables that the reading takes, are together of bulk at most 1048576: NARROWER than '..Said'. Prove '..Said' where nothing that the law and all that it calls make is longer than what came in: it says more and counts as full. Else prove '..UptoSaid'. A law counts once. -/
mutual
def uptoBulk {H : Type} : DataW H → Nat
  | .lit (.string bytes) => bytes.length + 1
  | .lit _ => 1
  | .nil => 1
  | .ptr d => uptoBulk d + 1
  | .slice elems spare => uptoBulkAll elems + uptoBulkAll spare + 1
  | .agg parts => uptoBulkAll parts + 1
  | .iface _ d => uptoBulk d + 1
  | .map entries => uptoBulkEntries entries + 1
  | .held _ => 1
def uptoBulkAll {H : Type} : List (DataW H) → Nat
  | [] => 0
  | d :: r => uptoBulk d + uptoBulkAll r
def uptoBulkEntries {H : Type} : List (Lit × DataW H) → Nat
  | [] => 0
  | x :: r => uptoBulkEntry x + uptoBulkEntries r
def uptoBulkEntry {H : Type} : Lit × DataW H → Nat
  | (.string bytes, d) => bytes.length + uptoBulk d + 1
  | (_, d) => uptoBulk d + 1
 end
def uptoSmall : (H : Type) → List (DataW H) → Bool := fun _ ds => decide (uptoBulkAll ds ≤ 1048576)
def OpenSpec.upto (s : _root_.Go.ChangeSpec) : _root_.Go.OpenSpec := { _root_.Go.OpenSpec.ofChange s with cond := some uptoSmall }

/-- 'fieldfarelaw7.MetricAll', WHERE WHAT IT READS IS OF BULK AT MOST 1048576: true; the input reads as it did. -/
def metricAllUptoRow : OpenClaim := { program := "yteaacodloabdcaagreatdoor", sum := "91a5d853b6a25a0a6864f1206f86d6b40dc2683a84dfdcfb2b046e51ee2cef49", func := "fieldfare/fieldfarelaw7.MetricAll", spec := "metricAll", inPlace := ["internal/reflectlite.ValueOf", "(internal/reflectlite.Value).Type", "(internal/reflectlite.Value).IsNil", "internal/reflectlite.TypeOf", "(internal/reflectlite.Value).Elem", "(internal/reflectlite.Value).Set"], unfollowed := true, recurses := true, named := ["errors.errorType"], apart := false, laid := [("errors.errorType", laid_errors_errorType)], narrowed := true }
def MetricAllUptoSaid : Prop := metricAllUptoRow.holds Tryz.pinned (OpenSpec.upto metricAllSpec)

/-- 'fieldfarelaw7.MeansOwn', WHERE WHAT IT READS IS OF BULK AT MOST 1048576: true; the input reads as it did. -/
def meansOwnUptoRow : OpenClaim := { program := "yteaacodloabdcaagreatdoor", sum := "91a5d853b6a25a0a6864f1206f86d6b40dc2683a84dfdcfb2b046e51ee2cef49", func := "fieldfare/fieldfarelaw7.MeansOwn", spec := "meansOwn", inPlace := ["internal/reflectlite.ValueOf", "(internal/reflectlite.Value).Type", "(internal/reflectlite.Value).IsNil", "internal/reflectlite.TypeOf", "(internal/reflectlite.Value).Elem", "(internal/reflectlite.Value).Set"], unfollowed := true, recurses := true, named := ["errors.errorType"], apart := false, laid := [("errors.errorType", laid_errors_errorType)], narrowed := true }
def MeansOwnUptoSaid : Prop := meansOwnUptoRow.holds Tryz.pinned (OpenSpec.upto meansOwnSpec)

/-- 'fieldfarelaw7.NearNone', WHERE WHAT IT READS IS OF BULK AT MOST 1048576: true; the input reads as it did. -/
def nearNoneUptoRow : OpenClaim := { program := "yteaacodloabdcaagreatdoor", sum := "91a5d853b6a25a0a6864f1206f86d6b40dc2683a84dfdcfb2b046e51ee2cef49", func := "fieldfare/fieldfarelaw7.NearNone", spec := "nearNone", inPlace := ["internal/reflectlite.ValueOf", "(internal/reflectlite.Value).Type", "(internal/reflectlite.Value).IsNil", "internal/reflectlite.TypeOf", "(internal/reflectlite.Value).Elem", "(internal/reflectlite.Value).Set"], unfollowed := true, recurses := true, named := ["errors.errorType"], apart := false, laid := [("errors.errorType", laid_errors_errorType)], narrowed := true }
def NearNoneUptoSaid : Prop := nearNoneUptoRow.holds Tryz.pinned (OpenSpec.upto nearNoneSpec)

/-- 'fieldfarelaw7.MeansOne', WHERE WHAT IT READS IS OF BULK AT MOST 1048576: true; the input reads as it did. -/
def meansOneUptoRow : OpenClaim := { program := "yteaacodloabdcaagreatdoor", sum := "91a5d853b6a25a0a6864f1206f86d6b40dc2683a84dfdcfb2b046e51ee2cef49", func := "fieldfare/fieldfarelaw7.MeansOne", spec := "meansOne", inPlace := ["internal/reflectlite.ValueOf", "(internal/reflectlite.Value).Type", "(internal/reflectlite.Value).IsNil", "internal/reflectlite.TypeOf", "(internal/reflectlite.Value).Elem", "(internal/reflectlite.Value).Set"], unfollowed := true, recurses := true, named := ["errors.errorType"], apart := false, laid := [("errors.errorType", laid_errors_errorType)], narrowed := true }
def MeansOneUptoSaid : Prop := meansOneUptoRow.holds Tryz.pinned (OpenSpec.upto meansOneSpec)

end Rows
end Go.Proofs.YteaacodloabdcaaGreatDoor
