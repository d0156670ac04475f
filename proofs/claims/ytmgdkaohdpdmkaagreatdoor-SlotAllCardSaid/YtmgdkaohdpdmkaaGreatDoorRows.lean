/-
  NARROWER THAN 'FOR EVERY INPUT', by the rows' own cells (each row's printed sentence says how): SlotAll: laid · SlotMake: laid · SlotFirst: laid · SlotLong: laid · SlotAfter: laid · SlotTakes: laid.
  DERIVED. THE GIVEN ROWS OF THIS SEAT. 6 by the template 'for every input the law returns true; each argument reads behind the call as it read before'; 0 by the template 'total and deterministic' (their statements: YtmgdkaohdpdmkaaGreatDoorTotals.lean).
  GIVEN WITH THE SEED: the statements are not yours to turn. If you find one false, say at which input.
  Laid BY PROGRAM, IN A SANDBOX (cutbox-rows.mjs): the forced cells as the released guide's own fill.sh prints them over the translation 637e54fd77d60802… (all of the seat's roots in one cut). By AI agents, Wed Nov 11 2026. No macro, syntax, notation, axiom, sorry.
-/
import Derived.Test.YtmgdkaohdpdmkaaGreatDoorChecked
import GoSem.Claim
import GoSem.ClaimJoined
import GoSem.ClaimMapViews
import Derived.JoinedTies
import Derived.KernelRfl
namespace Go.Proofs.YtmgdkaohdpdmkaaGreatDoor
/- THE CELL 'sum', in the pinned program and in every row, IS THE sha256 OF THE DUMP (.gsa) THAT YtmgdkaohdpdmkaaGreatDoorProg.lean LOADS. Nothing in Lean hashes anything: it is a label: what it is worth is what the hold of that sum in a sandbox is worth. -/
noncomputable def Tryz.pinned : Pinned := { name := "ytmgdkaohdpdmkaagreatdoor", sum := "637e54fd77d60802950309be97797266e431b83969f058ce5b364bb49e7d2a9e", checked := Tryz.checked }
namespace Rows
def none {H : Type} : Left H := { results := [], args := [] }

/- WHAT THE LISTED PACKAGE-LEVEL VARIABLES READ AS WHEN THE CALL BEGINS. Each datum BY PROGRAM (the guide's laid-datum.mjs) off the statement by which the dump's own 'gosem.cut.vars' lays the variable. In a bare row this is a premise. The card (YtmgdkaohdpdmkaaGreatDoorCards.lean) ties it to the program's text. -/
def laid_errors_errorType {H : Type} : DataW H := .iface "internal/reflectlite.rtype" (.agg [.ptr (.lit (.string [101, 114, 114, 111, 114]))])

/-- 'fieldfarelaw4.SlotAll': WHATEVER THE INPUT: true; the input reads as it did. -/
def slotAllSpec : ChangeSpec := { name := "slotAll", fn := fun _ => fun
  | [d1, d2, d3] => { results := [.lit (.bool true)], args := [d1, d2, d3] }
  | _ => none }
def slotAllRow : OpenClaim := { program := "ytmgdkaohdpdmkaagreatdoor", sum := "637e54fd77d60802950309be97797266e431b83969f058ce5b364bb49e7d2a9e", func := "fieldfare/fieldfarelaw4.SlotAll", spec := "slotAll", inPlace := ["internal/reflectlite.ValueOf", "(internal/reflectlite.Value).Type", "(internal/reflectlite.Value).IsNil", "internal/reflectlite.TypeOf", "(internal/reflectlite.Value).Elem", "(internal/reflectlite.Value).Set"], unfollowed := true, recurses := true, named := ["errors.errorType"], apart := false, laid := [("errors.errorType", laid_errors_errorType)] }
def SlotAllSaid : Prop := slotAllRow.holds Tryz.pinned (OpenSpec.ofChange slotAllSpec)

/-- ITS FALSE NEIGHBOUR: 'it returns false'. Refute it at one input. -/
def slotAllWrong : ChangeSpec := { name := "slotAll", fn := fun _ => fun
  | [d1, d2, d3] => { results := [.lit (.bool false)], args := [d1, d2, d3] }
  | _ => none }
def SlotAllWrongFalsely : Prop := slotAllRow.holds Tryz.pinned (OpenSpec.ofChange slotAllWrong)

/-- 'fieldfarelaw4.SlotMake': WHATEVER THE INPUT: true; the input reads as it did. -/
def slotMakeSpec : ChangeSpec := { name := "slotMake", fn := fun _ => fun
  | [d1, d2, d3, d4, d5] => { results := [.lit (.bool true)], args := [d1, d2, d3, d4, d5] }
  | _ => none }
def slotMakeRow : OpenClaim := { program := "ytmgdkaohdpdmkaagreatdoor", sum := "637e54fd77d60802950309be97797266e431b83969f058ce5b364bb49e7d2a9e", func := "fieldfare/fieldfarelaw4.SlotMake", spec := "slotMake", inPlace := ["internal/reflectlite.ValueOf", "(internal/reflectlite.Value).Type", "(internal/reflectlite.Value).IsNil", "internal/reflectlite.TypeOf", "(internal/reflectlite.Value).Elem", "(internal/reflectlite.Value).Set"], unfollowed := true, recurses := true, named := ["errors.errorType"], apart := false, laid := [("errors.errorType", laid_errors_errorType)] }
def SlotMakeSaid : Prop := slotMakeRow.holds Tryz.pinned (OpenSpec.ofChange slotMakeSpec)

/-- ITS FALSE NEIGHBOUR: 'it returns false'. Refute it at one input. -/
def slotMakeWrong : ChangeSpec := { name := "slotMake", fn := fun _ => fun
  | [d1, d2, d3, d4, d5] => { results := [.lit (.bool false)], args := [d1, d2, d3, d4, d5] }
  | _ => none }
def SlotMakeWrongFalsely : Prop := slotMakeRow.holds Tryz.pinned (OpenSpec.ofChange slotMakeWrong)

/-- 'fieldfarelaw4.SlotFirst': WHATEVER THE INPUT: true; the input reads as it did. -/
def slotFirstSpec : ChangeSpec := { name := "slotFirst", fn := fun _ => fun
  | [d1, d2, d3] => { results := [.lit (.bool true)], args := [d1, d2, d3] }
  | _ => none }
def slotFirstRow : OpenClaim := { program := "ytmgdkaohdpdmkaagreatdoor", sum := "637e54fd77d60802950309be97797266e431b83969f058ce5b364bb49e7d2a9e", func := "fieldfare/fieldfarelaw4.SlotFirst", spec := "slotFirst", inPlace := ["internal/reflectlite.ValueOf", "(internal/reflectlite.Value).Type", "(internal/reflectlite.Value).IsNil", "internal/reflectlite.TypeOf", "(internal/reflectlite.Value).Elem", "(internal/reflectlite.Value).Set"], unfollowed := true, recurses := true, named := ["errors.errorType"], apart := false, laid := [("errors.errorType", laid_errors_errorType)] }
def SlotFirstSaid : Prop := slotFirstRow.holds Tryz.pinned (OpenSpec.ofChange slotFirstSpec)

/-- ITS FALSE NEIGHBOUR: 'it returns false'. Refute it at one input. -/
def slotFirstWrong : ChangeSpec := { name := "slotFirst", fn := fun _ => fun
  | [d1, d2, d3] => { results := [.lit (.bool false)], args := [d1, d2, d3] }
  | _ => none }
def SlotFirstWrongFalsely : Prop := slotFirstRow.holds Tryz.pinned (OpenSpec.ofChange slotFirstWrong)

/-- 'fieldfarelaw4.SlotLong': WHATEVER THE INPUT: true; the input reads as it did. -/
def slotLongSpec : ChangeSpec := { name := "slotLong", fn := fun _ => fun
  | [d1, d2, d3] => { results := [.lit (.bool true)], args := [d1, d2, d3] }
  | _ => none }
def slotLongRow : OpenClaim := { program := "ytmgdkaohdpdmkaagreatdoor", sum := "637e54fd77d60802950309be97797266e431b83969f058ce5b364bb49e7d2a9e", func := "fieldfare/fieldfarelaw4.SlotLong", spec := "slotLong", inPlace := ["internal/reflectlite.ValueOf", "(internal/reflectlite.Value).Type", "(internal/reflectlite.Value).IsNil", "internal/reflectlite.TypeOf", "(internal/reflectlite.Value).Elem", "(internal/reflectlite.Value).Set"], unfollowed := true, recurses := true, named := ["errors.errorType"], apart := false, laid := [("errors.errorType", laid_errors_errorType)] }
def SlotLongSaid : Prop := slotLongRow.holds Tryz.pinned (OpenSpec.ofChange slotLongSpec)

/-- ITS FALSE NEIGHBOUR: 'it returns false'. Refute it at one input. -/
def slotLongWrong : ChangeSpec := { name := "slotLong", fn := fun _ => fun
  | [d1, d2, d3] => { results := [.lit (.bool false)], args := [d1, d2, d3] }
  | _ => none }
def SlotLongWrongFalsely : Prop := slotLongRow.holds Tryz.pinned (OpenSpec.ofChange slotLongWrong)

/-- 'fieldfarelaw4.SlotAfter': WHATEVER THE INPUT: true; the input reads as it did. -/
def slotAfterSpec : ChangeSpec := { name := "slotAfter", fn := fun _ => fun
  | [d1, d2, d3, d4] => { results := [.lit (.bool true)], args := [d1, d2, d3, d4] }
  | _ => none }
def slotAfterRow : OpenClaim := { program := "ytmgdkaohdpdmkaagreatdoor", sum := "637e54fd77d60802950309be97797266e431b83969f058ce5b364bb49e7d2a9e", func := "fieldfare/fieldfarelaw4.SlotAfter", spec := "slotAfter", inPlace := ["internal/reflectlite.ValueOf", "(internal/reflectlite.Value).Type", "(internal/reflectlite.Value).IsNil", "internal/reflectlite.TypeOf", "(internal/reflectlite.Value).Elem", "(internal/reflectlite.Value).Set"], unfollowed := true, recurses := true, named := ["errors.errorType"], apart := false, laid := [("errors.errorType", laid_errors_errorType)] }
def SlotAfterSaid : Prop := slotAfterRow.holds Tryz.pinned (OpenSpec.ofChange slotAfterSpec)

/-- ITS FALSE NEIGHBOUR: 'it returns false'. Refute it at one input. -/
def slotAfterWrong : ChangeSpec := { name := "slotAfter", fn := fun _ => fun
  | [d1, d2, d3, d4] => { results := [.lit (.bool false)], args := [d1, d2, d3, d4] }
  | _ => none }
def SlotAfterWrongFalsely : Prop := slotAfterRow.holds Tryz.pinned (OpenSpec.ofChange slotAfterWrong)

/-- 'fieldfarelaw4.SlotTakes': WHATEVER THE INPUT: true; the input reads as it did. -/
def slotTakesSpec : ChangeSpec := { name := "slotTakes", fn := fun _ => fun
  | [d1, d2] => { results := [.lit (.bool true)], args := [d1, d2] }
  | _ => none }
def slotTakesRow : OpenClaim := { program := "ytmgdkaohdpdmkaagreatdoor", sum := "637e54fd77d60802950309be97797266e431b83969f058ce5b364bb49e7d2a9e", func := "fieldfare/fieldfarelaw4.SlotTakes", spec := "slotTakes", inPlace := ["internal/reflectlite.ValueOf", "(internal/reflectlite.Value).Type", "(internal/reflectlite.Value).IsNil", "internal/reflectlite.TypeOf", "(internal/reflectlite.Value).Elem", "(internal/reflectlite.Value).Set"], unfollowed := true, recurses := true, named := ["errors.errorType"], apart := false, laid := [("errors.errorType", laid_errors_errorType)] }
def SlotTakesSaid : Prop := slotTakesRow.holds Tryz.pinned (OpenSpec.ofChange slotTakesSpec)

/-- ITS FALSE NEIGHBOUR: 'it returns false'. Refute it at one input. -/
def slotTakesWrong : ChangeSpec := { name := "slotTakes", fn := fun _ => fun
  | [d1, d2] => { results := [.lit (.bool false)], args := [d1, d2] }
  | _ => none }
def SlotTakesWrongFalsely : Prop := slotTakesRow.holds Tryz.pinned (OpenSpec.ofChange slotTakesWrong)

/- THE SECOND FORM. 'bulk': how many values and letters a reading holds, each counted each time it is reached (what is shared counts as often as it is met; a slice's spare places count too). A statement '..UptoSaid' is the law's where the arguments, and the package variables that the reading takes, are together of bulk at most 1048576: NARROWER than '..Said'. Prove '..Said' where nothing that the law and all that it calls make is longer than what came in: it says more and counts as full. Else prove '..UptoSaid'. A law counts once. -/
mutual
def uptoBulk {H : Type} : DataW H → Nat
  | .lit (.string bytes) => bytes.length + 1
  | .lit _ => 1
  | .nil => 1
  | .ptr d => uptoBulk d + 1
  | .slice elems spare => uptoBulkAll elems + uptoBulkAll spare + 1
  | .agg parts => uptoBulkAll parts + 1
  | .iface _ d => uptoBulk d + 1
  | .map entries => uptoBulkEntries entries + 1
  | .held _ => 1
def uptoBulkAll {H : Type} : List (DataW H) → Nat
  | [] => 0
  | d :: r => uptoBulk d + uptoBulkAll r
def uptoBulkEntries {H : Type} : List (Lit × DataW H) → Nat
  | [] => 0
  | x :: r => uptoBulkEntry x + uptoBulkEntries r
def uptoBulkEntry {H : Type} : Lit × DataW H → Nat
  | (.string bytes, d) => bytes.length + uptoBulk d + 1
  | (_, d) => uptoBulk d + 1
 end
def uptoSmall : (H : Type) → List (DataW H) → Bool := fun _ ds => decide (uptoBulkAll ds ≤ 1048576)
def OpenSpec.upto (s : _root_.Go.ChangeSpec) : _root_.Go.OpenSpec := { _root_.Go.OpenSpec.ofChange s with cond := some uptoSmall }

/-- 'fieldfarelaw4.SlotAll', WHERE WHAT IT READS IS OF BULK AT MOST 1048576: true; the input reads as it did. -/
def slotAllUptoRow : OpenClaim := { program := "ytmgdkaohdpdmkaagreatdoor", sum := "637e54fd77d60802950309be97797266e431b83969f058ce5b364bb49e7d2a9e", func := "fieldfare/fieldfarelaw4.SlotAll", spec := "slotAll", inPlace := ["internal/reflectlite.ValueOf", "(internal/reflectlite.Value).Type", "(internal/reflectlite.Value).IsNil", "internal/reflectlite.TypeOf", "(internal/reflectlite.Value).Elem", "(internal/reflectlite.Value).Set"], unfollowed := true, recurses := true, named := ["errors.errorType"], apart := false, laid := [("errors.errorType", laid_errors_errorType)], narrowed := true }
def SlotAllUptoSaid : Prop := slotAllUptoRow.holds Tryz.pinned (OpenSpec.upto slotAllSpec)

/-- 'fieldfarelaw4.SlotMake', WHERE WHAT IT READS IS OF BULK AT MOST 1048576: true; the input reads as it did. -/
def slotMakeUptoRow : OpenClaim := { program := "ytmgdkaohdpdmkaagreatdoor", sum := "637e54fd77d60802950309be97797266e431b83969f058ce5b364bb49e7d2a9e", func := "fieldfare/fieldfarelaw4.SlotMake", spec := "slotMake", inPlace := ["internal/reflectlite.ValueOf", "(internal/reflectlite.Value).Type", "(internal/reflectlite.Value).IsNil", "internal/reflectlite.TypeOf", "(internal/reflectlite.Value).Elem", "(internal/reflectlite.Value).Set"], unfollowed := true, recurses := true, named := ["errors.errorType"], apart := false, laid := [("errors.errorType", laid_errors_errorType)], narrowed := true }
def SlotMakeUptoSaid : Prop := slotMakeUptoRow.holds Tryz.pinned (OpenSpec.upto slotMakeSpec)

/-- 'fieldfarelaw4.SlotFirst', WHERE WHAT IT READS IS OF BULK AT MOST 1048576: true; the input reads as it did. -/
def slotFirstUptoRow : OpenClaim := { program := "ytmgdkaohdpdmkaagreatdoor", sum := "637e54fd77d60802950309be97797266e431b83969f058ce5b364bb49e7d2a9e", func := "fieldfare/fieldfarelaw4.SlotFirst", spec := "slotFirst", inPlace := ["internal/reflectlite.ValueOf", "(internal/reflectlite.Value).Type", "(internal/reflectlite.Value).IsNil", "internal/reflectlite.TypeOf", "(internal/reflectlite.Value).Elem", "(internal/reflectlite.Value).Set"], unfollowed := true, recurses := true, named := ["errors.errorType"], apart := false, laid := [("errors.errorType", laid_errors_errorType)], narrowed := true }
def SlotFirstUptoSaid : Prop := slotFirstUptoRow.holds Tryz.pinned (OpenSpec.upto slotFirstSpec)

/-- 'fieldfarelaw4.SlotLong', WHERE WHAT IT READS IS OF BULK AT MOST 1048576: true; the input reads as it did. -/
def slotLongUptoRow : OpenClaim := { program := "ytmgdkaohdpdmkaagreatdoor", sum := "637e54fd77d60802950309be97797266e431b83969f058ce5b364bb49e7d2a9e", func := "fieldfare/fieldfarelaw4.SlotLong", spec := "slotLong", inPlace := ["internal/reflectlite.ValueOf", "(internal/reflectlite.Value).Type", "(internal/reflectlite.Value).IsNil", "internal/reflectlite.TypeOf", "(internal/reflectlite.Value).Elem", "(internal/reflectlite.Value).Set"], unfollowed := true, recurses := true, named := ["errors.errorType"], apart := false, laid := [("errors.errorType", laid_errors_errorType)], narrowed := true }
def SlotLongUptoSaid : Prop := slotLongUptoRow.holds Tryz.pinned (OpenSpec.upto slotLongSpec)

/-- 'fieldfarelaw4.SlotAfter', WHERE WHAT IT READS IS OF BULK AT MOST 1048576: true; the input reads as it did. -/
def slotAfterUptoRow : OpenClaim := { program := "ytmgdkaohdpdmkaagreatdoor", sum := "637e54fd77d60802950309be97797266e431b83969f058ce5b364bb49e7d2a9e", func := "fieldfare/fieldfarelaw4.SlotAfter", spec := "slotAfter", inPlace := ["internal/reflectlite.ValueOf", "(internal/reflectlite.Value).Type", "(internal/reflectlite.Value).IsNil", "internal/reflectlite.TypeOf", "(internal/reflectlite.Value).Elem", "(internal/reflectlite.Value).Set"], unfollowed := true, recurses := true, named := ["errors.errorType"], apart := false, laid := [("errors.errorType", laid_errors_errorType)], narrowed := true }
def SlotAfterUptoSaid : Prop := slotAfterUptoRow.holds Tryz.pinned (OpenSpec.upto slotAfterSpec)

/-- 'fieldfarelaw4.SlotTakes', WHERE WHAT IT READS IS OF BULK AT MOST 1048576: true; the input reads as it did. -/
def slotTakesUptoRow : OpenClaim := { program := "ytmgdkaohdpdmkaagreatdoor", sum := "637e54fd77d60802950309be97797266e431b83969f058ce5b364bb49e7d2a9e", func := "fieldfare/fieldfarelaw4.SlotTakes", spec := "slotTakes", inPlace := ["internal/reflectlite.ValueOf", "(internal/reflectlite.Value).Type", "(internal/reflectlite.Value).IsNil", "internal/reflectlite.TypeOf", "(internal/reflectlite.Value).Elem", "(internal/reflectlite.Value).Set"], unfollowed := true, recurses := true, named := ["errors.errorType"], apart := false, laid := [("errors.errorType", laid_errors_errorType)], narrowed := true }
def SlotTakesUptoSaid : Prop := slotTakesUptoRow.holds Tryz.pinned (OpenSpec.upto slotTakesSpec)

end Rows
end Go.Proofs.YtmgdkaohdpdmkaaGreatDoor
