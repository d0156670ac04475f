/-
  NARROWER THAN 'FOR EVERY INPUT', by the rows' own cells (each row's printed sentence says how): PoolAll: laid · PoolWhole: laid · PoolTurn: laid · PoolLeast: laid · VectEdges: laid · MetricOrder: laid · BestOwn: laid · QuantStep: laid · QuantOrder: laid.
  DERIVED. THE GIVEN ROWS OF THIS SEAT. 9 by the template 'for every input the law returns true; each argument reads behind the call as it read before'; 0 by the template 'total and deterministic' (their statements: YteehcffmccgciaaGreatDoorTotals.lean).
  GIVEN WITH THE SEED: the statements are not yours to turn. If you find one false, say at which input.
  Laid BY PROGRAM, IN A SANDBOX (cutbox-rows.mjs): the forced cells as the released guide's own fill.sh prints them over the translation 2f825087b44cefbe… (all of the seat's roots in one cut). By AI agents, Wed Nov 11 2026. No macro, syntax, notation, axiom, sorry.
-/
import Derived.Test.YteehcffmccgciaaGreatDoorChecked
import GoSem.Claim
import GoSem.ClaimJoined
import GoSem.ClaimMapViews
import Derived.JoinedTies
import Derived.KernelRfl
namespace Go.Proofs.YteehcffmccgciaaGreatDoor
/- THE CELL 'sum', in the pinned program and in every row, IS THE sha256 OF THE DUMP (.gsa) THAT YteehcffmccgciaaGreatDoorProg.lean LOADS. Nothing in Lean hashes anything: it is a label: what it is worth is what the hold of that sum in a sandbox is worth. -/
noncomputable def Tryz.pinned : Pinned := { name := "yteehcffmccgciaagreatdoor", sum := "2f825087b44cefbe0d46c9e579793ca74dffdd2387e1b9093ec3e5349d8c0ae1", checked := Tryz.checked }
namespace Rows
def none {H : Type} : Left H := { results := [], args := [] }

/- WHAT THE LISTED PACKAGE-LEVEL VARIABLES READ AS WHEN THE CALL BEGINS. Each datum BY PROGRAM (the guide's laid-datum.mjs) off the statement by which the dump's own 'gosem.cut.vars' lays the variable. In a bare row this is a premise. The card (YteehcffmccgciaaGreatDoorCards.lean) ties it to the program's text. -/
def laid_errors_errorType {H : Type} : DataW H := .iface "internal/reflectlite.rtype" (.agg [.ptr (.lit (.string [101, 114, 114, 111, 114]))])

/-- 'fieldfarelaw7.PoolAll': WHATEVER THE INPUT: true; the input reads as it did. -/
def poolAllSpec : ChangeSpec := { name := "poolAll", fn := fun _ => fun
  | [d1, d2] => { results := [.lit (.bool true)], args := [d1, d2] }
  | _ => none }
def poolAllRow : OpenClaim := { program := "yteehcffmccgciaagreatdoor", sum := "2f825087b44cefbe0d46c9e579793ca74dffdd2387e1b9093ec3e5349d8c0ae1", func := "fieldfare/fieldfarelaw7.PoolAll", spec := "poolAll", inPlace := ["internal/reflectlite.ValueOf", "(internal/reflectlite.Value).Type", "(internal/reflectlite.Value).IsNil", "internal/reflectlite.TypeOf", "(internal/reflectlite.Value).Elem", "(internal/reflectlite.Value).Set"], unfollowed := true, recurses := true, named := ["errors.errorType"], apart := false, laid := [("errors.errorType", laid_errors_errorType)] }
def PoolAllSaid : Prop := poolAllRow.holds Tryz.pinned (OpenSpec.ofChange poolAllSpec)

/-- ITS FALSE NEIGHBOUR: 'it returns false'. Refute it at one input. -/
def poolAllWrong : ChangeSpec := { name := "poolAll", fn := fun _ => fun
  | [d1, d2] => { results := [.lit (.bool false)], args := [d1, d2] }
  | _ => none }
def PoolAllWrongFalsely : Prop := poolAllRow.holds Tryz.pinned (OpenSpec.ofChange poolAllWrong)

/-- 'fieldfarelaw7.PoolWhole': WHATEVER THE INPUT: true; the input reads as it did. -/
def poolWholeSpec : ChangeSpec := { name := "poolWhole", fn := fun _ => fun
  | [d1, d2] => { results := [.lit (.bool true)], args := [d1, d2] }
  | _ => none }
def poolWholeRow : OpenClaim := { program := "yteehcffmccgciaagreatdoor", sum := "2f825087b44cefbe0d46c9e579793ca74dffdd2387e1b9093ec3e5349d8c0ae1", func := "fieldfare/fieldfarelaw7.PoolWhole", spec := "poolWhole", inPlace := ["internal/reflectlite.ValueOf", "(internal/reflectlite.Value).Type", "(internal/reflectlite.Value).IsNil", "internal/reflectlite.TypeOf", "(internal/reflectlite.Value).Elem", "(internal/reflectlite.Value).Set"], unfollowed := true, recurses := true, named := ["errors.errorType"], apart := false, laid := [("errors.errorType", laid_errors_errorType)] }
def PoolWholeSaid : Prop := poolWholeRow.holds Tryz.pinned (OpenSpec.ofChange poolWholeSpec)

/-- ITS FALSE NEIGHBOUR: 'it returns false'. Refute it at one input. -/
def poolWholeWrong : ChangeSpec := { name := "poolWhole", fn := fun _ => fun
  | [d1, d2] => { results := [.lit (.bool false)], args := [d1, d2] }
  | _ => none }
def PoolWholeWrongFalsely : Prop := poolWholeRow.holds Tryz.pinned (OpenSpec.ofChange poolWholeWrong)

/-- 'fieldfarelaw7.PoolTurn': WHATEVER THE INPUT: true; the input reads as it did. -/
def poolTurnSpec : ChangeSpec := { name := "poolTurn", fn := fun _ => fun
  | [d1, d2, d3, d4] => { results := [.lit (.bool true)], args := [d1, d2, d3, d4] }
  | _ => none }
def poolTurnRow : OpenClaim := { program := "yteehcffmccgciaagreatdoor", sum := "2f825087b44cefbe0d46c9e579793ca74dffdd2387e1b9093ec3e5349d8c0ae1", func := "fieldfare/fieldfarelaw7.PoolTurn", spec := "poolTurn", inPlace := ["internal/reflectlite.ValueOf", "(internal/reflectlite.Value).Type", "(internal/reflectlite.Value).IsNil", "internal/reflectlite.TypeOf", "(internal/reflectlite.Value).Elem", "(internal/reflectlite.Value).Set"], unfollowed := true, recurses := true, named := ["errors.errorType"], apart := false, laid := [("errors.errorType", laid_errors_errorType)] }
def PoolTurnSaid : Prop := poolTurnRow.holds Tryz.pinned (OpenSpec.ofChange poolTurnSpec)

/-- ITS FALSE NEIGHBOUR: 'it returns false'. Refute it at one input. -/
def poolTurnWrong : ChangeSpec := { name := "poolTurn", fn := fun _ => fun
  | [d1, d2, d3, d4] => { results := [.lit (.bool false)], args := [d1, d2, d3, d4] }
  | _ => none }
def PoolTurnWrongFalsely : Prop := poolTurnRow.holds Tryz.pinned (OpenSpec.ofChange poolTurnWrong)

/-- 'fieldfarelaw7.PoolLeast': WHATEVER THE INPUT: true; the input reads as it did. -/
def poolLeastSpec : ChangeSpec := { name := "poolLeast", fn := fun _ => fun
  | [d1, d2, d3] => { results := [.lit (.bool true)], args := [d1, d2, d3] }
  | _ => none }
def poolLeastRow : OpenClaim := { program := "yteehcffmccgciaagreatdoor", sum := "2f825087b44cefbe0d46c9e579793ca74dffdd2387e1b9093ec3e5349d8c0ae1", func := "fieldfare/fieldfarelaw7.PoolLeast", spec := "poolLeast", inPlace := ["internal/reflectlite.ValueOf", "(internal/reflectlite.Value).Type", "(internal/reflectlite.Value).IsNil", "internal/reflectlite.TypeOf", "(internal/reflectlite.Value).Elem", "(internal/reflectlite.Value).Set"], unfollowed := true, recurses := true, named := ["errors.errorType"], apart := false, laid := [("errors.errorType", laid_errors_errorType)] }
def PoolLeastSaid : Prop := poolLeastRow.holds Tryz.pinned (OpenSpec.ofChange poolLeastSpec)

/-- ITS FALSE NEIGHBOUR: 'it returns false'. Refute it at one input. -/
def poolLeastWrong : ChangeSpec := { name := "poolLeast", fn := fun _ => fun
  | [d1, d2, d3] => { results := [.lit (.bool false)], args := [d1, d2, d3] }
  | _ => none }
def PoolLeastWrongFalsely : Prop := poolLeastRow.holds Tryz.pinned (OpenSpec.ofChange poolLeastWrong)

/-- 'fieldfarelaw7.VectEdges': WHATEVER THE INPUT: true; the input reads as it did. -/
def vectEdgesSpec : ChangeSpec := { name := "vectEdges", fn := fun _ => fun
  | [d1, d2, d3] => { results := [.lit (.bool true)], args := [d1, d2, d3] }
  | _ => none }
def vectEdgesRow : OpenClaim := { program := "yteehcffmccgciaagreatdoor", sum := "2f825087b44cefbe0d46c9e579793ca74dffdd2387e1b9093ec3e5349d8c0ae1", func := "fieldfare/fieldfarelaw7.VectEdges", spec := "vectEdges", inPlace := ["internal/reflectlite.ValueOf", "(internal/reflectlite.Value).Type", "(internal/reflectlite.Value).IsNil", "internal/reflectlite.TypeOf", "(internal/reflectlite.Value).Elem", "(internal/reflectlite.Value).Set"], unfollowed := true, recurses := true, named := ["errors.errorType"], apart := false, laid := [("errors.errorType", laid_errors_errorType)] }
def VectEdgesSaid : Prop := vectEdgesRow.holds Tryz.pinned (OpenSpec.ofChange vectEdgesSpec)

/-- ITS FALSE NEIGHBOUR: 'it returns false'. Refute it at one input. -/
def vectEdgesWrong : ChangeSpec := { name := "vectEdges", fn := fun _ => fun
  | [d1, d2, d3] => { results := [.lit (.bool false)], args := [d1, d2, d3] }
  | _ => none }
def VectEdgesWrongFalsely : Prop := vectEdgesRow.holds Tryz.pinned (OpenSpec.ofChange vectEdgesWrong)

/-- 'fieldfarelaw7.MetricOrder': WHATEVER THE INPUT: true; the input reads as it did. -/
def metricOrderSpec : ChangeSpec := { name := "metricOrder", fn := fun _ => fun
  | [d1, d2, d3] => { results := [.lit (.bool true)], args := [d1, d2, d3] }
  | _ => none }
def metricOrderRow : OpenClaim := { program := "yteehcffmccgciaagreatdoor", sum := "2f825087b44cefbe0d46c9e579793ca74dffdd2387e1b9093ec3e5349d8c0ae1", func := "fieldfare/fieldfarelaw7.MetricOrder", spec := "metricOrder", inPlace := ["internal/reflectlite.ValueOf", "(internal/reflectlite.Value).Type", "(internal/reflectlite.Value).IsNil", "internal/reflectlite.TypeOf", "(internal/reflectlite.Value).Elem", "(internal/reflectlite.Value).Set"], unfollowed := true, recurses := true, named := ["errors.errorType"], apart := false, laid := [("errors.errorType", laid_errors_errorType)] }
def MetricOrderSaid : Prop := metricOrderRow.holds Tryz.pinned (OpenSpec.ofChange metricOrderSpec)

/-- ITS FALSE NEIGHBOUR: 'it returns false'. Refute it at one input. -/
def metricOrderWrong : ChangeSpec := { name := "metricOrder", fn := fun _ => fun
  | [d1, d2, d3] => { results := [.lit (.bool false)], args := [d1, d2, d3] }
  | _ => none }
def MetricOrderWrongFalsely : Prop := metricOrderRow.holds Tryz.pinned (OpenSpec.ofChange metricOrderWrong)

/-- 'fieldfarelaw7.BestOwn': WHATEVER THE INPUT: true; the input reads as it did. -/
def bestOwnSpec : ChangeSpec := { name := "bestOwn", fn := fun _ => fun
  | [d1, d2] => { results := [.lit (.bool true)], args := [d1, d2] }
  | _ => none }
def bestOwnRow : OpenClaim := { program := "yteehcffmccgciaagreatdoor", sum := "2f825087b44cefbe0d46c9e579793ca74dffdd2387e1b9093ec3e5349d8c0ae1", func := "fieldfare/fieldfarelaw7.BestOwn", spec := "bestOwn", inPlace := ["internal/reflectlite.ValueOf", "(internal/reflectlite.Value).Type", "(internal/reflectlite.Value).IsNil", "internal/reflectlite.TypeOf", "(internal/reflectlite.Value).Elem", "(internal/reflectlite.Value).Set"], unfollowed := true, recurses := true, named := ["errors.errorType"], apart := false, laid := [("errors.errorType", laid_errors_errorType)] }
def BestOwnSaid : Prop := bestOwnRow.holds Tryz.pinned (OpenSpec.ofChange bestOwnSpec)

/-- ITS FALSE NEIGHBOUR: 'it returns false'. Refute it at one input. -/
def bestOwnWrong : ChangeSpec := { name := "bestOwn", fn := fun _ => fun
  | [d1, d2] => { results := [.lit (.bool false)], args := [d1, d2] }
  | _ => none }
def BestOwnWrongFalsely : Prop := bestOwnRow.holds Tryz.pinned (OpenSpec.ofChange bestOwnWrong)

/-- 'fieldfarelaw7.QuantStep': WHATEVER THE INPUT: true; the input reads as it did. -/
def quantStepSpec : ChangeSpec := { name := "quantStep", fn := fun _ => fun
  | [d1, d2, d3] => { results := [.lit (.bool true)], args := [d1, d2, d3] }
  | _ => none }
def quantStepRow : OpenClaim := { program := "yteehcffmccgciaagreatdoor", sum := "2f825087b44cefbe0d46c9e579793ca74dffdd2387e1b9093ec3e5349d8c0ae1", func := "fieldfare/fieldfarelaw7.QuantStep", spec := "quantStep", inPlace := ["internal/reflectlite.ValueOf", "(internal/reflectlite.Value).Type", "(internal/reflectlite.Value).IsNil", "internal/reflectlite.TypeOf", "(internal/reflectlite.Value).Elem", "(internal/reflectlite.Value).Set"], unfollowed := true, recurses := true, named := ["errors.errorType"], apart := false, laid := [("errors.errorType", laid_errors_errorType)] }
def QuantStepSaid : Prop := quantStepRow.holds Tryz.pinned (OpenSpec.ofChange quantStepSpec)

/-- ITS FALSE NEIGHBOUR: 'it returns false'. Refute it at one input. -/
def quantStepWrong : ChangeSpec := { name := "quantStep", fn := fun _ => fun
  | [d1, d2, d3] => { results := [.lit (.bool false)], args := [d1, d2, d3] }
  | _ => none }
def QuantStepWrongFalsely : Prop := quantStepRow.holds Tryz.pinned (OpenSpec.ofChange quantStepWrong)

/-- 'fieldfarelaw7.QuantOrder': WHATEVER THE INPUT: true; the input reads as it did. -/
def quantOrderSpec : ChangeSpec := { name := "quantOrder", fn := fun _ => fun
  | [d1, d2, d3, d4] => { results := [.lit (.bool true)], args := [d1, d2, d3, d4] }
  | _ => none }
def quantOrderRow : OpenClaim := { program := "yteehcffmccgciaagreatdoor", sum := "2f825087b44cefbe0d46c9e579793ca74dffdd2387e1b9093ec3e5349d8c0ae1", func := "fieldfare/fieldfarelaw7.QuantOrder", spec := "quantOrder", inPlace := ["internal/reflectlite.ValueOf", "(internal/reflectlite.Value).Type", "(internal/reflectlite.Value).IsNil", "internal/reflectlite.TypeOf", "(internal/reflectlite.Value).Elem", "(internal/reflectlite.Value).Set"], unfollowed := true, recurses := true, named := ["errors.errorType"], apart := false, laid := [("errors.errorType", laid_errors_errorType)] }
def QuantOrderSaid : Prop := quantOrderRow.holds Tryz.pinned (OpenSpec.ofChange quantOrderSpec)

/-- ITS FALSE NEIGHBOUR: 'it returns false'. Refute it at one input. -/
def quantOrderWrong : ChangeSpec := { name := "quantOrder", fn := fun _ => fun
  | [d1, d2, d3, d4] => { results := [.lit (.bool false)], args := [d1, d2, d3, d4] }
  | _ => none }
def QuantOrderWrongFalsely : Prop := quantOrderRow.holds Tryz.pinned (OpenSpec.ofChange quantOrderWrong)

/- THE SECOND FORM. 'bulk': how many values and letters a reading holds, each counted each time it is reached (what is shared counts as often as it is met; a slice's spare places count too). A statement '..UptoSaid' is the law's where the arguments, and the package variables that the reading takes, are together of bulk at most 1048576: NARROWER than '..Said'. Prove '..Said' where nothing that the law and all that it calls make is longer than what came in: it says more and counts as full. Else prove '..UptoSaid'. A law counts once. -/
mutual
def uptoBulk {H : Type} : DataW H → Nat
  | .lit (.string bytes) => bytes.length + 1
  | .lit _ => 1
  | .nil => 1
  | .ptr d => uptoBulk d + 1
  | .slice elems spare => uptoBulkAll elems + uptoBulkAll spare + 1
  | .agg parts => uptoBulkAll parts + 1
  | .iface _ d => uptoBulk d + 1
  | .map entries => uptoBulkEntries entries + 1
  | .held _ => 1
def uptoBulkAll {H : Type} : List (DataW H) → Nat
  | [] => 0
  | d :: r => uptoBulk d + uptoBulkAll r
def uptoBulkEntries {H : Type} : List (Lit × DataW H) → Nat
  | [] => 0
  | x :: r => uptoBulkEntry x + uptoBulkEntries r
def uptoBulkEntry {H : Type} : Lit × DataW H → Nat
  | (.string bytes, d) => bytes.length + uptoBulk d + 1
  | (_, d) => uptoBulk d + 1
 end
def uptoSmall : (H : Type) → List (DataW H) → Bool := fun _ ds => decide (uptoBulkAll ds ≤ 1048576)
def OpenSpec.upto (s : _root_.Go.ChangeSpec) : _root_.Go.OpenSpec := { _root_.Go.OpenSpec.ofChange s with cond := some uptoSmall }

/-- 'fieldfarelaw7.PoolAll', WHERE WHAT IT READS IS OF BULK AT MOST 1048576: true; the input reads as it did. -/
def poolAllUptoRow : OpenClaim := { program := "yteehcffmccgciaagreatdoor", sum := "2f825087b44cefbe0d46c9e579793ca74dffdd2387e1b9093ec3e5349d8c0ae1", func := "fieldfare/fieldfarelaw7.PoolAll", spec := "poolAll", inPlace := ["internal/reflectlite.ValueOf", "(internal/reflectlite.Value).Type", "(internal/reflectlite.Value).IsNil", "internal/reflectlite.TypeOf", "(internal/reflectlite.Value).Elem", "(internal/reflectlite.Value).Set"], unfollowed := true, recurses := true, named := ["errors.errorType"], apart := false, laid := [("errors.errorType", laid_errors_errorType)], narrowed := true }
def PoolAllUptoSaid : Prop := poolAllUptoRow.holds Tryz.pinned (OpenSpec.upto poolAllSpec)

/-- 'fieldfarelaw7.PoolWhole', WHERE WHAT IT READS IS OF BULK AT MOST 1048576: true; the input reads as it did. -/
def poolWholeUptoRow : OpenClaim := { program := "yteehcffmccgciaagreatdoor", sum := "2f825087b44cefbe0d46c9e579793ca74dffdd2387e1b9093ec3e5349d8c0ae1", func := "fieldfare/fieldfarelaw7.PoolWhole", spec := "poolWhole", inPlace := ["internal/reflectlite.ValueOf", "(internal/reflectlite.Value).Type", "(internal/reflectlite.Value).IsNil", "internal/reflectlite.TypeOf", "(internal/reflectlite.Value).Elem", "(internal/reflectlite.Value).Set"], unfollowed := true, recurses := true, named := ["errors.errorType"], apart := false, laid := [("errors.errorType", laid_errors_errorType)], narrowed := true }
def PoolWholeUptoSaid : Prop := poolWholeUptoRow.holds Tryz.pinned (OpenSpec.upto poolWholeSpec)

/-- 'fieldfarelaw7.PoolTurn', WHERE WHAT IT READS IS OF BULK AT MOST 1048576: true; the input reads as it did. -/
def poolTurnUptoRow : OpenClaim := { program := "yteehcffmccgciaagreatdoor", sum := "2f825087b44cefbe0d46c9e579793ca74dffdd2387e1b9093ec3e5349d8c0ae1", func := "fieldfare/fieldfarelaw7.PoolTurn", spec := "poolTurn", inPlace := ["internal/reflectlite.ValueOf", "(internal/reflectlite.Value).Type", "(internal/reflectlite.Value).IsNil", "internal/reflectlite.TypeOf", "(internal/reflectlite.Value).Elem", "(internal/reflectlite.Value).Set"], unfollowed := true, recurses := true, named := ["errors.errorType"], apart := false, laid := [("errors.errorType", laid_errors_errorType)], narrowed := true }
def PoolTurnUptoSaid : Prop := poolTurnUptoRow.holds Tryz.pinned (OpenSpec.upto poolTurnSpec)

/-- 'fieldfarelaw7.PoolLeast', WHERE WHAT IT READS IS OF BULK AT MOST 1048576: true; the input reads as it did. -/
def poolLeastUptoRow : OpenClaim := { program := "yteehcffmccgciaagreatdoor", sum := "2f825087b44cefbe0d46c9e579793ca74dffdd2387e1b9093ec3e5349d8c0ae1", func := "fieldfare/fieldfarelaw7.PoolLeast", spec := "poolLeast", inPlace := ["internal/reflectlite.ValueOf", "(internal/reflectlite.Value).Type", "(internal/reflectlite.Value).IsNil", "internal/reflectlite.TypeOf", "(internal/reflectlite.Value).Elem", "(internal/reflectlite.Value).Set"], unfollowed := true, recurses := true, named := ["errors.errorType"], apart := false, laid := [("errors.errorType", laid_errors_errorType)], narrowed := true }
def PoolLeastUptoSaid : Prop := poolLeastUptoRow.holds Tryz.pinned (OpenSpec.upto poolLeastSpec)

/-- 'fieldfarelaw7.VectEdges', WHERE WHAT IT READS IS OF BULK AT MOST 1048576: true; the input reads as it did. -/
def vectEdgesUptoRow : OpenClaim := { program := "yteehcffmccgciaagreatdoor", sum := "2f825087b44cefbe0d46c9e579793ca74dffdd2387e1b9093ec3e5349d8c0ae1", func := "fieldfare/fieldfarelaw7.VectEdges", spec := "vectEdges", inPlace := ["internal/reflectlite.ValueOf", "(internal/reflectlite.Value).Type", "(internal/reflectlite.Value).IsNil", "internal/reflectlite.TypeOf", "(internal/reflectlite.Value).Elem", "(internal/reflectlite.Value).Set"], unfollowed := true, recurses := true, named := ["errors.errorType"], apart := false, laid := [("errors.errorType", laid_errors_errorType)], narrowed := true }
def VectEdgesUptoSaid : Prop := vectEdgesUptoRow.holds Tryz.pinned (OpenSpec.upto vectEdgesSpec)

/-- 'fieldfarelaw7.MetricOrder', WHERE WHAT IT READS IS OF BULK AT MOST 1048576: true; the input reads as it did. -/
def metricOrderUptoRow : OpenClaim := { program := "yteehcffmccgciaagreatdoor", sum := "2f825087b44cefbe0d46c9e579793ca74dffdd2387e1b9093ec3e5349d8c0ae1", func := "fieldfare/fieldfarelaw7.MetricOrder", spec := "metricOrder", inPlace := ["internal/reflectlite.ValueOf", "(internal/reflectlite.Value).Type", "(internal/reflectlite.Value).IsNil", "internal/reflectlite.TypeOf", "(internal/reflectlite.Value).Elem", "(internal/reflectlite.Value).Set"], unfollowed := true, recurses := true, named := ["errors.errorType"], apart := false, laid := [("errors.errorType", laid_errors_errorType)], narrowed := true }
def MetricOrderUptoSaid : Prop := metricOrderUptoRow.holds Tryz.pinned (OpenSpec.upto metricOrderSpec)

/-- 'fieldfarelaw7.BestOwn', WHERE WHAT IT READS IS OF BULK AT MOST 1048576: true; the input reads as it did. -/
def bestOwnUptoRow : OpenClaim := { program := "yteehcffmccgciaagreatdoor", sum := "2f825087b44cefbe0d46c9e579793ca74dffdd2387e1b9093ec3e5349d8c0ae1", func := "fieldfare/fieldfarelaw7.BestOwn", spec := "bestOwn", inPlace := ["internal/reflectlite.ValueOf", "(internal/reflectlite.Value).Type", "(internal/reflectlite.Value).IsNil", "internal/reflectlite.TypeOf", "(internal/reflectlite.Value).Elem", "(internal/reflectlite.Value).Set"], unfollowed := true, recurses := true, named := ["errors.errorType"], apart := false, laid := [("errors.errorType", laid_errors_errorType)], narrowed := true }
def BestOwnUptoSaid : Prop := bestOwnUptoRow.holds Tryz.pinned (OpenSpec.upto bestOwnSpec)

/-- 'fieldfarelaw7.QuantStep', WHERE WHAT IT READS IS OF BULK AT MOST 1048576: true; the input reads as it did. -/
def quantStepUptoRow : OpenClaim := { program := "yteehcffmccgciaagreatdoor", sum := "2f825087b44cefbe0d46c9e579793ca74dffdd2387e1b9093ec3e5349d8c0ae1", func := "fieldfare/fieldfarelaw7.QuantStep", spec := "quantStep", inPlace := ["internal/reflectlite.ValueOf", "(internal/reflectlite.Value).Type", "(internal/reflectlite.Value).IsNil", "internal/reflectlite.TypeOf", "(internal/reflectlite.Value).Elem", "(internal/reflectlite.Value).Set"], unfollowed := true, recurses := true, named := ["errors.errorType"], apart := false, laid := [("errors.errorType", laid_errors_errorType)], narrowed := true }
def QuantStepUptoSaid : Prop := quantStepUptoRow.holds Tryz.pinned (OpenSpec.upto quantStepSpec)

/-- 'fieldfarelaw7.QuantOrder', WHERE WHAT IT READS IS OF BULK AT MOST 1048576: true; the input reads as it did. -/
def quantOrderUptoRow : OpenClaim := { program := "yteehcffmccgciaagreatdoor", sum := "2f825087b44cefbe0d46c9e579793ca74dffdd2387e1b9093ec3e5349d8c0ae1", func := "fieldfare/fieldfarelaw7.QuantOrder", spec := "quantOrder", inPlace := ["internal/reflectlite.ValueOf", "(internal/reflectlite.Value).Type", "(internal/reflectlite.Value).IsNil", "internal/reflectlite.TypeOf", "(internal/reflectlite.Value).Elem", "(internal/reflectlite.Value).Set"], unfollowed := true, recurses := true, named := ["errors.errorType"], apart := false, laid := [("errors.errorType", laid_errors_errorType)], narrowed := true }
def QuantOrderUptoSaid : Prop := quantOrderUptoRow.holds Tryz.pinned (OpenSpec.upto quantOrderSpec)

end Rows
end Go.Proofs.YteehcffmccgciaaGreatDoor
