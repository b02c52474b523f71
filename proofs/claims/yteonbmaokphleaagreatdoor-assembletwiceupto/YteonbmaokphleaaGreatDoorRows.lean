/-
  NARROWER THAN 'FOR EVERY INPUT', by the rows' own cells (each row's printed sentence says how): AssembleTwice: loops, laid.
  DERIVED. THE GIVEN ROWS OF THIS SEAT. 1 by the template 'for every input the law returns true; each argument reads behind the call as it read before'; 0 by the template 'total and deterministic' (their statements: YteonbmaokphleaaGreatDoorTotals.lean).
  GIVEN WITH THE SEED: the statements are not yours to turn. If you find one false, say at which input.
  Laid BY PROGRAM, IN A SANDBOX (cutbox-rows.mjs): the forced cells as the released guide's own fill.sh prints them over the translation 32589487ef1f860b… (all of the seat's roots in one cut). By AI agents, Wed Nov 11 2026. No macro, syntax, notation, axiom, sorry.
-/
import Derived.Test.YteonbmaokphleaaGreatDoorChecked
import GoSem.Claim
import GoSem.ClaimJoined
import GoSem.ClaimMapViews
import Derived.JoinedTies
import Derived.KernelRfl
namespace Go.Proofs.YteonbmaokphleaaGreatDoor
/- THE CELL 'sum', in the pinned program and in every row, IS THE sha256 OF THE DUMP (.gsa) THAT YteonbmaokphleaaGreatDoorProg.lean LOADS. Nothing in Lean hashes anything: it is a label: what it is worth is what the hold of that sum in a sandbox is worth. -/
noncomputable def Tryz.pinned : Pinned := { name := "yteonbmaokphleaagreatdoor", sum := "32589487ef1f860b7499c85b166b49962af6ae16ac6cffa3ea391db4ac537c1c", checked := Tryz.checked }
namespace Rows
def none {H : Type} : Left H := { results := [], args := [] }

/- WHAT THE LISTED PACKAGE-LEVEL VARIABLES READ AS WHEN THE CALL BEGINS. Each datum BY PROGRAM (the guide's laid-datum.mjs) off the statement by which the dump's own 'gosem.cut.vars' lays the variable. In a bare row this is a premise. The card (YteonbmaokphleaaGreatDoorCards.lean) ties it to the program's text. -/
def laid_errors_errorType {H : Type} : DataW H := .iface "internal/reflectlite.rtype" (.agg [.ptr (.lit (.string [101, 114, 114, 111, 114]))])
def laid_shredcol_api_ErrText {H : Type} : DataW H := .iface "*errors.errorString" (.ptr (.agg [.lit (.string [115, 104, 114, 101, 100, 99, 111, 108, 58, 32, 116, 101, 120, 116])]))
def laid_shredcol_api_ErrBound {H : Type} : DataW H := .iface "*errors.errorString" (.ptr (.agg [.lit (.string [115, 104, 114, 101, 100, 99, 111, 108, 58, 32, 98, 111, 117, 110, 100])]))
def laid_shredcol_api_ErrShape {H : Type} : DataW H := .iface "*errors.errorString" (.ptr (.agg [.lit (.string [115, 104, 114, 101, 100, 99, 111, 108, 58, 32, 115, 104, 97, 112, 101])]))
def laid_shredcol_api_ErrKind {H : Type} : DataW H := .iface "*errors.errorString" (.ptr (.agg [.lit (.string [115, 104, 114, 101, 100, 99, 111, 108, 58, 32, 107, 105, 110, 100])]))
def laid_shredcol_api_ErrName {H : Type} : DataW H := .iface "*errors.errorString" (.ptr (.agg [.lit (.string [115, 104, 114, 101, 100, 99, 111, 108, 58, 32, 110, 97, 109, 101])]))
def laid_shredcol_api_ErrNone {H : Type} : DataW H := .iface "*errors.errorString" (.ptr (.agg [.lit (.string [115, 104, 114, 101, 100, 99, 111, 108, 58, 32, 110, 111, 110, 101])]))
def laid_shredcol_api_ErrSum {H : Type} : DataW H := .iface "*errors.errorString" (.ptr (.agg [.lit (.string [115, 104, 114, 101, 100, 99, 111, 108, 58, 32, 115, 117, 109])]))
def laid_shredcol_api_ErrSpace {H : Type} : DataW H := .iface "*errors.errorString" (.ptr (.agg [.lit (.string [115, 104, 114, 101, 100, 99, 111, 108, 58, 32, 115, 112, 97, 99, 101])]))

/-- 'shredcollaw2.AssembleTwice': WHATEVER THE INPUT: true; the input reads as it did. -/
def assembleTwiceSpec : ChangeSpec := { name := "assembleTwice", fn := fun _ => fun
  | [d1, d2, d3] => { results := [.lit (.bool true)], args := [d1, d2, d3] }
  | _ => none }
def assembleTwiceRow : OpenClaim := { program := "yteonbmaokphleaagreatdoor", sum := "32589487ef1f860b7499c85b166b49962af6ae16ac6cffa3ea391db4ac537c1c", func := "shredcol/shredcollaw2.AssembleTwice", spec := "assembleTwice", inPlace := ["internal/reflectlite.ValueOf", "(internal/reflectlite.Value).Type", "(internal/reflectlite.Value).IsNil", "internal/reflectlite.TypeOf", "(internal/reflectlite.Value).Elem", "(internal/reflectlite.Value).Set"], unfollowed := true, recurses := true, named := ["shredcol/api.ErrBound", "shredcol/api.ErrShape", "shredcol/api.ErrName", "shredcol/api.ErrKind", "shredcol/api.ErrNone", "shredcol/api.ErrText", "shredcol/api.ErrSum", "shredcol/api.ErrSpace", "errors.errorType"], loops := true, apart := false, laid := [("errors.errorType", laid_errors_errorType), ("shredcol/api.ErrText", laid_shredcol_api_ErrText), ("shredcol/api.ErrBound", laid_shredcol_api_ErrBound), ("shredcol/api.ErrShape", laid_shredcol_api_ErrShape), ("shredcol/api.ErrKind", laid_shredcol_api_ErrKind), ("shredcol/api.ErrName", laid_shredcol_api_ErrName), ("shredcol/api.ErrNone", laid_shredcol_api_ErrNone), ("shredcol/api.ErrSum", laid_shredcol_api_ErrSum), ("shredcol/api.ErrSpace", laid_shredcol_api_ErrSpace)] }
def AssembleTwiceSaid : Prop := assembleTwiceRow.holds Tryz.pinned (OpenSpec.ofChange assembleTwiceSpec)

/-- ITS FALSE NEIGHBOUR: 'it returns false'. Refute it at one input. -/
def assembleTwiceWrong : ChangeSpec := { name := "assembleTwice", fn := fun _ => fun
  | [d1, d2, d3] => { results := [.lit (.bool false)], args := [d1, d2, d3] }
  | _ => none }
def AssembleTwiceWrongFalsely : Prop := assembleTwiceRow.holds Tryz.pinned (OpenSpec.ofChange assembleTwiceWrong)

/- THE SECOND FORM. 'bulk': how many values and letters a reading holds, each counted each time it is reached (what is shared counts as often as it is met; a slice's spare places count too). A statement '..UptoSaid' is the law's where the arguments, and the package variables that the reading takes, are together of bulk at most 1048576: NARROWER than '..Said'. Prove '..Said' where nothing that the law and all that it calls make is longer than what came in: it says more and counts as full. Else prove '..UptoSaid'. A law counts once. -/
mutual
def uptoBulk {H : Type} : DataW H → Nat
  | .lit (.string bytes) => bytes.length + 1
  | .lit _ => 1
  | .nil => 1
  | .ptr d => uptoBulk d + 1
  | .slice elems spare => uptoBulkAll elems + uptoBulkAll spare + 1
  | .agg parts => uptoBulkAll parts + 1
  | .iface _ d => uptoBulk d + 1
  | .map entries => uptoBulkEntries entries + 1
  | .held _ => 1
def uptoBulkAll {H : Type} : List (DataW H) → Nat
  | [] => 0
  | d :: r => uptoBulk d + uptoBulkAll r
def uptoBulkEntries {H : Type} : List (Lit × DataW H) → Nat
  | [] => 0
  | x :: r => uptoBulkEntry x + uptoBulkEntries r
def uptoBulkEntry {H : Type} : Lit × DataW H → Nat
  | (.string bytes, d) => bytes.length + uptoBulk d + 1
  | (_, d) => uptoBulk d + 1
 end
def uptoSmall : (H : Type) → List (DataW H) → Bool := fun _ ds => decide (uptoBulkAll ds ≤ 1048576)
def OpenSpec.upto (s : _root_.Go.ChangeSpec) : _root_.Go.OpenSpec := { _root_.Go.OpenSpec.ofChange s with cond := some uptoSmall }

/-- 'shredcollaw2.AssembleTwice', WHERE WHAT IT READS IS OF BULK AT MOST 1048576: true; the input reads as it did. -/
def assembleTwiceUptoRow : OpenClaim := { program := "yteonbmaokphleaagreatdoor", sum := "32589487ef1f860b7499c85b166b49962af6ae16ac6cffa3ea391db4ac537c1c", func := "shredcol/shredcollaw2.AssembleTwice", spec := "assembleTwice", inPlace := ["internal/reflectlite.ValueOf", "(internal/reflectlite.Value).Type", "(internal/reflectlite.Value).IsNil", "internal/reflectlite.TypeOf", "(internal/reflectlite.Value).Elem", "(internal/reflectlite.Value).Set"], unfollowed := true, recurses := true, named := ["shredcol/api.ErrBound", "shredcol/api.ErrShape", "shredcol/api.ErrName", "shredcol/api.ErrKind", "shredcol/api.ErrNone", "shredcol/api.ErrText", "shredcol/api.ErrSum", "shredcol/api.ErrSpace", "errors.errorType"], loops := true, apart := false, laid := [("errors.errorType", laid_errors_errorType), ("shredcol/api.ErrText", laid_shredcol_api_ErrText), ("shredcol/api.ErrBound", laid_shredcol_api_ErrBound), ("shredcol/api.ErrShape", laid_shredcol_api_ErrShape), ("shredcol/api.ErrKind", laid_shredcol_api_ErrKind), ("shredcol/api.ErrName", laid_shredcol_api_ErrName), ("shredcol/api.ErrNone", laid_shredcol_api_ErrNone), ("shredcol/api.ErrSum", laid_shredcol_api_ErrSum), ("shredcol/api.ErrSpace", laid_shredcol_api_ErrSpace)], narrowed := true }
def AssembleTwiceUptoSaid : Prop := assembleTwiceUptoRow.holds Tryz.pinned (OpenSpec.upto assembleTwiceSpec)

end Rows
end Go.Proofs.YteonbmaokphleaaGreatDoor
