/-
  NARROWER THAN 'FOR EVERY INPUT', by the rows' own cells (each row's printed sentence says how): EncLess: laid · EncOrder: laid · EncWords: laid.
  DERIVED. THE GIVEN ROWS OF THIS SEAT. 3 by the template 'for every input the law returns true; each argument reads behind the call as it read before'; 0 by the template 'total and deterministic' (their statements: YtjpdghpkbpdmeabDoorTotals.lean).
  GIVEN WITH THE SEED: the statements are not yours to turn. If you find one false, say at which input.
  Laid BY PROGRAM, IN A SANDBOX (cutbox-rows.mjs): the forced cells as the released guide's own fill.sh prints them over the translation 2c08058e1fc79c77… (all of the seat's roots in one cut). By AI agents, Wed Nov 11 2026. No macro, syntax, notation, axiom, sorry.
-/
import Derived.Test.YtjpdghpkbpdmeabDoorChecked
import GoSem.Claim
import GoSem.ClaimJoined
import GoSem.ClaimMapViews
import Derived.JoinedTies
import Derived.KernelRfl
namespace Go.Proofs.YtjpdghpkbpdmeabDoor
/- THE CELL 'sum', in the pinned program and in every row, IS THE sha256 OF THE DUMP (.gsa) THAT YtjpdghpkbpdmeabDoorProg.lean LOADS. Nothing in Lean hashes anything: it is a label: what it is worth is what the hold of that sum in a sandbox is worth. -/
noncomputable def Tryd.pinned : Pinned := { name := "ytjpdghpkbpdmeabdoor", sum := "2c08058e1fc79c778a89860ba357d4a4caeb45588c206a0c683b39ba02c32f05", checked := Tryd.checked }
namespace Rows
def none {H : Type} : Left H := { results := [], args := [] }

/- WHAT THE LISTED PACKAGE-LEVEL VARIABLES READ AS WHEN THE CALL BEGINS. Each datum BY PROGRAM (the guide's laid-datum.mjs) off the statement by which the dump's own 'gosem.cut.vars' lays the variable. In a bare row this is a premise. The card (YtjpdghpkbpdmeabDoorCards.lean) ties it to the program's text. -/
def laid_shredcol_api_ErrBound {H : Type} : DataW H := .iface "*errors.errorString" (.ptr (.agg [.lit (.string [115, 104, 114, 101, 100, 99, 111, 108, 58, 32, 98, 111, 117, 110, 100])]))
def laid_shredcol_api_ErrShape {H : Type} : DataW H := .iface "*errors.errorString" (.ptr (.agg [.lit (.string [115, 104, 114, 101, 100, 99, 111, 108, 58, 32, 115, 104, 97, 112, 101])]))
def laid_shredcol_api_ErrKind {H : Type} : DataW H := .iface "*errors.errorString" (.ptr (.agg [.lit (.string [115, 104, 114, 101, 100, 99, 111, 108, 58, 32, 107, 105, 110, 100])]))

/-- 'shredcollaw1.EncLess': WHATEVER THE INPUT: true; the input reads as it did. -/
def encLessSpec : ChangeSpec := { name := "encLess", fn := fun _ => fun
  | [d1, d2] => { results := [.lit (.bool true)], args := [d1, d2] }
  | _ => none }
def encLessRow : OpenClaim := { program := "ytjpdghpkbpdmeabdoor", sum := "2c08058e1fc79c778a89860ba357d4a4caeb45588c206a0c683b39ba02c32f05", func := "shredcol/shredcollaw1.EncLess", spec := "encLess", named := ["shredcol/api.ErrKind", "shredcol/api.ErrBound", "shredcol/api.ErrShape"], apart := false, laid := [("shredcol/api.ErrBound", laid_shredcol_api_ErrBound), ("shredcol/api.ErrShape", laid_shredcol_api_ErrShape), ("shredcol/api.ErrKind", laid_shredcol_api_ErrKind)] }
def EncLessSaid : Prop := encLessRow.holds Tryd.pinned (OpenSpec.ofChange encLessSpec)

/-- ITS FALSE NEIGHBOUR: 'it returns false'. Refute it at one input. -/
def encLessWrong : ChangeSpec := { name := "encLess", fn := fun _ => fun
  | [d1, d2] => { results := [.lit (.bool false)], args := [d1, d2] }
  | _ => none }
def EncLessWrongFalsely : Prop := encLessRow.holds Tryd.pinned (OpenSpec.ofChange encLessWrong)

/-- 'shredcollaw1.EncOrder': WHATEVER THE INPUT: true; the input reads as it did. -/
def encOrderSpec : ChangeSpec := { name := "encOrder", fn := fun _ => fun
  | [d1, d2, d3] => { results := [.lit (.bool true)], args := [d1, d2, d3] }
  | _ => none }
def encOrderRow : OpenClaim := { program := "ytjpdghpkbpdmeabdoor", sum := "2c08058e1fc79c778a89860ba357d4a4caeb45588c206a0c683b39ba02c32f05", func := "shredcol/shredcollaw1.EncOrder", spec := "encOrder", named := ["shredcol/api.ErrKind", "shredcol/api.ErrBound", "shredcol/api.ErrShape"], apart := false, laid := [("shredcol/api.ErrBound", laid_shredcol_api_ErrBound), ("shredcol/api.ErrShape", laid_shredcol_api_ErrShape), ("shredcol/api.ErrKind", laid_shredcol_api_ErrKind)] }
def EncOrderSaid : Prop := encOrderRow.holds Tryd.pinned (OpenSpec.ofChange encOrderSpec)

/-- ITS FALSE NEIGHBOUR: 'it returns false'. Refute it at one input. -/
def encOrderWrong : ChangeSpec := { name := "encOrder", fn := fun _ => fun
  | [d1, d2, d3] => { results := [.lit (.bool false)], args := [d1, d2, d3] }
  | _ => none }
def EncOrderWrongFalsely : Prop := encOrderRow.holds Tryd.pinned (OpenSpec.ofChange encOrderWrong)

/-- 'shredcollaw1.EncWords': WHATEVER THE INPUT: true; the input reads as it did. -/
def encWordsSpec : ChangeSpec := { name := "encWords", fn := fun _ => fun
  | [d1, d2, d3] => { results := [.lit (.bool true)], args := [d1, d2, d3] }
  | _ => none }
def encWordsRow : OpenClaim := { program := "ytjpdghpkbpdmeabdoor", sum := "2c08058e1fc79c778a89860ba357d4a4caeb45588c206a0c683b39ba02c32f05", func := "shredcol/shredcollaw1.EncWords", spec := "encWords", named := ["shredcol/api.ErrKind", "shredcol/api.ErrBound", "shredcol/api.ErrShape"], apart := false, laid := [("shredcol/api.ErrBound", laid_shredcol_api_ErrBound), ("shredcol/api.ErrShape", laid_shredcol_api_ErrShape), ("shredcol/api.ErrKind", laid_shredcol_api_ErrKind)] }
def EncWordsSaid : Prop := encWordsRow.holds Tryd.pinned (OpenSpec.ofChange encWordsSpec)

/-- ITS FALSE NEIGHBOUR: 'it returns false'. Refute it at one input. -/
def encWordsWrong : ChangeSpec := { name := "encWords", fn := fun _ => fun
  | [d1, d2, d3] => { results := [.lit (.bool false)], args := [d1, d2, d3] }
  | _ => none }
def EncWordsWrongFalsely : Prop := encWordsRow.holds Tryd.pinned (OpenSpec.ofChange encWordsWrong)

/- THE SECOND FORM. 'bulk': how many values and letters a reading holds, each counted each time it is reached (what is shared counts as often as it is met; a slice's spare places count too). A statement '..UptoSaid' is the law's where the arguments, and the package variables that the reading takes, are together of bulk at most 1048576: NARROWER than '..Said'. Prove '..Said' where nothing that the law and all that it calls make is longer than what came in: it says more and counts as full. Else prove '..UptoSaid'. A law counts once. -/
mutual
def uptoBulk {H : Type} : DataW H → Nat
  | .lit (.string bytes) => bytes.length + 1
  | .lit _ => 1
  | .nil => 1
  | .ptr d => uptoBulk d + 1
  | .slice elems spare => uptoBulkAll elems + uptoBulkAll spare + 1
  | .agg parts => uptoBulkAll parts + 1
  | .iface _ d => uptoBulk d + 1
  | .map entries => uptoBulkEntries entries + 1
  | .held _ => 1
def uptoBulkAll {H : Type} : List (DataW H) → Nat
  | [] => 0
  | d :: r => uptoBulk d + uptoBulkAll r
def uptoBulkEntries {H : Type} : List (Lit × DataW H) → Nat
  | [] => 0
  | x :: r => uptoBulkEntry x + uptoBulkEntries r
def uptoBulkEntry {H : Type} : Lit × DataW H → Nat
  | (.string bytes, d) => bytes.length + uptoBulk d + 1
  | (_, d) => uptoBulk d + 1
 end
def uptoSmall : (H : Type) → List (DataW H) → Bool := fun _ ds => decide (uptoBulkAll ds ≤ 1048576)
def OpenSpec.upto (s : _root_.Go.ChangeSpec) : _root_.Go.OpenSpec := { _root_.Go.OpenSpec.ofChange s with cond := some uptoSmall }

/-- 'shredcollaw1.EncLess', WHERE WHAT IT READS IS OF BULK AT MOST 1048576: true; the input reads as it did. -/
def encLessUptoRow : OpenClaim := { program := "ytjpdghpkbpdmeabdoor", sum := "2c08058e1fc79c778a89860ba357d4a4caeb45588c206a0c683b39ba02c32f05", func := "shredcol/shredcollaw1.EncLess", spec := "encLess", named := ["shredcol/api.ErrKind", "shredcol/api.ErrBound", "shredcol/api.ErrShape"], apart := false, laid := [("shredcol/api.ErrBound", laid_shredcol_api_ErrBound), ("shredcol/api.ErrShape", laid_shredcol_api_ErrShape), ("shredcol/api.ErrKind", laid_shredcol_api_ErrKind)], narrowed := true }
def EncLessUptoSaid : Prop := encLessUptoRow.holds Tryd.pinned (OpenSpec.upto encLessSpec)

/-- 'shredcollaw1.EncOrder', WHERE WHAT IT READS IS OF BULK AT MOST 1048576: true; the input reads as it did. -/
def encOrderUptoRow : OpenClaim := { program := "ytjpdghpkbpdmeabdoor", sum := "2c08058e1fc79c778a89860ba357d4a4caeb45588c206a0c683b39ba02c32f05", func := "shredcol/shredcollaw1.EncOrder", spec := "encOrder", named := ["shredcol/api.ErrKind", "shredcol/api.ErrBound", "shredcol/api.ErrShape"], apart := false, laid := [("shredcol/api.ErrBound", laid_shredcol_api_ErrBound), ("shredcol/api.ErrShape", laid_shredcol_api_ErrShape), ("shredcol/api.ErrKind", laid_shredcol_api_ErrKind)], narrowed := true }
def EncOrderUptoSaid : Prop := encOrderUptoRow.holds Tryd.pinned (OpenSpec.upto encOrderSpec)

/-- 'shredcollaw1.EncWords', WHERE WHAT IT READS IS OF BULK AT MOST 1048576: true; the input reads as it did. -/
def encWordsUptoRow : OpenClaim := { program := "ytjpdghpkbpdmeabdoor", sum := "2c08058e1fc79c778a89860ba357d4a4caeb45588c206a0c683b39ba02c32f05", func := "shredcol/shredcollaw1.EncWords", spec := "encWords", named := ["shredcol/api.ErrKind", "shredcol/api.ErrBound", "shredcol/api.ErrShape"], apart := false, laid := [("shredcol/api.ErrBound", laid_shredcol_api_ErrBound), ("shredcol/api.ErrShape", laid_shredcol_api_ErrShape), ("shredcol/api.ErrKind", laid_shredcol_api_ErrKind)], narrowed := true }
def EncWordsUptoSaid : Prop := encWordsUptoRow.holds Tryd.pinned (OpenSpec.upto encWordsSpec)

end Rows
end Go.Proofs.YtjpdghpkbpdmeabDoor
