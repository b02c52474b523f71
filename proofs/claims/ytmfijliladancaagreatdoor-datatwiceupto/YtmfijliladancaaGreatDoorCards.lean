/-
  DERIVED. GIVEN WITH THE SEED: THE CARDS: each row of YtmfijliladancaaGreatDoorRows.lean that lists a variable, with what it lists TIED to the program's text (the seventh form; the later family's looks); each row that meets fmt, with fmt's text TOLD by the authors' own Lean function (tested against real Go, not proved from fmt's source: count such statements apart). THE CARD IS WHAT COUNTS. Prove the row's statement (the work); the ties are given (YtmfijliladancaaGreatDoorTie.lean); close each card by the builder's one call (the guide's Derived/Test/ToyasCard.lean, 'card_holds'). Laid BY PROGRAM, IN A SANDBOX (cutbox-door.mjs). By AI agents, Wed Nov 11 2026. No macro, syntax, notation, axiom, sorry.
-/
import Derived.Test.YtmfijliladancaaGreatDoorRows
import GoSem.ClaimSeven
namespace Go.Proofs.YtmfijliladancaaGreatDoor
namespace Rows

/-- THE TIED CARD OF 'shredcollaw2.DataTwice'. -/
def dataTwiceCard : Claim7 := { stood := { row := dataTwiceRow, standIns := [], harness := (true, "5a28b90bf84a2eaba5749babb530c11f34af0a4f82b826b618889aa6f1bd4126"), looks := true }, kinds := [], alts := [], laidByText := true, laidKinds := [.data, .data, .data, .sentinel, .sentinel, .sentinel, .sentinel, .sentinel, .sentinel, .sentinel], laidTests := true, laidLooks := .later }
def DataTwiceCardSaid : Prop := Claim7.holds Tryz.pinned (.plain (OpenSpec.ofChange dataTwiceSpec)) dataTwiceCard

/-- THE SECOND FORM's CARD OF 'shredcollaw2.DataTwice'. -/
def dataTwiceUptoCard : Claim7 := { stood := { row := dataTwiceUptoRow, standIns := [], harness := (true, "5a28b90bf84a2eaba5749babb530c11f34af0a4f82b826b618889aa6f1bd4126"), looks := true }, kinds := [], alts := [], laidByText := true, laidKinds := [.data, .data, .data, .sentinel, .sentinel, .sentinel, .sentinel, .sentinel, .sentinel, .sentinel], laidTests := true, laidLooks := .later }
def DataTwiceUptoCardSaid : Prop := Claim7.holds Tryz.pinned (.plain (OpenSpec.upto dataTwiceSpec)) dataTwiceUptoCard
end Rows
end Go.Proofs.YtmfijliladancaaGreatDoor
