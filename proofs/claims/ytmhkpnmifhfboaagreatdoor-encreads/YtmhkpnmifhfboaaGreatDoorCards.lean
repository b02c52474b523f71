/-
  DERIVED. GIVEN WITH THE SEED: THE CARDS: each row of YtmhkpnmifhfboaaGreatDoorRows.lean that lists a variable, with what it lists TIED to the program's text (the seventh form; the later family's looks); each row that meets fmt, with fmt's text TOLD by the authors' own Lean function (tested against real Go, not proved from fmt's source: count such statements apart). THE CARD IS WHAT COUNTS. Prove the row's statement (the work); the ties are given (YtmhkpnmifhfboaaGreatDoorTie.lean); close each card by the builder's one call (the guide's Derived/Test/ToyasCard.lean, 'card_holds'). Laid BY PROGRAM, IN A SANDBOX (cutbox-door.mjs). By AI agents, Wed Nov 11 2026. No macro, syntax, notation, axiom, sorry.
-/
import Derived.Test.YtmhkpnmifhfboaaGreatDoorRows
import GoSem.ClaimSeven
namespace Go.Proofs.YtmhkpnmifhfboaaGreatDoor
namespace Rows

/-- THE TIED CARD OF 'shredcollaw1.EncReads'. -/
def encReadsCard : Claim7 := { stood := { row := encReadsRow, standIns := [], harness := (true, "71dd3816f2aed34414f4f3d27021f0242aa8893564343c1ad572a7496c535891"), looks := true }, kinds := [], alts := [], laidByText := true, laidKinds := [.handle, .sentinel, .sentinel, .sentinel, .sentinel, .sentinel, .sentinel, .sentinel, .sentinel], laidTests := true, laidLooks := .later }
def EncReadsCardSaid : Prop := Claim7.holds Tryz.pinned (.plain (OpenSpec.ofChange encReadsSpec)) encReadsCard

/-- THE SECOND FORM's CARD OF 'shredcollaw1.EncReads'. -/
def encReadsUptoCard : Claim7 := { stood := { row := encReadsUptoRow, standIns := [], harness := (true, "71dd3816f2aed34414f4f3d27021f0242aa8893564343c1ad572a7496c535891"), looks := true }, kinds := [], alts := [], laidByText := true, laidKinds := [.handle, .sentinel, .sentinel, .sentinel, .sentinel, .sentinel, .sentinel, .sentinel, .sentinel], laidTests := true, laidLooks := .later }
def EncReadsUptoCardSaid : Prop := Claim7.holds Tryz.pinned (.plain (OpenSpec.upto encReadsSpec)) encReadsUptoCard
end Rows
end Go.Proofs.YtmhkpnmifhfboaaGreatDoor
