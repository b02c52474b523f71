/-
  DERIVED. GIVEN WITH THE SEED: THE CARDS: each row of YtcejgakjgcniiaaGreatDoorRows.lean that lists a variable, with what it lists TIED to the program's text (the seventh form; the later family's looks); each row that meets fmt, with fmt's text TOLD by the authors' own Lean function (tested against real Go, not proved from fmt's source: count such statements apart). THE CARD IS WHAT COUNTS. Prove the row's statement (the work); the ties are given (YtcejgakjgcniiaaGreatDoorTie.lean); close each card by the builder's one call (the guide's Derived/Test/ToyasCard.lean, 'card_holds'). Laid BY PROGRAM, IN A SANDBOX (cutbox-door.mjs). By AI agents, Wed Nov 11 2026. No macro, syntax, notation, axiom, sorry.
-/
import Derived.Test.YtcejgakjgcniiaaGreatDoorRows
import GoSem.ClaimSeven
namespace Go.Proofs.YtcejgakjgcniiaaGreatDoor
namespace Rows

/-- THE TIED CARD OF 'shredcollaw2.ShredParts'. -/
def shredPartsCard : Claim7 := { stood := { row := shredPartsRow, standIns := [], harness := (true, "602e509af46f5a8039862d51865a3ec4ad02742f47c12cbcdce0c522f111f82d"), looks := true }, kinds := [], alts := [], laidByText := true, laidKinds := [.handle, .sentinel, .sentinel, .sentinel, .sentinel, .sentinel, .sentinel, .sentinel, .sentinel], laidTests := true, laidLooks := .later }
def ShredPartsCardSaid : Prop := Claim7.holds Tryz.pinned (.plain (OpenSpec.ofChange shredPartsSpec)) shredPartsCard

/-- THE TIED CARD OF 'shredcollaw2.ShredJoins'. -/
def shredJoinsCard : Claim7 := { stood := { row := shredJoinsRow, standIns := [], harness := (true, "602e509af46f5a8039862d51865a3ec4ad02742f47c12cbcdce0c522f111f82d"), looks := true }, kinds := [], alts := [], laidByText := true, laidKinds := [.handle, .sentinel, .sentinel, .sentinel, .sentinel, .sentinel, .sentinel, .sentinel, .sentinel], laidTests := true, laidLooks := .later }
def ShredJoinsCardSaid : Prop := Claim7.holds Tryz.pinned (.plain (OpenSpec.ofChange shredJoinsSpec)) shredJoinsCard

/-- THE SECOND FORM's CARD OF 'shredcollaw2.ShredParts'. -/
def shredPartsUptoCard : Claim7 := { stood := { row := shredPartsUptoRow, standIns := [], harness := (true, "602e509af46f5a8039862d51865a3ec4ad02742f47c12cbcdce0c522f111f82d"), looks := true }, kinds := [], alts := [], laidByText := true, laidKinds := [.handle, .sentinel, .sentinel, .sentinel, .sentinel, .sentinel, .sentinel, .sentinel, .sentinel], laidTests := true, laidLooks := .later }
def ShredPartsUptoCardSaid : Prop := Claim7.holds Tryz.pinned (.plain (OpenSpec.upto shredPartsSpec)) shredPartsUptoCard

/-- THE SECOND FORM's CARD OF 'shredcollaw2.ShredJoins'. -/
def shredJoinsUptoCard : Claim7 := { stood := { row := shredJoinsUptoRow, standIns := [], harness := (true, "602e509af46f5a8039862d51865a3ec4ad02742f47c12cbcdce0c522f111f82d"), looks := true }, kinds := [], alts := [], laidByText := true, laidKinds := [.handle, .sentinel, .sentinel, .sentinel, .sentinel, .sentinel, .sentinel, .sentinel, .sentinel], laidTests := true, laidLooks := .later }
def ShredJoinsUptoCardSaid : Prop := Claim7.holds Tryz.pinned (.plain (OpenSpec.upto shredJoinsSpec)) shredJoinsUptoCard
end Rows
end Go.Proofs.YtcejgakjgcniiaaGreatDoor
