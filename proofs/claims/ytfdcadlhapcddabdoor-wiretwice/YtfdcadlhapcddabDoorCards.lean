/-
  DERIVED. GIVEN WITH THE SEED: THE CARDS: each row of YtfdcadlhapcddabDoorRows.lean that lists a variable, with what it lists TIED to the program's text (the seventh form; the later family's looks); each row that meets fmt, with fmt's text TOLD by the authors' own Lean function (tested against real Go, not proved from fmt's source: count such statements apart). THE CARD IS WHAT COUNTS. Prove the row's statement (the work); the ties are given (YtfdcadlhapcddabDoorTie.lean); close each card by the builder's one call (the guide's Derived/Test/ToyasCard.lean, 'card_holds'). Laid BY PROGRAM, IN A SANDBOX (cutbox-door.mjs). By AI agents, Wed Nov 11 2026. No macro, syntax, notation, axiom, sorry.
-/
import Derived.Test.YtfdcadlhapcddabDoorRows
import GoSem.ClaimSeven
namespace Go.Proofs.YtfdcadlhapcddabDoor
namespace Rows

/-- THE TIED CARD OF 'shredcollaw1.WireTwice'. -/
def wireTwiceCard : Claim7 := { stood := { row := wireTwiceRow, standIns := [], harness := (true, "1c5b45515be72c17e9457b331d3d3076161f379806f3a85eb8e3d89acdf60b69"), looks := false }, kinds := [], alts := [], laidByText := true, laidKinds := [.sentinel], laidTests := true, laidLooks := .later }
def WireTwiceCardSaid : Prop := Claim7.holds Tryd.pinned (.plain (OpenSpec.ofChange wireTwiceSpec)) wireTwiceCard

/-- THE SECOND FORM's CARD OF 'shredcollaw1.WireTwice'. -/
def wireTwiceUptoCard : Claim7 := { stood := { row := wireTwiceUptoRow, standIns := [], harness := (true, "1c5b45515be72c17e9457b331d3d3076161f379806f3a85eb8e3d89acdf60b69"), looks := false }, kinds := [], alts := [], laidByText := true, laidKinds := [.sentinel], laidTests := true, laidLooks := .later }
def WireTwiceUptoCardSaid : Prop := Claim7.holds Tryd.pinned (.plain (OpenSpec.upto wireTwiceSpec)) wireTwiceUptoCard
end Rows
end Go.Proofs.YtfdcadlhapcddabDoor
