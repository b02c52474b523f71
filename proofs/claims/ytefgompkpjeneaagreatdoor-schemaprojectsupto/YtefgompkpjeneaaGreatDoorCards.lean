/-
  DERIVED. GIVEN WITH THE SEED: THE CARDS: each row of YtefgompkpjeneaaGreatDoorRows.lean that lists a variable, with what it lists TIED to the program's text (the seventh form; the later family's looks); each row that meets fmt, with fmt's text TOLD by the authors' own Lean function (tested against real Go, not proved from fmt's source: count such statements apart). THE CARD IS WHAT COUNTS. Prove the row's statement (the work); the ties are given (YtefgompkpjeneaaGreatDoorTie.lean); close each card by the builder's one call (the guide's Derived/Test/ToyasCard.lean, 'card_holds'). Laid BY PROGRAM, IN A SANDBOX (cutbox-door.mjs). By AI agents, Wed Nov 11 2026. No macro, syntax, notation, axiom, sorry.
-/
import Derived.Test.YtefgompkpjeneaaGreatDoorRows
import GoSem.ClaimSeven
namespace Go.Proofs.YtefgompkpjeneaaGreatDoor
namespace Rows

/-- THE TIED CARD OF 'shredcollaw2.SchemaProjects'. -/
def schemaProjectsCard : Claim7 := { stood := { row := schemaProjectsRow, standIns := [], harness := (true, "82d0973b988dde77e8a9615e4fc7a240d22b43b031a33ea07c176d23383599d0"), looks := true }, kinds := [], alts := [], laidByText := true, laidKinds := [.data, .data, .data, .handle, .sentinel, .sentinel, .sentinel, .sentinel, .sentinel, .sentinel, .sentinel, .sentinel, .sentinel, .sentinel], laidTests := true, laidLooks := .later }
def SchemaProjectsCardSaid : Prop := Claim7.holds Tryz.pinned (.plain (OpenSpec.ofChange schemaProjectsSpec)) schemaProjectsCard

/-- THE SECOND FORM's CARD OF 'shredcollaw2.SchemaProjects'. -/
def schemaProjectsUptoCard : Claim7 := { stood := { row := schemaProjectsUptoRow, standIns := [], harness := (true, "82d0973b988dde77e8a9615e4fc7a240d22b43b031a33ea07c176d23383599d0"), looks := true }, kinds := [], alts := [], laidByText := true, laidKinds := [.data, .data, .data, .handle, .sentinel, .sentinel, .sentinel, .sentinel, .sentinel, .sentinel, .sentinel, .sentinel, .sentinel, .sentinel], laidTests := true, laidLooks := .later }
def SchemaProjectsUptoCardSaid : Prop := Claim7.holds Tryz.pinned (.plain (OpenSpec.upto schemaProjectsSpec)) schemaProjectsUptoCard
end Rows
end Go.Proofs.YtefgompkpjeneaaGreatDoor
