/-
  DERIVED. GIVEN WITH THE SEED: THE CARDS: each row of YtajaoglnembkpaaGreatDoorRows.lean that lists a variable, with what it lists TIED to the program's text (the seventh form; the later family's looks); each row that meets fmt, with fmt's text TOLD by the authors' own Lean function (tested against real Go, not proved from fmt's source: count such statements apart). THE CARD IS WHAT COUNTS. Prove the row's statement (the work); the ties are given (YtajaoglnembkpaaGreatDoorTie.lean); close each card by the builder's one call (the guide's Derived/Test/ToyasCard.lean, 'card_holds'). Laid BY PROGRAM, IN A SANDBOX (cutbox-door.mjs). By AI agents, Wed Nov 11 2026. No macro, syntax, notation, axiom, sorry.
-/
import Derived.Test.YtajaoglnembkpaaGreatDoorRows
import GoSem.ClaimSeven
namespace Go.Proofs.YtajaoglnembkpaaGreatDoor
namespace Rows

/-- THE TIED CARD OF 'shredcollaw2.SchemaLeaves'. -/
def schemaLeavesCard : Claim7 := { stood := { row := schemaLeavesRow, standIns := [], harness := (true, "a5da8dbff0f0c5535b47cc6258c31a884f42711d54c7b0f282fde91a63fc9ef3"), looks := true }, kinds := [], alts := [], laidByText := true, laidKinds := [.data, .data, .data, .handle, .sentinel, .sentinel, .sentinel, .sentinel, .sentinel, .sentinel, .sentinel, .sentinel, .sentinel, .sentinel], laidTests := true, laidLooks := .later }
def SchemaLeavesCardSaid : Prop := Claim7.holds Tryz.pinned (.plain (OpenSpec.ofChange schemaLeavesSpec)) schemaLeavesCard

/-- THE SECOND FORM's CARD OF 'shredcollaw2.SchemaLeaves'. -/
def schemaLeavesUptoCard : Claim7 := { stood := { row := schemaLeavesUptoRow, standIns := [], harness := (true, "a5da8dbff0f0c5535b47cc6258c31a884f42711d54c7b0f282fde91a63fc9ef3"), looks := true }, kinds := [], alts := [], laidByText := true, laidKinds := [.data, .data, .data, .handle, .sentinel, .sentinel, .sentinel, .sentinel, .sentinel, .sentinel, .sentinel, .sentinel, .sentinel, .sentinel], laidTests := true, laidLooks := .later }
def SchemaLeavesUptoCardSaid : Prop := Claim7.holds Tryz.pinned (.plain (OpenSpec.upto schemaLeavesSpec)) schemaLeavesUptoCard
end Rows
end Go.Proofs.YtajaoglnembkpaaGreatDoor
