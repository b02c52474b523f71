/-
  DERIVED. GIVEN WITH THE SEED: THE CARDS: each row of YtnfjpngmadoflaaGreatDoorRows.lean that lists a variable, with what it lists TIED to the program's text (the seventh form; the later family's looks); each row that meets fmt, with fmt's text TOLD by the authors' own Lean function (tested against real Go, not proved from fmt's source: count such statements apart). THE CARD IS WHAT COUNTS. Prove the row's statement (the work); the ties are given (YtnfjpngmadoflaaGreatDoorTie.lean); close each card by the builder's one call (the guide's Derived/Test/ToyasCard.lean, 'card_holds'). Laid BY PROGRAM, IN A SANDBOX (cutbox-door.mjs). By AI agents, Wed Nov 11 2026. No macro, syntax, notation, axiom, sorry.
-/
import Derived.Test.YtnfjpngmadoflaaGreatDoorRows
import GoSem.ClaimSeven
namespace Go.Proofs.YtnfjpngmadoflaaGreatDoor
namespace Rows

/-- THE TIED CARD OF 'shredcollaw2.SchemaNests'. -/
def schemaNestsCard : Claim7 := { stood := { row := schemaNestsRow, standIns := [], harness := (true, "ceecd08545a3b303bb98bba79e548352aecf10ea60b9f3ff247e70df2c36ab06"), looks := true }, kinds := [], alts := [], laidByText := true, laidKinds := [.data, .data, .data, .sentinel, .sentinel, .sentinel, .sentinel, .sentinel, .sentinel, .sentinel], laidTests := true, laidLooks := .later }
def SchemaNestsCardSaid : Prop := Claim7.holds Tryz.pinned (.plain (OpenSpec.ofChange schemaNestsSpec)) schemaNestsCard

/-- THE SECOND FORM's CARD OF 'shredcollaw2.SchemaNests'. -/
def schemaNestsUptoCard : Claim7 := { stood := { row := schemaNestsUptoRow, standIns := [], harness := (true, "ceecd08545a3b303bb98bba79e548352aecf10ea60b9f3ff247e70df2c36ab06"), looks := true }, kinds := [], alts := [], laidByText := true, laidKinds := [.data, .data, .data, .sentinel, .sentinel, .sentinel, .sentinel, .sentinel, .sentinel, .sentinel], laidTests := true, laidLooks := .later }
def SchemaNestsUptoCardSaid : Prop := Claim7.holds Tryz.pinned (.plain (OpenSpec.upto schemaNestsSpec)) schemaNestsUptoCard
end Rows
end Go.Proofs.YtnfjpngmadoflaaGreatDoor
