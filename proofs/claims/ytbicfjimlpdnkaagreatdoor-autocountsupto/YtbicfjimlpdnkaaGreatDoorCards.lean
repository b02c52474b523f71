/-
  DERIVED. GIVEN WITH THE SEED: THE CARDS: each row of YtbicfjimlpdnkaaGreatDoorRows.lean that lists a variable, with what it lists TIED to the program's text (the seventh form; the later family's looks); each row that meets fmt, with fmt's text TOLD by the authors' own Lean function (tested against real Go, not proved from fmt's source: count such statements apart). THE CARD IS WHAT COUNTS. Prove the row's statement (the work); the ties are given (YtbicfjimlpdnkaaGreatDoorTie.lean); close each card by the builder's one call (the guide's Derived/Test/ToyasCard.lean, 'card_holds'). Laid BY PROGRAM, IN A SANDBOX (cutbox-door.mjs). By AI agents, Wed Nov 11 2026. No macro, syntax, notation, axiom, sorry.
-/
import Derived.Test.YtbicfjimlpdnkaaGreatDoorRows
import GoSem.ClaimSeven
namespace Go.Proofs.YtbicfjimlpdnkaaGreatDoor
namespace Rows

/-- THE TIED CARD OF 'shredcollaw2.AutoCounts'. -/
def autoCountsCard : Claim7 := { stood := { row := autoCountsRow, standIns := [], harness := (true, "129e4c38ee69203a66fffffb45a2dea36d064cd8d3b3fe392dd0317e19252725"), looks := false }, kinds := [], alts := [], laidByText := true, laidKinds := [.sentinel, .sentinel, .sentinel, .sentinel], laidTests := true, laidLooks := .later }
def AutoCountsCardSaid : Prop := Claim7.holds Tryz.pinned (.plain (OpenSpec.ofChange autoCountsSpec)) autoCountsCard

/-- THE SECOND FORM's CARD OF 'shredcollaw2.AutoCounts'. -/
def autoCountsUptoCard : Claim7 := { stood := { row := autoCountsUptoRow, standIns := [], harness := (true, "129e4c38ee69203a66fffffb45a2dea36d064cd8d3b3fe392dd0317e19252725"), looks := false }, kinds := [], alts := [], laidByText := true, laidKinds := [.sentinel, .sentinel, .sentinel, .sentinel], laidTests := true, laidLooks := .later }
def AutoCountsUptoCardSaid : Prop := Claim7.holds Tryz.pinned (.plain (OpenSpec.upto autoCountsSpec)) autoCountsUptoCard
end Rows
end Go.Proofs.YtbicfjimlpdnkaaGreatDoor
