/-
  DERIVED. GIVEN WITH THE SEED: THE CARDS: each row of YtiiehnjgljadbaaDoorRows.lean that lists a variable, with what it lists TIED to the program's text (the seventh form; the later family's looks); each row that meets fmt, with fmt's text TOLD by the authors' own Lean function (tested against real Go, not proved from fmt's source: count such statements apart). THE CARD IS WHAT COUNTS. Prove the row's statement (the work); the ties are given (YtiiehnjgljadbaaDoorTie.lean); close each card by the builder's one call (the guide's Derived/Test/ToyasCard.lean, 'card_holds'). Laid BY PROGRAM, IN A SANDBOX (cutbox-door.mjs). By AI agents, Wed Nov 11 2026. No macro, syntax, notation, axiom, sorry.
-/
import Derived.Test.YtiiehnjgljadbaaDoorRows
import GoSem.ClaimSeven
namespace Go.Proofs.YtiiehnjgljadbaaDoor
namespace Rows

/-- THE TIED CARD OF 'shredcollaw2.AutoBuilds'. -/
def autoBuildsCard : Claim7 := { stood := { row := autoBuildsRow, standIns := [], harness := (true, "c1e9b1413b4c3b32f9efa0672018eedd8379281e78e5d6485db0936477aa0a46"), looks := true }, kinds := [], alts := [], laidByText := true, laidKinds := [.handle, .sentinel, .sentinel, .sentinel, .sentinel, .sentinel, .sentinel, .sentinel, .sentinel], laidTests := true, laidLooks := .later }
def AutoBuildsCardSaid : Prop := Claim7.holds Tryd.pinned (.plain (OpenSpec.ofChange autoBuildsSpec)) autoBuildsCard

/-- THE SECOND FORM's CARD OF 'shredcollaw2.AutoBuilds'. -/
def autoBuildsUptoCard : Claim7 := { stood := { row := autoBuildsUptoRow, standIns := [], harness := (true, "c1e9b1413b4c3b32f9efa0672018eedd8379281e78e5d6485db0936477aa0a46"), looks := true }, kinds := [], alts := [], laidByText := true, laidKinds := [.handle, .sentinel, .sentinel, .sentinel, .sentinel, .sentinel, .sentinel, .sentinel, .sentinel], laidTests := true, laidLooks := .later }
def AutoBuildsUptoCardSaid : Prop := Claim7.holds Tryd.pinned (.plain (OpenSpec.upto autoBuildsSpec)) autoBuildsUptoCard
end Rows
end Go.Proofs.YtiiehnjgljadbaaDoor
