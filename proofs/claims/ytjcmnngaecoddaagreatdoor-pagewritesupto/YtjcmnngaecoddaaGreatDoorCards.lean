/-
  DERIVED. GIVEN WITH THE SEED: THE CARDS: each row of YtjcmnngaecoddaaGreatDoorRows.lean that lists a variable, with what it lists TIED to the program's text (the seventh form; the later family's looks); each row that meets fmt, with fmt's text TOLD by the authors' own Lean function (tested against real Go, not proved from fmt's source: count such statements apart). THE CARD IS WHAT COUNTS. Prove the row's statement (the work); the ties are given (YtjcmnngaecoddaaGreatDoorTie.lean); close each card by the builder's one call (the guide's Derived/Test/ToyasCard.lean, 'card_holds'). Laid BY PROGRAM, IN A SANDBOX (cutbox-door.mjs). By AI agents, Wed Nov 11 2026. No macro, syntax, notation, axiom, sorry.
-/
import Derived.Test.YtjcmnngaecoddaaGreatDoorRows
import GoSem.ClaimSeven
namespace Go.Proofs.YtjcmnngaecoddaaGreatDoor
namespace Rows

/-- THE TIED CARD OF 'shredcollaw3.PageWrites'. -/
def pageWritesCard : Claim7 := { stood := { row := pageWritesRow, standIns := [], harness := (true, "038522793011b19fbeb2e2dcd17aa2e80e547932448d322100f9bd567f5d3671"), looks := true }, kinds := [], alts := [], laidByText := true, laidKinds := [.handle, .sentinel, .sentinel, .sentinel, .sentinel, .sentinel, .sentinel, .sentinel, .sentinel], laidTests := true, laidLooks := .later }
def PageWritesCardSaid : Prop := Claim7.holds Tryz.pinned (.plain (OpenSpec.ofChange pageWritesSpec)) pageWritesCard

/-- THE SECOND FORM's CARD OF 'shredcollaw3.PageWrites'. -/
def pageWritesUptoCard : Claim7 := { stood := { row := pageWritesUptoRow, standIns := [], harness := (true, "038522793011b19fbeb2e2dcd17aa2e80e547932448d322100f9bd567f5d3671"), looks := true }, kinds := [], alts := [], laidByText := true, laidKinds := [.handle, .sentinel, .sentinel, .sentinel, .sentinel, .sentinel, .sentinel, .sentinel, .sentinel], laidTests := true, laidLooks := .later }
def PageWritesUptoCardSaid : Prop := Claim7.holds Tryz.pinned (.plain (OpenSpec.upto pageWritesSpec)) pageWritesUptoCard
end Rows
end Go.Proofs.YtjcmnngaecoddaaGreatDoor
