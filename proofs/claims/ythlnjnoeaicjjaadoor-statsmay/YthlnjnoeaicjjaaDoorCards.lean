/-
  DERIVED. GIVEN WITH THE SEED: THE CARDS: each row of YthlnjnoeaicjjaaDoorRows.lean that lists a variable, with what it lists TIED to the program's text (the seventh form; the later family's looks); each row that meets fmt, with fmt's text TOLD by the authors' own Lean function (tested against real Go, not proved from fmt's source: count such statements apart). THE CARD IS WHAT COUNTS. Prove the row's statement (the work); the ties are given (YthlnjnoeaicjjaaDoorTie.lean); close each card by the builder's one call (the guide's Derived/Test/ToyasCard.lean, 'card_holds'). Laid BY PROGRAM, IN A SANDBOX (cutbox-door.mjs). By AI agents, Wed Nov 11 2026. No macro, syntax, notation, axiom, sorry.
-/
import Derived.Test.YthlnjnoeaicjjaaDoorRows
import GoSem.ClaimSeven
namespace Go.Proofs.YthlnjnoeaicjjaaDoor
namespace Rows

/-- THE TIED CARD OF 'shredcollaw3.StatsMay'. -/
def statsMayCard : Claim7 := { stood := { row := statsMayRow, standIns := [], harness := (true, "d25f6c325f100c60929f4bc59cf25b19537e65e724547d5e6e46233519b10ed0"), looks := true }, kinds := [], alts := [], laidByText := true, laidKinds := [.handle, .sentinel, .sentinel, .sentinel, .sentinel, .sentinel, .sentinel, .sentinel, .sentinel], laidTests := true, laidLooks := .later }
def StatsMayCardSaid : Prop := Claim7.holds Tryd.pinned (.plain (OpenSpec.ofChange statsMaySpec)) statsMayCard

/-- THE TIED CARD OF 'shredcollaw3.StatsBounds'. -/
def statsBoundsCard : Claim7 := { stood := { row := statsBoundsRow, standIns := [], harness := (true, "d25f6c325f100c60929f4bc59cf25b19537e65e724547d5e6e46233519b10ed0"), looks := true }, kinds := [], alts := [], laidByText := true, laidKinds := [.sentinel, .sentinel, .sentinel, .sentinel], laidTests := true, laidLooks := .later }
def StatsBoundsCardSaid : Prop := Claim7.holds Tryd.pinned (.plain (OpenSpec.ofChange statsBoundsSpec)) statsBoundsCard

/-- THE SECOND FORM's CARD OF 'shredcollaw3.StatsMay'. -/
def statsMayUptoCard : Claim7 := { stood := { row := statsMayUptoRow, standIns := [], harness := (true, "d25f6c325f100c60929f4bc59cf25b19537e65e724547d5e6e46233519b10ed0"), looks := true }, kinds := [], alts := [], laidByText := true, laidKinds := [.handle, .sentinel, .sentinel, .sentinel, .sentinel, .sentinel, .sentinel, .sentinel, .sentinel], laidTests := true, laidLooks := .later }
def StatsMayUptoCardSaid : Prop := Claim7.holds Tryd.pinned (.plain (OpenSpec.upto statsMaySpec)) statsMayUptoCard

/-- THE SECOND FORM's CARD OF 'shredcollaw3.StatsBounds'. -/
def statsBoundsUptoCard : Claim7 := { stood := { row := statsBoundsUptoRow, standIns := [], harness := (true, "d25f6c325f100c60929f4bc59cf25b19537e65e724547d5e6e46233519b10ed0"), looks := true }, kinds := [], alts := [], laidByText := true, laidKinds := [.sentinel, .sentinel, .sentinel, .sentinel], laidTests := true, laidLooks := .later }
def StatsBoundsUptoCardSaid : Prop := Claim7.holds Tryd.pinned (.plain (OpenSpec.upto statsBoundsSpec)) statsBoundsUptoCard
end Rows
end Go.Proofs.YthlnjnoeaicjjaaDoor
