/-
  DERIVED. GIVEN WITH THE SEED: THE CARDS: each row of YtdpedailookcjaaDoorRows.lean that lists a variable, with what it lists TIED to the program's text (the seventh form; the later family's looks); each row that meets fmt, with fmt's text TOLD by the authors' own Lean function (tested against real Go, not proved from fmt's source: count such statements apart). THE CARD IS WHAT COUNTS. Prove the row's statement (the work); the ties are given (YtdpedailookcjaaDoorTie.lean); close each card by the builder's one call (the guide's Derived/Test/ToyasCard.lean, 'card_holds'). Laid BY PROGRAM, IN A SANDBOX (cutbox-door.mjs). By AI agents, Wed Nov 11 2026. No macro, syntax, notation, axiom, sorry.
-/
import Derived.Test.YtdpedailookcjaaDoorRows
import GoSem.ClaimSeven
namespace Go.Proofs.YtdpedailookcjaaDoor
namespace Rows

/-- THE TIED CARD OF 'shredcollaw2.ShredSplits'. -/
def shredSplitsCard : Claim7 := { stood := { row := shredSplitsRow, standIns := [], harness := (true, "d35aae7d09a9f8ad21cff82f5094e601f8a684d45658be62ef806b9c6b8efc80"), looks := false }, kinds := [], alts := [], laidByText := true, laidKinds := [.sentinel, .sentinel, .sentinel, .sentinel, .sentinel], laidTests := true, laidLooks := .later }
def ShredSplitsCardSaid : Prop := Claim7.holds Tryd.pinned (.plain (OpenSpec.ofChange shredSplitsSpec)) shredSplitsCard

/-- THE SECOND FORM's CARD OF 'shredcollaw2.ShredSplits'. -/
def shredSplitsUptoCard : Claim7 := { stood := { row := shredSplitsUptoRow, standIns := [], harness := (true, "d35aae7d09a9f8ad21cff82f5094e601f8a684d45658be62ef806b9c6b8efc80"), looks := false }, kinds := [], alts := [], laidByText := true, laidKinds := [.sentinel, .sentinel, .sentinel, .sentinel, .sentinel], laidTests := true, laidLooks := .later }
def ShredSplitsUptoCardSaid : Prop := Claim7.holds Tryd.pinned (.plain (OpenSpec.upto shredSplitsSpec)) shredSplitsUptoCard
end Rows
end Go.Proofs.YtdpedailookcjaaDoor
