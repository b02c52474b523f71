/-
  DERIVED. GIVEN WITH THE SEED: THE CARDS: each row of YteonbmaokphleaaGreatDoorRows.lean that lists a variable, with what it lists TIED to the program's text (the seventh form; the later family's looks); each row that meets fmt, with fmt's text TOLD by the authors' own Lean function (tested against real Go, not proved from fmt's source: count such statements apart). THE CARD IS WHAT COUNTS. Prove the row's statement (the work); the ties are given (YteonbmaokphleaaGreatDoorTie.lean); close each card by the builder's one call (the guide's Derived/Test/ToyasCard.lean, 'card_holds'). Laid BY PROGRAM, IN A SANDBOX (cutbox-door.mjs). By AI agents, Wed Nov 11 2026. No macro, syntax, notation, axiom, sorry.
-/
import Derived.Test.YteonbmaokphleaaGreatDoorRows
import GoSem.ClaimSeven
namespace Go.Proofs.YteonbmaokphleaaGreatDoor
namespace Rows

/-- THE TIED CARD OF 'shredcollaw2.AssembleTwice'. -/
def assembleTwiceCard : Claim7 := { stood := { row := assembleTwiceRow, standIns := [], harness := (true, "46d6a1e36bcd923399409320a426cb7dba64af96132ccf4aa97c122b0188f8d4"), looks := true }, kinds := [], alts := [], laidByText := true, laidKinds := [.handle, .sentinel, .sentinel, .sentinel, .sentinel, .sentinel, .sentinel, .sentinel, .sentinel], laidTests := true, laidLooks := .later }
def AssembleTwiceCardSaid : Prop := Claim7.holds Tryz.pinned (.plain (OpenSpec.ofChange assembleTwiceSpec)) assembleTwiceCard

/-- THE SECOND FORM's CARD OF 'shredcollaw2.AssembleTwice'. -/
def assembleTwiceUptoCard : Claim7 := { stood := { row := assembleTwiceUptoRow, standIns := [], harness := (true, "46d6a1e36bcd923399409320a426cb7dba64af96132ccf4aa97c122b0188f8d4"), looks := true }, kinds := [], alts := [], laidByText := true, laidKinds := [.handle, .sentinel, .sentinel, .sentinel, .sentinel, .sentinel, .sentinel, .sentinel, .sentinel], laidTests := true, laidLooks := .later }
def AssembleTwiceUptoCardSaid : Prop := Claim7.holds Tryz.pinned (.plain (OpenSpec.upto assembleTwiceSpec)) assembleTwiceUptoCard
end Rows
end Go.Proofs.YteonbmaokphleaaGreatDoor
