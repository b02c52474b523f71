/-
  DERIVED. GIVEN WITH THE SEED: THE CARDS: each row of YtnceknbodpimiaaDoorRows.lean that lists a variable, with what it lists TIED to the program's text (the seventh form; the later family's looks); each row that meets fmt, with fmt's text TOLD by the authors' own Lean function (tested against real Go, not proved from fmt's source: count such statements apart). THE CARD IS WHAT COUNTS. Prove the row's statement (the work); the ties are given (YtnceknbodpimiaaDoorTie.lean); close each card by the builder's one call (the guide's Derived/Test/ToyasCard.lean, 'card_holds'). Laid BY PROGRAM, IN A SANDBOX (cutbox-door.mjs). By AI agents, Wed Nov 11 2026. No macro, syntax, notation, axiom, sorry.
-/
import Derived.Test.YtnceknbodpimiaaDoorRows
import GoSem.ClaimSeven
namespace Go.Proofs.YtnceknbodpimiaaDoor
namespace Rows

/-- THE TIED CARD OF 'shredcollaw2.DataCutTwice'. -/
def dataCutTwiceCard : Claim7 := { stood := { row := dataCutTwiceRow, standIns := [], harness := (true, "298480a45b0b6d3fe7d7095b47e6cebaf9e924bb23bfb60a4e55d1e6ac134150"), looks := false }, kinds := [], alts := [], laidByText := true, laidKinds := [.data, .data, .data, .sentinel, .sentinel, .sentinel, .sentinel, .sentinel], laidTests := true, laidLooks := .later }
def DataCutTwiceCardSaid : Prop := Claim7.holds Tryd.pinned (.plain (OpenSpec.ofChange dataCutTwiceSpec)) dataCutTwiceCard

/-- THE SECOND FORM's CARD OF 'shredcollaw2.DataCutTwice'. -/
def dataCutTwiceUptoCard : Claim7 := { stood := { row := dataCutTwiceUptoRow, standIns := [], harness := (true, "298480a45b0b6d3fe7d7095b47e6cebaf9e924bb23bfb60a4e55d1e6ac134150"), looks := false }, kinds := [], alts := [], laidByText := true, laidKinds := [.data, .data, .data, .sentinel, .sentinel, .sentinel, .sentinel, .sentinel], laidTests := true, laidLooks := .later }
def DataCutTwiceUptoCardSaid : Prop := Claim7.holds Tryd.pinned (.plain (OpenSpec.upto dataCutTwiceSpec)) dataCutTwiceUptoCard
end Rows
end Go.Proofs.YtnceknbodpimiaaDoor
