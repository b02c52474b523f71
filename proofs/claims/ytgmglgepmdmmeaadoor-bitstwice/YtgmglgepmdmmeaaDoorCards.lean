/-
  DERIVED. GIVEN WITH THE SEED: THE CARDS: each row of YtgmglgepmdmmeaaDoorRows.lean that lists a variable, with what it lists TIED to the program's text (the seventh form; the later family's looks); each row that meets fmt, with fmt's text TOLD by the authors' own Lean function (tested against real Go, not proved from fmt's source: count such statements apart). THE CARD IS WHAT COUNTS. Prove the row's statement (the work); the ties are given (YtgmglgepmdmmeaaDoorTie.lean); close each card by the builder's one call (the guide's Derived/Test/ToyasCard.lean, 'card_holds'). Laid BY PROGRAM, IN A SANDBOX (cutbox-door.mjs). By AI agents, Wed Nov 11 2026. No macro, syntax, notation, axiom, sorry.
-/
import Derived.Test.YtgmglgepmdmmeaaDoorRows
import GoSem.ClaimSeven
namespace Go.Proofs.YtgmglgepmdmmeaaDoor
namespace Rows

/-- THE TIED CARD OF 'shredcollaw1.BitsPack'. -/
def bitsPackCard : Claim7 := { stood := { row := bitsPackRow, standIns := [], harness := (true, "f5870442f8533f0ccb57eab56171b5f4b869d81dc91517837cacb3c12e8c1399"), looks := true }, kinds := [], alts := [], laidByText := true, laidKinds := [.handle, .sentinel, .sentinel, .sentinel, .sentinel, .sentinel, .sentinel, .sentinel, .sentinel], laidTests := true, laidLooks := .later }
def BitsPackCardSaid : Prop := Claim7.holds Tryd.pinned (.plain (OpenSpec.ofChange bitsPackSpec)) bitsPackCard

/-- THE TIED CARD OF 'shredcollaw1.BitsRuns'. -/
def bitsRunsCard : Claim7 := { stood := { row := bitsRunsRow, standIns := [], harness := (true, "f5870442f8533f0ccb57eab56171b5f4b869d81dc91517837cacb3c12e8c1399"), looks := true }, kinds := [], alts := [], laidByText := true, laidKinds := [.handle, .sentinel, .sentinel, .sentinel, .sentinel, .sentinel, .sentinel, .sentinel, .sentinel], laidTests := true, laidLooks := .later }
def BitsRunsCardSaid : Prop := Claim7.holds Tryd.pinned (.plain (OpenSpec.ofChange bitsRunsSpec)) bitsRunsCard

/-- THE TIED CARD OF 'shredcollaw1.BitsUnpack'. -/
def bitsUnpackCard : Claim7 := { stood := { row := bitsUnpackRow, standIns := [], harness := (true, "f5870442f8533f0ccb57eab56171b5f4b869d81dc91517837cacb3c12e8c1399"), looks := true }, kinds := [], alts := [], laidByText := true, laidKinds := [.handle, .sentinel, .sentinel, .sentinel, .sentinel, .sentinel, .sentinel, .sentinel, .sentinel], laidTests := true, laidLooks := .later }
def BitsUnpackCardSaid : Prop := Claim7.holds Tryd.pinned (.plain (OpenSpec.ofChange bitsUnpackSpec)) bitsUnpackCard

/-- THE TIED CARD OF 'shredcollaw1.BitsReads'. -/
def bitsReadsCard : Claim7 := { stood := { row := bitsReadsRow, standIns := [], harness := (true, "f5870442f8533f0ccb57eab56171b5f4b869d81dc91517837cacb3c12e8c1399"), looks := true }, kinds := [], alts := [], laidByText := true, laidKinds := [.handle, .sentinel, .sentinel, .sentinel, .sentinel, .sentinel, .sentinel, .sentinel, .sentinel], laidTests := true, laidLooks := .later }
def BitsReadsCardSaid : Prop := Claim7.holds Tryd.pinned (.plain (OpenSpec.ofChange bitsReadsSpec)) bitsReadsCard

/-- THE TIED CARD OF 'shredcollaw1.BitsTwice'. -/
def bitsTwiceCard : Claim7 := { stood := { row := bitsTwiceRow, standIns := [], harness := (true, "f5870442f8533f0ccb57eab56171b5f4b869d81dc91517837cacb3c12e8c1399"), looks := true }, kinds := [], alts := [], laidByText := true, laidKinds := [.sentinel, .sentinel, .sentinel], laidTests := true, laidLooks := .later }
def BitsTwiceCardSaid : Prop := Claim7.holds Tryd.pinned (.plain (OpenSpec.ofChange bitsTwiceSpec)) bitsTwiceCard

/-- THE TIED CARD OF 'shredcollaw1.BitsWidth'. -/
def bitsWidthCard : Claim7 := { stood := { row := bitsWidthRow, standIns := [], harness := (true, "f5870442f8533f0ccb57eab56171b5f4b869d81dc91517837cacb3c12e8c1399"), looks := true }, kinds := [], alts := [], laidByText := true, laidKinds := [.sentinel, .sentinel], laidTests := true, laidLooks := .later }
def BitsWidthCardSaid : Prop := Claim7.holds Tryd.pinned (.plain (OpenSpec.ofChange bitsWidthSpec)) bitsWidthCard

/-- THE SECOND FORM's CARD OF 'shredcollaw1.BitsPack'. -/
def bitsPackUptoCard : Claim7 := { stood := { row := bitsPackUptoRow, standIns := [], harness := (true, "f5870442f8533f0ccb57eab56171b5f4b869d81dc91517837cacb3c12e8c1399"), looks := true }, kinds := [], alts := [], laidByText := true, laidKinds := [.handle, .sentinel, .sentinel, .sentinel, .sentinel, .sentinel, .sentinel, .sentinel, .sentinel], laidTests := true, laidLooks := .later }
def BitsPackUptoCardSaid : Prop := Claim7.holds Tryd.pinned (.plain (OpenSpec.upto bitsPackSpec)) bitsPackUptoCard

/-- THE SECOND FORM's CARD OF 'shredcollaw1.BitsRuns'. -/
def bitsRunsUptoCard : Claim7 := { stood := { row := bitsRunsUptoRow, standIns := [], harness := (true, "f5870442f8533f0ccb57eab56171b5f4b869d81dc91517837cacb3c12e8c1399"), looks := true }, kinds := [], alts := [], laidByText := true, laidKinds := [.handle, .sentinel, .sentinel, .sentinel, .sentinel, .sentinel, .sentinel, .sentinel, .sentinel], laidTests := true, laidLooks := .later }
def BitsRunsUptoCardSaid : Prop := Claim7.holds Tryd.pinned (.plain (OpenSpec.upto bitsRunsSpec)) bitsRunsUptoCard

/-- THE SECOND FORM's CARD OF 'shredcollaw1.BitsUnpack'. -/
def bitsUnpackUptoCard : Claim7 := { stood := { row := bitsUnpackUptoRow, standIns := [], harness := (true, "f5870442f8533f0ccb57eab56171b5f4b869d81dc91517837cacb3c12e8c1399"), looks := true }, kinds := [], alts := [], laidByText := true, laidKinds := [.handle, .sentinel, .sentinel, .sentinel, .sentinel, .sentinel, .sentinel, .sentinel, .sentinel], laidTests := true, laidLooks := .later }
def BitsUnpackUptoCardSaid : Prop := Claim7.holds Tryd.pinned (.plain (OpenSpec.upto bitsUnpackSpec)) bitsUnpackUptoCard

/-- THE SECOND FORM's CARD OF 'shredcollaw1.BitsReads'. -/
def bitsReadsUptoCard : Claim7 := { stood := { row := bitsReadsUptoRow, standIns := [], harness := (true, "f5870442f8533f0ccb57eab56171b5f4b869d81dc91517837cacb3c12e8c1399"), looks := true }, kinds := [], alts := [], laidByText := true, laidKinds := [.handle, .sentinel, .sentinel, .sentinel, .sentinel, .sentinel, .sentinel, .sentinel, .sentinel], laidTests := true, laidLooks := .later }
def BitsReadsUptoCardSaid : Prop := Claim7.holds Tryd.pinned (.plain (OpenSpec.upto bitsReadsSpec)) bitsReadsUptoCard

/-- THE SECOND FORM's CARD OF 'shredcollaw1.BitsTwice'. -/
def bitsTwiceUptoCard : Claim7 := { stood := { row := bitsTwiceUptoRow, standIns := [], harness := (true, "f5870442f8533f0ccb57eab56171b5f4b869d81dc91517837cacb3c12e8c1399"), looks := true }, kinds := [], alts := [], laidByText := true, laidKinds := [.sentinel, .sentinel, .sentinel], laidTests := true, laidLooks := .later }
def BitsTwiceUptoCardSaid : Prop := Claim7.holds Tryd.pinned (.plain (OpenSpec.upto bitsTwiceSpec)) bitsTwiceUptoCard

/-- THE SECOND FORM's CARD OF 'shredcollaw1.BitsWidth'. -/
def bitsWidthUptoCard : Claim7 := { stood := { row := bitsWidthUptoRow, standIns := [], harness := (true, "f5870442f8533f0ccb57eab56171b5f4b869d81dc91517837cacb3c12e8c1399"), looks := true }, kinds := [], alts := [], laidByText := true, laidKinds := [.sentinel, .sentinel], laidTests := true, laidLooks := .later }
def BitsWidthUptoCardSaid : Prop := Claim7.holds Tryd.pinned (.plain (OpenSpec.upto bitsWidthSpec)) bitsWidthUptoCard
end Rows
end Go.Proofs.YtgmglgepmdmmeaaDoor
