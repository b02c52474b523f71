/-
  DERIVED. GIVEN WITH THE SEED: THE CARDS: each row of YtfdcadlhapcddaaDoorRows.lean that lists a variable, with what it lists TIED to the program's text (the seventh form; the later family's looks); each row that meets fmt, with fmt's text TOLD by the authors' own Lean function (tested against real Go, not proved from fmt's source: count such statements apart). THE CARD IS WHAT COUNTS. Prove the row's statement (the work); the ties are given (YtfdcadlhapcddaaDoorTie.lean); close each card by the builder's one call (the guide's Derived/Test/ToyasCard.lean, 'card_holds'). Laid BY PROGRAM, IN A SANDBOX (cutbox-door.mjs). By AI agents, Wed Nov 11 2026. No macro, syntax, notation, axiom, sorry.
-/
import Derived.Test.YtfdcadlhapcddaaDoorRows
import GoSem.ClaimSeven
namespace Go.Proofs.YtfdcadlhapcddaaDoor
namespace Rows

/-- THE TIED CARD OF 'shredcollaw1.Names'. -/
def namesCard : Claim7 := { stood := { row := namesRow, standIns := [], harness := (true, "292a729e8557581d1a66c9ae49c1077f972ab2e07d09e17aeb8a5c525b2ceda1"), looks := true }, kinds := [], alts := [], laidByText := true, laidKinds := [.handle, .sentinel, .sentinel, .sentinel, .sentinel, .sentinel, .sentinel, .sentinel, .sentinel], laidTests := true, laidLooks := .later }
def NamesCardSaid : Prop := Claim7.holds Tryd.pinned (.plain (OpenSpec.ofChange namesSpec)) namesCard

/-- THE TIED CARD OF 'shredcollaw1.WireReads'. -/
def wireReadsCard : Claim7 := { stood := { row := wireReadsRow, standIns := [], harness := (true, "292a729e8557581d1a66c9ae49c1077f972ab2e07d09e17aeb8a5c525b2ceda1"), looks := true }, kinds := [], alts := [], laidByText := true, laidKinds := [.handle, .sentinel, .sentinel, .sentinel, .sentinel, .sentinel, .sentinel, .sentinel, .sentinel], laidTests := true, laidLooks := .later }
def WireReadsCardSaid : Prop := Claim7.holds Tryd.pinned (.plain (OpenSpec.ofChange wireReadsSpec)) wireReadsCard

/-- THE TIED CARD OF 'shredcollaw1.WireFixed'. -/
def wireFixedCard : Claim7 := { stood := { row := wireFixedRow, standIns := [], harness := (true, "292a729e8557581d1a66c9ae49c1077f972ab2e07d09e17aeb8a5c525b2ceda1"), looks := true }, kinds := [], alts := [], laidByText := true, laidKinds := [.handle, .sentinel, .sentinel, .sentinel, .sentinel, .sentinel, .sentinel, .sentinel, .sentinel], laidTests := true, laidLooks := .later }
def WireFixedCardSaid : Prop := Claim7.holds Tryd.pinned (.plain (OpenSpec.ofChange wireFixedSpec)) wireFixedCard

/-- THE TIED CARD OF 'shredcollaw1.WireText'. -/
def wireTextCard : Claim7 := { stood := { row := wireTextRow, standIns := [], harness := (true, "292a729e8557581d1a66c9ae49c1077f972ab2e07d09e17aeb8a5c525b2ceda1"), looks := true }, kinds := [], alts := [], laidByText := true, laidKinds := [.handle, .sentinel, .sentinel, .sentinel, .sentinel, .sentinel, .sentinel, .sentinel, .sentinel], laidTests := true, laidLooks := .later }
def WireTextCardSaid : Prop := Claim7.holds Tryd.pinned (.plain (OpenSpec.ofChange wireTextSpec)) wireTextCard

/-- THE SECOND FORM's CARD OF 'shredcollaw1.Names'. -/
def namesUptoCard : Claim7 := { stood := { row := namesUptoRow, standIns := [], harness := (true, "292a729e8557581d1a66c9ae49c1077f972ab2e07d09e17aeb8a5c525b2ceda1"), looks := true }, kinds := [], alts := [], laidByText := true, laidKinds := [.handle, .sentinel, .sentinel, .sentinel, .sentinel, .sentinel, .sentinel, .sentinel, .sentinel], laidTests := true, laidLooks := .later }
def NamesUptoCardSaid : Prop := Claim7.holds Tryd.pinned (.plain (OpenSpec.upto namesSpec)) namesUptoCard

/-- THE SECOND FORM's CARD OF 'shredcollaw1.WireReads'. -/
def wireReadsUptoCard : Claim7 := { stood := { row := wireReadsUptoRow, standIns := [], harness := (true, "292a729e8557581d1a66c9ae49c1077f972ab2e07d09e17aeb8a5c525b2ceda1"), looks := true }, kinds := [], alts := [], laidByText := true, laidKinds := [.handle, .sentinel, .sentinel, .sentinel, .sentinel, .sentinel, .sentinel, .sentinel, .sentinel], laidTests := true, laidLooks := .later }
def WireReadsUptoCardSaid : Prop := Claim7.holds Tryd.pinned (.plain (OpenSpec.upto wireReadsSpec)) wireReadsUptoCard

/-- THE SECOND FORM's CARD OF 'shredcollaw1.WireFixed'. -/
def wireFixedUptoCard : Claim7 := { stood := { row := wireFixedUptoRow, standIns := [], harness := (true, "292a729e8557581d1a66c9ae49c1077f972ab2e07d09e17aeb8a5c525b2ceda1"), looks := true }, kinds := [], alts := [], laidByText := true, laidKinds := [.handle, .sentinel, .sentinel, .sentinel, .sentinel, .sentinel, .sentinel, .sentinel, .sentinel], laidTests := true, laidLooks := .later }
def WireFixedUptoCardSaid : Prop := Claim7.holds Tryd.pinned (.plain (OpenSpec.upto wireFixedSpec)) wireFixedUptoCard

/-- THE SECOND FORM's CARD OF 'shredcollaw1.WireText'. -/
def wireTextUptoCard : Claim7 := { stood := { row := wireTextUptoRow, standIns := [], harness := (true, "292a729e8557581d1a66c9ae49c1077f972ab2e07d09e17aeb8a5c525b2ceda1"), looks := true }, kinds := [], alts := [], laidByText := true, laidKinds := [.handle, .sentinel, .sentinel, .sentinel, .sentinel, .sentinel, .sentinel, .sentinel, .sentinel], laidTests := true, laidLooks := .later }
def WireTextUptoCardSaid : Prop := Claim7.holds Tryd.pinned (.plain (OpenSpec.upto wireTextSpec)) wireTextUptoCard
end Rows
end Go.Proofs.YtfdcadlhapcddaaDoor
