/-
  DERIVED. GIVEN WITH THE SEED: THE CARDS: each row of YtkcobccmifkjcaaDoorRows.lean that lists a variable, with what it lists TIED to the program's text (the seventh form; the later family's looks); each row that meets fmt, with fmt's text TOLD by the authors' own Lean function (tested against real Go, not proved from fmt's source: count such statements apart). THE CARD IS WHAT COUNTS. Prove the row's statement (the work); the ties are given (YtkcobccmifkjcaaDoorTie.lean); close each card by the builder's one call (the guide's Derived/Test/ToyasCard.lean, 'card_holds'). Laid BY PROGRAM, IN A SANDBOX (cutbox-door.mjs). By AI agents, Wed Nov 11 2026. No macro, syntax, notation, axiom, sorry.
-/
import Derived.Test.YtkcobccmifkjcaaDoorRows
import GoSem.ClaimSeven
namespace Go.Proofs.YtkcobccmifkjcaaDoor
namespace Rows

/-- THE TIED CARD OF 'shredcollaw3.StatsOf'. -/
def statsOfCard : Claim7 := { stood := { row := statsOfRow, standIns := [], harness := (true, "ef980520ae0945c99049eac498722953562bbddf3088eea99ac60c36806347b9"), looks := true }, kinds := [], alts := [], laidByText := true, laidKinds := [.handle, .sentinel, .sentinel, .sentinel, .sentinel, .sentinel, .sentinel, .sentinel, .sentinel], laidTests := true, laidLooks := .later }
def StatsOfCardSaid : Prop := Claim7.holds Tryd.pinned (.plain (OpenSpec.ofChange statsOfSpec)) statsOfCard

/-- THE TIED CARD OF 'shredcollaw3.StatsMerge'. -/
def statsMergeCard : Claim7 := { stood := { row := statsMergeRow, standIns := [], harness := (true, "ef980520ae0945c99049eac498722953562bbddf3088eea99ac60c36806347b9"), looks := true }, kinds := [], alts := [], laidByText := true, laidKinds := [.handle, .sentinel, .sentinel, .sentinel, .sentinel, .sentinel, .sentinel, .sentinel, .sentinel], laidTests := true, laidLooks := .later }
def StatsMergeCardSaid : Prop := Claim7.holds Tryd.pinned (.plain (OpenSpec.ofChange statsMergeSpec)) statsMergeCard

/-- THE TIED CARD OF 'shredcollaw3.StatsMay'. -/
def statsMayCard : Claim7 := { stood := { row := statsMayRow, standIns := [], harness := (true, "ef980520ae0945c99049eac498722953562bbddf3088eea99ac60c36806347b9"), looks := true }, kinds := [], alts := [], laidByText := true, laidKinds := [.handle, .sentinel, .sentinel, .sentinel, .sentinel, .sentinel, .sentinel, .sentinel, .sentinel], laidTests := true, laidLooks := .later }
def StatsMayCardSaid : Prop := Claim7.holds Tryd.pinned (.plain (OpenSpec.ofChange statsMaySpec)) statsMayCard

/-- THE TIED CARD OF 'shredcollaw3.StatsBounds'. -/
def statsBoundsCard : Claim7 := { stood := { row := statsBoundsRow, standIns := [], harness := (true, "ef980520ae0945c99049eac498722953562bbddf3088eea99ac60c36806347b9"), looks := true }, kinds := [], alts := [], laidByText := true, laidKinds := [.sentinel, .sentinel, .sentinel, .sentinel], laidTests := true, laidLooks := .later }
def StatsBoundsCardSaid : Prop := Claim7.holds Tryd.pinned (.plain (OpenSpec.ofChange statsBoundsSpec)) statsBoundsCard

/-- THE SECOND FORM's CARD OF 'shredcollaw3.StatsOf'. -/
def statsOfUptoCard : Claim7 := { stood := { row := statsOfUptoRow, standIns := [], harness := (true, "ef980520ae0945c99049eac498722953562bbddf3088eea99ac60c36806347b9"), looks := true }, kinds := [], alts := [], laidByText := true, laidKinds := [.handle, .sentinel, .sentinel, .sentinel, .sentinel, .sentinel, .sentinel, .sentinel, .sentinel], laidTests := true, laidLooks := .later }
def StatsOfUptoCardSaid : Prop := Claim7.holds Tryd.pinned (.plain (OpenSpec.upto statsOfSpec)) statsOfUptoCard

/-- THE SECOND FORM's CARD OF 'shredcollaw3.StatsMerge'. -/
def statsMergeUptoCard : Claim7 := { stood := { row := statsMergeUptoRow, standIns := [], harness := (true, "ef980520ae0945c99049eac498722953562bbddf3088eea99ac60c36806347b9"), looks := true }, kinds := [], alts := [], laidByText := true, laidKinds := [.handle, .sentinel, .sentinel, .sentinel, .sentinel, .sentinel, .sentinel, .sentinel, .sentinel], laidTests := true, laidLooks := .later }
def StatsMergeUptoCardSaid : Prop := Claim7.holds Tryd.pinned (.plain (OpenSpec.upto statsMergeSpec)) statsMergeUptoCard

/-- THE SECOND FORM's CARD OF 'shredcollaw3.StatsMay'. -/
def statsMayUptoCard : Claim7 := { stood := { row := statsMayUptoRow, standIns := [], harness := (true, "ef980520ae0945c99049eac498722953562bbddf3088eea99ac60c36806347b9"), looks := true }, kinds := [], alts := [], laidByText := true, laidKinds := [.handle, .sentinel, .sentinel, .sentinel, .sentinel, .sentinel, .sentinel, .sentinel, .sentinel], laidTests := true, laidLooks := .later }
def StatsMayUptoCardSaid : Prop := Claim7.holds Tryd.pinned (.plain (OpenSpec.upto statsMaySpec)) statsMayUptoCard

/-- THE SECOND FORM's CARD OF 'shredcollaw3.StatsBounds'. -/
def statsBoundsUptoCard : Claim7 := { stood := { row := statsBoundsUptoRow, standIns := [], harness := (true, "ef980520ae0945c99049eac498722953562bbddf3088eea99ac60c36806347b9"), looks := true }, kinds := [], alts := [], laidByText := true, laidKinds := [.sentinel, .sentinel, .sentinel, .sentinel], laidTests := true, laidLooks := .later }
def StatsBoundsUptoCardSaid : Prop := Claim7.holds Tryd.pinned (.plain (OpenSpec.upto statsBoundsSpec)) statsBoundsUptoCard
end Rows
end Go.Proofs.YtkcobccmifkjcaaDoor
