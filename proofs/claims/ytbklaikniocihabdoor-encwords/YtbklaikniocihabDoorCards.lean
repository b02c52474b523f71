/-
  DERIVED. GIVEN WITH THE SEED: THE CARDS: each row of YtbklaikniocihabDoorRows.lean that lists a variable, with what it lists TIED to the program's text (the seventh form; the later family's looks); each row that meets fmt, with fmt's text TOLD by the authors' own Lean function (tested against real Go, not proved from fmt's source: count such statements apart). THE CARD IS WHAT COUNTS. Prove the row's statement (the work); the ties are given (YtbklaikniocihabDoorTie.lean); close each card by the builder's one call (the guide's Derived/Test/ToyasCard.lean, 'card_holds'). Laid BY PROGRAM, IN A SANDBOX (cutbox-door.mjs). By AI agents, Wed Nov 11 2026. No macro, syntax, notation, axiom, sorry.
-/
import Derived.Test.YtbklaikniocihabDoorRows
import GoSem.ClaimSeven
namespace Go.Proofs.YtbklaikniocihabDoor
namespace Rows

/-- THE TIED CARD OF 'shredcollaw1.EncAgain'. -/
def encAgainCard : Claim7 := { stood := { row := encAgainRow, standIns := [], harness := (true, "b1fb643b953cffea131fa73f49fe88b1ba07505249e87ef2bc64275c2c70576d"), looks := false }, kinds := [], alts := [], laidByText := true, laidKinds := [.sentinel, .sentinel, .sentinel, .sentinel], laidTests := true, laidLooks := .later }
def EncAgainCardSaid : Prop := Claim7.holds Tryd.pinned (.plain (OpenSpec.ofChange encAgainSpec)) encAgainCard

/-- THE TIED CARD OF 'shredcollaw1.EncLess'. -/
def encLessCard : Claim7 := { stood := { row := encLessRow, standIns := [], harness := (true, "b1fb643b953cffea131fa73f49fe88b1ba07505249e87ef2bc64275c2c70576d"), looks := false }, kinds := [], alts := [], laidByText := true, laidKinds := [.sentinel, .sentinel, .sentinel], laidTests := true, laidLooks := .later }
def EncLessCardSaid : Prop := Claim7.holds Tryd.pinned (.plain (OpenSpec.ofChange encLessSpec)) encLessCard

/-- THE TIED CARD OF 'shredcollaw1.EncOrder'. -/
def encOrderCard : Claim7 := { stood := { row := encOrderRow, standIns := [], harness := (true, "b1fb643b953cffea131fa73f49fe88b1ba07505249e87ef2bc64275c2c70576d"), looks := false }, kinds := [], alts := [], laidByText := true, laidKinds := [.sentinel, .sentinel, .sentinel], laidTests := true, laidLooks := .later }
def EncOrderCardSaid : Prop := Claim7.holds Tryd.pinned (.plain (OpenSpec.ofChange encOrderSpec)) encOrderCard

/-- THE TIED CARD OF 'shredcollaw1.EncWords'. -/
def encWordsCard : Claim7 := { stood := { row := encWordsRow, standIns := [], harness := (true, "b1fb643b953cffea131fa73f49fe88b1ba07505249e87ef2bc64275c2c70576d"), looks := false }, kinds := [], alts := [], laidByText := true, laidKinds := [.sentinel, .sentinel, .sentinel], laidTests := true, laidLooks := .later }
def EncWordsCardSaid : Prop := Claim7.holds Tryd.pinned (.plain (OpenSpec.ofChange encWordsSpec)) encWordsCard

/-- THE SECOND FORM's CARD OF 'shredcollaw1.EncAgain'. -/
def encAgainUptoCard : Claim7 := { stood := { row := encAgainUptoRow, standIns := [], harness := (true, "b1fb643b953cffea131fa73f49fe88b1ba07505249e87ef2bc64275c2c70576d"), looks := false }, kinds := [], alts := [], laidByText := true, laidKinds := [.sentinel, .sentinel, .sentinel, .sentinel], laidTests := true, laidLooks := .later }
def EncAgainUptoCardSaid : Prop := Claim7.holds Tryd.pinned (.plain (OpenSpec.upto encAgainSpec)) encAgainUptoCard

/-- THE SECOND FORM's CARD OF 'shredcollaw1.EncLess'. -/
def encLessUptoCard : Claim7 := { stood := { row := encLessUptoRow, standIns := [], harness := (true, "b1fb643b953cffea131fa73f49fe88b1ba07505249e87ef2bc64275c2c70576d"), looks := false }, kinds := [], alts := [], laidByText := true, laidKinds := [.sentinel, .sentinel, .sentinel], laidTests := true, laidLooks := .later }
def EncLessUptoCardSaid : Prop := Claim7.holds Tryd.pinned (.plain (OpenSpec.upto encLessSpec)) encLessUptoCard

/-- THE SECOND FORM's CARD OF 'shredcollaw1.EncOrder'. -/
def encOrderUptoCard : Claim7 := { stood := { row := encOrderUptoRow, standIns := [], harness := (true, "b1fb643b953cffea131fa73f49fe88b1ba07505249e87ef2bc64275c2c70576d"), looks := false }, kinds := [], alts := [], laidByText := true, laidKinds := [.sentinel, .sentinel, .sentinel], laidTests := true, laidLooks := .later }
def EncOrderUptoCardSaid : Prop := Claim7.holds Tryd.pinned (.plain (OpenSpec.upto encOrderSpec)) encOrderUptoCard

/-- THE SECOND FORM's CARD OF 'shredcollaw1.EncWords'. -/
def encWordsUptoCard : Claim7 := { stood := { row := encWordsUptoRow, standIns := [], harness := (true, "b1fb643b953cffea131fa73f49fe88b1ba07505249e87ef2bc64275c2c70576d"), looks := false }, kinds := [], alts := [], laidByText := true, laidKinds := [.sentinel, .sentinel, .sentinel], laidTests := true, laidLooks := .later }
def EncWordsUptoCardSaid : Prop := Claim7.holds Tryd.pinned (.plain (OpenSpec.upto encWordsSpec)) encWordsUptoCard
end Rows
end Go.Proofs.YtbklaikniocihabDoor
