/-
  DERIVED. GIVEN WITH THE SEED: THE CARDS: each row of YtjpdghpkbpdmeabDoorRows.lean that lists a variable, with what it lists TIED to the program's text (the seventh form; the later family's looks); each row that meets fmt, with fmt's text TOLD by the authors' own Lean function (tested against real Go, not proved from fmt's source: count such statements apart). THE CARD IS WHAT COUNTS. Prove the row's statement (the work); the ties are given (YtjpdghpkbpdmeabDoorTie.lean); close each card by the builder's one call (the guide's Derived/Test/ToyasCard.lean, 'card_holds'). Laid BY PROGRAM, IN A SANDBOX (cutbox-door.mjs). By AI agents, Wed Nov 11 2026. No macro, syntax, notation, axiom, sorry.
-/
import Derived.Test.YtjpdghpkbpdmeabDoorRows
import GoSem.ClaimSeven
namespace Go.Proofs.YtjpdghpkbpdmeabDoor
namespace Rows

/-- THE TIED CARD OF 'shredcollaw1.EncLess'. -/
def encLessCard : Claim7 := { stood := { row := encLessRow, standIns := [], harness := (true, "e4b518d253bcd6b8b7ccfcc97bf1123a7565cd34c1adc970395bde056c06309b"), looks := false }, kinds := [], alts := [], laidByText := true, laidKinds := [.sentinel, .sentinel, .sentinel], laidTests := true, laidLooks := .later }
def EncLessCardSaid : Prop := Claim7.holds Tryd.pinned (.plain (OpenSpec.ofChange encLessSpec)) encLessCard

/-- THE TIED CARD OF 'shredcollaw1.EncOrder'. -/
def encOrderCard : Claim7 := { stood := { row := encOrderRow, standIns := [], harness := (true, "e4b518d253bcd6b8b7ccfcc97bf1123a7565cd34c1adc970395bde056c06309b"), looks := false }, kinds := [], alts := [], laidByText := true, laidKinds := [.sentinel, .sentinel, .sentinel], laidTests := true, laidLooks := .later }
def EncOrderCardSaid : Prop := Claim7.holds Tryd.pinned (.plain (OpenSpec.ofChange encOrderSpec)) encOrderCard

/-- THE TIED CARD OF 'shredcollaw1.EncWords'. -/
def encWordsCard : Claim7 := { stood := { row := encWordsRow, standIns := [], harness := (true, "e4b518d253bcd6b8b7ccfcc97bf1123a7565cd34c1adc970395bde056c06309b"), looks := false }, kinds := [], alts := [], laidByText := true, laidKinds := [.sentinel, .sentinel, .sentinel], laidTests := true, laidLooks := .later }
def EncWordsCardSaid : Prop := Claim7.holds Tryd.pinned (.plain (OpenSpec.ofChange encWordsSpec)) encWordsCard

/-- THE SECOND FORM's CARD OF 'shredcollaw1.EncLess'. -/
def encLessUptoCard : Claim7 := { stood := { row := encLessUptoRow, standIns := [], harness := (true, "e4b518d253bcd6b8b7ccfcc97bf1123a7565cd34c1adc970395bde056c06309b"), looks := false }, kinds := [], alts := [], laidByText := true, laidKinds := [.sentinel, .sentinel, .sentinel], laidTests := true, laidLooks := .later }
def EncLessUptoCardSaid : Prop := Claim7.holds Tryd.pinned (.plain (OpenSpec.upto encLessSpec)) encLessUptoCard

/-- THE SECOND FORM's CARD OF 'shredcollaw1.EncOrder'. -/
def encOrderUptoCard : Claim7 := { stood := { row := encOrderUptoRow, standIns := [], harness := (true, "e4b518d253bcd6b8b7ccfcc97bf1123a7565cd34c1adc970395bde056c06309b"), looks := false }, kinds := [], alts := [], laidByText := true, laidKinds := [.sentinel, .sentinel, .sentinel], laidTests := true, laidLooks := .later }
def EncOrderUptoCardSaid : Prop := Claim7.holds Tryd.pinned (.plain (OpenSpec.upto encOrderSpec)) encOrderUptoCard

/-- THE SECOND FORM's CARD OF 'shredcollaw1.EncWords'. -/
def encWordsUptoCard : Claim7 := { stood := { row := encWordsUptoRow, standIns := [], harness := (true, "e4b518d253bcd6b8b7ccfcc97bf1123a7565cd34c1adc970395bde056c06309b"), looks := false }, kinds := [], alts := [], laidByText := true, laidKinds := [.sentinel, .sentinel, .sentinel], laidTests := true, laidLooks := .later }
def EncWordsUptoCardSaid : Prop := Claim7.holds Tryd.pinned (.plain (OpenSpec.upto encWordsSpec)) encWordsUptoCard
end Rows
end Go.Proofs.YtjpdghpkbpdmeabDoor
