/-
  DERIVED. GIVEN WITH THE SEED: THE CARDS: each row of YtjchkhdmjbojjaaDoorRows.lean that lists a variable, with what it lists TIED to the program's text (the seventh form; the later family's looks); each row that meets fmt, with fmt's text TOLD by the authors' own Lean function (tested against real Go, not proved from fmt's source: count such statements apart). THE CARD IS WHAT COUNTS. Prove the row's statement (the work); the ties are given (YtjchkhdmjbojjaaDoorTie.lean); close each card by the builder's one call (the guide's Derived/Test/ToyasCard.lean, 'card_holds'). Laid BY PROGRAM, IN A SANDBOX (cutbox-door.mjs). By AI agents, Wed Nov 11 2026. No macro, syntax, notation, axiom, sorry.
-/
import Derived.Test.YtjchkhdmjbojjaaDoorRows
import GoSem.ClaimSeven
namespace Go.Proofs.YtjchkhdmjbojjaaDoor
namespace Rows

/-- THE TIED CARD OF 'shredcollaw1.EncDict'. -/
def encDictCard : Claim7 := { stood := { row := encDictRow, standIns := [], harness := (true, "ec57a2dc34d8853d3d976fe0614201d08b8d109b3dc93abc6cfb5474d7ed1910"), looks := true }, kinds := [], alts := [], laidByText := true, laidKinds := [.handle, .sentinel, .sentinel, .sentinel, .sentinel, .sentinel, .sentinel, .sentinel, .sentinel], laidTests := true, laidLooks := .later }
def EncDictCardSaid : Prop := Claim7.holds Tryd.pinned (.plain (OpenSpec.ofChange encDictSpec)) encDictCard

/-- THE TIED CARD OF 'shredcollaw1.EncBest'. -/
def encBestCard : Claim7 := { stood := { row := encBestRow, standIns := [], harness := (true, "ec57a2dc34d8853d3d976fe0614201d08b8d109b3dc93abc6cfb5474d7ed1910"), looks := true }, kinds := [], alts := [], laidByText := true, laidKinds := [.handle, .sentinel, .sentinel, .sentinel, .sentinel, .sentinel, .sentinel, .sentinel, .sentinel], laidTests := true, laidLooks := .later }
def EncBestCardSaid : Prop := Claim7.holds Tryd.pinned (.plain (OpenSpec.ofChange encBestSpec)) encBestCard

/-- THE TIED CARD OF 'shredcollaw1.EncTwice'. -/
def encTwiceCard : Claim7 := { stood := { row := encTwiceRow, standIns := [], harness := (true, "ec57a2dc34d8853d3d976fe0614201d08b8d109b3dc93abc6cfb5474d7ed1910"), looks := true }, kinds := [], alts := [], laidByText := true, laidKinds := [.sentinel, .sentinel, .sentinel, .sentinel], laidTests := true, laidLooks := .later }
def EncTwiceCardSaid : Prop := Claim7.holds Tryd.pinned (.plain (OpenSpec.ofChange encTwiceSpec)) encTwiceCard

/-- THE SECOND FORM's CARD OF 'shredcollaw1.EncDict'. -/
def encDictUptoCard : Claim7 := { stood := { row := encDictUptoRow, standIns := [], harness := (true, "ec57a2dc34d8853d3d976fe0614201d08b8d109b3dc93abc6cfb5474d7ed1910"), looks := true }, kinds := [], alts := [], laidByText := true, laidKinds := [.handle, .sentinel, .sentinel, .sentinel, .sentinel, .sentinel, .sentinel, .sentinel, .sentinel], laidTests := true, laidLooks := .later }
def EncDictUptoCardSaid : Prop := Claim7.holds Tryd.pinned (.plain (OpenSpec.upto encDictSpec)) encDictUptoCard

/-- THE SECOND FORM's CARD OF 'shredcollaw1.EncBest'. -/
def encBestUptoCard : Claim7 := { stood := { row := encBestUptoRow, standIns := [], harness := (true, "ec57a2dc34d8853d3d976fe0614201d08b8d109b3dc93abc6cfb5474d7ed1910"), looks := true }, kinds := [], alts := [], laidByText := true, laidKinds := [.handle, .sentinel, .sentinel, .sentinel, .sentinel, .sentinel, .sentinel, .sentinel, .sentinel], laidTests := true, laidLooks := .later }
def EncBestUptoCardSaid : Prop := Claim7.holds Tryd.pinned (.plain (OpenSpec.upto encBestSpec)) encBestUptoCard

/-- THE SECOND FORM's CARD OF 'shredcollaw1.EncTwice'. -/
def encTwiceUptoCard : Claim7 := { stood := { row := encTwiceUptoRow, standIns := [], harness := (true, "ec57a2dc34d8853d3d976fe0614201d08b8d109b3dc93abc6cfb5474d7ed1910"), looks := true }, kinds := [], alts := [], laidByText := true, laidKinds := [.sentinel, .sentinel, .sentinel, .sentinel], laidTests := true, laidLooks := .later }
def EncTwiceUptoCardSaid : Prop := Claim7.holds Tryd.pinned (.plain (OpenSpec.upto encTwiceSpec)) encTwiceUptoCard
end Rows
end Go.Proofs.YtjchkhdmjbojjaaDoor
