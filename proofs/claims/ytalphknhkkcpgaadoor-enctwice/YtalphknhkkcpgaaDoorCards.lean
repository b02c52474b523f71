/-
  DERIVED. GIVEN WITH THE SEED: THE CARDS: each row of YtalphknhkkcpgaaDoorRows.lean that lists a variable, with what it lists TIED to the program's text (the seventh form; the later family's looks); each row that meets fmt, with fmt's text TOLD by the authors' own Lean function (tested against real Go, not proved from fmt's source: count such statements apart). THE CARD IS WHAT COUNTS. Prove the row's statement (the work); the ties are given (YtalphknhkkcpgaaDoorTie.lean); close each card by the builder's one call (the guide's Derived/Test/ToyasCard.lean, 'card_holds'). Laid BY PROGRAM, IN A SANDBOX (cutbox-door.mjs). By AI agents, Wed Nov 11 2026. No macro, syntax, notation, axiom, sorry.
-/
import Derived.Test.YtalphknhkkcpgaaDoorRows
import GoSem.ClaimSeven
namespace Go.Proofs.YtalphknhkkcpgaaDoor
namespace Rows

/-- THE TIED CARD OF 'shredcollaw1.EncBest'. -/
def encBestCard : Claim7 := { stood := { row := encBestRow, standIns := [], harness := (true, "645607aa15ce2d603af2f9fffc90428702f5ada0aae2acd3b6eecb1fb6810041"), looks := true }, kinds := [], alts := [], laidByText := true, laidKinds := [.handle, .sentinel, .sentinel, .sentinel, .sentinel, .sentinel, .sentinel, .sentinel, .sentinel], laidTests := true, laidLooks := .later }
def EncBestCardSaid : Prop := Claim7.holds Tryd.pinned (.plain (OpenSpec.ofChange encBestSpec)) encBestCard

/-- THE TIED CARD OF 'shredcollaw1.EncTwice'. -/
def encTwiceCard : Claim7 := { stood := { row := encTwiceRow, standIns := [], harness := (true, "645607aa15ce2d603af2f9fffc90428702f5ada0aae2acd3b6eecb1fb6810041"), looks := true }, kinds := [], alts := [], laidByText := true, laidKinds := [.sentinel, .sentinel, .sentinel, .sentinel], laidTests := true, laidLooks := .later }
def EncTwiceCardSaid : Prop := Claim7.holds Tryd.pinned (.plain (OpenSpec.ofChange encTwiceSpec)) encTwiceCard

/-- THE TIED CARD OF 'shredcollaw1.EncAgain'. -/
def encAgainCard : Claim7 := { stood := { row := encAgainRow, standIns := [], harness := (true, "645607aa15ce2d603af2f9fffc90428702f5ada0aae2acd3b6eecb1fb6810041"), looks := true }, kinds := [], alts := [], laidByText := true, laidKinds := [.sentinel, .sentinel, .sentinel, .sentinel], laidTests := true, laidLooks := .later }
def EncAgainCardSaid : Prop := Claim7.holds Tryd.pinned (.plain (OpenSpec.ofChange encAgainSpec)) encAgainCard

/-- THE SECOND FORM's CARD OF 'shredcollaw1.EncBest'. -/
def encBestUptoCard : Claim7 := { stood := { row := encBestUptoRow, standIns := [], harness := (true, "645607aa15ce2d603af2f9fffc90428702f5ada0aae2acd3b6eecb1fb6810041"), looks := true }, kinds := [], alts := [], laidByText := true, laidKinds := [.handle, .sentinel, .sentinel, .sentinel, .sentinel, .sentinel, .sentinel, .sentinel, .sentinel], laidTests := true, laidLooks := .later }
def EncBestUptoCardSaid : Prop := Claim7.holds Tryd.pinned (.plain (OpenSpec.upto encBestSpec)) encBestUptoCard

/-- THE SECOND FORM's CARD OF 'shredcollaw1.EncTwice'. -/
def encTwiceUptoCard : Claim7 := { stood := { row := encTwiceUptoRow, standIns := [], harness := (true, "645607aa15ce2d603af2f9fffc90428702f5ada0aae2acd3b6eecb1fb6810041"), looks := true }, kinds := [], alts := [], laidByText := true, laidKinds := [.sentinel, .sentinel, .sentinel, .sentinel], laidTests := true, laidLooks := .later }
def EncTwiceUptoCardSaid : Prop := Claim7.holds Tryd.pinned (.plain (OpenSpec.upto encTwiceSpec)) encTwiceUptoCard

/-- THE SECOND FORM's CARD OF 'shredcollaw1.EncAgain'. -/
def encAgainUptoCard : Claim7 := { stood := { row := encAgainUptoRow, standIns := [], harness := (true, "645607aa15ce2d603af2f9fffc90428702f5ada0aae2acd3b6eecb1fb6810041"), looks := true }, kinds := [], alts := [], laidByText := true, laidKinds := [.sentinel, .sentinel, .sentinel, .sentinel], laidTests := true, laidLooks := .later }
def EncAgainUptoCardSaid : Prop := Claim7.holds Tryd.pinned (.plain (OpenSpec.upto encAgainSpec)) encAgainUptoCard
end Rows
end Go.Proofs.YtalphknhkkcpgaaDoor
