/-
  DERIVED. GIVEN WITH THE SEED: THE CARDS: each row of YtjpdghpkbpdmeaaDoorRows.lean that lists a variable, with what it lists TIED to the program's text (the seventh form; the later family's looks); each row that meets fmt, with fmt's text TOLD by the authors' own Lean function (tested against real Go, not proved from fmt's source: count such statements apart). THE CARD IS WHAT COUNTS. Prove the row's statement (the work); the ties are given (YtjpdghpkbpdmeaaDoorTie.lean); close each card by the builder's one call (the guide's Derived/Test/ToyasCard.lean, 'card_holds'). Laid BY PROGRAM, IN A SANDBOX (cutbox-door.mjs). By AI agents, Wed Nov 11 2026. No macro, syntax, notation, axiom, sorry.
-/
import Derived.Test.YtjpdghpkbpdmeaaDoorRows
import GoSem.ClaimSeven
namespace Go.Proofs.YtjpdghpkbpdmeaaDoor
namespace Rows

/-- THE TIED CARD OF 'shredcollaw1.EncPlain'. -/
def encPlainCard : Claim7 := { stood := { row := encPlainRow, standIns := [], harness := (true, "40ff3f7046440aaf084c6ba288190354c5363af7bb47babde55680c2b5d6ec01"), looks := true }, kinds := [], alts := [], laidByText := true, laidKinds := [.handle, .sentinel, .sentinel, .sentinel, .sentinel, .sentinel, .sentinel, .sentinel, .sentinel], laidTests := true, laidLooks := .later }
def EncPlainCardSaid : Prop := Claim7.holds Tryd.pinned (.plain (OpenSpec.ofChange encPlainSpec)) encPlainCard

/-- THE TIED CARD OF 'shredcollaw1.EncDict'. -/
def encDictCard : Claim7 := { stood := { row := encDictRow, standIns := [], harness := (true, "40ff3f7046440aaf084c6ba288190354c5363af7bb47babde55680c2b5d6ec01"), looks := true }, kinds := [], alts := [], laidByText := true, laidKinds := [.handle, .sentinel, .sentinel, .sentinel, .sentinel, .sentinel, .sentinel, .sentinel, .sentinel], laidTests := true, laidLooks := .later }
def EncDictCardSaid : Prop := Claim7.holds Tryd.pinned (.plain (OpenSpec.ofChange encDictSpec)) encDictCard

/-- THE TIED CARD OF 'shredcollaw1.EncBest'. -/
def encBestCard : Claim7 := { stood := { row := encBestRow, standIns := [], harness := (true, "40ff3f7046440aaf084c6ba288190354c5363af7bb47babde55680c2b5d6ec01"), looks := true }, kinds := [], alts := [], laidByText := true, laidKinds := [.handle, .sentinel, .sentinel, .sentinel, .sentinel, .sentinel, .sentinel, .sentinel, .sentinel], laidTests := true, laidLooks := .later }
def EncBestCardSaid : Prop := Claim7.holds Tryd.pinned (.plain (OpenSpec.ofChange encBestSpec)) encBestCard

/-- THE TIED CARD OF 'shredcollaw1.EncTwice'. -/
def encTwiceCard : Claim7 := { stood := { row := encTwiceRow, standIns := [], harness := (true, "40ff3f7046440aaf084c6ba288190354c5363af7bb47babde55680c2b5d6ec01"), looks := true }, kinds := [], alts := [], laidByText := true, laidKinds := [.sentinel, .sentinel, .sentinel, .sentinel], laidTests := true, laidLooks := .later }
def EncTwiceCardSaid : Prop := Claim7.holds Tryd.pinned (.plain (OpenSpec.ofChange encTwiceSpec)) encTwiceCard

/-- THE TIED CARD OF 'shredcollaw1.EncPrefix'. -/
def encPrefixCard : Claim7 := { stood := { row := encPrefixRow, standIns := [], harness := (true, "40ff3f7046440aaf084c6ba288190354c5363af7bb47babde55680c2b5d6ec01"), looks := true }, kinds := [], alts := [], laidByText := true, laidKinds := [.handle, .sentinel, .sentinel, .sentinel, .sentinel, .sentinel, .sentinel, .sentinel, .sentinel], laidTests := true, laidLooks := .later }
def EncPrefixCardSaid : Prop := Claim7.holds Tryd.pinned (.plain (OpenSpec.ofChange encPrefixSpec)) encPrefixCard

/-- THE TIED CARD OF 'shredcollaw1.EncAgain'. -/
def encAgainCard : Claim7 := { stood := { row := encAgainRow, standIns := [], harness := (true, "40ff3f7046440aaf084c6ba288190354c5363af7bb47babde55680c2b5d6ec01"), looks := true }, kinds := [], alts := [], laidByText := true, laidKinds := [.sentinel, .sentinel, .sentinel, .sentinel], laidTests := true, laidLooks := .later }
def EncAgainCardSaid : Prop := Claim7.holds Tryd.pinned (.plain (OpenSpec.ofChange encAgainSpec)) encAgainCard

/-- THE SECOND FORM's CARD OF 'shredcollaw1.EncPlain'. -/
def encPlainUptoCard : Claim7 := { stood := { row := encPlainUptoRow, standIns := [], harness := (true, "40ff3f7046440aaf084c6ba288190354c5363af7bb47babde55680c2b5d6ec01"), looks := true }, kinds := [], alts := [], laidByText := true, laidKinds := [.handle, .sentinel, .sentinel, .sentinel, .sentinel, .sentinel, .sentinel, .sentinel, .sentinel], laidTests := true, laidLooks := .later }
def EncPlainUptoCardSaid : Prop := Claim7.holds Tryd.pinned (.plain (OpenSpec.upto encPlainSpec)) encPlainUptoCard

/-- THE SECOND FORM's CARD OF 'shredcollaw1.EncDict'. -/
def encDictUptoCard : Claim7 := { stood := { row := encDictUptoRow, standIns := [], harness := (true, "40ff3f7046440aaf084c6ba288190354c5363af7bb47babde55680c2b5d6ec01"), looks := true }, kinds := [], alts := [], laidByText := true, laidKinds := [.handle, .sentinel, .sentinel, .sentinel, .sentinel, .sentinel, .sentinel, .sentinel, .sentinel], laidTests := true, laidLooks := .later }
def EncDictUptoCardSaid : Prop := Claim7.holds Tryd.pinned (.plain (OpenSpec.upto encDictSpec)) encDictUptoCard

/-- THE SECOND FORM's CARD OF 'shredcollaw1.EncBest'. -/
def encBestUptoCard : Claim7 := { stood := { row := encBestUptoRow, standIns := [], harness := (true, "40ff3f7046440aaf084c6ba288190354c5363af7bb47babde55680c2b5d6ec01"), looks := true }, kinds := [], alts := [], laidByText := true, laidKinds := [.handle, .sentinel, .sentinel, .sentinel, .sentinel, .sentinel, .sentinel, .sentinel, .sentinel], laidTests := true, laidLooks := .later }
def EncBestUptoCardSaid : Prop := Claim7.holds Tryd.pinned (.plain (OpenSpec.upto encBestSpec)) encBestUptoCard

/-- THE SECOND FORM's CARD OF 'shredcollaw1.EncTwice'. -/
def encTwiceUptoCard : Claim7 := { stood := { row := encTwiceUptoRow, standIns := [], harness := (true, "40ff3f7046440aaf084c6ba288190354c5363af7bb47babde55680c2b5d6ec01"), looks := true }, kinds := [], alts := [], laidByText := true, laidKinds := [.sentinel, .sentinel, .sentinel, .sentinel], laidTests := true, laidLooks := .later }
def EncTwiceUptoCardSaid : Prop := Claim7.holds Tryd.pinned (.plain (OpenSpec.upto encTwiceSpec)) encTwiceUptoCard

/-- THE SECOND FORM's CARD OF 'shredcollaw1.EncPrefix'. -/
def encPrefixUptoCard : Claim7 := { stood := { row := encPrefixUptoRow, standIns := [], harness := (true, "40ff3f7046440aaf084c6ba288190354c5363af7bb47babde55680c2b5d6ec01"), looks := true }, kinds := [], alts := [], laidByText := true, laidKinds := [.handle, .sentinel, .sentinel, .sentinel, .sentinel, .sentinel, .sentinel, .sentinel, .sentinel], laidTests := true, laidLooks := .later }
def EncPrefixUptoCardSaid : Prop := Claim7.holds Tryd.pinned (.plain (OpenSpec.upto encPrefixSpec)) encPrefixUptoCard

/-- THE SECOND FORM's CARD OF 'shredcollaw1.EncAgain'. -/
def encAgainUptoCard : Claim7 := { stood := { row := encAgainUptoRow, standIns := [], harness := (true, "40ff3f7046440aaf084c6ba288190354c5363af7bb47babde55680c2b5d6ec01"), looks := true }, kinds := [], alts := [], laidByText := true, laidKinds := [.sentinel, .sentinel, .sentinel, .sentinel], laidTests := true, laidLooks := .later }
def EncAgainUptoCardSaid : Prop := Claim7.holds Tryd.pinned (.plain (OpenSpec.upto encAgainSpec)) encAgainUptoCard
end Rows
end Go.Proofs.YtjpdghpkbpdmeaaDoor
