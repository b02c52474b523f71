/-
  DERIVED. GIVEN WITH THE SEED: THE CARDS: each row of YtgpfmjbebfmmnaaGreatDoorRows.lean that lists a variable, with what it lists TIED to the program's text (the seventh form; the later family's looks); each row that meets fmt, with fmt's text TOLD by the authors' own Lean function (tested against real Go, not proved from fmt's source: count such statements apart). THE CARD IS WHAT COUNTS. Prove the row's statement (the work); the ties are given (YtgpfmjbebfmmnaaGreatDoorTie.lean); close each card by the builder's one call (the guide's Derived/Test/ToyasCard.lean, 'card_holds'). Laid BY PROGRAM, IN A SANDBOX (cutbox-door.mjs). By AI agents, Wed Nov 11 2026. No macro, syntax, notation, axiom, sorry.
-/
import Derived.Test.YtgpfmjbebfmmnaaGreatDoorRows
import GoSem.ClaimSeven
namespace Go.Proofs.YtgpfmjbebfmmnaaGreatDoor
namespace Rows

/-- THE TIED CARD OF 'shredcollaw3.ChunkWrites'. -/
def chunkWritesCard : Claim7 := { stood := { row := chunkWritesRow, standIns := [], harness := (true, "7e8cda3c710a1aa6e50a2a2be451b307fcd66c9d2f73065d5db1a82c44ab1fdb"), looks := true }, kinds := [], alts := [], laidByText := true, laidKinds := [.handle, .sentinel, .sentinel, .sentinel, .sentinel, .sentinel, .sentinel, .sentinel, .sentinel], laidTests := true, laidLooks := .later }
def ChunkWritesCardSaid : Prop := Claim7.holds Tryz.pinned (.plain (OpenSpec.ofChange chunkWritesSpec)) chunkWritesCard

/-- THE TIED CARD OF 'shredcollaw3.ChunkTwice'. -/
def chunkTwiceCard : Claim7 := { stood := { row := chunkTwiceRow, standIns := [], harness := (true, "7e8cda3c710a1aa6e50a2a2be451b307fcd66c9d2f73065d5db1a82c44ab1fdb"), looks := true }, kinds := [], alts := [], laidByText := true, laidKinds := [.sentinel, .sentinel, .sentinel, .sentinel, .sentinel], laidTests := true, laidLooks := .later }
def ChunkTwiceCardSaid : Prop := Claim7.holds Tryz.pinned (.plain (OpenSpec.ofChange chunkTwiceSpec)) chunkTwiceCard

/-- THE TIED CARD OF 'shredcollaw3.ChunkPicks'. -/
def chunkPicksCard : Claim7 := { stood := { row := chunkPicksRow, standIns := [], harness := (true, "7e8cda3c710a1aa6e50a2a2be451b307fcd66c9d2f73065d5db1a82c44ab1fdb"), looks := true }, kinds := [], alts := [], laidByText := true, laidKinds := [.handle, .sentinel, .sentinel, .sentinel, .sentinel, .sentinel, .sentinel, .sentinel, .sentinel], laidTests := true, laidLooks := .later }
def ChunkPicksCardSaid : Prop := Claim7.holds Tryz.pinned (.plain (OpenSpec.ofChange chunkPicksSpec)) chunkPicksCard

/-- THE SECOND FORM's CARD OF 'shredcollaw3.ChunkWrites'. -/
def chunkWritesUptoCard : Claim7 := { stood := { row := chunkWritesUptoRow, standIns := [], harness := (true, "7e8cda3c710a1aa6e50a2a2be451b307fcd66c9d2f73065d5db1a82c44ab1fdb"), looks := true }, kinds := [], alts := [], laidByText := true, laidKinds := [.handle, .sentinel, .sentinel, .sentinel, .sentinel, .sentinel, .sentinel, .sentinel, .sentinel], laidTests := true, laidLooks := .later }
def ChunkWritesUptoCardSaid : Prop := Claim7.holds Tryz.pinned (.plain (OpenSpec.upto chunkWritesSpec)) chunkWritesUptoCard

/-- THE SECOND FORM's CARD OF 'shredcollaw3.ChunkTwice'. -/
def chunkTwiceUptoCard : Claim7 := { stood := { row := chunkTwiceUptoRow, standIns := [], harness := (true, "7e8cda3c710a1aa6e50a2a2be451b307fcd66c9d2f73065d5db1a82c44ab1fdb"), looks := true }, kinds := [], alts := [], laidByText := true, laidKinds := [.sentinel, .sentinel, .sentinel, .sentinel, .sentinel], laidTests := true, laidLooks := .later }
def ChunkTwiceUptoCardSaid : Prop := Claim7.holds Tryz.pinned (.plain (OpenSpec.upto chunkTwiceSpec)) chunkTwiceUptoCard

/-- THE SECOND FORM's CARD OF 'shredcollaw3.ChunkPicks'. -/
def chunkPicksUptoCard : Claim7 := { stood := { row := chunkPicksUptoRow, standIns := [], harness := (true, "7e8cda3c710a1aa6e50a2a2be451b307fcd66c9d2f73065d5db1a82c44ab1fdb"), looks := true }, kinds := [], alts := [], laidByText := true, laidKinds := [.handle, .sentinel, .sentinel, .sentinel, .sentinel, .sentinel, .sentinel, .sentinel, .sentinel], laidTests := true, laidLooks := .later }
def ChunkPicksUptoCardSaid : Prop := Claim7.holds Tryz.pinned (.plain (OpenSpec.upto chunkPicksSpec)) chunkPicksUptoCard
end Rows
end Go.Proofs.YtgpfmjbebfmmnaaGreatDoor
