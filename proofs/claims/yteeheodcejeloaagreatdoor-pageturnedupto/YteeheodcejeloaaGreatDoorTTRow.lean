/-
  A row of bytes of the call's own, of which one is turned.
-/
import Derived.Test.YteeheodcejeloaaGreatDoorTBBase
import Derived.RegionTactic
import Derived.BigRegion
import Derived.OpenShut
namespace Go.Proofs.YteeheodcejeloaaGreatDoor
open Go.RowKit
/-- Bytes lie in a row of the call's own. -/
structure TRow (l : List UInt8) (g : Nat) (w wr : World) : Prop where
  cell : ∀ j (h : j < l.length), wr.cell? ⟨g, j, none⟩ = some (.int .u8 (l[j]).toNat)
  froz : ∀ j, j < l.length → wr.frozen? ⟨g, j, none⟩ = false
  row : g < wr.heap.size
  old : Below w.heap.size w wr
theorem TRow.start (l : List UInt8) (cp : Nat) (w : World) : TRow l w.heap.size w (w.alloc (.cells (bytesRow ⟨l.toArray⟩ cp) 5 ((bytesRow ⟨l.toArray⟩ cp).size, (bytesRow ⟨l.toArray⟩ cp).size + 1))).drew where
  cell := fun j h => by
    have hj : j < (⟨l.toArray⟩ : ByteArray).data.size := by simpa using h
    have h1 : (w.alloc (.cells (bytesRow ⟨l.toArray⟩ cp) 5 ((bytesRow ⟨l.toArray⟩ cp).size, (bytesRow ⟨l.toArray⟩ cp).size + 1))).drew.cell? ⟨w.heap.size, j, none⟩ = (bytesRow ⟨l.toArray⟩ cp)[j]? :=
      cell_of_row _ w.heap.size j (bytesRow ⟨l.toArray⟩ cp) 5 _ (heap_alloc_new w _)
    rw [h1, bytesRow_at ⟨l.toArray⟩ cp j hj]
    simp
  froz := fun j hj => by
    have h1 : (w.alloc (.cells (bytesRow ⟨l.toArray⟩ cp) 5 ((bytesRow ⟨l.toArray⟩ cp).size, (bytesRow ⟨l.toArray⟩ cp).size + 1))).drew.heap[w.heap.size]? = some (.cells (bytesRow ⟨l.toArray⟩ cp) 5 ((bytesRow ⟨l.toArray⟩ cp).size, (bytesRow ⟨l.toArray⟩ cp).size + 1)) := heap_alloc_new w _
    have h2 : j < (bytesRow ⟨l.toArray⟩ cp).size := by simp [bytesRow]; omega
    unfold World.frozen?
    rw [h1]
    simp
    omega
  row := by show _ < (w.heap.push _).size; rw [Array.size_push]; omega
  old := ((Below.refl _ _).alloc (Nat.le_refl _) _).drew
theorem turn_byte (y : UInt8) (b : Nat) (hb : b < 8) : ∃ x : UInt8, x.toNat = y.toNat ^^^ 2 ^ b ∧ bits .xor .u8 (y.toNat : Int) (2 ^ b % 256) = (x.toNat : Int) := by
  have h2 : 2 ^ b < 256 := (Nat.pow_lt_pow_iff_right (a := 2) (by omega)).2 hb
  have hy := y.toNat_lt
  have hxx : y.toNat ^^^ 2 ^ b < 256 := Nat.xor_lt_two_pow (n := 8) hy h2
  refine ⟨UInt8.ofNat (y.toNat ^^^ 2 ^ b), ?_, ?_⟩
  · simp only [UInt8.toNat_ofNat']
    omega
  have e : ((2 : Int) ^ b % 256) = ((2 ^ b : Nat) : Int) := by
    have e1 : ((2 ^ b : Nat) : Int) = (2 : Int) ^ b := by simp
    rw [← e1]
    generalize (2 ^ b : Nat) = q at h2 ⊢
    omega
  rw [e, u8_xor_nat y.toNat (2 ^ b) hy h2]
  simp only [UInt8.toNat_ofNat']
  omega
theorem TRow.turn {l : List UInt8} {g : Nat} {w wr : World} (h : TRow l g w wr) (hg : w.heap.size ≤ g) {j : Nat} (hj : j < l.length) (x : UInt8) : TRow (l.set j x) g w (wr.setCell ⟨g, j, none⟩ (.int .u8 (x.toNat : Int))) where
  cell := fun i hi => by
    have hi2 : i < l.length := by simpa using hi
    by_cases e : j = i
    · subst e
      rw [World.cell?_setCell_same _ _ _ (h.cell j hj)]
      simp
    · rw [World.cell?_setCell_other _ _ _ _ (fun h => e (by injection h)), h.cell i hi2, List.getElem_set_ne e]
  froz := fun i hi => by
    have hi2 : i < l.length := by simpa using hi
    simpa using h.froz i hi2
  row := by simpa using h.row
  old := h.old.setCell hg _
theorem TRow.drew {l : List UInt8} {g : Nat} {w wr : World} (h : TRow l g w wr) : TRow l g w wr.drew := ⟨h.cell, h.froz, h.row, h.old.drew⟩
theorem TRow.keep {l : List UInt8} {g : Nat} {w wr X : World} (h : TRow l g w wr) (hb : Below wr.heap.size wr X) : TRow l g w X :=
  ⟨fun j hj => (hb.cell h.row).trans (h.cell j hj), fun j hj => (hb.frozen h.row).trans (h.froz j hj), Nat.lt_of_lt_of_le h.row hb.size, h.old.trans (hb.mono h.old.size)⟩
theorem TRow.conv {l : List UInt8} {g cp n : Nat} {w wr : World} (h : TRow l g w wr) (hn : l.length = n) : (convert 58 9 (.slice (some ⟨g, 0, none⟩) n cp)).run Tryz.prog wr = .ok (.string ⟨l.toArray⟩) wr := by
  subst hn
  refine run_convert_bytes_back wr 58 9 5 ⟨g, 0, none⟩ cp l Tryz.underlying58 Tryz.underlying5 Tryz.underlying9 (fun j hj => ?_)
  have e : (⟨g, 0, none⟩ : Addr).add j = ⟨g, j, none⟩ := by unfold Addr.add; split <;> simp_all
  rw [e]
  exact h.cell j hj
end Go.Proofs.YteeheodcejeloaaGreatDoor
