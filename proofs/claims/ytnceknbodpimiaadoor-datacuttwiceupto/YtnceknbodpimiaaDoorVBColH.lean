/-
  The reference's ColumnError: what it answers.
  Appending to nil whatever ints or values; OwnColumn.
  The reference's OwnColumn.
-/
import Derived.Test.YtnceknbodpimiaaDoorVBWriter
import Derived.Test.YtnceknbodpimiaaDoorVSameInts
import Derived.Test.YtnceknbodpimiaaDoorVBSmall
import Derived.Test.YtnceknbodpimiaaDoorVOwn
import Derived.RegionTactic
import Derived.Deep.QuietTactic
import Derived.BigQuiet
import Derived.Deep.RegionWith
import Derived.Test.YtnceknbodpimiaaDoorVBPackF
import Derived.Deep.RegionHeld3
import Derived.Test.YtnceknbodpimiaaDoorVRefVals
namespace Go.Proofs.YtnceknbodpimiaaDoor
open Go.RowKit
end Go.Proofs.YtnceknbodpimiaaDoor

namespace Go.Proofs.YtnceknbodpimiaaDoor
open Go.RowKit
theorem cell_off {w : World} {g j b o : Nat} {v : Value} (h : b ≠ g) : (w.setCell ⟨g, j, none⟩ v).cell? ⟨b, o, none⟩ = w.cell? ⟨b, o, none⟩ := by
  simp only [World.cell?]
  rw [Below.heap_setCell w ⟨g, j, none⟩ v b h]
theorem Lies.off {w : World} {a : Option Addr} {cs : List Value} (h : Lies w a cs) {g j : Nat} {v : Value} (hf : ∀ p, a = some p → g < p.block) : Lies (w.setCell ⟨g, j, none⟩ v) a cs := fun i hi => by
  obtain ⟨b, o, rfl, hc⟩ := h i hi
  exact ⟨b, o, rfl, by rw [cell_off (by have := hf _ rfl; simp at this; omega)]; exact hc⟩
theorem LiesV.off {w : World} {a : Option Addr} {vs : List Vl} (h : LiesV w a vs) {g j : Nat} {v : Value} (hf : ∀ p, a = some p → g < p.block) : LiesV (w.setCell ⟨g, j, none⟩ v) a vs := fun i hi => by
  obtain ⟨b, o, rfl, h0, h1, h2⟩ := h i hi
  have hne : b ≠ g := by have := hf _ rfl; simp at this; omega
  exact ⟨b, o, rfl, by rw [cell_off hne]; exact h0, by rw [cell_off hne]; exact h1, by rw [cell_off hne]; exact h2⟩
end Go.Proofs.YtnceknbodpimiaaDoor

namespace Go.Proofs.YtnceknbodpimiaaDoor
open Go.RowKit
end Go.Proofs.YtnceknbodpimiaaDoor
