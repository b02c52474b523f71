/-
  wire.Fixed and the reference's Little; wire.ReadFixed and the reference's ReadLittle: what they answer.
-/
import Derived.Test.YtjpdghpkbpdmeaaDoorGBMath
import Derived.Test.YtjpdghpkbpdmeaaDoorGBase
import Derived.Test.YtjpdghpkbpdmeaaDoorGBSeven
import Derived.Laws.MakeOwn
import Derived.RegionTactic
namespace Go.Proofs.YtjpdghpkbpdmeaaDoor
open Go.RowKit
/-- What the loop of Fixed keeps. -/
structure FRow (n k g : Nat) (w wr : World) (i : Nat) : Prop where
  done : ∀ j, j < i → wr.cell? ⟨g, j, none⟩ = some (.int .u8 (Um.by_ n j : Nat))
  any : ∀ j, j < k → ∃ v, wr.cell? ⟨g, j, none⟩ = some v
  froz : ∀ j, j < k → wr.frozen? ⟨g, j, none⟩ = false
  old : Below w.heap.size w wr
theorem FRow.start (n k : Nat) (w : World) (M : Array Value) (hM : M.size = k) : FRow n k w.heap.size w (w.alloc (.cells M 5)) 0 := by
  refine ⟨fun j h => absurd h (Nat.not_lt_zero _), fun j hj => ?_, fun j _ => ?_, (Below.refl _ _).alloc (Nat.le_refl _) _⟩
  · rw [cell_of_row _ w.heap.size j M 5 (0, 0) (heap_alloc_new w _)]
    exact ⟨_, Array.getElem?_eq_getElem (by omega)⟩
  · exact frozen_of_row _ w.heap.size j M 5 (heap_alloc_new w _)
theorem FRow.next {n k g : Nat} {w wr : World} {i : Nat} (h : FRow n k g w wr i) (hg : w.heap.size ≤ g) (hi : i < k) : FRow n k g w (wr.setCell ⟨g, i, none⟩ (.int .u8 (Um.by_ n i : Nat))) (i + 1) := by
  obtain ⟨v, hv⟩ := h.any i hi
  have hother : ∀ j, j ≠ i → (wr.setCell ⟨g, i, none⟩ (.int .u8 (Um.by_ n i : Nat))).cell? ⟨g, j, none⟩ = wr.cell? ⟨g, j, none⟩ := fun j hj =>
    World.cell?_setCell_other _ _ _ _ (fun e => hj (by injection e with _ e; exact e.symm))
  refine ⟨fun j hj => ?_, fun j hj => ?_, fun j hj => by simpa using h.froz j hj, h.old.setCell hg _⟩
  · by_cases e : j = i
    · subst e; exact World.cell?_setCell_same _ _ _ hv
    · rw [hother j e]; exact h.done j (by omega)
  · by_cases e : j = i
    · subst e; exact ⟨_, World.cell?_setCell_same _ _ _ hv⟩
    · rw [hother j e]; exact h.any j hj
theorem FRow.conv {n k g : Nat} {w wr : World} (h : FRow n k g w wr k) : (convert 85 9 (.slice (some ⟨g, 0, none⟩) k k)).run Tryd.prog wr = .ok (.string ⟨(Um.lit n k).toArray⟩) wr := by
  have := run_convert_bytes_back (P := Tryd.prog) wr 85 9 5 ⟨g, 0, none⟩ k (Um.lit n k) Tryd.underlying85 Tryd.underlying5 Tryd.underlying9 (fun j hj => by
    have e : (⟨g, 0, none⟩ : Addr).add j = ⟨g, j, none⟩ := by unfold Addr.add; split <;> simp_all
    have hj' : j < k := by rw [Um.lit_len] at hj; exact hj
    rw [e, h.done j hj', Um.lit_get n k j hj', Um.bt_nat (Um.by_lt n j)])
  rw [Um.lit_len] at this
  exact this
theorem by_int (n j : Nat) : (n : Int) / 2 ^ (8 * j) % 256 = ((Um.by_ n j : Nat) : Int) := by unfold Um.by_; simp
end Go.Proofs.YtjpdghpkbpdmeaaDoor
