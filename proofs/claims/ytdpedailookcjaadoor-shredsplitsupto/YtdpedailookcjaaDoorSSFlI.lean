/-
  The flat list of a schema in memory.
-/
import Derived.Test.YtdpedailookcjaaDoorSBIds
import Derived.Deep.DeepCutAuto
import Derived.Deep.RegionHeld3
import Derived.Deep.RegionLaw
namespace Go.Proofs.YtdpedailookcjaaDoor
open Go.RowKit
/-- The flat list in memory. -/
structure FlI (t : Tr) (ps : List Pn) (g : Nat) (w1 : World) : Prop where
  co : ps.map Pn.core = fl t
  cell : ∀ X, Below w1.heap.size w1 X → ∀ i (h : i < ps.length) k u, k < 7 → (pnc ps[i])[k]? = some u → X.cell? ⟨g, i * 7 + k, none⟩ = some u
theorem FlI.len {t : Tr} {ps : List Pn} {g : Nat} {w1 : World} (h : FlI t ps g w1) : ps.length = (fl t).length := by rw [← h.co, List.length_map]
theorem FlI.at_ {t : Tr} {ps : List Pn} {g : Nat} {w1 : World} (h : FlI t ps g w1) (i : Nat) (hi : i < ps.length) : (fl t)[i]'(by rw [← h.len]; exact hi) = ps[i].core := by simp only [← h.co, List.getElem_map]
theorem FlI.tail {t : Tr} {ps : List Pn} {g : Nat} {w1 : World} (h : FlI t ps g w1) (i : Nat) (hi : i + 1 < ps.length) : ∃ hh : i < (fl t).tail.length, (fl t).tail[i] = ps[i + 1].core := by
  have h1 : i < (fl t).tail.length := by rw [List.length_tail, ← h.len]; omega
  exact ⟨h1, by rw [List.getElem_tail]; exact h.at_ (i + 1) hi⟩
theorem FlI.tl {t : Tr} {ps : List Pn} {g : Nat} {w1 : World} (h : FlI t ps g w1) (i : Nat) (h1 : 1 ≤ i) (hi : i < ps.length) : ∃ hh : i - 1 < (fl t).tail.length, (fl t).tail[i - 1] = ps[i].core := by
  obtain ⟨j, rfl⟩ : ∃ j, i = j + 1 := ⟨i - 1, by omega⟩
  exact h.tail j hi
theorem FlI.tln {t : Tr} {ps : List Pn} {g : Nat} {w1 : World} (h : FlI t ps g w1) : ps.length - 1 = (fl t).tail.length := by rw [List.length_tail, ← h.len]
theorem fl_pos (t : Tr) : 0 < (fl t).length := by
  unfold fl
  rw [flT_eq, if_neg (by simp)]
  obtain ⟨E, h⟩ := flL_ext t.sub ([] ++ [⟨t, (1 : Nat), -1⟩]) 2 ([] : List Pc).length
  rw [h]
  simp
end Go.Proofs.YtdpedailookcjaaDoor
