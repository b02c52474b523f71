/-
  slices.Grow and slices.Concat of nodes; schema.pathTo.
-/
import Derived.Test.YthlnjnoeaicjjaaDoorPIds
import Derived.Lib.AppendZeros
import Derived.LoopN
namespace Go.Proofs.YthlnjnoeaicjjaaDoor
open Go.RowKit
/-- Nodes that lie in a slice, as cells. -/
theorem LiesN.row {W : World} {P : Nat → Prop} {b o : Nat} {ts : List Tr} (h : LiesN W P (some ⟨b, o, none⟩) ts) : ∃ ncs : List (List Value), ncs.length = ts.length ∧ (∀ x ∈ ncs, x.length = 5) ∧ (∀ j u, ncs.flatten[j]? = some u → W.cell? ((⟨b, o, none⟩ : Addr).add j) = some u) ∧ (∀ j (h : j < ts.length) (h' : j < ncs.length), NodeC W P ts[j] ncs[j]) := by
  obtain ⟨F, h1, h2⟩ := h
  refine ⟨(List.range ts.length).map F, by simp, fun x hx => ?_, fun j u hu => ?_, fun j hj hj' => ?_⟩
  · obtain ⟨i, hi, rfl⟩ := List.mem_map.1 hx
    exact (h2 i (by simpa using hi)).five
  · have h5 : ∀ x ∈ (List.range ts.length).map F, x.length = 5 := fun x hx => by
      obtain ⟨i, hi, rfl⟩ := List.mem_map.1 hx
      exact (h2 i (by simpa using hi)).five
    have e : j = j / 5 * 5 + j % 5 := by omega
    rw [e, flat5 _ h5 (j / 5) (j % 5) (by omega)] at hu
    by_cases hlt : j / 5 < ts.length
    · rw [List.getElem?_map, List.getElem?_range hlt] at hu
      simp only [Option.map_some, Option.bind_some] at hu
      obtain ⟨b', o', x0, x1, x2, x3, x4, ea, _, ecs, c0, c1, c2, c3, c4⟩ := h1 (j / 5) hlt
      injection ea with ea
      injection ea with eb eo _
      subst eb eo
      rw [ecs] at hu
      rw [addr_plus]
      have hm : j % 5 = 0 ∨ j % 5 = 1 ∨ j % 5 = 2 ∨ j % 5 = 3 ∨ j % 5 = 4 := by omega
      rcases hm with hm | hm | hm | hm | hm
      all_goals
        rw [hm] at hu e
        simp at hu
        subst hu
      · rw [show o + j = o + j / 5 * 5 by omega]; exact c0
      · rw [show o + j = o + j / 5 * 5 + 1 by omega]; exact c1
      · rw [show o + j = o + j / 5 * 5 + 2 by omega]; exact c2
      · rw [show o + j = o + j / 5 * 5 + 3 by omega]; exact c3
      · rw [show o + j = o + j / 5 * 5 + 4 by omega]; exact c4
    · rw [List.getElem?_map, List.getElem?_eq_none (by simp; omega)] at hu
      simp at hu
  · rw [List.getElem_map, List.getElem_range]
    exact h2 j hj
end Go.Proofs.YthlnjnoeaicjjaaDoor
