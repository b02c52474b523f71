/-
  The reference's OwnNode: a copy of a schema, with lists of its own.
  A walk through a schema, told as lists: what it answers, what it keeps; the words, without the program.
  schema.inBounds: not too many nodes, not too deep.
  schema.namesAreRight: exact.
-/
import Derived.Test.YthlnjnoeaicjjaaDoorPOpenNode
import Derived.Test.YthlnjnoeaicjjaaDoorPAppWhere
import Derived.RegionTactic
import Derived.Deep.QuietTactic
import Derived.BigQuiet
import Derived.Deep.RegionWith
namespace Go.Proofs.YthlnjnoeaicjjaaDoor
open Go.RowKit
theorem flat5 : ∀ (ls : List (List Value)), (∀ l ∈ ls, l.length = 5) → ∀ j k, k < 5 → ls.flatten[j * 5 + k]? = (ls[j]?).bind fun l => l[k]?
  | [], _, j, k, _ => by simp
  | l :: ls, h, j, k, hk => by
    have hl : l.length = 5 := h l (by simp)
    have ih := flat5 ls (fun x hx => h x (by simp [hx]))
    rw [List.flatten_cons]
    cases j with
    | zero => rw [List.getElem?_append_left (by omega)]; simp
    | succ j =>
      rw [List.getElem?_append_right (by omega), show (j + 1) * 5 + k - l.length = j * 5 + k by omega, ih j k hk]
      simp
theorem row_five {w : World} {g e : Nat} {x0 x1 x2 x3 x4 : Value} (h : w.heap[g]? = some (.cells #[x0, x1, x2, x3, x4] e (0, 0))) :
    (w.cell? ⟨g, 0, none⟩ = some x0 ∧ w.cell? ⟨g, 1, none⟩ = some x1 ∧ w.cell? ⟨g, 2, none⟩ = some x2 ∧ w.cell? ⟨g, 3, none⟩ = some x3 ∧ w.cell? ⟨g, 4, none⟩ = some x4) ∧ w.frozen? ⟨g, 0, none⟩ = false ∧ w.frozen? ⟨g, 1, none⟩ = false ∧ w.frozen? ⟨g, 2, none⟩ = false ∧ w.frozen? ⟨g, 3, none⟩ = false ∧ w.frozen? ⟨g, 4, none⟩ = false :=
  ⟨⟨cell_of_row w g 0 _ e _ h, cell_of_row w g 1 _ e _ h, cell_of_row w g 2 _ e _ h, cell_of_row w g 3 _ e _ h, cell_of_row w g 4 _ e _ h⟩, frozen_of_row w g 0 _ e h, frozen_of_row w g 1 _ e h, frozen_of_row w g 2 _ e h, frozen_of_row w g 3 _ e h, frozen_of_row w g 4 _ e h⟩
theorem row_setC {w : World} {g j : Nat} {cs : Array Value} {t : TypeId} (h : w.heap[g]? = some (.cells cs t (0, 0))) {v : Value} : (w.setCell ⟨g, j, none⟩ v).heap[g]? = some (.cells (cs.setIfInBounds j v) t (0, 0)) := by
  simp [World.setCell, Array.getElem?_modify, h]
theorem NodeC.five {W : World} {P : Nat → Prop} {t : Tr} {cs : List Value} (h : NodeC W P t cs) : cs.length = 5 := by
  obtain ⟨a, c, rfl, _⟩ := h.split
  rfl
end Go.Proofs.YthlnjnoeaicjjaaDoor

namespace Go.Proofs.YthlnjnoeaicjjaaDoor
open Go.RowKit
section
variable {S : Type} (st : S → List Tr → Tr → Bool × S)
end
theorem own_same {w w' : World} {base e size n : Nat} {v : Value} {xs : List Value} (h : w.ownsRow base e size v n xs) (hs : ∀ k, v.ownBlock = some k → w'.heap[k]? = w.heap[k]?) : w'.ownsRow base e size v n xs := by
  refine ⟨h.1, ?_⟩
  rcases h.2 with h0 | ⟨g, cap, cur, rfl, hbg, hg, rest⟩
  · exact .inl h0
  · exact .inr ⟨g, cap, cur, rfl, hbg, (hs g rfl).trans hg, rest⟩
theorem own_block {w : World} {base e size n : Nat} {v : Value} {xs : List Value} (h : w.ownsRow base e size v n xs) {k : Nat} (hk : v.ownBlock = some k) : base ≤ k ∧ k < w.heap.size ∧ ∃ cs, w.heap[k]? = some (.cells cs e (0, 0)) := by
  rcases h.2 with ⟨rfl, _⟩ | ⟨g, cap, cur, rfl, hbg, hg, rest⟩
  · simp [Value.ownBlock] at hk
  · simp only [Value.ownBlock, Option.some.injEq] at hk
    subst hk
    exact ⟨hbg, lt_of_block hg, cur, hg⟩
end Go.Proofs.YthlnjnoeaicjjaaDoor

namespace Go.Proofs.YthlnjnoeaicjjaaDoor
open Go.RowKit
theorem row_one {w : World} {g e : Nat} {x : Value} (h : w.heap[g]? = some (.cells #[x] e (0, 0))) : w.cell? ⟨g, 0, none⟩ = some x ∧ w.frozen? ⟨g, 0, none⟩ = false := by
  constructor <;> simp [World.cell?, World.frozen?, h]
end Go.Proofs.YthlnjnoeaicjjaaDoor

namespace Go.Proofs.YthlnjnoeaicjjaaDoor
open Go.RowKit
/-- The first place in a list at which something is so, or -1. -/
def Idx {α : Type} (p : α → Bool) (l : List α) (r : Int) : Prop := (r = -1 ∧ ∀ j (h : j < l.length), p l[j] = false) ∨ ∃ (i : Nat) (h : i < l.length), r = i ∧ p l[i] = true ∧ ∀ j (h : j < i), p l[j] = false
theorem Idx.any {α : Type} {p : α → Bool} {l : List α} {r : Int} (h : Idx p l r) : decide (0 ≤ r) = l.any p := by
  rcases h with ⟨rfl, h⟩ | ⟨i, hi, rfl, h1, _⟩
  · symm
    simp only [List.any_eq, show ¬ ((0 : Int) ≤ -1) by omega]
    rw [decide_eq_decide]
    constructor
    · rintro ⟨x, hx, hp⟩
      obtain ⟨j, hj, rfl⟩ := List.getElem_of_mem hx
      rw [h j hj] at hp
      cases hp
    · intro h; cases h
  · have : l.any p = true := List.any_eq_true.2 ⟨l[i], List.getElem_mem hi, h1⟩
    rw [this]
    simp
end Go.Proofs.YthlnjnoeaicjjaaDoor
