/-
  The reference's OwnNode: a copy of a schema, with lists of its own.
-/
import Derived.Test.YtkcobccmifkjcaaDoorBOpenNode
import Derived.Test.YtkcobccmifkjcaaDoorBBAppWhere
import Derived.RegionTactic
import Derived.Deep.QuietTactic
import Derived.BigQuiet
import Derived.Deep.RegionWith
namespace Go.Proofs.YtkcobccmifkjcaaDoor
open Go.RowKit
/-- A node as a value. -/
abbrev nodeV (t : Tr) (a : Option Addr) (c : Nat) : Value := .agg #[.int .i64 t.id, .string t.nm, .int .i64 t.rep, .int .i64 t.kind, .slice a t.sub.length c]
theorem Tr.sub_size (t : Tr) (j : Nat) (hj : j < t.sub.length) : SizeOf.sizeOf t.sub[j] < SizeOf.sizeOf t := by
  cases t with
  | node id nm rep kind sub =>
    have h := List.sizeOf_lt_of_mem (List.getElem_mem (l := sub) (n := j) hj)
    show SizeOf.sizeOf sub[j] < _
    simp only [Tr.node.sizeOf_spec]
    omega
theorem flat5 : ∀ (ls : List (List Value)), (∀ l ∈ ls, l.length = 5) → ∀ j k, k < 5 → ls.flatten[j * 5 + k]? = (ls[j]?).bind fun l => l[k]?
  | [], _, j, k, _ => by simp
  | l :: ls, h, j, k, hk => by
    have hl : l.length = 5 := h l (by simp)
    have ih := flat5 ls (fun x hx => h x (by simp [hx]))
    rw [List.flatten_cons]
    cases j with
    | zero => rw [List.getElem?_append_left (by omega)]; simp
    | succ j =>
      rw [List.getElem?_append_right (by omega), show (j + 1) * 5 + k - l.length = j * 5 + k by omega, ih j k hk]
      simp
theorem flat5_len : ∀ (ls : List (List Value)), (∀ l ∈ ls, l.length = 5) → ls.flatten.length = ls.length * 5
  | [], _ => rfl
  | l :: ls, h => by
    have hl : l.length = 5 := h l (by simp)
    rw [List.flatten_cons, List.length_append, hl, flat5_len ls (fun x hx => h x (by simp [hx])), List.length_cons]
    omega
theorem row_five {w : World} {g e : Nat} {x0 x1 x2 x3 x4 : Value} (h : w.heap[g]? = some (.cells #[x0, x1, x2, x3, x4] e (0, 0))) :
    (w.cell? ⟨g, 0, none⟩ = some x0 ∧ w.cell? ⟨g, 1, none⟩ = some x1 ∧ w.cell? ⟨g, 2, none⟩ = some x2 ∧ w.cell? ⟨g, 3, none⟩ = some x3 ∧ w.cell? ⟨g, 4, none⟩ = some x4) ∧ w.frozen? ⟨g, 0, none⟩ = false ∧ w.frozen? ⟨g, 1, none⟩ = false ∧ w.frozen? ⟨g, 2, none⟩ = false ∧ w.frozen? ⟨g, 3, none⟩ = false ∧ w.frozen? ⟨g, 4, none⟩ = false :=
  ⟨⟨cell_of_row w g 0 _ e _ h, cell_of_row w g 1 _ e _ h, cell_of_row w g 2 _ e _ h, cell_of_row w g 3 _ e _ h, cell_of_row w g 4 _ e _ h⟩, frozen_of_row w g 0 _ e h, frozen_of_row w g 1 _ e h, frozen_of_row w g 2 _ e h, frozen_of_row w g 3 _ e h, frozen_of_row w g 4 _ e h⟩
theorem row_setC {w : World} {g j : Nat} {cs : Array Value} {t : TypeId} (h : w.heap[g]? = some (.cells cs t (0, 0))) {v : Value} : (w.setCell ⟨g, j, none⟩ v).heap[g]? = some (.cells (cs.setIfInBounds j v) t (0, 0)) := by
  simp [World.setCell, Array.getElem?_modify, h]
theorem own_shape {w : World} {B e size n : Nat} {v : Value} {xs : List Value} (h : w.ownsRow B e size v (n + 1) xs) : ∃ g cap, v = .slice (some ⟨g, 0, none⟩) (n + 1) cap := by
  rcases h.2 with ⟨_, h0⟩ | ⟨g, cap, cur, rfl, _⟩
  · exact absurd h0 (by omega)
  · exact ⟨g, cap, rfl⟩
theorem five_cells {w : World} {x0 x1 x2 x3 x4 : Value} {T : TypeId} : ∀ j u, [x0, x1, x2, x3, x4][j]? = some u → (w.alloc (.cells #[x0, x1, x2, x3, x4] T)).cell? ((⟨w.heap.size, 0, none⟩ : Addr).add j) = some u := fun j u h => by
  rw [addr_plus, Nat.zero_add]
  refine cell_alloc_at ?_ rfl
  simpa using h
theorem NodeC.five {W : World} {P : Nat → Prop} {t : Tr} {cs : List Value} (h : NodeC W P t cs) : cs.length = 5 := by
  obtain ⟨a, c, rfl, _⟩ := h.split
  rfl
end Go.Proofs.YtkcobccmifkjcaaDoor
