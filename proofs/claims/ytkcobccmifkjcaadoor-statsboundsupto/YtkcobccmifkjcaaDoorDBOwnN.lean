/-
  The reference's OwnNode: a copy of a schema, with lists of its own.
  A walk through a schema, told as lists: what it answers, what it keeps; the words, without the program.
  What a walk's loop keeps; the words, without the program.
  The walk through a schema, with one visitor: it answers what the list's walk answers, if the visitor does.
  The walk through a schema, with one visitor: it answers what the list's walk answers, if the visitor does.
  The walk through a schema, with one visitor: it answers what the list's walk answers, if the visitor does.
  The walk through a schema, with one visitor: it answers what the list's walk answers, if the visitor does.
  schema.inBounds: not too many nodes, not too deep.
  schema.shapesAreRight, schema.isRoot: exact.
  schema.namesAreRight: exact.
  schema.namesAreRight: exact.
-/
import Derived.Test.YtkcobccmifkjcaaDoorDOpenNode
import Derived.Test.YtkcobccmifkjcaaDoorDBAppWhere
import Derived.RegionTactic
import Derived.Deep.QuietTactic
import Derived.BigQuiet
import Derived.Deep.RegionWith
namespace Go.Proofs.YtkcobccmifkjcaaDoor
open Go.RowKit
/-- A node as a value. -/
abbrev nodeV (t : Tr) (a : Option Addr) (c : Nat) : Value := .agg #[.int .i64 t.id, .string t.nm, .int .i64 t.rep, .int .i64 t.kind, .slice a t.sub.length c]
theorem Tr.sub_size (t : Tr) (j : Nat) (hj : j < t.sub.length) : SizeOf.sizeOf t.sub[j] < SizeOf.sizeOf t := by
  cases t with
  | node id nm rep kind sub =>
    have h := List.sizeOf_lt_of_mem (List.getElem_mem (l := sub) (n := j) hj)
    show SizeOf.sizeOf sub[j] < _
    simp only [Tr.node.sizeOf_spec]
    omega
theorem flat5 : ∀ (ls : List (List Value)), (∀ l ∈ ls, l.length = 5) → ∀ j k, k < 5 → ls.flatten[j * 5 + k]? = (ls[j]?).bind fun l => l[k]?
  | [], _, j, k, _ => by simp
  | l :: ls, h, j, k, hk => by
    have hl : l.length = 5 := h l (by simp)
    have ih := flat5 ls (fun x hx => h x (by simp [hx]))
    rw [List.flatten_cons]
    cases j with
    | zero => rw [List.getElem?_append_left (by omega)]; simp
    | succ j =>
      rw [List.getElem?_append_right (by omega), show (j + 1) * 5 + k - l.length = j * 5 + k by omega, ih j k hk]
      simp
theorem flat5_len : ∀ (ls : List (List Value)), (∀ l ∈ ls, l.length = 5) → ls.flatten.length = ls.length * 5
  | [], _ => rfl
  | l :: ls, h => by
    have hl : l.length = 5 := h l (by simp)
    rw [List.flatten_cons, List.length_append, hl, flat5_len ls (fun x hx => h x (by simp [hx])), List.length_cons]
    omega
theorem row_five {w : World} {g e : Nat} {x0 x1 x2 x3 x4 : Value} (h : w.heap[g]? = some (.cells #[x0, x1, x2, x3, x4] e (0, 0))) :
    (w.cell? ⟨g, 0, none⟩ = some x0 ∧ w.cell? ⟨g, 1, none⟩ = some x1 ∧ w.cell? ⟨g, 2, none⟩ = some x2 ∧ w.cell? ⟨g, 3, none⟩ = some x3 ∧ w.cell? ⟨g, 4, none⟩ = some x4) ∧ w.frozen? ⟨g, 0, none⟩ = false ∧ w.frozen? ⟨g, 1, none⟩ = false ∧ w.frozen? ⟨g, 2, none⟩ = false ∧ w.frozen? ⟨g, 3, none⟩ = false ∧ w.frozen? ⟨g, 4, none⟩ = false :=
  ⟨⟨cell_of_row w g 0 _ e _ h, cell_of_row w g 1 _ e _ h, cell_of_row w g 2 _ e _ h, cell_of_row w g 3 _ e _ h, cell_of_row w g 4 _ e _ h⟩, frozen_of_row w g 0 _ e h, frozen_of_row w g 1 _ e h, frozen_of_row w g 2 _ e h, frozen_of_row w g 3 _ e h, frozen_of_row w g 4 _ e h⟩
theorem row_setC {w : World} {g j : Nat} {cs : Array Value} {t : TypeId} (h : w.heap[g]? = some (.cells cs t (0, 0))) {v : Value} : (w.setCell ⟨g, j, none⟩ v).heap[g]? = some (.cells (cs.setIfInBounds j v) t (0, 0)) := by
  simp [World.setCell, Array.getElem?_modify, h]
theorem own_shape {w : World} {B e size n : Nat} {v : Value} {xs : List Value} (h : w.ownsRow B e size v (n + 1) xs) : ∃ g cap, v = .slice (some ⟨g, 0, none⟩) (n + 1) cap := by
  rcases h.2 with ⟨_, h0⟩ | ⟨g, cap, cur, rfl, _⟩
  · exact absurd h0 (by omega)
  · exact ⟨g, cap, rfl⟩
theorem five_cells {w : World} {x0 x1 x2 x3 x4 : Value} {T : TypeId} : ∀ j u, [x0, x1, x2, x3, x4][j]? = some u → (w.alloc (.cells #[x0, x1, x2, x3, x4] T)).cell? ((⟨w.heap.size, 0, none⟩ : Addr).add j) = some u := fun j u h => by
  rw [addr_plus, Nat.zero_add]
  refine cell_alloc_at ?_ rfl
  simpa using h
theorem NodeC.five {W : World} {P : Nat → Prop} {t : Tr} {cs : List Value} (h : NodeC W P t cs) : cs.length = 5 := by
  obtain ⟨a, c, rfl, _⟩ := h.split
  rfl
end Go.Proofs.YtkcobccmifkjcaaDoor

namespace Go.Proofs.YtkcobccmifkjcaaDoor
open Go.RowKit
mutual
/-- How many nodes. -/
def Tr.cnt : Tr → Nat
  | .node _ _ _ _ sub => 1 + cntL sub
def cntL : List Tr → Nat
  | [] => 0
  | t :: ts => t.cnt + cntL ts
end
theorem Tr.cnt_eq (t : Tr) : t.cnt = 1 + cntL t.sub := by
  cases t with
  | node id nm rep kind sub => rw [Tr.cnt]; rfl
theorem cntL_drop (ts : List Tr) (i : Nat) (h : i < ts.length) : cntL (ts.drop i) = ts[i].cnt + cntL (ts.drop (i + 1)) := by
  rw [List.drop_eq_getElem_cons h, cntL]
section
variable {S : Type} (st : S → List Tr → Tr → Bool × S)
mutual
/-- What a walk answers, and what its visitor holds behind it. -/
def wkT (s : S) (path : List Tr) : Tr → Bool × S
  | .node id nm rep kind sub => if (st s path (.node id nm rep kind sub)).1 = true then wkL (st s path (.node id nm rep kind sub)).2 (path ++ [.node id nm rep kind sub]) sub else st s path (.node id nm rep kind sub)
def wkL (s : S) (path : List Tr) : List Tr → Bool × S
  | [] => (true, s)
  | t :: ts => if (wkT s path t).1 = true then wkL (wkT s path t).2 path ts else wkT s path t
end
theorem wkT_eq (s : S) (path : List Tr) (t : Tr) : wkT st s path t = if (st s path t).1 = true then wkL st (st s path t).2 (path ++ [t]) t.sub else st s path t := by
  cases t with
  | node id nm rep kind sub => rw [wkT]; rfl
mutual
/-- What a step adds at most one to, a walk adds no more to than there are nodes. -/
theorem wkT_more (μ : S → Nat) (h : ∀ s path t, μ (st s path t).2 ≤ μ s + 1) : ∀ (t : Tr) (s : S) (path : List Tr), μ (wkT st s path t).2 ≤ μ s + t.cnt
  | .node id nm rep kind sub, s, path => by
    have h1 := h s path (.node id nm rep kind sub)
    rw [wkT, Tr.cnt]
    split
    · have h2 := wkL_more μ h sub (st s path (.node id nm rep kind sub)).2 (path ++ [.node id nm rep kind sub])
      omega
    · omega
theorem wkL_more (μ : S → Nat) (h : ∀ s path t, μ (st s path t).2 ≤ μ s + 1) : ∀ (ts : List Tr) (s : S) (path : List Tr), μ (wkL st s path ts).2 ≤ μ s + cntL ts
  | [], s, path => by rw [wkL, cntL]; exact Nat.le_refl _
  | t :: ts, s, path => by
    have h1 := wkT_more μ h t s path
    rw [wkL, cntL]
    split
    · have h2 := wkL_more μ h ts (wkT st s path t).2 path
      omega
    · omega
end
theorem wkL_app : ∀ (xs ys : List Tr) (s : S) (path : List Tr), wkL st s path (xs ++ ys) = if (wkL st s path xs).1 = true then wkL st (wkL st s path xs).2 path ys else wkL st s path xs
  | [], ys, s, path => by rw [List.nil_append, wkL]; rfl
  | x :: xs, ys, s, path => by
    rw [List.cons_append, wkL, wkL]
    by_cases h : (wkT st s path x).1 = true
    · rw [if_pos h, if_pos h, wkL_app xs ys]
    · rw [if_neg h, if_neg h, if_neg h]
theorem wkL_take (s : S) (path : List Tr) (ts : List Tr) (i : Nat) (hi : i < ts.length) (s1 : S) (h : wkL st s path (ts.take i) = (true, s1)) : wkL st s path (ts.take (i + 1)) = wkT st s1 path ts[i] := by
  rw [List.take_succ_eq_append_getElem hi, wkL_app, h]
  show (if true = true then _ else _) = _
  rw [if_pos rfl, wkL]
  by_cases h1 : (wkT st s1 path ts[i]).1 = true
  · rw [if_pos h1, wkL, ← h1]
  · rw [if_neg h1]
theorem wkL_stop (s : S) (path : List Tr) (ts : List Tr) (i : Nat) (h : (wkL st s path (ts.take i)).1 = false) : wkL st s path ts = wkL st s path (ts.take i) := by
  have e := wkL_app st (ts.take i) (ts.drop i) s path
  rw [List.take_append_drop, h] at e
  rw [e]
  rfl
end
theorem own_same {w w' : World} {base e size n : Nat} {v : Value} {xs : List Value} (h : w.ownsRow base e size v n xs) (hs : ∀ k, v.ownBlock = some k → w'.heap[k]? = w.heap[k]?) : w'.ownsRow base e size v n xs := by
  refine ⟨h.1, ?_⟩
  rcases h.2 with h0 | ⟨g, cap, cur, rfl, hbg, hg, rest⟩
  · exact .inl h0
  · exact .inr ⟨g, cap, cur, rfl, hbg, (hs g rfl).trans hg, rest⟩
theorem own_block {w : World} {base e size n : Nat} {v : Value} {xs : List Value} (h : w.ownsRow base e size v n xs) {k : Nat} (hk : v.ownBlock = some k) : base ≤ k ∧ k < w.heap.size ∧ ∃ cs, w.heap[k]? = some (.cells cs e (0, 0)) := by
  rcases h.2 with ⟨rfl, _⟩ | ⟨g, cap, cur, rfl, hbg, hg, rest⟩
  · simp [Value.ownBlock] at hk
  · simp only [Value.ownBlock, Option.some.injEq] at hk
    subst hk
    exact ⟨hbg, lt_of_block hg, cur, hg⟩
/-- A row's beginning is a row. -/
theorem own_begin {w : World} {base e size n m cap : Nat} {a : Option Addr} {xs ys : List Value} (hx : xs.length = n * size) (h : w.ownsRow base e size (.slice a (n + m) cap) (n + m) (xs ++ ys)) (hn : a ≠ none) : w.ownsRow base e size (.slice a n cap) n xs := by
  refine ⟨hx, ?_⟩
  rcases h.2 with ⟨h0, _⟩ | ⟨g, cap', cur, hv, hbg, hg, hnc, hcm, hcs, ht⟩
  · injection h0 with h0; exact absurd h0 hn
  · injection hv with ha _ hc
    subst ha
    subst hc
    refine .inr ⟨g, cap, cur, rfl, hbg, hg, by omega, hcm, hcs, ?_⟩
    have e : cur.toList.take (n * size) = (cur.toList.take ((n + m) * size)).take (n * size) := by
      rw [List.take_take, Nat.min_eq_left (Nat.mul_le_mul_right _ (by omega))]
    rw [e, ht, List.take_append_of_le_length (by omega), List.take_of_length_le (by omega)]
end Go.Proofs.YtkcobccmifkjcaaDoor

namespace Go.Proofs.YtkcobccmifkjcaaDoor
open Go.RowKit
end Go.Proofs.YtkcobccmifkjcaaDoor

namespace Go.Proofs.YtkcobccmifkjcaaDoor
open Go.RowKit
end Go.Proofs.YtkcobccmifkjcaaDoor

namespace Go.Proofs.YtkcobccmifkjcaaDoor
open Go.RowKit
end Go.Proofs.YtkcobccmifkjcaaDoor

namespace Go.Proofs.YtkcobccmifkjcaaDoor
open Go.RowKit
end Go.Proofs.YtkcobccmifkjcaaDoor

namespace Go.Proofs.YtkcobccmifkjcaaDoor
open Go.RowKit
end Go.Proofs.YtkcobccmifkjcaaDoor

namespace Go.Proofs.YtkcobccmifkjcaaDoor
open Go.RowKit
def stB (m : Nat) (path : List Tr) (_ : Tr) : Bool × Nat := (decide (m + 1 ≤ 40 ∧ path.length < 6), m + 1)
/-- What the visitor holds: how many there were. -/
def cntI (g : Nat) (m : Nat) (W : World) : Prop := m ≤ 40 ∧ W.heap[g]? = some (.cells #[.int .i64 (m : Nat)] 3 (0, 0))
theorem row_one {w : World} {g e : Nat} {x : Value} (h : w.heap[g]? = some (.cells #[x] e (0, 0))) : w.cell? ⟨g, 0, none⟩ = some x ∧ w.frozen? ⟨g, 0, none⟩ = false := by
  constructor <;> simp [World.cell?, World.frozen?, h]
theorem row_setOne {w : World} {g e : Nat} {x v : Value} (h : w.heap[g]? = some (.cells #[x] e (0, 0))) : (w.setCell ⟨g, 0, none⟩ v).heap[g]? = some (.cells #[v] e (0, 0)) := by
  have := row_setC (j := 0) (v := v) h
  simpa using this
def inB (t : Tr) : Bool := (wkT stB 0 [] t).1
end Go.Proofs.YtkcobccmifkjcaaDoor

namespace Go.Proofs.YtkcobccmifkjcaaDoor
open Go.RowKit
def shpOk (t : Tr) : Bool := decide (1 ≤ t.rep ∧ t.rep ≤ 3) && decide (0 ≤ t.kind ∧ t.kind ≤ 5) && (decide (t.kind = 0) == decide (0 < t.sub.length))
def stS (_ : Unit) (_ : List Tr) (t : Tr) : Bool × Unit := (shpOk t, ())
def shpT (t : Tr) : Bool := (wkT stS () [] t).1
def isRootB (t : Tr) : Bool := decide (t.id = 0 ∧ t.nm.toList = [114, 111, 111, 116] ∧ t.rep = 1 ∧ t.kind = 0)
end Go.Proofs.YtkcobccmifkjcaaDoor

namespace Go.Proofs.YtkcobccmifkjcaaDoor
open Go.RowKit
/-- The first place in a list at which something is so, or -1. -/
def Idx {α : Type} (p : α → Bool) (l : List α) (r : Int) : Prop := (r = -1 ∧ ∀ j (h : j < l.length), p l[j] = false) ∨ ∃ (i : Nat) (h : i < l.length), r = i ∧ p l[i] = true ∧ ∀ j (h : j < i), p l[j] = false
theorem Idx.any {α : Type} {p : α → Bool} {l : List α} {r : Int} (h : Idx p l r) : decide (0 ≤ r) = l.any p := by
  rcases h with ⟨rfl, h⟩ | ⟨i, hi, rfl, h1, _⟩
  · symm
    simp only [List.any_eq, show ¬ ((0 : Int) ≤ -1) by omega]
    rw [decide_eq_decide]
    constructor
    · rintro ⟨x, hx, hp⟩
      obtain ⟨j, hj, rfl⟩ := List.getElem_of_mem hx
      rw [h j hj] at hp
      cases hp
    · intro h; cases h
  · have : l.any p = true := List.any_eq_true.2 ⟨l[i], List.getElem_mem hi, h1⟩
    rw [this]
    simp
def smallB (b : UInt8) : Bool := decide (97 ≤ b.toNat ∧ b.toNat ≤ 122)
def nameOk (s : ByteArray) : Bool := decide (1 ≤ s.size ∧ s.size ≤ 12) && s.data.toList.all smallB
end Go.Proofs.YtkcobccmifkjcaaDoor

namespace Go.Proofs.YtkcobccmifkjcaaDoor
open Go.RowKit
/-- The names of nodes, those ahead of them known. -/
def nmsL (ahead : List Tr) : List Tr → Bool
  | [] => true
  | t :: ts => nameOk t.nm && !(ahead.any fun x => x.nm.toList == t.nm.toList) && nmsL (ahead ++ [t]) ts
theorem nmsL_step (ts : List Tr) (i : Nat) (h : i < ts.length) : nmsL (ts.take i) (ts.drop i) = (nameOk ts[i].nm && !((ts.take i).any fun x => x.nm.toList == ts[i].nm.toList) && nmsL (ts.take (i + 1)) (ts.drop (i + 1))) := by
  rw [List.drop_eq_getElem_cons h, nmsL, List.take_succ_eq_append_getElem h]
def stM (_ : Unit) (_ : List Tr) (t : Tr) : Bool × Unit := (nmsL [] t.sub, ())
def nmsT (t : Tr) : Bool := (wkT stM () [] t).1
end Go.Proofs.YtkcobccmifkjcaaDoor
