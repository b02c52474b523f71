/-
  A walk through a schema, told as lists: what it answers, what it keeps; the words, without the program.
-/
import Derived.Test.YtiiehnjgljadbaaDoorPOwnN
namespace Go.Proofs.YtiiehnjgljadbaaDoor
open Go.RowKit
mutual
/-- How many nodes. -/
def Tr.cnt : Tr → Nat
  | .node _ _ _ _ sub => 1 + cntL sub
def cntL : List Tr → Nat
  | [] => 0
  | t :: ts => t.cnt + cntL ts
end
theorem Tr.cnt_eq (t : Tr) : t.cnt = 1 + cntL t.sub := by
  cases t with
  | node id nm rep kind sub => rw [Tr.cnt]; rfl
theorem cntL_drop (ts : List Tr) (i : Nat) (h : i < ts.length) : cntL (ts.drop i) = ts[i].cnt + cntL (ts.drop (i + 1)) := by
  rw [List.drop_eq_getElem_cons h, cntL]
section
variable {S : Type} (st : S → List Tr → Tr → Bool × S)
mutual
/-- What a walk answers, and what its visitor holds behind it. -/
def wkT (s : S) (path : List Tr) : Tr → Bool × S
  | .node id nm rep kind sub => if (st s path (.node id nm rep kind sub)).1 = true then wkL (st s path (.node id nm rep kind sub)).2 (path ++ [.node id nm rep kind sub]) sub else st s path (.node id nm rep kind sub)
def wkL (s : S) (path : List Tr) : List Tr → Bool × S
  | [] => (true, s)
  | t :: ts => if (wkT s path t).1 = true then wkL (wkT s path t).2 path ts else wkT s path t
end
theorem wkT_eq (s : S) (path : List Tr) (t : Tr) : wkT st s path t = if (st s path t).1 = true then wkL st (st s path t).2 (path ++ [t]) t.sub else st s path t := by
  cases t with
  | node id nm rep kind sub => rw [wkT]; rfl
mutual
/-- What a step adds at most one to, a walk adds no more to than there are nodes. -/
theorem wkT_more (μ : S → Nat) (h : ∀ s path t, μ (st s path t).2 ≤ μ s + 1) : ∀ (t : Tr) (s : S) (path : List Tr), μ (wkT st s path t).2 ≤ μ s + t.cnt
  | .node id nm rep kind sub, s, path => by
    have h1 := h s path (.node id nm rep kind sub)
    rw [wkT, Tr.cnt]
    split
    · have h2 := wkL_more μ h sub (st s path (.node id nm rep kind sub)).2 (path ++ [.node id nm rep kind sub])
      omega
    · omega
theorem wkL_more (μ : S → Nat) (h : ∀ s path t, μ (st s path t).2 ≤ μ s + 1) : ∀ (ts : List Tr) (s : S) (path : List Tr), μ (wkL st s path ts).2 ≤ μ s + cntL ts
  | [], s, path => by rw [wkL, cntL]; exact Nat.le_refl _
  | t :: ts, s, path => by
    have h1 := wkT_more μ h t s path
    rw [wkL, cntL]
    split
    · have h2 := wkL_more μ h ts (wkT st s path t).2 path
      omega
    · omega
end
theorem wkL_app : ∀ (xs ys : List Tr) (s : S) (path : List Tr), wkL st s path (xs ++ ys) = if (wkL st s path xs).1 = true then wkL st (wkL st s path xs).2 path ys else wkL st s path xs
  | [], ys, s, path => by rw [List.nil_append, wkL]; rfl
  | x :: xs, ys, s, path => by
    rw [List.cons_append, wkL, wkL]
    by_cases h : (wkT st s path x).1 = true
    · rw [if_pos h, if_pos h, wkL_app xs ys]
    · rw [if_neg h, if_neg h, if_neg h]
theorem wkL_take (s : S) (path : List Tr) (ts : List Tr) (i : Nat) (hi : i < ts.length) (s1 : S) (h : wkL st s path (ts.take i) = (true, s1)) : wkL st s path (ts.take (i + 1)) = wkT st s1 path ts[i] := by
  rw [List.take_succ_eq_append_getElem hi, wkL_app, h]
  show (if true = true then _ else _) = _
  rw [if_pos rfl, wkL]
  by_cases h1 : (wkT st s1 path ts[i]).1 = true
  · rw [if_pos h1, wkL, ← h1]
  · rw [if_neg h1]
theorem wkL_stop (s : S) (path : List Tr) (ts : List Tr) (i : Nat) (h : (wkL st s path (ts.take i)).1 = false) : wkL st s path ts = wkL st s path (ts.take i) := by
  have e := wkL_app st (ts.take i) (ts.drop i) s path
  rw [List.take_append_drop, h] at e
  rw [e]
  rfl
end
def IsNB (W : World) (k : Nat) : Prop := ∃ cs z, W.heap[k]? = some (.cells cs 24 z)
/-- The nodes around one lie in a row of the walk's own. -/
def PathR (W : World) (B Bw : Nat) (v : Value) (path : List Tr) : Prop :=
  ∃ ncs : List (List Value), ncs.length = path.length ∧ (∀ x ∈ ncs, x.length = 5) ∧ W.ownsRow Bw 24 5 v path.length ncs.flatten ∧ ∀ j (h : j < path.length) (h' : j < ncs.length), NodeC W (fun b => b < B) path[j] ncs[j]
/-- What a visitor keeps. -/
structure VFr (B Bw : Nat) (W w' : World) : Prop where
  below : Below B W w'
  rows : ∀ k, Bw ≤ k → k < W.heap.size → IsNB W k → w'.heap[k]? = W.heap[k]?
/-- What a walk keeps. -/
structure WFr (B Bw : Nat) (v : Value) (W w' : World) : Prop where
  below : Below B W w'
  rows : ∀ k, Bw ≤ k → k < W.heap.size → IsNB W k → some k ≠ v.ownBlock → w'.heap[k]? = W.heap[k]?
theorem own_same {w w' : World} {base e size n : Nat} {v : Value} {xs : List Value} (h : w.ownsRow base e size v n xs) (hs : ∀ k, v.ownBlock = some k → w'.heap[k]? = w.heap[k]?) : w'.ownsRow base e size v n xs := by
  refine ⟨h.1, ?_⟩
  rcases h.2 with h0 | ⟨g, cap, cur, rfl, hbg, hg, rest⟩
  · exact .inl h0
  · exact .inr ⟨g, cap, cur, rfl, hbg, (hs g rfl).trans hg, rest⟩
theorem own_block {w : World} {base e size n : Nat} {v : Value} {xs : List Value} (h : w.ownsRow base e size v n xs) {k : Nat} (hk : v.ownBlock = some k) : base ≤ k ∧ k < w.heap.size ∧ ∃ cs, w.heap[k]? = some (.cells cs e (0, 0)) := by
  rcases h.2 with ⟨rfl, _⟩ | ⟨g, cap, cur, rfl, hbg, hg, rest⟩
  · simp [Value.ownBlock] at hk
  · simp only [Value.ownBlock, Option.some.injEq] at hk
    subst hk
    exact ⟨hbg, lt_of_block hg, cur, hg⟩
/-- A row's beginning is a row. -/
theorem own_begin {w : World} {base e size n m cap : Nat} {a : Option Addr} {xs ys : List Value} (hx : xs.length = n * size) (h : w.ownsRow base e size (.slice a (n + m) cap) (n + m) (xs ++ ys)) (hn : a ≠ none) : w.ownsRow base e size (.slice a n cap) n xs := by
  refine ⟨hx, ?_⟩
  rcases h.2 with ⟨h0, _⟩ | ⟨g, cap', cur, hv, hbg, hg, hnc, hcm, hcs, ht⟩
  · injection h0 with h0; exact absurd h0 hn
  · injection hv with ha _ hc
    subst ha
    subst hc
    refine .inr ⟨g, cap, cur, rfl, hbg, hg, by omega, hcm, hcs, ?_⟩
    have e : cur.toList.take (n * size) = (cur.toList.take ((n + m) * size)).take (n * size) := by
      rw [List.take_take, Nat.min_eq_left (Nat.mul_le_mul_right _ (by omega))]
    rw [e, ht, List.take_append_of_le_length (by omega), List.take_of_length_le (by omega)]
theorem PathR.nil (W : World) (B Bw : Nat) : PathR W B Bw (.slice none 0 0) [] := ⟨[], rfl, fun x hx => by simp at hx, World.ownsRow_nil _ _ _ _, fun j h => absurd h (by simp)⟩
theorem PathR.shape {W : World} {B Bw : Nat} {v : Value} {path : List Tr} (h : PathR W B Bw v path) : ∃ a c, v = .slice a path.length c := by
  obtain ⟨ncs, _, _, h, _⟩ := h
  rcases h.2 with ⟨rfl, h0⟩ | ⟨g, cap, cur, rfl, _⟩
  · exact ⟨none, 0, by rw [h0]⟩
  · exact ⟨_, cap, rfl⟩
theorem PathR.stay {W w' : World} {B Bw : Nat} {v : Value} {path : List Tr} (h : PathR W B Bw v path) (hb : Below B W w') (hs : ∀ k, v.ownBlock = some k → w'.heap[k]? = W.heap[k]?) : PathR w' B Bw v path := by
  obtain ⟨ncs, h1, h2, h3, h4⟩ := h
  exact ⟨ncs, h1, h2, own_same h3 hs, fun j hj hj' => (h4 j hj hj').stay (fun _ h _ => h) (fun b hb' _ => hb.block b hb')⟩
theorem PathR.block {W : World} {B Bw : Nat} {v : Value} {path : List Tr} (h : PathR W B Bw v path) {k : Nat} (hk : v.ownBlock = some k) : Bw ≤ k ∧ k < W.heap.size ∧ IsNB W k := by
  obtain ⟨ncs, _, _, h, _⟩ := h
  obtain ⟨h1, h2, cs, h3⟩ := own_block h hk
  exact ⟨h1, h2, cs, _, h3⟩
theorem PathR.vfr {W w' : World} {B Bw : Nat} {v : Value} {path : List Tr} (h : PathR W B Bw v path) (hv : VFr B Bw W w') : PathR w' B Bw v path := h.stay hv.below fun k hk => by
  obtain ⟨h1, h2, h3⟩ := h.block hk
  exact hv.rows k h1 h2 h3
theorem VFr.refl (B Bw : Nat) (W : World) : VFr B Bw W W := ⟨Below.refl _ _, fun _ _ _ _ => rfl⟩
theorem VFr.trans {B Bw : Nat} {W w1 w2 : World} (h : VFr B Bw W w1) (h2 : VFr B Bw w1 w2) : VFr B Bw W w2 := ⟨h.below.trans h2.below, fun k h1 h3 h4 => by
  have e := h.rows k h1 h3 h4
  obtain ⟨cs, z, hc⟩ := h4
  rw [h2.rows k h1 (Nat.lt_of_lt_of_le h3 h.below.size) ⟨cs, z, e.trans hc⟩, e]⟩
theorem VFr.of_below {B Bw : Nat} {W w' : World} (hb : Below W.heap.size W w') (hB : B ≤ W.heap.size) : VFr B Bw W w' := ⟨hb.mono hB, fun k _ h _ => hb.block k h⟩
theorem VFr.alloc {B Bw : Nat} {W w' : World} (h : VFr B Bw W w') (hB : B ≤ W.heap.size) (o : Obj) : VFr B Bw W (w'.alloc o) := h.trans (VFr.of_below ((Below.refl _ _).alloc (Nat.le_refl _) _) (Nat.le_trans hB h.below.size))
/-- A cell of the visitor's own is set. -/
theorem VFr.setG {B Bw g : Nat} {W w' : World} (h : VFr B Bw W w') (hB : B ≤ g) (hg : g < Bw) (x : Value) {o : Nat} : VFr B Bw W (w'.setCell ⟨g, o, none⟩ x) :=
  ⟨h.below.setCell hB _, fun k h1 h2 h3 => by rw [Below.heap_setCell _ _ _ _ (show k ≠ g by omega)]; exact h.rows k h1 h2 h3⟩
end Go.Proofs.YtiiehnjgljadbaaDoor
