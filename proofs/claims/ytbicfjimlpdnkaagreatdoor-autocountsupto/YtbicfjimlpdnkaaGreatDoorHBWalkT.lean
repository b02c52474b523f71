/-
  A walk through a schema, told as lists: what it answers, what it keeps; the words, without the program.
  What a walk's loop keeps; the words, without the program.
  The walk through a schema, with one visitor: it answers what the list's walk answers, if the visitor does.
  The walk through a schema, with one visitor: it answers what the list's walk answers, if the visitor does.
  The walk through a schema, with one visitor: it answers what the list's walk answers, if the visitor does.
  The walk through a schema, with one visitor: it answers what the list's walk answers, if the visitor does.
  The walk through a schema, with one visitor: it answers what the list's walk answers, if the visitor does.
  schema.inBounds: not too many nodes, not too deep.
  schema.shapesAreRight, schema.isRoot: exact.
  schema.namesAreRight: exact.
  schema.namesAreRight: exact.
-/
import Derived.Test.YtbicfjimlpdnkaaGreatDoorHBOwnN
import Derived.Test.YtbicfjimlpdnkaaGreatDoorHBAppWhere
namespace Go.Proofs.YtbicfjimlpdnkaaGreatDoor
open Go.RowKit
mutual
/-- How many nodes. -/
def Tr.cnt : Tr → Nat
  | .node _ _ _ _ sub => 1 + cntL sub
def cntL : List Tr → Nat
  | [] => 0
  | t :: ts => t.cnt + cntL ts
end
theorem Tr.cnt_eq (t : Tr) : t.cnt = 1 + cntL t.sub := by
  cases t with
  | node id nm rep kind sub => rw [Tr.cnt]; rfl
theorem cntL_drop (ts : List Tr) (i : Nat) (h : i < ts.length) : cntL (ts.drop i) = ts[i].cnt + cntL (ts.drop (i + 1)) := by
  rw [List.drop_eq_getElem_cons h, cntL]
section
variable {S : Type} (st : S → List Tr → Tr → Bool × S)
mutual
/-- What a walk answers, and what its visitor holds behind it. -/
def wkT (s : S) (path : List Tr) : Tr → Bool × S
  | .node id nm rep kind sub => if (st s path (.node id nm rep kind sub)).1 = true then wkL (st s path (.node id nm rep kind sub)).2 (path ++ [.node id nm rep kind sub]) sub else st s path (.node id nm rep kind sub)
def wkL (s : S) (path : List Tr) : List Tr → Bool × S
  | [] => (true, s)
  | t :: ts => if (wkT s path t).1 = true then wkL (wkT s path t).2 path ts else wkT s path t
end
theorem wkT_eq (s : S) (path : List Tr) (t : Tr) : wkT st s path t = if (st s path t).1 = true then wkL st (st s path t).2 (path ++ [t]) t.sub else st s path t := by
  cases t with
  | node id nm rep kind sub => rw [wkT]; rfl
mutual
/-- What a step adds at most one to, a walk adds no more to than there are nodes. -/
theorem wkT_more (μ : S → Nat) (h : ∀ s path t, μ (st s path t).2 ≤ μ s + 1) : ∀ (t : Tr) (s : S) (path : List Tr), μ (wkT st s path t).2 ≤ μ s + t.cnt
  | .node id nm rep kind sub, s, path => by
    have h1 := h s path (.node id nm rep kind sub)
    rw [wkT, Tr.cnt]
    split
    · have h2 := wkL_more μ h sub (st s path (.node id nm rep kind sub)).2 (path ++ [.node id nm rep kind sub])
      omega
    · omega
theorem wkL_more (μ : S → Nat) (h : ∀ s path t, μ (st s path t).2 ≤ μ s + 1) : ∀ (ts : List Tr) (s : S) (path : List Tr), μ (wkL st s path ts).2 ≤ μ s + cntL ts
  | [], s, path => by rw [wkL, cntL]; exact Nat.le_refl _
  | t :: ts, s, path => by
    have h1 := wkT_more μ h t s path
    rw [wkL, cntL]
    split
    · have h2 := wkL_more μ h ts (wkT st s path t).2 path
      omega
    · omega
end
theorem wkL_app : ∀ (xs ys : List Tr) (s : S) (path : List Tr), wkL st s path (xs ++ ys) = if (wkL st s path xs).1 = true then wkL st (wkL st s path xs).2 path ys else wkL st s path xs
  | [], ys, s, path => by rw [List.nil_append, wkL]; rfl
  | x :: xs, ys, s, path => by
    rw [List.cons_append, wkL, wkL]
    by_cases h : (wkT st s path x).1 = true
    · rw [if_pos h, if_pos h, wkL_app xs ys]
    · rw [if_neg h, if_neg h, if_neg h]
theorem wkL_take (s : S) (path : List Tr) (ts : List Tr) (i : Nat) (hi : i < ts.length) (s1 : S) (h : wkL st s path (ts.take i) = (true, s1)) : wkL st s path (ts.take (i + 1)) = wkT st s1 path ts[i] := by
  rw [List.take_succ_eq_append_getElem hi, wkL_app, h]
  show (if true = true then _ else _) = _
  rw [if_pos rfl, wkL]
  by_cases h1 : (wkT st s1 path ts[i]).1 = true
  · rw [if_pos h1, wkL, ← h1]
  · rw [if_neg h1]
theorem wkL_stop (s : S) (path : List Tr) (ts : List Tr) (i : Nat) (h : (wkL st s path (ts.take i)).1 = false) : wkL st s path ts = wkL st s path (ts.take i) := by
  have e := wkL_app st (ts.take i) (ts.drop i) s path
  rw [List.take_append_drop, h] at e
  rw [e]
  rfl
end
def IsNB (W : World) (k : Nat) : Prop := ∃ cs z, W.heap[k]? = some (.cells cs 24 z)
/-- The nodes around one lie in a row of the walk's own. -/
def PathR (W : World) (B Bw : Nat) (v : Value) (path : List Tr) : Prop :=
  ∃ ncs : List (List Value), ncs.length = path.length ∧ (∀ x ∈ ncs, x.length = 5) ∧ W.ownsRow Bw 24 5 v path.length ncs.flatten ∧ ∀ j (h : j < path.length) (h' : j < ncs.length), NodeC W (fun b => b < B) path[j] ncs[j]
/-- What a visitor keeps. -/
structure VFr (B Bw : Nat) (W w' : World) : Prop where
  below : Below B W w'
  rows : ∀ k, Bw ≤ k → k < W.heap.size → IsNB W k → w'.heap[k]? = W.heap[k]?
/-- What a walk keeps. -/
structure WFr (B Bw : Nat) (v : Value) (W w' : World) : Prop where
  below : Below B W w'
  rows : ∀ k, Bw ≤ k → k < W.heap.size → IsNB W k → some k ≠ v.ownBlock → w'.heap[k]? = W.heap[k]?
theorem own_same {w w' : World} {base e size n : Nat} {v : Value} {xs : List Value} (h : w.ownsRow base e size v n xs) (hs : ∀ k, v.ownBlock = some k → w'.heap[k]? = w.heap[k]?) : w'.ownsRow base e size v n xs := by
  refine ⟨h.1, ?_⟩
  rcases h.2 with h0 | ⟨g, cap, cur, rfl, hbg, hg, rest⟩
  · exact .inl h0
  · exact .inr ⟨g, cap, cur, rfl, hbg, (hs g rfl).trans hg, rest⟩
theorem own_block {w : World} {base e size n : Nat} {v : Value} {xs : List Value} (h : w.ownsRow base e size v n xs) {k : Nat} (hk : v.ownBlock = some k) : base ≤ k ∧ k < w.heap.size ∧ ∃ cs, w.heap[k]? = some (.cells cs e (0, 0)) := by
  rcases h.2 with ⟨rfl, _⟩ | ⟨g, cap, cur, rfl, hbg, hg, rest⟩
  · simp [Value.ownBlock] at hk
  · simp only [Value.ownBlock, Option.some.injEq] at hk
    subst hk
    exact ⟨hbg, lt_of_block hg, cur, hg⟩
/-- A row's beginning is a row. -/
theorem own_begin {w : World} {base e size n m cap : Nat} {a : Option Addr} {xs ys : List Value} (hx : xs.length = n * size) (h : w.ownsRow base e size (.slice a (n + m) cap) (n + m) (xs ++ ys)) (hn : a ≠ none) : w.ownsRow base e size (.slice a n cap) n xs := by
  refine ⟨hx, ?_⟩
  rcases h.2 with ⟨h0, _⟩ | ⟨g, cap', cur, hv, hbg, hg, hnc, hcm, hcs, ht⟩
  · injection h0 with h0; exact absurd h0 hn
  · injection hv with ha _ hc
    subst ha
    subst hc
    refine .inr ⟨g, cap, cur, rfl, hbg, hg, by omega, hcm, hcs, ?_⟩
    have e : cur.toList.take (n * size) = (cur.toList.take ((n + m) * size)).take (n * size) := by
      rw [List.take_take, Nat.min_eq_left (Nat.mul_le_mul_right _ (by omega))]
    rw [e, ht, List.take_append_of_le_length (by omega), List.take_of_length_le (by omega)]
theorem PathR.nil (W : World) (B Bw : Nat) : PathR W B Bw (.slice none 0 0) [] := ⟨[], rfl, fun x hx => by simp at hx, World.ownsRow_nil _ _ _ _, fun j h => absurd h (by simp)⟩
theorem PathR.shape {W : World} {B Bw : Nat} {v : Value} {path : List Tr} (h : PathR W B Bw v path) : ∃ a c, v = .slice a path.length c := by
  obtain ⟨ncs, _, _, h, _⟩ := h
  rcases h.2 with ⟨rfl, h0⟩ | ⟨g, cap, cur, rfl, _⟩
  · exact ⟨none, 0, by rw [h0]⟩
  · exact ⟨_, cap, rfl⟩
theorem PathR.stay {W w' : World} {B Bw : Nat} {v : Value} {path : List Tr} (h : PathR W B Bw v path) (hb : Below B W w') (hs : ∀ k, v.ownBlock = some k → w'.heap[k]? = W.heap[k]?) : PathR w' B Bw v path := by
  obtain ⟨ncs, h1, h2, h3, h4⟩ := h
  exact ⟨ncs, h1, h2, own_same h3 hs, fun j hj hj' => (h4 j hj hj').stay (fun _ h _ => h) (fun b hb' _ => hb.block b hb')⟩
theorem PathR.block {W : World} {B Bw : Nat} {v : Value} {path : List Tr} (h : PathR W B Bw v path) {k : Nat} (hk : v.ownBlock = some k) : Bw ≤ k ∧ k < W.heap.size ∧ IsNB W k := by
  obtain ⟨ncs, _, _, h, _⟩ := h
  obtain ⟨h1, h2, cs, h3⟩ := own_block h hk
  exact ⟨h1, h2, cs, _, h3⟩
theorem PathR.vfr {W w' : World} {B Bw : Nat} {v : Value} {path : List Tr} (h : PathR W B Bw v path) (hv : VFr B Bw W w') : PathR w' B Bw v path := h.stay hv.below fun k hk => by
  obtain ⟨h1, h2, h3⟩ := h.block hk
  exact hv.rows k h1 h2 h3
theorem VFr.refl (B Bw : Nat) (W : World) : VFr B Bw W W := ⟨Below.refl _ _, fun _ _ _ _ => rfl⟩
theorem VFr.trans {B Bw : Nat} {W w1 w2 : World} (h : VFr B Bw W w1) (h2 : VFr B Bw w1 w2) : VFr B Bw W w2 := ⟨h.below.trans h2.below, fun k h1 h3 h4 => by
  have e := h.rows k h1 h3 h4
  obtain ⟨cs, z, hc⟩ := h4
  rw [h2.rows k h1 (Nat.lt_of_lt_of_le h3 h.below.size) ⟨cs, z, e.trans hc⟩, e]⟩
theorem VFr.of_below {B Bw : Nat} {W w' : World} (hb : Below W.heap.size W w') (hB : B ≤ W.heap.size) : VFr B Bw W w' := ⟨hb.mono hB, fun k _ h _ => hb.block k h⟩
theorem VFr.alloc {B Bw : Nat} {W w' : World} (h : VFr B Bw W w') (hB : B ≤ W.heap.size) (o : Obj) : VFr B Bw W (w'.alloc o) := h.trans (VFr.of_below ((Below.refl _ _).alloc (Nat.le_refl _) _) (Nat.le_trans hB h.below.size))
/-- A cell of the visitor's own is set. -/
theorem VFr.setG {B Bw g : Nat} {W w' : World} (h : VFr B Bw W w') (hB : B ≤ g) (hg : g < Bw) (x : Value) {o : Nat} : VFr B Bw W (w'.setCell ⟨g, o, none⟩ x) :=
  ⟨h.below.setCell hB _, fun k h1 h2 h3 => by rw [Below.heap_setCell _ _ _ _ (show k ≠ g by omega)]; exact h.rows k h1 h2 h3⟩
end Go.Proofs.YtbicfjimlpdnkaaGreatDoor

namespace Go.Proofs.YtbicfjimlpdnkaaGreatDoor
open Go.RowKit
theorem wk_box {S : Type} {I : S → World → Prop} {B Bw : Nat} (hBw : B ≤ Bw) (hI : ∀ s W w' r, I s W → W.grownBy w' r → (∀ k, r = some k → Bw ≤ k ∧ IsNB W k) → I s w') {s : S} {W : World} {v : Value} {path : List Tr} (t : Tr) (a : Option Addr) (c : Nat) (hi : I s W) (hp : PathR W B Bw v path) (hl : LiesN W (fun b => b < B) a t.sub) (hbw : Bw ≤ W.heap.size) :
    I s (W.alloc (.cells #[.int .i64 t.id, .string t.nm, .int .i64 t.rep, .int .i64 t.kind, .slice a t.sub.length c] 24)) ∧ PathR (W.alloc (.cells #[.int .i64 t.id, .string t.nm, .int .i64 t.rep, .int .i64 t.kind, .slice a t.sub.length c] 24)) B Bw v path ∧ LiesN (W.alloc (.cells #[.int .i64 t.id, .string t.nm, .int .i64 t.rep, .int .i64 t.kind, .slice a t.sub.length c] 24)) (fun b => b < B) a t.sub ∧ Bw ≤ (W.alloc (.cells #[.int .i64 t.id, .string t.nm, .int .i64 t.rep, .int .i64 t.kind, .slice a t.sub.length c] 24)).heap.size := by
  have hg : W.grownBy (W.alloc (.cells #[.int .i64 t.id, .string t.nm, .int .i64 t.rep, .int .i64 t.kind, .slice a t.sub.length c] 24)) none := World.grownBy_alloc _ _ _
  have hb : Below W.heap.size W (W.alloc (.cells #[.int .i64 t.id, .string t.nm, .int .i64 t.rep, .int .i64 t.kind, .slice a t.sub.length c] 24)) := (Below.refl _ _).alloc (Nat.le_refl _) _
  exact ⟨hI _ _ _ none hi hg (fun k hk => by cases hk), hp.vfr (VFr.of_below hb (by omega)), hl.keep hb, by simp; omega⟩
/-- What a walk's loop keeps: the box, the row with the node behind those around it, the row without it, what the visitor holds. -/
structure WP {S : Type} (B Bw : Nat) (W : World) (t : Tr) (a : Option Addr) (c : Nat) (v : Value) (path : List Tr) (I : S → World → Prop) (s : S) (wr : World) (v2 : Value) : Prop where
  box : wr.heap[W.heap.size]? = some (.cells #[.int .i64 t.id, .string t.nm, .int .i64 t.rep, .int .i64 t.kind, .slice a t.sub.length c] 24 (0, 0))
  apart : v2.ownBlock ≠ some W.heap.size
  row : PathR wr B Bw v2 (path ++ [t])
  old : PathR wr B Bw v path
  fr : WFr B Bw v W wr
  inv : I s wr
  vlt : ∀ k, v.ownBlock = some k → k < W.heap.size
  two : (∃ g cap, v = .slice (some ⟨g, 0, none⟩) path.length cap ∧ v2 = .slice (some ⟨g, 0, none⟩) (path.length + 1) cap) ∨ (∀ k, v2.ownBlock = some k → W.heap.size < k)
theorem WP.start {S : Type} {B Bw : Nat} {W : World} {t : Tr} {a : Option Addr} {c : Nat} {v : Value} {path : List Tr} {I : S → World → Prop} {s : S} {w1 w2 : World} {v2 : Value} {ncs : List (List Value)} {ob : Obj} (hBw : B ≤ Bw)
    (hI : ∀ s W w' r, I s W → W.grownBy w' r → (∀ k, r = some k → Bw ≤ k ∧ IsNB W k) → I s w') (hbw : Bw ≤ W.heap.size) (hf : VFr B Bw W w1)
    (hbox : w1.heap[W.heap.size]? = some (.cells #[.int .i64 t.id, .string t.nm, .int .i64 t.rep, .int .i64 t.kind, .slice a t.sub.length c] 24 (0, 0)))
    (hrow : w1.ownsRow Bw 24 5 v path.length ncs.flatten) (hn1 : ncs.length = path.length) (hn2 : ∀ x ∈ ncs, x.length = 5) (hn4 : ∀ j (h : j < path.length) (h' : j < ncs.length), NodeC w1 (fun b => b < B) path[j] ncs[j])
    (hi : I s w1) (hcap : t.sub.length ≤ c) (hl : LiesN W (fun b => b < B) a t.sub) (hvW : ∀ k, v.ownBlock = some k → k < W.heap.size)
    (hown : w2.ownsRow Bw 24 5 v2 (path.length + 1) (ncs.flatten ++ [.int .i64 t.id, .string t.nm, .int .i64 t.rep, .int .i64 t.kind, .slice a t.sub.length c])) (hg : (w1.alloc ob).grownBy w2 v.ownBlock) (hw : Moved (w1.alloc ob) w2 path.length 1 v v2) :
    WP B Bw W t a c v path I s w2 v2 := by
  have hlt := lt_of_block hbox
  have hvb : ∀ k, v.ownBlock = some k → Bw ≤ k ∧ k < w1.heap.size ∧ IsNB w1 k := fun k hk => by
    obtain ⟨h1, h2, cs, h3⟩ := own_block hrow hk
    exact ⟨h1, h2, cs, _, h3⟩
  have hg1 : w1.grownBy w2 v.ownBlock := ⟨hg.os, hg.tape, hg.output, by have := hg.size; simp at this; omega, fun k hk hne => by rw [hg.block k (by simp; omega) hne, heap_alloc_old w1 ob hk]⟩
  have hb2 : Below B w1 w2 := ⟨hg1.os, hg1.tape, hg1.output, hg1.size, fun k hk => by
    by_cases h : k < w1.heap.size
    · exact hg1.block k h (fun e => by have := (hvb k e.symm).1; omega)
    · omega⟩
  have hB1 : B ≤ w1.heap.size := by have := hf.below.size; omega
  have hold : PathR w2 B Bw v path := by
    refine ⟨ncs, hn1, hn2, ?_, fun j hj hj' => (hn4 j hj hj').stay (fun _ h _ => h) (fun b hb' _ => hb2.block b hb')⟩
    rcases hw with ⟨g, cap, rfl, rfl⟩ | ⟨_, hg0⟩
    · exact own_begin hrow.1 hown (by simp)
    · refine own_same hrow fun k hk => ?_
      have h := (hvb k hk).2.1
      rw [hg0.block k (by simp; omega) (by simp), heap_alloc_old w1 ob h]
  refine ⟨?_, ?_, ?_, hold, ⟨hf.below.trans hb2, fun k h1 h2 h3 h4 => ?_⟩, ?_, hvW, ?_⟩
  · rw [hg1.block _ hlt (fun e => by have := hvW _ e.symm; omega)]
    exact hbox
  · rcases hw with ⟨g, cap, rfl, rfl⟩ | ⟨e, _⟩
    · intro e
      have := hvW g rfl
      simp [Value.ownBlock] at e
      omega
    · rw [e]; simp; omega
  · refine ⟨ncs ++ [[.int .i64 t.id, .string t.nm, .int .i64 t.rep, .int .i64 t.kind, .slice a t.sub.length c]], by simp [hn1], fun x hx => ?_, by simpa using hown, fun j hj hj' => ?_⟩
    · rcases List.mem_append.1 hx with hx | hx
      · exact hn2 x hx
      · rw [List.mem_singleton.1 hx]; rfl
    · by_cases h : j < path.length
      · rw [List.getElem_append_left h, List.getElem_append_left (by omega)]
        exact (hn4 j h (by omega)).stay (fun _ h _ => h) (fun b hb' _ => hb2.block b hb')
      · have hj2 : j = path.length := by simp at hj; omega
        subst hj2
        rw [List.getElem_append_right (by omega), List.getElem_append_right (by omega)]
        simp only [hn1, Nat.sub_self, List.getElem_cons_zero]
        exact NodeC.join c hcap (hl.stay (fun _ h _ => h) (fun b hb' _ => (hf.below.trans hb2).block b hb'))
  · have e := hf.rows k h1 h2 h3
    rw [hg1.block k (by have := hf.below.size; omega) h4, e]
  · exact hI _ _ _ _ hi hg1 (fun k hk => ⟨(hvb k hk).1, (hvb k hk).2.2⟩)
  · rcases hw with h | ⟨e, _⟩
    · exact .inl h
    · right
      intro k hk
      rw [e] at hk
      simp at hk
      omega
theorem WP.alloc {S : Type} {B Bw : Nat} {W : World} {t : Tr} {a : Option Addr} {c : Nat} {v : Value} {path : List Tr} {I : S → World → Prop} {s : S} {wr : World} {v2 : Value} (hBw : B ≤ Bw) (hI : ∀ s W w' r, I s W → W.grownBy w' r → (∀ k, r = some k → Bw ≤ k ∧ IsNB W k) → I s w') (hbw : Bw ≤ W.heap.size) (h : WP B Bw W t a c v path I s wr v2) (ob : Obj) : WP B Bw W t a c v path I s (wr.alloc ob) v2 := by
  have hs := h.fr.below.size
  have hb : Below wr.heap.size wr (wr.alloc ob) := (Below.refl _ _).alloc (Nat.le_refl _) _
  have hv : VFr B Bw wr (wr.alloc ob) := VFr.of_below hb (by omega)
  exact ⟨blk_alloc h.box, h.apart, h.row.vfr hv, h.old.vfr hv, ⟨h.fr.below.trans hv.below, fun k h1 h2 h3 h4 => (hb.block k (by omega)).trans (h.fr.rows k h1 h2 h3 h4)⟩, hI _ _ _ none h.inv (World.grownBy_alloc _ _ _) (fun k hk => by cases hk), h.vlt, h.two⟩
theorem WP.weak {S : Type} {B Bw : Nat} {W : World} {t : Tr} {a : Option Addr} {c : Nat} {v : Value} {path : List Tr} {I : S → World → Prop} {s : S} {wr : World} {v2 : Value} (h : WP B Bw W t a c v path I s wr v2) : WP B Bw W t a c v path (fun (_ : S) _ => True) s wr v2 := ⟨h.box, h.apart, h.row, h.old, h.fr, trivial, h.vlt, h.two⟩
/-- .. behind a call for a node in it. -/
theorem WP.next {S : Type} {B Bw : Nat} {W : World} {t : Tr} {a : Option Addr} {c : Nat} {v : Value} {path : List Tr} {I : S → World → Prop} {s s' : S} {wr w2 : World} {v2 : Value} (hbw : Bw ≤ W.heap.size) (h : WP B Bw W t a c v path I s wr v2)
    (hf : WFr B Bw v2 wr w2) (hp : PathR w2 B Bw v2 (path ++ [t])) (hi : I s' w2) : WP B Bw W t a c v path I s' w2 v2 := by
  have hb := hf.below
  refine ⟨?_, h.apart, hp, ?_, ⟨h.fr.below.trans hb, fun k h1 h2 h3 h4 => ?_⟩, hi, h.vlt, h.two⟩
  · rw [hf.rows _ hbw (lt_of_block h.box) ⟨_, _, h.box⟩ (fun e => h.apart e.symm)]
    exact h.box
  · rcases h.two with ⟨g, cap, rfl, rfl⟩ | h2
    · obtain ⟨ncs, hn1, hn2, hn3, hn4⟩ := hp
      obtain ⟨ncs', hm1, hm2, hm3, hm4⟩ := h.old
      refine ⟨ncs.take path.length, by simp [hn1], fun x hx => hn2 x (List.mem_of_mem_take hx), ?_, fun j hj hj' => ?_⟩
      · have hl5 : (ncs.take path.length).flatten.length = path.length * 5 := by
          rw [flat5_len _ (fun x hx => hn2 x (List.mem_of_mem_take hx))]; simp [hn1]
        have e : ncs.flatten = (ncs.take path.length).flatten ++ (ncs.drop path.length).flatten := by rw [← List.flatten_append, List.take_append_drop]
        rw [e] at hn3
        exact own_begin (m := 1) hl5 (by simpa using hn3) (by simp)
      · have := hn4 j (by simp; omega) (by simp at hj'; omega)
        rw [List.getElem_append_left hj] at this
        rw [List.getElem_take]
        exact this
    · refine h.old.stay hb fun k hk => ?_
      obtain ⟨q1, q2, q3⟩ := h.old.block hk
      refine hf.rows k q1 q2 q3 fun e => ?_
      have q4 := h2 k e.symm
      have q5 := h.vlt k hk
      omega
  · have e := h.fr.rows k h1 h2 h3 h4
    obtain ⟨cs, z, hc⟩ := h3
    rw [hf.rows k h1 (Nat.lt_of_lt_of_le h2 h.fr.below.size) ⟨cs, z, e.trans hc⟩ (fun e2 => ?_), e]
    rcases h.two with ⟨g, cap, rfl, rfl⟩ | h5
    · exact h4 e2
    · have := h5 k e2.symm
      omega
end Go.Proofs.YtbicfjimlpdnkaaGreatDoor

namespace Go.Proofs.YtbicfjimlpdnkaaGreatDoor
open Go.RowKit
set_option maxRecDepth 100000 in
set_option maxHeartbeats 1600000 in
theorem wkI_any {S : Type} (st : S → List Tr → Tr → Bool × S) (I J : S → World → Prop) (Q : List Tr → Tr → Prop) (μ : S → Nat) (M : Nat) (g0 : Nat) (B Bw : Nat) (hBw : B ≤ Bw)
    (hI : ∀ s W w' r, I s W → W.grownBy w' r → (∀ k, r = some k → Bw ≤ k ∧ IsNB W k) → I s w')
    (hQ : ∀ path t, Q path t → ∀ j (hj : j < t.sub.length), Q (path ++ [t]) t.sub[j]) (hμ : ∀ s path t, μ (st s path t).2 ≤ μ s + 1)
    (HV : Hid (∀ s path t a c v W, Q path t → μ s + 1 ≤ M → I s W → PathR W B Bw v path → LiesN W (fun b => b < B) a t.sub → t.sub.length ≤ c → t.Sm → Bw ≤ W.heap.size → Calls Tryz.prog 73 #[nodeV t a c, v, .pointer (some ⟨g0, 0, none⟩)] W fun e w' => e = .returned (.bool (st s path t).1) ∧ ((st s path t).1 = true → I (st s path t).2 w') ∧ ((st s path t).1 = false → J (st s path t).2 w') ∧ VFr B Bw W w')) :
    ∀ (n : Nat) (t : Tr), Tr.Dp n t → t.Sm → ∀ (s : S) (path : List Tr) (a : Option Addr) (c : Nat) (v : Value) (W : World), Q path t → μ s + t.cnt ≤ M → path.length + n ≤ 1100000 → I s W → PathR W B Bw v path → LiesN W (fun b => b < B) a t.sub → t.sub.length ≤ c → Bw ≤ W.heap.size →
    Calls Tryz.prog 27 #[nodeV t a c, v, .func (.func 73) #[] #[.pointer (some ⟨g0, 0, none⟩)]] W fun e w' => e = .returned (.bool (wkT st s path t).1) ∧ ((wkT st s path t).1 = true → I (wkT st s path t).2 w') ∧ ((wkT st s path t).1 = false → J (wkT st s path t).2 w') ∧ WFr B Bw v W w' ∧ PathR w' B Bw v path
  | 0, t, h => absurd h.pos (Nat.lt_irrefl _)
  | n + 1, t, hdp => fun hsm s path a c v W hq hm hlen hi hp hl hcap hbw => by
    obtain ⟨iv, hvi, hv0, hv1, hv2⟩ := info_parts Tryz.infoN
    have HL : Hid (LiesN W (fun b => b < B) a t.sub) := hl
    have hsl := hsm.len
    have HP : Hid (PathR W B Bw v path) := hp
    have HI : Hid (I s W) := hi
    obtain ⟨va, vc, rfl⟩ := hp.shape
    have HIH : Hid (∀ j (hj : j < t.sub.length) (s : S) (path : List Tr) (a : Option Addr) (c : Nat) (v : Value) (W : World), Q path t.sub[j] → μ s + t.sub[j].cnt ≤ M → path.length + n ≤ 1100000 → I s W → PathR W B Bw v path → LiesN W (fun b => b < B) a t.sub[j].sub → t.sub[j].sub.length ≤ c → Bw ≤ W.heap.size → Calls Tryz.prog 27 #[nodeV t.sub[j] a c, v, .func (.func 73) #[] #[.pointer (some ⟨g0, 0, none⟩)]] W fun e w' => e = .returned (.bool (wkT st s path t.sub[j]).1) ∧ ((wkT st s path t.sub[j]).1 = true → I (wkT st s path t.sub[j]).2 w') ∧ ((wkT st s path t.sub[j]).1 = false → J (wkT st s path t.sub[j]).2 w') ∧ WFr B Bw v W w' ∧ PathR w' B Bw v path) := fun j hj => wkI_any st I J Q μ M g0 B Bw hBw hI hQ hμ HV n t.sub[j] (hdp.at_ j hj) (hsm.at_ j hj)
    have HEq := wkT_eq st s path t
    obtain ⟨b1, s1, hst⟩ : ∃ b1 s1, st s path t = (b1, s1) := ⟨_, _, rfl⟩
    rw [hst] at HEq
    -- the box
    have hw1 := wk_box hBw hI t a c hi hp hl hbw
    have hcnt := t.cnt_eq
    have HQ : Hid (∀ j (hj : j < t.sub.length), Q (path ++ [t]) t.sub[j]) := hQ path t hq
    have HC := HV.out s path t a c (.slice va path.length vc) _ hq (by omega) hw1.1 hw1.2.1 hw1.2.2.1 hcap hsm hw1.2.2.2
    rw [hst] at HC
    have HC : Hid _ := HC
    have HEq : Hid _ := HEq
    have hm1 : μ s1 + cntL t.sub ≤ M := by have h := hμ s path t; rw [hst] at h; simp only at h; omega
    have HM : Hid (μ s1 + cntL t.sub ≤ M) := hm1
    have hst : Hid _ := hst
    clear hm1 hcnt hm hq
    clear hl hsm hp hi hw1
    unfold nodeV
    go_enter Tryz.func27, Tryz.ntmps27
    go_wp2_with fail
    refine Calls.mono HC.out ?_
    clear HC
    rintro e w1 ⟨rfl, hiT, hiF, hf1⟩
    have HJ : Hid _ := hiF
    have HT : Hid _ := hiT
    have HF1 : Hid (VFr B Bw W w1) := ((VFr.refl B Bw W).alloc (by omega) _).trans hf1
    have HB1 : Hid (w1.heap[W.heap.size]? = some (.cells #[.int .i64 t.id, .string t.nm, .int .i64 t.rep, .int .i64 t.kind, .slice a t.sub.length c] 24 (0, 0))) := (hf1.rows W.heap.size hbw (by simp) ⟨_, _, heap_alloc_new W _⟩).trans (heap_alloc_new W _)
    clear hiT hiF hf1
    obtain ⟨⟨p0, p1, p2, p3, p4⟩, _⟩ := row_five HB1.out
    cases b1 with
    | false =>
      have HE2 : Hid (wkT st s path t = (false, s1)) := (by show _ = _; simpa using HEq.out)
      go_wp2
      go_ret
      rw [HE2.out]
      exact ⟨rfl, fun h => by simp at h, fun _ => HJ.out (by simp), ⟨HF1.out.below, fun k h1 h2 h3 _ => HF1.out.rows k h1 h2 h3⟩, HP.out.vfr HF1.out⟩
    | true =>
      have HE2 : Hid (wkT st s path t = wkL st s1 (path ++ [t]) t.sub) := (by show _ = _; simpa using HEq.out)
      obtain ⟨ncs, hn1, hn2, hn3, hn4⟩ := HP.out.vfr HF1.out
      have HN4 : Hid _ := hn4
      have HN2 : Hid _ := hn2
      have HN1 : Hid _ := hn1
      have HR : Hid (w1.ownsRow Bw 24 5 (.slice va path.length vc) path.length ncs.flatten) := hn3
      clear hn1 hn2 hn3 hn4
      have hs1 := HF1.out.below.size
      go_wp2_with (at_builtin; refine wpList_append_kept _ rfl _ _ 22 rfl Bw 24 iv (.agg #[.int .i64 0, .string ⟨#[]⟩, .int .i64 0, .int .i64 0, .slice none 0 0]) 5 64 Tryz.underlying22 hvi hv0 hv1 hv2 rfl (by decide) _ path.length ncs.flatten rfl (HR.out.alloc _) ⟨w1.heap.size, 0, none⟩ 1 1 [.int .i64 t.id, .string t.nm, .int .i64 t.rep, .int .i64 t.kind, .slice a t.sub.length c] rfl rfl five_cells (by intro u hu; simp at hu; rcases hu with rfl | rfl | rfl | rfl | rfl <;> rfl) (by unfold maxLen; omega) (by omega) (by simp; omega) (by decide) ?_; intro v2 w2 hown2 hgrow2 hwh2; have HW : Hid (WP B Bw W t a c (.slice va path.length vc) path I s1 w2 v2) := WP.start hBw hI hbw HF1.out HB1.out HR.out HN1.out HN2.out HN4.out (HT.out (by simp)) hcap HL.out (fun k hk => (HP.out.block hk).2.1) hown2 hgrow2 hwh2; clear hown2 hgrow2 hwh2 p0 p1 p2 p3 p4; obtain ⟨a2, c2, e2⟩ := HW.out.row.shape; rw [show (path ++ [t]).length = path.length + 1 by simp] at e2; subst e2; obtain ⟨⟨p0, p1, p2, p3, p4⟩, _⟩ := row_five HW.out.box)
      clear HR HN1 HN2 HN4 HT HF1 HB1
      have hlen2 : (path ++ [t]).length + n ≤ 1100000 := by simp; omega
      have HS : Hid (wkL st s1 (path ++ [t]) (t.sub.take 0) = (true, s1)) := by
        show _ = _
        rw [List.take_zero, wkL]
      go_loopw [21] (fun x wr => ∃ (i : Nat) (s' : S), i ≤ t.sub.length ∧ x = .int .i64 i ∧ Hid (μ s' + cntL (t.sub.drop i) ≤ M) ∧ Hid (wkL st s1 (path ++ [t]) (t.sub.take i) = (true, s')) ∧ Hid (WP B Bw W t a c (.slice va path.length vc) path I s' wr (.slice a2 (path.length + 1) c2))) (fun x _ => t.sub.length - (intOf x).toNat)
      case atStart => exact ⟨0, s1, Nat.zero_le _, rfl, HM, HS, HW⟩
      case round =>
        clear HS HW p0 p1 p2 p3 p4
        obtain ⟨i, s', hik, rfl, HMi, HS, HW⟩ := hrel
        obtain ⟨⟨p0, p1, p2, p3, p4⟩, _⟩ := row_five HW.out.box
        by_cases hlt : i < t.sub.length
        · have HLr : Hid (LiesN wr (fun b => b < B) a t.sub) := HL.out.stay (fun _ h _ => h) (fun b h _ => HW.out.fr.below.block b h)
          obtain ⟨b, o, a1, c1, rfl, d0, d1, d2, d3, d4, hl1, hc1⟩ := HLr.out.at2 i hlt
          have HWA : Hid _ := HW.out.alloc hBw hI hbw (.cells #[.int .i64 t.sub[i].id, .string t.sub[i].nm, .int .i64 t.sub[i].rep, .int .i64 t.sub[i].kind, .slice a1 t.sub[i].sub.length c1] 24)
          obtain ⟨b3, s3, hr3⟩ : ∃ b3 s3, wkT st s' (path ++ [t]) t.sub[i] = (b3, s3) := ⟨_, _, rfl⟩
          have hmi := HMi.out
          rw [cntL_drop t.sub i hlt] at hmi
          have hmr := wkT_more st μ hμ t.sub[i] s' (path ++ [t])
          rw [hr3] at hmr
          simp only at hmr
          have HM3 : Hid (μ s3 + cntL (t.sub.drop (i + 1)) ≤ M) := (by show _ ≤ _; omega)
          have HC := HIH.out i hlt s' (path ++ [t]) a1 c1 (.slice a2 (path.length + 1) c2) _ (HQ.out i hlt) (by omega) hlen2 HWA.out.inv HWA.out.row (hl1.keep ((Below.refl _ _).alloc (Nat.le_refl _) _)) hc1 (by have := HW.out.fr.below.size; simp; omega)
          rw [hr3] at HC
          have HC : Hid _ := HC
          have HS3 : Hid (wkL st s1 (path ++ [t]) (t.sub.take (i + 1)) = (b3, s3)) := (wkL_take st s1 (path ++ [t]) t.sub i hlt s' HS.out).trans hr3
          clear hr3 hl1 hc1 hmi hmr
          go_wp2_with fail
          refine Calls.mono HC.out ?_
          clear HC
          rintro e w3 ⟨rfl, hT, hF, hfr, hpr⟩
          have HF : Hid _ := hF
          have HT : Hid _ := hT
          have HFr : Hid _ := hfr
          have HPr : Hid _ := hpr
          clear hT hF hfr hpr
          cases b3 with
          | true =>
            have HW3 : Hid _ := HWA.out.next hbw HFr.out HPr.out (HT.out (by simp))
            go_wp2
            go_roundw
            case rel => exact ⟨i + 1, s3, by omega, by go_num, HM3, HS3, HW3⟩
            case measure => simp [intOf]; omega
          | false =>
            have HEnd : Hid (wkT st s path t = (false, s3)) := (HE2.out.trans (wkL_stop st s1 (path ++ [t]) t.sub (i + 1) (by rw [HS3.out]))).trans HS3.out
            have HWl : Hid (WP B Bw W t (some ⟨b, o, none⟩) c (.slice va path.length vc) path (fun _ _ => True) s3 w3 (.slice a2 (path.length + 1) c2)) := WP.next (s := s') hbw (HWA.out.weak) HFr.out HPr.out trivial
            go_wp2
            go_ret
            rw [HEnd.out]
            exact ⟨rfl, fun h => by simp at h, fun _ => HF.out (by simp), HWl.out.fr, HWl.out.old⟩
        · obtain rfl : i = t.sub.length := by omega
          go_wp2
          go_ret
          have HS2 := HS.out
          rw [List.take_length] at HS2
          rw [HE2.out, HS2]
          exact ⟨rfl, fun _ => HW.out.inv, fun h => by simp at h, HW.out.fr, HW.out.old⟩
end Go.Proofs.YtbicfjimlpdnkaaGreatDoor

namespace Go.Proofs.YtbicfjimlpdnkaaGreatDoor
open Go.RowKit
set_option maxRecDepth 100000 in
set_option maxHeartbeats 1600000 in
theorem wkM_any {S : Type} (st : S → List Tr → Tr → Bool × S) (I J : S → World → Prop) (Q : List Tr → Tr → Prop) (μ : S → Nat) (M : Nat) (B Bw : Nat) (hBw : B ≤ Bw)
    (hI : ∀ s W w' r, I s W → W.grownBy w' r → (∀ k, r = some k → Bw ≤ k ∧ IsNB W k) → I s w')
    (hQ : ∀ path t, Q path t → ∀ j (hj : j < t.sub.length), Q (path ++ [t]) t.sub[j]) (hμ : ∀ s path t, μ (st s path t).2 ≤ μ s + 1)
    (HV : Hid (∀ s path t a c v W, Q path t → μ s + 1 ≤ M → I s W → PathR W B Bw v path → LiesN W (fun b => b < B) a t.sub → t.sub.length ≤ c → t.Sm → Bw ≤ W.heap.size → Calls Tryz.prog 69 #[nodeV t a c, v] W fun e w' => e = .returned (.bool (st s path t).1) ∧ ((st s path t).1 = true → I (st s path t).2 w') ∧ ((st s path t).1 = false → J (st s path t).2 w') ∧ VFr B Bw W w')) :
    ∀ (n : Nat) (t : Tr), Tr.Dp n t → t.Sm → ∀ (s : S) (path : List Tr) (a : Option Addr) (c : Nat) (v : Value) (W : World), Q path t → μ s + t.cnt ≤ M → path.length + n ≤ 1100000 → I s W → PathR W B Bw v path → LiesN W (fun b => b < B) a t.sub → t.sub.length ≤ c → Bw ≤ W.heap.size →
    Calls Tryz.prog 27 #[nodeV t a c, v, .func (.func 69) #[] #[]] W fun e w' => e = .returned (.bool (wkT st s path t).1) ∧ ((wkT st s path t).1 = true → I (wkT st s path t).2 w') ∧ ((wkT st s path t).1 = false → J (wkT st s path t).2 w') ∧ WFr B Bw v W w' ∧ PathR w' B Bw v path
  | 0, t, h => absurd h.pos (Nat.lt_irrefl _)
  | n + 1, t, hdp => fun hsm s path a c v W hq hm hlen hi hp hl hcap hbw => by
    obtain ⟨iv, hvi, hv0, hv1, hv2⟩ := info_parts Tryz.infoN
    have HL : Hid (LiesN W (fun b => b < B) a t.sub) := hl
    have hsl := hsm.len
    have HP : Hid (PathR W B Bw v path) := hp
    have HI : Hid (I s W) := hi
    obtain ⟨va, vc, rfl⟩ := hp.shape
    have HIH : Hid (∀ j (hj : j < t.sub.length) (s : S) (path : List Tr) (a : Option Addr) (c : Nat) (v : Value) (W : World), Q path t.sub[j] → μ s + t.sub[j].cnt ≤ M → path.length + n ≤ 1100000 → I s W → PathR W B Bw v path → LiesN W (fun b => b < B) a t.sub[j].sub → t.sub[j].sub.length ≤ c → Bw ≤ W.heap.size → Calls Tryz.prog 27 #[nodeV t.sub[j] a c, v, .func (.func 69) #[] #[]] W fun e w' => e = .returned (.bool (wkT st s path t.sub[j]).1) ∧ ((wkT st s path t.sub[j]).1 = true → I (wkT st s path t.sub[j]).2 w') ∧ ((wkT st s path t.sub[j]).1 = false → J (wkT st s path t.sub[j]).2 w') ∧ WFr B Bw v W w' ∧ PathR w' B Bw v path) := fun j hj => wkM_any st I J Q μ M  B Bw hBw hI hQ hμ HV n t.sub[j] (hdp.at_ j hj) (hsm.at_ j hj)
    have HEq := wkT_eq st s path t
    obtain ⟨b1, s1, hst⟩ : ∃ b1 s1, st s path t = (b1, s1) := ⟨_, _, rfl⟩
    rw [hst] at HEq
    -- the box
    have hw1 := wk_box hBw hI t a c hi hp hl hbw
    have hcnt := t.cnt_eq
    have HQ : Hid (∀ j (hj : j < t.sub.length), Q (path ++ [t]) t.sub[j]) := hQ path t hq
    have HC := HV.out s path t a c (.slice va path.length vc) _ hq (by omega) hw1.1 hw1.2.1 hw1.2.2.1 hcap hsm hw1.2.2.2
    rw [hst] at HC
    have HC : Hid _ := HC
    have HEq : Hid _ := HEq
    have hm1 : μ s1 + cntL t.sub ≤ M := by have h := hμ s path t; rw [hst] at h; simp only at h; omega
    have HM : Hid (μ s1 + cntL t.sub ≤ M) := hm1
    have hst : Hid _ := hst
    clear hm1 hcnt hm hq
    clear hl hsm hp hi hw1
    unfold nodeV
    go_enter Tryz.func27, Tryz.ntmps27
    go_wp2_with fail
    refine Calls.mono HC.out ?_
    clear HC
    rintro e w1 ⟨rfl, hiT, hiF, hf1⟩
    have HJ : Hid _ := hiF
    have HT : Hid _ := hiT
    have HF1 : Hid (VFr B Bw W w1) := ((VFr.refl B Bw W).alloc (by omega) _).trans hf1
    have HB1 : Hid (w1.heap[W.heap.size]? = some (.cells #[.int .i64 t.id, .string t.nm, .int .i64 t.rep, .int .i64 t.kind, .slice a t.sub.length c] 24 (0, 0))) := (hf1.rows W.heap.size hbw (by simp) ⟨_, _, heap_alloc_new W _⟩).trans (heap_alloc_new W _)
    clear hiT hiF hf1
    obtain ⟨⟨p0, p1, p2, p3, p4⟩, _⟩ := row_five HB1.out
    cases b1 with
    | false =>
      have HE2 : Hid (wkT st s path t = (false, s1)) := (by show _ = _; simpa using HEq.out)
      go_wp2
      go_ret
      rw [HE2.out]
      exact ⟨rfl, fun h => by simp at h, fun _ => HJ.out (by simp), ⟨HF1.out.below, fun k h1 h2 h3 _ => HF1.out.rows k h1 h2 h3⟩, HP.out.vfr HF1.out⟩
    | true =>
      have HE2 : Hid (wkT st s path t = wkL st s1 (path ++ [t]) t.sub) := (by show _ = _; simpa using HEq.out)
      obtain ⟨ncs, hn1, hn2, hn3, hn4⟩ := HP.out.vfr HF1.out
      have HN4 : Hid _ := hn4
      have HN2 : Hid _ := hn2
      have HN1 : Hid _ := hn1
      have HR : Hid (w1.ownsRow Bw 24 5 (.slice va path.length vc) path.length ncs.flatten) := hn3
      clear hn1 hn2 hn3 hn4
      have hs1 := HF1.out.below.size
      go_wp2_with (at_builtin; refine wpList_append_kept _ rfl _ _ 22 rfl Bw 24 iv (.agg #[.int .i64 0, .string ⟨#[]⟩, .int .i64 0, .int .i64 0, .slice none 0 0]) 5 64 Tryz.underlying22 hvi hv0 hv1 hv2 rfl (by decide) _ path.length ncs.flatten rfl (HR.out.alloc _) ⟨w1.heap.size, 0, none⟩ 1 1 [.int .i64 t.id, .string t.nm, .int .i64 t.rep, .int .i64 t.kind, .slice a t.sub.length c] rfl rfl five_cells (by intro u hu; simp at hu; rcases hu with rfl | rfl | rfl | rfl | rfl <;> rfl) (by unfold maxLen; omega) (by omega) (by simp; omega) (by decide) ?_; intro v2 w2 hown2 hgrow2 hwh2; have HW : Hid (WP B Bw W t a c (.slice va path.length vc) path I s1 w2 v2) := WP.start hBw hI hbw HF1.out HB1.out HR.out HN1.out HN2.out HN4.out (HT.out (by simp)) hcap HL.out (fun k hk => (HP.out.block hk).2.1) hown2 hgrow2 hwh2; clear hown2 hgrow2 hwh2 p0 p1 p2 p3 p4; obtain ⟨a2, c2, e2⟩ := HW.out.row.shape; rw [show (path ++ [t]).length = path.length + 1 by simp] at e2; subst e2; obtain ⟨⟨p0, p1, p2, p3, p4⟩, _⟩ := row_five HW.out.box)
      clear HR HN1 HN2 HN4 HT HF1 HB1
      have hlen2 : (path ++ [t]).length + n ≤ 1100000 := by simp; omega
      have HS : Hid (wkL st s1 (path ++ [t]) (t.sub.take 0) = (true, s1)) := by
        show _ = _
        rw [List.take_zero, wkL]
      go_loopw [21] (fun x wr => ∃ (i : Nat) (s' : S), i ≤ t.sub.length ∧ x = .int .i64 i ∧ Hid (μ s' + cntL (t.sub.drop i) ≤ M) ∧ Hid (wkL st s1 (path ++ [t]) (t.sub.take i) = (true, s')) ∧ Hid (WP B Bw W t a c (.slice va path.length vc) path I s' wr (.slice a2 (path.length + 1) c2))) (fun x _ => t.sub.length - (intOf x).toNat)
      case atStart => exact ⟨0, s1, Nat.zero_le _, rfl, HM, HS, HW⟩
      case round =>
        clear HS HW p0 p1 p2 p3 p4
        obtain ⟨i, s', hik, rfl, HMi, HS, HW⟩ := hrel
        obtain ⟨⟨p0, p1, p2, p3, p4⟩, _⟩ := row_five HW.out.box
        by_cases hlt : i < t.sub.length
        · have HLr : Hid (LiesN wr (fun b => b < B) a t.sub) := HL.out.stay (fun _ h _ => h) (fun b h _ => HW.out.fr.below.block b h)
          obtain ⟨b, o, a1, c1, rfl, d0, d1, d2, d3, d4, hl1, hc1⟩ := HLr.out.at2 i hlt
          have HWA : Hid _ := HW.out.alloc hBw hI hbw (.cells #[.int .i64 t.sub[i].id, .string t.sub[i].nm, .int .i64 t.sub[i].rep, .int .i64 t.sub[i].kind, .slice a1 t.sub[i].sub.length c1] 24)
          obtain ⟨b3, s3, hr3⟩ : ∃ b3 s3, wkT st s' (path ++ [t]) t.sub[i] = (b3, s3) := ⟨_, _, rfl⟩
          have hmi := HMi.out
          rw [cntL_drop t.sub i hlt] at hmi
          have hmr := wkT_more st μ hμ t.sub[i] s' (path ++ [t])
          rw [hr3] at hmr
          simp only at hmr
          have HM3 : Hid (μ s3 + cntL (t.sub.drop (i + 1)) ≤ M) := (by show _ ≤ _; omega)
          have HC := HIH.out i hlt s' (path ++ [t]) a1 c1 (.slice a2 (path.length + 1) c2) _ (HQ.out i hlt) (by omega) hlen2 HWA.out.inv HWA.out.row (hl1.keep ((Below.refl _ _).alloc (Nat.le_refl _) _)) hc1 (by have := HW.out.fr.below.size; simp; omega)
          rw [hr3] at HC
          have HC : Hid _ := HC
          have HS3 : Hid (wkL st s1 (path ++ [t]) (t.sub.take (i + 1)) = (b3, s3)) := (wkL_take st s1 (path ++ [t]) t.sub i hlt s' HS.out).trans hr3
          clear hr3 hl1 hc1 hmi hmr
          go_wp2_with fail
          refine Calls.mono HC.out ?_
          clear HC
          rintro e w3 ⟨rfl, hT, hF, hfr, hpr⟩
          have HF : Hid _ := hF
          have HT : Hid _ := hT
          have HFr : Hid _ := hfr
          have HPr : Hid _ := hpr
          clear hT hF hfr hpr
          cases b3 with
          | true =>
            have HW3 : Hid _ := HWA.out.next hbw HFr.out HPr.out (HT.out (by simp))
            go_wp2
            go_roundw
            case rel => exact ⟨i + 1, s3, by omega, by go_num, HM3, HS3, HW3⟩
            case measure => simp [intOf]; omega
          | false =>
            have HEnd : Hid (wkT st s path t = (false, s3)) := (HE2.out.trans (wkL_stop st s1 (path ++ [t]) t.sub (i + 1) (by rw [HS3.out]))).trans HS3.out
            have HWl : Hid (WP B Bw W t (some ⟨b, o, none⟩) c (.slice va path.length vc) path (fun _ _ => True) s3 w3 (.slice a2 (path.length + 1) c2)) := WP.next (s := s') hbw (HWA.out.weak) HFr.out HPr.out trivial
            go_wp2
            go_ret
            rw [HEnd.out]
            exact ⟨rfl, fun h => by simp at h, fun _ => HF.out (by simp), HWl.out.fr, HWl.out.old⟩
        · obtain rfl : i = t.sub.length := by omega
          go_wp2
          go_ret
          have HS2 := HS.out
          rw [List.take_length] at HS2
          rw [HE2.out, HS2]
          exact ⟨rfl, fun _ => HW.out.inv, fun h => by simp at h, HW.out.fr, HW.out.old⟩
end Go.Proofs.YtbicfjimlpdnkaaGreatDoor

namespace Go.Proofs.YtbicfjimlpdnkaaGreatDoor
open Go.RowKit
set_option maxRecDepth 100000 in
set_option maxHeartbeats 1600000 in
theorem wkS_any {S : Type} (st : S → List Tr → Tr → Bool × S) (I J : S → World → Prop) (Q : List Tr → Tr → Prop) (μ : S → Nat) (M : Nat) (B Bw : Nat) (hBw : B ≤ Bw)
    (hI : ∀ s W w' r, I s W → W.grownBy w' r → (∀ k, r = some k → Bw ≤ k ∧ IsNB W k) → I s w')
    (hQ : ∀ path t, Q path t → ∀ j (hj : j < t.sub.length), Q (path ++ [t]) t.sub[j]) (hμ : ∀ s path t, μ (st s path t).2 ≤ μ s + 1)
    (HV : Hid (∀ s path t a c v W, Q path t → μ s + 1 ≤ M → I s W → PathR W B Bw v path → LiesN W (fun b => b < B) a t.sub → t.sub.length ≤ c → t.Sm → Bw ≤ W.heap.size → Calls Tryz.prog 66 #[nodeV t a c, v] W fun e w' => e = .returned (.bool (st s path t).1) ∧ ((st s path t).1 = true → I (st s path t).2 w') ∧ ((st s path t).1 = false → J (st s path t).2 w') ∧ VFr B Bw W w')) :
    ∀ (n : Nat) (t : Tr), Tr.Dp n t → t.Sm → ∀ (s : S) (path : List Tr) (a : Option Addr) (c : Nat) (v : Value) (W : World), Q path t → μ s + t.cnt ≤ M → path.length + n ≤ 1100000 → I s W → PathR W B Bw v path → LiesN W (fun b => b < B) a t.sub → t.sub.length ≤ c → Bw ≤ W.heap.size →
    Calls Tryz.prog 27 #[nodeV t a c, v, .func (.func 66) #[] #[]] W fun e w' => e = .returned (.bool (wkT st s path t).1) ∧ ((wkT st s path t).1 = true → I (wkT st s path t).2 w') ∧ ((wkT st s path t).1 = false → J (wkT st s path t).2 w') ∧ WFr B Bw v W w' ∧ PathR w' B Bw v path
  | 0, t, h => absurd h.pos (Nat.lt_irrefl _)
  | n + 1, t, hdp => fun hsm s path a c v W hq hm hlen hi hp hl hcap hbw => by
    obtain ⟨iv, hvi, hv0, hv1, hv2⟩ := info_parts Tryz.infoN
    have HL : Hid (LiesN W (fun b => b < B) a t.sub) := hl
    have hsl := hsm.len
    have HP : Hid (PathR W B Bw v path) := hp
    have HI : Hid (I s W) := hi
    obtain ⟨va, vc, rfl⟩ := hp.shape
    have HIH : Hid (∀ j (hj : j < t.sub.length) (s : S) (path : List Tr) (a : Option Addr) (c : Nat) (v : Value) (W : World), Q path t.sub[j] → μ s + t.sub[j].cnt ≤ M → path.length + n ≤ 1100000 → I s W → PathR W B Bw v path → LiesN W (fun b => b < B) a t.sub[j].sub → t.sub[j].sub.length ≤ c → Bw ≤ W.heap.size → Calls Tryz.prog 27 #[nodeV t.sub[j] a c, v, .func (.func 66) #[] #[]] W fun e w' => e = .returned (.bool (wkT st s path t.sub[j]).1) ∧ ((wkT st s path t.sub[j]).1 = true → I (wkT st s path t.sub[j]).2 w') ∧ ((wkT st s path t.sub[j]).1 = false → J (wkT st s path t.sub[j]).2 w') ∧ WFr B Bw v W w' ∧ PathR w' B Bw v path) := fun j hj => wkS_any st I J Q μ M  B Bw hBw hI hQ hμ HV n t.sub[j] (hdp.at_ j hj) (hsm.at_ j hj)
    have HEq := wkT_eq st s path t
    obtain ⟨b1, s1, hst⟩ : ∃ b1 s1, st s path t = (b1, s1) := ⟨_, _, rfl⟩
    rw [hst] at HEq
    -- the box
    have hw1 := wk_box hBw hI t a c hi hp hl hbw
    have hcnt := t.cnt_eq
    have HQ : Hid (∀ j (hj : j < t.sub.length), Q (path ++ [t]) t.sub[j]) := hQ path t hq
    have HC := HV.out s path t a c (.slice va path.length vc) _ hq (by omega) hw1.1 hw1.2.1 hw1.2.2.1 hcap hsm hw1.2.2.2
    rw [hst] at HC
    have HC : Hid _ := HC
    have HEq : Hid _ := HEq
    have hm1 : μ s1 + cntL t.sub ≤ M := by have h := hμ s path t; rw [hst] at h; simp only at h; omega
    have HM : Hid (μ s1 + cntL t.sub ≤ M) := hm1
    have hst : Hid _ := hst
    clear hm1 hcnt hm hq
    clear hl hsm hp hi hw1
    unfold nodeV
    go_enter Tryz.func27, Tryz.ntmps27
    go_wp2_with fail
    refine Calls.mono HC.out ?_
    clear HC
    rintro e w1 ⟨rfl, hiT, hiF, hf1⟩
    have HJ : Hid _ := hiF
    have HT : Hid _ := hiT
    have HF1 : Hid (VFr B Bw W w1) := ((VFr.refl B Bw W).alloc (by omega) _).trans hf1
    have HB1 : Hid (w1.heap[W.heap.size]? = some (.cells #[.int .i64 t.id, .string t.nm, .int .i64 t.rep, .int .i64 t.kind, .slice a t.sub.length c] 24 (0, 0))) := (hf1.rows W.heap.size hbw (by simp) ⟨_, _, heap_alloc_new W _⟩).trans (heap_alloc_new W _)
    clear hiT hiF hf1
    obtain ⟨⟨p0, p1, p2, p3, p4⟩, _⟩ := row_five HB1.out
    cases b1 with
    | false =>
      have HE2 : Hid (wkT st s path t = (false, s1)) := (by show _ = _; simpa using HEq.out)
      go_wp2
      go_ret
      rw [HE2.out]
      exact ⟨rfl, fun h => by simp at h, fun _ => HJ.out (by simp), ⟨HF1.out.below, fun k h1 h2 h3 _ => HF1.out.rows k h1 h2 h3⟩, HP.out.vfr HF1.out⟩
    | true =>
      have HE2 : Hid (wkT st s path t = wkL st s1 (path ++ [t]) t.sub) := (by show _ = _; simpa using HEq.out)
      obtain ⟨ncs, hn1, hn2, hn3, hn4⟩ := HP.out.vfr HF1.out
      have HN4 : Hid _ := hn4
      have HN2 : Hid _ := hn2
      have HN1 : Hid _ := hn1
      have HR : Hid (w1.ownsRow Bw 24 5 (.slice va path.length vc) path.length ncs.flatten) := hn3
      clear hn1 hn2 hn3 hn4
      have hs1 := HF1.out.below.size
      go_wp2_with (at_builtin; refine wpList_append_kept _ rfl _ _ 22 rfl Bw 24 iv (.agg #[.int .i64 0, .string ⟨#[]⟩, .int .i64 0, .int .i64 0, .slice none 0 0]) 5 64 Tryz.underlying22 hvi hv0 hv1 hv2 rfl (by decide) _ path.length ncs.flatten rfl (HR.out.alloc _) ⟨w1.heap.size, 0, none⟩ 1 1 [.int .i64 t.id, .string t.nm, .int .i64 t.rep, .int .i64 t.kind, .slice a t.sub.length c] rfl rfl five_cells (by intro u hu; simp at hu; rcases hu with rfl | rfl | rfl | rfl | rfl <;> rfl) (by unfold maxLen; omega) (by omega) (by simp; omega) (by decide) ?_; intro v2 w2 hown2 hgrow2 hwh2; have HW : Hid (WP B Bw W t a c (.slice va path.length vc) path I s1 w2 v2) := WP.start hBw hI hbw HF1.out HB1.out HR.out HN1.out HN2.out HN4.out (HT.out (by simp)) hcap HL.out (fun k hk => (HP.out.block hk).2.1) hown2 hgrow2 hwh2; clear hown2 hgrow2 hwh2 p0 p1 p2 p3 p4; obtain ⟨a2, c2, e2⟩ := HW.out.row.shape; rw [show (path ++ [t]).length = path.length + 1 by simp] at e2; subst e2; obtain ⟨⟨p0, p1, p2, p3, p4⟩, _⟩ := row_five HW.out.box)
      clear HR HN1 HN2 HN4 HT HF1 HB1
      have hlen2 : (path ++ [t]).length + n ≤ 1100000 := by simp; omega
      have HS : Hid (wkL st s1 (path ++ [t]) (t.sub.take 0) = (true, s1)) := by
        show _ = _
        rw [List.take_zero, wkL]
      go_loopw [21] (fun x wr => ∃ (i : Nat) (s' : S), i ≤ t.sub.length ∧ x = .int .i64 i ∧ Hid (μ s' + cntL (t.sub.drop i) ≤ M) ∧ Hid (wkL st s1 (path ++ [t]) (t.sub.take i) = (true, s')) ∧ Hid (WP B Bw W t a c (.slice va path.length vc) path I s' wr (.slice a2 (path.length + 1) c2))) (fun x _ => t.sub.length - (intOf x).toNat)
      case atStart => exact ⟨0, s1, Nat.zero_le _, rfl, HM, HS, HW⟩
      case round =>
        clear HS HW p0 p1 p2 p3 p4
        obtain ⟨i, s', hik, rfl, HMi, HS, HW⟩ := hrel
        obtain ⟨⟨p0, p1, p2, p3, p4⟩, _⟩ := row_five HW.out.box
        by_cases hlt : i < t.sub.length
        · have HLr : Hid (LiesN wr (fun b => b < B) a t.sub) := HL.out.stay (fun _ h _ => h) (fun b h _ => HW.out.fr.below.block b h)
          obtain ⟨b, o, a1, c1, rfl, d0, d1, d2, d3, d4, hl1, hc1⟩ := HLr.out.at2 i hlt
          have HWA : Hid _ := HW.out.alloc hBw hI hbw (.cells #[.int .i64 t.sub[i].id, .string t.sub[i].nm, .int .i64 t.sub[i].rep, .int .i64 t.sub[i].kind, .slice a1 t.sub[i].sub.length c1] 24)
          obtain ⟨b3, s3, hr3⟩ : ∃ b3 s3, wkT st s' (path ++ [t]) t.sub[i] = (b3, s3) := ⟨_, _, rfl⟩
          have hmi := HMi.out
          rw [cntL_drop t.sub i hlt] at hmi
          have hmr := wkT_more st μ hμ t.sub[i] s' (path ++ [t])
          rw [hr3] at hmr
          simp only at hmr
          have HM3 : Hid (μ s3 + cntL (t.sub.drop (i + 1)) ≤ M) := (by show _ ≤ _; omega)
          have HC := HIH.out i hlt s' (path ++ [t]) a1 c1 (.slice a2 (path.length + 1) c2) _ (HQ.out i hlt) (by omega) hlen2 HWA.out.inv HWA.out.row (hl1.keep ((Below.refl _ _).alloc (Nat.le_refl _) _)) hc1 (by have := HW.out.fr.below.size; simp; omega)
          rw [hr3] at HC
          have HC : Hid _ := HC
          have HS3 : Hid (wkL st s1 (path ++ [t]) (t.sub.take (i + 1)) = (b3, s3)) := (wkL_take st s1 (path ++ [t]) t.sub i hlt s' HS.out).trans hr3
          clear hr3 hl1 hc1 hmi hmr
          go_wp2_with fail
          refine Calls.mono HC.out ?_
          clear HC
          rintro e w3 ⟨rfl, hT, hF, hfr, hpr⟩
          have HF : Hid _ := hF
          have HT : Hid _ := hT
          have HFr : Hid _ := hfr
          have HPr : Hid _ := hpr
          clear hT hF hfr hpr
          cases b3 with
          | true =>
            have HW3 : Hid _ := HWA.out.next hbw HFr.out HPr.out (HT.out (by simp))
            go_wp2
            go_roundw
            case rel => exact ⟨i + 1, s3, by omega, by go_num, HM3, HS3, HW3⟩
            case measure => simp [intOf]; omega
          | false =>
            have HEnd : Hid (wkT st s path t = (false, s3)) := (HE2.out.trans (wkL_stop st s1 (path ++ [t]) t.sub (i + 1) (by rw [HS3.out]))).trans HS3.out
            have HWl : Hid (WP B Bw W t (some ⟨b, o, none⟩) c (.slice va path.length vc) path (fun _ _ => True) s3 w3 (.slice a2 (path.length + 1) c2)) := WP.next (s := s') hbw (HWA.out.weak) HFr.out HPr.out trivial
            go_wp2
            go_ret
            rw [HEnd.out]
            exact ⟨rfl, fun h => by simp at h, fun _ => HF.out (by simp), HWl.out.fr, HWl.out.old⟩
        · obtain rfl : i = t.sub.length := by omega
          go_wp2
          go_ret
          have HS2 := HS.out
          rw [List.take_length] at HS2
          rw [HE2.out, HS2]
          exact ⟨rfl, fun _ => HW.out.inv, fun h => by simp at h, HW.out.fr, HW.out.old⟩
end Go.Proofs.YtbicfjimlpdnkaaGreatDoor

namespace Go.Proofs.YtbicfjimlpdnkaaGreatDoor
open Go.RowKit
set_option maxRecDepth 100000 in
set_option maxHeartbeats 1600000 in
theorem wkB_any {S : Type} (st : S → List Tr → Tr → Bool × S) (I J : S → World → Prop) (Q : List Tr → Tr → Prop) (μ : S → Nat) (M : Nat) (g0 : Nat) (B Bw : Nat) (hBw : B ≤ Bw)
    (hI : ∀ s W w' r, I s W → W.grownBy w' r → (∀ k, r = some k → Bw ≤ k ∧ IsNB W k) → I s w')
    (hQ : ∀ path t, Q path t → ∀ j (hj : j < t.sub.length), Q (path ++ [t]) t.sub[j]) (hμ : ∀ s path t, μ (st s path t).2 ≤ μ s + 1)
    (HV : Hid (∀ s path t a c v W, Q path t → μ s + 1 ≤ M → I s W → PathR W B Bw v path → LiesN W (fun b => b < B) a t.sub → t.sub.length ≤ c → t.Sm → Bw ≤ W.heap.size → Calls Tryz.prog 65 #[nodeV t a c, v, .pointer (some ⟨g0, 0, none⟩)] W fun e w' => e = .returned (.bool (st s path t).1) ∧ ((st s path t).1 = true → I (st s path t).2 w') ∧ ((st s path t).1 = false → J (st s path t).2 w') ∧ VFr B Bw W w')) :
    ∀ (n : Nat) (t : Tr), Tr.Dp n t → t.Sm → ∀ (s : S) (path : List Tr) (a : Option Addr) (c : Nat) (v : Value) (W : World), Q path t → μ s + t.cnt ≤ M → path.length + n ≤ 1100000 → I s W → PathR W B Bw v path → LiesN W (fun b => b < B) a t.sub → t.sub.length ≤ c → Bw ≤ W.heap.size →
    Calls Tryz.prog 27 #[nodeV t a c, v, .func (.func 65) #[] #[.pointer (some ⟨g0, 0, none⟩)]] W fun e w' => e = .returned (.bool (wkT st s path t).1) ∧ ((wkT st s path t).1 = true → I (wkT st s path t).2 w') ∧ ((wkT st s path t).1 = false → J (wkT st s path t).2 w') ∧ WFr B Bw v W w' ∧ PathR w' B Bw v path
  | 0, t, h => absurd h.pos (Nat.lt_irrefl _)
  | n + 1, t, hdp => fun hsm s path a c v W hq hm hlen hi hp hl hcap hbw => by
    obtain ⟨iv, hvi, hv0, hv1, hv2⟩ := info_parts Tryz.infoN
    have HL : Hid (LiesN W (fun b => b < B) a t.sub) := hl
    have hsl := hsm.len
    have HP : Hid (PathR W B Bw v path) := hp
    have HI : Hid (I s W) := hi
    obtain ⟨va, vc, rfl⟩ := hp.shape
    have HIH : Hid (∀ j (hj : j < t.sub.length) (s : S) (path : List Tr) (a : Option Addr) (c : Nat) (v : Value) (W : World), Q path t.sub[j] → μ s + t.sub[j].cnt ≤ M → path.length + n ≤ 1100000 → I s W → PathR W B Bw v path → LiesN W (fun b => b < B) a t.sub[j].sub → t.sub[j].sub.length ≤ c → Bw ≤ W.heap.size → Calls Tryz.prog 27 #[nodeV t.sub[j] a c, v, .func (.func 65) #[] #[.pointer (some ⟨g0, 0, none⟩)]] W fun e w' => e = .returned (.bool (wkT st s path t.sub[j]).1) ∧ ((wkT st s path t.sub[j]).1 = true → I (wkT st s path t.sub[j]).2 w') ∧ ((wkT st s path t.sub[j]).1 = false → J (wkT st s path t.sub[j]).2 w') ∧ WFr B Bw v W w' ∧ PathR w' B Bw v path) := fun j hj => wkB_any st I J Q μ M g0 B Bw hBw hI hQ hμ HV n t.sub[j] (hdp.at_ j hj) (hsm.at_ j hj)
    have HEq := wkT_eq st s path t
    obtain ⟨b1, s1, hst⟩ : ∃ b1 s1, st s path t = (b1, s1) := ⟨_, _, rfl⟩
    rw [hst] at HEq
    -- the box
    have hw1 := wk_box hBw hI t a c hi hp hl hbw
    have hcnt := t.cnt_eq
    have HQ : Hid (∀ j (hj : j < t.sub.length), Q (path ++ [t]) t.sub[j]) := hQ path t hq
    have HC := HV.out s path t a c (.slice va path.length vc) _ hq (by omega) hw1.1 hw1.2.1 hw1.2.2.1 hcap hsm hw1.2.2.2
    rw [hst] at HC
    have HC : Hid _ := HC
    have HEq : Hid _ := HEq
    have hm1 : μ s1 + cntL t.sub ≤ M := by have h := hμ s path t; rw [hst] at h; simp only at h; omega
    have HM : Hid (μ s1 + cntL t.sub ≤ M) := hm1
    have hst : Hid _ := hst
    clear hm1 hcnt hm hq
    clear hl hsm hp hi hw1
    unfold nodeV
    go_enter Tryz.func27, Tryz.ntmps27
    go_wp2_with fail
    refine Calls.mono HC.out ?_
    clear HC
    rintro e w1 ⟨rfl, hiT, hiF, hf1⟩
    have HJ : Hid _ := hiF
    have HT : Hid _ := hiT
    have HF1 : Hid (VFr B Bw W w1) := ((VFr.refl B Bw W).alloc (by omega) _).trans hf1
    have HB1 : Hid (w1.heap[W.heap.size]? = some (.cells #[.int .i64 t.id, .string t.nm, .int .i64 t.rep, .int .i64 t.kind, .slice a t.sub.length c] 24 (0, 0))) := (hf1.rows W.heap.size hbw (by simp) ⟨_, _, heap_alloc_new W _⟩).trans (heap_alloc_new W _)
    clear hiT hiF hf1
    obtain ⟨⟨p0, p1, p2, p3, p4⟩, _⟩ := row_five HB1.out
    cases b1 with
    | false =>
      have HE2 : Hid (wkT st s path t = (false, s1)) := (by show _ = _; simpa using HEq.out)
      go_wp2
      go_ret
      rw [HE2.out]
      exact ⟨rfl, fun h => by simp at h, fun _ => HJ.out (by simp), ⟨HF1.out.below, fun k h1 h2 h3 _ => HF1.out.rows k h1 h2 h3⟩, HP.out.vfr HF1.out⟩
    | true =>
      have HE2 : Hid (wkT st s path t = wkL st s1 (path ++ [t]) t.sub) := (by show _ = _; simpa using HEq.out)
      obtain ⟨ncs, hn1, hn2, hn3, hn4⟩ := HP.out.vfr HF1.out
      have HN4 : Hid _ := hn4
      have HN2 : Hid _ := hn2
      have HN1 : Hid _ := hn1
      have HR : Hid (w1.ownsRow Bw 24 5 (.slice va path.length vc) path.length ncs.flatten) := hn3
      clear hn1 hn2 hn3 hn4
      have hs1 := HF1.out.below.size
      go_wp2_with (at_builtin; refine wpList_append_kept _ rfl _ _ 22 rfl Bw 24 iv (.agg #[.int .i64 0, .string ⟨#[]⟩, .int .i64 0, .int .i64 0, .slice none 0 0]) 5 64 Tryz.underlying22 hvi hv0 hv1 hv2 rfl (by decide) _ path.length ncs.flatten rfl (HR.out.alloc _) ⟨w1.heap.size, 0, none⟩ 1 1 [.int .i64 t.id, .string t.nm, .int .i64 t.rep, .int .i64 t.kind, .slice a t.sub.length c] rfl rfl five_cells (by intro u hu; simp at hu; rcases hu with rfl | rfl | rfl | rfl | rfl <;> rfl) (by unfold maxLen; omega) (by omega) (by simp; omega) (by decide) ?_; intro v2 w2 hown2 hgrow2 hwh2; have HW : Hid (WP B Bw W t a c (.slice va path.length vc) path I s1 w2 v2) := WP.start hBw hI hbw HF1.out HB1.out HR.out HN1.out HN2.out HN4.out (HT.out (by simp)) hcap HL.out (fun k hk => (HP.out.block hk).2.1) hown2 hgrow2 hwh2; clear hown2 hgrow2 hwh2 p0 p1 p2 p3 p4; obtain ⟨a2, c2, e2⟩ := HW.out.row.shape; rw [show (path ++ [t]).length = path.length + 1 by simp] at e2; subst e2; obtain ⟨⟨p0, p1, p2, p3, p4⟩, _⟩ := row_five HW.out.box)
      clear HR HN1 HN2 HN4 HT HF1 HB1
      have hlen2 : (path ++ [t]).length + n ≤ 1100000 := by simp; omega
      have HS : Hid (wkL st s1 (path ++ [t]) (t.sub.take 0) = (true, s1)) := by
        show _ = _
        rw [List.take_zero, wkL]
      go_loopw [21] (fun x wr => ∃ (i : Nat) (s' : S), i ≤ t.sub.length ∧ x = .int .i64 i ∧ Hid (μ s' + cntL (t.sub.drop i) ≤ M) ∧ Hid (wkL st s1 (path ++ [t]) (t.sub.take i) = (true, s')) ∧ Hid (WP B Bw W t a c (.slice va path.length vc) path I s' wr (.slice a2 (path.length + 1) c2))) (fun x _ => t.sub.length - (intOf x).toNat)
      case atStart => exact ⟨0, s1, Nat.zero_le _, rfl, HM, HS, HW⟩
      case round =>
        clear HS HW p0 p1 p2 p3 p4
        obtain ⟨i, s', hik, rfl, HMi, HS, HW⟩ := hrel
        obtain ⟨⟨p0, p1, p2, p3, p4⟩, _⟩ := row_five HW.out.box
        by_cases hlt : i < t.sub.length
        · have HLr : Hid (LiesN wr (fun b => b < B) a t.sub) := HL.out.stay (fun _ h _ => h) (fun b h _ => HW.out.fr.below.block b h)
          obtain ⟨b, o, a1, c1, rfl, d0, d1, d2, d3, d4, hl1, hc1⟩ := HLr.out.at2 i hlt
          have HWA : Hid _ := HW.out.alloc hBw hI hbw (.cells #[.int .i64 t.sub[i].id, .string t.sub[i].nm, .int .i64 t.sub[i].rep, .int .i64 t.sub[i].kind, .slice a1 t.sub[i].sub.length c1] 24)
          obtain ⟨b3, s3, hr3⟩ : ∃ b3 s3, wkT st s' (path ++ [t]) t.sub[i] = (b3, s3) := ⟨_, _, rfl⟩
          have hmi := HMi.out
          rw [cntL_drop t.sub i hlt] at hmi
          have hmr := wkT_more st μ hμ t.sub[i] s' (path ++ [t])
          rw [hr3] at hmr
          simp only at hmr
          have HM3 : Hid (μ s3 + cntL (t.sub.drop (i + 1)) ≤ M) := (by show _ ≤ _; omega)
          have HC := HIH.out i hlt s' (path ++ [t]) a1 c1 (.slice a2 (path.length + 1) c2) _ (HQ.out i hlt) (by omega) hlen2 HWA.out.inv HWA.out.row (hl1.keep ((Below.refl _ _).alloc (Nat.le_refl _) _)) hc1 (by have := HW.out.fr.below.size; simp; omega)
          rw [hr3] at HC
          have HC : Hid _ := HC
          have HS3 : Hid (wkL st s1 (path ++ [t]) (t.sub.take (i + 1)) = (b3, s3)) := (wkL_take st s1 (path ++ [t]) t.sub i hlt s' HS.out).trans hr3
          clear hr3 hl1 hc1 hmi hmr
          go_wp2_with fail
          refine Calls.mono HC.out ?_
          clear HC
          rintro e w3 ⟨rfl, hT, hF, hfr, hpr⟩
          have HF : Hid _ := hF
          have HT : Hid _ := hT
          have HFr : Hid _ := hfr
          have HPr : Hid _ := hpr
          clear hT hF hfr hpr
          cases b3 with
          | true =>
            have HW3 : Hid _ := HWA.out.next hbw HFr.out HPr.out (HT.out (by simp))
            go_wp2
            go_roundw
            case rel => exact ⟨i + 1, s3, by omega, by go_num, HM3, HS3, HW3⟩
            case measure => simp [intOf]; omega
          | false =>
            have HEnd : Hid (wkT st s path t = (false, s3)) := (HE2.out.trans (wkL_stop st s1 (path ++ [t]) t.sub (i + 1) (by rw [HS3.out]))).trans HS3.out
            have HWl : Hid (WP B Bw W t (some ⟨b, o, none⟩) c (.slice va path.length vc) path (fun _ _ => True) s3 w3 (.slice a2 (path.length + 1) c2)) := WP.next (s := s') hbw (HWA.out.weak) HFr.out HPr.out trivial
            go_wp2
            go_ret
            rw [HEnd.out]
            exact ⟨rfl, fun h => by simp at h, fun _ => HF.out (by simp), HWl.out.fr, HWl.out.old⟩
        · obtain rfl : i = t.sub.length := by omega
          go_wp2
          go_ret
          have HS2 := HS.out
          rw [List.take_length] at HS2
          rw [HE2.out, HS2]
          exact ⟨rfl, fun _ => HW.out.inv, fun h => by simp at h, HW.out.fr, HW.out.old⟩
end Go.Proofs.YtbicfjimlpdnkaaGreatDoor

namespace Go.Proofs.YtbicfjimlpdnkaaGreatDoor
open Go.RowKit
set_option maxRecDepth 100000 in
set_option maxHeartbeats 1600000 in
theorem wkL_any {S : Type} (st : S → List Tr → Tr → Bool × S) (I J : S → World → Prop) (Q : List Tr → Tr → Prop) (μ : S → Nat) (M : Nat) (g0 : Nat) (B Bw : Nat) (hBw : B ≤ Bw)
    (hI : ∀ s W w' r, I s W → W.grownBy w' r → (∀ k, r = some k → Bw ≤ k ∧ IsNB W k) → I s w')
    (hQ : ∀ path t, Q path t → ∀ j (hj : j < t.sub.length), Q (path ++ [t]) t.sub[j]) (hμ : ∀ s path t, μ (st s path t).2 ≤ μ s + 1)
    (HV : Hid (∀ s path t a c v W, Q path t → μ s + 1 ≤ M → I s W → PathR W B Bw v path → LiesN W (fun b => b < B) a t.sub → t.sub.length ≤ c → t.Sm → Bw ≤ W.heap.size → Calls Tryz.prog 28 #[nodeV t a c, v, .pointer (some ⟨g0, 0, none⟩)] W fun e w' => e = .returned (.bool (st s path t).1) ∧ ((st s path t).1 = true → I (st s path t).2 w') ∧ ((st s path t).1 = false → J (st s path t).2 w') ∧ VFr B Bw W w')) :
    ∀ (n : Nat) (t : Tr), Tr.Dp n t → t.Sm → ∀ (s : S) (path : List Tr) (a : Option Addr) (c : Nat) (v : Value) (W : World), Q path t → μ s + t.cnt ≤ M → path.length + n ≤ 1100000 → I s W → PathR W B Bw v path → LiesN W (fun b => b < B) a t.sub → t.sub.length ≤ c → Bw ≤ W.heap.size →
    Calls Tryz.prog 27 #[nodeV t a c, v, .func (.func 28) #[] #[.pointer (some ⟨g0, 0, none⟩)]] W fun e w' => e = .returned (.bool (wkT st s path t).1) ∧ ((wkT st s path t).1 = true → I (wkT st s path t).2 w') ∧ ((wkT st s path t).1 = false → J (wkT st s path t).2 w') ∧ WFr B Bw v W w' ∧ PathR w' B Bw v path
  | 0, t, h => absurd h.pos (Nat.lt_irrefl _)
  | n + 1, t, hdp => fun hsm s path a c v W hq hm hlen hi hp hl hcap hbw => by
    obtain ⟨iv, hvi, hv0, hv1, hv2⟩ := info_parts Tryz.infoN
    have HL : Hid (LiesN W (fun b => b < B) a t.sub) := hl
    have hsl := hsm.len
    have HP : Hid (PathR W B Bw v path) := hp
    have HI : Hid (I s W) := hi
    obtain ⟨va, vc, rfl⟩ := hp.shape
    have HIH : Hid (∀ j (hj : j < t.sub.length) (s : S) (path : List Tr) (a : Option Addr) (c : Nat) (v : Value) (W : World), Q path t.sub[j] → μ s + t.sub[j].cnt ≤ M → path.length + n ≤ 1100000 → I s W → PathR W B Bw v path → LiesN W (fun b => b < B) a t.sub[j].sub → t.sub[j].sub.length ≤ c → Bw ≤ W.heap.size → Calls Tryz.prog 27 #[nodeV t.sub[j] a c, v, .func (.func 28) #[] #[.pointer (some ⟨g0, 0, none⟩)]] W fun e w' => e = .returned (.bool (wkT st s path t.sub[j]).1) ∧ ((wkT st s path t.sub[j]).1 = true → I (wkT st s path t.sub[j]).2 w') ∧ ((wkT st s path t.sub[j]).1 = false → J (wkT st s path t.sub[j]).2 w') ∧ WFr B Bw v W w' ∧ PathR w' B Bw v path) := fun j hj => wkL_any st I J Q μ M g0 B Bw hBw hI hQ hμ HV n t.sub[j] (hdp.at_ j hj) (hsm.at_ j hj)
    have HEq := wkT_eq st s path t
    obtain ⟨b1, s1, hst⟩ : ∃ b1 s1, st s path t = (b1, s1) := ⟨_, _, rfl⟩
    rw [hst] at HEq
    -- the box
    have hw1 := wk_box hBw hI t a c hi hp hl hbw
    have hcnt := t.cnt_eq
    have HQ : Hid (∀ j (hj : j < t.sub.length), Q (path ++ [t]) t.sub[j]) := hQ path t hq
    have HC := HV.out s path t a c (.slice va path.length vc) _ hq (by omega) hw1.1 hw1.2.1 hw1.2.2.1 hcap hsm hw1.2.2.2
    rw [hst] at HC
    have HC : Hid _ := HC
    have HEq : Hid _ := HEq
    have hm1 : μ s1 + cntL t.sub ≤ M := by have h := hμ s path t; rw [hst] at h; simp only at h; omega
    have HM : Hid (μ s1 + cntL t.sub ≤ M) := hm1
    have hst : Hid _ := hst
    clear hm1 hcnt hm hq
    clear hl hsm hp hi hw1
    unfold nodeV
    go_enter Tryz.func27, Tryz.ntmps27
    go_wp2_with fail
    refine Calls.mono HC.out ?_
    clear HC
    rintro e w1 ⟨rfl, hiT, hiF, hf1⟩
    have HJ : Hid _ := hiF
    have HT : Hid _ := hiT
    have HF1 : Hid (VFr B Bw W w1) := ((VFr.refl B Bw W).alloc (by omega) _).trans hf1
    have HB1 : Hid (w1.heap[W.heap.size]? = some (.cells #[.int .i64 t.id, .string t.nm, .int .i64 t.rep, .int .i64 t.kind, .slice a t.sub.length c] 24 (0, 0))) := (hf1.rows W.heap.size hbw (by simp) ⟨_, _, heap_alloc_new W _⟩).trans (heap_alloc_new W _)
    clear hiT hiF hf1
    obtain ⟨⟨p0, p1, p2, p3, p4⟩, _⟩ := row_five HB1.out
    cases b1 with
    | false =>
      have HE2 : Hid (wkT st s path t = (false, s1)) := (by show _ = _; simpa using HEq.out)
      go_wp2
      go_ret
      rw [HE2.out]
      exact ⟨rfl, fun h => by simp at h, fun _ => HJ.out (by simp), ⟨HF1.out.below, fun k h1 h2 h3 _ => HF1.out.rows k h1 h2 h3⟩, HP.out.vfr HF1.out⟩
    | true =>
      have HE2 : Hid (wkT st s path t = wkL st s1 (path ++ [t]) t.sub) := (by show _ = _; simpa using HEq.out)
      obtain ⟨ncs, hn1, hn2, hn3, hn4⟩ := HP.out.vfr HF1.out
      have HN4 : Hid _ := hn4
      have HN2 : Hid _ := hn2
      have HN1 : Hid _ := hn1
      have HR : Hid (w1.ownsRow Bw 24 5 (.slice va path.length vc) path.length ncs.flatten) := hn3
      clear hn1 hn2 hn3 hn4
      have hs1 := HF1.out.below.size
      go_wp2_with (at_builtin; refine wpList_append_kept _ rfl _ _ 22 rfl Bw 24 iv (.agg #[.int .i64 0, .string ⟨#[]⟩, .int .i64 0, .int .i64 0, .slice none 0 0]) 5 64 Tryz.underlying22 hvi hv0 hv1 hv2 rfl (by decide) _ path.length ncs.flatten rfl (HR.out.alloc _) ⟨w1.heap.size, 0, none⟩ 1 1 [.int .i64 t.id, .string t.nm, .int .i64 t.rep, .int .i64 t.kind, .slice a t.sub.length c] rfl rfl five_cells (by intro u hu; simp at hu; rcases hu with rfl | rfl | rfl | rfl | rfl <;> rfl) (by unfold maxLen; omega) (by omega) (by simp; omega) (by decide) ?_; intro v2 w2 hown2 hgrow2 hwh2; have HW : Hid (WP B Bw W t a c (.slice va path.length vc) path I s1 w2 v2) := WP.start hBw hI hbw HF1.out HB1.out HR.out HN1.out HN2.out HN4.out (HT.out (by simp)) hcap HL.out (fun k hk => (HP.out.block hk).2.1) hown2 hgrow2 hwh2; clear hown2 hgrow2 hwh2 p0 p1 p2 p3 p4; obtain ⟨a2, c2, e2⟩ := HW.out.row.shape; rw [show (path ++ [t]).length = path.length + 1 by simp] at e2; subst e2; obtain ⟨⟨p0, p1, p2, p3, p4⟩, _⟩ := row_five HW.out.box)
      clear HR HN1 HN2 HN4 HT HF1 HB1
      have hlen2 : (path ++ [t]).length + n ≤ 1100000 := by simp; omega
      have HS : Hid (wkL st s1 (path ++ [t]) (t.sub.take 0) = (true, s1)) := by
        show _ = _
        rw [List.take_zero, wkL]
      go_loopw [21] (fun x wr => ∃ (i : Nat) (s' : S), i ≤ t.sub.length ∧ x = .int .i64 i ∧ Hid (μ s' + cntL (t.sub.drop i) ≤ M) ∧ Hid (wkL st s1 (path ++ [t]) (t.sub.take i) = (true, s')) ∧ Hid (WP B Bw W t a c (.slice va path.length vc) path I s' wr (.slice a2 (path.length + 1) c2))) (fun x _ => t.sub.length - (intOf x).toNat)
      case atStart => exact ⟨0, s1, Nat.zero_le _, rfl, HM, HS, HW⟩
      case round =>
        clear HS HW p0 p1 p2 p3 p4
        obtain ⟨i, s', hik, rfl, HMi, HS, HW⟩ := hrel
        obtain ⟨⟨p0, p1, p2, p3, p4⟩, _⟩ := row_five HW.out.box
        by_cases hlt : i < t.sub.length
        · have HLr : Hid (LiesN wr (fun b => b < B) a t.sub) := HL.out.stay (fun _ h _ => h) (fun b h _ => HW.out.fr.below.block b h)
          obtain ⟨b, o, a1, c1, rfl, d0, d1, d2, d3, d4, hl1, hc1⟩ := HLr.out.at2 i hlt
          have HWA : Hid _ := HW.out.alloc hBw hI hbw (.cells #[.int .i64 t.sub[i].id, .string t.sub[i].nm, .int .i64 t.sub[i].rep, .int .i64 t.sub[i].kind, .slice a1 t.sub[i].sub.length c1] 24)
          obtain ⟨b3, s3, hr3⟩ : ∃ b3 s3, wkT st s' (path ++ [t]) t.sub[i] = (b3, s3) := ⟨_, _, rfl⟩
          have hmi := HMi.out
          rw [cntL_drop t.sub i hlt] at hmi
          have hmr := wkT_more st μ hμ t.sub[i] s' (path ++ [t])
          rw [hr3] at hmr
          simp only at hmr
          have HM3 : Hid (μ s3 + cntL (t.sub.drop (i + 1)) ≤ M) := (by show _ ≤ _; omega)
          have HC := HIH.out i hlt s' (path ++ [t]) a1 c1 (.slice a2 (path.length + 1) c2) _ (HQ.out i hlt) (by omega) hlen2 HWA.out.inv HWA.out.row (hl1.keep ((Below.refl _ _).alloc (Nat.le_refl _) _)) hc1 (by have := HW.out.fr.below.size; simp; omega)
          rw [hr3] at HC
          have HC : Hid _ := HC
          have HS3 : Hid (wkL st s1 (path ++ [t]) (t.sub.take (i + 1)) = (b3, s3)) := (wkL_take st s1 (path ++ [t]) t.sub i hlt s' HS.out).trans hr3
          clear hr3 hl1 hc1 hmi hmr
          go_wp2_with fail
          refine Calls.mono HC.out ?_
          clear HC
          rintro e w3 ⟨rfl, hT, hF, hfr, hpr⟩
          have HF : Hid _ := hF
          have HT : Hid _ := hT
          have HFr : Hid _ := hfr
          have HPr : Hid _ := hpr
          clear hT hF hfr hpr
          cases b3 with
          | true =>
            have HW3 : Hid _ := HWA.out.next hbw HFr.out HPr.out (HT.out (by simp))
            go_wp2
            go_roundw
            case rel => exact ⟨i + 1, s3, by omega, by go_num, HM3, HS3, HW3⟩
            case measure => simp [intOf]; omega
          | false =>
            have HEnd : Hid (wkT st s path t = (false, s3)) := (HE2.out.trans (wkL_stop st s1 (path ++ [t]) t.sub (i + 1) (by rw [HS3.out]))).trans HS3.out
            have HWl : Hid (WP B Bw W t (some ⟨b, o, none⟩) c (.slice va path.length vc) path (fun _ _ => True) s3 w3 (.slice a2 (path.length + 1) c2)) := WP.next (s := s') hbw (HWA.out.weak) HFr.out HPr.out trivial
            go_wp2
            go_ret
            rw [HEnd.out]
            exact ⟨rfl, fun h => by simp at h, fun _ => HF.out (by simp), HWl.out.fr, HWl.out.old⟩
        · obtain rfl : i = t.sub.length := by omega
          go_wp2
          go_ret
          have HS2 := HS.out
          rw [List.take_length] at HS2
          rw [HE2.out, HS2]
          exact ⟨rfl, fun _ => HW.out.inv, fun h => by simp at h, HW.out.fr, HW.out.old⟩
end Go.Proofs.YtbicfjimlpdnkaaGreatDoor

namespace Go.Proofs.YtbicfjimlpdnkaaGreatDoor
open Go.RowKit
def stB (m : Nat) (path : List Tr) (_ : Tr) : Bool × Nat := (decide (m + 1 ≤ 40 ∧ path.length < 6), m + 1)
/-- What the visitor holds: how many there were. -/
def cntI (g : Nat) (m : Nat) (W : World) : Prop := m ≤ 40 ∧ W.heap[g]? = some (.cells #[.int .i64 (m : Nat)] 3 (0, 0))
theorem row_one {w : World} {g e : Nat} {x : Value} (h : w.heap[g]? = some (.cells #[x] e (0, 0))) : w.cell? ⟨g, 0, none⟩ = some x ∧ w.frozen? ⟨g, 0, none⟩ = false := by
  constructor <;> simp [World.cell?, World.frozen?, h]
theorem row_setOne {w : World} {g e : Nat} {x v : Value} (h : w.heap[g]? = some (.cells #[x] e (0, 0))) : (w.setCell ⟨g, 0, none⟩ v).heap[g]? = some (.cells #[v] e (0, 0)) := by
  have := row_setC (j := 0) (v := v) h
  simpa using this
set_option maxRecDepth 100000 in
set_option maxHeartbeats 1600000 in
theorem inB1_any (g B Bw : Nat) (hg : g < Bw) (hB : B ≤ g) (m : Nat) (path : List Tr) (t : Tr) (a : Option Addr) (c : Nat) (v : Value) (W : World) (hi : cntI g m W) (hp : PathR W B Bw v path) (hbw : Bw ≤ W.heap.size) :
    Calls Tryz.prog 65 #[nodeV t a c, v, .pointer (some ⟨g, 0, none⟩)] W fun e w' => e = .returned (.bool (stB m path t).1) ∧ ((stB m path t).1 = true → cntI g (stB m path t).2 w') ∧ ((stB m path t).1 = false → True) ∧ VFr B Bw W w' := by
  obtain ⟨va, vc, rfl⟩ := hp.shape
  obtain ⟨hm, hc⟩ := hi
  obtain ⟨c0, f0⟩ := row_one (blk_alloc (o' := .cells #[.int .i64 t.id, .string t.nm, .int .i64 t.rep, .int .i64 t.kind, .slice a t.sub.length c] 24) hc)
  have HC : Hid _ := hc
  clear hp hc
  have HV : Hid (∀ x, VFr B Bw W ((W.alloc (.cells #[.int .i64 t.id, .string t.nm, .int .i64 t.rep, .int .i64 t.kind, .slice a t.sub.length c] 24)).setCell ⟨g, 0, none⟩ x)) := fun x => ((VFr.refl B Bw W).alloc (by omega) _).setG hB hg x
  have HR : Hid (∀ x, ((W.alloc (.cells #[.int .i64 t.id, .string t.nm, .int .i64 t.rep, .int .i64 t.kind, .slice a t.sub.length c] 24)).setCell ⟨g, 0, none⟩ x).heap[g]? = some (.cells #[x] 3 (0, 0))) := fun x => row_setOne (blk_alloc HC.out)
  by_cases h40 : m + 1 ≤ 40
  · have q : decide ((m : Int) + 1 ≤ 40) = true := by simp; omega
    by_cases h6 : path.length < 6
    · have q2 : decide ((path.length : Int) < 6) = true := by simp; omega
      have HE : Hid (stB m path t = (true, m + 1)) := (by show _ = _; simp [stB, h40, h6])
      go_enter Tryz.func65, Tryz.ntmps65
      go_wp2
      go_ret
      rw [HE.out]
      exact ⟨rfl, fun _ => ⟨h40, by simpa using HR.out _⟩, fun h => by simp at h, HV.out _⟩
    · have q2 : decide ((path.length : Int) < 6) = false := by simp; omega
      have HE : Hid (stB m path t = (false, m + 1)) := (by show _ = _; simp [stB, h6])
      go_enter Tryz.func65, Tryz.ntmps65
      go_wp2
      go_ret
      rw [HE.out]
      exact ⟨rfl, fun h => by simp at h, fun _ => trivial, HV.out _⟩
  · have q : decide ((m : Int) + 1 ≤ 40) = false := by simp; omega
    have HE : Hid (stB m path t = (false, m + 1)) := (by show _ = _; simp [stB]; omega)
    go_enter Tryz.func65, Tryz.ntmps65
    go_wp2
    go_ret
    rw [HE.out]
    exact ⟨rfl, fun h => by simp at h, fun _ => trivial, HV.out _⟩
def inB (t : Tr) : Bool := (wkT stB 0 [] t).1
set_option maxRecDepth 100000 in
set_option maxHeartbeats 1600000 in
theorem inBounds_any (t : Tr) (n : Nat) (hd : t.Dp n) (hn : n ≤ 1100000) (hs : t.Sm) (a : Option Addr) (c : Nat) (P : Nat → Prop) (W : World) (hl : LiesN W P a t.sub) (hcap : t.sub.length ≤ c) :
    Calls Tryz.prog 38 #[nodeV t a c] W fun e w' => e = .returned (.bool (inB t)) ∧ Below W.heap.size W w' := by
  have hb : Below W.heap.size W (((W.alloc (.cells #[.int .i64 t.id, .string t.nm, .int .i64 t.rep, .int .i64 t.kind, .slice a t.sub.length c] 24)).alloc (.cells #[.int .i64 0] 3))) := ((Below.refl _ _).alloc (Nat.le_refl _) _).alloc (by simp) _
  have HC : Hid _ := wkB_any stB (cntI (W.heap.size + 1)) (fun _ _ => True) (fun _ _ => True) (fun _ => 0) t.cnt (W.heap.size + 1) W.heap.size (W.heap.size + 2) (by omega)
    (fun s W' w' r hi hg hr => ⟨hi.1, by
      have hlt := lt_of_block hi.2
      rw [hg.block _ hlt (fun e => by have := (hr _ e.symm).1; omega)]
      exact hi.2⟩)
    (fun _ _ _ _ _ => trivial) (fun _ _ _ => Nat.zero_le _)
    (fun s path t a c v W' _ _ h1 h2 h3 hcap h4 h5 => inB1_any (W.heap.size + 1) W.heap.size (W.heap.size + 2) (by omega) (by omega) s path t a c v W' h1 h2 h5)
    n t hd hs 0 [] a c (.slice none 0 0) ((W.alloc (.cells #[.int .i64 t.id, .string t.nm, .int .i64 t.rep, .int .i64 t.kind, .slice a t.sub.length c] 24)).alloc (.cells #[.int .i64 0] 3)) trivial (by simp) (by simp; omega)
    ⟨by omega, by simpa using heap_alloc_new (W.alloc (.cells #[.int .i64 t.id, .string t.nm, .int .i64 t.rep, .int .i64 t.kind, .slice a t.sub.length c] 24)) (.cells #[.int .i64 0] 3)⟩ (PathR.nil _ _ _) (hl.stay (fun b _ h => h) (fun b _ h => hb.block b h)) hcap (by simp)
  have HB : Hid _ := hb
  clear hl hd hs hb
  go_enter Tryz.func38, Tryz.ntmps38
  go_wp2_with fail
  refine Calls.mono HC.out ?_
  rintro e w1 ⟨rfl, _, _, hf, _⟩
  have HF : Hid _ := hf.below
  clear hf
  go_wp2
  go_ret
  exact ⟨rfl, HB.out.trans HF.out⟩
end Go.Proofs.YtbicfjimlpdnkaaGreatDoor

namespace Go.Proofs.YtbicfjimlpdnkaaGreatDoor
open Go.RowKit
set_option maxRecDepth 100000 in
set_option maxHeartbeats 1600000 in
theorem isRep_any (r : Int) (W : World) : Calls Tryz.prog 67 #[.int .i64 r] W fun e w' => e = .returned (.bool (decide (1 ≤ r ∧ r ≤ 3))) ∧ w' = W := by
  by_cases h1 : (1 : Int) ≤ r
  all_goals
    by_cases h2 : r ≤ (3 : Int)
    all_goals
      go_enter Tryz.func67, Tryz.ntmps67
      go_wp2
      go_ret
      simp [h1, h2]
set_option maxRecDepth 100000 in
set_option maxHeartbeats 1600000 in
theorem isKind_any (r : Int) (W : World) : Calls Tryz.prog 68 #[.int .i64 r] W fun e w' => e = .returned (.bool (decide (0 ≤ r ∧ r ≤ 5))) ∧ w' = W := by
  by_cases h1 : (0 : Int) ≤ r
  all_goals
    by_cases h2 : r ≤ (5 : Int)
    all_goals
      go_enter Tryz.func68, Tryz.ntmps68
      go_wp2
      go_ret
      simp [h1, h2]
def shpOk (t : Tr) : Bool := decide (1 ≤ t.rep ∧ t.rep ≤ 3) && decide (0 ≤ t.kind ∧ t.kind ≤ 5) && (decide (t.kind = 0) == decide (0 < t.sub.length))
def stS (_ : Unit) (_ : List Tr) (t : Tr) : Bool × Unit := (shpOk t, ())
set_option maxRecDepth 100000 in
set_option maxHeartbeats 1600000 in
theorem shp1_any (t : Tr) (a : Option Addr) (c : Nat) (va : Option Addr) (vn vc : Nat) (W : World) :
    Calls Tryz.prog 66 #[nodeV t a c, .slice va vn vc] W fun e w' => e = .returned (.bool (shpOk t)) ∧ Below W.heap.size W w' := by
  have HB : Hid (Below W.heap.size W (W.alloc (.cells #[.int .i64 t.id, .string t.nm, .int .i64 t.rep, .int .i64 t.kind, .slice a t.sub.length c] 24)).drew) := ((Below.refl _ _).alloc (Nat.le_refl _) _).drew
  obtain ⟨br, HR⟩ : ∃ br, Hid (decide (1 ≤ t.rep ∧ t.rep ≤ 3) = br) := ⟨_, rfl⟩
  obtain ⟨bk, HK⟩ : ∃ bk, Hid (decide (0 ≤ t.kind ∧ t.kind ≤ 5) = bk) := ⟨_, rfl⟩
  have HE : Hid (shpOk t = (br && bk && ((t.kind == 0) == decide (0 < t.sub.length)))) := (by
    show _ = _
    rw [shpOk, HR.out, HK.out]
    congr 2)
  go_enter Tryz.func66, Tryz.ntmps66
  go_wp2
  go_region
  go_wp2_with fail
  refine (isRep_any t.rep _).mono ?_
  rintro e w1 ⟨rfl, rfl⟩
  rw [HR.out]
  cases br with
  | false =>
    go_wp2
    go_ret
    exact ⟨by rw [HE.out]; simp, HB.out⟩
  | true =>
    go_wp2_with fail
    refine (isKind_any t.kind _).mono ?_
    rintro e w1 ⟨rfl, rfl⟩
    rw [HK.out]
    cases bk with
    | false =>
      go_wp2
      go_ret
      exact ⟨by rw [HE.out]; simp, HB.out⟩
    | true =>
      go_wp2
      go_ret
      exact ⟨by rw [HE.out]; simp, HB.out⟩
def shpT (t : Tr) : Bool := (wkT stS () [] t).1
set_option maxRecDepth 100000 in
set_option maxHeartbeats 1600000 in
theorem shapes_any (t : Tr) (n : Nat) (hd : t.Dp n) (hn : n ≤ 1100000) (hs : t.Sm) (a : Option Addr) (c : Nat) (P : Nat → Prop) (W : World) (hl : LiesN W P a t.sub) (hcap : t.sub.length ≤ c) :
    Calls Tryz.prog 40 #[nodeV t a c] W fun e w' => e = .returned (.bool (shpT t)) ∧ Below W.heap.size W w' := by
  have hb : Below W.heap.size W (W.alloc (.cells #[.int .i64 t.id, .string t.nm, .int .i64 t.rep, .int .i64 t.kind, .slice a t.sub.length c] 24)) := (Below.refl _ _).alloc (Nat.le_refl _) _
  have HC : Hid _ := wkS_any stS (fun _ _ => True) (fun _ _ => True) (fun _ _ => True) (fun _ => 0) t.cnt W.heap.size (W.heap.size + 1) (by omega) (fun _ _ _ _ _ _ _ => trivial)
    (fun _ _ _ _ _ => trivial) (fun _ _ _ => Nat.zero_le _)
    (fun s path t a c v W' _ _ h1 h2 h3 hcap h4 h5 => by
      obtain ⟨va, vc, rfl⟩ := h2.shape
      exact (shp1_any t a c va path.length vc W').mono fun e w' h => ⟨h.1, fun _ => trivial, fun _ => trivial, VFr.of_below h.2 (by omega)⟩)
    n t hd hs () [] a c (.slice none 0 0) (W.alloc (.cells #[.int .i64 t.id, .string t.nm, .int .i64 t.rep, .int .i64 t.kind, .slice a t.sub.length c] 24)) trivial (by simp) (by simp; omega) trivial (PathR.nil _ _ _) (hl.stay (fun b _ h => h) (fun b _ h => hb.block b h)) hcap (by simp)
  have HB : Hid _ := hb
  clear hl hd hs hb
  go_enter Tryz.func40, Tryz.ntmps40
  go_wp2_with fail
  refine Calls.mono HC.out ?_
  rintro e w1 ⟨rfl, _, _, hf, _⟩
  have HF : Hid _ := hf.below
  clear hf
  go_wp2
  go_ret
  exact ⟨rfl, HB.out.trans HF.out⟩
def isRootB (t : Tr) : Bool := decide (t.id = 0 ∧ t.nm.toList = [114, 111, 111, 116] ∧ t.rep = 1 ∧ t.kind = 0)
set_option maxRecDepth 100000 in
set_option maxHeartbeats 1600000 in
theorem isRoot_vals (id rep kind : Int) (nm : ByteArray) (a : Option Addr) (n c : Nat) (W : World) :
    Calls Tryz.prog 39 #[.agg #[.int .i64 id, .string nm, .int .i64 rep, .int .i64 kind, .slice a n c]] W fun e w' => e = .returned (.bool (decide (id = 0 ∧ nm.toList = [114, 111, 111, 116] ∧ rep = 1 ∧ kind = 0))) ∧ Below W.heap.size W w' := by
  have HB : Hid (Below W.heap.size W (W.alloc (.cells #[.int .i64 id, .string nm, .int .i64 rep, .int .i64 kind, .slice a n c] 24))) := (Below.refl _ _).alloc (Nat.le_refl _) _
  by_cases h1 : id = 0
  · by_cases h2 : nm.toList = [114, 111, 111, 116]
    · by_cases h3 : rep = 1
      · by_cases h4 : kind = 0
        · have HE : Hid (decide (id = 0 ∧ nm.toList = [114, 111, 111, 116] ∧ rep = 1 ∧ kind = 0) = true) := (by show _ = _; simp [h1, h2, h3, h4])
          subst h1 h3 h4
          have h2b : (nm.toList == [114, 111, 111, 116]) = true := by simp [h2]
          go_enter Tryz.func39, Tryz.ntmps39
          go_wp2
          go_ret
          exact ⟨by first | rfl | (rw [HE.out]; rfl), HB.out⟩
        · have HE : Hid (decide (id = 0 ∧ nm.toList = [114, 111, 111, 116] ∧ rep = 1 ∧ kind = 0) = false) := (by show _ = _; simp [h4])
          subst h1 h3
          have h2b : (nm.toList == [114, 111, 111, 116]) = true := by simp [h2]
          have h4b : (kind == 0) = false := by simp [h4]
          go_enter Tryz.func39, Tryz.ntmps39
          go_wp2
          go_ret
          exact ⟨by first | rfl | (rw [HE.out]; rfl), HB.out⟩
      · have HE : Hid (decide (id = 0 ∧ nm.toList = [114, 111, 111, 116] ∧ rep = 1 ∧ kind = 0) = false) := (by show _ = _; simp [h3])
        subst h1
        have h2b : (nm.toList == [114, 111, 111, 116]) = true := by simp [h2]
        have h3b : (rep == 1) = false := by simp [h3]
        go_enter Tryz.func39, Tryz.ntmps39
        go_wp2
        go_ret
        exact ⟨by first | rfl | (rw [HE.out]; rfl), HB.out⟩
    · have HE : Hid (decide (id = 0 ∧ nm.toList = [114, 111, 111, 116] ∧ rep = 1 ∧ kind = 0) = false) := (by show _ = _; simp [h2])
      subst h1
      have h2b : (nm.toList == [114, 111, 111, 116]) = false := by simp [h2]
      go_enter Tryz.func39, Tryz.ntmps39
      go_wp2
      go_ret
      exact ⟨by first | rfl | (rw [HE.out]; rfl), HB.out⟩
  · have HE : Hid (decide (id = 0 ∧ nm.toList = [114, 111, 111, 116] ∧ rep = 1 ∧ kind = 0) = false) := (by show _ = _; simp [h1])
    have h1b : (id == 0) = false := by simp [h1]
    go_enter Tryz.func39, Tryz.ntmps39
    go_wp2
    go_ret
    exact ⟨by first | rfl | (rw [HE.out]; rfl), HB.out⟩
theorem isRoot_any (t : Tr) (a : Option Addr) (c : Nat) (W : World) :
    Calls Tryz.prog 39 #[nodeV t a c] W fun e w' => e = .returned (.bool (isRootB t)) ∧ Below W.heap.size W w' := isRoot_vals t.id t.rep t.kind t.nm a t.sub.length c W
end Go.Proofs.YtbicfjimlpdnkaaGreatDoor

namespace Go.Proofs.YtbicfjimlpdnkaaGreatDoor
open Go.RowKit
/-- The first place in a list at which something is so, or -1. -/
def Idx {α : Type} (p : α → Bool) (l : List α) (r : Int) : Prop := (r = -1 ∧ ∀ j (h : j < l.length), p l[j] = false) ∨ ∃ (i : Nat) (h : i < l.length), r = i ∧ p l[i] = true ∧ ∀ j (h : j < i), p l[j] = false
theorem Idx.any {α : Type} {p : α → Bool} {l : List α} {r : Int} (h : Idx p l r) : decide (0 ≤ r) = l.any p := by
  rcases h with ⟨rfl, h⟩ | ⟨i, hi, rfl, h1, _⟩
  · symm
    simp only [List.any_eq, show ¬ ((0 : Int) ≤ -1) by omega]
    rw [decide_eq_decide]
    constructor
    · rintro ⟨x, hx, hp⟩
      obtain ⟨j, hj, rfl⟩ := List.getElem_of_mem hx
      rw [h j hj] at hp
      cases hp
    · intro h; cases h
  · have : l.any p = true := List.any_eq_true.2 ⟨l[i], List.getElem_mem hi, h1⟩
    rw [this]
    simp
set_option maxRecDepth 100000 in
set_option maxHeartbeats 1600000 in
theorem isSmall_any (b : UInt8) (W : World) : Calls Tryz.prog 95 #[.int .u8 b.toNat] W fun e w' => e = .returned (.bool (decide (97 ≤ b.toNat ∧ b.toNat ≤ 122))) ∧ w' = W := by
  by_cases h1 : 97 ≤ b.toNat
  all_goals
    by_cases h2 : b.toNat ≤ 122
    all_goals
      go_enter Tryz.func95, Tryz.ntmps95
      go_wp2
      all_goals go_ret
      all_goals simp [h1, h2]
      all_goals omega
def smallB (b : UInt8) : Bool := decide (97 ≤ b.toNat ∧ b.toNat ≤ 122)
def nameOk (s : ByteArray) : Bool := decide (1 ≤ s.size ∧ s.size ≤ 12) && s.data.toList.all smallB
set_option maxRecDepth 100000 in
set_option maxHeartbeats 1600000 in
theorem isName_any (s : ByteArray) (W : World) : Calls Tryz.prog 71 #[.string s] W fun e w' => e = .returned (.bool (nameOk s)) ∧ w' = W := by
  by_cases h1 : 1 ≤ s.size
  · by_cases h2 : s.size ≤ 12
    · have q1 : decide ((s.size : Int) < 1) = false := by simp; omega
      have q2 : decide ((12 : Int) < (s.size : Int)) = false := by simp; omega
      have HE : Hid (nameOk s = s.data.toList.all smallB) := (by show _ = _; simp [nameOk, h1, h2])
      have hsz : Hid (s.data.toList.length = s.size) := (by show _ = _; simp)
      go_enter Tryz.func71, Tryz.ntmps71
      go_wp2
      go_loop [14] (fun x => ∃ i : Nat, i ≤ s.size ∧ x = .int .i64 i ∧ Hid (∀ j (h : j < s.data.toList.length), j < i → smallB s.data.toList[j] = true)) (fun x => s.size - (intOf x).toNat)
      case atStart => exact ⟨0, Nat.zero_le _, rfl, fun j _ h => absurd h (Nat.not_lt_zero _)⟩
      case round =>
        obtain ⟨i, hi, rfl, HA⟩ := hrel
        by_cases hlt : i < s.size
        · have hlt' : i < s.data.toList.length := by rw [hsz.out]; exact hlt
          have eb : s[i] = s.data.toList[i] := rfl
          go_wp2_with fail
          refine (isSmall_any s[i] W).mono ?_
          rintro e w1 ⟨rfl, rfl⟩
          cases hb : smallB s.data.toList[i] with
          | true =>
            have hb' : decide (97 ≤ s[i].toNat ∧ s[i].toNat ≤ 122) = true := hb
            rw [hb']
            have HN : Hid (∀ j (h : j < s.data.toList.length), j < i + 1 → smallB s.data.toList[j] = true) := fun j h hj => by
              by_cases e : j = i
              · subst e; exact hb
              · exact HA.out j h (by omega)
            clear hb hb' eb
            go_wp2
            go_round
            case rel => exact ⟨i + 1, by omega, by go_num, HN⟩
            case measure => simp [intOf]; omega
          | false =>
            have hb' : decide (97 ≤ s[i].toNat ∧ s[i].toNat ≤ 122) = false := hb
            rw [hb']
            have HT : Hid (nameOk s = false) := (by
              show _ = _
              rw [HE.out, List.all_eq_false]
              exact ⟨_, List.getElem_mem hlt', by rw [hb]; simp⟩)
            clear hb hb' eb
            go_wp2
            go_ret
            exact ⟨by rw [HT.out]; rfl, rfl⟩
        · obtain rfl : i = s.size := by omega
          have HT : Hid (nameOk s = true) := (by
            show _ = _
            rw [HE.out, List.all_eq_true]
            intro x hx
            obtain ⟨j, hj, rfl⟩ := List.getElem_of_mem hx
            exact HA.out j hj (by rw [← hsz.out]; exact hj))
          go_wp2
          go_ret
          exact ⟨by rw [HT.out]; rfl, rfl⟩
    · have q1 : decide ((s.size : Int) < 1) = false := by simp; omega
      have q2 : decide ((12 : Int) < (s.size : Int)) = true := by simp; omega
      have HE : Hid (nameOk s = false) := (by show _ = _; simp [nameOk, h2])
      go_enter Tryz.func71, Tryz.ntmps71
      go_wp2
      go_ret
      exact ⟨by rw [HE.out]; rfl, rfl⟩
  · have q1 : decide ((s.size : Int) < 1) = true := by simp; omega
    have HE : Hid (nameOk s = false) := (by show _ = _; simp [nameOk, h1])
    go_enter Tryz.func71, Tryz.ntmps71
    go_wp2
    go_ret
    exact ⟨by rw [HE.out]; rfl, rfl⟩
set_option maxRecDepth 100000 in
set_option maxHeartbeats 1600000 in
theorem nmEq_any (nm s : ByteArray) (g : Nat) (y0 y2 y3 : Int) (a : Option Addr) (n c : Nat) (x0 x2 x3 x4 : Value) (W : World) (hg : W.heap[g]? = some (.cells #[x0, .string nm, x2, x3, x4] 24 (0, 0))) :
    Calls Tryz.prog 70 #[.agg #[.int .i64 y0, .string s, .int .i64 y2, .int .i64 y3, .slice a n c], .pointer (some ⟨g, 0, none⟩)] W fun e w' => e = .returned (.bool (s.toList == nm.toList)) ∧ Below W.heap.size W w' := by
  have HB : Hid (Below W.heap.size W (W.alloc (.cells #[.int .i64 y0, .string s, .int .i64 y2, .int .i64 y3, .slice a n c] 24))) := (Below.refl _ _).alloc (Nat.le_refl _) _
  obtain ⟨⟨p0, p1, p2, p3, p4⟩, _⟩ := row_five (blk_alloc (o' := .cells #[.int .i64 y0, .string s, .int .i64 y2, .int .i64 y3, .slice a n c] 24) hg)
  clear hg
  go_enter Tryz.func70, Tryz.ntmps70
  go_wp2
  go_ret
  exact ⟨rfl, HB.out⟩
set_option maxRecDepth 100000 in
set_option maxHeartbeats 1600000 in
/-- slices.IndexFunc over nodes: the first with that name. -/
theorem idxM_any (nm : ByteArray) (g : Nat) (x0 x2 x3 x4 : Value) (P : Nat → Prop) (a : Option Addr) (c : Nat) (ts : List Tr) (hn : ts.length ≤ 1048576) (W : World) (hg : W.heap[g]? = some (.cells #[x0, .string nm, x2, x3, x4] 24 (0, 0))) (hl : LiesN W P a ts) :
    Calls Tryz.prog (50) #[.slice a ts.length c, .func (.func 70) #[] #[.pointer (some ⟨g, 0, none⟩)]] W fun e w' => (∃ r, e = .returned (.int .i64 r) ∧ Idx (fun t => t.nm.toList == nm.toList) ts r) ∧ Below W.heap.size W w' := by
  have HL : Hid (LiesN W P a ts) := hl
  have HG : Hid (W.heap[g]? = some (.cells #[x0, .string nm, x2, x3, x4] 24 (0, 0))) := hg
  clear hl hg
  go_enter Tryz.func50, Tryz.ntmps50
  go_wp2
  go_loopw [8] (fun x wr => ∃ i : Nat, i ≤ ts.length ∧ x = .int .i64 i ∧ Hid (∀ j (h : j < ts.length), j < i → (ts[j].nm.toList == nm.toList) = false) ∧ Below W.heap.size W wr) (fun x _ => ts.length - (intOf x).toNat)
  case atStart => exact ⟨0, Nat.zero_le _, rfl, fun j _ h => absurd h (Nat.not_lt_zero _), Below.refl _ _⟩
  case round =>
    obtain ⟨i, hi, rfl, HA, hb⟩ := hrel
    have HB : Hid _ := hb
    by_cases hlt : i < ts.length
    · obtain ⟨b, o, a1, c1, rfl, d0, d1, d2, d3, d4, hl1⟩ := (HL.out.keep hb).at_ i hlt
      clear hl1
      obtain ⟨⟨p0, p1, p2, p3, p4⟩, _⟩ := row_five (blk_keep hb HG.out)
      have HGr : Hid (wr.heap[g]? = some (.cells #[x0, .string nm, x2, x3, x4] 24 (0, 0))) := blk_keep hb HG.out
      clear p0 p1 p2 p3 p4 hb
      go_wp2_with fail
      refine (nmEq_any nm ts[i].nm g _ _ _ a1 _ c1 x0 x2 x3 x4 wr HGr.out).mono ?_
      rintro e w1 ⟨rfl, hb1⟩
      have HB1 : Hid (Below W.heap.size W w1) := HB.out.trans (hb1.mono HB.out.size)
      clear hb1
      cases hq : (ts[i].nm.toList == nm.toList) with
      | true =>
        have HQ : Hid _ := hq
        clear hq
        go_wp2
        go_ret
        exact ⟨⟨(i : Int), rfl, .inr ⟨i, hlt, rfl, HQ.out, fun j h => HA.out j (by omega) h⟩⟩, HB1.out⟩
      | false =>
        have HN : Hid (∀ j (h : j < ts.length), j < i + 1 → (ts[j].nm.toList == nm.toList) = false) := fun j h hj => by
          by_cases e : j = i
          · subst e; exact hq
          · exact HA.out j h (by omega)
        clear hq
        go_wp2
        go_roundw
        case rel => exact ⟨i + 1, by omega, by go_num, HN, HB1⟩
        case measure => simp [intOf]; omega
    · obtain rfl : i = ts.length := by omega
      go_wp2
      go_ret
      exact ⟨⟨-1, rfl, .inl ⟨rfl, fun j h => HA.out j h h⟩⟩, hb⟩
end Go.Proofs.YtbicfjimlpdnkaaGreatDoor

namespace Go.Proofs.YtbicfjimlpdnkaaGreatDoor
open Go.RowKit
set_option maxRecDepth 100000 in
set_option maxHeartbeats 1600000 in
theorem containsM_any (nm : ByteArray) (g : Nat) (x0 x2 x3 x4 : Value) (P : Nat → Prop) (a : Option Addr) (k c : Nat) (ts : List Tr) (hn : ts.length ≤ 1048576) (hk : k = ts.length) (W : World) (hg : W.heap[g]? = some (.cells #[x0, .string nm, x2, x3, x4] 24 (0, 0))) (hl : LiesN W P a ts) :
    Calls Tryz.prog (72) #[.slice a k c, .func (.func 70) #[] #[.pointer (some ⟨g, 0, none⟩)]] W fun e w' => e = .returned (.bool (ts.any fun t => t.nm.toList == nm.toList)) ∧ Below W.heap.size W w' := by
  subst hk
  have HC : Hid _ := idxM_any nm g x0 x2 x3 x4 P a c ts hn W hg hl
  clear hg hl
  go_enter Tryz.func72, Tryz.ntmps72
  go_wp2_with fail
  refine Calls.mono HC.out ?_
  rintro e w1 ⟨⟨r, rfl, hr⟩, hb⟩
  have HR : Hid _ := hr.any
  have HB : Hid _ := hb
  clear hr hb
  go_wp2
  go_ret
  exact ⟨by rw [← HR.out]; rfl, HB.out⟩
/-- The names of nodes, those ahead of them known. -/
def nmsL (ahead : List Tr) : List Tr → Bool
  | [] => true
  | t :: ts => nameOk t.nm && !(ahead.any fun x => x.nm.toList == t.nm.toList) && nmsL (ahead ++ [t]) ts
theorem nmsL_step (ts : List Tr) (i : Nat) (h : i < ts.length) : nmsL (ts.take i) (ts.drop i) = (nameOk ts[i].nm && !((ts.take i).any fun x => x.nm.toList == ts[i].nm.toList) && nmsL (ts.take (i + 1)) (ts.drop (i + 1))) := by
  rw [List.drop_eq_getElem_cons h, nmsL, List.take_succ_eq_append_getElem h]
def stM (_ : Unit) (_ : List Tr) (t : Tr) : Bool × Unit := (nmsL [] t.sub, ())
set_option maxRecDepth 100000 in
set_option maxHeartbeats 1600000 in
theorem nms1_any (t : Tr) (a : Option Addr) (c : Nat) (va : Option Addr) (vn vc : Nat) (P : Nat → Prop) (W : World) (hs : t.Sm) (hcap : t.sub.length ≤ c) (hl : LiesN W P a t.sub) :
    Calls Tryz.prog 69 #[nodeV t a c, .slice va vn vc] W fun e w' => e = .returned (.bool (nmsL [] t.sub)) ∧ Below W.heap.size W w' := by
  have hsl := hs.len
  have HL : Hid (LiesN W P a t.sub) := hl
  have HB0 : Hid (Below W.heap.size W (W.alloc (.cells #[.int .i64 t.id, .string t.nm, .int .i64 t.rep, .int .i64 t.kind, .slice a t.sub.length c] 24))) := (Below.refl _ _).alloc (Nat.le_refl _) _
  have HX0 : Hid ((W.alloc (.cells #[.int .i64 t.id, .string t.nm, .int .i64 t.rep, .int .i64 t.kind, .slice a t.sub.length c] 24)).heap[W.heap.size]? = some (.cells #[.int .i64 t.id, .string t.nm, .int .i64 t.rep, .int .i64 t.kind, .slice a t.sub.length c] 24 (0, 0))) := heap_alloc_new W _
  clear hl hs
  unfold nodeV
  go_enter Tryz.func69, Tryz.ntmps69
  go_wp2
  go_loopw [11] (fun x wr => ∃ i : Nat, i ≤ t.sub.length ∧ x = .int .i64 i ∧ Hid (nmsL [] t.sub = nmsL (t.sub.take i) (t.sub.drop i)) ∧ Hid (Below W.heap.size W wr) ∧ Hid (wr.heap[W.heap.size]? = some (.cells #[.int .i64 t.id, .string t.nm, .int .i64 t.rep, .int .i64 t.kind, .slice a t.sub.length c] 24 (0, 0)))) (fun x _ => t.sub.length - (intOf x).toNat)
  case atStart => exact ⟨0, Nat.zero_le _, rfl, rfl, HB0, HX0⟩
  case round =>
    obtain ⟨i, hi, rfl, HA, HB, HX⟩ := hrel
    by_cases hlt : i < t.sub.length
    · obtain ⟨b, o, a1, c1, rfl, d0, d1, d2, d3, d4, hl1⟩ := (HL.out.keep HB.out).at_ i hlt
      clear hl1
      obtain ⟨⟨p0, p1, p2, p3, p4⟩, _⟩ := row_five (blk_alloc (o' := .cells #[.int .i64 t.sub[i].id, .string t.sub[i].nm, .int .i64 t.sub[i].rep, .int .i64 t.sub[i].kind, .slice a1 t.sub[i].sub.length c1] 24) HX.out)
      have HS := nmsL_step t.sub i hlt
      obtain ⟨bn, hbn⟩ : ∃ bn, nameOk t.sub[i].nm = bn := ⟨_, rfl⟩
      obtain ⟨ba, hba⟩ : ∃ ba, ((t.sub.take i).any fun x => x.nm.toList == t.sub[i].nm.toList) = ba := ⟨_, rfl⟩
      rw [hbn, hba] at HS
      have HS : Hid _ := HS
      have HBn : Hid _ := hbn
      have HBa : Hid _ := hba
      clear hbn hba
      have HG : Hid ((wr.alloc (.cells #[.int .i64 t.sub[i].id, .string t.sub[i].nm, .int .i64 t.sub[i].rep, .int .i64 t.sub[i].kind, .slice a1 t.sub[i].sub.length c1] 24)).heap[wr.heap.size]? = some (.cells #[.int .i64 t.sub[i].id, .string t.sub[i].nm, .int .i64 t.sub[i].rep, .int .i64 t.sub[i].kind, .slice a1 t.sub[i].sub.length c1] 24 (0, 0))) := heap_alloc_new wr _
      have hb2 : Below wr.heap.size wr (wr.alloc (.cells #[.int .i64 t.sub[i].id, .string t.sub[i].nm, .int .i64 t.sub[i].rep, .int .i64 t.sub[i].kind, .slice a1 t.sub[i].sub.length c1] 24)) := (Below.refl _ _).alloc (Nat.le_refl _) _
      have HB2 : Hid _ := hb2
      have HC : Hid _ := containsM_any t.sub[i].nm wr.heap.size _ _ _ _ P (some ⟨b, o, none⟩) i c (t.sub.take i) (by simp; omega) (by simp; omega) _ HG.out (((HL.out.keep HB.out).keep hb2).take i)
      clear hb2
      go_wp2_with fail
      refine (isName_any _ _).mono ?_
      rintro e w1 ⟨rfl, rfl⟩
      rw [HBn.out]
      cases bn with
      | false =>
        go_wp2
        go_ret
        exact ⟨by rw [HA.out, HS.out]; simp, HB.out.trans (HB2.out.mono HB.out.size)⟩
      | true =>
        go_wp2_with fail
        refine Calls.mono HC.out ?_
        rw [HBa.out]
        rintro e w1 ⟨rfl, hb3⟩
        have HB3 : Hid (Below W.heap.size W w1) := (HB.out.trans (HB2.out.mono HB.out.size)).trans (hb3.mono (by have := HB.out.size; simp; omega))
        have HX3 : Hid (w1.heap[W.heap.size]? = some (.cells #[.int .i64 t.id, .string t.nm, .int .i64 t.rep, .int .i64 t.kind, .slice (some ⟨b, o, none⟩) t.sub.length c] 24 (0, 0))) := blk_keep hb3 (blk_keep HB2.out HX.out)
        clear hb3
        cases ba with
        | true =>
          go_wp2
          go_ret
          exact ⟨by rw [HA.out, HS.out]; simp, HB3.out⟩
        | false =>
          have HN : Hid (nmsL [] t.sub = nmsL (t.sub.take (i + 1)) (t.sub.drop (i + 1))) := (by show _ = _; rw [HA.out, HS.out]; simp)
          go_wp2
          go_roundw
          case rel => exact ⟨i + 1, by omega, by go_num, HN, HB3, HX3⟩
          case measure => simp [intOf]; omega
    · obtain rfl : i = t.sub.length := by omega
      go_wp2
      go_ret
      exact ⟨by rw [HA.out, List.drop_length, nmsL]; rfl, HB.out⟩
def nmsT (t : Tr) : Bool := (wkT stM () [] t).1
set_option maxRecDepth 100000 in
set_option maxHeartbeats 1600000 in
theorem names_any (t : Tr) (n : Nat) (hd : t.Dp n) (hn : n ≤ 1100000) (hs : t.Sm) (a : Option Addr) (c : Nat) (P : Nat → Prop) (W : World) (hl : LiesN W P a t.sub) (hcap : t.sub.length ≤ c) :
    Calls Tryz.prog 41 #[nodeV t a c] W fun e w' => e = .returned (.bool (nmsT t)) ∧ Below W.heap.size W w' := by
  have hb : Below W.heap.size W (W.alloc (.cells #[.int .i64 t.id, .string t.nm, .int .i64 t.rep, .int .i64 t.kind, .slice a t.sub.length c] 24)) := (Below.refl _ _).alloc (Nat.le_refl _) _
  have HC : Hid _ := wkM_any stM (fun _ _ => True) (fun _ _ => True) (fun _ _ => True) (fun _ => 0) t.cnt W.heap.size (W.heap.size + 1) (by omega) (fun _ _ _ _ _ _ _ => trivial)
    (fun _ _ _ _ _ => trivial) (fun _ _ _ => Nat.zero_le _)
    (fun s path t a c v W' _ _ h1 h2 h3 hcap h4 h5 => by
      obtain ⟨va, vc, rfl⟩ := h2.shape
      exact (nms1_any t a c va path.length vc _ W' h4 hcap h3).mono fun e w' h => ⟨h.1, fun _ => trivial, fun _ => trivial, VFr.of_below h.2 (by omega)⟩)
    n t hd hs () [] a c (.slice none 0 0) (W.alloc (.cells #[.int .i64 t.id, .string t.nm, .int .i64 t.rep, .int .i64 t.kind, .slice a t.sub.length c] 24)) trivial (by simp) (by simp; omega) trivial (PathR.nil _ _ _) (hl.stay (fun b _ h => h) (fun b _ h => hb.block b h)) hcap (by simp)
  have HB : Hid _ := hb
  clear hl hd hs hb
  go_enter Tryz.func41, Tryz.ntmps41
  go_wp2_with fail
  refine Calls.mono HC.out ?_
  rintro e w1 ⟨rfl, _, _, hf, _⟩
  have HF : Hid _ := hf.below
  clear hf
  go_wp2
  go_ret
  exact ⟨rfl, HB.out.trans HF.out⟩
end Go.Proofs.YtbicfjimlpdnkaaGreatDoor
