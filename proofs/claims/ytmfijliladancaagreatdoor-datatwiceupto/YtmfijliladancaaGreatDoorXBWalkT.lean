/-
  A walk through a schema, told as lists: what it answers, what it keeps; the words, without the program.
  What a walk's loop keeps; the words, without the program.
-/
import Derived.Test.YtmfijliladancaaGreatDoorXOwnN
import Derived.Test.YtmfijliladancaaGreatDoorXBAppWhere
namespace Go.Proofs.YtmfijliladancaaGreatDoor
open Go.RowKit
mutual
/-- How many nodes. -/
def Tr.cnt : Tr → Nat
  | .node _ _ _ _ sub => 1 + cntL sub
def cntL : List Tr → Nat
  | [] => 0
  | t :: ts => t.cnt + cntL ts
end
theorem Tr.cnt_eq (t : Tr) : t.cnt = 1 + cntL t.sub := by
  cases t with
  | node id nm rep kind sub => rw [Tr.cnt]; rfl
theorem cntL_drop (ts : List Tr) (i : Nat) (h : i < ts.length) : cntL (ts.drop i) = ts[i].cnt + cntL (ts.drop (i + 1)) := by
  rw [List.drop_eq_getElem_cons h, cntL]
section
variable {S : Type} (st : S → List Tr → Tr → Bool × S)
mutual
/-- What a walk answers, and what its visitor holds behind it. -/
def wkT (s : S) (path : List Tr) : Tr → Bool × S
  | .node id nm rep kind sub => if (st s path (.node id nm rep kind sub)).1 = true then wkL (st s path (.node id nm rep kind sub)).2 (path ++ [.node id nm rep kind sub]) sub else st s path (.node id nm rep kind sub)
def wkL (s : S) (path : List Tr) : List Tr → Bool × S
  | [] => (true, s)
  | t :: ts => if (wkT s path t).1 = true then wkL (wkT s path t).2 path ts else wkT s path t
end
theorem wkT_eq (s : S) (path : List Tr) (t : Tr) : wkT st s path t = if (st s path t).1 = true then wkL st (st s path t).2 (path ++ [t]) t.sub else st s path t := by
  cases t with
  | node id nm rep kind sub => rw [wkT]; rfl
mutual
/-- What a step adds at most one to, a walk adds no more to than there are nodes. -/
theorem wkT_more (μ : S → Nat) (h : ∀ s path t, μ (st s path t).2 ≤ μ s + 1) : ∀ (t : Tr) (s : S) (path : List Tr), μ (wkT st s path t).2 ≤ μ s + t.cnt
  | .node id nm rep kind sub, s, path => by
    have h1 := h s path (.node id nm rep kind sub)
    rw [wkT, Tr.cnt]
    split
    · have h2 := wkL_more μ h sub (st s path (.node id nm rep kind sub)).2 (path ++ [.node id nm rep kind sub])
      omega
    · omega
theorem wkL_more (μ : S → Nat) (h : ∀ s path t, μ (st s path t).2 ≤ μ s + 1) : ∀ (ts : List Tr) (s : S) (path : List Tr), μ (wkL st s path ts).2 ≤ μ s + cntL ts
  | [], s, path => by rw [wkL, cntL]; exact Nat.le_refl _
  | t :: ts, s, path => by
    have h1 := wkT_more μ h t s path
    rw [wkL, cntL]
    split
    · have h2 := wkL_more μ h ts (wkT st s path t).2 path
      omega
    · omega
end
theorem wkL_app : ∀ (xs ys : List Tr) (s : S) (path : List Tr), wkL st s path (xs ++ ys) = if (wkL st s path xs).1 = true then wkL st (wkL st s path xs).2 path ys else wkL st s path xs
  | [], ys, s, path => by rw [List.nil_append, wkL]; rfl
  | x :: xs, ys, s, path => by
    rw [List.cons_append, wkL, wkL]
    by_cases h : (wkT st s path x).1 = true
    · rw [if_pos h, if_pos h, wkL_app xs ys]
    · rw [if_neg h, if_neg h, if_neg h]
theorem wkL_take (s : S) (path : List Tr) (ts : List Tr) (i : Nat) (hi : i < ts.length) (s1 : S) (h : wkL st s path (ts.take i) = (true, s1)) : wkL st s path (ts.take (i + 1)) = wkT st s1 path ts[i] := by
  rw [List.take_succ_eq_append_getElem hi, wkL_app, h]
  show (if true = true then _ else _) = _
  rw [if_pos rfl, wkL]
  by_cases h1 : (wkT st s1 path ts[i]).1 = true
  · rw [if_pos h1, wkL, ← h1]
  · rw [if_neg h1]
theorem wkL_stop (s : S) (path : List Tr) (ts : List Tr) (i : Nat) (h : (wkL st s path (ts.take i)).1 = false) : wkL st s path ts = wkL st s path (ts.take i) := by
  have e := wkL_app st (ts.take i) (ts.drop i) s path
  rw [List.take_append_drop, h] at e
  rw [e]
  rfl
end
def IsNB (W : World) (k : Nat) : Prop := ∃ cs z, W.heap[k]? = some (.cells cs 24 z)
/-- The nodes around one lie in a row of the walk's own. -/
def PathR (W : World) (B Bw : Nat) (v : Value) (path : List Tr) : Prop :=
  ∃ ncs : List (List Value), ncs.length = path.length ∧ (∀ x ∈ ncs, x.length = 5) ∧ W.ownsRow Bw 24 5 v path.length ncs.flatten ∧ ∀ j (h : j < path.length) (h' : j < ncs.length), NodeC W (fun b => b < B) path[j] ncs[j]
/-- What a visitor keeps. -/
structure VFr (B Bw : Nat) (W w' : World) : Prop where
  below : Below B W w'
  rows : ∀ k, Bw ≤ k → k < W.heap.size → IsNB W k → w'.heap[k]? = W.heap[k]?
/-- What a walk keeps. -/
structure WFr (B Bw : Nat) (v : Value) (W w' : World) : Prop where
  below : Below B W w'
  rows : ∀ k, Bw ≤ k → k < W.heap.size → IsNB W k → some k ≠ v.ownBlock → w'.heap[k]? = W.heap[k]?
theorem own_same {w w' : World} {base e size n : Nat} {v : Value} {xs : List Value} (h : w.ownsRow base e size v n xs) (hs : ∀ k, v.ownBlock = some k → w'.heap[k]? = w.heap[k]?) : w'.ownsRow base e size v n xs := by
  refine ⟨h.1, ?_⟩
  rcases h.2 with h0 | ⟨g, cap, cur, rfl, hbg, hg, rest⟩
  · exact .inl h0
  · exact .inr ⟨g, cap, cur, rfl, hbg, (hs g rfl).trans hg, rest⟩
theorem own_block {w : World} {base e size n : Nat} {v : Value} {xs : List Value} (h : w.ownsRow base e size v n xs) {k : Nat} (hk : v.ownBlock = some k) : base ≤ k ∧ k < w.heap.size ∧ ∃ cs, w.heap[k]? = some (.cells cs e (0, 0)) := by
  rcases h.2 with ⟨rfl, _⟩ | ⟨g, cap, cur, rfl, hbg, hg, rest⟩
  · simp [Value.ownBlock] at hk
  · simp only [Value.ownBlock, Option.some.injEq] at hk
    subst hk
    exact ⟨hbg, lt_of_block hg, cur, hg⟩
/-- A row's beginning is a row. -/
theorem own_begin {w : World} {base e size n m cap : Nat} {a : Option Addr} {xs ys : List Value} (hx : xs.length = n * size) (h : w.ownsRow base e size (.slice a (n + m) cap) (n + m) (xs ++ ys)) (hn : a ≠ none) : w.ownsRow base e size (.slice a n cap) n xs := by
  refine ⟨hx, ?_⟩
  rcases h.2 with ⟨h0, _⟩ | ⟨g, cap', cur, hv, hbg, hg, hnc, hcm, hcs, ht⟩
  · injection h0 with h0; exact absurd h0 hn
  · injection hv with ha _ hc
    subst ha
    subst hc
    refine .inr ⟨g, cap, cur, rfl, hbg, hg, by omega, hcm, hcs, ?_⟩
    have e : cur.toList.take (n * size) = (cur.toList.take ((n + m) * size)).take (n * size) := by
      rw [List.take_take, Nat.min_eq_left (Nat.mul_le_mul_right _ (by omega))]
    rw [e, ht, List.take_append_of_le_length (by omega), List.take_of_length_le (by omega)]
theorem PathR.nil (W : World) (B Bw : Nat) : PathR W B Bw (.slice none 0 0) [] := ⟨[], rfl, fun x hx => by simp at hx, World.ownsRow_nil _ _ _ _, fun j h => absurd h (by simp)⟩
theorem PathR.shape {W : World} {B Bw : Nat} {v : Value} {path : List Tr} (h : PathR W B Bw v path) : ∃ a c, v = .slice a path.length c := by
  obtain ⟨ncs, _, _, h, _⟩ := h
  rcases h.2 with ⟨rfl, h0⟩ | ⟨g, cap, cur, rfl, _⟩
  · exact ⟨none, 0, by rw [h0]⟩
  · exact ⟨_, cap, rfl⟩
theorem PathR.stay {W w' : World} {B Bw : Nat} {v : Value} {path : List Tr} (h : PathR W B Bw v path) (hb : Below B W w') (hs : ∀ k, v.ownBlock = some k → w'.heap[k]? = W.heap[k]?) : PathR w' B Bw v path := by
  obtain ⟨ncs, h1, h2, h3, h4⟩ := h
  exact ⟨ncs, h1, h2, own_same h3 hs, fun j hj hj' => (h4 j hj hj').stay (fun _ h _ => h) (fun b hb' _ => hb.block b hb')⟩
theorem PathR.block {W : World} {B Bw : Nat} {v : Value} {path : List Tr} (h : PathR W B Bw v path) {k : Nat} (hk : v.ownBlock = some k) : Bw ≤ k ∧ k < W.heap.size ∧ IsNB W k := by
  obtain ⟨ncs, _, _, h, _⟩ := h
  obtain ⟨h1, h2, cs, h3⟩ := own_block h hk
  exact ⟨h1, h2, cs, _, h3⟩
theorem PathR.vfr {W w' : World} {B Bw : Nat} {v : Value} {path : List Tr} (h : PathR W B Bw v path) (hv : VFr B Bw W w') : PathR w' B Bw v path := h.stay hv.below fun k hk => by
  obtain ⟨h1, h2, h3⟩ := h.block hk
  exact hv.rows k h1 h2 h3
theorem VFr.refl (B Bw : Nat) (W : World) : VFr B Bw W W := ⟨Below.refl _ _, fun _ _ _ _ => rfl⟩
theorem VFr.trans {B Bw : Nat} {W w1 w2 : World} (h : VFr B Bw W w1) (h2 : VFr B Bw w1 w2) : VFr B Bw W w2 := ⟨h.below.trans h2.below, fun k h1 h3 h4 => by
  have e := h.rows k h1 h3 h4
  obtain ⟨cs, z, hc⟩ := h4
  rw [h2.rows k h1 (Nat.lt_of_lt_of_le h3 h.below.size) ⟨cs, z, e.trans hc⟩, e]⟩
theorem VFr.of_below {B Bw : Nat} {W w' : World} (hb : Below W.heap.size W w') (hB : B ≤ W.heap.size) : VFr B Bw W w' := ⟨hb.mono hB, fun k _ h _ => hb.block k h⟩
theorem VFr.alloc {B Bw : Nat} {W w' : World} (h : VFr B Bw W w') (hB : B ≤ W.heap.size) (o : Obj) : VFr B Bw W (w'.alloc o) := h.trans (VFr.of_below ((Below.refl _ _).alloc (Nat.le_refl _) _) (Nat.le_trans hB h.below.size))
/-- A cell of the visitor's own is set. -/
theorem VFr.setG {B Bw g : Nat} {W w' : World} (h : VFr B Bw W w') (hB : B ≤ g) (hg : g < Bw) (x : Value) {o : Nat} : VFr B Bw W (w'.setCell ⟨g, o, none⟩ x) :=
  ⟨h.below.setCell hB _, fun k h1 h2 h3 => by rw [Below.heap_setCell _ _ _ _ (show k ≠ g by omega)]; exact h.rows k h1 h2 h3⟩
end Go.Proofs.YtmfijliladancaaGreatDoor

namespace Go.Proofs.YtmfijliladancaaGreatDoor
open Go.RowKit
theorem wk_box {S : Type} {I : S → World → Prop} {B Bw : Nat} (hBw : B ≤ Bw) (hI : ∀ s W w' r, I s W → W.grownBy w' r → (∀ k, r = some k → Bw ≤ k ∧ IsNB W k) → I s w') {s : S} {W : World} {v : Value} {path : List Tr} (t : Tr) (a : Option Addr) (c : Nat) (hi : I s W) (hp : PathR W B Bw v path) (hl : LiesN W (fun b => b < B) a t.sub) (hbw : Bw ≤ W.heap.size) :
    I s (W.alloc (.cells #[.int .i64 t.id, .string t.nm, .int .i64 t.rep, .int .i64 t.kind, .slice a t.sub.length c] 24)) ∧ PathR (W.alloc (.cells #[.int .i64 t.id, .string t.nm, .int .i64 t.rep, .int .i64 t.kind, .slice a t.sub.length c] 24)) B Bw v path ∧ LiesN (W.alloc (.cells #[.int .i64 t.id, .string t.nm, .int .i64 t.rep, .int .i64 t.kind, .slice a t.sub.length c] 24)) (fun b => b < B) a t.sub ∧ Bw ≤ (W.alloc (.cells #[.int .i64 t.id, .string t.nm, .int .i64 t.rep, .int .i64 t.kind, .slice a t.sub.length c] 24)).heap.size := by
  have hg : W.grownBy (W.alloc (.cells #[.int .i64 t.id, .string t.nm, .int .i64 t.rep, .int .i64 t.kind, .slice a t.sub.length c] 24)) none := World.grownBy_alloc _ _ _
  have hb : Below W.heap.size W (W.alloc (.cells #[.int .i64 t.id, .string t.nm, .int .i64 t.rep, .int .i64 t.kind, .slice a t.sub.length c] 24)) := (Below.refl _ _).alloc (Nat.le_refl _) _
  exact ⟨hI _ _ _ none hi hg (fun k hk => by cases hk), hp.vfr (VFr.of_below hb (by omega)), hl.keep hb, by simp; omega⟩
/-- What a walk's loop keeps: the box, the row with the node behind those around it, the row without it, what the visitor holds. -/
structure WP {S : Type} (B Bw : Nat) (W : World) (t : Tr) (a : Option Addr) (c : Nat) (v : Value) (path : List Tr) (I : S → World → Prop) (s : S) (wr : World) (v2 : Value) : Prop where
  box : wr.heap[W.heap.size]? = some (.cells #[.int .i64 t.id, .string t.nm, .int .i64 t.rep, .int .i64 t.kind, .slice a t.sub.length c] 24 (0, 0))
  apart : v2.ownBlock ≠ some W.heap.size
  row : PathR wr B Bw v2 (path ++ [t])
  old : PathR wr B Bw v path
  fr : WFr B Bw v W wr
  inv : I s wr
  vlt : ∀ k, v.ownBlock = some k → k < W.heap.size
  two : (∃ g cap, v = .slice (some ⟨g, 0, none⟩) path.length cap ∧ v2 = .slice (some ⟨g, 0, none⟩) (path.length + 1) cap) ∨ (∀ k, v2.ownBlock = some k → W.heap.size < k)
theorem WP.start {S : Type} {B Bw : Nat} {W : World} {t : Tr} {a : Option Addr} {c : Nat} {v : Value} {path : List Tr} {I : S → World → Prop} {s : S} {w1 w2 : World} {v2 : Value} {ncs : List (List Value)} {ob : Obj} (hBw : B ≤ Bw)
    (hI : ∀ s W w' r, I s W → W.grownBy w' r → (∀ k, r = some k → Bw ≤ k ∧ IsNB W k) → I s w') (hbw : Bw ≤ W.heap.size) (hf : VFr B Bw W w1)
    (hbox : w1.heap[W.heap.size]? = some (.cells #[.int .i64 t.id, .string t.nm, .int .i64 t.rep, .int .i64 t.kind, .slice a t.sub.length c] 24 (0, 0)))
    (hrow : w1.ownsRow Bw 24 5 v path.length ncs.flatten) (hn1 : ncs.length = path.length) (hn2 : ∀ x ∈ ncs, x.length = 5) (hn4 : ∀ j (h : j < path.length) (h' : j < ncs.length), NodeC w1 (fun b => b < B) path[j] ncs[j])
    (hi : I s w1) (hcap : t.sub.length ≤ c) (hl : LiesN W (fun b => b < B) a t.sub) (hvW : ∀ k, v.ownBlock = some k → k < W.heap.size)
    (hown : w2.ownsRow Bw 24 5 v2 (path.length + 1) (ncs.flatten ++ [.int .i64 t.id, .string t.nm, .int .i64 t.rep, .int .i64 t.kind, .slice a t.sub.length c])) (hg : (w1.alloc ob).grownBy w2 v.ownBlock) (hw : Moved (w1.alloc ob) w2 path.length 1 v v2) :
    WP B Bw W t a c v path I s w2 v2 := by
  have hlt := lt_of_block hbox
  have hvb : ∀ k, v.ownBlock = some k → Bw ≤ k ∧ k < w1.heap.size ∧ IsNB w1 k := fun k hk => by
    obtain ⟨h1, h2, cs, h3⟩ := own_block hrow hk
    exact ⟨h1, h2, cs, _, h3⟩
  have hg1 : w1.grownBy w2 v.ownBlock := ⟨hg.os, hg.tape, hg.output, by have := hg.size; simp at this; omega, fun k hk hne => by rw [hg.block k (by simp; omega) hne, heap_alloc_old w1 ob hk]⟩
  have hb2 : Below B w1 w2 := ⟨hg1.os, hg1.tape, hg1.output, hg1.size, fun k hk => by
    by_cases h : k < w1.heap.size
    · exact hg1.block k h (fun e => by have := (hvb k e.symm).1; omega)
    · omega⟩
  have hB1 : B ≤ w1.heap.size := by have := hf.below.size; omega
  have hold : PathR w2 B Bw v path := by
    refine ⟨ncs, hn1, hn2, ?_, fun j hj hj' => (hn4 j hj hj').stay (fun _ h _ => h) (fun b hb' _ => hb2.block b hb')⟩
    rcases hw with ⟨g, cap, rfl, rfl⟩ | ⟨_, hg0⟩
    · exact own_begin hrow.1 hown (by simp)
    · refine own_same hrow fun k hk => ?_
      have h := (hvb k hk).2.1
      rw [hg0.block k (by simp; omega) (by simp), heap_alloc_old w1 ob h]
  refine ⟨?_, ?_, ?_, hold, ⟨hf.below.trans hb2, fun k h1 h2 h3 h4 => ?_⟩, ?_, hvW, ?_⟩
  · rw [hg1.block _ hlt (fun e => by have := hvW _ e.symm; omega)]
    exact hbox
  · rcases hw with ⟨g, cap, rfl, rfl⟩ | ⟨e, _⟩
    · intro e
      have := hvW g rfl
      simp [Value.ownBlock] at e
      omega
    · rw [e]; simp; omega
  · refine ⟨ncs ++ [[.int .i64 t.id, .string t.nm, .int .i64 t.rep, .int .i64 t.kind, .slice a t.sub.length c]], by simp [hn1], fun x hx => ?_, by simpa using hown, fun j hj hj' => ?_⟩
    · rcases List.mem_append.1 hx with hx | hx
      · exact hn2 x hx
      · rw [List.mem_singleton.1 hx]; rfl
    · by_cases h : j < path.length
      · rw [List.getElem_append_left h, List.getElem_append_left (by omega)]
        exact (hn4 j h (by omega)).stay (fun _ h _ => h) (fun b hb' _ => hb2.block b hb')
      · have hj2 : j = path.length := by simp at hj; omega
        subst hj2
        rw [List.getElem_append_right (by omega), List.getElem_append_right (by omega)]
        simp only [hn1, Nat.sub_self, List.getElem_cons_zero]
        exact NodeC.join c hcap (hl.stay (fun _ h _ => h) (fun b hb' _ => (hf.below.trans hb2).block b hb'))
  · have e := hf.rows k h1 h2 h3
    rw [hg1.block k (by have := hf.below.size; omega) h4, e]
  · exact hI _ _ _ _ hi hg1 (fun k hk => ⟨(hvb k hk).1, (hvb k hk).2.2⟩)
  · rcases hw with h | ⟨e, _⟩
    · exact .inl h
    · right
      intro k hk
      rw [e] at hk
      simp at hk
      omega
theorem WP.alloc {S : Type} {B Bw : Nat} {W : World} {t : Tr} {a : Option Addr} {c : Nat} {v : Value} {path : List Tr} {I : S → World → Prop} {s : S} {wr : World} {v2 : Value} (hBw : B ≤ Bw) (hI : ∀ s W w' r, I s W → W.grownBy w' r → (∀ k, r = some k → Bw ≤ k ∧ IsNB W k) → I s w') (hbw : Bw ≤ W.heap.size) (h : WP B Bw W t a c v path I s wr v2) (ob : Obj) : WP B Bw W t a c v path I s (wr.alloc ob) v2 := by
  have hs := h.fr.below.size
  have hb : Below wr.heap.size wr (wr.alloc ob) := (Below.refl _ _).alloc (Nat.le_refl _) _
  have hv : VFr B Bw wr (wr.alloc ob) := VFr.of_below hb (by omega)
  exact ⟨blk_alloc h.box, h.apart, h.row.vfr hv, h.old.vfr hv, ⟨h.fr.below.trans hv.below, fun k h1 h2 h3 h4 => (hb.block k (by omega)).trans (h.fr.rows k h1 h2 h3 h4)⟩, hI _ _ _ none h.inv (World.grownBy_alloc _ _ _) (fun k hk => by cases hk), h.vlt, h.two⟩
theorem WP.weak {S : Type} {B Bw : Nat} {W : World} {t : Tr} {a : Option Addr} {c : Nat} {v : Value} {path : List Tr} {I : S → World → Prop} {s : S} {wr : World} {v2 : Value} (h : WP B Bw W t a c v path I s wr v2) : WP B Bw W t a c v path (fun (_ : S) _ => True) s wr v2 := ⟨h.box, h.apart, h.row, h.old, h.fr, trivial, h.vlt, h.two⟩
/-- .. behind a call for a node in it. -/
theorem WP.next {S : Type} {B Bw : Nat} {W : World} {t : Tr} {a : Option Addr} {c : Nat} {v : Value} {path : List Tr} {I : S → World → Prop} {s s' : S} {wr w2 : World} {v2 : Value} (hbw : Bw ≤ W.heap.size) (h : WP B Bw W t a c v path I s wr v2)
    (hf : WFr B Bw v2 wr w2) (hp : PathR w2 B Bw v2 (path ++ [t])) (hi : I s' w2) : WP B Bw W t a c v path I s' w2 v2 := by
  have hb := hf.below
  refine ⟨?_, h.apart, hp, ?_, ⟨h.fr.below.trans hb, fun k h1 h2 h3 h4 => ?_⟩, hi, h.vlt, h.two⟩
  · rw [hf.rows _ hbw (lt_of_block h.box) ⟨_, _, h.box⟩ (fun e => h.apart e.symm)]
    exact h.box
  · rcases h.two with ⟨g, cap, rfl, rfl⟩ | h2
    · obtain ⟨ncs, hn1, hn2, hn3, hn4⟩ := hp
      obtain ⟨ncs', hm1, hm2, hm3, hm4⟩ := h.old
      refine ⟨ncs.take path.length, by simp [hn1], fun x hx => hn2 x (List.mem_of_mem_take hx), ?_, fun j hj hj' => ?_⟩
      · have hl5 : (ncs.take path.length).flatten.length = path.length * 5 := by
          rw [flat5_len _ (fun x hx => hn2 x (List.mem_of_mem_take hx))]; simp [hn1]
        have e : ncs.flatten = (ncs.take path.length).flatten ++ (ncs.drop path.length).flatten := by rw [← List.flatten_append, List.take_append_drop]
        rw [e] at hn3
        exact own_begin (m := 1) hl5 (by simpa using hn3) (by simp)
      · have := hn4 j (by simp; omega) (by simp at hj'; omega)
        rw [List.getElem_append_left hj] at this
        rw [List.getElem_take]
        exact this
    · refine h.old.stay hb fun k hk => ?_
      obtain ⟨q1, q2, q3⟩ := h.old.block hk
      refine hf.rows k q1 q2 q3 fun e => ?_
      have q4 := h2 k e.symm
      have q5 := h.vlt k hk
      omega
  · have e := h.fr.rows k h1 h2 h3 h4
    obtain ⟨cs, z, hc⟩ := h3
    rw [hf.rows k h1 (Nat.lt_of_lt_of_le h2 h.fr.below.size) ⟨cs, z, e.trans hc⟩ (fun e2 => ?_), e]
    rcases h.two with ⟨g, cap, rfl, rfl⟩ | h5
    · exact h4 e2
    · have := h5 k e2.symm
      omega
end Go.Proofs.YtmfijliladancaaGreatDoor
