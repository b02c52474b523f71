/-
  The reference's keep: a node with those in it that have some of the leaves.
-/
import Derived.Test.YtnfjpngmadoflaaGreatDoorNUdO
import Derived.Test.YtnfjpngmadoflaaGreatDoorNBSBase
import Derived.Test.YtnfjpngmadoflaaGreatDoorNBFindOf
import Derived.Deep.RegionWith
namespace Go.Proofs.YtnfjpngmadoflaaGreatDoor
open Go.RowKit
theorem rkT_id (L : List Int) (t : Tr) : (rkT L t).id = t.id ∧ (rkT L t).nm = t.nm ∧ (rkT L t).rep = t.rep ∧ (rkT L t).kind = t.kind ∧ (rkT L t).sub = rkL L t.sub := by
  cases t with
  | node id nm rep kind sub => rw [rkT]; exact ⟨rfl, rfl, rfl, rfl, rfl⟩
theorem rkL_app (L : List Int) : ∀ (xs ys : List Tr), rkL L (xs ++ ys) = rkL L xs ++ rkL L ys
  | [], ys => by simp [rkL]
  | x :: xs, ys => by
    rw [List.cons_append, rkL, rkL, rkL_app L xs ys]
    split <;> simp
theorem rkL_take (L : List Int) (ts : List Tr) (i : Nat) (h : i < ts.length) : rkL L (ts.take (i + 1)) = rkL L (ts.take i) ++ (if (lfI (ndT ts[i])).any (fun i => L.contains i) = true then [rkT L ts[i]] else []) := by
  rw [List.take_succ_eq_append_getElem h, rkL_app, rkL, rkL]
theorem rkL_len (L : List Int) : ∀ (ts : List Tr), (rkL L ts).length ≤ ts.length
  | [] => by simp [rkL]
  | t :: ts => by
    have := rkL_len L ts
    rw [rkL]
    split <;> simp <;> omega
/-- What keep holds. -/
structure KI (W : World) (t : Tr) (a : Option Addr) (c : Nat) (wr : World) (us : List Tr) (l : Value) (ncs : List (List Value)) : Prop where
  box : wr.heap[W.heap.size]? = some (.cells #[.int .i64 t.id, .string t.nm, .int .i64 t.rep, .int .i64 t.kind, .slice a t.sub.length c] 24 (0, 0))
  res : wr.heap[W.heap.size + 1]? = some (.cells #[.int .i64 0, .string ⟨#[]⟩, .int .i64 0, .int .i64 0, .slice none 0 0] 24 (0, 0))
  out : wr.heap[W.heap.size + 1 + 1]? = some (.cells #[.int .i64 t.id, .string t.nm, .int .i64 t.rep, .int .i64 t.kind, l] 24 (0, 0))
  len : ncs.length = us.length
  five : ∀ x ∈ ncs, x.length = 5
  row : wr.ownsRow (W.heap.size + 3) 24 5 l us.length ncs.flatten
  each : ∀ j (h : j < ncs.length) (h' : j < us.length), NodeC wr (fun b => W.heap.size + 3 ≤ b ∧ l.ownBlock ≠ some b) us[j] ncs[j]
  old : Below W.heap.size W wr
  big : W.heap.size + 3 ≤ wr.heap.size
theorem KI.shape {W : World} {t : Tr} {a : Option Addr} {c : Nat} {wr : World} {us : List Tr} {l : Value} {ncs : List (List Value)} (h : KI W t a c wr us l ncs) : ∃ a' c', l = .slice a' us.length c' ∧ us.length ≤ c' := by
  rcases h.row.2 with ⟨h0, h1⟩ | ⟨g, cap, cur, h0, _, _, hnc, _⟩
  · exact ⟨none, 0, by rw [h0, h1], by omega⟩
  · exact ⟨_, cap, h0, hnc⟩
theorem KI.lies {W : World} {t : Tr} {a : Option Addr} {c : Nat} {wr : World} {us : List Tr} {a' : Option Addr} {c' : Nat} {ncs : List (List Value)} (h : KI W t a c wr us (.slice a' us.length c') ncs) : LiesN wr (fun b => W.heap.size + 3 ≤ b) a' us := by
  refine ⟨fun j => ncs.getD j [], fun j hj => ?_, fun j hj => ?_⟩
  · have hjn : j < ncs.length := by rw [h.len]; exact hj
    have e : ncs.getD j [] = ncs[j] := by simp [List.getD, hjn]
    show NodeAt wr _ a' j (ncs.getD j [])
    rw [e]
    have h5 := h.five ncs[j] (List.getElem_mem hjn)
    rcases h.row.2 with ⟨_, h0⟩ | ⟨g, cap, cur, hv, hbg, _⟩
    · exact absurd hj (by omega)
    · have hv' := hv
      injection hv' with ha _ _
      subst ha
      have hc : ∀ k u, ncs[j][k]? = some u → k < 5 → wr.cell? ⟨g, j * 5 + k, none⟩ = some u := fun k u hu hk => by
        have h1 := h.row.cells (g := g) rfl (j * 5 + k) u (by rw [flat5 ncs h.five j k hk, List.getElem?_eq_getElem hjn]; exact hu)
        rw [addr_plus, Nat.zero_add] at h1
        exact h1
      generalize ncs[j] = cs at *
      match cs, h5 with
      | [x0, x1, x2, x3, x4], _ =>
        have c0 := hc 0 x0 rfl (by omega)
        have c1 := hc 1 x1 rfl (by omega)
        have c2 := hc 2 x2 rfl (by omega)
        have c3 := hc 3 x3 rfl (by omega)
        have c4 := hc 4 x4 rfl (by omega)
        exact ⟨g, 0, x0, x1, x2, x3, x4, rfl, by omega, rfl, by simpa using c0, by simpa using c1, by simpa using c2, by simpa using c3, by simpa using c4⟩
  · have hjn : j < ncs.length := by rw [h.len]; exact hj
    have e : ncs.getD j [] = ncs[j] := by simp [List.getD, hjn]
    show NodeC wr _ us[j] (ncs.getD j [])
    rw [e]
    exact (h.each j hjn hj).stay (fun b hP _ => hP.1) (fun _ _ _ => rfl)
theorem KI.keep {W : World} {t : Tr} {a : Option Addr} {c : Nat} {wr w1 : World} {us : List Tr} {l : Value} {ncs : List (List Value)} (h : KI W t a c wr us l ncs) (hb : Below wr.heap.size wr w1) : KI W t a c w1 us l ncs :=
  ⟨blk_keep hb h.box, blk_keep hb h.res, blk_keep hb h.out, h.len, h.five, ow_kept h.row hb, fun j hj hj' => (h.each j hj hj').stay (fun _ h _ => h) (fun b _ hl => hb.block b hl), h.old.trans (hb.mono h.old.size), Nat.le_trans h.big hb.size⟩
theorem KI.apart {W : World} {t : Tr} {a : Option Addr} {c : Nat} {wr : World} {us : List Tr} {l : Value} {ncs : List (List Value)} (h : KI W t a c wr us l ncs) {k : Nat} (hk : k < W.heap.size + 3) : some k ≠ l.ownBlock := by
  rcases h.row.2 with ⟨rfl, _⟩ | ⟨g, cap, cur, rfl, hg, _⟩
  · simp [Value.ownBlock]
  · simp [Value.ownBlock]; omega
theorem KI.three {W : World} {t : Tr} {a : Option Addr} {c : Nat} {wr w1 w2 : World} {us : List Tr} {l : Value} {ncs : List (List Value)} (h : KI W t a c wr us l ncs) (hb : Below wr.heap.size wr w1) {ob : Obj} (hg : (w1.alloc ob).grownBy w2 l.ownBlock) {k : Nat} (hk : k < W.heap.size + 3) : w2.heap[k]? = wr.heap[k]? := by
  have h1 : k < wr.heap.size := Nat.lt_of_lt_of_le hk h.big
  have h2 : k < w1.heap.size := Nat.lt_of_lt_of_le h1 hb.size
  rw [hg.block k (by simp; omega) (h.apart hk), heap_alloc_old w1 ob h2, hb.block k h1]
/-- A copy is put behind the others. -/
theorem KI.push {W : World} {t : Tr} {a : Option Addr} {c : Nat} {wr w1 w2 : World} {us : List Tr} {u : Tr} {l l' : Value} {ncs : List (List Value)} {a1 : Option Addr} {c1 : Nat} (h : KI W t a c wr us l ncs) (hb : Below wr.heap.size wr w1) (hc1 : u.sub.length ≤ c1) (hn : LiesN w1 (fun b => wr.heap.size ≤ b) a1 u.sub) {ob : Obj}
    (hown : w2.ownsRow (W.heap.size + 3) 24 5 l' (us.length + 1) (ncs.flatten ++ [.int .i64 u.id, .string u.nm, .int .i64 u.rep, .int .i64 u.kind, .slice a1 u.sub.length c1])) (hg : (w1.alloc ob).grownBy w2 l.ownBlock) (hw : l'.ownBlock = l.ownBlock ∧ l.ownBlock ≠ none ∨ l'.ownBlock = some (w1.alloc ob).heap.size) :
    KI W t a c (w2.setCell ⟨W.heap.size + 1 + 1, 4, none⟩ l') (us ++ [u]) l' (ncs ++ [[.int .i64 u.id, .string u.nm, .int .i64 u.rep, .int .i64 u.kind, .slice a1 u.sub.length c1]]) := by
  have hbig := h.big
  have hbs := hb.size
  have hgs := hg.size
  simp only [World.size_alloc] at hgs
  have hlb : ∀ k, l.ownBlock = some k → k < wr.heap.size := fun k hk => (h.row.lt k hk).2
  have hset : ∀ k, k ≠ W.heap.size + 1 + 1 → (w2.setCell ⟨W.heap.size + 1 + 1, 4, none⟩ l').heap[k]? = w2.heap[k]? := fun k hk => Below.heap_setCell _ _ _ _ hk
  have b1 : Below W.heap.size W w2 := ((h.old.trans (hb.mono h.old.size)).alloc (h.old.trans (hb.mono h.old.size)).size ob).grown hg (by have := h.old.size; simp; omega) (fun k hk => by have := (h.row.lt k hk).1; omega)
  refine ⟨?_, ?_, ?_, by rw [List.length_append, List.length_append, h.len]; rfl, fun x hx => ?_, ?_, fun j hj hj' => ?_, ?_, ?_⟩
  · rw [hset _ (by omega), h.three hb hg (by omega)]; exact h.box
  · rw [hset _ (by omega), h.three hb hg (by omega)]; exact h.res
  · rw [row_setC ((h.three hb hg (by omega)).trans h.out)]
    rfl
  · rcases List.mem_append.1 hx with hx | hx
    · exact h.five x hx
    · rw [List.mem_singleton.1 hx]; rfl
  · rw [List.flatten_append, List.length_append]
    have hown2 : w2.ownsRow (W.heap.size + 3) 24 5 l' (us.length + 1) (ncs.flatten ++ [[.int .i64 u.id, .string u.nm, .int .i64 u.rep, .int .i64 u.kind, .slice a1 u.sub.length c1]].flatten) := by simpa using hown
    refine ⟨hown2.1, ?_⟩
    rcases hown2.2 with hn0 | ⟨g, cap, cur, h1, hbg, hgg, rest⟩
    · exact .inl hn0
    · exact .inr ⟨g, cap, cur, h1, hbg, (hset g (by omega)).trans hgg, rest⟩
  · by_cases hjl : j < ncs.length
    · rw [List.getElem_append_left hjl, List.getElem_append_left (by rw [← h.len]; exact hjl)]
      refine (h.each j hjl (by rw [← h.len]; exact hjl)).stay (fun b hP hlt => ⟨hP.1, ?_⟩) (fun b hP hlt => ?_)
      · rw [hset b (by omega), hg.block b (by simp; omega) (fun e => hP.2 e.symm), heap_alloc_old w1 ob (show b < w1.heap.size by omega), hb.block b hlt]
      · rcases hw with ⟨e, _⟩ | e
        · rw [e]; exact hP.2
        · rw [e]; simp; omega
    · have hje : j = ncs.length := by rw [List.length_append] at hj; simp at hj; omega
      have hju : j = us.length := by rw [hje, h.len]
      have ee : (ncs ++ [[.int .i64 u.id, .string u.nm, .int .i64 u.rep, .int .i64 u.kind, .slice a1 u.sub.length c1]])[j] = [.int .i64 u.id, .string u.nm, .int .i64 u.rep, .int .i64 u.kind, .slice a1 u.sub.length c1] := by
        rw [List.getElem_append_right (by omega)]
        simp
      have eu : (us ++ [u])[j] = u := by
        rw [List.getElem_append_right (by omega)]
        simp
      rw [ee, eu]
      refine NodeC.join c1 hc1 (hn.stay (fun b hP hlt => ⟨by omega, ?_⟩) (fun b hP hlt => ?_))
      · rcases hw with ⟨e, hne⟩ | e
        · rw [e]
          intro e2
          have := hlb b e2
          omega
        · rw [e]; simp; omega
      · rw [hset b (by omega), hg.block b (by simp; omega) (fun e => by have := hlb b e.symm; omega), heap_alloc_old w1 ob hlt]
  · exact ⟨b1.os, b1.tape, b1.output, by simp only [World.size_setCell]; exact b1.size, fun k hk => (hset k (by omega)).trans (b1.block k hk)⟩
  · simp only [World.size_setCell]; omega
theorem any_take1 (f : Int → Bool) (l : List Int) (k : Nat) (h : k < l.length) : (l.take (k + 1)).any f = ((l.take k).any f || f l[k]) := by
  rw [List.take_succ_eq_append_getElem h, List.any_append]
  simp
end Go.Proofs.YtnfjpngmadoflaaGreatDoor
