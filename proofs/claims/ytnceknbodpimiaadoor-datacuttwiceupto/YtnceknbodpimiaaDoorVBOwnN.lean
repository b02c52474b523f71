/-
  The reference's OwnNode: a copy of a schema, with lists of its own.
  A walk through a schema, told as lists: what it answers, what it keeps; the words, without the program.
  What a walk's loop keeps; the words, without the program.
  The walk through a schema, with one visitor: it answers what the list's walk answers, if the visitor does.
  The walk through a schema, with one visitor: it answers what the list's walk answers, if the visitor does.
-/
import Derived.Test.YtnceknbodpimiaaDoorVBOpenNode
import Derived.Test.YtnceknbodpimiaaDoorVBAppWhere
import Derived.RegionTactic
import Derived.Deep.QuietTactic
import Derived.BigQuiet
import Derived.Deep.RegionWith
namespace Go.Proofs.YtnceknbodpimiaaDoor
open Go.RowKit
theorem Tryd.infoN : (Tryd.prog.info? 24).map (fun i => (i.zero, i.size, i.bytes)) = some (some (.agg #[.int .i64 0, .string ⟨#[]⟩, .int .i64 0, .int .i64 0, .slice none 0 0]), 5, 64) := by kernel_rfl
/-- A node as a value. -/
abbrev nodeV (t : Tr) (a : Option Addr) (c : Nat) : Value := .agg #[.int .i64 t.id, .string t.nm, .int .i64 t.rep, .int .i64 t.kind, .slice a t.sub.length c]
theorem Tr.sub_size (t : Tr) (j : Nat) (hj : j < t.sub.length) : SizeOf.sizeOf t.sub[j] < SizeOf.sizeOf t := by
  cases t with
  | node id nm rep kind sub =>
    have h := List.sizeOf_lt_of_mem (List.getElem_mem (l := sub) (n := j) hj)
    show SizeOf.sizeOf sub[j] < _
    simp only [Tr.node.sizeOf_spec]
    omega
theorem flat5 : ∀ (ls : List (List Value)), (∀ l ∈ ls, l.length = 5) → ∀ j k, k < 5 → ls.flatten[j * 5 + k]? = (ls[j]?).bind fun l => l[k]?
  | [], _, j, k, _ => by simp
  | l :: ls, h, j, k, hk => by
    have hl : l.length = 5 := h l (by simp)
    have ih := flat5 ls (fun x hx => h x (by simp [hx]))
    rw [List.flatten_cons]
    cases j with
    | zero => rw [List.getElem?_append_left (by omega)]; simp
    | succ j =>
      rw [List.getElem?_append_right (by omega), show (j + 1) * 5 + k - l.length = j * 5 + k by omega, ih j k hk]
      simp
theorem flat5_len : ∀ (ls : List (List Value)), (∀ l ∈ ls, l.length = 5) → ls.flatten.length = ls.length * 5
  | [], _ => rfl
  | l :: ls, h => by
    have hl : l.length = 5 := h l (by simp)
    rw [List.flatten_cons, List.length_append, hl, flat5_len ls (fun x hx => h x (by simp [hx])), List.length_cons]
    omega
/-- What OwnNode's loop keeps. -/
structure OI (W : World) (t : Tr) (a : Option Addr) (c : Nat) (wr : World) (i : Nat) (l : Value) (ncs : List (List Value)) : Prop where
  box : wr.heap[W.heap.size]? = some (.cells #[.int .i64 t.id, .string t.nm, .int .i64 t.rep, .int .i64 t.kind, .slice a t.sub.length c] 24 (0, 0))
  res : wr.heap[W.heap.size + 1]? = some (.cells #[.int .i64 0, .string ⟨#[]⟩, .int .i64 0, .int .i64 0, .slice none 0 0] 24 (0, 0))
  out : wr.heap[W.heap.size + 1 + 1]? = some (.cells #[.int .i64 t.id, .string t.nm, .int .i64 t.rep, .int .i64 t.kind, l] 24 (0, 0))
  len : ncs.length = i
  five : ∀ x ∈ ncs, x.length = 5
  row : wr.ownsRow (W.heap.size + 3) 24 5 l i ncs.flatten
  each : ∀ j (h : j < ncs.length) (h' : j < t.sub.length), NodeC wr (fun b => W.heap.size + 3 ≤ b ∧ l.ownBlock ≠ some b) t.sub[j] ncs[j]
  old : Below W.heap.size W wr
  big : W.heap.size + 3 ≤ wr.heap.size
theorem row_five {w : World} {g e : Nat} {x0 x1 x2 x3 x4 : Value} (h : w.heap[g]? = some (.cells #[x0, x1, x2, x3, x4] e (0, 0))) :
    (w.cell? ⟨g, 0, none⟩ = some x0 ∧ w.cell? ⟨g, 1, none⟩ = some x1 ∧ w.cell? ⟨g, 2, none⟩ = some x2 ∧ w.cell? ⟨g, 3, none⟩ = some x3 ∧ w.cell? ⟨g, 4, none⟩ = some x4) ∧ w.frozen? ⟨g, 0, none⟩ = false ∧ w.frozen? ⟨g, 1, none⟩ = false ∧ w.frozen? ⟨g, 2, none⟩ = false ∧ w.frozen? ⟨g, 3, none⟩ = false ∧ w.frozen? ⟨g, 4, none⟩ = false :=
  ⟨⟨cell_of_row w g 0 _ e _ h, cell_of_row w g 1 _ e _ h, cell_of_row w g 2 _ e _ h, cell_of_row w g 3 _ e _ h, cell_of_row w g 4 _ e _ h⟩, frozen_of_row w g 0 _ e h, frozen_of_row w g 1 _ e h, frozen_of_row w g 2 _ e h, frozen_of_row w g 3 _ e h, frozen_of_row w g 4 _ e h⟩
theorem row_setC {w : World} {g j : Nat} {cs : Array Value} {t : TypeId} (h : w.heap[g]? = some (.cells cs t (0, 0))) {v : Value} : (w.setCell ⟨g, j, none⟩ v).heap[g]? = some (.cells (cs.setIfInBounds j v) t (0, 0)) := by
  simp [World.setCell, Array.getElem?_modify, h]
theorem own_shape {w : World} {B e size n : Nat} {v : Value} {xs : List Value} (h : w.ownsRow B e size v (n + 1) xs) : ∃ g cap, v = .slice (some ⟨g, 0, none⟩) (n + 1) cap := by
  rcases h.2 with ⟨_, h0⟩ | ⟨g, cap, cur, rfl, _⟩
  · exact absurd h0 (by omega)
  · exact ⟨g, cap, rfl⟩
theorem five_cells {w : World} {x0 x1 x2 x3 x4 : Value} {T : TypeId} : ∀ j u, [x0, x1, x2, x3, x4][j]? = some u → (w.alloc (.cells #[x0, x1, x2, x3, x4] T)).cell? ((⟨w.heap.size, 0, none⟩ : Addr).add j) = some u := fun j u h => by
  rw [addr_plus, Nat.zero_add]
  refine cell_alloc_at ?_ rfl
  simpa using h
theorem NodeC.five {W : World} {P : Nat → Prop} {t : Tr} {cs : List Value} (h : NodeC W P t cs) : cs.length = 5 := by
  obtain ⟨a, c, rfl, _⟩ := h.split
  rfl
theorem OI.start (W : World) (t : Tr) (a : Option Addr) (c : Nat) : OI W t a c (((W.alloc (.cells #[.int .i64 t.id, .string t.nm, .int .i64 t.rep, .int .i64 t.kind, .slice a t.sub.length c] 24)).alloc (.cells #[.int .i64 0, .string ⟨#[]⟩, .int .i64 0, .int .i64 0, .slice none 0 0] 24)).alloc (.cells #[.int .i64 t.id, .string t.nm, .int .i64 t.rep, .int .i64 t.kind, .slice none 0 0] 24)) 0 (.slice none 0 0) [] := by
  refine ⟨?_, ?_, ?_, rfl, fun x hx => by simp at hx, World.ownsRow_nil _ _ _ _, fun j h => absurd h (by simp), ?_, by simp⟩
  · exact blk_alloc (blk_alloc (heap_alloc_new W _))
  · have h := heap_alloc_new (W.alloc (.cells #[.int .i64 t.id, .string t.nm, .int .i64 t.rep, .int .i64 t.kind, .slice a t.sub.length c] 24)) (.cells #[.int .i64 0, .string ⟨#[]⟩, .int .i64 0, .int .i64 0, .slice none 0 0] 24)
    rw [show (W.alloc (.cells #[.int .i64 t.id, .string t.nm, .int .i64 t.rep, .int .i64 t.kind, .slice a t.sub.length c] 24)).heap.size = W.heap.size + 1 by simp] at h
    exact blk_alloc h
  · have h := heap_alloc_new ((W.alloc (.cells #[.int .i64 t.id, .string t.nm, .int .i64 t.rep, .int .i64 t.kind, .slice a t.sub.length c] 24)).alloc (.cells #[.int .i64 0, .string ⟨#[]⟩, .int .i64 0, .int .i64 0, .slice none 0 0] 24)) (.cells #[.int .i64 t.id, .string t.nm, .int .i64 t.rep, .int .i64 t.kind, .slice none 0 0] 24)
    rw [show ((W.alloc (.cells #[.int .i64 t.id, .string t.nm, .int .i64 t.rep, .int .i64 t.kind, .slice a t.sub.length c] 24)).alloc (.cells #[.int .i64 0, .string ⟨#[]⟩, .int .i64 0, .int .i64 0, .slice none 0 0] 24)).heap.size = W.heap.size + 1 + 1 by simp] at h
    exact h
  · exact (((Below.refl _ _).alloc (Nat.le_refl _) _).alloc (by simp) _).alloc (by simp; omega) _
theorem OI.shape {W : World} {t : Tr} {a : Option Addr} {c : Nat} {wr : World} {i : Nat} {l : Value} {ncs : List (List Value)} (h : OI W t a c wr i l ncs) : ∃ a' c', l = .slice a' i c' ∧ i ≤ c' := by
  rcases h.row.2 with ⟨rfl, rfl⟩ | ⟨g, cap, cur, rfl, _, _, hnc, _⟩
  · exact ⟨none, 0, rfl, Nat.le_refl _⟩
  · exact ⟨_, cap, rfl, hnc⟩
/-- The copies lie in the row. -/
theorem OI.liesX {W : World} {t : Tr} {a : Option Addr} {c : Nat} {wr : World} {a' : Option Addr} {c' : Nat} {ncs : List (List Value)} (h : OI W t a c wr t.sub.length (.slice a' t.sub.length c') ncs) : LiesN wr (fun b => W.heap.size ≤ b ∧ b ≠ W.heap.size + 1) a' t.sub := by
  refine ⟨fun j => ncs.getD j [], fun j hj => ?_, fun j hj => ?_⟩
  · have hjn : j < ncs.length := by rw [h.len]; exact hj
    have e : ncs.getD j [] = ncs[j] := by simp [List.getD, hjn]
    show NodeAt wr _ a' j (ncs.getD j [])
    rw [e]
    have h5 := h.five ncs[j] (List.getElem_mem hjn)
    rcases h.row.2 with ⟨_, h0⟩ | ⟨g, cap, cur, hv, hbg, _⟩
    · exact absurd hj (by omega)
    · have hv' := hv
      injection hv' with ha _ _
      subst ha
      have hc : ∀ k u, ncs[j][k]? = some u → k < 5 → wr.cell? ⟨g, j * 5 + k, none⟩ = some u := fun k u hu hk => by
        have h1 := h.row.cells (g := g) rfl (j * 5 + k) u (by rw [flat5 ncs h.five j k hk, List.getElem?_eq_getElem hjn]; exact hu)
        rw [addr_plus, Nat.zero_add] at h1
        exact h1
      generalize ncs[j] = cs at *
      match cs, h5 with
      | [x0, x1, x2, x3, x4], _ =>
        have c0 := hc 0 x0 rfl (by omega)
        have c1 := hc 1 x1 rfl (by omega)
        have c2 := hc 2 x2 rfl (by omega)
        have c3 := hc 3 x3 rfl (by omega)
        have c4 := hc 4 x4 rfl (by omega)
        exact ⟨g, 0, x0, x1, x2, x3, x4, rfl, by omega, rfl, by simpa using c0, by simpa using c1, by simpa using c2, by simpa using c3, by simpa using c4⟩
  · have hjn : j < ncs.length := by rw [h.len]; exact hj
    have e : ncs.getD j [] = ncs[j] := by simp [List.getD, hjn]
    show NodeC wr _ t.sub[j] (ncs.getD j [])
    rw [e]
    exact (h.each j hjn hj).stay (fun b hP _ => by omega) (fun _ _ _ => rfl)
theorem OI.apart {W : World} {t : Tr} {a : Option Addr} {c : Nat} {wr : World} {i : Nat} {l : Value} {ncs : List (List Value)} (h : OI W t a c wr i l ncs) {k : Nat} (hk : k < W.heap.size + 3) : some k ≠ l.ownBlock := by
  rcases h.row.2 with ⟨rfl, _⟩ | ⟨g, cap, cur, rfl, hg, _⟩
  · simp [Value.ownBlock]
  · simp [Value.ownBlock]; omega
/-- What stands below the row behind a copy's append. -/
theorem OI.three {W : World} {t : Tr} {a : Option Addr} {c : Nat} {wr w1 w2 : World} {i : Nat} {l : Value} {ncs : List (List Value)} (h : OI W t a c wr i l ncs) (hb : Below wr.heap.size wr w1) {ob : Obj} (hg : (w1.alloc ob).grownBy w2 l.ownBlock) {k : Nat} (hk : k < W.heap.size + 3) : w2.heap[k]? = wr.heap[k]? := by
  have h1 : k < wr.heap.size := Nat.lt_of_lt_of_le hk h.big
  have h2 : k < w1.heap.size := Nat.lt_of_lt_of_le h1 hb.size
  rw [hg.block k (by simp; omega) (h.apart hk), heap_alloc_old w1 ob h2, hb.block k h1]
/-- A copy is put behind the others. -/
theorem OI.push {W : World} {t : Tr} {a : Option Addr} {c : Nat} {wr w1 w2 : World} {i : Nat} {l l' : Value} {ncs : List (List Value)} {a1 : Option Addr} {c1 : Nat} (h : OI W t a c wr i l ncs) (hi : i < t.sub.length) (hb : Below wr.heap.size wr w1) (hc1 : t.sub[i].sub.length ≤ c1) (hn : LiesN w1 (fun b => wr.heap.size ≤ b) a1 t.sub[i].sub) {ob : Obj}
    (hown : w2.ownsRow (W.heap.size + 3) 24 5 l' (i + 1) (ncs.flatten ++ [.int .i64 t.sub[i].id, .string t.sub[i].nm, .int .i64 t.sub[i].rep, .int .i64 t.sub[i].kind, .slice a1 t.sub[i].sub.length c1])) (hg : (w1.alloc ob).grownBy w2 l.ownBlock) (hw : l'.ownBlock = l.ownBlock ∧ l.ownBlock ≠ none ∨ l'.ownBlock = some (w1.alloc ob).heap.size) :
    OI W t a c (w2.setCell ⟨W.heap.size + 1 + 1, 4, none⟩ l') (i + 1) l' (ncs ++ [[.int .i64 t.sub[i].id, .string t.sub[i].nm, .int .i64 t.sub[i].rep, .int .i64 t.sub[i].kind, .slice a1 t.sub[i].sub.length c1]]) := by
  have e0 : w2.heap[W.heap.size]? = wr.heap[W.heap.size]? := h.three hb hg (by omega)
  have e1 : w2.heap[W.heap.size + 1]? = wr.heap[W.heap.size + 1]? := h.three hb hg (by omega)
  have e2 : w2.heap[W.heap.size + 1 + 1]? = wr.heap[W.heap.size + 1 + 1]? := h.three hb hg (by omega)
  have hset : ∀ k, k ≠ W.heap.size + 1 + 1 → (w2.setCell ⟨W.heap.size + 1 + 1, 4, none⟩ l').heap[k]? = w2.heap[k]? := fun k hk => Below.heap_setCell _ _ _ _ hk
  have hbig := h.big
  have hbs := hb.size
  have hgs := hg.size
  simp only [World.size_alloc] at hgs
  have hlb : ∀ k, l.ownBlock = some k → k < wr.heap.size := fun k hk => (h.row.lt k hk).2
  have b1 : Below W.heap.size W w2 := ((h.old.trans (hb.mono h.old.size)).alloc (h.old.trans (hb.mono h.old.size)).size ob).grown hg (by have := h.old.size; simp; omega) (fun k hk => by have := (h.row.lt k hk).1; omega)
  refine ⟨?_, ?_, ?_, by rw [List.length_append, h.len]; rfl, fun x hx => ?_, ?_, fun j hj hj' => ?_, ?_, ?_⟩
  · rw [hset _ (by omega), e0]; exact h.box
  · rw [hset _ (by omega), e1]; exact h.res
  · rw [row_setC (e2.trans h.out)]
    rfl
  · rcases List.mem_append.1 hx with hx | hx
    · exact h.five x hx
    · rw [List.mem_singleton.1 hx]; rfl
  · rw [List.flatten_append]
    simp only [List.flatten_cons, List.flatten_nil, List.append_nil]
    refine ⟨hown.1, ?_⟩
    rcases hown.2 with hn0 | ⟨g, cap, cur, rfl, hbg, hgg, rest⟩
    · exact .inl hn0
    · exact .inr ⟨g, cap, cur, rfl, hbg, (hset g (by omega)).trans hgg, rest⟩
  · by_cases hjl : j < ncs.length
    · rw [List.getElem_append_left hjl]
      have hQ : ∀ b, (W.heap.size + 3 ≤ b ∧ l.ownBlock ≠ some b) → b < wr.heap.size → (W.heap.size + 3 ≤ b ∧ l'.ownBlock ≠ some b) := fun b hP hlt => by
        refine ⟨hP.1, ?_⟩
        rcases hw with ⟨e, _⟩ | e
        · rw [e]; exact hP.2
        · rw [e]; simp; omega
      have hS : ∀ b, (W.heap.size + 3 ≤ b ∧ l.ownBlock ≠ some b) → b < wr.heap.size → (w2.setCell ⟨W.heap.size + 1 + 1, 4, none⟩ l').heap[b]? = wr.heap[b]? := fun b hP hlt => by
        rw [hset b (by omega), hg.block b (by simp; omega) (fun e => hP.2 e.symm), heap_alloc_old w1 ob (show b < w1.heap.size by omega), hb.block b hlt]
      exact (h.each j hjl hj').stay hQ hS
    · have hje : j = ncs.length := by rw [List.length_append] at hj; simp at hj; omega
      have hji : j = i := by rw [hje, h.len]
      subst hji
      have ee : (ncs ++ [[.int .i64 t.sub[j].id, .string t.sub[j].nm, .int .i64 t.sub[j].rep, .int .i64 t.sub[j].kind, .slice a1 t.sub[j].sub.length c1]])[j] = [.int .i64 t.sub[j].id, .string t.sub[j].nm, .int .i64 t.sub[j].rep, .int .i64 t.sub[j].kind, .slice a1 t.sub[j].sub.length c1] := by
        rw [List.getElem_append_right (by omega)]
        simp
      rw [ee]
      have hQ : ∀ b, wr.heap.size ≤ b → b < w1.heap.size → (W.heap.size + 3 ≤ b ∧ l'.ownBlock ≠ some b) := fun b hP hlt => by
        refine ⟨by omega, ?_⟩
        rcases hw with ⟨e, hne⟩ | e
        · rw [e]
          intro e2
          have := hlb b e2
          omega
        · rw [e]; simp; omega
      have hS : ∀ b, wr.heap.size ≤ b → b < w1.heap.size → (w2.setCell ⟨W.heap.size + 1 + 1, 4, none⟩ l').heap[b]? = w1.heap[b]? := fun b hP hlt => by
        rw [hset b (by omega), hg.block b (by simp; omega) (fun e => by have := hlb b e.symm; omega), heap_alloc_old w1 ob hlt]
      exact NodeC.join c1 hc1 (hn.stay hQ hS)
  · exact ⟨b1.os, b1.tape, b1.output, by simp only [World.size_setCell]; exact b1.size, fun k hk => (hset k (by omega)).trans (b1.block k hk)⟩
  · simp only [World.size_setCell]; omega
set_option maxRecDepth 100000 in
set_option maxHeartbeats 1600000 in
theorem ownNode_any : ∀ (n : Nat) (t : Tr), SizeOf.sizeOf t < n → t.Sm → ∀ (P : Nat → Prop) (a : Option Addr) (c : Nat) (W : World), LiesN W P a t.sub →
    Calls Tryd.prog 8 #[nodeV t a c] W fun e w' => (∃ a' c', e = .returned (nodeV t a' c') ∧ LiesN w' (fun b => W.heap.size ≤ b) a' t.sub ∧ t.sub.length ≤ c') ∧ Below W.heap.size W w'
  | 0, t, h => absurd h (Nat.not_lt_zero _)
  | n + 1, t, hsz => fun hsm P a c W hl => by
    obtain ⟨iv, hvi, hv0, hv1, hv2⟩ := info_parts Tryd.infoN
    have HL : Hid (LiesN W P a t.sub) := hl
    have hlen := hsm.len
    have HSm : Hid t.Sm := hsm
    have HIH : Hid (∀ j (hj : j < t.sub.length) (P : Nat → Prop) (a : Option Addr) (c : Nat) (W : World), LiesN W P a t.sub[j].sub → Calls Tryd.prog 8 #[nodeV t.sub[j] a c] W fun e w' => (∃ a' c', e = .returned (nodeV t.sub[j] a' c') ∧ LiesN w' (fun b => W.heap.size ≤ b) a' t.sub[j].sub ∧ t.sub[j].sub.length ≤ c') ∧ Below W.heap.size W w') := fun j hj P a c W hl => ownNode_any n t.sub[j] (by have := t.sub_size j hj; omega) (hsm.at_ j hj) P a c W hl
    clear hl hsm hsz
    unfold nodeV
    go_enter Tryd.func8, Tryd.ntmps8
    go_wp2_with fail
    have HS : Hid _ := OI.start W t a c
    go_loopw [4] (fun x wr => ∃ (i : Nat) (l : Value) (ncs : List (List Value)), i ≤ t.sub.length ∧ x = .int .i64 i ∧ Hid (OI W t a c wr i l ncs)) (fun x _ => t.sub.length - (intOf x).toNat)
    case atStart => exact ⟨0, _, [], Nat.zero_le _, rfl, HS⟩
    case round =>
      clear HS
      obtain ⟨i, l, ncs, hik, rfl, HO⟩ := hrel
      obtain ⟨⟨p0, p1, p2, p3, p4⟩, _⟩ := row_five HO.out.box
      obtain ⟨⟨r0, r1, r2, r3, r4⟩, f0, f1, f2, f3, f4⟩ := row_five HO.out.out
      have hbig := HO.out.big
      have hb := HO.out.old
      by_cases hlt : i < t.sub.length
      · obtain ⟨b, o, a1, c1, rfl, d0, d1, d2, d3, d4, hl1⟩ := (HL.out.keep hb).at_ i hlt
        have HC : Hid _ := HIH.out i hlt P a1 c1 wr.drew (hl1.stay (fun _ h _ => h) (fun _ _ _ => rfl))
        clear hl1
        have HRow : Hid (wr.ownsRow (W.heap.size + 3) 24 5 l i ncs.flatten) := HO.out.row
        have HP : Hid (∀ (w1 w3 : World) (ob : Obj), Below wr.heap.size wr w1 → (w1.alloc ob).grownBy w3 l.ownBlock → w3.heap[W.heap.size + 1 + 1]? = some (.cells #[.int .i64 t.id, .string t.nm, .int .i64 t.rep, .int .i64 t.kind, l] 24 (0, 0))) := fun w1 w3 ob h1 h2 => (HO.out.three h1 h2 (by omega)).trans HO.out.out
        go_wp2_with fail
        go_region_law (first
          | (refine step_own_where _ rfl _ _ 22 rfl (W.heap.size + 3) 24 iv (.agg #[.int .i64 0, .string ⟨#[]⟩, .int .i64 0, .int .i64 0, .slice none 0 0]) 5 64 Tryd.underlying22 hvi hv0 hv1 hv2 rfl (by decide) _ i ncs.flatten rfl ((ow_kept HRow.out hb1).alloc _) ⟨w1.heap.size, 0, none⟩ 1 1 [.int .i64 t.sub[i].id, .string t.sub[i].nm, .int .i64 t.sub[i].rep, .int .i64 t.sub[i].kind, .slice a2 t.sub[i].sub.length c2] rfl rfl five_cells (by intro u hu; simp at hu; rcases hu with rfl | rfl | rfl | rfl | rfl <;> rfl) (by unfold maxLen; omega) (by omega) (by have := hb1.size; simp; omega) (by decide) ?_; intro l' w3 hown3 hgrow3 hwh; obtain ⟨g3, cap3, rfl⟩ := own_shape hown3; obtain ⟨⟨_, _, _, _, y4⟩, _, _, _, _, z4⟩ := row_five (HP.out _ _ _ hb1 hgrow3); have HOn : Hid _ := HO.out.push hlt hb1 hc2 HL2.out hown3 hgrow3 hwh)
          | (go_simp; refine Calls.mono HC.out ?_; rintro e w1 ⟨⟨a2, c2, rfl, hl2, hc2⟩, hb2⟩; have HL2 : Hid _ := hl2; clear hl2; have hb1 : Below wr.heap.size wr w1 := (Below.refl _ _).drew.trans hb2; have r4' := (hb1.cell (World.block_lt_of_cell? wr _ r4)).trans r4; have hs1 : W.heap.size + 1 + 1 < w1.heap.size := (by have := hb1.size; omega); have r5' : ∀ ob : Obj, (w1.alloc ob).cell? ⟨W.heap.size + 1 + 1, 4, none⟩ = some l := fun ob => (((Below.refl w1.heap.size w1).alloc (Nat.le_refl _) ob).cell hs1).trans r4'))
        all_goals
          go_wp2
          go_roundw
          case rel => exact ⟨i + 1, _, _, by omega, by go_num, HOn⟩
          case measure => simp [intOf]; omega
      · obtain rfl : i = t.sub.length := by omega
        obtain ⟨⟨s0, s1, s2, s3, s4⟩, t0, t1, t2, t3, t4⟩ := row_five HO.out.res
        obtain ⟨a', c', rfl, hcc⟩ := HO.out.shape
        have HLs : Hid (LiesN wr (fun b => W.heap.size ≤ b ∧ b ≠ W.heap.size + 1) a' t.sub) := HO.out.liesX
        have hrow := row_setC (j := 4) (v := .slice a' t.sub.length c') (row_setC (j := 3) (v := .int .i64 t.kind) (row_setC (j := 2) (v := .int .i64 t.rep) (row_setC (j := 1) (v := .string t.nm) (row_setC (j := 0) (v := .int .i64 t.id) HO.out.res))))
        have HRw : Hid _ := hrow
        clear hrow
        go_wp2
        refine bodyPost_ret (v := nodeV t a' c') (results_cell_row Tryd.results8 _ _ (W.heap.size + 1) 24 #[.int .i64 t.id, .string t.nm, .int .i64 t.rep, .int .i64 t.kind, .slice a' t.sub.length c'] (0, 0) _ rfl HRw.out Tryd.underlying24 rfl (by kernel_rfl)) rfl ⟨⟨a', c', rfl, ?_, hcc⟩, ?_⟩
        · exact HLs.out.stay (fun b h _ => h.1) (fun b h _ => by
            rw [Below.heap_setCell _ _ _ _ h.2, Below.heap_setCell _ _ _ _ h.2, Below.heap_setCell _ _ _ _ h.2, Below.heap_setCell _ _ _ _ h.2, Below.heap_setCell _ _ _ _ h.2])
        · exact ((((hb.setCell (by simp) _).setCell (by simp) _).setCell (by simp) _).setCell (by simp) _).setCell (by simp) _
end Go.Proofs.YtnceknbodpimiaaDoor

namespace Go.Proofs.YtnceknbodpimiaaDoor
open Go.RowKit
mutual
/-- How many nodes. -/
def Tr.cnt : Tr → Nat
  | .node _ _ _ _ sub => 1 + cntL sub
def cntL : List Tr → Nat
  | [] => 0
  | t :: ts => t.cnt + cntL ts
end
theorem Tr.cnt_eq (t : Tr) : t.cnt = 1 + cntL t.sub := by
  cases t with
  | node id nm rep kind sub => rw [Tr.cnt]; rfl
theorem cntL_drop (ts : List Tr) (i : Nat) (h : i < ts.length) : cntL (ts.drop i) = ts[i].cnt + cntL (ts.drop (i + 1)) := by
  rw [List.drop_eq_getElem_cons h, cntL]
section
variable {S : Type} (st : S → List Tr → Tr → Bool × S)
mutual
/-- What a walk answers, and what its visitor holds behind it. -/
def wkT (s : S) (path : List Tr) : Tr → Bool × S
  | .node id nm rep kind sub => if (st s path (.node id nm rep kind sub)).1 = true then wkL (st s path (.node id nm rep kind sub)).2 (path ++ [.node id nm rep kind sub]) sub else st s path (.node id nm rep kind sub)
def wkL (s : S) (path : List Tr) : List Tr → Bool × S
  | [] => (true, s)
  | t :: ts => if (wkT s path t).1 = true then wkL (wkT s path t).2 path ts else wkT s path t
end
theorem wkT_eq (s : S) (path : List Tr) (t : Tr) : wkT st s path t = if (st s path t).1 = true then wkL st (st s path t).2 (path ++ [t]) t.sub else st s path t := by
  cases t with
  | node id nm rep kind sub => rw [wkT]; rfl
mutual
/-- What a step adds at most one to, a walk adds no more to than there are nodes. -/
theorem wkT_more (μ : S → Nat) (h : ∀ s path t, μ (st s path t).2 ≤ μ s + 1) : ∀ (t : Tr) (s : S) (path : List Tr), μ (wkT st s path t).2 ≤ μ s + t.cnt
  | .node id nm rep kind sub, s, path => by
    have h1 := h s path (.node id nm rep kind sub)
    rw [wkT, Tr.cnt]
    split
    · have h2 := wkL_more μ h sub (st s path (.node id nm rep kind sub)).2 (path ++ [.node id nm rep kind sub])
      omega
    · omega
theorem wkL_more (μ : S → Nat) (h : ∀ s path t, μ (st s path t).2 ≤ μ s + 1) : ∀ (ts : List Tr) (s : S) (path : List Tr), μ (wkL st s path ts).2 ≤ μ s + cntL ts
  | [], s, path => by rw [wkL, cntL]; exact Nat.le_refl _
  | t :: ts, s, path => by
    have h1 := wkT_more μ h t s path
    rw [wkL, cntL]
    split
    · have h2 := wkL_more μ h ts (wkT st s path t).2 path
      omega
    · omega
end
theorem wkL_app : ∀ (xs ys : List Tr) (s : S) (path : List Tr), wkL st s path (xs ++ ys) = if (wkL st s path xs).1 = true then wkL st (wkL st s path xs).2 path ys else wkL st s path xs
  | [], ys, s, path => by rw [List.nil_append, wkL]; rfl
  | x :: xs, ys, s, path => by
    rw [List.cons_append, wkL, wkL]
    by_cases h : (wkT st s path x).1 = true
    · rw [if_pos h, if_pos h, wkL_app xs ys]
    · rw [if_neg h, if_neg h, if_neg h]
theorem wkL_take (s : S) (path : List Tr) (ts : List Tr) (i : Nat) (hi : i < ts.length) (s1 : S) (h : wkL st s path (ts.take i) = (true, s1)) : wkL st s path (ts.take (i + 1)) = wkT st s1 path ts[i] := by
  rw [List.take_succ_eq_append_getElem hi, wkL_app, h]
  show (if true = true then _ else _) = _
  rw [if_pos rfl, wkL]
  by_cases h1 : (wkT st s1 path ts[i]).1 = true
  · rw [if_pos h1, wkL, ← h1]
  · rw [if_neg h1]
theorem wkL_stop (s : S) (path : List Tr) (ts : List Tr) (i : Nat) (h : (wkL st s path (ts.take i)).1 = false) : wkL st s path ts = wkL st s path (ts.take i) := by
  have e := wkL_app st (ts.take i) (ts.drop i) s path
  rw [List.take_append_drop, h] at e
  rw [e]
  rfl
end
def IsNB (W : World) (k : Nat) : Prop := ∃ cs z, W.heap[k]? = some (.cells cs 24 z)
/-- The nodes around one lie in a row of the walk's own. -/
def PathR (W : World) (B Bw : Nat) (v : Value) (path : List Tr) : Prop :=
  ∃ ncs : List (List Value), ncs.length = path.length ∧ (∀ x ∈ ncs, x.length = 5) ∧ W.ownsRow Bw 24 5 v path.length ncs.flatten ∧ ∀ j (h : j < path.length) (h' : j < ncs.length), NodeC W (fun b => b < B) path[j] ncs[j]
/-- What a visitor keeps. -/
structure VFr (B Bw : Nat) (W w' : World) : Prop where
  below : Below B W w'
  rows : ∀ k, Bw ≤ k → k < W.heap.size → IsNB W k → w'.heap[k]? = W.heap[k]?
/-- What a walk keeps. -/
structure WFr (B Bw : Nat) (v : Value) (W w' : World) : Prop where
  below : Below B W w'
  rows : ∀ k, Bw ≤ k → k < W.heap.size → IsNB W k → some k ≠ v.ownBlock → w'.heap[k]? = W.heap[k]?
theorem own_same {w w' : World} {base e size n : Nat} {v : Value} {xs : List Value} (h : w.ownsRow base e size v n xs) (hs : ∀ k, v.ownBlock = some k → w'.heap[k]? = w.heap[k]?) : w'.ownsRow base e size v n xs := by
  refine ⟨h.1, ?_⟩
  rcases h.2 with h0 | ⟨g, cap, cur, rfl, hbg, hg, rest⟩
  · exact .inl h0
  · exact .inr ⟨g, cap, cur, rfl, hbg, (hs g rfl).trans hg, rest⟩
theorem own_block {w : World} {base e size n : Nat} {v : Value} {xs : List Value} (h : w.ownsRow base e size v n xs) {k : Nat} (hk : v.ownBlock = some k) : base ≤ k ∧ k < w.heap.size ∧ ∃ cs, w.heap[k]? = some (.cells cs e (0, 0)) := by
  rcases h.2 with ⟨rfl, _⟩ | ⟨g, cap, cur, rfl, hbg, hg, rest⟩
  · simp [Value.ownBlock] at hk
  · simp only [Value.ownBlock, Option.some.injEq] at hk
    subst hk
    exact ⟨hbg, lt_of_block hg, cur, hg⟩
/-- A row's beginning is a row. -/
theorem own_begin {w : World} {base e size n m cap : Nat} {a : Option Addr} {xs ys : List Value} (hx : xs.length = n * size) (h : w.ownsRow base e size (.slice a (n + m) cap) (n + m) (xs ++ ys)) (hn : a ≠ none) : w.ownsRow base e size (.slice a n cap) n xs := by
  refine ⟨hx, ?_⟩
  rcases h.2 with ⟨h0, _⟩ | ⟨g, cap', cur, hv, hbg, hg, hnc, hcm, hcs, ht⟩
  · injection h0 with h0; exact absurd h0 hn
  · injection hv with ha _ hc
    subst ha
    subst hc
    refine .inr ⟨g, cap, cur, rfl, hbg, hg, by omega, hcm, hcs, ?_⟩
    have e : cur.toList.take (n * size) = (cur.toList.take ((n + m) * size)).take (n * size) := by
      rw [List.take_take, Nat.min_eq_left (Nat.mul_le_mul_right _ (by omega))]
    rw [e, ht, List.take_append_of_le_length (by omega), List.take_of_length_le (by omega)]
theorem PathR.nil (W : World) (B Bw : Nat) : PathR W B Bw (.slice none 0 0) [] := ⟨[], rfl, fun x hx => by simp at hx, World.ownsRow_nil _ _ _ _, fun j h => absurd h (by simp)⟩
theorem PathR.shape {W : World} {B Bw : Nat} {v : Value} {path : List Tr} (h : PathR W B Bw v path) : ∃ a c, v = .slice a path.length c := by
  obtain ⟨ncs, _, _, h, _⟩ := h
  rcases h.2 with ⟨rfl, h0⟩ | ⟨g, cap, cur, rfl, _⟩
  · exact ⟨none, 0, by rw [h0]⟩
  · exact ⟨_, cap, rfl⟩
theorem PathR.stay {W w' : World} {B Bw : Nat} {v : Value} {path : List Tr} (h : PathR W B Bw v path) (hb : Below B W w') (hs : ∀ k, v.ownBlock = some k → w'.heap[k]? = W.heap[k]?) : PathR w' B Bw v path := by
  obtain ⟨ncs, h1, h2, h3, h4⟩ := h
  exact ⟨ncs, h1, h2, own_same h3 hs, fun j hj hj' => (h4 j hj hj').stay (fun _ h _ => h) (fun b hb' _ => hb.block b hb')⟩
theorem PathR.block {W : World} {B Bw : Nat} {v : Value} {path : List Tr} (h : PathR W B Bw v path) {k : Nat} (hk : v.ownBlock = some k) : Bw ≤ k ∧ k < W.heap.size ∧ IsNB W k := by
  obtain ⟨ncs, _, _, h, _⟩ := h
  obtain ⟨h1, h2, cs, h3⟩ := own_block h hk
  exact ⟨h1, h2, cs, _, h3⟩
theorem PathR.vfr {W w' : World} {B Bw : Nat} {v : Value} {path : List Tr} (h : PathR W B Bw v path) (hv : VFr B Bw W w') : PathR w' B Bw v path := h.stay hv.below fun k hk => by
  obtain ⟨h1, h2, h3⟩ := h.block hk
  exact hv.rows k h1 h2 h3
theorem VFr.refl (B Bw : Nat) (W : World) : VFr B Bw W W := ⟨Below.refl _ _, fun _ _ _ _ => rfl⟩
theorem VFr.trans {B Bw : Nat} {W w1 w2 : World} (h : VFr B Bw W w1) (h2 : VFr B Bw w1 w2) : VFr B Bw W w2 := ⟨h.below.trans h2.below, fun k h1 h3 h4 => by
  have e := h.rows k h1 h3 h4
  obtain ⟨cs, z, hc⟩ := h4
  rw [h2.rows k h1 (Nat.lt_of_lt_of_le h3 h.below.size) ⟨cs, z, e.trans hc⟩, e]⟩
theorem VFr.of_below {B Bw : Nat} {W w' : World} (hb : Below W.heap.size W w') (hB : B ≤ W.heap.size) : VFr B Bw W w' := ⟨hb.mono hB, fun k _ h _ => hb.block k h⟩
theorem VFr.alloc {B Bw : Nat} {W w' : World} (h : VFr B Bw W w') (hB : B ≤ W.heap.size) (o : Obj) : VFr B Bw W (w'.alloc o) := h.trans (VFr.of_below ((Below.refl _ _).alloc (Nat.le_refl _) _) (Nat.le_trans hB h.below.size))
/-- A cell of the visitor's own is set. -/
theorem VFr.setG {B Bw g : Nat} {W w' : World} (h : VFr B Bw W w') (hB : B ≤ g) (hg : g < Bw) (x : Value) {o : Nat} : VFr B Bw W (w'.setCell ⟨g, o, none⟩ x) :=
  ⟨h.below.setCell hB _, fun k h1 h2 h3 => by rw [Below.heap_setCell _ _ _ _ (show k ≠ g by omega)]; exact h.rows k h1 h2 h3⟩
end Go.Proofs.YtnceknbodpimiaaDoor

namespace Go.Proofs.YtnceknbodpimiaaDoor
open Go.RowKit
theorem wk_box {S : Type} {I : S → World → Prop} {B Bw : Nat} (hBw : B ≤ Bw) (hI : ∀ s W w' r, I s W → W.grownBy w' r → (∀ k, r = some k → Bw ≤ k ∧ IsNB W k) → I s w') {s : S} {W : World} {v : Value} {path : List Tr} (t : Tr) (a : Option Addr) (c : Nat) (hi : I s W) (hp : PathR W B Bw v path) (hl : LiesN W (fun b => b < B) a t.sub) (hbw : Bw ≤ W.heap.size) :
    I s (W.alloc (.cells #[.int .i64 t.id, .string t.nm, .int .i64 t.rep, .int .i64 t.kind, .slice a t.sub.length c] 24)) ∧ PathR (W.alloc (.cells #[.int .i64 t.id, .string t.nm, .int .i64 t.rep, .int .i64 t.kind, .slice a t.sub.length c] 24)) B Bw v path ∧ LiesN (W.alloc (.cells #[.int .i64 t.id, .string t.nm, .int .i64 t.rep, .int .i64 t.kind, .slice a t.sub.length c] 24)) (fun b => b < B) a t.sub ∧ Bw ≤ (W.alloc (.cells #[.int .i64 t.id, .string t.nm, .int .i64 t.rep, .int .i64 t.kind, .slice a t.sub.length c] 24)).heap.size := by
  have hg : W.grownBy (W.alloc (.cells #[.int .i64 t.id, .string t.nm, .int .i64 t.rep, .int .i64 t.kind, .slice a t.sub.length c] 24)) none := World.grownBy_alloc _ _ _
  have hb : Below W.heap.size W (W.alloc (.cells #[.int .i64 t.id, .string t.nm, .int .i64 t.rep, .int .i64 t.kind, .slice a t.sub.length c] 24)) := (Below.refl _ _).alloc (Nat.le_refl _) _
  exact ⟨hI _ _ _ none hi hg (fun k hk => by cases hk), hp.vfr (VFr.of_below hb (by omega)), hl.keep hb, by simp; omega⟩
/-- What a walk's loop keeps: the box, the row with the node behind those around it, the row without it, what the visitor holds. -/
structure WP {S : Type} (B Bw : Nat) (W : World) (t : Tr) (a : Option Addr) (c : Nat) (v : Value) (path : List Tr) (I : S → World → Prop) (s : S) (wr : World) (v2 : Value) : Prop where
  box : wr.heap[W.heap.size]? = some (.cells #[.int .i64 t.id, .string t.nm, .int .i64 t.rep, .int .i64 t.kind, .slice a t.sub.length c] 24 (0, 0))
  apart : v2.ownBlock ≠ some W.heap.size
  row : PathR wr B Bw v2 (path ++ [t])
  old : PathR wr B Bw v path
  fr : WFr B Bw v W wr
  inv : I s wr
  vlt : ∀ k, v.ownBlock = some k → k < W.heap.size
  two : (∃ g cap, v = .slice (some ⟨g, 0, none⟩) path.length cap ∧ v2 = .slice (some ⟨g, 0, none⟩) (path.length + 1) cap) ∨ (∀ k, v2.ownBlock = some k → W.heap.size < k)
theorem WP.start {S : Type} {B Bw : Nat} {W : World} {t : Tr} {a : Option Addr} {c : Nat} {v : Value} {path : List Tr} {I : S → World → Prop} {s : S} {w1 w2 : World} {v2 : Value} {ncs : List (List Value)} {ob : Obj} (hBw : B ≤ Bw)
    (hI : ∀ s W w' r, I s W → W.grownBy w' r → (∀ k, r = some k → Bw ≤ k ∧ IsNB W k) → I s w') (hbw : Bw ≤ W.heap.size) (hf : VFr B Bw W w1)
    (hbox : w1.heap[W.heap.size]? = some (.cells #[.int .i64 t.id, .string t.nm, .int .i64 t.rep, .int .i64 t.kind, .slice a t.sub.length c] 24 (0, 0)))
    (hrow : w1.ownsRow Bw 24 5 v path.length ncs.flatten) (hn1 : ncs.length = path.length) (hn2 : ∀ x ∈ ncs, x.length = 5) (hn4 : ∀ j (h : j < path.length) (h' : j < ncs.length), NodeC w1 (fun b => b < B) path[j] ncs[j])
    (hi : I s w1) (hcap : t.sub.length ≤ c) (hl : LiesN W (fun b => b < B) a t.sub) (hvW : ∀ k, v.ownBlock = some k → k < W.heap.size)
    (hown : w2.ownsRow Bw 24 5 v2 (path.length + 1) (ncs.flatten ++ [.int .i64 t.id, .string t.nm, .int .i64 t.rep, .int .i64 t.kind, .slice a t.sub.length c])) (hg : (w1.alloc ob).grownBy w2 v.ownBlock) (hw : Moved (w1.alloc ob) w2 path.length 1 v v2) :
    WP B Bw W t a c v path I s w2 v2 := by
  have hlt := lt_of_block hbox
  have hvb : ∀ k, v.ownBlock = some k → Bw ≤ k ∧ k < w1.heap.size ∧ IsNB w1 k := fun k hk => by
    obtain ⟨h1, h2, cs, h3⟩ := own_block hrow hk
    exact ⟨h1, h2, cs, _, h3⟩
  have hg1 : w1.grownBy w2 v.ownBlock := ⟨hg.os, hg.tape, hg.output, by have := hg.size; simp at this; omega, fun k hk hne => by rw [hg.block k (by simp; omega) hne, heap_alloc_old w1 ob hk]⟩
  have hb2 : Below B w1 w2 := ⟨hg1.os, hg1.tape, hg1.output, hg1.size, fun k hk => by
    by_cases h : k < w1.heap.size
    · exact hg1.block k h (fun e => by have := (hvb k e.symm).1; omega)
    · omega⟩
  have hB1 : B ≤ w1.heap.size := by have := hf.below.size; omega
  have hold : PathR w2 B Bw v path := by
    refine ⟨ncs, hn1, hn2, ?_, fun j hj hj' => (hn4 j hj hj').stay (fun _ h _ => h) (fun b hb' _ => hb2.block b hb')⟩
    rcases hw with ⟨g, cap, rfl, rfl⟩ | ⟨_, hg0⟩
    · exact own_begin hrow.1 hown (by simp)
    · refine own_same hrow fun k hk => ?_
      have h := (hvb k hk).2.1
      rw [hg0.block k (by simp; omega) (by simp), heap_alloc_old w1 ob h]
  refine ⟨?_, ?_, ?_, hold, ⟨hf.below.trans hb2, fun k h1 h2 h3 h4 => ?_⟩, ?_, hvW, ?_⟩
  · rw [hg1.block _ hlt (fun e => by have := hvW _ e.symm; omega)]
    exact hbox
  · rcases hw with ⟨g, cap, rfl, rfl⟩ | ⟨e, _⟩
    · intro e
      have := hvW g rfl
      simp [Value.ownBlock] at e
      omega
    · rw [e]; simp; omega
  · refine ⟨ncs ++ [[.int .i64 t.id, .string t.nm, .int .i64 t.rep, .int .i64 t.kind, .slice a t.sub.length c]], by simp [hn1], fun x hx => ?_, by simpa using hown, fun j hj hj' => ?_⟩
    · rcases List.mem_append.1 hx with hx | hx
      · exact hn2 x hx
      · rw [List.mem_singleton.1 hx]; rfl
    · by_cases h : j < path.length
      · rw [List.getElem_append_left h, List.getElem_append_left (by omega)]
        exact (hn4 j h (by omega)).stay (fun _ h _ => h) (fun b hb' _ => hb2.block b hb')
      · have hj2 : j = path.length := by simp at hj; omega
        subst hj2
        rw [List.getElem_append_right (by omega), List.getElem_append_right (by omega)]
        simp only [hn1, Nat.sub_self, List.getElem_cons_zero]
        exact NodeC.join c hcap (hl.stay (fun _ h _ => h) (fun b hb' _ => (hf.below.trans hb2).block b hb'))
  · have e := hf.rows k h1 h2 h3
    rw [hg1.block k (by have := hf.below.size; omega) h4, e]
  · exact hI _ _ _ _ hi hg1 (fun k hk => ⟨(hvb k hk).1, (hvb k hk).2.2⟩)
  · rcases hw with h | ⟨e, _⟩
    · exact .inl h
    · right
      intro k hk
      rw [e] at hk
      simp at hk
      omega
theorem WP.alloc {S : Type} {B Bw : Nat} {W : World} {t : Tr} {a : Option Addr} {c : Nat} {v : Value} {path : List Tr} {I : S → World → Prop} {s : S} {wr : World} {v2 : Value} (hBw : B ≤ Bw) (hI : ∀ s W w' r, I s W → W.grownBy w' r → (∀ k, r = some k → Bw ≤ k ∧ IsNB W k) → I s w') (hbw : Bw ≤ W.heap.size) (h : WP B Bw W t a c v path I s wr v2) (ob : Obj) : WP B Bw W t a c v path I s (wr.alloc ob) v2 := by
  have hs := h.fr.below.size
  have hb : Below wr.heap.size wr (wr.alloc ob) := (Below.refl _ _).alloc (Nat.le_refl _) _
  have hv : VFr B Bw wr (wr.alloc ob) := VFr.of_below hb (by omega)
  exact ⟨blk_alloc h.box, h.apart, h.row.vfr hv, h.old.vfr hv, ⟨h.fr.below.trans hv.below, fun k h1 h2 h3 h4 => (hb.block k (by omega)).trans (h.fr.rows k h1 h2 h3 h4)⟩, hI _ _ _ none h.inv (World.grownBy_alloc _ _ _) (fun k hk => by cases hk), h.vlt, h.two⟩
theorem WP.weak {S : Type} {B Bw : Nat} {W : World} {t : Tr} {a : Option Addr} {c : Nat} {v : Value} {path : List Tr} {I : S → World → Prop} {s : S} {wr : World} {v2 : Value} (h : WP B Bw W t a c v path I s wr v2) : WP B Bw W t a c v path (fun (_ : S) _ => True) s wr v2 := ⟨h.box, h.apart, h.row, h.old, h.fr, trivial, h.vlt, h.two⟩
/-- .. behind a call for a node in it. -/
theorem WP.next {S : Type} {B Bw : Nat} {W : World} {t : Tr} {a : Option Addr} {c : Nat} {v : Value} {path : List Tr} {I : S → World → Prop} {s s' : S} {wr w2 : World} {v2 : Value} (hbw : Bw ≤ W.heap.size) (h : WP B Bw W t a c v path I s wr v2)
    (hf : WFr B Bw v2 wr w2) (hp : PathR w2 B Bw v2 (path ++ [t])) (hi : I s' w2) : WP B Bw W t a c v path I s' w2 v2 := by
  have hb := hf.below
  refine ⟨?_, h.apart, hp, ?_, ⟨h.fr.below.trans hb, fun k h1 h2 h3 h4 => ?_⟩, hi, h.vlt, h.two⟩
  · rw [hf.rows _ hbw (lt_of_block h.box) ⟨_, _, h.box⟩ (fun e => h.apart e.symm)]
    exact h.box
  · rcases h.two with ⟨g, cap, rfl, rfl⟩ | h2
    · obtain ⟨ncs, hn1, hn2, hn3, hn4⟩ := hp
      obtain ⟨ncs', hm1, hm2, hm3, hm4⟩ := h.old
      refine ⟨ncs.take path.length, by simp [hn1], fun x hx => hn2 x (List.mem_of_mem_take hx), ?_, fun j hj hj' => ?_⟩
      · have hl5 : (ncs.take path.length).flatten.length = path.length * 5 := by
          rw [flat5_len _ (fun x hx => hn2 x (List.mem_of_mem_take hx))]; simp [hn1]
        have e : ncs.flatten = (ncs.take path.length).flatten ++ (ncs.drop path.length).flatten := by rw [← List.flatten_append, List.take_append_drop]
        rw [e] at hn3
        exact own_begin (m := 1) hl5 (by simpa using hn3) (by simp)
      · have := hn4 j (by simp; omega) (by simp at hj'; omega)
        rw [List.getElem_append_left hj] at this
        rw [List.getElem_take]
        exact this
    · refine h.old.stay hb fun k hk => ?_
      obtain ⟨q1, q2, q3⟩ := h.old.block hk
      refine hf.rows k q1 q2 q3 fun e => ?_
      have q4 := h2 k e.symm
      have q5 := h.vlt k hk
      omega
  · have e := h.fr.rows k h1 h2 h3 h4
    obtain ⟨cs, z, hc⟩ := h3
    rw [hf.rows k h1 (Nat.lt_of_lt_of_le h2 h.fr.below.size) ⟨cs, z, e.trans hc⟩ (fun e2 => ?_), e]
    rcases h.two with ⟨g, cap, rfl, rfl⟩ | h5
    · exact h4 e2
    · have := h5 k e2.symm
      omega
end Go.Proofs.YtnceknbodpimiaaDoor

namespace Go.Proofs.YtnceknbodpimiaaDoor
open Go.RowKit
set_option maxRecDepth 100000 in
set_option maxHeartbeats 1600000 in
theorem wkM_any {S : Type} (st : S → List Tr → Tr → Bool × S) (I J : S → World → Prop) (Q : List Tr → Tr → Prop) (μ : S → Nat) (M : Nat) (B Bw : Nat) (hBw : B ≤ Bw)
    (hI : ∀ s W w' r, I s W → W.grownBy w' r → (∀ k, r = some k → Bw ≤ k ∧ IsNB W k) → I s w')
    (hQ : ∀ path t, Q path t → ∀ j (hj : j < t.sub.length), Q (path ++ [t]) t.sub[j]) (hμ : ∀ s path t, μ (st s path t).2 ≤ μ s + 1)
    (HV : Hid (∀ s path t a c v W, Q path t → μ s + 1 ≤ M → I s W → PathR W B Bw v path → LiesN W (fun b => b < B) a t.sub → t.sub.length ≤ c → t.Sm → Bw ≤ W.heap.size → Calls Tryd.prog 59 #[nodeV t a c, v] W fun e w' => e = .returned (.bool (st s path t).1) ∧ ((st s path t).1 = true → I (st s path t).2 w') ∧ ((st s path t).1 = false → J (st s path t).2 w') ∧ VFr B Bw W w')) :
    ∀ (n : Nat) (t : Tr), Tr.Dp n t → t.Sm → ∀ (s : S) (path : List Tr) (a : Option Addr) (c : Nat) (v : Value) (W : World), Q path t → μ s + t.cnt ≤ M → path.length + n ≤ 1100000 → I s W → PathR W B Bw v path → LiesN W (fun b => b < B) a t.sub → t.sub.length ≤ c → Bw ≤ W.heap.size →
    Calls Tryd.prog 27 #[nodeV t a c, v, .func (.func 59) #[] #[]] W fun e w' => e = .returned (.bool (wkT st s path t).1) ∧ ((wkT st s path t).1 = true → I (wkT st s path t).2 w') ∧ ((wkT st s path t).1 = false → J (wkT st s path t).2 w') ∧ WFr B Bw v W w' ∧ PathR w' B Bw v path
  | 0, t, h => absurd h.pos (Nat.lt_irrefl _)
  | n + 1, t, hdp => fun hsm s path a c v W hq hm hlen hi hp hl hcap hbw => by
    obtain ⟨iv, hvi, hv0, hv1, hv2⟩ := info_parts Tryd.infoN
    have HL : Hid (LiesN W (fun b => b < B) a t.sub) := hl
    have hsl := hsm.len
    have HP : Hid (PathR W B Bw v path) := hp
    have HI : Hid (I s W) := hi
    obtain ⟨va, vc, rfl⟩ := hp.shape
    have HIH : Hid (∀ j (hj : j < t.sub.length) (s : S) (path : List Tr) (a : Option Addr) (c : Nat) (v : Value) (W : World), Q path t.sub[j] → μ s + t.sub[j].cnt ≤ M → path.length + n ≤ 1100000 → I s W → PathR W B Bw v path → LiesN W (fun b => b < B) a t.sub[j].sub → t.sub[j].sub.length ≤ c → Bw ≤ W.heap.size → Calls Tryd.prog 27 #[nodeV t.sub[j] a c, v, .func (.func 59) #[] #[]] W fun e w' => e = .returned (.bool (wkT st s path t.sub[j]).1) ∧ ((wkT st s path t.sub[j]).1 = true → I (wkT st s path t.sub[j]).2 w') ∧ ((wkT st s path t.sub[j]).1 = false → J (wkT st s path t.sub[j]).2 w') ∧ WFr B Bw v W w' ∧ PathR w' B Bw v path) := fun j hj => wkM_any st I J Q μ M  B Bw hBw hI hQ hμ HV n t.sub[j] (hdp.at_ j hj) (hsm.at_ j hj)
    have HEq := wkT_eq st s path t
    obtain ⟨b1, s1, hst⟩ : ∃ b1 s1, st s path t = (b1, s1) := ⟨_, _, rfl⟩
    rw [hst] at HEq
    -- the box
    have hw1 := wk_box hBw hI t a c hi hp hl hbw
    have hcnt := t.cnt_eq
    have HQ : Hid (∀ j (hj : j < t.sub.length), Q (path ++ [t]) t.sub[j]) := hQ path t hq
    have HC := HV.out s path t a c (.slice va path.length vc) _ hq (by omega) hw1.1 hw1.2.1 hw1.2.2.1 hcap hsm hw1.2.2.2
    rw [hst] at HC
    have HC : Hid _ := HC
    have HEq : Hid _ := HEq
    have hm1 : μ s1 + cntL t.sub ≤ M := by have h := hμ s path t; rw [hst] at h; simp only at h; omega
    have HM : Hid (μ s1 + cntL t.sub ≤ M) := hm1
    have hst : Hid _ := hst
    clear hm1 hcnt hm hq
    clear hl hsm hp hi hw1
    unfold nodeV
    go_enter Tryd.func27, Tryd.ntmps27
    go_wp2_with fail
    refine Calls.mono HC.out ?_
    clear HC
    rintro e w1 ⟨rfl, hiT, hiF, hf1⟩
    have HJ : Hid _ := hiF
    have HT : Hid _ := hiT
    have HF1 : Hid (VFr B Bw W w1) := ((VFr.refl B Bw W).alloc (by omega) _).trans hf1
    have HB1 : Hid (w1.heap[W.heap.size]? = some (.cells #[.int .i64 t.id, .string t.nm, .int .i64 t.rep, .int .i64 t.kind, .slice a t.sub.length c] 24 (0, 0))) := (hf1.rows W.heap.size hbw (by simp) ⟨_, _, heap_alloc_new W _⟩).trans (heap_alloc_new W _)
    clear hiT hiF hf1
    obtain ⟨⟨p0, p1, p2, p3, p4⟩, _⟩ := row_five HB1.out
    cases b1 with
    | false =>
      have HE2 : Hid (wkT st s path t = (false, s1)) := (by show _ = _; simpa using HEq.out)
      go_wp2
      go_ret
      rw [HE2.out]
      exact ⟨rfl, fun h => by simp at h, fun _ => HJ.out (by simp), ⟨HF1.out.below, fun k h1 h2 h3 _ => HF1.out.rows k h1 h2 h3⟩, HP.out.vfr HF1.out⟩
    | true =>
      have HE2 : Hid (wkT st s path t = wkL st s1 (path ++ [t]) t.sub) := (by show _ = _; simpa using HEq.out)
      obtain ⟨ncs, hn1, hn2, hn3, hn4⟩ := HP.out.vfr HF1.out
      have HN4 : Hid _ := hn4
      have HN2 : Hid _ := hn2
      have HN1 : Hid _ := hn1
      have HR : Hid (w1.ownsRow Bw 24 5 (.slice va path.length vc) path.length ncs.flatten) := hn3
      clear hn1 hn2 hn3 hn4
      have hs1 := HF1.out.below.size
      go_wp2_with (at_builtin; refine wpList_append_kept _ rfl _ _ 22 rfl Bw 24 iv (.agg #[.int .i64 0, .string ⟨#[]⟩, .int .i64 0, .int .i64 0, .slice none 0 0]) 5 64 Tryd.underlying22 hvi hv0 hv1 hv2 rfl (by decide) _ path.length ncs.flatten rfl (HR.out.alloc _) ⟨w1.heap.size, 0, none⟩ 1 1 [.int .i64 t.id, .string t.nm, .int .i64 t.rep, .int .i64 t.kind, .slice a t.sub.length c] rfl rfl five_cells (by intro u hu; simp at hu; rcases hu with rfl | rfl | rfl | rfl | rfl <;> rfl) (by unfold maxLen; omega) (by omega) (by simp; omega) (by decide) ?_; intro v2 w2 hown2 hgrow2 hwh2; have HW : Hid (WP B Bw W t a c (.slice va path.length vc) path I s1 w2 v2) := WP.start hBw hI hbw HF1.out HB1.out HR.out HN1.out HN2.out HN4.out (HT.out (by simp)) hcap HL.out (fun k hk => (HP.out.block hk).2.1) hown2 hgrow2 hwh2; clear hown2 hgrow2 hwh2 p0 p1 p2 p3 p4; obtain ⟨a2, c2, e2⟩ := HW.out.row.shape; rw [show (path ++ [t]).length = path.length + 1 by simp] at e2; subst e2; obtain ⟨⟨p0, p1, p2, p3, p4⟩, _⟩ := row_five HW.out.box)
      clear HR HN1 HN2 HN4 HT HF1 HB1
      have hlen2 : (path ++ [t]).length + n ≤ 1100000 := by simp; omega
      have HS : Hid (wkL st s1 (path ++ [t]) (t.sub.take 0) = (true, s1)) := by
        show _ = _
        rw [List.take_zero, wkL]
      go_loopw [21] (fun x wr => ∃ (i : Nat) (s' : S), i ≤ t.sub.length ∧ x = .int .i64 i ∧ Hid (μ s' + cntL (t.sub.drop i) ≤ M) ∧ Hid (wkL st s1 (path ++ [t]) (t.sub.take i) = (true, s')) ∧ Hid (WP B Bw W t a c (.slice va path.length vc) path I s' wr (.slice a2 (path.length + 1) c2))) (fun x _ => t.sub.length - (intOf x).toNat)
      case atStart => exact ⟨0, s1, Nat.zero_le _, rfl, HM, HS, HW⟩
      case round =>
        clear HS HW p0 p1 p2 p3 p4
        obtain ⟨i, s', hik, rfl, HMi, HS, HW⟩ := hrel
        obtain ⟨⟨p0, p1, p2, p3, p4⟩, _⟩ := row_five HW.out.box
        by_cases hlt : i < t.sub.length
        · have HLr : Hid (LiesN wr (fun b => b < B) a t.sub) := HL.out.stay (fun _ h _ => h) (fun b h _ => HW.out.fr.below.block b h)
          obtain ⟨b, o, a1, c1, rfl, d0, d1, d2, d3, d4, hl1, hc1⟩ := HLr.out.at2 i hlt
          have HWA : Hid _ := HW.out.alloc hBw hI hbw (.cells #[.int .i64 t.sub[i].id, .string t.sub[i].nm, .int .i64 t.sub[i].rep, .int .i64 t.sub[i].kind, .slice a1 t.sub[i].sub.length c1] 24)
          obtain ⟨b3, s3, hr3⟩ : ∃ b3 s3, wkT st s' (path ++ [t]) t.sub[i] = (b3, s3) := ⟨_, _, rfl⟩
          have hmi := HMi.out
          rw [cntL_drop t.sub i hlt] at hmi
          have hmr := wkT_more st μ hμ t.sub[i] s' (path ++ [t])
          rw [hr3] at hmr
          simp only at hmr
          have HM3 : Hid (μ s3 + cntL (t.sub.drop (i + 1)) ≤ M) := (by show _ ≤ _; omega)
          have HC := HIH.out i hlt s' (path ++ [t]) a1 c1 (.slice a2 (path.length + 1) c2) _ (HQ.out i hlt) (by omega) hlen2 HWA.out.inv HWA.out.row (hl1.keep ((Below.refl _ _).alloc (Nat.le_refl _) _)) hc1 (by have := HW.out.fr.below.size; simp; omega)
          rw [hr3] at HC
          have HC : Hid _ := HC
          have HS3 : Hid (wkL st s1 (path ++ [t]) (t.sub.take (i + 1)) = (b3, s3)) := (wkL_take st s1 (path ++ [t]) t.sub i hlt s' HS.out).trans hr3
          clear hr3 hl1 hc1 hmi hmr
          go_wp2_with fail
          refine Calls.mono HC.out ?_
          clear HC
          rintro e w3 ⟨rfl, hT, hF, hfr, hpr⟩
          have HF : Hid _ := hF
          have HT : Hid _ := hT
          have HFr : Hid _ := hfr
          have HPr : Hid _ := hpr
          clear hT hF hfr hpr
          cases b3 with
          | true =>
            have HW3 : Hid _ := HWA.out.next hbw HFr.out HPr.out (HT.out (by simp))
            go_wp2
            go_roundw
            case rel => exact ⟨i + 1, s3, by omega, by go_num, HM3, HS3, HW3⟩
            case measure => simp [intOf]; omega
          | false =>
            have HEnd : Hid (wkT st s path t = (false, s3)) := (HE2.out.trans (wkL_stop st s1 (path ++ [t]) t.sub (i + 1) (by rw [HS3.out]))).trans HS3.out
            have HWl : Hid (WP B Bw W t (some ⟨b, o, none⟩) c (.slice va path.length vc) path (fun _ _ => True) s3 w3 (.slice a2 (path.length + 1) c2)) := WP.next (s := s') hbw (HWA.out.weak) HFr.out HPr.out trivial
            go_wp2
            go_ret
            rw [HEnd.out]
            exact ⟨rfl, fun h => by simp at h, fun _ => HF.out (by simp), HWl.out.fr, HWl.out.old⟩
        · obtain rfl : i = t.sub.length := by omega
          go_wp2
          go_ret
          have HS2 := HS.out
          rw [List.take_length] at HS2
          rw [HE2.out, HS2]
          exact ⟨rfl, fun _ => HW.out.inv, fun h => by simp at h, HW.out.fr, HW.out.old⟩
end Go.Proofs.YtnceknbodpimiaaDoor

namespace Go.Proofs.YtnceknbodpimiaaDoor
open Go.RowKit
set_option maxRecDepth 100000 in
set_option maxHeartbeats 1600000 in
theorem wkS_any {S : Type} (st : S → List Tr → Tr → Bool × S) (I J : S → World → Prop) (Q : List Tr → Tr → Prop) (μ : S → Nat) (M : Nat) (B Bw : Nat) (hBw : B ≤ Bw)
    (hI : ∀ s W w' r, I s W → W.grownBy w' r → (∀ k, r = some k → Bw ≤ k ∧ IsNB W k) → I s w')
    (hQ : ∀ path t, Q path t → ∀ j (hj : j < t.sub.length), Q (path ++ [t]) t.sub[j]) (hμ : ∀ s path t, μ (st s path t).2 ≤ μ s + 1)
    (HV : Hid (∀ s path t a c v W, Q path t → μ s + 1 ≤ M → I s W → PathR W B Bw v path → LiesN W (fun b => b < B) a t.sub → t.sub.length ≤ c → t.Sm → Bw ≤ W.heap.size → Calls Tryd.prog 56 #[nodeV t a c, v] W fun e w' => e = .returned (.bool (st s path t).1) ∧ ((st s path t).1 = true → I (st s path t).2 w') ∧ ((st s path t).1 = false → J (st s path t).2 w') ∧ VFr B Bw W w')) :
    ∀ (n : Nat) (t : Tr), Tr.Dp n t → t.Sm → ∀ (s : S) (path : List Tr) (a : Option Addr) (c : Nat) (v : Value) (W : World), Q path t → μ s + t.cnt ≤ M → path.length + n ≤ 1100000 → I s W → PathR W B Bw v path → LiesN W (fun b => b < B) a t.sub → t.sub.length ≤ c → Bw ≤ W.heap.size →
    Calls Tryd.prog 27 #[nodeV t a c, v, .func (.func 56) #[] #[]] W fun e w' => e = .returned (.bool (wkT st s path t).1) ∧ ((wkT st s path t).1 = true → I (wkT st s path t).2 w') ∧ ((wkT st s path t).1 = false → J (wkT st s path t).2 w') ∧ WFr B Bw v W w' ∧ PathR w' B Bw v path
  | 0, t, h => absurd h.pos (Nat.lt_irrefl _)
  | n + 1, t, hdp => fun hsm s path a c v W hq hm hlen hi hp hl hcap hbw => by
    obtain ⟨iv, hvi, hv0, hv1, hv2⟩ := info_parts Tryd.infoN
    have HL : Hid (LiesN W (fun b => b < B) a t.sub) := hl
    have hsl := hsm.len
    have HP : Hid (PathR W B Bw v path) := hp
    have HI : Hid (I s W) := hi
    obtain ⟨va, vc, rfl⟩ := hp.shape
    have HIH : Hid (∀ j (hj : j < t.sub.length) (s : S) (path : List Tr) (a : Option Addr) (c : Nat) (v : Value) (W : World), Q path t.sub[j] → μ s + t.sub[j].cnt ≤ M → path.length + n ≤ 1100000 → I s W → PathR W B Bw v path → LiesN W (fun b => b < B) a t.sub[j].sub → t.sub[j].sub.length ≤ c → Bw ≤ W.heap.size → Calls Tryd.prog 27 #[nodeV t.sub[j] a c, v, .func (.func 56) #[] #[]] W fun e w' => e = .returned (.bool (wkT st s path t.sub[j]).1) ∧ ((wkT st s path t.sub[j]).1 = true → I (wkT st s path t.sub[j]).2 w') ∧ ((wkT st s path t.sub[j]).1 = false → J (wkT st s path t.sub[j]).2 w') ∧ WFr B Bw v W w' ∧ PathR w' B Bw v path) := fun j hj => wkS_any st I J Q μ M  B Bw hBw hI hQ hμ HV n t.sub[j] (hdp.at_ j hj) (hsm.at_ j hj)
    have HEq := wkT_eq st s path t
    obtain ⟨b1, s1, hst⟩ : ∃ b1 s1, st s path t = (b1, s1) := ⟨_, _, rfl⟩
    rw [hst] at HEq
    -- the box
    have hw1 := wk_box hBw hI t a c hi hp hl hbw
    have hcnt := t.cnt_eq
    have HQ : Hid (∀ j (hj : j < t.sub.length), Q (path ++ [t]) t.sub[j]) := hQ path t hq
    have HC := HV.out s path t a c (.slice va path.length vc) _ hq (by omega) hw1.1 hw1.2.1 hw1.2.2.1 hcap hsm hw1.2.2.2
    rw [hst] at HC
    have HC : Hid _ := HC
    have HEq : Hid _ := HEq
    have hm1 : μ s1 + cntL t.sub ≤ M := by have h := hμ s path t; rw [hst] at h; simp only at h; omega
    have HM : Hid (μ s1 + cntL t.sub ≤ M) := hm1
    have hst : Hid _ := hst
    clear hm1 hcnt hm hq
    clear hl hsm hp hi hw1
    unfold nodeV
    go_enter Tryd.func27, Tryd.ntmps27
    go_wp2_with fail
    refine Calls.mono HC.out ?_
    clear HC
    rintro e w1 ⟨rfl, hiT, hiF, hf1⟩
    have HJ : Hid _ := hiF
    have HT : Hid _ := hiT
    have HF1 : Hid (VFr B Bw W w1) := ((VFr.refl B Bw W).alloc (by omega) _).trans hf1
    have HB1 : Hid (w1.heap[W.heap.size]? = some (.cells #[.int .i64 t.id, .string t.nm, .int .i64 t.rep, .int .i64 t.kind, .slice a t.sub.length c] 24 (0, 0))) := (hf1.rows W.heap.size hbw (by simp) ⟨_, _, heap_alloc_new W _⟩).trans (heap_alloc_new W _)
    clear hiT hiF hf1
    obtain ⟨⟨p0, p1, p2, p3, p4⟩, _⟩ := row_five HB1.out
    cases b1 with
    | false =>
      have HE2 : Hid (wkT st s path t = (false, s1)) := (by show _ = _; simpa using HEq.out)
      go_wp2
      go_ret
      rw [HE2.out]
      exact ⟨rfl, fun h => by simp at h, fun _ => HJ.out (by simp), ⟨HF1.out.below, fun k h1 h2 h3 _ => HF1.out.rows k h1 h2 h3⟩, HP.out.vfr HF1.out⟩
    | true =>
      have HE2 : Hid (wkT st s path t = wkL st s1 (path ++ [t]) t.sub) := (by show _ = _; simpa using HEq.out)
      obtain ⟨ncs, hn1, hn2, hn3, hn4⟩ := HP.out.vfr HF1.out
      have HN4 : Hid _ := hn4
      have HN2 : Hid _ := hn2
      have HN1 : Hid _ := hn1
      have HR : Hid (w1.ownsRow Bw 24 5 (.slice va path.length vc) path.length ncs.flatten) := hn3
      clear hn1 hn2 hn3 hn4
      have hs1 := HF1.out.below.size
      go_wp2_with (at_builtin; refine wpList_append_kept _ rfl _ _ 22 rfl Bw 24 iv (.agg #[.int .i64 0, .string ⟨#[]⟩, .int .i64 0, .int .i64 0, .slice none 0 0]) 5 64 Tryd.underlying22 hvi hv0 hv1 hv2 rfl (by decide) _ path.length ncs.flatten rfl (HR.out.alloc _) ⟨w1.heap.size, 0, none⟩ 1 1 [.int .i64 t.id, .string t.nm, .int .i64 t.rep, .int .i64 t.kind, .slice a t.sub.length c] rfl rfl five_cells (by intro u hu; simp at hu; rcases hu with rfl | rfl | rfl | rfl | rfl <;> rfl) (by unfold maxLen; omega) (by omega) (by simp; omega) (by decide) ?_; intro v2 w2 hown2 hgrow2 hwh2; have HW : Hid (WP B Bw W t a c (.slice va path.length vc) path I s1 w2 v2) := WP.start hBw hI hbw HF1.out HB1.out HR.out HN1.out HN2.out HN4.out (HT.out (by simp)) hcap HL.out (fun k hk => (HP.out.block hk).2.1) hown2 hgrow2 hwh2; clear hown2 hgrow2 hwh2 p0 p1 p2 p3 p4; obtain ⟨a2, c2, e2⟩ := HW.out.row.shape; rw [show (path ++ [t]).length = path.length + 1 by simp] at e2; subst e2; obtain ⟨⟨p0, p1, p2, p3, p4⟩, _⟩ := row_five HW.out.box)
      clear HR HN1 HN2 HN4 HT HF1 HB1
      have hlen2 : (path ++ [t]).length + n ≤ 1100000 := by simp; omega
      have HS : Hid (wkL st s1 (path ++ [t]) (t.sub.take 0) = (true, s1)) := by
        show _ = _
        rw [List.take_zero, wkL]
      go_loopw [21] (fun x wr => ∃ (i : Nat) (s' : S), i ≤ t.sub.length ∧ x = .int .i64 i ∧ Hid (μ s' + cntL (t.sub.drop i) ≤ M) ∧ Hid (wkL st s1 (path ++ [t]) (t.sub.take i) = (true, s')) ∧ Hid (WP B Bw W t a c (.slice va path.length vc) path I s' wr (.slice a2 (path.length + 1) c2))) (fun x _ => t.sub.length - (intOf x).toNat)
      case atStart => exact ⟨0, s1, Nat.zero_le _, rfl, HM, HS, HW⟩
      case round =>
        clear HS HW p0 p1 p2 p3 p4
        obtain ⟨i, s', hik, rfl, HMi, HS, HW⟩ := hrel
        obtain ⟨⟨p0, p1, p2, p3, p4⟩, _⟩ := row_five HW.out.box
        by_cases hlt : i < t.sub.length
        · have HLr : Hid (LiesN wr (fun b => b < B) a t.sub) := HL.out.stay (fun _ h _ => h) (fun b h _ => HW.out.fr.below.block b h)
          obtain ⟨b, o, a1, c1, rfl, d0, d1, d2, d3, d4, hl1, hc1⟩ := HLr.out.at2 i hlt
          have HWA : Hid _ := HW.out.alloc hBw hI hbw (.cells #[.int .i64 t.sub[i].id, .string t.sub[i].nm, .int .i64 t.sub[i].rep, .int .i64 t.sub[i].kind, .slice a1 t.sub[i].sub.length c1] 24)
          obtain ⟨b3, s3, hr3⟩ : ∃ b3 s3, wkT st s' (path ++ [t]) t.sub[i] = (b3, s3) := ⟨_, _, rfl⟩
          have hmi := HMi.out
          rw [cntL_drop t.sub i hlt] at hmi
          have hmr := wkT_more st μ hμ t.sub[i] s' (path ++ [t])
          rw [hr3] at hmr
          simp only at hmr
          have HM3 : Hid (μ s3 + cntL (t.sub.drop (i + 1)) ≤ M) := (by show _ ≤ _; omega)
          have HC := HIH.out i hlt s' (path ++ [t]) a1 c1 (.slice a2 (path.length + 1) c2) _ (HQ.out i hlt) (by omega) hlen2 HWA.out.inv HWA.out.row (hl1.keep ((Below.refl _ _).alloc (Nat.le_refl _) _)) hc1 (by have := HW.out.fr.below.size; simp; omega)
          rw [hr3] at HC
          have HC : Hid _ := HC
          have HS3 : Hid (wkL st s1 (path ++ [t]) (t.sub.take (i + 1)) = (b3, s3)) := (wkL_take st s1 (path ++ [t]) t.sub i hlt s' HS.out).trans hr3
          clear hr3 hl1 hc1 hmi hmr
          go_wp2_with fail
          refine Calls.mono HC.out ?_
          clear HC
          rintro e w3 ⟨rfl, hT, hF, hfr, hpr⟩
          have HF : Hid _ := hF
          have HT : Hid _ := hT
          have HFr : Hid _ := hfr
          have HPr : Hid _ := hpr
          clear hT hF hfr hpr
          cases b3 with
          | true =>
            have HW3 : Hid _ := HWA.out.next hbw HFr.out HPr.out (HT.out (by simp))
            go_wp2
            go_roundw
            case rel => exact ⟨i + 1, s3, by omega, by go_num, HM3, HS3, HW3⟩
            case measure => simp [intOf]; omega
          | false =>
            have HEnd : Hid (wkT st s path t = (false, s3)) := (HE2.out.trans (wkL_stop st s1 (path ++ [t]) t.sub (i + 1) (by rw [HS3.out]))).trans HS3.out
            have HWl : Hid (WP B Bw W t (some ⟨b, o, none⟩) c (.slice va path.length vc) path (fun _ _ => True) s3 w3 (.slice a2 (path.length + 1) c2)) := WP.next (s := s') hbw (HWA.out.weak) HFr.out HPr.out trivial
            go_wp2
            go_ret
            rw [HEnd.out]
            exact ⟨rfl, fun h => by simp at h, fun _ => HF.out (by simp), HWl.out.fr, HWl.out.old⟩
        · obtain rfl : i = t.sub.length := by omega
          go_wp2
          go_ret
          have HS2 := HS.out
          rw [List.take_length] at HS2
          rw [HE2.out, HS2]
          exact ⟨rfl, fun _ => HW.out.inv, fun h => by simp at h, HW.out.fr, HW.out.old⟩
end Go.Proofs.YtnceknbodpimiaaDoor
