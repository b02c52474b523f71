/-
  The reference's OwnNode: a copy of a schema, with lists of its own.
-/
import Derived.Test.YtmfijliladancaaGreatDoorXBOpenNode
import Derived.Test.YtmfijliladancaaGreatDoorXBAppWhere
import Derived.RegionTactic
import Derived.Deep.QuietTactic
import Derived.BigQuiet
import Derived.Deep.RegionWith
namespace Go.Proofs.YtmfijliladancaaGreatDoor
open Go.RowKit
theorem Tryz.infoN : (Tryz.prog.info? 24).map (fun i => (i.zero, i.size, i.bytes)) = some (some (.agg #[.int .i64 0, .string ⟨#[]⟩, .int .i64 0, .int .i64 0, .slice none 0 0]), 5, 64) := by kernel_rfl
/-- A node as a value. -/
abbrev nodeV (t : Tr) (a : Option Addr) (c : Nat) : Value := .agg #[.int .i64 t.id, .string t.nm, .int .i64 t.rep, .int .i64 t.kind, .slice a t.sub.length c]
theorem Tr.sub_size (t : Tr) (j : Nat) (hj : j < t.sub.length) : SizeOf.sizeOf t.sub[j] < SizeOf.sizeOf t := by
  cases t with
  | node id nm rep kind sub =>
    have h := List.sizeOf_lt_of_mem (List.getElem_mem (l := sub) (n := j) hj)
    show SizeOf.sizeOf sub[j] < _
    simp only [Tr.node.sizeOf_spec]
    omega
theorem flat5 : ∀ (ls : List (List Value)), (∀ l ∈ ls, l.length = 5) → ∀ j k, k < 5 → ls.flatten[j * 5 + k]? = (ls[j]?).bind fun l => l[k]?
  | [], _, j, k, _ => by simp
  | l :: ls, h, j, k, hk => by
    have hl : l.length = 5 := h l (by simp)
    have ih := flat5 ls (fun x hx => h x (by simp [hx]))
    rw [List.flatten_cons]
    cases j with
    | zero => rw [List.getElem?_append_left (by omega)]; simp
    | succ j =>
      rw [List.getElem?_append_right (by omega), show (j + 1) * 5 + k - l.length = j * 5 + k by omega, ih j k hk]
      simp
theorem flat5_len : ∀ (ls : List (List Value)), (∀ l ∈ ls, l.length = 5) → ls.flatten.length = ls.length * 5
  | [], _ => rfl
  | l :: ls, h => by
    have hl : l.length = 5 := h l (by simp)
    rw [List.flatten_cons, List.length_append, hl, flat5_len ls (fun x hx => h x (by simp [hx])), List.length_cons]
    omega
/-- What OwnNode's loop keeps. -/
structure OI (W : World) (t : Tr) (a : Option Addr) (c : Nat) (wr : World) (i : Nat) (l : Value) (ncs : List (List Value)) : Prop where
  box : wr.heap[W.heap.size]? = some (.cells #[.int .i64 t.id, .string t.nm, .int .i64 t.rep, .int .i64 t.kind, .slice a t.sub.length c] 24 (0, 0))
  res : wr.heap[W.heap.size + 1]? = some (.cells #[.int .i64 0, .string ⟨#[]⟩, .int .i64 0, .int .i64 0, .slice none 0 0] 24 (0, 0))
  out : wr.heap[W.heap.size + 1 + 1]? = some (.cells #[.int .i64 t.id, .string t.nm, .int .i64 t.rep, .int .i64 t.kind, l] 24 (0, 0))
  len : ncs.length = i
  five : ∀ x ∈ ncs, x.length = 5
  row : wr.ownsRow (W.heap.size + 3) 24 5 l i ncs.flatten
  each : ∀ j (h : j < ncs.length) (h' : j < t.sub.length), NodeC wr (fun b => W.heap.size + 3 ≤ b ∧ l.ownBlock ≠ some b) t.sub[j] ncs[j]
  old : Below W.heap.size W wr
  big : W.heap.size + 3 ≤ wr.heap.size
theorem row_five {w : World} {g e : Nat} {x0 x1 x2 x3 x4 : Value} (h : w.heap[g]? = some (.cells #[x0, x1, x2, x3, x4] e (0, 0))) :
    (w.cell? ⟨g, 0, none⟩ = some x0 ∧ w.cell? ⟨g, 1, none⟩ = some x1 ∧ w.cell? ⟨g, 2, none⟩ = some x2 ∧ w.cell? ⟨g, 3, none⟩ = some x3 ∧ w.cell? ⟨g, 4, none⟩ = some x4) ∧ w.frozen? ⟨g, 0, none⟩ = false ∧ w.frozen? ⟨g, 1, none⟩ = false ∧ w.frozen? ⟨g, 2, none⟩ = false ∧ w.frozen? ⟨g, 3, none⟩ = false ∧ w.frozen? ⟨g, 4, none⟩ = false :=
  ⟨⟨cell_of_row w g 0 _ e _ h, cell_of_row w g 1 _ e _ h, cell_of_row w g 2 _ e _ h, cell_of_row w g 3 _ e _ h, cell_of_row w g 4 _ e _ h⟩, frozen_of_row w g 0 _ e h, frozen_of_row w g 1 _ e h, frozen_of_row w g 2 _ e h, frozen_of_row w g 3 _ e h, frozen_of_row w g 4 _ e h⟩
theorem row_setC {w : World} {g j : Nat} {cs : Array Value} {t : TypeId} (h : w.heap[g]? = some (.cells cs t (0, 0))) {v : Value} : (w.setCell ⟨g, j, none⟩ v).heap[g]? = some (.cells (cs.setIfInBounds j v) t (0, 0)) := by
  simp [World.setCell, Array.getElem?_modify, h]
theorem own_shape {w : World} {B e size n : Nat} {v : Value} {xs : List Value} (h : w.ownsRow B e size v (n + 1) xs) : ∃ g cap, v = .slice (some ⟨g, 0, none⟩) (n + 1) cap := by
  rcases h.2 with ⟨_, h0⟩ | ⟨g, cap, cur, rfl, _⟩
  · exact absurd h0 (by omega)
  · exact ⟨g, cap, rfl⟩
theorem five_cells {w : World} {x0 x1 x2 x3 x4 : Value} {T : TypeId} : ∀ j u, [x0, x1, x2, x3, x4][j]? = some u → (w.alloc (.cells #[x0, x1, x2, x3, x4] T)).cell? ((⟨w.heap.size, 0, none⟩ : Addr).add j) = some u := fun j u h => by
  rw [addr_plus, Nat.zero_add]
  refine cell_alloc_at ?_ rfl
  simpa using h
theorem NodeC.five {W : World} {P : Nat → Prop} {t : Tr} {cs : List Value} (h : NodeC W P t cs) : cs.length = 5 := by
  obtain ⟨a, c, rfl, _⟩ := h.split
  rfl
theorem OI.start (W : World) (t : Tr) (a : Option Addr) (c : Nat) : OI W t a c (((W.alloc (.cells #[.int .i64 t.id, .string t.nm, .int .i64 t.rep, .int .i64 t.kind, .slice a t.sub.length c] 24)).alloc (.cells #[.int .i64 0, .string ⟨#[]⟩, .int .i64 0, .int .i64 0, .slice none 0 0] 24)).alloc (.cells #[.int .i64 t.id, .string t.nm, .int .i64 t.rep, .int .i64 t.kind, .slice none 0 0] 24)) 0 (.slice none 0 0) [] := by
  refine ⟨?_, ?_, ?_, rfl, fun x hx => by simp at hx, World.ownsRow_nil _ _ _ _, fun j h => absurd h (by simp), ?_, by simp⟩
  · exact blk_alloc (blk_alloc (heap_alloc_new W _))
  · have h := heap_alloc_new (W.alloc (.cells #[.int .i64 t.id, .string t.nm, .int .i64 t.rep, .int .i64 t.kind, .slice a t.sub.length c] 24)) (.cells #[.int .i64 0, .string ⟨#[]⟩, .int .i64 0, .int .i64 0, .slice none 0 0] 24)
    rw [show (W.alloc (.cells #[.int .i64 t.id, .string t.nm, .int .i64 t.rep, .int .i64 t.kind, .slice a t.sub.length c] 24)).heap.size = W.heap.size + 1 by simp] at h
    exact blk_alloc h
  · have h := heap_alloc_new ((W.alloc (.cells #[.int .i64 t.id, .string t.nm, .int .i64 t.rep, .int .i64 t.kind, .slice a t.sub.length c] 24)).alloc (.cells #[.int .i64 0, .string ⟨#[]⟩, .int .i64 0, .int .i64 0, .slice none 0 0] 24)) (.cells #[.int .i64 t.id, .string t.nm, .int .i64 t.rep, .int .i64 t.kind, .slice none 0 0] 24)
    rw [show ((W.alloc (.cells #[.int .i64 t.id, .string t.nm, .int .i64 t.rep, .int .i64 t.kind, .slice a t.sub.length c] 24)).alloc (.cells #[.int .i64 0, .string ⟨#[]⟩, .int .i64 0, .int .i64 0, .slice none 0 0] 24)).heap.size = W.heap.size + 1 + 1 by simp] at h
    exact h
  · exact (((Below.refl _ _).alloc (Nat.le_refl _) _).alloc (by simp) _).alloc (by simp; omega) _
theorem OI.shape {W : World} {t : Tr} {a : Option Addr} {c : Nat} {wr : World} {i : Nat} {l : Value} {ncs : List (List Value)} (h : OI W t a c wr i l ncs) : ∃ a' c', l = .slice a' i c' ∧ i ≤ c' := by
  rcases h.row.2 with ⟨rfl, rfl⟩ | ⟨g, cap, cur, rfl, _, _, hnc, _⟩
  · exact ⟨none, 0, rfl, Nat.le_refl _⟩
  · exact ⟨_, cap, rfl, hnc⟩
/-- The copies lie in the row. -/
theorem OI.liesX {W : World} {t : Tr} {a : Option Addr} {c : Nat} {wr : World} {a' : Option Addr} {c' : Nat} {ncs : List (List Value)} (h : OI W t a c wr t.sub.length (.slice a' t.sub.length c') ncs) : LiesN wr (fun b => W.heap.size ≤ b ∧ b ≠ W.heap.size + 1) a' t.sub := by
  refine ⟨fun j => ncs.getD j [], fun j hj => ?_, fun j hj => ?_⟩
  · have hjn : j < ncs.length := by rw [h.len]; exact hj
    have e : ncs.getD j [] = ncs[j] := by simp [List.getD, hjn]
    show NodeAt wr _ a' j (ncs.getD j [])
    rw [e]
    have h5 := h.five ncs[j] (List.getElem_mem hjn)
    rcases h.row.2 with ⟨_, h0⟩ | ⟨g, cap, cur, hv, hbg, _⟩
    · exact absurd hj (by omega)
    · have hv' := hv
      injection hv' with ha _ _
      subst ha
      have hc : ∀ k u, ncs[j][k]? = some u → k < 5 → wr.cell? ⟨g, j * 5 + k, none⟩ = some u := fun k u hu hk => by
        have h1 := h.row.cells (g := g) rfl (j * 5 + k) u (by rw [flat5 ncs h.five j k hk, List.getElem?_eq_getElem hjn]; exact hu)
        rw [addr_plus, Nat.zero_add] at h1
        exact h1
      generalize ncs[j] = cs at *
      match cs, h5 with
      | [x0, x1, x2, x3, x4], _ =>
        have c0 := hc 0 x0 rfl (by omega)
        have c1 := hc 1 x1 rfl (by omega)
        have c2 := hc 2 x2 rfl (by omega)
        have c3 := hc 3 x3 rfl (by omega)
        have c4 := hc 4 x4 rfl (by omega)
        exact ⟨g, 0, x0, x1, x2, x3, x4, rfl, by omega, rfl, by simpa using c0, by simpa using c1, by simpa using c2, by simpa using c3, by simpa using c4⟩
  · have hjn : j < ncs.length := by rw [h.len]; exact hj
    have e : ncs.getD j [] = ncs[j] := by simp [List.getD, hjn]
    show NodeC wr _ t.sub[j] (ncs.getD j [])
    rw [e]
    exact (h.each j hjn hj).stay (fun b hP _ => by omega) (fun _ _ _ => rfl)
theorem OI.apart {W : World} {t : Tr} {a : Option Addr} {c : Nat} {wr : World} {i : Nat} {l : Value} {ncs : List (List Value)} (h : OI W t a c wr i l ncs) {k : Nat} (hk : k < W.heap.size + 3) : some k ≠ l.ownBlock := by
  rcases h.row.2 with ⟨rfl, _⟩ | ⟨g, cap, cur, rfl, hg, _⟩
  · simp [Value.ownBlock]
  · simp [Value.ownBlock]; omega
/-- What stands below the row behind a copy's append. -/
theorem OI.three {W : World} {t : Tr} {a : Option Addr} {c : Nat} {wr w1 w2 : World} {i : Nat} {l : Value} {ncs : List (List Value)} (h : OI W t a c wr i l ncs) (hb : Below wr.heap.size wr w1) {ob : Obj} (hg : (w1.alloc ob).grownBy w2 l.ownBlock) {k : Nat} (hk : k < W.heap.size + 3) : w2.heap[k]? = wr.heap[k]? := by
  have h1 : k < wr.heap.size := Nat.lt_of_lt_of_le hk h.big
  have h2 : k < w1.heap.size := Nat.lt_of_lt_of_le h1 hb.size
  rw [hg.block k (by simp; omega) (h.apart hk), heap_alloc_old w1 ob h2, hb.block k h1]
/-- A copy is put behind the others. -/
theorem OI.push {W : World} {t : Tr} {a : Option Addr} {c : Nat} {wr w1 w2 : World} {i : Nat} {l l' : Value} {ncs : List (List Value)} {a1 : Option Addr} {c1 : Nat} (h : OI W t a c wr i l ncs) (hi : i < t.sub.length) (hb : Below wr.heap.size wr w1) (hc1 : t.sub[i].sub.length ≤ c1) (hn : LiesN w1 (fun b => wr.heap.size ≤ b) a1 t.sub[i].sub) {ob : Obj}
    (hown : w2.ownsRow (W.heap.size + 3) 24 5 l' (i + 1) (ncs.flatten ++ [.int .i64 t.sub[i].id, .string t.sub[i].nm, .int .i64 t.sub[i].rep, .int .i64 t.sub[i].kind, .slice a1 t.sub[i].sub.length c1])) (hg : (w1.alloc ob).grownBy w2 l.ownBlock) (hw : l'.ownBlock = l.ownBlock ∧ l.ownBlock ≠ none ∨ l'.ownBlock = some (w1.alloc ob).heap.size) :
    OI W t a c (w2.setCell ⟨W.heap.size + 1 + 1, 4, none⟩ l') (i + 1) l' (ncs ++ [[.int .i64 t.sub[i].id, .string t.sub[i].nm, .int .i64 t.sub[i].rep, .int .i64 t.sub[i].kind, .slice a1 t.sub[i].sub.length c1]]) := by
  have e0 : w2.heap[W.heap.size]? = wr.heap[W.heap.size]? := h.three hb hg (by omega)
  have e1 : w2.heap[W.heap.size + 1]? = wr.heap[W.heap.size + 1]? := h.three hb hg (by omega)
  have e2 : w2.heap[W.heap.size + 1 + 1]? = wr.heap[W.heap.size + 1 + 1]? := h.three hb hg (by omega)
  have hset : ∀ k, k ≠ W.heap.size + 1 + 1 → (w2.setCell ⟨W.heap.size + 1 + 1, 4, none⟩ l').heap[k]? = w2.heap[k]? := fun k hk => Below.heap_setCell _ _ _ _ hk
  have hbig := h.big
  have hbs := hb.size
  have hgs := hg.size
  simp only [World.size_alloc] at hgs
  have hlb : ∀ k, l.ownBlock = some k → k < wr.heap.size := fun k hk => (h.row.lt k hk).2
  have b1 : Below W.heap.size W w2 := ((h.old.trans (hb.mono h.old.size)).alloc (h.old.trans (hb.mono h.old.size)).size ob).grown hg (by have := h.old.size; simp; omega) (fun k hk => by have := (h.row.lt k hk).1; omega)
  refine ⟨?_, ?_, ?_, by rw [List.length_append, h.len]; rfl, fun x hx => ?_, ?_, fun j hj hj' => ?_, ?_, ?_⟩
  · rw [hset _ (by omega), e0]; exact h.box
  · rw [hset _ (by omega), e1]; exact h.res
  · rw [row_setC (e2.trans h.out)]
    rfl
  · rcases List.mem_append.1 hx with hx | hx
    · exact h.five x hx
    · rw [List.mem_singleton.1 hx]; rfl
  · rw [List.flatten_append]
    simp only [List.flatten_cons, List.flatten_nil, List.append_nil]
    refine ⟨hown.1, ?_⟩
    rcases hown.2 with hn0 | ⟨g, cap, cur, rfl, hbg, hgg, rest⟩
    · exact .inl hn0
    · exact .inr ⟨g, cap, cur, rfl, hbg, (hset g (by omega)).trans hgg, rest⟩
  · by_cases hjl : j < ncs.length
    · rw [List.getElem_append_left hjl]
      have hQ : ∀ b, (W.heap.size + 3 ≤ b ∧ l.ownBlock ≠ some b) → b < wr.heap.size → (W.heap.size + 3 ≤ b ∧ l'.ownBlock ≠ some b) := fun b hP hlt => by
        refine ⟨hP.1, ?_⟩
        rcases hw with ⟨e, _⟩ | e
        · rw [e]; exact hP.2
        · rw [e]; simp; omega
      have hS : ∀ b, (W.heap.size + 3 ≤ b ∧ l.ownBlock ≠ some b) → b < wr.heap.size → (w2.setCell ⟨W.heap.size + 1 + 1, 4, none⟩ l').heap[b]? = wr.heap[b]? := fun b hP hlt => by
        rw [hset b (by omega), hg.block b (by simp; omega) (fun e => hP.2 e.symm), heap_alloc_old w1 ob (show b < w1.heap.size by omega), hb.block b hlt]
      exact (h.each j hjl hj').stay hQ hS
    · have hje : j = ncs.length := by rw [List.length_append] at hj; simp at hj; omega
      have hji : j = i := by rw [hje, h.len]
      subst hji
      have ee : (ncs ++ [[.int .i64 t.sub[j].id, .string t.sub[j].nm, .int .i64 t.sub[j].rep, .int .i64 t.sub[j].kind, .slice a1 t.sub[j].sub.length c1]])[j] = [.int .i64 t.sub[j].id, .string t.sub[j].nm, .int .i64 t.sub[j].rep, .int .i64 t.sub[j].kind, .slice a1 t.sub[j].sub.length c1] := by
        rw [List.getElem_append_right (by omega)]
        simp
      rw [ee]
      have hQ : ∀ b, wr.heap.size ≤ b → b < w1.heap.size → (W.heap.size + 3 ≤ b ∧ l'.ownBlock ≠ some b) := fun b hP hlt => by
        refine ⟨by omega, ?_⟩
        rcases hw with ⟨e, hne⟩ | e
        · rw [e]
          intro e2
          have := hlb b e2
          omega
        · rw [e]; simp; omega
      have hS : ∀ b, wr.heap.size ≤ b → b < w1.heap.size → (w2.setCell ⟨W.heap.size + 1 + 1, 4, none⟩ l').heap[b]? = w1.heap[b]? := fun b hP hlt => by
        rw [hset b (by omega), hg.block b (by simp; omega) (fun e => by have := hlb b e.symm; omega), heap_alloc_old w1 ob hlt]
      exact NodeC.join c1 hc1 (hn.stay hQ hS)
  · exact ⟨b1.os, b1.tape, b1.output, by simp only [World.size_setCell]; exact b1.size, fun k hk => (hset k (by omega)).trans (b1.block k hk)⟩
  · simp only [World.size_setCell]; omega
set_option maxRecDepth 100000 in
set_option maxHeartbeats 1600000 in
theorem ownNode_any : ∀ (n : Nat) (t : Tr), SizeOf.sizeOf t < n → t.Sm → ∀ (P : Nat → Prop) (a : Option Addr) (c : Nat) (W : World), LiesN W P a t.sub →
    Calls Tryz.prog 8 #[nodeV t a c] W fun e w' => (∃ a' c', e = .returned (nodeV t a' c') ∧ LiesN w' (fun b => W.heap.size ≤ b) a' t.sub ∧ t.sub.length ≤ c') ∧ Below W.heap.size W w'
  | 0, t, h => absurd h (Nat.not_lt_zero _)
  | n + 1, t, hsz => fun hsm P a c W hl => by
    obtain ⟨iv, hvi, hv0, hv1, hv2⟩ := info_parts Tryz.infoN
    have HL : Hid (LiesN W P a t.sub) := hl
    have hlen := hsm.len
    have HSm : Hid t.Sm := hsm
    have HIH : Hid (∀ j (hj : j < t.sub.length) (P : Nat → Prop) (a : Option Addr) (c : Nat) (W : World), LiesN W P a t.sub[j].sub → Calls Tryz.prog 8 #[nodeV t.sub[j] a c] W fun e w' => (∃ a' c', e = .returned (nodeV t.sub[j] a' c') ∧ LiesN w' (fun b => W.heap.size ≤ b) a' t.sub[j].sub ∧ t.sub[j].sub.length ≤ c') ∧ Below W.heap.size W w') := fun j hj P a c W hl => ownNode_any n t.sub[j] (by have := t.sub_size j hj; omega) (hsm.at_ j hj) P a c W hl
    clear hl hsm hsz
    unfold nodeV
    go_enter Tryz.func8, Tryz.ntmps8
    go_wp2_with fail
    have HS : Hid _ := OI.start W t a c
    go_loopw [4] (fun x wr => ∃ (i : Nat) (l : Value) (ncs : List (List Value)), i ≤ t.sub.length ∧ x = .int .i64 i ∧ Hid (OI W t a c wr i l ncs)) (fun x _ => t.sub.length - (intOf x).toNat)
    case atStart => exact ⟨0, _, [], Nat.zero_le _, rfl, HS⟩
    case round =>
      clear HS
      obtain ⟨i, l, ncs, hik, rfl, HO⟩ := hrel
      obtain ⟨⟨p0, p1, p2, p3, p4⟩, _⟩ := row_five HO.out.box
      obtain ⟨⟨r0, r1, r2, r3, r4⟩, f0, f1, f2, f3, f4⟩ := row_five HO.out.out
      have hbig := HO.out.big
      have hb := HO.out.old
      by_cases hlt : i < t.sub.length
      · obtain ⟨b, o, a1, c1, rfl, d0, d1, d2, d3, d4, hl1⟩ := (HL.out.keep hb).at_ i hlt
        have HC : Hid _ := HIH.out i hlt P a1 c1 wr.drew (hl1.stay (fun _ h _ => h) (fun _ _ _ => rfl))
        clear hl1
        have HRow : Hid (wr.ownsRow (W.heap.size + 3) 24 5 l i ncs.flatten) := HO.out.row
        have HP : Hid (∀ (w1 w3 : World) (ob : Obj), Below wr.heap.size wr w1 → (w1.alloc ob).grownBy w3 l.ownBlock → w3.heap[W.heap.size + 1 + 1]? = some (.cells #[.int .i64 t.id, .string t.nm, .int .i64 t.rep, .int .i64 t.kind, l] 24 (0, 0))) := fun w1 w3 ob h1 h2 => (HO.out.three h1 h2 (by omega)).trans HO.out.out
        go_wp2_with fail
        go_region_law (first
          | (refine step_own_where _ rfl _ _ 22 rfl (W.heap.size + 3) 24 iv (.agg #[.int .i64 0, .string ⟨#[]⟩, .int .i64 0, .int .i64 0, .slice none 0 0]) 5 64 Tryz.underlying22 hvi hv0 hv1 hv2 rfl (by decide) _ i ncs.flatten rfl ((ow_kept HRow.out hb1).alloc _) ⟨w1.heap.size, 0, none⟩ 1 1 [.int .i64 t.sub[i].id, .string t.sub[i].nm, .int .i64 t.sub[i].rep, .int .i64 t.sub[i].kind, .slice a2 t.sub[i].sub.length c2] rfl rfl five_cells (by intro u hu; simp at hu; rcases hu with rfl | rfl | rfl | rfl | rfl <;> rfl) (by unfold maxLen; omega) (by omega) (by have := hb1.size; simp; omega) (by decide) ?_; intro l' w3 hown3 hgrow3 hwh; obtain ⟨g3, cap3, rfl⟩ := own_shape hown3; obtain ⟨⟨_, _, _, _, y4⟩, _, _, _, _, z4⟩ := row_five (HP.out _ _ _ hb1 hgrow3); have HOn : Hid _ := HO.out.push hlt hb1 hc2 HL2.out hown3 hgrow3 hwh)
          | (go_simp; refine Calls.mono HC.out ?_; rintro e w1 ⟨⟨a2, c2, rfl, hl2, hc2⟩, hb2⟩; have HL2 : Hid _ := hl2; clear hl2; have hb1 : Below wr.heap.size wr w1 := (Below.refl _ _).drew.trans hb2; have r4' := (hb1.cell (World.block_lt_of_cell? wr _ r4)).trans r4; have hs1 : W.heap.size + 1 + 1 < w1.heap.size := (by have := hb1.size; omega); have r5' : ∀ ob : Obj, (w1.alloc ob).cell? ⟨W.heap.size + 1 + 1, 4, none⟩ = some l := fun ob => (((Below.refl w1.heap.size w1).alloc (Nat.le_refl _) ob).cell hs1).trans r4'))
        all_goals
          go_wp2
          go_roundw
          case rel => exact ⟨i + 1, _, _, by omega, by go_num, HOn⟩
          case measure => simp [intOf]; omega
      · obtain rfl : i = t.sub.length := by omega
        obtain ⟨⟨s0, s1, s2, s3, s4⟩, t0, t1, t2, t3, t4⟩ := row_five HO.out.res
        obtain ⟨a', c', rfl, hcc⟩ := HO.out.shape
        have HLs : Hid (LiesN wr (fun b => W.heap.size ≤ b ∧ b ≠ W.heap.size + 1) a' t.sub) := HO.out.liesX
        have hrow := row_setC (j := 4) (v := .slice a' t.sub.length c') (row_setC (j := 3) (v := .int .i64 t.kind) (row_setC (j := 2) (v := .int .i64 t.rep) (row_setC (j := 1) (v := .string t.nm) (row_setC (j := 0) (v := .int .i64 t.id) HO.out.res))))
        have HRw : Hid _ := hrow
        clear hrow
        go_wp2
        refine bodyPost_ret (v := nodeV t a' c') (results_cell_row Tryz.results8 _ _ (W.heap.size + 1) 24 #[.int .i64 t.id, .string t.nm, .int .i64 t.rep, .int .i64 t.kind, .slice a' t.sub.length c'] (0, 0) _ rfl HRw.out Tryz.underlying24 rfl (by kernel_rfl)) rfl ⟨⟨a', c', rfl, ?_, hcc⟩, ?_⟩
        · exact HLs.out.stay (fun b h _ => h.1) (fun b h _ => by
            rw [Below.heap_setCell _ _ _ _ h.2, Below.heap_setCell _ _ _ _ h.2, Below.heap_setCell _ _ _ _ h.2, Below.heap_setCell _ _ _ _ h.2, Below.heap_setCell _ _ _ _ h.2])
        · exact ((((hb.setCell (by simp) _).setCell (by simp) _).setCell (by simp) _).setCell (by simp) _).setCell (by simp) _
end Go.Proofs.YtmfijliladancaaGreatDoor
