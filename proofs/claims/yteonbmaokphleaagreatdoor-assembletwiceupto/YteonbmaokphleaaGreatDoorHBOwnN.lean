/-
  The reference's OwnNode: a copy of a schema, with lists of its own.
  The reference's flat: the nodes of a schema, one behind the other.
  The reference's Flat, and the law's tame: of which schemas something is said.
  A walk through a schema, told as lists: what it answers, what it keeps; the words, without the program.
-/
import Derived.Test.YteonbmaokphleaaGreatDoorHBOpenVals
import Derived.Test.YteonbmaokphleaaGreatDoorHBAppWhere
import Derived.RegionTactic
import Derived.Deep.QuietTactic
import Derived.BigQuiet
import Derived.Deep.RegionWith
namespace Go.Proofs.YteonbmaokphleaaGreatDoor
open Go.RowKit
theorem Tryz.infoN : (Tryz.prog.info? 24).map (fun i => (i.zero, i.size, i.bytes)) = some (some (.agg #[.int .i64 0, .string ⟨#[]⟩, .int .i64 0, .int .i64 0, .slice none 0 0]), 5, 64) := by kernel_rfl
abbrev nodeV (t : Tr) (a : Option Addr) (c : Nat) : Value := .agg #[.int .i64 t.id, .string t.nm, .int .i64 t.rep, .int .i64 t.kind, .slice a t.sub.length c]
theorem Tr.sub_size (t : Tr) (j : Nat) (hj : j < t.sub.length) : SizeOf.sizeOf t.sub[j] < SizeOf.sizeOf t := by
 cases t with
 | node id nm rep kind sub =>
  have h := List.sizeOf_lt_of_mem (List.getElem_mem (l := sub) (n := j) hj)
  show SizeOf.sizeOf sub[j] < _
  simp only [Tr.node.sizeOf_spec]
  omega
theorem flat5 : ∀ (ls : List (List Value)), (∀ l ∈ ls, l.length = 5) → ∀ j k, k < 5 → ls.flatten[j * 5 + k]? = (ls[j]?).bind fun l => l[k]?
 | [], _, j, k, _ => by simp
 | l :: ls, h, j, k, hk => by
  have hl : l.length = 5 := h l (by simp)
  have ih := flat5 ls (fun x hx => h x (by simp [hx]))
  rw [List.flatten_cons]
  cases j with
  | zero => rw [List.getElem?_append_left (by omega)]; simp
  | succ j =>
   rw [List.getElem?_append_right (by omega), show (j + 1) * 5 + k - l.length = j * 5 + k by omega, ih j k hk]
   simp
theorem flat5_len : ∀ (ls : List (List Value)), (∀ l ∈ ls, l.length = 5) → ls.flatten.length = ls.length * 5
 | [], _ => rfl
 | l :: ls, h => by
  have hl : l.length = 5 := h l (by simp)
  rw [List.flatten_cons, List.length_append, hl, flat5_len ls (fun x hx => h x (by simp [hx])), List.length_cons]
  omega
structure OI (W : World) (t : Tr) (a : Option Addr) (c : Nat) (wr : World) (i : Nat) (l : Value) (ncs : List (List Value)) : Prop where
 box : wr.heap[W.heap.size]? = some (.cells #[.int .i64 t.id, .string t.nm, .int .i64 t.rep, .int .i64 t.kind, .slice a t.sub.length c] 24 (0, 0))
 res : wr.heap[W.heap.size + 1]? = some (.cells #[.int .i64 0, .string ⟨#[]⟩, .int .i64 0, .int .i64 0, .slice none 0 0] 24 (0, 0))
 out : wr.heap[W.heap.size + 1 + 1]? = some (.cells #[.int .i64 t.id, .string t.nm, .int .i64 t.rep, .int .i64 t.kind, l] 24 (0, 0))
 len : ncs.length = i
 five : ∀ x ∈ ncs, x.length = 5
 row : wr.ownsRow (W.heap.size + 3) 24 5 l i ncs.flatten
 each : ∀ j (h : j < ncs.length) (h' : j < t.sub.length), NodeC wr (fun b => W.heap.size + 3 ≤ b ∧ l.ownBlock ≠ some b) t.sub[j] ncs[j]
 old : Below W.heap.size W wr
 big : W.heap.size + 3 ≤ wr.heap.size
theorem row_five {w : World} {g e : Nat} {x0 x1 x2 x3 x4 : Value} (h : w.heap[g]? = some (.cells #[x0, x1, x2, x3, x4] e (0, 0))) :
    (w.cell? ⟨g, 0, none⟩ = some x0 ∧ w.cell? ⟨g, 1, none⟩ = some x1 ∧ w.cell? ⟨g, 2, none⟩ = some x2 ∧ w.cell? ⟨g, 3, none⟩ = some x3 ∧ w.cell? ⟨g, 4, none⟩ = some x4) ∧ w.frozen? ⟨g, 0, none⟩ = false ∧ w.frozen? ⟨g, 1, none⟩ = false ∧ w.frozen? ⟨g, 2, none⟩ = false ∧ w.frozen? ⟨g, 3, none⟩ = false ∧ w.frozen? ⟨g, 4, none⟩ = false :=
 ⟨⟨cell_of_row w g 0 _ e _ h, cell_of_row w g 1 _ e _ h, cell_of_row w g 2 _ e _ h, cell_of_row w g 3 _ e _ h, cell_of_row w g 4 _ e _ h⟩, frozen_of_row w g 0 _ e h, frozen_of_row w g 1 _ e h, frozen_of_row w g 2 _ e h, frozen_of_row w g 3 _ e h, frozen_of_row w g 4 _ e h⟩
theorem row_setC {w : World} {g j : Nat} {cs : Array Value} {t : TypeId} (h : w.heap[g]? = some (.cells cs t (0, 0))) {v : Value} : (w.setCell ⟨g, j, none⟩ v).heap[g]? = some (.cells (cs.setIfInBounds j v) t (0, 0)) := by
 simp [World.setCell, Array.getElem?_modify, h]
theorem own_shape {w : World} {B e size n : Nat} {v : Value} {xs : List Value} (h : w.ownsRow B e size v (n + 1) xs) : ∃ g cap, v = .slice (some ⟨g, 0, none⟩) (n + 1) cap := by
 rcases h.2 with ⟨_, h0⟩ | ⟨g, cap, cur, rfl, _⟩
 · exact absurd h0 (by omega)
 · exact ⟨g, cap, rfl⟩
theorem five_cells {w : World} {x0 x1 x2 x3 x4 : Value} {T : TypeId} : ∀ j u, [x0, x1, x2, x3, x4][j]? = some u → (w.alloc (.cells #[x0, x1, x2, x3, x4] T)).cell? ((⟨w.heap.size, 0, none⟩ : Addr).add j) = some u := fun j u h => by
 rw [addr_plus, Nat.zero_add]
 refine cell_alloc_at ?_ rfl
 simpa using h
theorem NodeC.five {W : World} {P : Nat → Prop} {t : Tr} {cs : List Value} (h : NodeC W P t cs) : cs.length = 5 := by
 obtain ⟨a, c, rfl, _⟩ := h.split
 rfl
theorem OI.start (W : World) (t : Tr) (a : Option Addr) (c : Nat) : OI W t a c (((W.alloc (.cells #[.int .i64 t.id, .string t.nm, .int .i64 t.rep, .int .i64 t.kind, .slice a t.sub.length c] 24)).alloc (.cells #[.int .i64 0, .string ⟨#[]⟩, .int .i64 0, .int .i64 0, .slice none 0 0] 24)).alloc (.cells #[.int .i64 t.id, .string t.nm, .int .i64 t.rep, .int .i64 t.kind, .slice none 0 0] 24)) 0 (.slice none 0 0) [] := by
 refine ⟨?_, ?_, ?_, rfl, fun x hx => by simp at hx, World.ownsRow_nil _ _ _ _, fun j h => absurd h (by simp), ?_, by simp⟩
 · exact blk_alloc (blk_alloc (heap_alloc_new W _))
 · have h := heap_alloc_new (W.alloc (.cells #[.int .i64 t.id, .string t.nm, .int .i64 t.rep, .int .i64 t.kind, .slice a t.sub.length c] 24)) (.cells #[.int .i64 0, .string ⟨#[]⟩, .int .i64 0, .int .i64 0, .slice none 0 0] 24)
   rw [show (W.alloc (.cells #[.int .i64 t.id, .string t.nm, .int .i64 t.rep, .int .i64 t.kind, .slice a t.sub.length c] 24)).heap.size = W.heap.size + 1 by simp] at h
   exact blk_alloc h
 · have h := heap_alloc_new ((W.alloc (.cells #[.int .i64 t.id, .string t.nm, .int .i64 t.rep, .int .i64 t.kind, .slice a t.sub.length c] 24)).alloc (.cells #[.int .i64 0, .string ⟨#[]⟩, .int .i64 0, .int .i64 0, .slice none 0 0] 24)) (.cells #[.int .i64 t.id, .string t.nm, .int .i64 t.rep, .int .i64 t.kind, .slice none 0 0] 24)
   rw [show ((W.alloc (.cells #[.int .i64 t.id, .string t.nm, .int .i64 t.rep, .int .i64 t.kind, .slice a t.sub.length c] 24)).alloc (.cells #[.int .i64 0, .string ⟨#[]⟩, .int .i64 0, .int .i64 0, .slice none 0 0] 24)).heap.size = W.heap.size + 1 + 1 by simp] at h
   exact h
 · exact (((Below.refl _ _).alloc (Nat.le_refl _) _).alloc (by simp) _).alloc (by simp; omega) _
theorem OI.shape {W : World} {t : Tr} {a : Option Addr} {c : Nat} {wr : World} {i : Nat} {l : Value} {ncs : List (List Value)} (h : OI W t a c wr i l ncs) : ∃ a' c', l = .slice a' i c' ∧ i ≤ c' := by
 rcases h.row.2 with ⟨rfl, rfl⟩ | ⟨g, cap, cur, rfl, _, _, hnc, _⟩
 · exact ⟨none, 0, rfl, Nat.le_refl _⟩
 · exact ⟨_, cap, rfl, hnc⟩
theorem OI.liesX {W : World} {t : Tr} {a : Option Addr} {c : Nat} {wr : World} {a' : Option Addr} {c' : Nat} {ncs : List (List Value)} (h : OI W t a c wr t.sub.length (.slice a' t.sub.length c') ncs) : LiesN wr (fun b => W.heap.size ≤ b ∧ b ≠ W.heap.size + 1) a' t.sub := by
 refine ⟨fun j => ncs.getD j [], fun j hj => ?_, fun j hj => ?_⟩
 · have hjn : j < ncs.length := by rw [h.len]; exact hj
   have e : ncs.getD j [] = ncs[j] := by simp [List.getD, hjn]
   show NodeAt wr _ a' j (ncs.getD j [])
   rw [e]
   have h5 := h.five ncs[j] (List.getElem_mem hjn)
   rcases h.row.2 with ⟨_, h0⟩ | ⟨g, cap, cur, hv, hbg, _⟩
   · exact absurd hj (by omega)
   · have hv' := hv
     injection hv' with ha _ _
     subst ha
     have hc : ∀ k u, ncs[j][k]? = some u → k < 5 → wr.cell? ⟨g, j * 5 + k, none⟩ = some u := fun k u hu hk => by
      have h1 := h.row.cells (g := g) rfl (j * 5 + k) u (by rw [flat5 ncs h.five j k hk, List.getElem?_eq_getElem hjn]; exact hu)
      rw [addr_plus, Nat.zero_add] at h1
      exact h1
     generalize ncs[j] = cs at *
     match cs, h5 with
     | [x0, x1, x2, x3, x4], _ =>
      have c0 := hc 0 x0 rfl (by omega)
      have c1 := hc 1 x1 rfl (by omega)
      have c2 := hc 2 x2 rfl (by omega)
      have c3 := hc 3 x3 rfl (by omega)
      have c4 := hc 4 x4 rfl (by omega)
      exact ⟨g, 0, x0, x1, x2, x3, x4, rfl, by omega, rfl, by simpa using c0, by simpa using c1, by simpa using c2, by simpa using c3, by simpa using c4⟩
 · have hjn : j < ncs.length := by rw [h.len]; exact hj
   have e : ncs.getD j [] = ncs[j] := by simp [List.getD, hjn]
   show NodeC wr _ t.sub[j] (ncs.getD j [])
   rw [e]
   exact (h.each j hjn hj).stay (fun b hP _ => by omega) (fun _ _ _ => rfl)
theorem OI.apart {W : World} {t : Tr} {a : Option Addr} {c : Nat} {wr : World} {i : Nat} {l : Value} {ncs : List (List Value)} (h : OI W t a c wr i l ncs) {k : Nat} (hk : k < W.heap.size + 3) : some k ≠ l.ownBlock := by
 rcases h.row.2 with ⟨rfl, _⟩ | ⟨g, cap, cur, rfl, hg, _⟩
 · simp [Value.ownBlock]
 · simp [Value.ownBlock]; omega
theorem OI.three {W : World} {t : Tr} {a : Option Addr} {c : Nat} {wr w1 w2 : World} {i : Nat} {l : Value} {ncs : List (List Value)} (h : OI W t a c wr i l ncs) (hb : Below wr.heap.size wr w1) {ob : Obj} (hg : (w1.alloc ob).grownBy w2 l.ownBlock) {k : Nat} (hk : k < W.heap.size + 3) : w2.heap[k]? = wr.heap[k]? := by
 have h1 : k < wr.heap.size := Nat.lt_of_lt_of_le hk h.big
 have h2 : k < w1.heap.size := Nat.lt_of_lt_of_le h1 hb.size
 rw [hg.block k (by simp; omega) (h.apart hk), heap_alloc_old w1 ob h2, hb.block k h1]
theorem OI.push {W : World} {t : Tr} {a : Option Addr} {c : Nat} {wr w1 w2 : World} {i : Nat} {l l' : Value} {ncs : List (List Value)} {a1 : Option Addr} {c1 : Nat} (h : OI W t a c wr i l ncs) (hi : i < t.sub.length) (hb : Below wr.heap.size wr w1) (hc1 : t.sub[i].sub.length ≤ c1) (hn : LiesN w1 (fun b => wr.heap.size ≤ b) a1 t.sub[i].sub) {ob : Obj}
    (hown : w2.ownsRow (W.heap.size + 3) 24 5 l' (i + 1) (ncs.flatten ++ [.int .i64 t.sub[i].id, .string t.sub[i].nm, .int .i64 t.sub[i].rep, .int .i64 t.sub[i].kind, .slice a1 t.sub[i].sub.length c1])) (hg : (w1.alloc ob).grownBy w2 l.ownBlock) (hw : l'.ownBlock = l.ownBlock ∧ l.ownBlock ≠ none ∨ l'.ownBlock = some (w1.alloc ob).heap.size) :
    OI W t a c (w2.setCell ⟨W.heap.size + 1 + 1, 4, none⟩ l') (i + 1) l' (ncs ++ [[.int .i64 t.sub[i].id, .string t.sub[i].nm, .int .i64 t.sub[i].rep, .int .i64 t.sub[i].kind, .slice a1 t.sub[i].sub.length c1]]) := by
 have e0 : w2.heap[W.heap.size]? = wr.heap[W.heap.size]? := h.three hb hg (by omega)
 have e1 : w2.heap[W.heap.size + 1]? = wr.heap[W.heap.size + 1]? := h.three hb hg (by omega)
 have e2 : w2.heap[W.heap.size + 1 + 1]? = wr.heap[W.heap.size + 1 + 1]? := h.three hb hg (by omega)
 have hset : ∀ k, k ≠ W.heap.size + 1 + 1 → (w2.setCell ⟨W.heap.size + 1 + 1, 4, none⟩ l').heap[k]? = w2.heap[k]? := fun k hk => Below.heap_setCell _ _ _ _ hk
 have hbig := h.big
 have hbs := hb.size
 have hgs := hg.size
 simp only [World.size_alloc] at hgs
 have hlb : ∀ k, l.ownBlock = some k → k < wr.heap.size := fun k hk => (h.row.lt k hk).2
 have b1 : Below W.heap.size W w2 := ((h.old.trans (hb.mono h.old.size)).alloc (h.old.trans (hb.mono h.old.size)).size ob).grown hg (by have := h.old.size; simp; omega) (fun k hk => by have := (h.row.lt k hk).1; omega)
 refine ⟨?_, ?_, ?_, by rw [List.length_append, h.len]; rfl, fun x hx => ?_, ?_, fun j hj hj' => ?_, ?_, ?_⟩
 · rw [hset _ (by omega), e0]; exact h.box
 · rw [hset _ (by omega), e1]; exact h.res
 · rw [row_setC (e2.trans h.out)]
   rfl
 · rcases List.mem_append.1 hx with hx | hx
   · exact h.five x hx
   · rw [List.mem_singleton.1 hx]; rfl
 · rw [List.flatten_append]
   simp only [List.flatten_cons, List.flatten_nil, List.append_nil]
   refine ⟨hown.1, ?_⟩
   rcases hown.2 with hn0 | ⟨g, cap, cur, rfl, hbg, hgg, rest⟩
   · exact .inl hn0
   · exact .inr ⟨g, cap, cur, rfl, hbg, (hset g (by omega)).trans hgg, rest⟩
 · by_cases hjl : j < ncs.length
   · rw [List.getElem_append_left hjl]
     have hQ : ∀ b, (W.heap.size + 3 ≤ b ∧ l.ownBlock ≠ some b) → b < wr.heap.size → (W.heap.size + 3 ≤ b ∧ l'.ownBlock ≠ some b) := fun b hP hlt => by
      refine ⟨hP.1, ?_⟩
      rcases hw with ⟨e, _⟩ | e
      · rw [e]; exact hP.2
      · rw [e]; simp; omega
     have hS : ∀ b, (W.heap.size + 3 ≤ b ∧ l.ownBlock ≠ some b) → b < wr.heap.size → (w2.setCell ⟨W.heap.size + 1 + 1, 4, none⟩ l').heap[b]? = wr.heap[b]? := fun b hP hlt => by
      rw [hset b (by omega), hg.block b (by simp; omega) (fun e => hP.2 e.symm), heap_alloc_old w1 ob (show b < w1.heap.size by omega), hb.block b hlt]
     exact (h.each j hjl hj').stay hQ hS
   · have hje : j = ncs.length := by rw [List.length_append] at hj; simp at hj; omega
     have hji : j = i := by rw [hje, h.len]
     subst hji
     have ee : (ncs ++ [[.int .i64 t.sub[j].id, .string t.sub[j].nm, .int .i64 t.sub[j].rep, .int .i64 t.sub[j].kind, .slice a1 t.sub[j].sub.length c1]])[j] = [.int .i64 t.sub[j].id, .string t.sub[j].nm, .int .i64 t.sub[j].rep, .int .i64 t.sub[j].kind, .slice a1 t.sub[j].sub.length c1] := by
      rw [List.getElem_append_right (by omega)]
      simp
     rw [ee]
     have hQ : ∀ b, wr.heap.size ≤ b → b < w1.heap.size → (W.heap.size + 3 ≤ b ∧ l'.ownBlock ≠ some b) := fun b hP hlt => by
      refine ⟨by omega, ?_⟩
      rcases hw with ⟨e, hne⟩ | e
      · rw [e]
        intro e2
        have := hlb b e2
        omega
      · rw [e]; simp; omega
     have hS : ∀ b, wr.heap.size ≤ b → b < w1.heap.size → (w2.setCell ⟨W.heap.size + 1 + 1, 4, none⟩ l').heap[b]? = w1.heap[b]? := fun b hP hlt => by
      rw [hset b (by omega), hg.block b (by simp; omega) (fun e => by have := hlb b e.symm; omega), heap_alloc_old w1 ob hlt]
     exact NodeC.join c1 hc1 (hn.stay hQ hS)
 · exact ⟨b1.os, b1.tape, b1.output, by simp only [World.size_setCell]; exact b1.size, fun k hk => (hset k (by omega)).trans (b1.block k hk)⟩
 · simp only [World.size_setCell]; omega
set_option maxRecDepth 100000 in
set_option maxHeartbeats 1600000 in
theorem ownNode_any : ∀ (n : Nat) (t : Tr), SizeOf.sizeOf t < n → t.Sm → ∀ (P : Nat → Prop) (a : Option Addr) (c : Nat) (W : World), LiesN W P a t.sub →
    Calls Tryz.prog 8 #[nodeV t a c] W fun e w' => (∃ a' c', e = .returned (nodeV t a' c') ∧ LiesN w' (fun b => W.heap.size ≤ b) a' t.sub ∧ t.sub.length ≤ c') ∧ Below W.heap.size W w'
 | 0, t, h => absurd h (Nat.not_lt_zero _)
 | n + 1, t, hsz => fun hsm P a c W hl => by
  obtain ⟨iv, hvi, hv0, hv1, hv2⟩ := info_parts Tryz.infoN
  have HL : Hid (LiesN W P a t.sub) := hl
  have hlen := hsm.len
  have HSm : Hid t.Sm := hsm
  have HIH : Hid (∀ j (hj : j < t.sub.length) (P : Nat → Prop) (a : Option Addr) (c : Nat) (W : World), LiesN W P a t.sub[j].sub → Calls Tryz.prog 8 #[nodeV t.sub[j] a c] W fun e w' => (∃ a' c', e = .returned (nodeV t.sub[j] a' c') ∧ LiesN w' (fun b => W.heap.size ≤ b) a' t.sub[j].sub ∧ t.sub[j].sub.length ≤ c') ∧ Below W.heap.size W w') := fun j hj P a c W hl => ownNode_any n t.sub[j] (by have := t.sub_size j hj; omega) (hsm.at_ j hj) P a c W hl
  clear hl hsm hsz
  unfold nodeV
  go_enter Tryz.func8, Tryz.ntmps8
  go_wp2_with fail
  have HS : Hid _ := OI.start W t a c
  go_loopw [4] (fun x wr => ∃ (i : Nat) (l : Value) (ncs : List (List Value)), i ≤ t.sub.length ∧ x = .int .i64 i ∧ Hid (OI W t a c wr i l ncs)) (fun x _ => t.sub.length - (intOf x).toNat)
  case atStart => exact ⟨0, _, [], Nat.zero_le _, rfl, HS⟩
  case round =>
   clear HS
   obtain ⟨i, l, ncs, hik, rfl, HO⟩ := hrel
   obtain ⟨⟨p0, p1, p2, p3, p4⟩, _⟩ := row_five HO.out.box
   obtain ⟨⟨r0, r1, r2, r3, r4⟩, f0, f1, f2, f3, f4⟩ := row_five HO.out.out
   have hbig := HO.out.big
   have hb := HO.out.old
   by_cases hlt : i < t.sub.length
   · obtain ⟨b, o, a1, c1, rfl, d0, d1, d2, d3, d4, hl1⟩ := (HL.out.keep hb).at_ i hlt
     have HC : Hid _ := HIH.out i hlt P a1 c1 wr.drew (hl1.stay (fun _ h _ => h) (fun _ _ _ => rfl))
     clear hl1
     have HRow : Hid (wr.ownsRow (W.heap.size + 3) 24 5 l i ncs.flatten) := HO.out.row
     have HP : Hid (∀ (w1 w3 : World) (ob : Obj), Below wr.heap.size wr w1 → (w1.alloc ob).grownBy w3 l.ownBlock → w3.heap[W.heap.size + 1 + 1]? = some (.cells #[.int .i64 t.id, .string t.nm, .int .i64 t.rep, .int .i64 t.kind, l] 24 (0, 0))) := fun w1 w3 ob h1 h2 => (HO.out.three h1 h2 (by omega)).trans HO.out.out
     go_wp2_with fail
     go_region_law (first
      | (refine step_own_where _ rfl _ _ 22 rfl (W.heap.size + 3) 24 iv (.agg #[.int .i64 0, .string ⟨#[]⟩, .int .i64 0, .int .i64 0, .slice none 0 0]) 5 64 Tryz.underlying22 hvi hv0 hv1 hv2 rfl (by decide) _ i ncs.flatten rfl ((ow_kept HRow.out hb1).alloc _) ⟨w1.heap.size, 0, none⟩ 1 1 [.int .i64 t.sub[i].id, .string t.sub[i].nm, .int .i64 t.sub[i].rep, .int .i64 t.sub[i].kind, .slice a2 t.sub[i].sub.length c2] rfl rfl five_cells (by intro u hu; simp at hu; rcases hu with rfl | rfl | rfl | rfl | rfl <;> rfl) (by unfold maxLen; omega) (by omega) (by have := hb1.size; simp; omega) (by decide) ?_; intro l' w3 hown3 hgrow3 hwh; obtain ⟨g3, cap3, rfl⟩ := own_shape hown3; obtain ⟨⟨_, _, _, _, y4⟩, _, _, _, _, z4⟩ := row_five (HP.out _ _ _ hb1 hgrow3); have HOn : Hid _ := HO.out.push hlt hb1 hc2 HL2.out hown3 hgrow3 hwh)
      | (go_simp; refine Calls.mono HC.out ?_; rintro e w1 ⟨⟨a2, c2, rfl, hl2, hc2⟩, hb2⟩; have HL2 : Hid _ := hl2; clear hl2; have hb1 : Below wr.heap.size wr w1 := (Below.refl _ _).drew.trans hb2; have r4' := (hb1.cell (World.block_lt_of_cell? wr _ r4)).trans r4; have hs1 : W.heap.size + 1 + 1 < w1.heap.size := (by have := hb1.size; omega); have r5' : ∀ ob : Obj, (w1.alloc ob).cell? ⟨W.heap.size + 1 + 1, 4, none⟩ = some l := fun ob => (((Below.refl w1.heap.size w1).alloc (Nat.le_refl _) ob).cell hs1).trans r4'))
     all_goals
      go_wp2
      go_roundw
      case rel => exact ⟨i + 1, _, _, by omega, by go_num, HOn⟩
      case measure => simp [intOf]; omega
   · obtain rfl : i = t.sub.length := by omega
     obtain ⟨⟨s0, s1, s2, s3, s4⟩, t0, t1, t2, t3, t4⟩ := row_five HO.out.res
     obtain ⟨a', c', rfl, hcc⟩ := HO.out.shape
     have HLs : Hid (LiesN wr (fun b => W.heap.size ≤ b ∧ b ≠ W.heap.size + 1) a' t.sub) := HO.out.liesX
     have hrow := row_setC (j := 4) (v := .slice a' t.sub.length c') (row_setC (j := 3) (v := .int .i64 t.kind) (row_setC (j := 2) (v := .int .i64 t.rep) (row_setC (j := 1) (v := .string t.nm) (row_setC (j := 0) (v := .int .i64 t.id) HO.out.res))))
     have HRw : Hid _ := hrow
     clear hrow
     go_wp2
     refine bodyPost_ret (v := nodeV t a' c') (results_cell_row Tryz.results8 _ _ (W.heap.size + 1) 24 #[.int .i64 t.id, .string t.nm, .int .i64 t.rep, .int .i64 t.kind, .slice a' t.sub.length c'] (0, 0) _ rfl HRw.out Tryz.underlying24 rfl (by kernel_rfl)) rfl ⟨⟨a', c', rfl, ?_, hcc⟩, ?_⟩
     · exact HLs.out.stay (fun b h _ => h.1) (fun b h _ => by
         rw [Below.heap_setCell _ _ _ _ h.2, Below.heap_setCell _ _ _ _ h.2, Below.heap_setCell _ _ _ _ h.2, Below.heap_setCell _ _ _ _ h.2, Below.heap_setCell _ _ _ _ h.2])
     · exact ((((hb.setCell (by simp) _).setCell (by simp) _).setCell (by simp) _).setCell (by simp) _).setCell (by simp) _
theorem Tryz.infoP : (Tryz.prog.info? 62).map (fun i => (i.zero, i.size, i.bytes)) = some (some (.agg #[.int .i64 0, .string ⟨#[]⟩, .int .i64 0, .int .i64 0, .slice none 0 0, .int .i64 0, .int .i64 0]), 7, 80) := by kernel_rfl
structure Pn where
 t : Tr
 a : Option Addr
 c : Nat
 deep : Int
 around : Int
structure Pc where
 t : Tr
 deep : Int
 around : Int
def Pn.core (p : Pn) : Pc := ⟨p.t, p.deep, p.around⟩
def pnc (p : Pn) : List Value := [.int .i64 p.t.id, .string p.t.nm, .int .i64 p.t.rep, .int .i64 p.t.kind, .slice p.a p.t.sub.length p.c, .int .i64 p.deep, .int .i64 p.around]
mutual
def flT (acc : List Pc) : Tr → Nat → Int → List Pc
 | .node id nm rep kind sub, deep, around => if 2000 < acc.length ∨ 100 < deep then acc else flL (acc ++ [⟨.node id nm rep kind sub, deep, around⟩]) sub (deep + 1) acc.length
def flL (acc : List Pc) : List Tr → Nat → Int → List Pc
 | [], _, _ => acc
 | t :: ts, deep, around => flL (flT acc t deep around) ts deep around
end
theorem flT_eq (acc : List Pc) (t : Tr) (deep : Nat) (around : Int) : flT acc t deep around = if 2000 < acc.length ∨ 100 < deep then acc else flL (acc ++ [⟨t, deep, around⟩]) t.sub (deep + 1) acc.length := by
 cases t with
 | node id nm rep kind sub => rw [flT]; rfl
theorem flL_app : ∀ (xs ys : List Tr) (acc : List Pc) (deep : Nat) (around : Int), flL acc (xs ++ ys) deep around = flL (flL acc xs deep around) ys deep around
 | [], ys, acc, deep, around => by rw [List.nil_append, flL]
 | x :: xs, ys, acc, deep, around => by rw [List.cons_append, flL, flL, flL_app xs ys]
theorem flL_take (ts : List Tr) (i : Nat) (hi : i < ts.length) (acc : List Pc) (deep : Nat) (around : Int) : flL acc (ts.take (i + 1)) deep around = flT (flL acc (ts.take i) deep around) ts[i] deep around := by
 rw [List.take_succ_eq_append_getElem hi, flL_app, flL, flL]
theorem seven_cells {w : World} {x0 x1 x2 x3 x4 x5 x6 : Value} {T : TypeId} : ∀ j u, [x0, x1, x2, x3, x4, x5, x6][j]? = some u → (w.alloc (.cells #[x0, x1, x2, x3, x4, x5, x6] T)).cell? ((⟨w.heap.size, 0, none⟩ : Addr).add j) = some u := fun j u h => by
 rw [addr_plus, Nat.zero_add]
 refine cell_alloc_at ?_ rfl
 simpa using h
structure FR (B : Nat) (W : World) (l : Value) (w' : World) (l' : Value) (ps : List Pn) : Prop where
 row : w'.ownsRow B 62 7 l' ps.length (ps.flatMap pnc)
 grown : W.grownBy w' l.ownBlock
 where_ : l'.ownBlock = l.ownBlock ∨ ∀ k, l'.ownBlock = some k → W.heap.size ≤ k
theorem FR.refl {B : Nat} {W : World} {l : Value} {ps : List Pn} (h : W.ownsRow B 62 7 l ps.length (ps.flatMap pnc)) : FR B W l W l ps := ⟨h, ⟨rfl, rfl, rfl, Nat.le_refl _, fun _ _ _ => rfl⟩, Or.inl rfl⟩
theorem FR.trans {B : Nat} {W w1 w2 : World} {l l1 l2 : Value} {ps qs : List Pn} (h : FR B W l w1 l1 ps) (h2 : FR B w1 l1 w2 l2 qs) : FR B W l w2 l2 qs := by
 refine ⟨h2.row, ⟨h2.grown.os.trans h.grown.os, h2.grown.tape.trans h.grown.tape, h2.grown.output.trans h.grown.output, Nat.le_trans h.grown.size h2.grown.size, fun k hk hne => ?_⟩, ?_⟩
 · have hs := h.grown.size
   rw [h2.grown.block k (by omega) (fun e => ?_), h.grown.block k hk hne]
   rcases h.where_ with e1 | e1
   · exact hne (e.trans e1)
   · have := e1 k e.symm; omega
 · have hs := h.grown.size
   rcases h2.where_ with e2 | e2
   · rcases h.where_ with e1 | e1
     · exact Or.inl (e2.trans e1)
     · exact Or.inr fun k hk => e1 k (e2 ▸ hk)
   · exact Or.inr fun k hk => by have := e2 k hk; omega
theorem grow_alloc {w w2 : World} {ob : Obj} {r : Option Nat} (hg : (w.alloc ob).grownBy w2 r) : w.grownBy w2 r :=
 ⟨hg.os, hg.tape, hg.output, by have := hg.size; simp at this; omega, fun k hk hne => by rw [hg.block k (by simp; omega) hne, heap_alloc_old w ob hk]⟩
theorem FR.alloc {B : Nat} {W w1 : World} {l l1 : Value} {ps : List Pn} (h : FR B W l w1 l1 ps) (ob : Obj) : FR B W l (w1.alloc ob) l1 ps :=
 h.trans ⟨h.row.alloc ob, ⟨rfl, rfl, rfl, by simp, fun k hk _ => heap_alloc_old w1 ob hk⟩, Or.inl rfl⟩
theorem FR.push {B : Nat} {W wr w2 : World} {l l1 l2 : Value} {ps : List Pn} {p : Pn} (h : FR B W l wr l1 ps) {ob : Obj} (hown : w2.ownsRow B 62 7 l2 (ps.length + 1) (ps.flatMap pnc ++ pnc p)) (hg : (wr.alloc ob).grownBy w2 l1.ownBlock) (hw : l2.ownBlock = l1.ownBlock ∧ l1.ownBlock ≠ none ∨ l2.ownBlock = some (wr.alloc ob).heap.size) : FR B W l w2 l2 (ps ++ [p]) := by
 refine h.trans (ps := ps) ⟨by rw [List.length_append, List.flatMap_append]; simpa using hown, grow_alloc hg, ?_⟩
 rcases hw with ⟨e, _⟩ | e
 · exact Or.inl e
 · right
   intro k hk
   rw [e] at hk
   simp at hk
   omega
mutual
theorem flT_len : ∀ (t : Tr) (acc : List Pc) (deep : Nat) (around : Int), acc.length ≤ 2001 → (flT acc t deep around).length ≤ 2001
 | .node id nm rep kind sub, acc, deep, around, h => by
  rw [flT]
  split
  · exact h
  · exact flL_len sub _ _ _ (by rw [List.length_append]; simp; omega)
theorem flL_len : ∀ (ts : List Tr) (acc : List Pc) (deep : Nat) (around : Int), acc.length ≤ 2001 → (flL acc ts deep around).length ≤ 2001
 | [], acc, deep, around, h => by rw [flL]; exact h
 | t :: ts, acc, deep, around, h => by rw [flL]; exact flL_len ts _ _ _ (flT_len t _ _ _ h)
end
theorem FR.below {B : Nat} {W w1 : World} {l l1 : Value} {ps qs : List Pn} (h : FR B W l w1 l1 ps) (h0 : W.ownsRow B 62 7 l qs.length (qs.flatMap pnc)) (hB : B ≤ W.heap.size) : Below B W w1 :=
 ⟨h.grown.os, h.grown.tape, h.grown.output, h.grown.size, fun k hk => h.grown.block k (by omega) (fun e => by have := (h0.lt k e.symm).1; omega)⟩
theorem pn_shape {w : World} {B e n : Nat} {v : Value} {xs : List Value} (h : w.ownsRow B e 7 v n xs) : ∃ a c, v = .slice a n c := by
 rcases h.2 with ⟨rfl, rfl⟩ | ⟨g, cap, cur, rfl, _⟩
 · exact ⟨none, 0, rfl⟩
 · exact ⟨_, cap, rfl⟩
theorem pn_apart {w : World} {B n g : Nat} {v : Value} {xs : List Value} {cs : Array Value} (h : w.ownsRow B 62 7 v n xs) (hg : w.heap[g]? = some (.cells cs 24 (0, 0))) : some g ≠ v.ownBlock := by
 rcases h.2 with ⟨rfl, _⟩ | ⟨k, cap, cur, rfl, _, hk, _⟩
 · simp [Value.ownBlock]
 · intro e
   simp [Value.ownBlock] at e
   subst e
   rw [hk] at hg
   injection hg with hg
   injection hg with _ hg _
   exact absurd hg (by decide)
def RetFl (B : Nat) (W : World) (l : Value) (want : List Pc) (e : Ending) (w' : World) : Prop :=
 ∃ l' ps, e = .returned l' ∧ ps.map Pn.core = want ∧ FR B W l w' l' ps
set_option maxRecDepth 100000 in
set_option maxHeartbeats 1600000 in
theorem flat_any (B : Nat) : ∀ (n : Nat) (t : Tr), SizeOf.sizeOf t < n → t.Sm → ∀ (l : Value) (ps : List Pn) (deep : Nat) (around : Int) (a : Option Addr) (c : Nat) (W : World), LiesN W (fun b => b < B) a t.sub → W.ownsRow B 62 7 l ps.length (ps.flatMap pnc) → B ≤ W.heap.size → ps.length ≤ 2001 → deep ≤ 101 →
    Calls Tryz.prog 35 #[l, nodeV t a c, .int .i64 (deep : Nat), .int .i64 around] W fun e w' => RetFl B W l (flT (ps.map Pn.core) t deep around) e w'
 | 0, t, h => absurd h (Nat.not_lt_zero _)
 | n + 1, t, hsz => fun hsm l ps deep around a c W hl hrow hB hps hdeep => by
  obtain ⟨iv, hvi, hv0, hv1, hv2⟩ := info_parts Tryz.infoP
  have HL : Hid (LiesN W (fun b => b < B) a t.sub) := hl
  have hlen := hsm.len
  have HR : Hid (W.ownsRow B 62 7 l ps.length (ps.flatMap pnc)) := hrow
  obtain ⟨la, lc, rfl⟩ := pn_shape hrow
  have HIH : Hid (∀ j (hj : j < t.sub.length) (l : Value) (ps : List Pn) (a : Option Addr) (c : Nat) (W : World) (d : Nat) (r : Int), LiesN W (fun b => b < B) a t.sub[j].sub → W.ownsRow B 62 7 l ps.length (ps.flatMap pnc) → B ≤ W.heap.size → ps.length ≤ 2001 → d ≤ 101 → Calls Tryz.prog 35 #[l, nodeV t.sub[j] a c, .int .i64 (d : Nat), .int .i64 r] W fun e w' => RetFl B W l (flT (ps.map Pn.core) t.sub[j] d r) e w') := fun j hj l ps a c W d r h1 h2 h3 h4 h5 => flat_any B n t.sub[j] (by have := t.sub_size j hj; omega) (hsm.at_ j hj) l ps d r a c W h1 h2 h3 h4 h5
  have HEq := flT_eq (ps.map Pn.core) t deep around
  rw [List.length_map] at HEq
  clear hl hsm hsz hrow
  unfold nodeV
  by_cases hstop : 2000 < ps.length ∨ 100 < deep
  · rw [if_pos hstop] at HEq
    have HQ : Hid _ := HEq
    have hcase : decide ((2000 : Int) < (ps.length : Int)) = true ∨ (decide ((2000 : Int) < (ps.length : Int)) = false ∧ decide ((100 : Int) < (deep : Int)) = true) := by
     by_cases h : 2000 < ps.length
     · left; simp; omega
     · right; exact ⟨by simp; omega, by simp; omega⟩
    clear hstop HEq
    rcases hcase with q1 | ⟨q1, q2⟩
    all_goals
     go_enter Tryz.func35, Tryz.ntmps35
     go_wp2
     go_ret
     exact ⟨_, ps, rfl, HQ.out.symm, (FR.refl HR.out).alloc _⟩
  · rw [if_neg hstop] at HEq
    have HQ : Hid _ := HEq
    have q1 : decide ((2000 : Int) < (ps.length : Int)) = false := by simp; omega
    have q2 : decide ((100 : Int) < (deep : Int)) = false := by simp; omega
    have q1' : ¬ 2000 < ps.length := by omega
    have q2' : ¬ 100 < deep := by omega
    clear hstop HEq
    obtain ⟨d1, HD⟩ : ∃ d1, Hid (d1 = deep + 1) := ⟨_, rfl⟩
    have hdi : (deep : Int) + 1 = (d1 : Int) := by rw [HD.out]; omega
    have hd101 : d1 ≤ 101 := by rw [HD.out]; omega
    have H7 : Hid (∀ j u, (pnc ⟨t, a, c, deep, around⟩)[j]? = some u → ((W.alloc (.cells #[.int .i64 t.id, .string t.nm, .int .i64 t.rep, .int .i64 t.kind, .slice a t.sub.length c] 24)).alloc (.cells #[.int .i64 t.id, .string t.nm, .int .i64 t.rep, .int .i64 t.kind, .slice a t.sub.length c, .int .i64 (deep : Nat), .int .i64 around] 62)).cell? ((⟨W.heap.size + 1, 0, none⟩ : Addr).add j) = some u) := fun j u h => by
     have := seven_cells (w := W.alloc (.cells #[.int .i64 t.id, .string t.nm, .int .i64 t.rep, .int .i64 t.kind, .slice a t.sub.length c] 24)) (T := 62) j u h
     rwa [show (W.alloc (.cells #[.int .i64 t.id, .string t.nm, .int .i64 t.rep, .int .i64 t.kind, .slice a t.sub.length c] 24)).heap.size = W.heap.size + 1 by simp] at this
    have HBox : Hid ((W.alloc (.cells #[.int .i64 t.id, .string t.nm, .int .i64 t.rep, .int .i64 t.kind, .slice a t.sub.length c] 24)).heap[W.heap.size]? = some (.cells #[.int .i64 t.id, .string t.nm, .int .i64 t.rep, .int .i64 t.kind, .slice a t.sub.length c] 24 (0, 0))) := heap_alloc_new W _
    go_enter Tryz.func35, Tryz.ntmps35
    go_wp2_with (at_builtin; refine wpList_append_where _ rfl _ _ 59 rfl B 62 iv (.agg #[.int .i64 0, .string ⟨#[]⟩, .int .i64 0, .int .i64 0, .slice none 0 0, .int .i64 0, .int .i64 0]) 7 80 Tryz.underlying59 hvi hv0 hv1 hv2 rfl (by decide) _ ps.length (ps.flatMap pnc) rfl ((HR.out.alloc _).alloc _) ⟨W.heap.size + 1, 0, none⟩ 1 1 (pnc ⟨t, a, c, deep, around⟩) rfl rfl H7.out (by intro u hu; simp [pnc] at hu; rcases hu with rfl | rfl | rfl | rfl | rfl | rfl | rfl <;> rfl) (by unfold maxLen; omega) (by omega) (by simp; omega) (by decide) ?_; intro l1 w1 hown1 hgrow1 hwh1)
    have HF1 : Hid (FR B W (.slice la ps.length lc) w1 l1 (ps ++ [⟨t, a, c, deep, around⟩])) := ((FR.refl HR.out).alloc _).push (p := ⟨t, a, c, deep, around⟩) hown1 hgrow1 hwh1
    have HB1 : Hid (w1.heap[W.heap.size]? = some (.cells #[.int .i64 t.id, .string t.nm, .int .i64 t.rep, .int .i64 t.kind, .slice a t.sub.length c] 24 (0, 0))) := by
     show _ = _
     exact (hgrow1.block W.heap.size (by simp; omega) (pn_apart (HR.out.alloc _) HBox.out)).trans (blk_alloc HBox.out)
    have HC1 : Hid ((ps ++ [⟨t, a, c, deep, around⟩] : List Pn).map Pn.core = flL (ps.map Pn.core ++ [⟨t, deep, around⟩]) (t.sub.take 0) d1 ps.length) := by
     show _ = _
     rw [List.take_zero, flL, List.map_append]
     rfl
    clear hown1 hgrow1 hwh1 H7 HBox
    go_loopw [0, 10] (fun lv x wr => ∃ (i : Nat) (qs : List Pn), i ≤ t.sub.length ∧ x = .int .i64 i ∧ Hid (qs.map Pn.core = flL (ps.map Pn.core ++ [⟨t, deep, around⟩]) (t.sub.take i) d1 ps.length) ∧ Hid (FR B W (.slice la ps.length lc) wr lv qs) ∧ Hid (wr.heap[W.heap.size]? = some (.cells #[.int .i64 t.id, .string t.nm, .int .i64 t.rep, .int .i64 t.kind, .slice a t.sub.length c] 24 (0, 0)))) (fun _ x _ => t.sub.length - (intOf x).toNat)
    case atStart => exact ⟨0, _, Nat.zero_le _, rfl, HC1, HF1, HB1⟩
    case round =>
     clear HC1 HF1 HB1
     obtain ⟨i, qs, hik, rfl, HC, HF, HB⟩ := hrel
     obtain ⟨⟨p0, p1, p2, p3, p4⟩, _⟩ := row_five HB.out
     obtain ⟨ka, kc, rfl⟩ := pn_shape HF.out.row
     have hgs := HF.out.grown.size
     by_cases hlt : i < t.sub.length
     · have HLr : Hid (LiesN wr (fun b => b < B) a t.sub) := HL.out.stay (fun _ h _ => h) (fun b h _ => (HF.out.below HR.out hB).block b h)
       obtain ⟨b, o, a1, c1, rfl, d0, e1, d2, d3, d4, hl1⟩ := HLr.out.at_ i hlt
       have HC2 : Hid _ := HIH.out i hlt (.slice ka qs.length kc) qs a1 c1 wr d1 (ps.length : Int) hl1 HF.out.row (by omega) (by
        have h := congrArg List.length HC.out
        rw [List.length_map] at h
        rw [h]
        exact flL_len _ _ _ _ (by rw [List.length_append, List.length_map]; simp; omega)) hd101
       clear hl1
       go_wp2_with fail
       refine Calls.mono HC2.out ?_
       clear HC2
       rintro e w2 ⟨l2, ps2, rfl, hcore, hF2⟩
       have HN : Hid (ps2.map Pn.core = flL (ps.map Pn.core ++ [⟨t, deep, around⟩]) (t.sub.take (i + 1)) d1 ps.length) := by
        show _ = _
        rw [hcore, HC.out, ← flL_take t.sub i hlt]
       have HF3 : Hid _ := HF.out.trans hF2
       have HB3 : Hid (w2.heap[W.heap.size]? = some (.cells #[.int .i64 t.id, .string t.nm, .int .i64 t.rep, .int .i64 t.kind, .slice (some ⟨b, o, none⟩) t.sub.length c] 24 (0, 0))) := by
        show _ = _
        rw [hF2.grown.block W.heap.size (lt_of_block HB.out) (pn_apart HF.out.row HB.out)]
        exact HB.out
       clear hcore hF2
       go_wp2
       go_roundw
       case rel => exact ⟨i + 1, ps2, by omega, by go_num, HN, HF3, HB3⟩
       case measure => simp [intOf]; omega
     · obtain rfl : i = t.sub.length := by omega
       have HN : Hid (qs.map Pn.core = flT (ps.map Pn.core) t deep around) := by
        show _ = _
        rw [HC.out, List.take_length, HQ.out, HD.out]
       go_wp2
       go_ret
       exact ⟨_, qs, rfl, HN.out, HF.out⟩
def fl (t : Tr) : List Pc := flT [] t 1 (-1)
theorem pnc_at : ∀ (ps : List Pn) (i k : Nat), k < 7 → (ps.flatMap pnc)[i * 7 + k]? = (ps[i]?).bind fun p => (pnc p)[k]?
 | [], i, k, _ => by simp
 | p :: ps, i, k, hk => by
  have hl : (pnc p).length = 7 := rfl
  rw [List.flatMap_cons]
  cases i with
  | zero => rw [List.getElem?_append_left (by omega)]; simp
  | succ i =>
   rw [List.getElem?_append_right (by omega), show (i + 1) * 7 + k - (pnc p).length = i * 7 + k by omega, pnc_at ps i k hk]
   simp
theorem pn_cell {w : World} {B e : Nat} {a : Option Addr} {c : Nat} {ps : List Pn} (h : w.ownsRow B e 7 (.slice a ps.length c) ps.length (ps.flatMap pnc)) (i : Nat) (hi : i < ps.length) : ∃ g, a = some ⟨g, 0, none⟩ ∧ ∀ k u, k < 7 → (pnc ps[i])[k]? = some u → w.cell? ⟨g, i * 7 + k, none⟩ = some u := by
 rcases h.2 with ⟨_, h0⟩ | ⟨g, cap, cur, hv, _⟩
 · exact absurd hi (by omega)
 · have hv' := hv
   injection hv' with ha _ _
   refine ⟨g, ha, fun k u hk hu => ?_⟩
   have h1 := h.cells (g := g) (by rw [ha]; rfl) (i * 7 + k) u (by rw [pnc_at ps i k hk, List.getElem?_eq_getElem hi]; exact hu)
   rw [addr_plus, Nat.zero_add] at h1
   exact h1
def nmS (l : List Pc) : Nat := (l.map fun p => p.t.nm.size).sum
theorem nmS_snoc (l : List Pc) (p : Pc) : nmS (l ++ [p]) = nmS l + p.t.nm.size := by simp [nmS]
theorem Tr.Sm.all {t : Tr} (h : t.Sm) : ∀ u ∈ t.sub, u.Sm := fun u hu => by
 obtain ⟨j, hj, rfl⟩ := List.getElem_of_mem hu
 exact h.at_ j hj
mutual
theorem flT_sm : ∀ (t : Tr) (acc : List Pc) (deep : Nat) (around : Int), t.Sm → (∀ p ∈ acc, p.t.Sm) → ∀ p ∈ flT acc t deep around, p.t.Sm
 | .node id nm rep kind sub, acc, deep, around, ht, h => by
  rw [flT]
  split
  · exact h
  · refine flL_sm sub _ _ _ (fun u hu => ht.all u hu) (fun p hp => ?_)
    rcases List.mem_append.1 hp with hp | hp
    · exact h p hp
    · rw [List.mem_singleton.1 hp]; exact ht
theorem flL_sm : ∀ (ts : List Tr) (acc : List Pc) (deep : Nat) (around : Int), (∀ u ∈ ts, u.Sm) → (∀ p ∈ acc, p.t.Sm) → ∀ p ∈ flL acc ts deep around, p.t.Sm
 | [], acc, deep, around, _, h => by rw [flL]; exact h
 | t :: ts, acc, deep, around, ht, h => by
  rw [flL]
  exact flL_sm ts _ _ _ (fun u hu => ht u (by simp [hu])) (flT_sm t _ _ _ (ht t (by simp)) h)
end
set_option maxRecDepth 100000 in
set_option maxHeartbeats 800000 in
theorem flatF_any (t : Tr) (hsm : t.Sm) (P : Nat → Prop) (a : Option Addr) (c : Nat) (W : World) (hl : LiesN W P a t.sub) :
    Calls Tryz.prog 22 #[nodeV t a c] W fun e w' => (∃ (ps : List Pn) (la : Option Addr) (lc : Nat), e = .returned (.slice la ps.length lc) ∧ ps.map Pn.core = fl t ∧ w'.ownsRow W.heap.size 62 7 (.slice la ps.length lc) ps.length (ps.flatMap pnc)) ∧ Below W.heap.size W w' := by
 have hb0 : ∀ ob : Obj, Below W.heap.size W (W.alloc ob) := fun ob => (Below.refl _ _).alloc (Nat.le_refl _) ob
 have HC : Hid (∀ ob : Obj, Calls Tryz.prog 35 #[.slice none 0 0, nodeV t a c, .int .i64 ((1 : Nat) : Int), .int .i64 (-1)] (W.alloc ob) fun e w' => RetFl (W.alloc ob).heap.size (W.alloc ob) (.slice none 0 0) (flT ([] : List Pc) t 1 (-1)) e w') := fun ob =>
  flat_any (W.alloc ob).heap.size (SizeOf.sizeOf t + 1) t (Nat.lt_succ_self _) hsm (.slice none 0 0) [] 1 (-1) a c (W.alloc ob) ((hl.keep (hb0 ob)).stay (fun _ _ h => h) (fun _ _ _ => rfl)) (World.ownsRow_nil _ _ _ _) (Nat.le_refl _) (by simp) (by omega)
 have H1 : Hid (∀ ob : Obj, Below W.heap.size W (W.alloc ob)) := hb0
 clear hl hb0
 unfold nodeV at *
 go_enter Tryz.func22, Tryz.ntmps22
 go_wp2_with fail
 refine Calls.mono (HC.out _) ?_
 rintro e w1 ⟨l', ps, rfl, hc, hF⟩
 obtain ⟨la, lc, rfl⟩ := pn_shape hF.row
 have HCo : Hid (ps.map Pn.core = fl t) := hc
 have HRw := hF.row
 have HBl := hF.below (qs := []) (World.ownsRow_nil _ _ _ _) (Nat.le_refl _)
 have HB : Hid (Below W.heap.size W w1) := (H1.out _).trans (HBl.mono (by simp))
 have HRw2 : Hid (w1.ownsRow W.heap.size 62 7 (.slice la ps.length lc) ps.length (ps.flatMap pnc)) := by
  refine ⟨HRw.1, ?_⟩
  rcases HRw.2 with h | ⟨g, cap, cur, h1, h2, h3⟩
  · exact .inl h
  · exact .inr ⟨g, cap, cur, h1, by simp at h2; omega, h3⟩
 clear hc hF HRw HBl
 go_wp2
 go_ret
 exact ⟨⟨ps, la, lc, rfl, HCo.out, HRw2.out⟩, HB.out⟩
set_option maxRecDepth 100000 in
set_option maxHeartbeats 1600000 in
theorem tame_any (t : Tr) (hsm : t.Sm) (P : Nat → Prop) (a : Option Addr) (c : Nat) (W : World) (hl : LiesN W P a t.sub) :
    Calls Tryz.prog 5 #[nodeV t a c] W fun e w' => e = .returned (.bool (decide ((fl t).length ≤ 200 ∧ nmS (fl t) ≤ 4000))) ∧ Below W.heap.size W w' := by
 have H1 : Hid (∀ ob : Obj, Below W.heap.size W (W.alloc ob)) := fun ob => (Below.refl _ _).alloc (Nat.le_refl _) ob
 have HC : Hid (∀ ob : Obj, Calls Tryz.prog 22 #[nodeV t a c] (W.alloc ob) fun e w' => (∃ (ps : List Pn) (la : Option Addr) (lc : Nat), e = .returned (.slice la ps.length lc) ∧ ps.map Pn.core = fl t ∧ w'.ownsRow (W.alloc ob).heap.size 62 7 (.slice la ps.length lc) ps.length (ps.flatMap pnc)) ∧ Below (W.alloc ob).heap.size (W.alloc ob) w') := fun ob => flatF_any t hsm P a c (W.alloc ob) (hl.keep (H1.out ob))
 have HIn : Hid (∀ p ∈ fl t, p.t.Sm) := flT_sm t [] 1 (-1) hsm (fun p hp => by simp at hp)
 have HLn : Hid ((fl t).length ≤ 2001) := flT_len t [] 1 (-1) (by simp)
 clear hl hsm
 unfold nodeV at *
 go_enter Tryz.func5, Tryz.ntmps5
 go_wp2_with fail
 refine Calls.mono (HC.out _) ?_
 rintro e w1 ⟨⟨ps, la, lc, rfl, hco, hrow⟩, hb⟩
 have HCo : Hid (ps.map Pn.core = fl t) := hco
 have HR : Hid _ := hrow
 have HB : Hid (Below W.heap.size W w1) := (H1.out _).trans (hb.mono (by simp))
 have HPL : Hid (ps.length = (fl t).length) := by show _ = _; rw [← hco, List.length_map]
 have hpl : ps.length ≤ 2001 := by rw [HPL.out]; exact HLn.out
 clear hco hrow hb HC
 go_wp2_with fail
 go_loopw [4, 5] (fun y x wr => ∃ i m : Nat, i ≤ ps.length ∧ x = .int .i64 i ∧ y = .int .i64 (m : Nat) ∧ m ≤ 2098200576 ∧ Hid (m ≤ i * 1048576) ∧ Hid (m = nmS ((fl t).take i)) ∧ wr = w1) (fun _ x _ => ps.length - (intOf x).toNat)
 case atStart => exact ⟨0, 0, Nat.zero_le _, rfl, rfl, Nat.zero_le _, Nat.zero_le _, rfl, rfl⟩
 case round =>
  obtain ⟨i, m, hik, rfl, rfl, hm, HMI, HM, rfl⟩ := hrel
  by_cases hlt : i < ps.length
  · obtain ⟨g, rfl, hc⟩ := pn_cell HR.out i hlt
    have hc1 := hc 1 _ (by omega) rfl
    have hfi : i < (fl t).length := by rw [← HPL.out]; exact hlt
    have HE : Hid ((fl t)[i].t = ps[i].t) := by
     show _ = _
     have h : (fl t)[i] = ps[i].core := by
      have := HCo.out
      simp only [← this, List.getElem_map]
     rw [h]
     rfl
    have hsz : ps[i].t.nm.size ≤ 1048576 := by
     have h := (HIn.out _ (List.getElem_mem hfi)).nm
     rw [HE.out] at h
     exact h
    have HN : Hid (m + ps[i].t.nm.size = nmS ((fl t).take (i + 1))) := by
     show _ = _
     rw [List.take_succ_eq_append_getElem hfi, nmS_snoc, HM.out, HE.out]
    clear hc
    generalize ps[i].t.nm = s at *
    have HMM : Hid (m + s.size ≤ (i + 1) * 1048576) := by show _ ≤ _; have := HMI.out; omega
    have hnum : m + s.size ≤ 2098200576 := by have := HMM.out; omega
    go_wp2
    go_roundw
    case rel => exact ⟨i + 1, m + s.size, by omega, by go_num, by go_num, hnum, HMM, HN, by first | rfl | trivial⟩
    case measure => simp [intOf]; omega
  · obtain rfl : i = ps.length := by omega
    have HM2 : Hid (m = nmS (fl t)) := by
     show _ = _
     rw [HM.out, HPL.out, List.take_length]
    by_cases h1 : ps.length ≤ 200
    · have q1 : decide ((ps.length : Int) ≤ 200) = true := by simp; omega
      go_wp2
      go_ret
      refine ⟨ret_b ?_, HB.out⟩
      have h2 := HM2.out
      have h3 := HPL.out
      first | (rw [h2, Bool.eq_iff_iff, decide_eq_true_iff, decide_eq_true_iff]; omega) | (rw [eq_comm, decide_eq_false_iff_not]; omega)
    · have q1 : decide ((ps.length : Int) ≤ 200) = false := by simp; omega
      go_wp2
      go_ret
      refine ⟨ret_b ?_, HB.out⟩
      have h2 := HM2.out
      have h3 := HPL.out
      first | (rw [h2, Bool.eq_iff_iff, decide_eq_true_iff, decide_eq_true_iff]; omega) | (rw [eq_comm, decide_eq_false_iff_not]; omega)
mutual
def Tr.cnt : Tr → Nat
 | .node _ _ _ _ sub => 1 + cntL sub
def cntL : List Tr → Nat
 | [] => 0
 | t :: ts => t.cnt + cntL ts
end
theorem Tr.cnt_eq (t : Tr) : t.cnt = 1 + cntL t.sub := by
 cases t with
 | node id nm rep kind sub => rw [Tr.cnt]; rfl
theorem cntL_drop (ts : List Tr) (i : Nat) (h : i < ts.length) : cntL (ts.drop i) = ts[i].cnt + cntL (ts.drop (i + 1)) := by
 rw [List.drop_eq_getElem_cons h, cntL]
section
variable {S : Type} (st : S → List Tr → Tr → Bool × S)
mutual
def wkT (s : S) (path : List Tr) : Tr → Bool × S
 | .node id nm rep kind sub => if (st s path (.node id nm rep kind sub)).1 = true then wkL (st s path (.node id nm rep kind sub)).2 (path ++ [.node id nm rep kind sub]) sub else st s path (.node id nm rep kind sub)
def wkL (s : S) (path : List Tr) : List Tr → Bool × S
 | [] => (true, s)
 | t :: ts => if (wkT s path t).1 = true then wkL (wkT s path t).2 path ts else wkT s path t
end
theorem wkT_eq (s : S) (path : List Tr) (t : Tr) : wkT st s path t = if (st s path t).1 = true then wkL st (st s path t).2 (path ++ [t]) t.sub else st s path t := by
 cases t with
 | node id nm rep kind sub => rw [wkT]; rfl
mutual
theorem wkT_more (μ : S → Nat) (h : ∀ s path t, μ (st s path t).2 ≤ μ s + 1) : ∀ (t : Tr) (s : S) (path : List Tr), μ (wkT st s path t).2 ≤ μ s + t.cnt
 | .node id nm rep kind sub, s, path => by
  have h1 := h s path (.node id nm rep kind sub)
  rw [wkT, Tr.cnt]
  split
  · have h2 := wkL_more μ h sub (st s path (.node id nm rep kind sub)).2 (path ++ [.node id nm rep kind sub])
    omega
  · omega
theorem wkL_more (μ : S → Nat) (h : ∀ s path t, μ (st s path t).2 ≤ μ s + 1) : ∀ (ts : List Tr) (s : S) (path : List Tr), μ (wkL st s path ts).2 ≤ μ s + cntL ts
 | [], s, path => by rw [wkL, cntL]; exact Nat.le_refl _
 | t :: ts, s, path => by
  have h1 := wkT_more μ h t s path
  rw [wkL, cntL]
  split
  · have h2 := wkL_more μ h ts (wkT st s path t).2 path
    omega
  · omega
end
theorem wkL_app : ∀ (xs ys : List Tr) (s : S) (path : List Tr), wkL st s path (xs ++ ys) = if (wkL st s path xs).1 = true then wkL st (wkL st s path xs).2 path ys else wkL st s path xs
 | [], ys, s, path => by rw [List.nil_append, wkL]; rfl
 | x :: xs, ys, s, path => by
  rw [List.cons_append, wkL, wkL]
  by_cases h : (wkT st s path x).1 = true
  · rw [if_pos h, if_pos h, wkL_app xs ys]
  · rw [if_neg h, if_neg h, if_neg h]
theorem wkL_take (s : S) (path : List Tr) (ts : List Tr) (i : Nat) (hi : i < ts.length) (s1 : S) (h : wkL st s path (ts.take i) = (true, s1)) : wkL st s path (ts.take (i + 1)) = wkT st s1 path ts[i] := by
 rw [List.take_succ_eq_append_getElem hi, wkL_app, h]
 show (if true = true then _ else _) = _
 rw [if_pos rfl, wkL]
 by_cases h1 : (wkT st s1 path ts[i]).1 = true
 · rw [if_pos h1, wkL, ← h1]
 · rw [if_neg h1]
theorem wkL_stop (s : S) (path : List Tr) (ts : List Tr) (i : Nat) (h : (wkL st s path (ts.take i)).1 = false) : wkL st s path ts = wkL st s path (ts.take i) := by
 have e := wkL_app st (ts.take i) (ts.drop i) s path
 rw [List.take_append_drop, h] at e
 rw [e]
 rfl
end
def IsNB (W : World) (k : Nat) : Prop := ∃ cs z, W.heap[k]? = some (.cells cs 24 z)
def PathR (W : World) (B Bw : Nat) (v : Value) (path : List Tr) : Prop :=
 ∃ ncs : List (List Value), ncs.length = path.length ∧ (∀ x ∈ ncs, x.length = 5) ∧ W.ownsRow Bw 24 5 v path.length ncs.flatten ∧ ∀ j (h : j < path.length) (h' : j < ncs.length), NodeC W (fun b => b < B) path[j] ncs[j]
structure VFr (B Bw : Nat) (W w' : World) : Prop where
 below : Below B W w'
 rows : ∀ k, Bw ≤ k → k < W.heap.size → IsNB W k → w'.heap[k]? = W.heap[k]?
structure WFr (B Bw : Nat) (v : Value) (W w' : World) : Prop where
 below : Below B W w'
 rows : ∀ k, Bw ≤ k → k < W.heap.size → IsNB W k → some k ≠ v.ownBlock → w'.heap[k]? = W.heap[k]?
theorem own_same {w w' : World} {base e size n : Nat} {v : Value} {xs : List Value} (h : w.ownsRow base e size v n xs) (hs : ∀ k, v.ownBlock = some k → w'.heap[k]? = w.heap[k]?) : w'.ownsRow base e size v n xs := by
 refine ⟨h.1, ?_⟩
 rcases h.2 with h0 | ⟨g, cap, cur, rfl, hbg, hg, rest⟩
 · exact .inl h0
 · exact .inr ⟨g, cap, cur, rfl, hbg, (hs g rfl).trans hg, rest⟩
theorem own_block {w : World} {base e size n : Nat} {v : Value} {xs : List Value} (h : w.ownsRow base e size v n xs) {k : Nat} (hk : v.ownBlock = some k) : base ≤ k ∧ k < w.heap.size ∧ ∃ cs, w.heap[k]? = some (.cells cs e (0, 0)) := by
 rcases h.2 with ⟨rfl, _⟩ | ⟨g, cap, cur, rfl, hbg, hg, rest⟩
 · simp [Value.ownBlock] at hk
 · simp only [Value.ownBlock, Option.some.injEq] at hk
   subst hk
   exact ⟨hbg, lt_of_block hg, cur, hg⟩
theorem own_begin {w : World} {base e size n m cap : Nat} {a : Option Addr} {xs ys : List Value} (hx : xs.length = n * size) (h : w.ownsRow base e size (.slice a (n + m) cap) (n + m) (xs ++ ys)) (hn : a ≠ none) : w.ownsRow base e size (.slice a n cap) n xs := by
 refine ⟨hx, ?_⟩
 rcases h.2 with ⟨h0, _⟩ | ⟨g, cap', cur, hv, hbg, hg, hnc, hcm, hcs, ht⟩
 · injection h0 with h0; exact absurd h0 hn
 · injection hv with ha _ hc
   subst ha
   subst hc
   refine .inr ⟨g, cap, cur, rfl, hbg, hg, by omega, hcm, hcs, ?_⟩
   have e : cur.toList.take (n * size) = (cur.toList.take ((n + m) * size)).take (n * size) := by
    rw [List.take_take, Nat.min_eq_left (Nat.mul_le_mul_right _ (by omega))]
   rw [e, ht, List.take_append_of_le_length (by omega), List.take_of_length_le (by omega)]
theorem PathR.nil (W : World) (B Bw : Nat) : PathR W B Bw (.slice none 0 0) [] := ⟨[], rfl, fun x hx => by simp at hx, World.ownsRow_nil _ _ _ _, fun j h => absurd h (by simp)⟩
theorem PathR.shape {W : World} {B Bw : Nat} {v : Value} {path : List Tr} (h : PathR W B Bw v path) : ∃ a c, v = .slice a path.length c := by
 obtain ⟨ncs, _, _, h, _⟩ := h
 rcases h.2 with ⟨rfl, h0⟩ | ⟨g, cap, cur, rfl, _⟩
 · exact ⟨none, 0, by rw [h0]⟩
 · exact ⟨_, cap, rfl⟩
theorem PathR.stay {W w' : World} {B Bw : Nat} {v : Value} {path : List Tr} (h : PathR W B Bw v path) (hb : Below B W w') (hs : ∀ k, v.ownBlock = some k → w'.heap[k]? = W.heap[k]?) : PathR w' B Bw v path := by
 obtain ⟨ncs, h1, h2, h3, h4⟩ := h
 exact ⟨ncs, h1, h2, own_same h3 hs, fun j hj hj' => (h4 j hj hj').stay (fun _ h _ => h) (fun b hb' _ => hb.block b hb')⟩
theorem PathR.block {W : World} {B Bw : Nat} {v : Value} {path : List Tr} (h : PathR W B Bw v path) {k : Nat} (hk : v.ownBlock = some k) : Bw ≤ k ∧ k < W.heap.size ∧ IsNB W k := by
 obtain ⟨ncs, _, _, h, _⟩ := h
 obtain ⟨h1, h2, cs, h3⟩ := own_block h hk
 exact ⟨h1, h2, cs, _, h3⟩
theorem PathR.vfr {W w' : World} {B Bw : Nat} {v : Value} {path : List Tr} (h : PathR W B Bw v path) (hv : VFr B Bw W w') : PathR w' B Bw v path := h.stay hv.below fun k hk => by
 obtain ⟨h1, h2, h3⟩ := h.block hk
 exact hv.rows k h1 h2 h3
theorem VFr.refl (B Bw : Nat) (W : World) : VFr B Bw W W := ⟨Below.refl _ _, fun _ _ _ _ => rfl⟩
theorem VFr.trans {B Bw : Nat} {W w1 w2 : World} (h : VFr B Bw W w1) (h2 : VFr B Bw w1 w2) : VFr B Bw W w2 := ⟨h.below.trans h2.below, fun k h1 h3 h4 => by
 have e := h.rows k h1 h3 h4
 obtain ⟨cs, z, hc⟩ := h4
 rw [h2.rows k h1 (Nat.lt_of_lt_of_le h3 h.below.size) ⟨cs, z, e.trans hc⟩, e]⟩
theorem VFr.of_below {B Bw : Nat} {W w' : World} (hb : Below W.heap.size W w') (hB : B ≤ W.heap.size) : VFr B Bw W w' := ⟨hb.mono hB, fun k _ h _ => hb.block k h⟩
theorem VFr.alloc {B Bw : Nat} {W w' : World} (h : VFr B Bw W w') (hB : B ≤ W.heap.size) (o : Obj) : VFr B Bw W (w'.alloc o) := h.trans (VFr.of_below ((Below.refl _ _).alloc (Nat.le_refl _) _) (Nat.le_trans hB h.below.size))
theorem VFr.setG {B Bw g : Nat} {W w' : World} (h : VFr B Bw W w') (hB : B ≤ g) (hg : g < Bw) (x : Value) {o : Nat} : VFr B Bw W (w'.setCell ⟨g, o, none⟩ x) :=
 ⟨h.below.setCell hB _, fun k h1 h2 h3 => by rw [Below.heap_setCell _ _ _ _ (show k ≠ g by omega)]; exact h.rows k h1 h2 h3⟩
end Go.Proofs.YteonbmaokphleaaGreatDoor
