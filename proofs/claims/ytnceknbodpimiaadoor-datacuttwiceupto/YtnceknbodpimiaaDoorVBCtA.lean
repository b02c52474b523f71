/-
  data.cut: what its loops hold.
  data.values: what a row that is filled keeps; ones as a slice.
  data.values at the end of a way.
  data.cutOne, if data.cut is so at each field.
-/
import Derived.Test.YtnceknbodpimiaaDoorVBColS
import Derived.Test.YtnceknbodpimiaaDoorVOwnDt
import Derived.Test.YtnceknbodpimiaaDoorVBOpenNode
import Derived.Deep.RegionHeld3
namespace Go.Proofs.YtnceknbodpimiaaDoor
open Go.RowKit
theorem five_boxesS (W : World) (c1 c2 c3 c4 c5 : Array Value) (t1 t2 t3 t4 t5 : TypeId) : ∃ w0, Hid (((((W.alloc (.cells c1 t1)).alloc (.cells c2 t2)).alloc (.cells c3 t3)).alloc (.cells c4 t4)).alloc (.cells c5 t5) = w0) ∧ Hid (w0.heap[W.heap.size]? = some (.cells c1 t1 (0, 0))) ∧ Hid (w0.heap[W.heap.size + 1]? = some (.cells c2 t2 (0, 0))) ∧ Hid (w0.heap[W.heap.size + 1 + 1]? = some (.cells c3 t3 (0, 0))) ∧ Hid (w0.heap[W.heap.size + 1 + 1 + 1]? = some (.cells c4 t4 (0, 0))) ∧ Hid (w0.heap[W.heap.size + 1 + 1 + 1 + 1]? = some (.cells c5 t5 (0, 0))) ∧ Hid (Below W.heap.size W w0) ∧ Hid (w0.heap.size = W.heap.size + 5) := by
  obtain ⟨w1, H1, H2, H3, H4, H5, H6⟩ := three_boxesS W c1 c2 c3 t1 t2 t3
  have hs := H6.out
  refine ⟨(w1.alloc (.cells c4 t4)).alloc (.cells c5 t5), by show _ = _; rw [H1.out], blk_alloc (blk_alloc H2.out), blk_alloc (blk_alloc H3.out), blk_alloc (blk_alloc H4.out), ?_, ?_, (H5.out.alloc H5.out.size _).alloc (by simp; omega) _, by show _ = _; simp [hs]⟩
  · have h := heap_alloc_new w1 (.cells c4 t4)
    rw [hs] at h
    exact blk_alloc h
  · have h := heap_alloc_new (w1.alloc (.cells c4 t4)) (.cells c5 t5)
    rw [show (w1.alloc (.cells c4 t4)).heap.size = W.heap.size + 1 + 1 + 1 + 1 by simp [hs]] at h
    exact h
/-- What data.cut promises. -/
def CutP (p t : Tr) (d : Dt) : Prop := ∀ (P Q R : Nat → Prop) (ta : Option Addr) (tc : Nat) (pa : Option Addr) (pc : Nat) (al : Option Addr) (cl : Nat) (af : Option Addr) (cf : Nat) (W : World), LiesN W P ta t.sub → LiesN W Q pa p.sub → LiesD W R al d.l → LiesD W R af d.f →
  Calls Tryd.prog 18 #[nodeV t ta tc, nodeV p pa pc, datumV d al cl af cf] W fun e w' => (∃ al' cl' af' cf', e = .returned (datumV (cutT p t d) al' cl' af' cf') ∧ LiesD w' (fun b => W.heap.size ≤ b) al' (cutT p t d).l ∧ LiesD w' (fun b => W.heap.size ≤ b) af' (cutT p t d).f) ∧ Below W.heap.size W w'
/-- What data.cutOne promises. -/
def CutO (p t : Tr) (d : Dt) : Prop := ∀ (P Q R : Nat → Prop) (ta : Option Addr) (tc : Nat) (pa : Option Addr) (pc : Nat) (al : Option Addr) (cl : Nat) (af : Option Addr) (cf : Nat) (W : World), LiesN W P ta t.sub → LiesN W Q pa p.sub → LiesD W R al d.l → LiesD W R af d.f →
  Calls Tryd.prog 37 #[nodeV t ta tc, nodeV p pa pc, datumV d al cl af cf] W fun e w' => (∃ al' cl' af' cf', e = .returned (datumV (cut1 p t d) al' cl' af' cf') ∧ LiesD w' (fun b => W.heap.size ≤ b) al' (cut1 p t d).l ∧ LiesD w' (fun b => W.heap.size ≤ b) af' (cut1 p t d).f) ∧ Below W.heap.size W w'
/-- What the loop of cutOne holds: what comes lies in the box g. -/
structure CuI (g : Nat) (w0 : World) (v : Vl) (fs : List Dt) (wr : World) (l : Value) (ncs : List (List Value)) : Prop where
  out : wr.heap[g]? = some (.cells #[.bool false, .int .i64 v.k, .int .i64 v.n, .string v.s, .slice none 0 0, l] 30 (0, 0))
  len : ncs.length = fs.length
  six : ∀ x ∈ ncs, x.length = 6
  row : wr.ownsRow (g + 1) 30 6 l fs.length ncs.flatten
  each : ∀ j (h : j < ncs.length) (h' : j < fs.length), DtC wr (fun b => g + 1 ≤ b ∧ l.ownBlock ≠ some b) fs[j] ncs[j]
  old : Below g w0 wr
  big : g + 1 ≤ wr.heap.size
theorem CuI.shape {g : Nat} {w0 : World} {v : Vl} {fs : List Dt} {wr : World} {l : Value} {ncs : List (List Value)} (h : CuI g w0 v fs wr l ncs) : ∃ a' c', l = .slice a' fs.length c' := by
  rcases h.row.2 with ⟨h0, h1⟩ | ⟨_, cap, cur, h0, _, _, hnc, _⟩
  · exact ⟨none, 0, by rw [h0, h1]⟩
  · exact ⟨_, cap, h0⟩
theorem CuI.lies {g : Nat} {w0 : World} {v : Vl} {fs : List Dt} {wr : World} {a' : Option Addr} {c' : Nat} {ncs : List (List Value)} (h : CuI g w0 v fs wr (.slice a' fs.length c') ncs) : LiesD wr (fun b => g + 1 ≤ b) a' fs := by
  refine ⟨fun j => ncs.getD j [], fun j hj => ?_, fun j hj => ?_⟩
  · have hjn : j < ncs.length := by rw [h.len]; exact hj
    have e : ncs.getD j [] = ncs[j] := by simp [List.getD, hjn]
    show DtAt wr _ a' j (ncs.getD j [])
    rw [e]
    have h6 := h.six ncs[j] (List.getElem_mem hjn)
    rcases h.row.2 with ⟨_, h0⟩ | ⟨g', cap, cur, hv, hbg, _⟩
    · exact absurd hj (by omega)
    · have hv' := hv
      injection hv' with ha _ _
      subst ha
      have hc : ∀ k u, ncs[j][k]? = some u → k < 6 → wr.cell? ⟨g', j * 6 + k, none⟩ = some u := fun k u hu hk => by
        have h1 := h.row.cells (g := g') rfl (j * 6 + k) u (by rw [flat6 ncs h.six j k hk, List.getElem?_eq_getElem hjn]; exact hu)
        rw [addr_plus, Nat.zero_add] at h1
        exact h1
      generalize ncs[j] = cs at *
      match cs, h6 with
      | [x0, x1, x2, x3, x4, x5], _ =>
        have c0 := hc 0 x0 rfl (by omega)
        have c1 := hc 1 x1 rfl (by omega)
        have c2 := hc 2 x2 rfl (by omega)
        have c3 := hc 3 x3 rfl (by omega)
        have c4 := hc 4 x4 rfl (by omega)
        have c5 := hc 5 x5 rfl (by omega)
        exact ⟨g', 0, x0, x1, x2, x3, x4, x5, rfl, by omega, rfl, by simpa using c0, by simpa using c1, by simpa using c2, by simpa using c3, by simpa using c4, by simpa using c5⟩
  · have hjn : j < ncs.length := by rw [h.len]; exact hj
    have e : ncs.getD j [] = ncs[j] := by simp [List.getD, hjn]
    show DtC wr _ fs[j] (ncs.getD j [])
    rw [e]
    exact (h.each j hjn hj).stay (fun b hP _ => hP.1) (fun _ _ _ => rfl)
theorem CuI.keep {g : Nat} {w0 : World} {v : Vl} {fs : List Dt} {wr w1 : World} {l : Value} {ncs : List (List Value)} (h : CuI g w0 v fs wr l ncs) (hb : Below wr.heap.size wr w1) : CuI g w0 v fs w1 l ncs :=
  ⟨blk_keep hb h.out, h.len, h.six, ow_kept h.row hb, fun j hj hj' => (h.each j hj hj').stay (fun _ h _ => h) (fun b _ hl => hb.block b hl), h.old.trans (hb.mono (Nat.le_trans (Nat.le_succ g) h.big)), Nat.le_trans h.big hb.size⟩
theorem CuI.apart {g : Nat} {w0 : World} {v : Vl} {fs : List Dt} {wr : World} {l : Value} {ncs : List (List Value)} (h : CuI g w0 v fs wr l ncs) {k : Nat} (hk : k < g + 1) : some k ≠ l.ownBlock := by
  rcases h.row.2 with ⟨rfl, _⟩ | ⟨g', cap, cur, rfl, hg, _⟩
  · simp [Value.ownBlock]
  · simp [Value.ownBlock]; omega
theorem CuI.three {g : Nat} {w0 : World} {v : Vl} {fs : List Dt} {wr w1 w2 : World} {l : Value} {ncs : List (List Value)} (h : CuI g w0 v fs wr l ncs) (hb : Below wr.heap.size wr w1) {ob : Obj} (hg : (w1.alloc ob).grownBy w2 l.ownBlock) {k : Nat} (hk : k < g + 1) : w2.heap[k]? = wr.heap[k]? := by
  have h1 : k < wr.heap.size := Nat.lt_of_lt_of_le hk h.big
  have h2 : k < w1.heap.size := Nat.lt_of_lt_of_le h1 hb.size
  rw [hg.block k (by simp; omega) (h.apart hk), heap_alloc_old w1 ob h2, hb.block k h1]
/-- A field is put behind the others. -/
theorem CuI.push {g : Nat} {w0 : World} {v : Vl} {fs : List Dt} {wr w1 w2 : World} {x : Dt} {l l' : Value} {ncs : List (List Value)} {al af : Option Addr} {cl cf : Nat} (h : CuI g w0 v fs wr l ncs) (hb : Below wr.heap.size wr w1) (hl : LiesD w1 (fun b => wr.heap.size ≤ b) al x.l) (hf : LiesD w1 (fun b => wr.heap.size ≤ b) af x.f) {ob : Obj}
    (hown : w2.ownsRow (g + 1) 30 6 l' (fs.length + 1) (ncs.flatten ++ [.bool x.no, .int .i64 x.v.k, .int .i64 x.v.n, .string x.v.s, .slice al x.l.length cl, .slice af x.f.length cf])) (hg : (w1.alloc ob).grownBy w2 l.ownBlock) (hw : l'.ownBlock = l.ownBlock ∧ l.ownBlock ≠ none ∨ l'.ownBlock = some (w1.alloc ob).heap.size) :
    CuI g w0 v (fs ++ [x]) (w2.setCell ⟨g, 5, none⟩ l') l' (ncs ++ [[.bool x.no, .int .i64 x.v.k, .int .i64 x.v.n, .string x.v.s, .slice al x.l.length cl, .slice af x.f.length cf]]) := by
  have hbig := h.big
  have hbs := hb.size
  have hgs := hg.size
  simp only [World.size_alloc] at hgs
  have hlb : ∀ k, l.ownBlock = some k → k < wr.heap.size := fun k hk => (h.row.lt k hk).2
  have hset : ∀ k, k ≠ g → (w2.setCell ⟨g, 5, none⟩ l').heap[k]? = w2.heap[k]? := fun k hk => Below.heap_setCell _ _ _ _ hk
  have b0 : Below g w0 w1 := h.old.trans (hb.mono (by omega))
  have b1 : Below g w0 w2 := (b0.alloc (by omega) ob).grown hg (by simp; omega) (fun k hk => by have := (h.row.lt k hk).1; omega)
  refine ⟨?_, by rw [List.length_append, List.length_append, h.len]; rfl, fun y hy => ?_, ?_, fun j hj hj' => ?_, ?_, ?_⟩
  · rw [row_setCell ((h.three hb hg (by omega)).trans h.out)]
    rfl
  · rcases List.mem_append.1 hy with hy | hy
    · exact h.six y hy
    · rw [List.mem_singleton.1 hy]; rfl
  · rw [List.flatten_append, List.length_append]
    have hown2 : w2.ownsRow (g + 1) 30 6 l' (fs.length + 1) (ncs.flatten ++ [[.bool x.no, .int .i64 x.v.k, .int .i64 x.v.n, .string x.v.s, .slice al x.l.length cl, .slice af x.f.length cf]].flatten) := by simpa using hown
    refine ⟨hown2.1, ?_⟩
    rcases hown2.2 with hn0 | ⟨g', cap, cur, h1, hbg, hgg, rest⟩
    · exact .inl hn0
    · exact .inr ⟨g', cap, cur, h1, hbg, (hset g' (by omega)).trans hgg, rest⟩
  · by_cases hjl : j < ncs.length
    · rw [List.getElem_append_left hjl, List.getElem_append_left (by rw [← h.len]; exact hjl)]
      refine (h.each j hjl (by rw [← h.len]; exact hjl)).stay (fun b hP hlt => ⟨hP.1, ?_⟩) (fun b hP hlt => ?_)
      · rw [hset b (by omega), hg.block b (by simp; omega) (fun e => hP.2 e.symm), heap_alloc_old w1 ob (show b < w1.heap.size by omega), hb.block b hlt]
      · rcases hw with ⟨e, _⟩ | e
        · rw [e]; exact hP.2
        · rw [e]; simp; omega
    · have hje : j = ncs.length := by rw [List.length_append] at hj; simp at hj; omega
      have hju : j = fs.length := by rw [hje, h.len]
      have ee : (ncs ++ [[.bool x.no, .int .i64 x.v.k, .int .i64 x.v.n, .string x.v.s, .slice al x.l.length cl, .slice af x.f.length cf]])[j] = [.bool x.no, .int .i64 x.v.k, .int .i64 x.v.n, .string x.v.s, .slice al x.l.length cl, .slice af x.f.length cf] := by
        rw [List.getElem_append_right (by omega)]
        simp
      have eu : (fs ++ [x])[j] = x := by
        rw [List.getElem_append_right (by omega)]
        simp
      rw [ee, eu]
      have hQ : ∀ b, wr.heap.size ≤ b → b < w1.heap.size → (g + 1 ≤ b ∧ l'.ownBlock ≠ some b) := fun b hP hlt => by
        refine ⟨by omega, ?_⟩
        rcases hw with ⟨e, hne⟩ | e
        · rw [e]
          intro e2
          have := hlb b e2
          omega
        · rw [e]; simp; omega
      have hS : ∀ b, wr.heap.size ≤ b → b < w1.heap.size → (w2.setCell ⟨g, 5, none⟩ l').heap[b]? = w1.heap[b]? := fun b hP hlt => by
        rw [hset b (by omega), hg.block b (by simp; omega) (fun e => by have := hlb b e.symm; omega), heap_alloc_old w1 ob hlt]
      exact DtC.join cl cf (hl.stay hQ hS) (hf.stay hQ hS)
  · exact ⟨b1.os, b1.tape, b1.output, by simp only [World.size_setCell]; exact b1.size, fun k hk => (hset k (by omega)).trans (b1.block k hk)⟩
  · simp only [World.size_setCell]; omega
/-- All blocks below g, and one more, are as they were. -/
def KpB (g m : Nat) (w X : World) : Prop := ∀ b, (b < g ∨ b = m) → X.heap[b]? = w.heap[b]?
theorem KpB.refl (g m : Nat) (w : World) : KpB g m w w := fun _ _ => rfl
theorem KpB.drew {g m : Nat} {w X : World} (h : KpB g m w X) : KpB g m w X.drew := h
theorem KpB.put {g m j : Nat} {w X : World} (h : KpB g m w X) (hm : m ≠ g) (u : Value) : KpB g m w (X.setCell ⟨g, j, none⟩ u) := fun b hb => (Below.heap_setCell _ _ _ _ (show b ≠ g by rcases hb with h | h <;> omega)).trans (h b hb)
theorem KpB.grown {g m : Nat} {w w4 w5 : World} {l : Value} {ob : Obj} (ha : ∀ k, k < g → some k ≠ l.ownBlock) (hm : some m ≠ l.ownBlock) (hb : Below w.heap.size w w4) (hg : (w4.alloc ob).grownBy w5 l.ownBlock) (h1 : m < w.heap.size) (h2 : g ≤ w.heap.size) : KpB g m w w5 := fun b hbb => by
  have hlt : b < w.heap.size := by rcases hbb with h | h <;> omega
  have hn : some b ≠ l.ownBlock := by
    rcases hbb with h | h
    · exact ha b h
    · rw [h]; exact hm
  rw [hg.block b (by have := hb.size; simp; omega) hn, heap_alloc_old w4 ob (Nat.lt_of_lt_of_le hlt hb.size), hb.block b hlt]
end Go.Proofs.YtnceknbodpimiaaDoor

namespace Go.Proofs.YtnceknbodpimiaaDoor
open Go.RowKit
/-- All but the row's own block is kept; the row lies where it lay, or in a new block. -/
structure VsK (W : World) (v : Value) (w' : World) (v' : Value) : Prop where
  rest : Below 0 W w'
  size : W.heap.size ≤ w'.heap.size
  keep : ∀ k, k < W.heap.size → some k ≠ v.ownBlock → w'.heap[k]? = W.heap[k]?
  own : v'.ownBlock = v.ownBlock ∨ ∃ k, v'.ownBlock = some k ∧ W.heap.size ≤ k
theorem lt_of_block_any {w : World} {k : Nat} {o : Obj} (h : w.heap[k]? = some o) : k < w.heap.size := (Array.getElem?_eq_some_iff.1 h).1
theorem VsK.refl (W : World) (v : Value) : VsK W v W v := ⟨Below.refl _ _, Nat.le_refl _, fun _ _ _ => rfl, .inl rfl⟩
theorem VsK.ne {W w' : World} {v v' : Value} (h : VsK W v w' v') {k : Nat} (hk : k < W.heap.size) (hn : some k ≠ v.ownBlock) : some k ≠ v'.ownBlock := by
  rcases h.own with e | ⟨m, e, hm⟩
  · rw [e]; exact hn
  · rw [e]; intro e2; injection e2 with e2; omega
theorem VsK.trans {W w1 w2 : World} {v v1 v2 : Value} (h : VsK W v w1 v1) (h' : VsK w1 v1 w2 v2) : VsK W v w2 v2 := by
  refine ⟨h.rest.trans h'.rest, Nat.le_trans h.size h'.size, fun k hk hn => (h'.keep k (Nat.lt_of_lt_of_le hk h.size) (h.ne hk hn)).trans (h.keep k hk hn), ?_⟩
  rcases h'.own with e | ⟨m, e, hm⟩
  · rcases h.own with e2 | ⟨m, e2, hm⟩
    · exact .inl (e.trans e2)
    · exact .inr ⟨m, e.trans e2, hm⟩
  · exact .inr ⟨m, e, Nat.le_trans h.size hm⟩
theorem VsK.below {W w' : World} (v : Value) (h : Below W.heap.size W w') : VsK W v w' v := ⟨h.mono (Nat.zero_le _), h.size, fun k hk _ => h.block k hk, .inl rfl⟩
/-- Of a row that is not there yet: all is kept. -/
theorem VsK.to_below {W w' : World} {v' : Value} (h : VsK W (.slice none 0 0) w' v') : Below W.heap.size W w' := ⟨h.rest.os, h.rest.tape, h.rest.output, h.size, fun k hk => h.keep k hk (by simp [Value.ownBlock])⟩
theorem VsK.blk {W w' : World} {v v' : Value} (h : VsK W v w' v') {k : Nat} {o : Obj} (hk : W.heap[k]? = some o) (hn : some k ≠ v.ownBlock) : w'.heap[k]? = some o := (h.keep k (lt_of_block_any hk) hn).trans hk
theorem VsK.nodes {W w' : World} {v v' : Value} (h : VsK W v w' v') {a : Option Addr} {ts : List Tr} (hl : LiesN W (fun b => some b ≠ v.ownBlock) a ts) : LiesN w' (fun b => some b ≠ v'.ownBlock) a ts := hl.stay (fun b hb hlt => h.ne (k := b) hlt hb) (fun b hb hlt => h.keep b hlt hb)
theorem VsK.data {W w' : World} {v v' : Value} (h : VsK W v w' v') {a : Option Addr} {ts : List Dt} (hl : LiesD W (fun b => some b ≠ v.ownBlock) a ts) : LiesD w' (fun b => some b ≠ v'.ownBlock) a ts := hl.stay (fun b hb hlt => h.ne (k := b) hlt hb) (fun b hb hlt => h.keep b hlt hb)
/-- Numbers that lie in another block than a row's. -/
def LiesO (w : World) (v : Value) (a : Option Addr) (cs : List Value) : Prop := Lies w a cs ∧ ∀ p, a = some p → p.block < w.heap.size ∧ some p.block ≠ v.ownBlock
theorem VsK.ints {W w' : World} {v v' : Value} (h : VsK W v w' v') {a : Option Addr} {cs : List Value} (hl : LiesO W v a cs) : LiesO w' v' a cs := by
  refine ⟨fun j hj => ?_, fun p hp => ?_⟩
  · obtain ⟨b, o, e, hc⟩ := hl.1 j hj
    refine ⟨b, o, e, cell_stay hc (h.keep b (World.block_lt_of_cell? W _ hc) ?_)⟩
    exact (hl.2 _ e).2
  · obtain ⟨h1, h2⟩ := hl.2 p hp
    exact ⟨Nat.lt_of_lt_of_le h1 h.size, h.ne h1 h2⟩
/-- The values that are gathered so far, in a row of the call's own. -/
abbrev VsR (w : World) (N : Nat) (v : Value) (vs : List Vl) : Prop := w.ownsRow N 27 3 v vs.length (vcells vs)
theorem one_lies {W : World} {P : Nat → Prop} {d : Dt} {g : Nat} {al : Option Addr} {cl : Nat} {af : Option Addr} {cf : Nat} (hg : W.heap[g]? = some (.cells #[.bool d.no, .int .i64 d.v.k, .int .i64 d.v.n, .string d.v.s, .slice al d.l.length cl, .slice af d.f.length cf] 30 (0, 0))) (hP : P g) (hl : LiesD W P al d.l) (hf : LiesD W P af d.f) : LiesD W P (some ⟨g, 0, none⟩) [d] := by
  obtain ⟨z0, z1, z2, z3, z4, z5⟩ := row_six hg
  refine ⟨fun _ => [.bool d.no, .int .i64 d.v.k, .int .i64 d.v.n, .string d.v.s, .slice al d.l.length cl, .slice af d.f.length cf], fun j hj => ?_, fun j hj => ?_⟩
  · obtain rfl : j = 0 := by simpa using hj
    exact ⟨g, 0, _, _, _, _, _, _, rfl, hP, rfl, z0, z1, z2, z3, z4, z5⟩
  · obtain rfl : j = 0 := by simpa using hj
    exact DtC.join cl cf hl hf
/-- ones, as a slice that lies apart from the row. -/
theorem ones_any (t : Tr) (d : Dt) (a : Option Addr) (c : Nat) (al : Option Addr) (cl : Nat) (af : Option Addr) (cf : Nat) (v : Value) (W : World) (hv : ∀ k, v.ownBlock = some k → k < W.heap.size) (hl : LiesD W (fun b => some b ≠ v.ownBlock) al d.l) (hf : LiesD W (fun b => some b ≠ v.ownBlock) af d.f) :
    Calls Tryd.prog 51 #[nodeV t a c, datumV d al cl af cf] W fun e w' => (∃ oa oc, e = .returned (.slice oa (ons t d).length oc) ∧ LiesD w' (fun b => some b ≠ v.ownBlock) oa (ons t d)) ∧ Below W.heap.size W w' := by
  by_cases hr : t.rep = 3
  · have e : ons t d = d.l := by rw [ons, if_pos hr]
    rw [e]
    refine (ones_lst t d hr a c al cl af cf W).mono ?_
    rintro e w1 ⟨rfl, hb⟩
    exact ⟨⟨al, cl, rfl, hl.keep hb⟩, hb⟩
  · cases hn : d.no with
    | true =>
      have e : ons t d = [] := by rw [ons, if_neg hr, if_pos hn]
      rw [e]
      refine (ones_no t d hr hn a c al cl af cf W).mono ?_
      rintro e w1 ⟨rfl, hb⟩
      exact ⟨⟨none, 0, rfl, ⟨fun _ => [], fun j hj => absurd hj (by simp), fun j hj => absurd hj (by simp)⟩⟩, hb⟩
    | false =>
      have e : ons t d = [d] := by rw [ons, if_neg hr, if_neg (by rw [hn]; simp)]
      rw [e]
      refine (ones_one t d hr hn a c al cl af cf W).mono ?_
      rintro e w1 ⟨⟨g, rfl, hge, hg⟩, hb⟩
      exact ⟨⟨_, 1, rfl, one_lies hg (fun e => by have := hv g e.symm; omega) (hl.keep hb) (hf.keep hb)⟩, hb⟩
end Go.Proofs.YtnceknbodpimiaaDoor

namespace Go.Proofs.YtnceknbodpimiaaDoor
open Go.RowKit
/-- What values promises at a node, with the way that is left. -/
def ValP (t : Tr) (q : List Tr) (d : Dt) : Prop := ∀ (N : Nat) (a : Option Addr) (c : Nat) (al : Option Addr) (cl : Nat) (af : Option Addr) (cf : Nat) (pa : Option Addr) (pc : Nat) (v : Value) (vs : List Vl) (W : World), N ≤ W.heap.size → VsR W N v vs → LiesN W (fun b => some b ≠ v.ownBlock) a t.sub → LiesD W (fun b => some b ≠ v.ownBlock) al d.l → LiesD W (fun b => some b ≠ v.ownBlock) af d.f → LiesO W v pa (i64s (q.map Tr.id)) → q.length ≤ pc → vs.length + ((ons t d).flatMap (vo t q)).length ≤ 20000 →
  Calls Tryd.prog 33 #[v, nodeV t a c, datumV d al cl af cf, .slice pa q.length pc] W fun e w' => ∃ v', e = .returned v' ∧ VsR w' N v' (vs ++ (ons t d).flatMap (vo t q)) ∧ VsK W v w' v'
theorem vsK_grow {w w2 : World} {ob : Obj} {v v2 : Value} (hg : (w.alloc ob).grownBy w2 v.ownBlock) (hw : v2.ownBlock = v.ownBlock ∧ v.ownBlock ≠ none ∨ v2.ownBlock = some (w.alloc ob).heap.size) : VsK w v w2 v2 := by
  have hs := hg.size
  simp only [World.size_alloc] at hs
  refine ⟨((Below.refl 0 w).alloc (Nat.zero_le _) ob).grown hg (Nat.zero_le _) (fun k _ => Nat.zero_le _), by omega, fun k hk hn => ?_, ?_⟩
  · rw [hg.block k (by simp; omega) hn, heap_alloc_old w ob hk]
  · rcases hw with ⟨e, _⟩ | e
    · exact .inl e
    · exact .inr ⟨_, e, by simp⟩
theorem flat_take {α β : Type} (f : α → List β) (l : List α) (i : Nat) (h : i < l.length) : (l.take (i + 1)).flatMap f = (l.take i).flatMap f ++ f l[i] := by
  rw [List.take_succ_eq_append_getElem h, List.flatMap_append]
  simp
theorem flat_part {α β : Type} (f : α → List β) (l : List α) (i : Nat) : ((l.take i).flatMap f).length ≤ (l.flatMap f).length := by
  have h : l.flatMap f = (l.take i).flatMap f ++ (l.drop i).flatMap f := by rw [← List.flatMap_append, List.take_append_drop]
  rw [h, List.length_append]
  omega
set_option maxRecDepth 100000 in
set_option maxHeartbeats 3200000 in
theorem values_leaf (t : Tr) (d : Dt) (hol : (ons t d).length ≤ 1048576) : ValP t [] d := fun N a c al cl af cf pa pc v vs W hN hv hl hd1 hd2 hp hpc hm => by
  obtain ⟨iv, hvi, hv0, hv1, hv2⟩ := info_parts Tryd.infoV
  obtain ⟨w0, HW0, HX, HY, HB⟩ := two_boxesS W #[.int .i64 t.id, .string t.nm, .int .i64 t.rep, .int .i64 t.kind, .slice a t.sub.length c] #[.bool d.no, .int .i64 d.v.k, .int .i64 d.v.n, .string d.v.s, .slice al d.l.length cl, .slice af d.f.length cf] 24 30
  have hvl : ∀ k, v.ownBlock = some k → k < W.heap.size := fun k hk => (hv.lt k hk).2
  have hsz := HB.out.size
  have HC : Hid _ := ones_any t d a c al cl af cf v w0 (fun k hk => by have := hvl k hk; omega) (hd1.keep HB.out) (hd2.keep HB.out)
  have HV0 : Hid (VsR w0 N v vs) := ow_kept hv HB.out
  obtain ⟨va, vc, rfl⟩ := own_sl hv
  obtain ⟨⟨p0, p1, p2, p3, p4⟩, _⟩ := row_five HX.out
  obtain ⟨z0, z1, z2, z3, z4, z5⟩ := row_six HY.out
  obtain ⟨ol, HOL⟩ := hid_name (ons t d)
  rw [HOL.out] at hol hm HC ⊢
  have HM : Hid _ := hm
  clear hv hl hd1 hd2 hp hvl hm
  rw [show (([] : List Tr).length) = 0 from rfl]
  unfold nodeV datumV
  go_enter Tryd.func33, Tryd.ntmps33
  go_wp2_with fail
  rw [HW0.out]
  refine Calls.mono HC.out ?_
  rintro e w1 ⟨⟨oa, oc, rfl, hol1⟩, hb1⟩
  have HB1 : Hid (Below W.heap.size W w1) := HB.out.trans (hb1.mono hsz)
  have HL1 : Hid (LiesD w1 (fun b => some b ≠ (Value.slice va vs.length vc).ownBlock) oa ol) := hol1
  have HV1 : Hid (VsR w1 N (.slice va vs.length vc) vs) := ow_kept HV0.out hb1
  have hsz1 := HB1.out.size
  clear hb1 hol1 p0 p1 p2 p3 p4 z0 z1 z2 z3 z4 z5 HC
  go_wp2_with fail
  go_loopw [0, 16] (fun lv x wr => ∃ i : Nat, i ≤ ol.length ∧ x = .int .i64 i ∧ Hid (VsR wr N lv (vs ++ (ol.take i).flatMap (vo t []))) ∧ Hid (VsK w1 (.slice va vs.length vc) wr lv)) (fun _ x _ => ol.length - (intOf x).toNat)
  case atStart => exact ⟨0, Nat.zero_le _, rfl, (by show VsR _ _ _ _; simpa using HV1.out), VsK.refl _ _⟩
  case round =>
    obtain ⟨i, hi, rfl, HR, HK⟩ := hrel
    obtain ⟨xa, xc, rfl⟩ := own_sl HR.out
    have hks := HK.out.size
    by_cases hlt : i < ol.length
    · obtain ⟨b, o, a1, c1, a2, c2, rfl, ⟨d0, e1, d2, d3, d4, d5⟩, hl1, hl2⟩ := (HK.out.data HL1.out).at_ i hlt
      clear hl1 hl2
      obtain ⟨xs, HXS⟩ := hid_name (vs ++ (ol.take i).flatMap (vo t []))
      rw [HXS.out] at HR HK ⊢
      have hxl : xs.length < 20000 := (by
        have h1 := flat_part (vo t []) ol (i + 1)
        rw [flat_take (vo t []) ol i hlt, vo, List.length_append, List.length_singleton] at h1
        have h2 := HM.out
        rw [← HXS.out, List.length_append]
        omega)
      have HNX : Hid (xs ++ [ol[i].v] = vs ++ (ol.take (i + 1)).flatMap (vo t [])) := (by show _ = _; rw [← HXS.out, flat_take (vo t []) ol i hlt, vo, List.append_assoc])
      have hb2 : Below wr.heap.size wr (wr.alloc (.cells #[.bool ol[i].no, .int .i64 ol[i].v.k, .int .i64 ol[i].v.n, .string ol[i].v.s, .slice a1 ol[i].l.length c1, .slice a2 ol[i].f.length c2] 30)) := (Below.refl _ _).alloc (Nat.le_refl _) _
      have HR2 : Hid (VsR (wr.alloc (.cells #[.bool ol[i].no, .int .i64 ol[i].v.k, .int .i64 ol[i].v.n, .string ol[i].v.s, .slice a1 ol[i].l.length c1, .slice a2 ol[i].f.length c2] 30)) N (.slice xa xs.length xc) xs) := ow_kept HR.out hb2
      have HK2 : Hid (VsK w1 (.slice va vs.length vc) (wr.alloc (.cells #[.bool ol[i].no, .int .i64 ol[i].v.k, .int .i64 ol[i].v.n, .string ol[i].v.s, .slice a1 ol[i].l.length c1, .slice a2 ol[i].f.length c2] 30)) (.slice xa xs.length xc)) := HK.out.trans (VsK.below _ hb2)
      have hvcl := vcells_len xs
      clear hb2
      go_wp2_with (at_builtin; refine wpList_append_where _ rfl _ _ 47 rfl N 27 iv (.agg #[.int .i64 0, .int .i64 0, .string ⟨#[]⟩]) 3 32 Tryd.underlying47 hvi hv0 hv1 hv2 rfl (by decide) _ xs.length (vcells xs) rfl (HR2.out.alloc _) ⟨wr.heap.size + 1, 0, none⟩ 1 1 [.int .i64 ol[i].v.k, .int .i64 ol[i].v.n, .string ol[i].v.s] rfl rfl (by intro j u hu; have h := tri_cells (w := wr.alloc (.cells #[.bool ol[i].no, .int .i64 ol[i].v.k, .int .i64 ol[i].v.n, .string ol[i].v.s, .slice a1 ol[i].l.length c1, .slice a2 ol[i].f.length c2] 30)) (T := 27) j u hu; simpa using h) (by intro u hu; simp at hu; rcases hu with rfl | rfl | rfl <;> rfl) (by unfold maxLen; omega) (by omega) (by simp; omega) (by decide) ?_; intro x2 w2 hown2 hgrow2 hw2; have HK3 : Hid (VsK w1 (.slice va vs.length vc) w2 x2) := HK2.out.trans (vsK_grow hgrow2 hw2); have HR3 : Hid (VsR w2 N x2 (vs ++ (ol.take (i + 1)).flatMap (vo t []))) := (by show VsR _ _ _ _; rw [← HNX.out]; unfold VsR; rw [vcells_app, List.length_append]; exact hown2); clear hown2 hgrow2 hw2)
      go_roundw
      case rel => exact ⟨i + 1, by omega, by go_num, HR3, HK3⟩
      case measure => simp [intOf]; omega
    · obtain rfl : i = ol.length := by omega
      rw [List.take_length] at HR HK ⊢
      go_wp2
      go_ret
      exact ⟨_, rfl, HR.out, (VsK.below _ HB1.out).trans HK.out⟩
end Go.Proofs.YtnceknbodpimiaaDoor

namespace Go.Proofs.YtnceknbodpimiaaDoor
open Go.RowKit
set_option maxRecDepth 100000 in
set_option maxHeartbeats 6400000 in
theorem cutOne_of (p t : Tr) (d : Dt) (hpl : p.sub.length ≤ 1048576) (htl : t.sub.length ≤ 1048576) (_hdl : d.f.length ≤ 1048576)
    (hx : ∀ j (h : j < p.sub.length), ∃ i, ∃ h' : i < t.sub.length, ∃ h2 : i < d.f.length, t.sub[i].id = p.sub[j].id ∧ (∀ k (hk : k < i), (t.sub[k]'(Nat.lt_trans hk h')).id ≠ p.sub[j].id) ∧ CutP p.sub[j] t.sub[i] d.f[i]) : CutO p t d := fun P Q R ta tc pa pc al cl af cf W hlt hlp hdl1 hdf => by
  obtain ⟨iv, hvi, hv0, hv1, hv2⟩ := info_parts Tryd.infoD
  obtain ⟨w0, HW0, HT, HP, HD, HR, HO, HB, HSz⟩ := five_boxesS W #[.int .i64 t.id, .string t.nm, .int .i64 t.rep, .int .i64 t.kind, .slice ta t.sub.length tc] #[.int .i64 p.id, .string p.nm, .int .i64 p.rep, .int .i64 p.kind, .slice pa p.sub.length pc] #[.bool d.no, .int .i64 d.v.k, .int .i64 d.v.n, .string d.v.s, .slice al d.l.length cl, .slice af d.f.length cf] #[.bool false, .int .i64 0, .int .i64 0, .string ⟨#[]⟩, .slice none 0 0, .slice none 0 0] #[.bool false, .int .i64 d.v.k, .int .i64 d.v.n, .string d.v.s, .slice none 0 0, .slice none 0 0] 24 24 30 30 30
  have HS : Hid (CuI (W.heap.size + 1 + 1 + 1 + 1) w0 d.v [] w0 (.slice none 0 0) []) := ⟨HO.out, rfl, fun x hx => by simp at hx, World.ownsRow_nil _ _ _ _, fun j h => absurd h (by simp), Below.refl _ _, by rw [HSz.out]; omega⟩
  have HLT : Hid (LiesN W P ta t.sub) := hlt
  have HLP : Hid (LiesN W Q pa p.sub) := hlp
  have HDF : Hid (LiesD W R af d.f) := hdf
  have HX : Hid _ := hx
  clear hlt hlp hdf hdl1 hx
  unfold nodeV datumV
  go_enter Tryd.func37, Tryd.ntmps37
  go_wp2_with fail
  rw [HW0.out]
  go_loopw [17] (fun x wr => ∃ (i : Nat) (l : Value) (ncs : List (List Value)), i ≤ p.sub.length ∧ x = .int .i64 i ∧ Hid (CuI (W.heap.size + 1 + 1 + 1 + 1) w0 d.v (cutF (p.sub.take i) t d) wr l ncs)) (fun x _ => p.sub.length - (intOf x).toNat)
  case atStart => exact ⟨0, _, [], Nat.zero_le _, rfl, by rw [List.take_zero, cutF]; exact HS.out⟩
  case round =>
    clear HS
    obtain ⟨i, l, ncs, hik, rfl, HC⟩ := hrel
    have hfl : (cutF (p.sub.take i) t d).length = i := by rw [cutF_len, List.length_take]; omega
    obtain ⟨ra, rc, hlv⟩ := HC.out.shape
    rw [hfl] at hlv
    subst hlv
    have hb : Below W.heap.size W wr := HB.out.trans (HC.out.old.mono (by omega))
    have HBr : Hid _ := hb
    by_cases hlt : i < p.sub.length
    · obtain ⟨b, o, a1, c1, rfl, d0, d1, d2, d3, d4, hl1⟩ := (HLP.out.keep hb).at_ i hlt
      obtain ⟨k, hk, hk2, hid, hfst, hcp⟩ := HX.out i hlt
      have HCP : Hid (CutP p.sub[i] t.sub[k] d.f[k]) := hcp
      have HPL : Hid (∀ X, Below W.heap.size W X → Calls Tryd.prog 52 #[.agg #[.int .i64 t.id, .string t.nm, .int .i64 t.rep, .int .i64 t.kind, .slice ta t.sub.length tc], .int .i64 p.sub[i].id] X fun e w' => e = .returned (.int .i64 (k : Nat)) ∧ Below X.heap.size X w') := fun X hX => placeOf_at t htl p.sub[i].id k hk hid hfst P ta tc X (HLT.out.keep hX)
      have HIK : Hid (ixO t.sub p.sub[i].id = k) := (by show _ = _; rw [← hid]; exact ixO_at hk rfl (by rw [hid]; exact hfst))
      have hb2 : Below wr.heap.size wr (wr.alloc (.cells #[.int .i64 p.sub[i].id, .string p.sub[i].nm, .int .i64 p.sub[i].rep, .int .i64 p.sub[i].kind, .slice a1 p.sub[i].sub.length c1] 24)) := (Below.refl _ _).alloc (Nat.le_refl _) _
      have HI2 : Hid ((wr.alloc (.cells #[.int .i64 p.sub[i].id, .string p.sub[i].nm, .int .i64 p.sub[i].rep, .int .i64 p.sub[i].kind, .slice a1 p.sub[i].sub.length c1] 24)).heap[wr.heap.size]? = some (.cells #[.int .i64 p.sub[i].id, .string p.sub[i].nm, .int .i64 p.sub[i].rep, .int .i64 p.sub[i].kind, .slice a1 p.sub[i].sub.length c1] 24 (0, 0))) := heap_alloc_new _ _
      have HC2 : Hid (CuI (W.heap.size + 1 + 1 + 1 + 1) w0 d.v (cutF (p.sub.take i) t d) (wr.alloc (.cells #[.int .i64 p.sub[i].id, .string p.sub[i].nm, .int .i64 p.sub[i].rep, .int .i64 p.sub[i].kind, .slice a1 p.sub[i].sub.length c1] 24)) (.slice ra i rc) ncs) := HC.out.keep hb2
      have HL1 : Hid (LiesN (wr.alloc (.cells #[.int .i64 p.sub[i].id, .string p.sub[i].nm, .int .i64 p.sub[i].rep, .int .i64 p.sub[i].kind, .slice a1 p.sub[i].sub.length c1] 24)) Q a1 p.sub[i].sub) := hl1.keep hb2
      have HBi : Hid (wr.heap.size < (wr.alloc (.cells #[.int .i64 p.sub[i].id, .string p.sub[i].nm, .int .i64 p.sub[i].rep, .int .i64 p.sub[i].kind, .slice a1 p.sub[i].sub.length c1] 24)).heap.size ∧ W.heap.size + 5 ≤ wr.heap.size) := ⟨by simp, HC.out.big⟩
      obtain ⟨w2, HW2⟩ := hid_name (wr.alloc (.cells #[.int .i64 p.sub[i].id, .string p.sub[i].nm, .int .i64 p.sub[i].rep, .int .i64 p.sub[i].kind, .slice a1 p.sub[i].sub.length c1] 24))
      rw [HW2.out] at HI2 HC2 HL1 HBi
      clear hb2 hl1 hb hid hfst hcp
      go_upto_region 5 with fail
      rw [HW2.out]
      clear HW2 d0 d1 d2 d3 d4
      have HB2 : Hid (Below W.heap.size W w2) := HB.out.trans (HC2.out.old.mono (by omega))
      have HT2 : Hid _ := (HC2.out.old.block W.heap.size (by omega)).trans HT.out
      have HD2 : Hid _ := (HC2.out.old.block (W.heap.size + 1 + 1) (by omega)).trans HD.out
      obtain ⟨⟨p0, p1, p2, p3, p4⟩, _⟩ := row_five HT2.out
      obtain ⟨⟨i0, i1, i2, i3, i4⟩, _⟩ := row_five HI2.out
      go_wp2_with fail
      refine Calls.mono (HPL.out w2 HB2.out) ?_
      rintro e w3 ⟨rfl, hb3⟩
      have HB3 : Hid (Below W.heap.size W w3) := HB2.out.trans (hb3.mono HB2.out.size)
      have HC3 : Hid (CuI (W.heap.size + 1 + 1 + 1 + 1) w0 d.v (cutF (p.sub.take i) t d) w3 (.slice ra i rc) ncs) := HC2.out.keep hb3
      have HI3 : Hid _ := blk_keep hb3 HI2.out
      have HT3 : Hid _ := blk_keep hb3 HT2.out
      have HD3 : Hid _ := blk_keep hb3 HD2.out
      have HL3 : Hid (LiesN w3 Q a1 p.sub[i].sub) := HL1.out.keep hb3
      have hbi := HBi.out
      have hs3 := hb3.size
      clear hb3 p0 p1 p2 p3 p4 i0 i1 i2 i3 i4 HI2 HT2 HD2 HL1 HPL
      obtain ⟨tb, tof, ta1, tc1, eta, t0, t1, t2, t3, t4, htl1⟩ := (HLT.out.keep HB3.out).at_ k hk
      obtain ⟨db, dof, xl, xcl, xf, xcf, eda, ⟨x0, x1, x2, x3, x4, x5⟩, hxl, hxf⟩ := (HDF.out.keep HB3.out).at_ k hk2
      have HTD : Hid (tb < W.heap.size ∧ db < W.heap.size) := (by
        obtain ⟨tb', tof', _, _, e, h0, _⟩ := HLT.out.at_ k hk
        obtain ⟨db', dof', _, _, _, _, e', ⟨h0', _⟩, _⟩ := HDF.out.at_ k hk2
        rw [eta] at e
        rw [eda] at e'
        injection e with e; injection e with e _ _; subst e
        injection e' with e'; injection e' with e' _ _; subst e'
        exact ⟨World.block_lt_of_cell? W _ h0, World.block_lt_of_cell? W _ h0'⟩)
      subst eta eda
      have HTL : Hid (LiesN w3 P ta1 t.sub[k].sub) := htl1
      have HXL : Hid (LiesD w3 R xl d.f[k].l) := hxl
      have HXF : Hid (LiesD w3 R xf d.f[k].f) := hxf
      have HCC : Hid (∀ X, Below w3.heap.size w3 X → Calls Tryd.prog 18 #[.agg #[.int .i64 t.sub[k].id, .string t.sub[k].nm, .int .i64 t.sub[k].rep, .int .i64 t.sub[k].kind, .slice ta1 t.sub[k].sub.length tc1], .agg #[.int .i64 p.sub[i].id, .string p.sub[i].nm, .int .i64 p.sub[i].rep, .int .i64 p.sub[i].kind, .slice a1 p.sub[i].sub.length c1], .agg #[.bool d.f[k].no, .int .i64 d.f[k].v.k, .int .i64 d.f[k].v.n, .string d.f[k].v.s, .slice xl d.f[k].l.length xcl, .slice xf d.f[k].f.length xcf]] X fun e w' => (∃ al' cl' af' cf', e = .returned (.agg #[.bool (cutT p.sub[i] t.sub[k] d.f[k]).no, .int .i64 (cutT p.sub[i] t.sub[k] d.f[k]).v.k, .int .i64 (cutT p.sub[i] t.sub[k] d.f[k]).v.n, .string (cutT p.sub[i] t.sub[k] d.f[k]).v.s, .slice al' (cutT p.sub[i] t.sub[k] d.f[k]).l.length cl', .slice af' (cutT p.sub[i] t.sub[k] d.f[k]).f.length cf']) ∧ LiesD w' (fun b => X.heap.size ≤ b) al' (cutT p.sub[i] t.sub[k] d.f[k]).l ∧ LiesD w' (fun b => X.heap.size ≤ b) af' (cutT p.sub[i] t.sub[k] d.f[k]).f) ∧ Below X.heap.size X w') := fun X hX => HCP.out P Q R ta1 tc1 a1 c1 xl xcl xf xcf X (HTL.out.keep hX) (HL3.out.keep hX) (HXL.out.keep hX) (HXF.out.keep hX)
      obtain ⟨y, HY⟩ := hid_name (cutT p.sub[i] t.sub[k] d.f[k])
      rw [HY.out] at HCC
      have HNx : Hid (cutF (p.sub.take (i + 1)) t d = cutF (p.sub.take i) t d ++ [y]) := (by show _ = _; rw [cutF_take p.sub t d i hlt, HIK.out, getD_at' hk, getD_at' hk2, HY.out])
      clear htl1 hxl hxf HTL HXL HXF HCP HL3 HY
      obtain ⟨⟨p0, p1, p2, p3, p4⟩, _⟩ := row_five HT3.out
      obtain ⟨⟨i0, i1, i2, i3, i4⟩, _⟩ := row_five HI3.out
      obtain ⟨z0, z1, z2, z3, z4, z5⟩ := row_six HD3.out
      obtain ⟨r0, r1, r2, r3, r4, r5⟩ := row_six HC3.out.out
      have HRow : Hid (w3.ownsRow (W.heap.size + 1 + 1 + 1 + 1 + 1) 30 6 (.slice ra i rc) i ncs.flatten) := (by have h := HC3.out.row; rw [hfl] at h; exact h)
      have HKz : Hid (wr.heap.size < w3.heap.size ∧ W.heap.size + 5 ≤ w3.heap.size ∧ W.heap.size + 5 ≤ wr.heap.size ∧ some wr.heap.size ≠ (Value.slice ra i rc).ownBlock) := ⟨by omega, by omega, by omega, fun e => by have := (HC.out.row.lt _ e.symm).2; omega⟩
      have HKB : Hid (∀ X, Below w3.heap.size w3 X → KpB (W.heap.size + 1 + 1 + 1 + 1) wr.heap.size w3 X) := fun X hX b hb => hX.block b (by have := HKz.out; rcases hb with h | h <;> omega)
      have hbt : tb < W.heap.size ∧ db < W.heap.size := HTD.out
      have HN : Hid (∀ X, KpB (W.heap.size + 1 + 1 + 1 + 1) wr.heap.size w3 X → (X.cell? ⟨W.heap.size, 0, none⟩ = some (.int .i64 t.id) ∧ X.cell? ⟨W.heap.size, 1, none⟩ = some (.string t.nm) ∧ X.cell? ⟨W.heap.size, 2, none⟩ = some (.int .i64 t.rep) ∧ X.cell? ⟨W.heap.size, 3, none⟩ = some (.int .i64 t.kind) ∧ X.cell? ⟨W.heap.size, 4, none⟩ = some (.slice (some ⟨tb, tof, none⟩) t.sub.length tc)) ∧
          (X.cell? ⟨tb, tof + k * 5, none⟩ = some (.int .i64 t.sub[k].id) ∧ X.cell? ⟨tb, tof + k * 5 + 1, none⟩ = some (.string t.sub[k].nm) ∧ X.cell? ⟨tb, tof + k * 5 + 2, none⟩ = some (.int .i64 t.sub[k].rep) ∧ X.cell? ⟨tb, tof + k * 5 + 3, none⟩ = some (.int .i64 t.sub[k].kind) ∧ X.cell? ⟨tb, tof + k * 5 + 4, none⟩ = some (.slice ta1 t.sub[k].sub.length tc1)) ∧
          (X.cell? ⟨wr.heap.size, 0, none⟩ = some (.int .i64 p.sub[i].id) ∧ X.cell? ⟨wr.heap.size, 1, none⟩ = some (.string p.sub[i].nm) ∧ X.cell? ⟨wr.heap.size, 2, none⟩ = some (.int .i64 p.sub[i].rep) ∧ X.cell? ⟨wr.heap.size, 3, none⟩ = some (.int .i64 p.sub[i].kind) ∧ X.cell? ⟨wr.heap.size, 4, none⟩ = some (.slice a1 p.sub[i].sub.length c1)) ∧
          (X.cell? ⟨W.heap.size + 1 + 1, 0, none⟩ = some (.bool d.no) ∧ X.cell? ⟨W.heap.size + 1 + 1, 1, none⟩ = some (.int .i64 d.v.k) ∧ X.cell? ⟨W.heap.size + 1 + 1, 2, none⟩ = some (.int .i64 d.v.n) ∧ X.cell? ⟨W.heap.size + 1 + 1, 3, none⟩ = some (.string d.v.s) ∧ X.cell? ⟨W.heap.size + 1 + 1, 4, none⟩ = some (.slice al d.l.length cl) ∧ X.cell? ⟨W.heap.size + 1 + 1, 5, none⟩ = some (.slice (some ⟨db, dof, none⟩) d.f.length cf)) ∧
          (X.cell? ⟨db, dof + k * 6, none⟩ = some (.bool d.f[k].no) ∧ X.cell? ⟨db, dof + k * 6 + 1, none⟩ = some (.int .i64 d.f[k].v.k) ∧ X.cell? ⟨db, dof + k * 6 + 2, none⟩ = some (.int .i64 d.f[k].v.n) ∧ X.cell? ⟨db, dof + k * 6 + 3, none⟩ = some (.string d.f[k].v.s) ∧ X.cell? ⟨db, dof + k * 6 + 4, none⟩ = some (.slice xl d.f[k].l.length xcl) ∧ X.cell? ⟨db, dof + k * 6 + 5, none⟩ = some (.slice xf d.f[k].f.length xcf))) := fun X hX => (by
        have kk : ∀ (b o : Nat) (u : Value), (b < W.heap.size + 1 + 1 + 1 + 1 ∨ b = wr.heap.size) → w3.cell? ⟨b, o, none⟩ = some u → X.cell? ⟨b, o, none⟩ = some u := fun b o u hb h => cell_stay h (hX b hb)
        have h1 : W.heap.size < W.heap.size + 1 + 1 + 1 + 1 ∨ W.heap.size = wr.heap.size := .inl (by omega)
        have h2 : tb < W.heap.size + 1 + 1 + 1 + 1 ∨ tb = wr.heap.size := .inl (by omega)
        have h3 : wr.heap.size < W.heap.size + 1 + 1 + 1 + 1 ∨ wr.heap.size = wr.heap.size := .inr rfl
        have h4 : W.heap.size + 1 + 1 < W.heap.size + 1 + 1 + 1 + 1 ∨ W.heap.size + 1 + 1 = wr.heap.size := .inl (by omega)
        have h5 : db < W.heap.size + 1 + 1 + 1 + 1 ∨ db = wr.heap.size := .inl (by omega)
        exact ⟨⟨kk _ _ _ h1 p0, kk _ _ _ h1 p1, kk _ _ _ h1 p2, kk _ _ _ h1 p3, kk _ _ _ h1 p4⟩, ⟨kk _ _ _ h2 t0, kk _ _ _ h2 t1, kk _ _ _ h2 t2, kk _ _ _ h2 t3, kk _ _ _ h2 t4⟩, ⟨kk _ _ _ h3 i0, kk _ _ _ h3 i1, kk _ _ _ h3 i2, kk _ _ _ h3 i3, kk _ _ _ h3 i4⟩, ⟨kk _ _ _ h4 z0, kk _ _ _ h4 z1, kk _ _ _ h4 z2, kk _ _ _ h4 z3, kk _ _ _ h4 z4, kk _ _ _ h4 z5⟩, ⟨kk _ _ _ h5 x0, kk _ _ _ h5 x1, kk _ _ _ h5 x2, kk _ _ _ h5 x3, kk _ _ _ h5 x4, kk _ _ _ h5 x5⟩⟩)
      clear hbt hs3 hbi
      go_upto_region 6 with fail
      refine wp_region_held_drew (S := (KpB (W.heap.size + 1 + 1 + 1 + 1) wr.heap.size w3)) (by kernel_rfl) (KpB.drew (KpB.refl _ _ _)) (fun hH0 => ?_)
      refine wpAnyH_take (i := 0) (oi := { dst := some 25, op := Op.fieldAddr 30 (Operand.tmp 7) 3, type := 0, pos := "parts.go:45", after := #[], guard := none }) (v := ?vc0) rfl (by kernel_rfl) (by kernel_rfl) (by kernel_rfl) (fun _ _ _ h => h) (Or.inl ⟨by rfl, ?hyc0⟩) hH0 ?_
      case hyc0 => (intro w hSw; obtain ⟨⟨p0, p1, p2, p3, p4⟩, ⟨t0, t1, t2, t3, t4⟩, ⟨i0, i1, i2, i3, i4⟩, ⟨z0, z1, z2, z3, z4, z5⟩, ⟨x0, x1, x2, x3, x4, x5⟩⟩ := HN.out w hSw; go_simp; (first | done | with_reducible rfl))
      (try simp only [Act.put, List.setIfInBounds_toArray, List.set_cons_zero, List.set_cons_succ])
      refine wpAnyH_take (i := 2) (oi := { dst := some 27, op := Op.fieldAddr 24 (Operand.tmp 3) 4, type := 0, pos := "parts.go:45", after := #[], guard := none }) (v := ?vc2) rfl (by kernel_rfl) (by kernel_rfl) (by kernel_rfl) (fun _ _ _ h => h) (Or.inl ⟨by rfl, ?hyc2⟩) hH0 ?_
      case hyc2 => (intro w hSw; obtain ⟨⟨p0, p1, p2, p3, p4⟩, ⟨t0, t1, t2, t3, t4⟩, ⟨i0, i1, i2, i3, i4⟩, ⟨z0, z1, z2, z3, z4, z5⟩, ⟨x0, x1, x2, x3, x4, x5⟩⟩ := HN.out w hSw; go_simp; (first | done | with_reducible rfl))
      (try simp only [Act.put, List.setIfInBounds_toArray, List.set_cons_zero, List.set_cons_succ])
      refine wpAnyH_take (i := 3) (oi := { dst := some 28, op := Op.load 22 (Operand.tmp 27), type := 22, pos := "parts.go:45", after := #[{ on := 2, ground := Ground.data }], guard := none }) (v := ?vc3) rfl (by kernel_rfl) (by kernel_rfl) (by kernel_rfl) (fun _ _ _ h => h) (Or.inl ⟨by rfl, ?hyc3⟩) hH0 ?_
      case hyc3 => (intro w hSw; obtain ⟨⟨p0, p1, p2, p3, p4⟩, ⟨t0, t1, t2, t3, t4⟩, ⟨i0, i1, i2, i3, i4⟩, ⟨z0, z1, z2, z3, z4, z5⟩, ⟨x0, x1, x2, x3, x4, x5⟩⟩ := HN.out w hSw; go_simp; (first | done | with_reducible rfl))
      (try simp only [Act.put, List.setIfInBounds_toArray, List.set_cons_zero, List.set_cons_succ])
      refine wpAnyH_take (i := 4) (oi := { dst := some 29, op := Op.move (Operand.tmp 10), type := 3, pos := "parts.go:45", after := #[], guard := none }) (v := ?vc4) rfl (by kernel_rfl) (by kernel_rfl) (by kernel_rfl) (fun _ _ _ h => h) (Or.inl ⟨by rfl, ?hyc4⟩) hH0 ?_
      case hyc4 => (intro w hSw; obtain ⟨⟨p0, p1, p2, p3, p4⟩, ⟨t0, t1, t2, t3, t4⟩, ⟨i0, i1, i2, i3, i4⟩, ⟨z0, z1, z2, z3, z4, z5⟩, ⟨x0, x1, x2, x3, x4, x5⟩⟩ := HN.out w hSw; go_simp; (first | done | with_reducible rfl))
      (try simp only [Act.put, List.setIfInBounds_toArray, List.set_cons_zero, List.set_cons_succ])
      refine wpAnyH_take (i := 5) (oi := { dst := some 30, op := Op.indexAddr 22 (Operand.tmp 28) (Operand.tmp 29), type := 0, pos := "parts.go:45", after := #[{ on := 3, ground := Ground.data }, { on := 4, ground := Ground.data }], guard := none }) (v := ?vc5) rfl (by kernel_rfl) (by kernel_rfl) (by kernel_rfl) (fun _ _ _ h => h) (Or.inl ⟨by rfl, ?hyc5⟩) hH0 ?_
      case hyc5 => (intro w hSw; obtain ⟨⟨p0, p1, p2, p3, p4⟩, ⟨t0, t1, t2, t3, t4⟩, ⟨i0, i1, i2, i3, i4⟩, ⟨z0, z1, z2, z3, z4, z5⟩, ⟨x0, x1, x2, x3, x4, x5⟩⟩ := HN.out w hSw; go_simp; (first | done | with_reducible rfl))
      (try simp only [Act.put, List.setIfInBounds_toArray, List.set_cons_zero, List.set_cons_succ])
      refine wpAnyH_take (i := 6) (oi := { dst := some 31, op := Op.load 24 (Operand.tmp 30), type := 24, pos := "parts.go:45", after := #[{ on := 5, ground := Ground.data }], guard := none }) (v := ?vc6) rfl (by kernel_rfl) (by kernel_rfl) (by kernel_rfl) (fun _ _ _ h => h) (Or.inl ⟨by rfl, ?hyc6⟩) hH0 ?_
      case hyc6 => (intro w hSw; obtain ⟨⟨p0, p1, p2, p3, p4⟩, ⟨t0, t1, t2, t3, t4⟩, ⟨i0, i1, i2, i3, i4⟩, ⟨z0, z1, z2, z3, z4, z5⟩, ⟨x0, x1, x2, x3, x4, x5⟩⟩ := HN.out w hSw; go_simp; (first | done | with_reducible rfl))
      (try simp only [Act.put, List.setIfInBounds_toArray, List.set_cons_zero, List.set_cons_succ])
      refine wpAnyH_take (i := 7) (oi := { dst := some 32, op := Op.load 24 (Operand.tmp 9), type := 24, pos := "parts.go:45", after := #[], guard := none }) (v := ?vc7) rfl (by kernel_rfl) (by kernel_rfl) (by kernel_rfl) (fun _ _ _ h => h) (Or.inl ⟨by rfl, ?hyc7⟩) hH0 ?_
      case hyc7 => (intro w hSw; obtain ⟨⟨p0, p1, p2, p3, p4⟩, ⟨t0, t1, t2, t3, t4⟩, ⟨i0, i1, i2, i3, i4⟩, ⟨z0, z1, z2, z3, z4, z5⟩, ⟨x0, x1, x2, x3, x4, x5⟩⟩ := HN.out w hSw; go_simp; (first | done | with_reducible rfl))
      (try simp only [Act.put, List.setIfInBounds_toArray, List.set_cons_zero, List.set_cons_succ])
      refine wpAnyH_take (i := 8) (oi := { dst := some 33, op := Op.fieldAddr 30 (Operand.tmp 5) 3, type := 0, pos := "parts.go:45", after := #[], guard := none }) (v := ?vc8) rfl (by kernel_rfl) (by kernel_rfl) (by kernel_rfl) (fun _ _ _ h => h) (Or.inl ⟨by rfl, ?hyc8⟩) hH0 ?_
      case hyc8 => (intro w hSw; obtain ⟨⟨p0, p1, p2, p3, p4⟩, ⟨t0, t1, t2, t3, t4⟩, ⟨i0, i1, i2, i3, i4⟩, ⟨z0, z1, z2, z3, z4, z5⟩, ⟨x0, x1, x2, x3, x4, x5⟩⟩ := HN.out w hSw; go_simp; (first | done | with_reducible rfl))
      (try simp only [Act.put, List.setIfInBounds_toArray, List.set_cons_zero, List.set_cons_succ])
      refine wpAnyH_take (i := 9) (oi := { dst := some 34, op := Op.load 28 (Operand.tmp 33), type := 28, pos := "parts.go:45", after := #[{ on := 8, ground := Ground.data }], guard := none }) (v := ?vc9) rfl (by kernel_rfl) (by kernel_rfl) (by kernel_rfl) (fun _ _ _ h => h) (Or.inl ⟨by rfl, ?hyc9⟩) hH0 ?_
      case hyc9 => (intro w hSw; obtain ⟨⟨p0, p1, p2, p3, p4⟩, ⟨t0, t1, t2, t3, t4⟩, ⟨i0, i1, i2, i3, i4⟩, ⟨z0, z1, z2, z3, z4, z5⟩, ⟨x0, x1, x2, x3, x4, x5⟩⟩ := HN.out w hSw; go_simp; (first | done | with_reducible rfl))
      (try simp only [Act.put, List.setIfInBounds_toArray, List.set_cons_zero, List.set_cons_succ])
      refine wpAnyH_take (i := 10) (oi := { dst := some 35, op := Op.move (Operand.tmp 10), type := 3, pos := "parts.go:45", after := #[], guard := none }) (v := ?vc10) rfl (by kernel_rfl) (by kernel_rfl) (by kernel_rfl) (fun _ _ _ h => h) (Or.inl ⟨by rfl, ?hyc10⟩) hH0 ?_
      case hyc10 => (intro w hSw; obtain ⟨⟨p0, p1, p2, p3, p4⟩, ⟨t0, t1, t2, t3, t4⟩, ⟨i0, i1, i2, i3, i4⟩, ⟨z0, z1, z2, z3, z4, z5⟩, ⟨x0, x1, x2, x3, x4, x5⟩⟩ := HN.out w hSw; go_simp; (first | done | with_reducible rfl))
      (try simp only [Act.put, List.setIfInBounds_toArray, List.set_cons_zero, List.set_cons_succ])
      refine wpAnyH_take (i := 11) (oi := { dst := some 36, op := Op.indexAddr 28 (Operand.tmp 34) (Operand.tmp 35), type := 0, pos := "parts.go:45", after := #[{ on := 9, ground := Ground.data }, { on := 10, ground := Ground.data }], guard := none }) (v := ?vc11) rfl (by kernel_rfl) (by kernel_rfl) (by kernel_rfl) (fun _ _ _ h => h) (Or.inl ⟨by rfl, ?hyc11⟩) hH0 ?_
      case hyc11 => (intro w hSw; obtain ⟨⟨p0, p1, p2, p3, p4⟩, ⟨t0, t1, t2, t3, t4⟩, ⟨i0, i1, i2, i3, i4⟩, ⟨z0, z1, z2, z3, z4, z5⟩, ⟨x0, x1, x2, x3, x4, x5⟩⟩ := HN.out w hSw; go_simp; (first | done | with_reducible rfl))
      (try simp only [Act.put, List.setIfInBounds_toArray, List.set_cons_zero, List.set_cons_succ])
      refine wpAnyH_take (i := 12) (oi := { dst := some 37, op := Op.load 30 (Operand.tmp 36), type := 30, pos := "parts.go:45", after := #[{ on := 11, ground := Ground.data }], guard := none }) (v := ?vc12) rfl (by kernel_rfl) (by kernel_rfl) (by kernel_rfl) (fun _ _ _ h => h) (Or.inl ⟨by rfl, ?hyc12⟩) hH0 ?_
      case hyc12 => (intro w hSw; obtain ⟨⟨p0, p1, p2, p3, p4⟩, ⟨t0, t1, t2, t3, t4⟩, ⟨i0, i1, i2, i3, i4⟩, ⟨z0, z1, z2, z3, z4, z5⟩, ⟨x0, x1, x2, x3, x4, x5⟩⟩ := HN.out w hSw; go_simp; (first | done | with_reducible rfl))
      (try simp only [Act.put, List.setIfInBounds_toArray, List.set_cons_zero, List.set_cons_succ])
      refine wpAnyH_ready (rs := [1, 13]) (by kernel_rfl) (by simp) ?_
      refine AllReadyH.cons (o := { dst := some 26, op := Op.load 28 (Operand.tmp 25), type := 28, pos := "parts.go:45", after := #[{ on := 0, ground := Ground.data }], guard := none }) rfl (fun K hK => ?_) ?_
      · go_simp
        refine hK.out _ _ hH0 (fun hH1 => ?_)
        (try simp only [Act.put, List.setIfInBounds_toArray, List.set_cons_zero, List.set_cons_succ])
        refine wpAnyH_ready (rs := [13]) (by kernel_rfl) (by simp) ?_
        refine AllReadyH.cons (o := { dst := some 38, op := Op.call { callee := Callee.value (Operand.func 18), args := #[Operand.tmp 31, Operand.tmp 32, Operand.tmp 37], argTypes := #[24, 24, 30] }, type := 30, pos := "parts.go:45", after := #[{ on := 6, ground := Ground.data }, { on := 7, ground := Ground.data }, { on := 12, ground := Ground.data }], guard := none }) rfl (fun K hK => ?_) AllReadyH.nil
        go_simp
        (go_at_call 18; (with_reducible refine Calls.mono (HCC.out w3.drew (Below.refl _ _).drew) ?_); rintro e w4 ⟨⟨yl, ycl, yf, ycf, rfl, hyl, hyf⟩, hb4⟩)
        have HYL : Hid (LiesD w4 (fun b => w3.heap.size ≤ b) yl y.l) := hyl
        have HYF : Hid (LiesD w4 (fun b => w3.heap.size ≤ b) yf y.f) := hyf
        have HB4 : Hid (Below w3.heap.size w3 w4) := (Below.refl _ _).drew.trans hb4
        clear hyl hyf hb4
        have hK4 : KpB (W.heap.size + 1 + 1 + 1 + 1) wr.heap.size w3 w4 := HKB.out w4 HB4.out
        have r5a : w4.cell? ⟨W.heap.size + 1 + 1 + 1 + 1, 5, none⟩ = some (.slice ra i rc) := (HB4.out.cell (World.block_lt_of_cell? w3 _ r5)).trans r5
        go_wp2_with fail
        refine hK.out _ _ hK4 (fun hH2 => ?_)
        (try simp only [Act.put, List.setIfInBounds_toArray, List.set_cons_zero, List.set_cons_succ])
        refine wpAnyH_ready (rs := [14]) (by kernel_rfl) (by simp) ?_
        refine AllReadyH.cons (o := { dst := some 39, op := Op.buildSlice 28 1 #[(0, Operand.tmp 38)], type := 28, pos := "parts.go:45", after := #[{ on := 13, ground := Ground.data }], guard := none }) rfl (fun K hK => ?_) AllReadyH.nil
        go_simp
        have hB5 : Below w3.heap.size w3 (w4.alloc (.cells #[.bool y.no, .int .i64 y.v.k, .int .i64 y.v.n, .string y.v.s, .slice yl y.l.length ycl, .slice yf y.f.length ycf] 30)) := HB4.out.alloc HB4.out.size _
        have r5b : (w4.alloc (.cells #[.bool y.no, .int .i64 y.v.k, .int .i64 y.v.n, .string y.v.s, .slice yl y.l.length ycl, .slice yf y.f.length ycf] 30)).cell? ⟨W.heap.size + 1 + 1 + 1 + 1, 5, none⟩ = some (.slice ra i rc) := (hB5.cell (World.block_lt_of_cell? w3 _ r5)).trans r5
        refine hK.out _ _ (HKB.out _ hB5) (fun hH3 => ?_)
        (try simp only [Act.put, List.setIfInBounds_toArray, List.set_cons_zero, List.set_cons_succ])
        refine wpAnyH_ready (rs := [15]) (by kernel_rfl) (by simp) ?_
        refine AllReadyH.cons (o := { dst := some 40, op := Op.call { callee := Callee.builtin Builtin.append, args := #[Operand.tmp 26, Operand.tmp 39], argTypes := #[28, 28] }, type := 28, pos := "parts.go:45", after := #[{ on := 1, ground := Ground.data }, { on := 14, ground := Ground.data }, { on := 13, ground := Ground.chain }], guard := none }) rfl (fun K hK => ?_) AllReadyH.nil
        (refine step_own_where _ rfl _ _ 28 rfl (W.heap.size + 1 + 1 + 1 + 1 + 1) 30 iv (.agg #[.bool false, .int .i64 0, .int .i64 0, .string ⟨#[]⟩, .slice none 0 0, .slice none 0 0]) 6 88 Tryd.underlying28 hvi hv0 hv1 hv2 rfl (by decide) _ i ncs.flatten rfl ((ow_kept HRow.out HB4.out).alloc _) ⟨w4.heap.size, 0, none⟩ 1 1 [.bool y.no, .int .i64 y.v.k, .int .i64 y.v.n, .string y.v.s, .slice yl y.l.length ycl, .slice yf y.f.length ycf] rfl rfl six_cells (by intro u hu; simp at hu; rcases hu with rfl | rfl | rfl | rfl | rfl | rfl <;> rfl) (by unfold maxLen; omega) (by omega) (by have := HB4.out.size; have := HC3.out.big; simp; omega) (by decide) ?_; intro l' w5 hown5 hgrow5 hwh5)
        obtain ⟨g5, cap5, rfl⟩ := own_shape hown5
        have hO5 := (HC3.out.three HB4.out hgrow5 (by omega)).trans HC3.out.out
        obtain ⟨_, _, _, _, _, y5⟩ := row_six hO5
        obtain ⟨_, _, _, _, _, q5⟩ := row_six_z hO5
        have HOn : Hid _ := HC3.out.push HB4.out HYL.out HYF.out (by rw [hfl]; exact hown5) hgrow5 hwh5
        have hK5 : KpB (W.heap.size + 1 + 1 + 1 + 1) wr.heap.size w3 w5 := KpB.grown (fun j hj => HC3.out.apart (by omega)) HKz.out.2.2.2 HB4.out hgrow5 HKz.out.1 (by have := HKz.out; omega)
        clear hown5 hgrow5 hwh5 hO5
        refine hK.out _ _ hK5 (fun hH4 => ?_)
        (try simp only [Act.put, List.setIfInBounds_toArray, List.set_cons_zero, List.set_cons_succ])
        refine wpAnyH_take (i := 16) (oi := { dst := some 41, op := Op.fieldAddr 30 (Operand.tmp 7) 3, type := 0, pos := "parts.go:45", after := #[{ on := 0, ground := Ground.phase }, { on := 1, ground := Ground.phase }, { on := 2, ground := Ground.phase }, { on := 3, ground := Ground.phase }, { on := 4, ground := Ground.phase }, { on := 5, ground := Ground.phase }, { on := 6, ground := Ground.phase }, { on := 7, ground := Ground.phase }, { on := 8, ground := Ground.phase }, { on := 9, ground := Ground.phase }, { on := 10, ground := Ground.phase }, { on := 11, ground := Ground.phase }, { on := 12, ground := Ground.phase }, { on := 13, ground := Ground.phase }, { on := 14, ground := Ground.phase }, { on := 15, ground := Ground.phase }], guard := none }) (v := .pointer (some ⟨W.heap.size + 1 + 1 + 1 + 1, 5, none⟩)) rfl (by kernel_rfl) (by kernel_rfl) (by kernel_rfl) (fun _ _ _ h => h) (Or.inl ⟨by rfl, (by intro w hSw; go_simp; done)⟩) hH4 ?_
        (try simp only [Act.put, List.setIfInBounds_toArray, List.set_cons_zero, List.set_cons_succ])
        refine wpAnyH_ready (rs := [17]) (by kernel_rfl) (by simp) ?_
        refine AllReadyH.cons (o := { dst := none, op := Op.store 28 (Operand.tmp 41) (Operand.tmp 40), type := 0, pos := "parts.go:45", after := #[{ on := 16, ground := Ground.data }, { on := 15, ground := Ground.data }, { on := 15, ground := Ground.chain }, { on := 0, ground := Ground.phase }, { on := 1, ground := Ground.phase }, { on := 2, ground := Ground.phase }, { on := 3, ground := Ground.phase }, { on := 4, ground := Ground.phase }, { on := 5, ground := Ground.phase }, { on := 6, ground := Ground.phase }, { on := 7, ground := Ground.phase }, { on := 8, ground := Ground.phase }, { on := 9, ground := Ground.phase }, { on := 10, ground := Ground.phase }, { on := 11, ground := Ground.phase }, { on := 12, ground := Ground.phase }, { on := 13, ground := Ground.phase }, { on := 14, ground := Ground.phase }, { on := 15, ground := Ground.phase }], guard := none }) rfl (fun K hK => ?_) AllReadyH.nil
        go_simp
        refine hK.out _ _ (KpB.put hK5 (by have := HKz.out; omega) _) (fun hH5 => ?_)
        (try simp only [Act.put, List.setIfInBounds_toArray, List.set_cons_zero, List.set_cons_succ])
        refine wpAnyH_done (by kernel_rfl) ?_ _
        go_wp2
        go_roundw
        case rel => exact ⟨i + 1, _, _, by omega, by go_num, by rw [HNx.out]; exact HOn⟩
        case measure => simp [intOf]; omega
      refine AllReadyH.cons (o := { dst := some 38, op := Op.call { callee := Callee.value (Operand.func 18), args := #[Operand.tmp 31, Operand.tmp 32, Operand.tmp 37], argTypes := #[24, 24, 30] }, type := 30, pos := "parts.go:45", after := #[{ on := 6, ground := Ground.data }, { on := 7, ground := Ground.data }, { on := 12, ground := Ground.data }], guard := none }) rfl (fun K hK => ?_) AllReadyH.nil
      go_simp
      (go_at_call 18; (with_reducible refine Calls.mono (HCC.out w3.drew (Below.refl _ _).drew) ?_); rintro e w4 ⟨⟨yl, ycl, yf, ycf, rfl, hyl, hyf⟩, hb4⟩)
      have HYL : Hid (LiesD w4 (fun b => w3.heap.size ≤ b) yl y.l) := hyl
      have HYF : Hid (LiesD w4 (fun b => w3.heap.size ≤ b) yf y.f) := hyf
      have HB4 : Hid (Below w3.heap.size w3 w4) := (Below.refl _ _).drew.trans hb4
      clear hyl hyf hb4
      have hK4 : KpB (W.heap.size + 1 + 1 + 1 + 1) wr.heap.size w3 w4 := HKB.out w4 HB4.out
      have r5a : w4.cell? ⟨W.heap.size + 1 + 1 + 1 + 1, 5, none⟩ = some (.slice ra i rc) := (HB4.out.cell (World.block_lt_of_cell? w3 _ r5)).trans r5
      go_wp2_with fail
      refine hK.out _ _ hK4 (fun hH2 => ?_)
      (try simp only [Act.put, List.setIfInBounds_toArray, List.set_cons_zero, List.set_cons_succ])
      refine wpAnyH_ready (rs := [1, 14]) (by kernel_rfl) (by simp) ?_
      refine AllReadyH.cons (o := { dst := some 26, op := Op.load 28 (Operand.tmp 25), type := 28, pos := "parts.go:45", after := #[{ on := 0, ground := Ground.data }], guard := none }) rfl (fun K hK => ?_) ?_
      · go_simp
        refine hK.out _ _ hK4 (fun hH1 => ?_)
        (try simp only [Act.put, List.setIfInBounds_toArray, List.set_cons_zero, List.set_cons_succ])
        refine wpAnyH_ready (rs := [14]) (by kernel_rfl) (by simp) ?_
        refine AllReadyH.cons (o := { dst := some 39, op := Op.buildSlice 28 1 #[(0, Operand.tmp 38)], type := 28, pos := "parts.go:45", after := #[{ on := 13, ground := Ground.data }], guard := none }) rfl (fun K hK => ?_) AllReadyH.nil
        go_simp
        have hB5 : Below w3.heap.size w3 (w4.alloc (.cells #[.bool y.no, .int .i64 y.v.k, .int .i64 y.v.n, .string y.v.s, .slice yl y.l.length ycl, .slice yf y.f.length ycf] 30)) := HB4.out.alloc HB4.out.size _
        have r5b : (w4.alloc (.cells #[.bool y.no, .int .i64 y.v.k, .int .i64 y.v.n, .string y.v.s, .slice yl y.l.length ycl, .slice yf y.f.length ycf] 30)).cell? ⟨W.heap.size + 1 + 1 + 1 + 1, 5, none⟩ = some (.slice ra i rc) := (hB5.cell (World.block_lt_of_cell? w3 _ r5)).trans r5
        refine hK.out _ _ (HKB.out _ hB5) (fun hH3 => ?_)
        (try simp only [Act.put, List.setIfInBounds_toArray, List.set_cons_zero, List.set_cons_succ])
        refine wpAnyH_ready (rs := [15]) (by kernel_rfl) (by simp) ?_
        refine AllReadyH.cons (o := { dst := some 40, op := Op.call { callee := Callee.builtin Builtin.append, args := #[Operand.tmp 26, Operand.tmp 39], argTypes := #[28, 28] }, type := 28, pos := "parts.go:45", after := #[{ on := 1, ground := Ground.data }, { on := 14, ground := Ground.data }, { on := 13, ground := Ground.chain }], guard := none }) rfl (fun K hK => ?_) AllReadyH.nil
        (refine step_own_where _ rfl _ _ 28 rfl (W.heap.size + 1 + 1 + 1 + 1 + 1) 30 iv (.agg #[.bool false, .int .i64 0, .int .i64 0, .string ⟨#[]⟩, .slice none 0 0, .slice none 0 0]) 6 88 Tryd.underlying28 hvi hv0 hv1 hv2 rfl (by decide) _ i ncs.flatten rfl ((ow_kept HRow.out HB4.out).alloc _) ⟨w4.heap.size, 0, none⟩ 1 1 [.bool y.no, .int .i64 y.v.k, .int .i64 y.v.n, .string y.v.s, .slice yl y.l.length ycl, .slice yf y.f.length ycf] rfl rfl six_cells (by intro u hu; simp at hu; rcases hu with rfl | rfl | rfl | rfl | rfl | rfl <;> rfl) (by unfold maxLen; omega) (by omega) (by have := HB4.out.size; have := HC3.out.big; simp; omega) (by decide) ?_; intro l' w5 hown5 hgrow5 hwh5)
        obtain ⟨g5, cap5, rfl⟩ := own_shape hown5
        have hO5 := (HC3.out.three HB4.out hgrow5 (by omega)).trans HC3.out.out
        obtain ⟨_, _, _, _, _, y5⟩ := row_six hO5
        obtain ⟨_, _, _, _, _, q5⟩ := row_six_z hO5
        have HOn : Hid _ := HC3.out.push HB4.out HYL.out HYF.out (by rw [hfl]; exact hown5) hgrow5 hwh5
        have hK5 : KpB (W.heap.size + 1 + 1 + 1 + 1) wr.heap.size w3 w5 := KpB.grown (fun j hj => HC3.out.apart (by omega)) HKz.out.2.2.2 HB4.out hgrow5 HKz.out.1 (by have := HKz.out; omega)
        clear hown5 hgrow5 hwh5 hO5
        refine hK.out _ _ hK5 (fun hH4 => ?_)
        (try simp only [Act.put, List.setIfInBounds_toArray, List.set_cons_zero, List.set_cons_succ])
        refine wpAnyH_take (i := 16) (oi := { dst := some 41, op := Op.fieldAddr 30 (Operand.tmp 7) 3, type := 0, pos := "parts.go:45", after := #[{ on := 0, ground := Ground.phase }, { on := 1, ground := Ground.phase }, { on := 2, ground := Ground.phase }, { on := 3, ground := Ground.phase }, { on := 4, ground := Ground.phase }, { on := 5, ground := Ground.phase }, { on := 6, ground := Ground.phase }, { on := 7, ground := Ground.phase }, { on := 8, ground := Ground.phase }, { on := 9, ground := Ground.phase }, { on := 10, ground := Ground.phase }, { on := 11, ground := Ground.phase }, { on := 12, ground := Ground.phase }, { on := 13, ground := Ground.phase }, { on := 14, ground := Ground.phase }, { on := 15, ground := Ground.phase }], guard := none }) (v := .pointer (some ⟨W.heap.size + 1 + 1 + 1 + 1, 5, none⟩)) rfl (by kernel_rfl) (by kernel_rfl) (by kernel_rfl) (fun _ _ _ h => h) (Or.inl ⟨by rfl, (by intro w hSw; go_simp; done)⟩) hH4 ?_
        (try simp only [Act.put, List.setIfInBounds_toArray, List.set_cons_zero, List.set_cons_succ])
        refine wpAnyH_ready (rs := [17]) (by kernel_rfl) (by simp) ?_
        refine AllReadyH.cons (o := { dst := none, op := Op.store 28 (Operand.tmp 41) (Operand.tmp 40), type := 0, pos := "parts.go:45", after := #[{ on := 16, ground := Ground.data }, { on := 15, ground := Ground.data }, { on := 15, ground := Ground.chain }, { on := 0, ground := Ground.phase }, { on := 1, ground := Ground.phase }, { on := 2, ground := Ground.phase }, { on := 3, ground := Ground.phase }, { on := 4, ground := Ground.phase }, { on := 5, ground := Ground.phase }, { on := 6, ground := Ground.phase }, { on := 7, ground := Ground.phase }, { on := 8, ground := Ground.phase }, { on := 9, ground := Ground.phase }, { on := 10, ground := Ground.phase }, { on := 11, ground := Ground.phase }, { on := 12, ground := Ground.phase }, { on := 13, ground := Ground.phase }, { on := 14, ground := Ground.phase }, { on := 15, ground := Ground.phase }], guard := none }) rfl (fun K hK => ?_) AllReadyH.nil
        go_simp
        refine hK.out _ _ (KpB.put hK5 (by have := HKz.out; omega) _) (fun hH5 => ?_)
        (try simp only [Act.put, List.setIfInBounds_toArray, List.set_cons_zero, List.set_cons_succ])
        refine wpAnyH_done (by kernel_rfl) ?_ _
        go_wp2
        go_roundw
        case rel => exact ⟨i + 1, _, _, by omega, by go_num, by rw [HNx.out]; exact HOn⟩
        case measure => simp [intOf]; omega
      refine AllReadyH.cons (o := { dst := some 39, op := Op.buildSlice 28 1 #[(0, Operand.tmp 38)], type := 28, pos := "parts.go:45", after := #[{ on := 13, ground := Ground.data }], guard := none }) rfl (fun K hK => ?_) AllReadyH.nil
      go_simp
      have hB5 : Below w3.heap.size w3 (w4.alloc (.cells #[.bool y.no, .int .i64 y.v.k, .int .i64 y.v.n, .string y.v.s, .slice yl y.l.length ycl, .slice yf y.f.length ycf] 30)) := HB4.out.alloc HB4.out.size _
      have r5b : (w4.alloc (.cells #[.bool y.no, .int .i64 y.v.k, .int .i64 y.v.n, .string y.v.s, .slice yl y.l.length ycl, .slice yf y.f.length ycf] 30)).cell? ⟨W.heap.size + 1 + 1 + 1 + 1, 5, none⟩ = some (.slice ra i rc) := (hB5.cell (World.block_lt_of_cell? w3 _ r5)).trans r5
      refine hK.out _ _ (HKB.out _ hB5) (fun hH3 => ?_)
      (try simp only [Act.put, List.setIfInBounds_toArray, List.set_cons_zero, List.set_cons_succ])
      refine wpAnyH_ready (rs := [1]) (by kernel_rfl) (by simp) ?_
      refine AllReadyH.cons (o := { dst := some 26, op := Op.load 28 (Operand.tmp 25), type := 28, pos := "parts.go:45", after := #[{ on := 0, ground := Ground.data }], guard := none }) rfl (fun K hK => ?_) AllReadyH.nil
      go_simp
      refine hK.out _ _ (HKB.out _ hB5) (fun hH1 => ?_)
      (try simp only [Act.put, List.setIfInBounds_toArray, List.set_cons_zero, List.set_cons_succ])
      refine wpAnyH_ready (rs := [15]) (by kernel_rfl) (by simp) ?_
      refine AllReadyH.cons (o := { dst := some 40, op := Op.call { callee := Callee.builtin Builtin.append, args := #[Operand.tmp 26, Operand.tmp 39], argTypes := #[28, 28] }, type := 28, pos := "parts.go:45", after := #[{ on := 1, ground := Ground.data }, { on := 14, ground := Ground.data }, { on := 13, ground := Ground.chain }], guard := none }) rfl (fun K hK => ?_) AllReadyH.nil
      (refine step_own_where _ rfl _ _ 28 rfl (W.heap.size + 1 + 1 + 1 + 1 + 1) 30 iv (.agg #[.bool false, .int .i64 0, .int .i64 0, .string ⟨#[]⟩, .slice none 0 0, .slice none 0 0]) 6 88 Tryd.underlying28 hvi hv0 hv1 hv2 rfl (by decide) _ i ncs.flatten rfl ((ow_kept HRow.out HB4.out).alloc _) ⟨w4.heap.size, 0, none⟩ 1 1 [.bool y.no, .int .i64 y.v.k, .int .i64 y.v.n, .string y.v.s, .slice yl y.l.length ycl, .slice yf y.f.length ycf] rfl rfl six_cells (by intro u hu; simp at hu; rcases hu with rfl | rfl | rfl | rfl | rfl | rfl <;> rfl) (by unfold maxLen; omega) (by omega) (by have := HB4.out.size; have := HC3.out.big; simp; omega) (by decide) ?_; intro l' w5 hown5 hgrow5 hwh5)
      obtain ⟨g5, cap5, rfl⟩ := own_shape hown5
      have hO5 := (HC3.out.three HB4.out hgrow5 (by omega)).trans HC3.out.out
      obtain ⟨_, _, _, _, _, y5⟩ := row_six hO5
      obtain ⟨_, _, _, _, _, q5⟩ := row_six_z hO5
      have HOn : Hid _ := HC3.out.push HB4.out HYL.out HYF.out (by rw [hfl]; exact hown5) hgrow5 hwh5
      have hK5 : KpB (W.heap.size + 1 + 1 + 1 + 1) wr.heap.size w3 w5 := KpB.grown (fun j hj => HC3.out.apart (by omega)) HKz.out.2.2.2 HB4.out hgrow5 HKz.out.1 (by have := HKz.out; omega)
      clear hown5 hgrow5 hwh5 hO5
      refine hK.out _ _ hK5 (fun hH4 => ?_)
      (try simp only [Act.put, List.setIfInBounds_toArray, List.set_cons_zero, List.set_cons_succ])
      refine wpAnyH_take (i := 16) (oi := { dst := some 41, op := Op.fieldAddr 30 (Operand.tmp 7) 3, type := 0, pos := "parts.go:45", after := #[{ on := 0, ground := Ground.phase }, { on := 1, ground := Ground.phase }, { on := 2, ground := Ground.phase }, { on := 3, ground := Ground.phase }, { on := 4, ground := Ground.phase }, { on := 5, ground := Ground.phase }, { on := 6, ground := Ground.phase }, { on := 7, ground := Ground.phase }, { on := 8, ground := Ground.phase }, { on := 9, ground := Ground.phase }, { on := 10, ground := Ground.phase }, { on := 11, ground := Ground.phase }, { on := 12, ground := Ground.phase }, { on := 13, ground := Ground.phase }, { on := 14, ground := Ground.phase }, { on := 15, ground := Ground.phase }], guard := none }) (v := .pointer (some ⟨W.heap.size + 1 + 1 + 1 + 1, 5, none⟩)) rfl (by kernel_rfl) (by kernel_rfl) (by kernel_rfl) (fun _ _ _ h => h) (Or.inl ⟨by rfl, (by intro w hSw; go_simp; done)⟩) hH4 ?_
      (try simp only [Act.put, List.setIfInBounds_toArray, List.set_cons_zero, List.set_cons_succ])
      refine wpAnyH_ready (rs := [17]) (by kernel_rfl) (by simp) ?_
      refine AllReadyH.cons (o := { dst := none, op := Op.store 28 (Operand.tmp 41) (Operand.tmp 40), type := 0, pos := "parts.go:45", after := #[{ on := 16, ground := Ground.data }, { on := 15, ground := Ground.data }, { on := 15, ground := Ground.chain }, { on := 0, ground := Ground.phase }, { on := 1, ground := Ground.phase }, { on := 2, ground := Ground.phase }, { on := 3, ground := Ground.phase }, { on := 4, ground := Ground.phase }, { on := 5, ground := Ground.phase }, { on := 6, ground := Ground.phase }, { on := 7, ground := Ground.phase }, { on := 8, ground := Ground.phase }, { on := 9, ground := Ground.phase }, { on := 10, ground := Ground.phase }, { on := 11, ground := Ground.phase }, { on := 12, ground := Ground.phase }, { on := 13, ground := Ground.phase }, { on := 14, ground := Ground.phase }, { on := 15, ground := Ground.phase }], guard := none }) rfl (fun K hK => ?_) AllReadyH.nil
      go_simp
      refine hK.out _ _ (KpB.put hK5 (by have := HKz.out; omega) _) (fun hH5 => ?_)
      (try simp only [Act.put, List.setIfInBounds_toArray, List.set_cons_zero, List.set_cons_succ])
      refine wpAnyH_done (by kernel_rfl) ?_ _
      go_wp2
      go_roundw
      case rel => exact ⟨i + 1, _, _, by omega, by go_num, by rw [HNx.out]; exact HOn⟩
      case measure => simp [intOf]; omega
    · obtain rfl : i = p.sub.length := by omega
      rw [List.take_length] at HC hfl
      have hb := HBr.out
      have HRs : Hid _ := (HC.out.old.block (W.heap.size + 1 + 1 + 1) (by omega)).trans HR.out
      obtain ⟨s0, s1, s2, s3, s4, s5⟩ := row_six HRs.out
      obtain ⟨f0, f1, f2, f3, f4, f5⟩ := row_six_z HRs.out
      obtain ⟨q0, q1, q2, q3, q4, q5⟩ := row_six HC.out.out
      have HLs : Hid (LiesD wr (fun b => W.heap.size + 1 + 1 + 1 + 1 + 1 ≤ b) ra (cutF p.sub t d)) := (by have h := HC.out; rw [← hfl] at h; exact h.lies)
      clear hlt
      go_wp2
      refine bodyPost_ret (v := .agg #[.bool false, .int .i64 d.v.k, .int .i64 d.v.n, .string d.v.s, .slice none 0 0, .slice ra p.sub.length rc]) (results_cell_row Tryd.results37 _ _ (W.heap.size + 1 + 1 + 1) 30 #[.bool false, .int .i64 d.v.k, .int .i64 d.v.n, .string d.v.s, .slice none 0 0, .slice ra p.sub.length rc] (0, 0) _ rfl (row_setCell (row_setCell (row_setCell (row_setCell (row_setCell (row_setCell HRs.out _) _) _) _) _) _) Tryd.underlying30 rfl (by kernel_rfl)) rfl ⟨⟨none, 0, ra, rc, (by show _ = Ending.returned (.agg #[.bool false, .int .i64 d.v.k, .int .i64 d.v.n, .string d.v.s, .slice none 0 0, .slice ra (cutF p.sub t d).length rc]); rw [hfl]), ⟨fun _ => [], fun j hj => absurd hj (by show ¬ j < ([] : List Dt).length; simp), fun j hj => absurd hj (by show ¬ j < ([] : List Dt).length; simp)⟩, ?_⟩, ?_⟩
      · have fr : ∀ b, W.heap.size + 1 + 1 + 1 + 1 + 1 ≤ b → b ≠ W.heap.size + 1 + 1 + 1 := fun b h => by omega
        exact ((((((HLs.out.off fr).off fr).off fr).off fr).off fr).off fr).stay (fun b h _ => by omega) (fun _ _ _ => rfl)
      · exact (((((hb.setCell (by simp; omega) _).setCell (by simp; omega) _).setCell (by simp; omega) _).setCell (by simp; omega) _).setCell (by simp; omega) _).setCell (by simp; omega) _
end Go.Proofs.YtnceknbodpimiaaDoor
