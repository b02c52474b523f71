/-
  What is known of values, as nine cells; boxes of it.
  shred.Join, walked.
  (stats.Stats).around and kind, walked.
  stats.Of, walked.
  The columns of right records: right for their leaves, as many records; joined, and in parts.
  No two leaves of a right schema have one number.
  assemble: which leaf stands where.
  assemble: check finds right columns right.
  assemble: check of right columns.
  assemble.Assemble: what Shred wrote of right records is put together again.
  auto.Trace: the level of an entry; what a walk through the columns reads.
  auto.Trace: a walk through a node of which nothing is there.
  auto.Trace: a walk through a right datum reads just its entries.
  auto.Trace: where the machine goes on, along a tree.
  auto.Trace: the machine of a right schema goes on as a walk wants.
  auto.Trace: the walks through all records.
  auto.Trace: the levels of a leaf's entries are no more than the lists around it; scripts of all records.
  auto.Trace: what a step of the walk reads: mathematics.
-/
import Derived.Test.YtbicfjimlpdnkaaGreatDoorHBAsH
import Derived.Test.YtbicfjimlpdnkaaGreatDoorHLess
import Derived.Test.YtbicfjimlpdnkaaGreatDoorHBAsT
import Derived.Test.YtbicfjimlpdnkaaGreatDoorHBLeafOf
import Derived.Test.YtbicfjimlpdnkaaGreatDoorHBColOf
import Derived.Test.YtbicfjimlpdnkaaGreatDoorHBLfM
namespace Go.Proofs.YtbicfjimlpdnkaaGreatDoor
open Go.RowKit
def Vl.val (v : Vl) : Value := .agg #[.int .i64 v.k, .int .i64 v.n, .string v.s]
def Vl.zero : Vl := ⟨0, 0, ⟨#[]⟩⟩
/-- What is known of values. -/
structure St where
  e : Int
  u : Int
  h : Bool
  mn : Vl
  mx : Vl
def St.cs (s : St) : Array Value := #[.int .i64 s.e, .int .i64 s.u, .bool s.h, .int .i64 s.mn.k, .int .i64 s.mn.n, .string s.mn.s, .int .i64 s.mx.k, .int .i64 s.mx.n, .string s.mx.s]
def St.val (s : St) : Value := .agg s.cs
def St.zero : St := ⟨0, 0, false, Vl.zero, Vl.zero⟩
def Vl.Low (v : Vl) : Prop := -9223372036854775808 ≤ v.n
def St.Low (s : St) : Prop := s.mn.Low ∧ s.mx.Low
def lss (a b : Vl) : Bool := vless a.k a.n a.s b.k b.n b.s
/-- around, as a function. -/
def St.around (s : St) (l g : Vl) : St := ⟨s.e, s.u, true, if !s.h || lss l s.mn then l else s.mn, if !s.h || lss s.mx g then g else s.mx⟩
end Go.Proofs.YtbicfjimlpdnkaaGreatDoor

namespace Go.Proofs.YtbicfjimlpdnkaaGreatDoor
open Go.RowKit
/-- What Join's boxes hold. -/
structure JbI (W : World) (lid kind mr md : Int) (pa : Option Addr) (pn pc : Nat) (X : World) : Prop where
  lf : X.heap[W.heap.size]? = some (.cells #[.int .i64 lid, .int .i64 kind, .int .i64 mr, .int .i64 md, .slice pa pn pc] 67 (0, 0))
  re : X.heap[W.heap.size + 1]? = some (.cells #[.int .i64 0, .slice none 0 0, .slice none 0 0, .slice none 0 0] 42 (0, 0))
  old : Below W.heap.size W X
theorem JbI.keep {W : World} {lid kind mr md : Int} {pa : Option Addr} {pn pc : Nat} {X w' : World} (h : JbI W lid kind mr md pa pn pc X) (hb : Below X.heap.size X w') : JbI W lid kind mr md pa pn pc w' :=
  ⟨blk_keep hb h.lf, blk_keep hb h.re, h.old.trans (hb.mono h.old.size)⟩
end Go.Proofs.YtbicfjimlpdnkaaGreatDoor

namespace Go.Proofs.YtbicfjimlpdnkaaGreatDoor
open Go.RowKit
end Go.Proofs.YtbicfjimlpdnkaaGreatDoor

namespace Go.Proofs.YtbicfjimlpdnkaaGreatDoor
open Go.RowKit
def zCl : Cl := ⟨0, none, [], 0, none, [], 0, none, [], 0⟩
/-- What Part of all records answers. -/
def PaR (N : Nat) (lid kind mr md : Int) (c : Cl) (sv kv : Value) (k : Cl) (ev : Value) (w : World) : Prop :=
  ((isLfB kind mr md && fitB lid mr md c.id c.rs c.ds c.vs.length) = false ∧ k = zCl ∧ ev = sv) ∨
  ((isLfB kind mr md && fitB lid mr md c.id c.rs c.ds c.vs.length) = true ∧ (∃ p : Nat, ∃ hp : p < c.vs.length, badV kind c.vs[p] = true ∧ (∀ j (h : j < c.vs.length), j < p → badV kind c.vs[j] = false) ∧ ∃ q, N ≤ q ∧ k = zCl ∧ ev = .iface 63 (.pointer (some ⟨q, 0, none⟩)) ∧ w.cell? ⟨q, 0, none⟩ = some (.int .i64 p) ∧ w.cell? ⟨q, 1, none⟩ = some kv)) ∨
  (GoodC lid kind mr md c ∧ ev = .nilIface ∧ k.At w ∧ k.Fr N ∧ k.rs = c.rs ∧ k.ds = c.ds ∧ k.vs = c.vs)
theorem PaR.off {N : Nat} {lid kind mr md : Int} {c : Cl} {sv kv : Value} {k : Cl} {ev : Value} {w : World} (h : PaR N lid kind mr md c sv kv k ev w) {g j : Nat} {v : Value} (hg : g < N) : PaR N lid kind mr md c sv kv k ev (w.setCell ⟨g, j, none⟩ v) := by
  rcases h with h | ⟨h0, p, hp, h1, h2, q, h3, h4, h5, h6, h7⟩ | ⟨h1, h2, h3, h4, h5⟩
  · exact .inl h
  · exact .inr (.inl ⟨h0, p, hp, h1, h2, q, h3, h4, h5, by rw [cell_off (by omega)]; exact h6, by rw [cell_off (by omega)]; exact h7⟩)
  · exact .inr (.inr ⟨h1, h2, h3.off h4 hg, h4, h5⟩)
theorem PaR.keep {N : Nat} {lid kind mr md : Int} {c : Cl} {sv kv : Value} {k : Cl} {ev : Value} {w w' : World} (h : PaR N lid kind mr md c sv kv k ev w) (hb : Below w.heap.size w w') : PaR N lid kind mr md c sv kv k ev w' := by
  rcases h with h | ⟨h0, p, hp, h1, h2, q, h3, h4, h5, h6, h7⟩ | ⟨h1, h2, h3, h4, h5⟩
  · exact .inl h
  · exact .inr (.inl ⟨h0, p, hp, h1, h2, q, h3, h4, h5, (hb.cell (World.block_lt_of_cell? w _ h6)).trans h6, (hb.cell (World.block_lt_of_cell? w _ h7)).trans h7⟩)
  · exact .inr (.inr ⟨h1, h2, h3.keep hb, h4, h5⟩)
theorem PaR.low {N M : Nat} {lid kind mr md : Int} {c : Cl} {sv kv : Value} {k : Cl} {ev : Value} {w : World} (h : PaR N lid kind mr md c sv kv k ev w) (hm : M ≤ N) : PaR M lid kind mr md c sv kv k ev w := by
  rcases h with h | ⟨h0, p, hp, h1, h2, q, h3, h4⟩ | ⟨h1, h2, h3, h4, h5⟩
  · exact .inl h
  · exact .inr (.inl ⟨h0, p, hp, h1, h2, q, Nat.le_trans hm h3, h4⟩)
  · exact .inr (.inr ⟨h1, h2, h3, h4.low hm, h5⟩)
theorem St.Low.around {s : St} {l g : Vl} (h : s.Low) (hl : l.Low) (hg : g.Low) : (s.around l g).Low := by
  unfold St.around
  refine ⟨?_, ?_⟩
  · show Vl.Low (if _ then l else s.mn)
    split
    · exact hl
    · exact h.1
  · show Vl.Low (if _ then g else s.mx)
    split
    · exact hg
    · exact h.2
end Go.Proofs.YtbicfjimlpdnkaaGreatDoor

namespace Go.Proofs.YtbicfjimlpdnkaaGreatDoor
open Go.RowKit
theorem GoodC.congr {lid kind mr md : Int} {c k : Cl} (h : GoodC lid kind mr md c) (e0 : k.id = c.id) (e1 : k.rs = c.rs) (e2 : k.ds = c.ds) (e3 : k.vs = c.vs) : GoodC lid kind mr md k := by
  unfold GoodC at h ⊢
  refine ⟨by rw [e0, e1, e2, e3]; exact h.1, fun j hj => ?_⟩
  have hj2 : j < c.vs.length := by rw [← e3]; exact hj
  have := h.2 j hj2
  simp only [e3]
  exact this
/-- Entries of whole records. -/
structure EsOk (md mr : Nat) (kind : Int) (n : Nat) (es : List Ent) : Prop where
  rs : ∀ x ∈ eR es, btw 0 x mr = true
  head : headB (eR es) = false
  zero : cntE 0 (eR es) = n
  ds : ∀ x ∈ eD es, btw 0 x md = true
  many : (eV es).length = cntE md (eD es)
  vs : ∀ v ∈ eV es, badV kind v = false
theorem eD_val {md : Nat} {kind : Int} : ∀ es : List Ent, (∀ e ∈ es, 0 ≤ e.dfn ∧ e.dfn ≤ (md : Int) ∧ (e.v = none → e.dfn ≠ (md : Int)) ∧ ∀ v, e.v = some v → e.dfn = (md : Int) ∧ badV kind v = false) → (eV es).length = cntE md (eD es)
  | [], _ => rfl
  | e :: es, h => by
    have ih := eD_val es fun x hx => h x (List.mem_cons_of_mem _ hx)
    obtain ⟨_, _, h1, h2⟩ := h e List.mem_cons_self
    unfold eV eD cntE at ih ⊢
    rw [List.filterMap_cons, List.map_cons, List.filter_cons]
    cases hv : e.v with
    | none =>
      have := h1 hv
      rw [if_neg (by simpa using this)]
      exact ih
    | some v =>
      have := (h2 v hv).1
      rw [if_pos (by simpa using this)]
      simpa using ih
theorem es_nil (md mr : Nat) (kind : Int) : EsOk md mr kind 0 [] := ⟨by simp [eR], rfl, rfl, by simp [eD], rfl, by simp [eV]⟩
theorem es_cons {md mr : Nat} {kind : Int} {n : Nat} {xs es : List Ent} (h : EnOk md 0 mr kind 0 xs) (he : EsOk md mr kind n es) : EsOk md mr kind (n + 1) (xs ++ es) := by
  obtain ⟨⟨a, tl, ea, er, et⟩, hx⟩ := h
  have hz : cntE 0 (eR tl) = 0 := by
    unfold cntE eR
    rw [List.length_eq_zero_iff, List.filter_eq_nil_iff]
    intro y hy
    obtain ⟨e, he, rfl⟩ := List.mem_map.1 hy
    have := (et e he).1
    simp
    omega
  refine ⟨fun x hm => ?_, ?_, ?_, fun x hm => ?_, ?_, fun v hv => ?_⟩
  · rw [eR, List.map_append, List.mem_append] at hm
    rcases hm with hm | hm
    · obtain ⟨e, hm2, rfl⟩ := List.mem_map.1 hm
      rw [ea] at hm2
      rcases List.mem_cons.1 hm2 with e0 | hm2
      · rw [e0, er]; simp [btw]
      · have := et e hm2; simp [btw]; omega
    · exact he.rs x hm
  · rw [ea]
    simp [eR, headB, er]
  · have e2 : cntE 0 (eR (xs ++ es)) = cntE 0 (eR xs) + cntE 0 (eR es) := by rw [eR, List.map_append]; exact cntE_app 0 _ _
    rw [e2, he.zero, ea]
    have e3 : cntE 0 (eR (a :: tl)) = 1 + cntE 0 (eR tl) := by simp [cntE, eR, er]; omega
    rw [e3, hz]
    omega
  · rw [eD, List.map_append, List.mem_append] at hm
    rcases hm with hm | hm
    · obtain ⟨e, hm2, rfl⟩ := List.mem_map.1 hm
      have := hx e hm2
      simp [btw]
      omega
    · exact he.ds x hm
  · have e1 : eV (xs ++ es) = eV xs ++ eV es := by simp [eV]
    have e2 : cntE md (eD (xs ++ es)) = cntE md (eD xs) + cntE md (eD es) := by rw [eD, List.map_append]; exact cntE_app _ _ _
    rw [e1, e2, List.length_append, he.many, eD_val xs hx]
  · rw [eV, List.filterMap_append, List.mem_append] at hv
    rcases hv with hv | hv
    · obtain ⟨e, hm, e2⟩ := List.mem_filterMap.1 hv
      exact ((hx e hm).2.2.2 v e2).2
    · exact he.vs v hv
theorem ents_ok {t z : Tr} {q : List Tr} (hc : Chn t q) (hz : (t :: q).getLast? = some z) : ∀ (ds : List Dt), (∀ d ∈ ds, chk true t d = 0) → EsOk (lvD q) (lvR q) z.kind ds.length (ents (lvD q) (stq t q 0 0) ds)
  | [], _ => es_nil _ _ _
  | d :: ds, h => by
    have ih := ents_ok hc hz ds fun x hx => h x (List.mem_cons_of_mem _ hx)
    have h1 := dn_ok q t (lvD q) 0 0 z d 0 hc hz (Nat.zero_add _) (h d List.mem_cons_self)
    rw [Nat.zero_add] at h1
    unfold ents at ih ⊢
    rw [List.flatMap_cons, List.length_cons]
    exact es_cons h1 ih
theorem chn_cnt : ∀ (q : List Tr) (t : Tr), Chn t q → q.length < t.cnt
  | [], t, _ => by rw [Tr.cnt_eq, List.length_nil]; omega
  | x :: q, t, h => by
    obtain ⟨_, ⟨i, hi, e, _⟩, hq⟩ := h
    have ih := chn_cnt q x hq
    have hm : ∀ (ts : List Tr) (i : Nat) (h : i < ts.length), ts[i].cnt ≤ cntL ts := fun ts => by
      induction ts with
      | nil => intro i h; simp at h
      | cons y ys ih =>
        intro i h
        rw [cntL]
        cases i with
        | zero => simp
        | succ i => have := ih i (by simpa using h); simp; omega
    have := hm t.sub i hi
    rw [e] at this
    rw [Tr.cnt_eq, List.length_cons]
    omega
theorem lvR_lq (q : List Tr) : lvR q ≤ q.length := List.length_filter_le _ _
theorem lvD_lq (q : List Tr) : lvD q ≤ q.length := List.length_filter_le _ _
theorem chn_last : ∀ (q : List Tr) (t z : Tr), Chn t q → (t :: q).getLast? = some z → z ∈ ndT t ∧ z.kind ≠ 0
  | [], t, z, h, hz => by
    obtain rfl : t = z := by simpa using hz
    exact ⟨by rw [ndT_eq]; exact List.mem_cons_self, h⟩
  | x :: q, t, z, h, hz => by
    obtain ⟨_, ⟨i, hi, e, _⟩, hq⟩ := h
    rw [List.getLast?_cons_cons] at hz
    obtain ⟨h1, h2⟩ := chn_last q x z hq hz
    exact ⟨nd_sub (by rw [← e]; exact List.getElem_mem hi) h1, h2⟩
/-- What is known of a leaf of a right schema. -/
structure LfG (t : Tr) (f : Lf) (q : List Tr) (z : Tr) : Prop where
  w : LfW t f q z
  leaf : isLfB f.kind (f.mr : Nat) (f.md : Nat) = true
  len : q.length ≤ 40
theorem right_leaf {t : Tr} (hv : vldN t = 0) (f : Lf) (hf : f ∈ lvsT t) : ∃ q z, LfG t f q z := by
  obtain ⟨hb, hr, hs, _, hi⟩ := right_parts hv
  have hk0 : t.kind = 0 := (of_decide_eq_true hr).2.2.2
  obtain ⟨q, z, hw⟩ := right_way hr hs hi hk0 f hf
  have hc := (inB_cnt t 0 [] hb).2.1
  have hq := chn_cnt q t hw.way
  have h1 := lvR_lq q
  have h2 := lvD_lq q
  obtain ⟨hz, hzk⟩ := chn_last q t z hw.way hw.last
  have hso : shpOk z = true := by
    rw [shp_all, Bool.and_eq_true] at hs
    rw [ndT_eq] at hz
    rcases List.mem_cons.1 hz with rfl | hz
    · exact hs.1
    · exact List.all_eq_true.1 hs.2 z hz
  unfold shpOk at hso
  simp only [Bool.and_eq_true, decide_eq_true_iff] at hso
  refine ⟨q, z, hw, ?_, by omega⟩
  rw [hw.kind, hw.mr, hw.md]
  simp only [isLfB, btw, Bool.and_eq_true, decide_eq_true_iff]
  omega
/-- A column of right records, wherever it lies, is right for its leaf. -/
theorem col_good {t z : Tr} {f : Lf} {q : List Tr} (hg : LfG t f q z) (ds : List Dt) (hd : ∀ d ∈ ds, chk true t d = 0) (c : Cl) (h0 : c.id = f.id) (h1 : c.rs = eR (ents f.md (stq t q 0 0) ds)) (h2 : c.ds = eD (ents f.md (stq t q 0 0) ds)) (h3 : c.vs = eV (ents f.md (stq t q 0 0) ds)) : GoodC f.id f.kind (f.mr : Nat) (f.md : Nat) c ∧ cntE 0 c.rs = ds.length := by
  have he := ents_ok hg.w.way hg.w.last ds hd
  rw [← hg.w.md, ← hg.w.mr, ← hg.w.kind] at he
  refine ⟨⟨?_, fun j hj => ?_⟩, by rw [h1]; exact he.zero⟩
  · rw [Bool.and_eq_true, fitB_iff]
    refine ⟨hg.leaf, h0, ?_, by rw [h1]; exact he.head, fun x hx => he.rs x (by rw [← h1]; exact hx), fun x hx => he.ds x (by rw [← h2]; exact hx), by rw [h3, h2]; exact he.many⟩
    rw [h1, h2]
    simp [eR, eD]
  · exact he.vs _ (by rw [← h3]; exact List.getElem_mem hj)
end Go.Proofs.YtbicfjimlpdnkaaGreatDoor

namespace Go.Proofs.YtbicfjimlpdnkaaGreatDoor
open Go.RowKit
mutual
theorem lvT_ids : ∀ (t : Tr) (p : List Tr), List.Sublist ((lvT p t).map Lf.id) ((ndT t).map Tr.id)
  | .node id nm rep kind sub, p => by
    rw [lvT, ndT, List.map_append, List.map_cons]
    have ih := lvL_ids sub (p ++ [.node id nm rep kind sub])
    by_cases h : kind = 0
    · rw [if_pos h, List.map_nil, List.nil_append]
      exact ih.cons _
    · rw [if_neg h]
      exact ih.cons_cons _
theorem lvL_ids : ∀ (ts : List Tr) (p : List Tr), List.Sublist ((lvL p ts).map Lf.id) ((ndL ts).map Tr.id)
  | [], p => by simp [lvL, ndL]
  | t :: ts, p => by
    rw [lvL, ndL, List.map_append, List.map_append]
    exact (lvT_ids t p).append (lvL_ids ts p)
end
/-- No two leaves of a right schema have one number. -/
theorem lvs_ne {t : Tr} (hv : vldN t = 0) (i j : Nat) (hi : i < (lvsT t).length) (hj : j < (lvsT t).length) (hlt : i < j) : (lvsT t)[i].id ≠ (lvsT t)[j].id := by
  obtain ⟨_, hr, _, _, hid⟩ := right_parts hv
  have hk0 : t.kind = 0 := (of_decide_eq_true hr).2.2.2
  have hu := right_idU hr hid
  unfold IdU at hu
  rw [ndT_eq, List.map_cons, List.nodup_cons] at hu
  have hn : ((lvsT t).map Lf.id).Nodup := by rw [lvs_right t hk0]; exact hu.2.sublist (lvL_ids t.sub [])
  rw [List.nodup_iff_pairwise_ne, List.pairwise_iff_getElem] at hn
  have := hn i j (by simpa using hi) (by simpa using hj) hlt
  simpa using this
end Go.Proofs.YtbicfjimlpdnkaaGreatDoor

namespace Go.Proofs.YtbicfjimlpdnkaaGreatDoor
open Go.RowKit
mutual
theorem lvT_I : ∀ (t : Tr) (p : List Tr), (∀ y ∈ ndT t, y.kind ≠ 0 → y.sub = []) → (lvT p t).map Lf.id = lvI t
  | .node id nm rep kind sub, p, h => by
    rw [lvT, lvI, List.map_append]
    have ih := lvL_I sub (p ++ [.node id nm rep kind sub]) (fun y hy => h y (by rw [ndT]; exact List.mem_cons_of_mem _ hy))
    by_cases hk : kind = 0
    · rw [if_pos hk, if_pos hk, ih]; rfl
    · have hs : sub = [] := h (.node id nm rep kind sub) (by rw [ndT]; exact List.mem_cons_self) hk
      subst hs
      rw [if_neg hk, if_neg hk, lvL]
      rfl
theorem lvL_I : ∀ (ts : List Tr) (p : List Tr), (∀ y ∈ ndL ts, y.kind ≠ 0 → y.sub = []) → (lvL p ts).map Lf.id = lvIL ts
  | [], p, _ => rfl
  | t :: ts, p, h => by
    rw [lvL, lvIL, List.map_append, lvT_I t p (fun y hy => h y (by rw [ndL]; exact List.mem_append_left _ hy)), lvL_I ts p (fun y hy => h y (by rw [ndL]; exact List.mem_append_right _ hy))]
end
theorem lvs_I {t : Tr} (hv : vldN t = 0) : (lvsT t).map Lf.id = lvI t := by
  obtain ⟨_, hr, hs, _, _⟩ := right_parts hv
  have hk0 : t.kind = 0 := (of_decide_eq_true hr).2.2.2
  rw [lvs_right t hk0, lvI_eq, if_pos hk0]
  exact lvL_I t.sub [] (fun y hy => right_lfs hs y (by rw [ndT_eq]; exact List.mem_cons_of_mem _ hy))
mutual
theorem lvI_len : ∀ t : Tr, (lvI t).length = lvC t
  | .node id nm rep kind sub => by
    rw [lvI, lvC]
    by_cases h : kind = 0
    · rw [if_pos h, if_pos h, lvIL_len sub]
    · rw [if_neg h, if_neg h]; rfl
theorem lvIL_len : ∀ ts : List Tr, (lvIL ts).length = lvCL ts
  | [] => rfl
  | t :: ts => by rw [lvIL, lvCL, List.length_append, lvI_len t, lvIL_len ts]
end
theorem lvIL_at (ts : List Tr) (i : Nat) (h : i < ts.length) (k : Nat) (hk : k < lvC ts[i]) : (lvIL ts)[lvCL (ts.take i) + k]? = (lvI ts[i])[k]? := by
  have e : ts = ts.take i ++ (ts[i] :: ts.drop (i + 1)) := by rw [← List.drop_eq_getElem_cons h, List.take_append_drop]
  have e2 : lvIL ts = lvIL (ts.take i) ++ (lvI ts[i] ++ lvIL (ts.drop (i + 1))) := by
    rw [← lvIL, ← lvIL_app, ← e]
  rw [e2, List.getElem?_append_right (by rw [lvIL_len]; omega), lvIL_len, Nat.add_sub_cancel_left, List.getElem?_append_left (by rw [lvI_len]; exact hk)]
theorem lvI_lix : ∀ (q : List Tr) (t z : Tr), Chn t q → (t :: q).getLast? = some z → (lvI t)[lix t q]? = some z.id
  | [], t, z, hc, hz => by
    have hk : t.kind ≠ 0 := hc
    have e : t = z := by simpa using hz
    rw [lvI_eq, if_neg hk, lix, e]
    rfl
  | x :: q, t, z, hc, hz => by
    obtain ⟨hk, ⟨i, hi, e, hf⟩, hq⟩ := hc
    rw [List.getLast?_cons_cons] at hz
    rw [lvI_eq, if_pos hk, lix, ixO_at hi e hf, lvIL_at t.sub i hi _ (by rw [e]; exact lix_lt q x hq), e]
    exact lvI_lix q x z hq hz
/-- A leaf stands where its way says. -/
theorem lix_is {t : Tr} (hv : vldN t = 0) (j : Nat) (h : j < (lvsT t).length) {q : List Tr} {z : Tr} (hw : LfW t (lvsT t)[j] q z) : lix t q = j := by
  have h1 := lvI_lix q t z hw.way hw.last
  rw [← lvs_I hv, List.getElem?_map] at h1
  cases hx : (lvsT t)[lix t q]? with
  | none => rw [hx] at h1; simp at h1
  | some y =>
    rw [hx] at h1
    obtain ⟨h2, e⟩ := List.getElem?_eq_some_iff.1 hx
    have h3 : (lvsT t)[lix t q].id = (lvsT t)[j].id := by
      rw [e, hw.id]
      simpa using h1
    rcases Nat.lt_trichotomy (lix t q) j with h4 | h4 | h4
    · exact absurd h3 (lvs_ne hv _ _ h2 h h4)
    · exact h4
    · exact absurd h3.symm (lvs_ne hv _ _ h h2 h4)
/-- All leaves' entries are what Shred writes. -/
theorem en_cols {t : Tr} (hv : vldN t = 0) (QF : Nat → List Tr) (ZF : Nat → Tr) (hq : ∀ j (h : j < (lvsT t).length), LfG t (lvsT t)[j] (QF j) (ZF j)) (ds : List Dt) (hd : ∀ d ∈ ds, chk true t d = 0) (j : Nat) (h : j < (lvsT t).length) : (enL t 0 0 0 ds)[j]? = some (ents (lvsT t)[j].md (stq t (QF j) 0 0) ds) := by
  have hw := (hq j h).w
  have h1 := enL_dn (QF j) t (lvsT t)[j].md hw.way (by rw [hw.md]) ds hd
  rw [lix_is hv j h hw] at h1
  exact h1
end Go.Proofs.YtbicfjimlpdnkaaGreatDoor

namespace Go.Proofs.YtbicfjimlpdnkaaGreatDoor
open Go.RowKit
set_option maxRecDepth 100000 in
set_option maxHeartbeats 1600000 in
theorem eqC (x kind mr md : Int) (pa : Option Addr) (pn pc : Nat) (k : Cl) (h : k.id = x) (W : World) :
    Calls Tryz.prog (54) #[leafV x kind mr md pa pn pc, k.val] W fun e w' => e = .returned (.bool true) ∧ Below W.heap.size W w' := by
  unfold leafV Cl.val colV
  rw [h]
  obtain ⟨w0, HW0, HX, HB⟩ := one_box W #[.int .i64 x, .int .i64 kind, .int .i64 mr, .int .i64 md, .slice pa pn pc] 67
  obtain ⟨w1, HW1, HY, HB1⟩ := one_box w0 #[.int .i64 x, .slice k.ra k.rs.length k.rc, .slice k.da k.ds.length k.dc, .slice k.va k.vs.length k.vc] 42
  have hs0 : W.heap.size < w0.heap.size := lt_of_block HX.out
  have hw0s : w0.heap.size = W.heap.size + 1 := by rw [← HW0.out]; simp
  have HBb : Hid (Below W.heap.size W w1) := HB.out.trans (HB1.out.mono (by omega))
  have c0 := cell_of_row w1 W.heap.size 0 _ _ _ (blk_keep HB1.out HX.out)
  rw [hw0s] at HY
  have c1 := cell_of_row w1 (W.heap.size + 1) 0 _ _ _ HY.out
  have q : (x == x) = true := by simp
  clear hw0s hs0
  go_enter Tryz.func54, Tryz.ntmps54
  go_upto_region 1 with fail
  rw [HW0.out, HW1.out]
  go_wp2
  go_ret
  exact ⟨rfl, HBb.out⟩
set_option maxRecDepth 100000 in
set_option maxHeartbeats 1600000 in
theorem bigC (k : Cl) (h : k.rs.length ≤ 20000) (W : World) :
    Calls Tryz.prog (58) #[k.val] W fun e w' => e = .returned (.bool false) ∧ Below W.heap.size W w' := by
  unfold Cl.val colV
  obtain ⟨w0, HW0, HX, HB⟩ := one_box W #[.int .i64 k.id, .slice k.ra k.rs.length k.rc, .slice k.da k.ds.length k.dc, .slice k.va k.vs.length k.vc] 42
  have c1 := cell_of_row w0 W.heap.size 1 _ _ _ HX.out
  obtain ⟨n, HN⟩ := hid_name k.rs.length
  rw [HN.out] at c1 HW0 h ⊢
  have q : decide ((20000 : Int) < (n : Int)) = false := by rw [decide_eq_false_iff_not]; omega
  go_enter Tryz.func58, Tryz.ntmps58
  go_upto_region 1 with fail
  rw [HW0.out]
  go_wp2
  go_ret
  exact ⟨by first | rfl | (simp; omega), HB.out⟩
set_option maxRecDepth 100000 in
set_option maxHeartbeats 3200000 in
theorem ixB (cs : List Cl) (hcs : cs.length ≤ 1000) (a : Option Addr) (c : Nat) (W : World) (hl : LiesC W a cs) (hn : ∀ k ∈ cs, k.rs.length ≤ 20000) :
    Calls Tryz.prog (59) #[.slice a cs.length c, .func (.func 58) #[] #[]] W fun e w' => e = .returned (.int .i64 (-1)) ∧ Below W.heap.size W w' := by
  have HL : Hid (LiesC W a cs) := hl
  have HE : Hid _ := hn
  clear hl hn
  go_enter Tryz.func59, Tryz.ntmps59
  go_wp2_with fail
  go_loopw [8] (fun x wr => ∃ i : Nat, i ≤ cs.length ∧ x = .int .i64 i ∧ Hid (Below W.heap.size W wr)) (fun x _ => cs.length - (intOf x).toNat)
  case atStart => exact ⟨0, Nat.zero_le _, rfl, Below.refl _ _⟩
  case round =>
    obtain ⟨i, hik, rfl, HB⟩ := hrel
    by_cases hlt : i < cs.length
    · obtain ⟨⟨bb, oo, ea, h0, h1, h2, h3⟩, hat⟩ := (HL.out.keep HB.out) i hlt
      subst ea
      have HC : Hid _ := bigC cs[i] (HE.out _ (List.getElem_mem hlt)) wr
      clear hat
      obtain ⟨x, HXn⟩ := hid_name cs[i]
      rw [HXn.out] at h0 h1 h2 h3 HC
      unfold Cl.val colV at HC
      have q0 : (0 : Int) ≤ (i : Int) := by omega
      have q1 : (i : Int) < (cs.length : Int) := by omega
      go_wp2_with fail
      refine Calls.mono HC.out ?_
      rintro e1 w1 ⟨rfl, hb1⟩
      have HB1 : Hid (Below W.heap.size W w1) := HB.out.trans (hb1.mono HB.out.size)
      clear hb1 HC h0 h1 h2 h3
      go_wp2
      go_roundw
      case rel => exact ⟨i + 1, by omega, by go_num, HB1⟩
      case measure => simp [intOf]; omega
    · obtain rfl : i = cs.length := by omega
      go_wp2
      go_ret
      exact ⟨rfl, HB.out⟩
set_option maxRecDepth 100000 in
set_option maxHeartbeats 1600000 in
theorem ctB (cs : List Cl) (hcs : cs.length ≤ 1000) (a : Option Addr) (c : Nat) (W : World) (hl : LiesC W a cs) (hn : ∀ k ∈ cs, k.rs.length ≤ 20000) :
    Calls Tryz.prog (57) #[.slice a cs.length c, .func (.func 58) #[] #[]] W fun e w' => e = .returned (.bool false) ∧ Below W.heap.size W w' := by
  have HC : Hid _ := ixB cs hcs a c W hl hn
  clear hl hn
  go_enter Tryz.func57, Tryz.ntmps57
  go_wp2_with fail
  refine Calls.mono HC.out ?_
  rintro e w1 ⟨rfl, hb1⟩
  have HB1 : Hid _ := hb1
  clear hb1
  go_wp2
  go_ret
  exact ⟨rfl, HB1.out⟩
set_option maxRecDepth 100000 in
set_option maxHeartbeats 3200000 in
theorem eqlC (ls : List Lf) (cs : List Cl) (hcl : cs.length = ls.length) (hcs : ls.length ≤ 1000) (hid : ∀ j (h : j < ls.length) (h' : j < cs.length), cs[j].id = ls[j].id) (N : Nat) (la : Option Addr) (lc : Nat) (a : Option Addr) (c : Nat) (W : World) (hv : LvR W N (.slice la ls.length lc) ls) (hl : LiesC W a cs) :
    Calls Tryz.prog (55) #[.slice la ls.length lc, .slice a cs.length c, .func (.func 54) #[] #[]] W fun e w' => e = .returned (.bool true) ∧ Below W.heap.size W w' := by
  have HL : Hid (LiesC W a cs) := hl
  have HV : Hid (∀ X, Below W.heap.size W X → LvR X N (.slice la ls.length lc) ls) := fun X hX => LvX.keep hv hX
  have HI : Hid _ := hid
  have HCl : Hid (cs.length = ls.length) := hcl
  have q5 : ((ls.length : Int) != (cs.length : Int)) = false := by rw [hcl]; simp
  have q6 : (ls.length != cs.length) = false := by rw [hcl]; simp
  clear hl hv hid hcl
  go_enter Tryz.func55, Tryz.ntmps55
  go_wp2_with fail
  go_loopw [17] (fun x wr => ∃ i : Nat, i ≤ ls.length ∧ x = .int .i64 i ∧ Hid (Below W.heap.size W wr)) (fun x _ => ls.length - (intOf x).toNat)
  case atStart => exact ⟨0, Nat.zero_le _, rfl, Below.refl _ _⟩
  case round =>
    obtain ⟨i, hik, rfl, HB⟩ := hrel
    by_cases hlt : i < ls.length
    · have hlc : i < cs.length := by have := HCl.out; omega
      obtain ⟨⟨bb, oo, ea, h0, h1, h2, h3⟩, hat⟩ := (HL.out.keep HB.out) i hlc
      subst ea
      obtain ⟨lb, cap, pa, pc, e2, ⟨d0, d1, d2, d3, d4⟩, _⟩ := (HV.out wr HB.out).at_ i hlt
      injection e2 with e2 _ e3
      subst e2
      subst e3
      have hii := HI.out i hlt hlc
      clear hat
      obtain ⟨x, HXn⟩ := hid_name cs[i]
      obtain ⟨f, HFn⟩ := hid_name ls[i]
      rw [HXn.out] at h0 h1 h2 h3 hii
      rw [HFn.out] at d0 d1 d2 d3 d4 hii
      have HC : Hid (∀ X, _) := fun X => eqC f.id f.kind (f.mr : Nat) (f.md : Nat) pa f.path.length pc x hii X
      unfold leafV Cl.val colV at HC
      clear hii
      obtain ⟨w1, HW1, HX1, HB1⟩ := one_box wr #[.int .i64 f.id, .int .i64 f.kind, .int .i64 (f.mr : Nat), .int .i64 (f.md : Nat), .slice pa f.path.length pc] 67
      obtain ⟨w2, HW2, HX2, HB2⟩ := one_box w1 #[.int .i64 x.id, .slice x.ra x.rs.length x.rc, .slice x.da x.ds.length x.dc, .slice x.va x.vs.length x.vc] 42
      have q0 : (0 : Int) ≤ (i : Int) := by omega
      have q1 : (i : Int) < (ls.length : Int) := by omega
      have q2 : (i : Int) < (cs.length : Int) := by omega
      have HBw2 : Hid (Below W.heap.size W w2) := (HB.out.trans (HB1.out.mono HB.out.size)).trans (HB2.out.mono (by have := HB.out.size; have := HB1.out.size; omega))
      have k0 := ((HB1.out.cell (World.block_lt_of_cell? wr _ h0)).trans h0)
      have k1 := ((HB1.out.cell (World.block_lt_of_cell? wr _ h1)).trans h1)
      have k2 := ((HB1.out.cell (World.block_lt_of_cell? wr _ h2)).trans h2)
      have k3 := ((HB1.out.cell (World.block_lt_of_cell? wr _ h3)).trans h3)
      go_upto_region 6 with fail
      rw [HW1.out]
      clear h0 h1 h2 h3 d0 d1 d2 d3 d4
      go_upto_region 7 with fail
      rw [HW2.out]
      obtain ⟨⟨n0, n1, n2, n3, n4⟩, _⟩ := row_five (blk_keep HB2.out HX1.out)
      have m0 := cell_of_row w2 _ 0 _ _ _ HX2.out
      have m1 := cell_of_row w2 _ 1 _ _ _ HX2.out
      have m2 := cell_of_row w2 _ 2 _ _ _ HX2.out
      have m3 := cell_of_row w2 _ 3 _ _ _ HX2.out
      clear k0 k1 k2 k3
      go_wp2_with fail
      refine Calls.mono (HC.out w2) ?_
      rintro e1 w3 ⟨rfl, hb3⟩
      have HB3 : Hid (Below W.heap.size W w3) := HBw2.out.trans (hb3.mono HBw2.out.size)
      clear hb3 HC n0 n1 n2 n3 n4 m0 m1 m2 m3
      go_wp2
      go_roundw
      case rel => exact ⟨i + 1, by omega, by go_num, HB3⟩
      case measure => simp [intOf]; omega
    · obtain rfl : i = ls.length := by omega
      go_wp2
      go_ret
      exact ⟨rfl, HB.out⟩
end Go.Proofs.YtbicfjimlpdnkaaGreatDoor

namespace Go.Proofs.YtbicfjimlpdnkaaGreatDoor
open Go.RowKit
theorem apart_good (lid kind mr md : Int) (pa : Option Addr) (pn pc : Nat) (c : Cl) (W : World) (st kt bt : TypeId) (sp kp bp : Value)
    (hg : GoodC lid kind mr md c) (hn : c.rs.length ≤ 1048576) (hn2 : c.ds.length ≤ 1048576) (hv : c.vs.length ≤ 1048576) (hcap : c.Cap)
    (hs : W.cell? ⟨1, 0, none⟩ = some (.iface st sp)) (hk : W.cell? ⟨3, 0, none⟩ = some (.iface kt kp)) (hbd : W.cell? ⟨0, 0, none⟩ = some (.iface bt bp)) (hat : c.At W) :
    Calls Tryz.prog 56 #[leafV lid kind mr md pa pn pc, c.val, .int .i64 0, .int .i64 0] W fun e w' => (∃ k : Cl, e = .returned (.tuple #[k.val, .nilIface])) ∧ Below W.heap.size W w' := by
  refine (part_any lid kind mr md 0 0 pa pn pc c W st kt bt sp kp bp hn hn2 hv hcap.1 hcap.2.1 hcap.2.2 hs hk hbd hat).mono ?_
  rintro e w' ⟨h, hb⟩
  refine ⟨?_, hb⟩
  rcases h with (⟨h, _⟩ | ⟨_, p, hp, h, _⟩) | ⟨_, h, _⟩ | ⟨_, _, k, _, _, h, _⟩
  · rw [hg.1] at h; exact absurd h (by simp)
  · rw [hg.2 p hp] at h; exact absurd h (by simp)
  · exact absurd ⟨Int.le_refl _, Int.le_refl _, Int.natCast_nonneg _⟩ h
  · exact ⟨k, h⟩
theorem row_fourZ {w : World} {g e : Nat} {x0 x1 x2 x3 : Value} (h : w.heap[g]? = some (.cells #[x0, x1, x2, x3] e (0, 0))) : (w.cell? ⟨g, 0, none⟩ = some x0 ∧ w.cell? ⟨g, 1, none⟩ = some x1 ∧ w.cell? ⟨g, 2, none⟩ = some x2 ∧ w.cell? ⟨g, 3, none⟩ = some x3) ∧ w.frozen? ⟨g, 0, none⟩ = false ∧ w.frozen? ⟨g, 1, none⟩ = false ∧ w.frozen? ⟨g, 2, none⟩ = false ∧ w.frozen? ⟨g, 3, none⟩ = false :=
  ⟨⟨cell_of_row w g 0 _ e _ h, cell_of_row w g 1 _ e _ h, cell_of_row w g 2 _ e _ h, cell_of_row w g 3 _ e _ h⟩, frozen_of_row w g 0 _ e h, frozen_of_row w g 1 _ e h, frozen_of_row w g 2 _ e h, frozen_of_row w g 3 _ e h⟩
set_option maxRecDepth 100000 in
set_option maxHeartbeats 6400000 in
theorem acheck_of (ls : List Lf) (cs : List Cl) (hcl : cs.length = ls.length) (hcs : ls.length ≤ 1000) (hid : ∀ j (h : j < ls.length) (h' : j < cs.length), cs[j].id = ls[j].id) (hgood : ∀ j (h : j < ls.length) (h' : j < cs.length), GoodC ls[j].id ls[j].kind (ls[j].mr : Nat) (ls[j].md : Nat) cs[j]) (hln : ∀ k ∈ cs, k.rs.length ≤ 20000 ∧ k.ds.length ≤ 20000 ∧ k.vs.length ≤ 20000 ∧ k.Cap) (N : Nat) (la : Option Addr) (lc : Nat) (a : Option Addr) (c : Nat) (W : World) (st kt bt : TypeId) (sp kp bp : Value)
    (hs : W.cell? ⟨1, 0, none⟩ = some (.iface st sp)) (hk : W.cell? ⟨3, 0, none⟩ = some (.iface kt kp)) (hbd : W.cell? ⟨0, 0, none⟩ = some (.iface bt bp)) (hv : LvR W N (.slice la ls.length lc) ls) (hl : LiesC W a cs) :
    Calls Tryz.prog (34) #[.slice la ls.length lc, .slice a cs.length c] W fun e w' => e = .returned .nilIface ∧ Below W.heap.size W w' := by
  have HEq : Hid _ := eqlC ls cs hcl hcs hid N la lc a c W hv hl
  have HBig : Hid (∀ X, Below W.heap.size W X → _) := fun X hX => ctB cs (by omega) a c X (hl.keep hX) (fun k hk => (hln k hk).1)
  have HPt : Hid (∀ j (h : j < ls.length) (h' : j < cs.length) (pa : Option Addr) (pn pc : Nat) (X : World), Below W.heap.size W X → Calls Tryz.prog 56 #[leafV ls[j].id ls[j].kind (ls[j].mr : Nat) (ls[j].md : Nat) pa pn pc, cs[j].val, .int .i64 0, .int .i64 0] X fun e w' => (∃ k : Cl, e = .returned (.tuple #[k.val, .nilIface])) ∧ Below X.heap.size X w') := fun j h h' pa pn pc X hX => by
    have h1 := hln _ (List.getElem_mem h')
    exact apart_good _ _ _ _ pa pn pc cs[j] X st kt bt sp kp bp (hgood j h h') (by omega) (by omega) (by omega) h1.2.2.2 ((hX.cell (World.block_lt_of_cell? W _ hs)).trans hs) ((hX.cell (World.block_lt_of_cell? W _ hk)).trans hk) ((hX.cell (World.block_lt_of_cell? W _ hbd)).trans hbd) ((hl.keep hX) j h').2
  have HL : Hid (LiesC W a cs) := hl
  have HV : Hid (∀ X, Below W.heap.size W X → LvR X N (.slice la ls.length lc) ls) := fun X hX => LvX.keep hv hX
  have HCl : Hid (cs.length = ls.length) := hcl
  clear hcl hid hgood hln hs hk hbd hv hl
  go_enter Tryz.func34, Tryz.ntmps34
  go_wp2_with fail
  refine Calls.mono HEq.out ?_
  rintro e w0 ⟨rfl, hb0⟩
  have HB0 : Hid _ := hb0
  clear hb0
  go_wp2_with fail
  go_loopw [18] (fun x wr => ∃ i : Nat, i ≤ ls.length ∧ x = .int .i64 i ∧ Hid (Below W.heap.size W wr)) (fun x _ => ls.length - (intOf x).toNat)
  case atStart => exact ⟨0, Nat.zero_le _, rfl, HB0⟩
  case round =>
    obtain ⟨i, hik, rfl, HB⟩ := hrel
    by_cases hlt : i < ls.length
    · have hlc : i < cs.length := by have := HCl.out; omega
      obtain ⟨⟨bb, oo, ea, h0, h1, h2, h3⟩, hat⟩ := (HL.out.keep HB.out) i hlc
      subst ea
      obtain ⟨lb, cap, pa, pc, e2, ⟨d0, d1, d2, d3, d4⟩, _⟩ := (HV.out wr HB.out).at_ i hlt
      injection e2 with e2 _ e3
      subst e2
      subst e3
      clear hat
      have HC : Hid (∀ X, Below W.heap.size W X → _) := fun X hX => HPt.out i hlt hlc pa ls[i].path.length pc X hX
      obtain ⟨x, HXn⟩ := hid_name cs[i]
      obtain ⟨f, HFn⟩ := hid_name ls[i]
      rw [HXn.out] at h0 h1 h2 h3 HC
      rw [HFn.out] at d0 d1 d2 d3 d4 HC
      unfold leafV Cl.val colV at HC
      obtain ⟨w1, HW1, HX1, HB1⟩ := one_box wr #[.int .i64 f.id, .int .i64 f.kind, .int .i64 (f.mr : Nat), .int .i64 (f.md : Nat), .slice pa f.path.length pc] 67
      have q0 : (0 : Int) ≤ (i : Int) := by omega
      have q1 : (i : Int) < (ls.length : Int) := by omega
      have q2 : (i : Int) < (cs.length : Int) := by omega
      have HBw1 : Hid (Below W.heap.size W w1) := HB.out.trans (HB1.out.mono HB.out.size)
      have k0 := ((HB1.out.cell (World.block_lt_of_cell? wr _ h0)).trans h0)
      have k1 := ((HB1.out.cell (World.block_lt_of_cell? wr _ h1)).trans h1)
      have k2 := ((HB1.out.cell (World.block_lt_of_cell? wr _ h2)).trans h2)
      have k3 := ((HB1.out.cell (World.block_lt_of_cell? wr _ h3)).trans h3)
      go_upto_region 7 with fail
      rw [HW1.out]
      obtain ⟨⟨n0, n1, n2, n3, n4⟩, _⟩ := row_five HX1.out
      clear h0 h1 h2 h3 d0 d1 d2 d3 d4
      go_cut [9] (fun y wx => y = .nilIface ∧ Hid (Below W.heap.size W wx))
      case first =>
        have b0 : Below W.heap.size W w1 := HBw1.out
        have hsz := b0.size
        have ka : ∀ (ad : Addr) (u : Value), w1.cell? ad = some u → ∀ ob : Obj, (w1.alloc ob).cell? ad = some u := fun ad u hu ob => (((Below.refl w1.heap.size w1).alloc (Nat.le_refl _) ob).cell (World.block_lt_of_cell? w1 _ hu)).trans hu
        have kk0 := ka _ _ k0
        have kk1 := ka _ _ k1
        have kk2 := ka _ _ k2
        have kk3 := ka _ _ k3
        have nn0 := ka _ _ n0
        have nn1 := ka _ _ n1
        have nn2 := ka _ _ n2
        have nn3 := ka _ _ n3
        have nn4 := ka _ _ n4
        clear ka
        go_region_law (go_simp; (with_reducible refine Calls.mono (HC.out _ ?_) ?_); (repeat' (first | with_reducible assumption | with_reducible exact b0.drew | with_reducible exact b0 | with_reducible refine Below.drew ?_ | with_reducible refine Below.alloc ?_ ?_ _ | with_reducible exact Nat.le_refl _ | (simp; done) | (simp; omega))); rintro e w3 ⟨⟨k, rfl⟩, hb3⟩; have hbw : Below W.heap.size W w3 := (by first | exact b0.drew.trans (hb3.mono b0.drew.size) | exact (b0.drew.alloc b0.drew.size _).trans (hb3.mono (b0.drew.alloc b0.drew.size _).size)); first | (have hzz := row_fourZ (blk_keep hb3 (heap_alloc_new _ (.cells #[.int .i64 0, .slice none 0 0, .slice none 0 0, .slice none 0 0] 42))); obtain ⟨⟨t0, t1, t2, t3⟩, s0, s1, s2, s3⟩ := hzz) | skip)
        all_goals
          go_wp2
          go_meet
          refine ⟨rfl, ?_⟩
          first | exact hbw.alloc hbw.size _ | exact (((hbw.setCell hsz _).setCell hsz _).setCell hsz _).setCell hsz _
      case rest =>
        obtain ⟨rfl, HBx⟩ := hcut
        rename World => wx
        go_wp2
        go_roundw
        case rel => exact ⟨i + 1, by omega, by go_num, HBx⟩
        case measure => simp [intOf]; omega
    · obtain rfl : i = ls.length := by omega
      go_wp2_with fail
      refine Calls.mono (HBig.out wr HB.out) ?_
      rintro e w3 ⟨rfl, hb3⟩
      have HB3 : Hid (Below W.heap.size W w3) := HB.out.trans (hb3.mono HB.out.size)
      clear hb3
      go_wp2
      go_ret
      exact ⟨rfl, HB3.out⟩
end Go.Proofs.YtbicfjimlpdnkaaGreatDoor

namespace Go.Proofs.YtbicfjimlpdnkaaGreatDoor
open Go.RowKit
/-- Columns as Shred writes them. -/
structure AsCols (t : Tr) (QF : Nat → List Tr) (ds : List Dt) (cs : List Cl) : Prop where
  len : cs.length = (lvsT t).length
  each : ∀ j (h : j < (lvsT t).length) (h' : j < cs.length), cs[j].id = (lvsT t)[j].id ∧ cs[j].rs = eR (ents (lvsT t)[j].md (stq t (QF j) 0 0) ds) ∧ cs[j].ds = eD (ents (lvsT t)[j].md (stq t (QF j) 0 0) ds) ∧ cs[j].vs = eV (ents (lvsT t)[j].md (stq t (QF j) 0 0) ds) ∧ (ents (lvsT t)[j].md (stq t (QF j) 0 0) ds).length ≤ 20000
  cap : ∀ k ∈ cs, k.Cap
theorem lvs_len1 {t : Tr} (hv : vldN t = 0) : (lvsT t).length ≤ 1000 := by
  obtain ⟨hb, hr, _⟩ := right_parts hv
  have hc := (inB_cnt t 0 [] hb).2.1
  have h := wkT_more stL (fun s : List Lf => s.length) (fun s path t => by unfold stL; split <;> simp) t [] []
  unfold lvsT
  simp at h
  omega
/-- The entries of a number. -/
theorem en_of {t : Tr} (hv : vldN t = 0) (F : Nat → List Ent) : ∃ En : Int → List Ent, ∀ j (h : j < (lvsT t).length), En (lvsT t)[j].id = F j := by
  refine ⟨fun x => F ((lvsT t).findIdx fun f => f.id == x), fun j h => ?_⟩
  have e : (lvsT t).findIdx (fun f => f.id == (lvsT t)[j].id) = j := by
    rw [List.findIdx_eq h]
    refine ⟨by simp, fun i hi => ?_⟩
    have := lvs_ne hv i j (by omega) h hi
    simp [this]
  show F _ = F j
  rw [e]
theorem eV_le (es : List Ent) : (eV es).length ≤ es.length := List.length_filterMap_le Ent.v es
set_option maxRecDepth 100000 in
set_option maxHeartbeats 3200000 in
theorem assemble_right (eb es ek en : TypeId × Value) (t : Tr) (n : Nat) (hd : t.Dp n) (hn : n ≤ 1100000) (hs : t.Sm) (hv : vldN t = 0) (QF : Nat → List Tr) (ZF : Nat → Tr) (hq : ∀ j (h : j < (lvsT t).length), LfG t (lvsT t)[j] (QF j) (ZF j)) (ds : List Dt) (hdl : ds.length ≤ 100000) (hck : ∀ d ∈ ds, chk true t d = 0) (cs : List Cl)
    (na : Option Addr) (nc : Nat) (hcap : t.sub.length ≤ nc) (a : Option Addr) (c : Nat) (P : Nat → Prop) (W : World) (hcs : AsCols t QF ds cs) (he : EC W eb es ek) (hen : W.cell? ⟨2, 0, none⟩ = some (.iface en.1 en.2)) (hl : LiesN W P na t.sub) (hlc : LiesC W a cs) :
    Calls Tryz.prog 20 #[nodeV t na nc, .slice a cs.length c] W fun e w' => (∃ al cl, e = .returned (.tuple #[.slice al ds.length cl, .nilIface]) ∧ LiesD w' (fun b => W.heap.size ≤ b) al ds) ∧ Below W.heap.size W w' := by
  obtain ⟨hb, hr, hsh, _, _⟩ := right_parts hv
  have hk0 : t.kind = 0 := (of_decide_eq_true hr).2.2.2
  have h1 : t.rep = 1 := (of_decide_eq_true hr).2.2.1
  have hcn : t.cnt ≤ 1000 := by have := (inB_cnt t 0 [] hb).2.1; omega
  have hlen := lvs_len1 hv
  obtain ⟨En, hEn⟩ := en_of hv (fun j => ents ((lvsT t).getD j ⟨0, 0, 0, 0, []⟩).md (stq t (QF j) 0 0) ds)
  have hEn2 : ∀ j (h : j < (lvsT t).length), En (lvsT t)[j].id = ents (lvsT t)[j].md (stq t (QF j) 0 0) ds := fun j h => by
    rw [hEn j h]
    simp [List.getD, h]
  have hmap : (lvI t).map En = enL t 0 0 0 ds := by
    have hl1 := enL_len ds t 0 0 0 (fun j h => hck _ (List.getElem_mem h))
    rw [← lvs_I hv, List.map_map]
    apply List.ext_getElem
    · rw [List.length_map, hl1, ← lvI_len, ← lvs_I hv, List.length_map]
    · intro j h2 h3
      have hj : j < (lvsT t).length := by simpa using h2
      have h4 := en_cols hv QF ZF hq ds hck j hj
      rw [List.getElem?_eq_getElem h3] at h4
      rw [List.getElem_map, Option.some.inj h4]
      exact hEn2 j hj
  have hcf : ∀ x ∈ lvI t, ColFor W.heap.size cs En x := fun x hx => by
    rw [← lvs_I hv] at hx
    obtain ⟨f, hf, rfl⟩ := List.mem_map.1 hx
    obtain ⟨j, hj, rfl⟩ := List.getElem_of_mem hf
    have hj2 : j < cs.length := by rw [hcs.len]; exact hj
    obtain ⟨e0, e1, e2, e3, e4⟩ := hcs.each j hj hj2
    refine ⟨j, hj2, e0, fun i hi => ?_, by rw [hEn2 j hj]; exact e1, by rw [hEn2 j hj]; exact e2, by rw [hEn2 j hj]; exact e3, by rw [hEn2 j hj]; exact e4, (hlc j hj2).2.lw⟩
    rw [(hcs.each i (by omega) (by omega)).1]
    exact lvs_ne hv i j (by omega) hj hi
  obtain ⟨w0, HW0, HX, HB⟩ := one_box W #[.int .i64 t.id, .string t.nm, .int .i64 t.rep, .int .i64 t.kind, .slice na t.sub.length nc] 24
  have HLv : Hid (Calls Tryz.prog 16 #[.agg #[.int .i64 t.id, .string t.nm, .int .i64 t.rep, .int .i64 t.kind, .slice na t.sub.length nc]] w0 fun e w' => (∃ lv, e = .returned (.tuple #[lv, .nilIface]) ∧ LvR w' w0.heap.size lv (lvsT t)) ∧ Below w0.heap.size w0 w') := leaves_right t n hd hn hs na nc P w0 (hl.keep HB.out) hcap eb es en (he.keep HB.out).b (he.keep HB.out).s ((HB.out.cell (World.block_lt_of_cell? W _ hen)).trans hen) hv
  have HCk : Hid (∀ (la : Option Addr) (lc N : Nat) (X : World), Below W.heap.size W X → LvR X N (.slice la (lvsT t).length lc) (lvsT t) → Calls Tryz.prog (34) #[.slice la (lvsT t).length lc, .slice a cs.length c] X fun e w' => e = .returned .nilIface ∧ Below X.heap.size X w') := fun la lc N X hX hlv => by
    have heX := he.keep hX
    refine acheck_of (lvsT t) cs hcs.len hlen (fun j h h' => (hcs.each j h h').1) (fun j h h' => ?_) (fun k hk => ?_) N la lc a c X es.1 ek.1 eb.1 es.2 ek.2 eb.2 heX.s heX.k heX.b hlv (hlc.keep hX)
    · obtain ⟨e0, e1, e2, e3, _⟩ := hcs.each j h h'
      exact (col_good (hq j h) ds hck cs[j] e0 e1 e2 e3).1
    · obtain ⟨j, hj, rfl⟩ := List.getElem_of_mem hk
      obtain ⟨_, e1, e2, e3, e4⟩ := hcs.each j (by rw [← hcs.len]; exact hj) hj
      rw [e1, e2, e3, eR_len, eD_len]
      exact ⟨e4, e4, Nat.le_trans (eV_le _) e4, hcs.cap _ hk⟩
  have HBo : Hid (∀ X, Below W.heap.size W X → Calls Tryz.prog 35 #[.agg #[.int .i64 t.id, .string t.nm, .int .i64 t.rep, .int .i64 t.kind, .slice na t.sub.length nc], .int .i64 0, .int .i64 0, .slice a cs.length c] X fun e w' => ∃ b G, e = .returned (.pointer (some ⟨b, 0, none⟩)) ∧ BrI w' (fun k => X.heap.size ≤ k) b t 0 0 G ∧ G.Nodup ∧ (∀ g ∈ G, X.heap.size ≤ g) ∧ RdAll w' W.heap.size G ((lvI t).map En) ∧ Below X.heap.size X w') := fun X hX =>
    bo_any _ t (Nat.lt_succ_self _) (fun y hy hk => (right_grp hsh y hy).2 hk) 0 0 W.heap.size cs En na nc a c X (by omega) (by omega) (by rw [hcs.len]; exact hlen) (hlc.keep hX) hX.size ((hl.keep hX).stay (fun _ _ _ => trivial) (fun _ _ _ => rfl)) hcf
  have HRec : Hid (∀ X b G, BrAt X b t 0 0 G → G.Nodup → RdAll X W.heap.size G ((lvI t).map En) → Calls Tryz.prog (36) #[.pointer (some ⟨b, 0, none⟩)] X fun e w' => ∃ al cl, e = .returned (.tuple #[.slice al ds.length cl, .nilIface]) ∧ LiesD w' (fun b => X.heap.size ≤ b) al ds ∧ AFr G X w') := fun X b G hbr hnd hrd => by
    have hG : G.length ≤ 1000 := by rw [hbr.len, ← lvI_len, ← lvs_I hv, List.length_map]; exact hlen
    rw [hmap] at hrd
    exact records_of t h1 ds hdl (fun j h => hck _ (List.getElem_mem h)) (fun j h => (das_any _ ds[j] (Nat.lt_succ_self _) t 0 0 hs (fun y hy => (right_grp hsh y hy).1) (by omega)).1 (hck _ (List.getElem_mem h))) W.heap.size b G X hbr hnd hG hrd
  obtain ⟨⟨n0, n1, n2, n3, n4⟩, _⟩ := row_five HX.out
  have HNX : Hid _ := HX.out
  clear hd hn hs hv hq hck hcs he hen hl hlc hb hr hsh hk0 h1 hcn hlen hEn hEn2 hmap hcf
  unfold nodeV
  go_enter Tryz.func20, Tryz.ntmps20
  go_upto_region 1 with fail
  rw [HW0.out]
  go_wp2_with fail
  refine Calls.mono HLv.out ?_
  rintro e w1 ⟨⟨lv, rfl, hlv⟩, hb1⟩
  obtain ⟨la, lc, rfl⟩ : ∃ la lc, lv = .slice la (lvsT t).length lc := by
    obtain ⟨pvs, _, h2, _⟩ := hlv
    exact own_shp h2
  have HB1 : Hid (Below W.heap.size W w1) := HB.out.trans (hb1.mono HB.out.size)
  have HX1 : Hid _ := blk_keep hb1 HX.out
  have HC1 : Hid _ := HCk.out la lc _ w1 HB1.out hlv
  obtain ⟨m, HM⟩ := hid_name (lvsT t).length
  rw [HM.out] at HC1 ⊢
  clear hlv hb1 n0 n1 n2 n3 n4
  go_wp2_with fail
  refine Calls.mono HC1.out ?_
  rintro e w2 ⟨rfl, hb2⟩
  have HB2 : Hid (Below W.heap.size W w2) := HB1.out.trans (hb2.mono HB1.out.size)
  obtain ⟨⟨n0, n1, n2, n3, n4⟩, _⟩ := row_five (blk_keep hb2 HX1.out)
  have HC2 : Hid _ := HBo.out w2 HB2.out
  clear hb2 HC1
  go_wp2_with fail
  refine Calls.mono HC2.out ?_
  rintro e w3 ⟨b, G, rfl, hbr, hnd, hg, hrd, hb3⟩
  have HC3 : Hid _ := HRec.out w3 b G hbr.at_ hnd hrd
  have HB3 : Hid (Below W.heap.size W w3) := HB2.out.trans (hb3.mono HB2.out.size)
  have HGg : Hid (∀ g ∈ G, W.heap.size ≤ g) := fun g h => Nat.le_trans HB2.out.size (hg g h)
  clear hbr hnd hg hrd hb3 HC2 n0 n1 n2 n3 n4
  go_wp2_with fail
  refine Calls.mono HC3.out ?_
  rintro e w4 ⟨al, cl, rfl, hl4, hf4⟩
  have HL4 : Hid (LiesD w4 (fun b => W.heap.size ≤ b) al ds) := hl4.stay (fun b h _ => Nat.le_trans HB3.out.size h) (fun _ _ _ => rfl)
  have HB4 : Hid (Below W.heap.size W w4) := HB3.out.trans (hf4.below HB3.out.size HGg.out)
  clear hl4 hf4 HC3
  go_wp2
  go_ret2
  exact ⟨⟨al, cl, rfl, HL4.out⟩, HB4.out⟩
end Go.Proofs.YtbicfjimlpdnkaaGreatDoor

namespace Go.Proofs.YtbicfjimlpdnkaaGreatDoor
open Go.RowKit
/-- The level of an entry, behind the last one 0. -/
def lvA (rs : List Int) (i : Nat) : Int := rs.getD i 0
set_option maxRecDepth 100000 in
set_option maxHeartbeats 1600000 in
theorem levelAt_any (k : Cl) (i : Nat) (W : World) (hat : k.At W) :
    Calls Tryz.prog 37 #[k.val, .int .i64 (i : Nat)] W fun e w' => e = .returned (.int .i64 (lvA k.rs i)) ∧ Below W.heap.size W w' := by
  unfold Cl.val colV
  obtain ⟨w0, HW0, HX, HB⟩ := one_box W #[.int .i64 k.id, .slice k.ra k.rs.length k.rc, .slice k.da k.ds.length k.dc, .slice k.va k.vs.length k.vc] 42
  have c1 := cell_of_row w0 W.heap.size 1 _ _ _ HX.out
  by_cases hlt : i < k.rs.length
  · obtain ⟨b, o, ea, hc⟩ := (hat.r.keep HB.out) i (by simpa [i64s] using hlt)
    have ex : (i64s k.rs)[i]'(by simpa [i64s] using hlt) = .int .i64 (lvA k.rs i) := by simp [i64s, lvA, List.getD, hlt]
    rw [ex] at hc
    obtain ⟨x, HXn⟩ := hid_name (lvA k.rs i)
    rw [HXn.out] at hc ⊢
    rw [ea] at c1 HW0 ⊢
    obtain ⟨n, HN⟩ := hid_name k.rs.length
    rw [HN.out] at c1 HW0 hlt ⊢
    have q : decide ((n : Int) ≤ (i : Int)) = false := by rw [decide_eq_false_iff_not]; omega
    have q0 : (0 : Int) ≤ (i : Int) := by omega
    have q1 : (i : Int) < (n : Int) := by omega
    clear ea ex hat
    go_enter Tryz.func37, Tryz.ntmps37
    go_upto_region 1 with fail
    rw [HW0.out]
    go_wp2
    go_ret
    exact ⟨rfl, HB.out⟩
  · have ex : lvA k.rs i = 0 := by unfold lvA; simp [List.getD, show k.rs.length ≤ i by omega]
    rw [ex]
    obtain ⟨n, HN⟩ := hid_name k.rs.length
    rw [HN.out] at c1 HW0 hlt ⊢
    have q : decide ((n : Int) ≤ (i : Int)) = true := by rw [decide_eq_true_iff]; omega
    clear hat ex
    go_enter Tryz.func37, Tryz.ntmps37
    go_upto_region 1 with fail
    rw [HW0.out]
    go_wp2
    go_ret
    exact ⟨rfl, HB.out⟩
/-- A walk from leaf to leaf: each step reads one entry, the next leaf is told by the level of what is then next. -/
inductive Rn (X : Nat → Int → Nat) : Nat → List (List Ent) → List Nat → Nat → List (List Ent) → Prop where
  | done (k : Nat) (R : List (List Ent)) : Rn X k R [] k R
  | step (k : Nat) (R : List (List Ent)) (x : Ent) (r : List Ent) (S : List Nat) (k' : Nat) (R' : List (List Ent)) (h : R[k]? = some (x :: r)) (t : Rn X (X k (hdR r)) (R.set k r) S k' R') : Rn X k R (k :: S) k' R'
theorem Rn.trans {X : Nat → Int → Nat} {k k' k2 : Nat} {R R' R2 : List (List Ent)} {S S2 : List Nat} (h : Rn X k R S k' R') (h2 : Rn X k' R' S2 k2 R2) : Rn X k R (S ++ S2) k2 R2 := by
  induction h with
  | done k R => exact h2
  | step k R x r S k' R' hx t ih => exact .step k R x r (S ++ S2) k2 R2 hx (ih h2)
/-- One entry of one leaf. -/
theorem Rn.one {X : Nat → Int → Nat} {k : Nat} {R : List (List Ent)} {x : Ent} {r : List Ent} (h : R[k]? = some (x :: r)) : Rn X k R [k] (X k (hdR r)) (R.set k r) := .step k R x r [] _ _ h (.done _ _)
/-- Each leaf is read as often as entries of it are gone. -/
theorem Rn.count {X : Nat → Int → Nat} {k k' : Nat} {R R' : List (List Ent)} {S : List Nat} (h : Rn X k R S k' R') : R'.length = R.length ∧ ∀ j, (R.getD j []).length = S.count j + (R'.getD j []).length := by
  induction h with
  | done k R => exact ⟨rfl, fun j => by simp⟩
  | step k R x r S k' R' hx t ih =>
    refine ⟨by rw [ih.1, List.length_set], fun j => ?_⟩
    have h1 := ih.2 j
    obtain ⟨hk, ex⟩ := List.getElem?_eq_some_iff.1 hx
    by_cases e : j = k
    · subst e
      rw [List.count_cons_self]
      have e1 : (R.set j r).getD j [] = r := by simp [List.getD, hk]
      have e2 : R.getD j [] = x :: r := by simp [List.getD, hx]
      rw [e1] at h1
      rw [e2, List.length_cons]
      omega
    · rw [List.count_cons_of_ne (fun e2 => e e2.symm)]
      have e1 : (R.set k r).getD j [] = R.getD j [] := by
        simp only [List.getD]
        rw [List.getElem?_set_ne (fun e2 => e e2.symm)]
      rw [e1] at h1
      exact h1
end Go.Proofs.YtbicfjimlpdnkaaGreatDoor

namespace Go.Proofs.YtbicfjimlpdnkaaGreatDoor
open Go.RowKit
/-- What is left of the leaves from one on. -/
def Sg (off : Nat) (E R : List (List Ent)) : Prop := ∀ j (h : j < E.length), R[off + j]? = some E[j]
/-- All other leaves are as they were. -/
def Ot (off n : Nat) (R R' : List (List Ent)) : Prop := R'.length = R.length ∧ ∀ i, (i < off ∨ off + n ≤ i) → R'[i]? = R[i]?
theorem Ot.trans {off n m : Nat} {R R1 R2 : List (List Ent)} (h : Ot off n R R1) (h2 : Ot (off + n) m R1 R2) : Ot off (n + m) R R2 := ⟨h2.1.trans h.1, fun i hi => (h2.2 i (by omega)).trans (h.2 i (by omega))⟩
theorem Ot.again {off n : Nat} {R R1 R2 : List (List Ent)} (h : Ot off n R R1) (h2 : Ot off n R1 R2) : Ot off n R R2 := ⟨h2.1.trans h.1, fun i hi => (h2.2 i hi).trans (h.2 i hi)⟩
theorem Sg.app {off : Nat} {A B R : List (List Ent)} (h : Sg off (A ++ B) R) : Sg off A R ∧ Sg (off + A.length) B R := by
  refine ⟨fun j hj => ?_, fun j hj => ?_⟩
  · have := h j (by rw [List.length_append]; omega)
    rw [List.getElem_append_left hj] at this
    exact this
  · have := h (A.length + j) (by rw [List.length_append]; omega)
    rw [List.getElem_append_right (by omega)] at this
    simpa [Nat.add_assoc] using this
theorem Sg.join {off : Nat} {A B R : List (List Ent)} (h : Sg off A R) (h2 : Sg (off + A.length) B R) : Sg off (A ++ B) R := fun j hj => by
  by_cases h3 : j < A.length
  · rw [List.getElem_append_left h3]
    exact h j h3
  · rw [List.getElem_append_right (by omega)]
    have := h2 (j - A.length) (by rw [List.length_append] at hj; omega)
    rw [← this]
    congr 1
    omega
theorem Sg.ot {off off2 n : Nat} {A R R' : List (List Ent)} (h : Sg off A R) (ho : Ot off2 n R R') (hd : off + A.length ≤ off2 ∨ off2 + n ≤ off) : Sg off A R' := fun j hj => (ho.2 _ (by omega)).trans (h j hj)
theorem zipA_two (A B C D : List (List Ent)) (h : A.length = C.length) : zipA (A ++ B) (C ++ D) = zipA A C ++ zipA B D := by
  unfold zipA
  exact List.zipWith_append h
mutual
/-- How the next leaf is told: behind a list's element its first leaf; behind a field the next one. -/
def GX (X : Nat → Int → Nat) (off ls : Nat) : Tr → Prop
  | .node id nm rep kind sub => (rep = 3 → X (off + lvC (.node id nm rep kind sub) - 1) ((ls + 1 : Nat) : Int) = off) ∧ (kind = 0 → GXL X off (if rep = 3 then ls + 1 else ls) sub)
def GXL (X : Nat → Int → Nat) (off ls : Nat) : List Tr → Prop
  | [] => True
  | t :: ts => GX X off ls t ∧ (ts ≠ [] → ∀ h : Int, 0 ≤ h → h ≤ (ls : Int) → X (off + lvC t - 1) h = off + lvC t) ∧ GXL X (off + lvC t) ls ts
end
theorem GX_eq (X : Nat → Int → Nat) (off ls : Nat) (t : Tr) : GX X off ls t ↔ (t.rep = 3 → X (off + lvC t - 1) ((ls + 1 : Nat) : Int) = off) ∧ (t.kind = 0 → GXL X off (lsN t ls) t.sub) := by
  cases t with
  | node id nm rep kind sub => rw [GX]; rfl
mutual
/-- A node of which nothing is there: one entry of each leaf. -/
theorem rn_abs (X : Nat → Int → Nat) (e : Ent) (h : Int) (h0 : 0 ≤ h) : ∀ (t : Tr) (off ls : Nat) (R rest : List (List Ent)), (∀ y ∈ ndT t, y.kind = 0 → 0 < y.sub.length) → GX X off ls t → h ≤ (ls : Int) → rest.length = lvC t → (∀ r ∈ rest, hdR r = h) → Sg off (zipA (List.replicate (lvC t) [e]) rest) R → ∃ S R', Rn X off R S (X (off + lvC t - 1) h) R' ∧ Sg off rest R' ∧ Ot off (lvC t) R R'
  | .node id nm rep kind sub, off, ls, R, rest, hs, hg, hls, hl, hr, hsg => by
    rw [GX_eq] at hg
    by_cases hk : kind = 0
    · have hp := hs (.node id nm rep kind sub) (by rw [ndT]; exact List.mem_cons_self) hk
      have hc : lvC (.node id nm rep kind sub) = lvCL sub := by rw [lvC, if_pos hk]
      rw [hc] at hl hsg ⊢
      exact rn_absL X e h h0 sub off (lsN (.node id nm rep kind sub) ls) R rest (fun y hy => hs y (by rw [ndT]; exact List.mem_cons_of_mem _ hy)) (hg.2 hk) (by have := (lsN_ge (.node id nm rep kind sub) ls).1; omega) (fun e => by simp [Tr.sub, e] at hp) hl hr hsg
    · have hc : lvC (.node id nm rep kind sub) = 1 := by rw [lvC, if_neg hk]
      rw [hc] at hl hsg ⊢
      match rest, hl with
      | [r], _ =>
        have h1 := hsg 0 (by simp [zipA])
        have h2 : R[off]? = some (e :: r) := by simpa [zipA] using h1
        have h3 : hdR r = h := hr r (by simp)
        refine ⟨[off], R.set off r, ?_, fun j hj => ?_, ⟨List.length_set, fun i hi => by rw [List.getElem?_set_ne (by omega)]⟩⟩
        · have h4 := Rn.one (X := X) h2
          rw [h3] at h4
          simpa using h4
        · have hj0 : j = 0 := by simp at hj; omega
          subst hj0
          obtain ⟨ho, _⟩ := List.getElem?_eq_some_iff.1 h2
          simp [ho]
theorem rn_absL (X : Nat → Int → Nat) (e : Ent) (h : Int) (h0 : 0 ≤ h) : ∀ (ts : List Tr) (off ls : Nat) (R rest : List (List Ent)), (∀ y ∈ ndL ts, y.kind = 0 → 0 < y.sub.length) → GXL X off ls ts → h ≤ (ls : Int) → ts ≠ [] → rest.length = lvCL ts → (∀ r ∈ rest, hdR r = h) → Sg off (zipA (List.replicate (lvCL ts) [e]) rest) R → ∃ S R', Rn X off R S (X (off + lvCL ts - 1) h) R' ∧ Sg off rest R' ∧ Ot off (lvCL ts) R R'
  | [], _, _, _, _, _, _, _, hne, _, _, _ => absurd rfl hne
  | t :: ts, off, ls, R, rest, hs, hg, hls, _, hl, hr, hsg => by
    rw [GXL] at hg
    rw [lvCL] at hl hsg ⊢
    have e1 : rest = rest.take (lvC t) ++ rest.drop (lvC t) := (List.take_append_drop _ _).symm
    have hl1 : (rest.take (lvC t)).length = lvC t := by rw [List.length_take]; omega
    have hl2 : (rest.drop (lvC t)).length = lvCL ts := by rw [List.length_drop]; omega
    rw [e1, ← List.replicate_append_replicate, zipA_two _ _ _ _ (by simp [hl1])] at hsg
    obtain ⟨hsg1, hsg2⟩ := hsg.app
    have hzl : (zipA (List.replicate (lvC t) [e]) (rest.take (lvC t))).length = lvC t := by rw [zipA_len _ _ (by simp [hl1])]; simp
    rw [hzl] at hsg2
    obtain ⟨S1, R1, hr1, hs1, ho1⟩ := rn_abs X e h h0 t off ls R (rest.take (lvC t)) (fun y hy => hs y (by rw [ndL]; exact List.mem_append_left _ hy)) hg.1 hls hl1 (fun r hm => hr r (List.mem_of_mem_take hm)) hsg1
    by_cases hts : ts = []
    · subst hts
      have hn : rest.drop (lvC t) = [] := List.length_eq_zero_iff.1 (by rw [hl2]; rfl)
      rw [hn, List.append_nil] at e1
      rw [← e1] at hs1
      simp only [lvCL, Nat.add_zero]
      exact ⟨S1, R1, hr1, hs1, ho1⟩
    · have hx := hg.2.1 hts h h0 hls
      rw [hx] at hr1
      have hsg3 := hsg2.ot ho1 (.inr (Nat.le_refl _))
      obtain ⟨S2, R2, hr2, hs2, ho2⟩ := rn_absL X e h h0 ts (off + lvC t) ls R1 (rest.drop (lvC t)) (fun y hy => hs y (by rw [ndL]; exact List.mem_append_right _ hy)) hg.2.2 hls hts hl2 (fun r hm => hr r (List.mem_of_mem_drop hm)) hsg3
      rw [← Nat.add_assoc]
      refine ⟨S1 ++ S2, R2, hr1.trans hr2, ?_, ho1.trans ho2⟩
      rw [e1]
      exact (hs1.ot ho2 (.inl (by rw [hl1]; exact Nat.le_refl _))).join (by rw [hl1]; exact hs2)
end
end Go.Proofs.YtbicfjimlpdnkaaGreatDoor

namespace Go.Proofs.YtbicfjimlpdnkaaGreatDoor
open Go.RowKit
/-- A walk from a node's first leaf behind its last one. -/
def Wk (X : Nat → Int → Nat) (t : Tr) (off : Nat) (h : Int) (rest R : List (List Ent)) : Prop := ∃ S R', Rn X off R S (X (off + lvC t - 1) h) R' ∧ Sg off rest R' ∧ Ot off (lvC t) R R'
def PR (X : Nat → Int → Nat) (one : Bool) (t : Tr) (off df ls : Nat) (d : Dt) : Prop := ∀ (rep h : Int) (R rest : List (List Ent)), 0 ≤ h → h ≤ (ls : Int) → rest.length = lvC t → (∀ r ∈ rest, hdR r = h) → Sg off (zipA (en one t df ls rep d) rest) R → Wk X t off h rest R
theorem rn_enF (X : Nat → Int → Nat) (df ls : Nat) (rep h : Int) (h0 : 0 ≤ h) (hls : h ≤ (ls : Int)) : ∀ (ts : List Tr) (fs : List Dt) (off : Nat) (R rest : List (List Ent)), fs.length = ts.length → (∀ j (h1 : j < ts.length) (h2 : j < fs.length), chk false ts[j] fs[j] = 0) → (∀ j (h1 : j < ts.length) (h2 : j < fs.length) (o : Nat), GX X o ls ts[j] → PR X false ts[j] o df ls fs[j]) → GXL X off ls ts → ts ≠ [] → rest.length = lvCL ts → (∀ r ∈ rest, hdR r = h) → Sg off (zipA (enF ts df ls rep fs) rest) R → ∃ S R', Rn X off R S (X (off + lvCL ts - 1) h) R' ∧ Sg off rest R' ∧ Ot off (lvCL ts) R R'
  | [], _, _, _, _, _, _, _, _, hne, _, _, _ => absurd rfl hne
  | _ :: _, [], _, _, _, hfl, _, _, _, _, _, _, _ => by simp at hfl
  | t :: ts, d :: fs, off, R, rest, hfl, hck, hP, hg, _, hl, hr, hsg => by
    rw [GXL] at hg
    rw [lvCL] at hl ⊢
    rw [enF] at hsg
    have hel : (en false t df ls rep d).length = lvC t := en_len d false t df ls rep (hck 0 (by simp) (by simp))
    have e1 : rest = rest.take (lvC t) ++ rest.drop (lvC t) := (List.take_append_drop _ _).symm
    have hl1 : (rest.take (lvC t)).length = lvC t := by rw [List.length_take]; omega
    have hl2 : (rest.drop (lvC t)).length = lvCL ts := by rw [List.length_drop]; omega
    rw [e1, zipA_two _ _ _ _ (by rw [hel, hl1])] at hsg
    obtain ⟨hsg1, hsg2⟩ := hsg.app
    have hzl : (zipA (en false t df ls rep d) (rest.take (lvC t))).length = lvC t := by rw [zipA_len _ _ (by rw [hel, hl1]), hel]
    rw [hzl] at hsg2
    obtain ⟨S1, R1, hr1, hs1, ho1⟩ := hP 0 (by simp) (by simp) off hg.1 rep h R (rest.take (lvC t)) h0 hls hl1 (fun r hm => hr r (List.mem_of_mem_take hm)) hsg1
    by_cases hts : ts = []
    · subst hts
      have hn : rest.drop (lvC t) = [] := List.length_eq_zero_iff.1 (by rw [hl2]; rfl)
      rw [hn, List.append_nil] at e1
      rw [← e1] at hs1
      simp only [lvCL, Nat.add_zero]
      exact ⟨S1, R1, hr1, hs1, ho1⟩
    · have hx := hg.2.1 hts h h0 hls
      have hr1' : Rn X off R S1 (off + lvC t) R1 := by
        have e : X (off + lvC t - 1) h = off + lvC t := hx
        rw [← e]
        exact hr1
      have hsg3 := hsg2.ot ho1 (.inr (Nat.le_refl _))
      obtain ⟨S2, R2, hr2, hs2, ho2⟩ := rn_enF X df ls rep h h0 hls ts fs (off + lvC t) R1 (rest.drop (lvC t)) (by simpa using hfl) (fun j h1 h2 => hck (j + 1) (by simpa using h1) (by simpa using h2)) (fun j h1 h2 => hP (j + 1) (by simpa using h1) (by simpa using h2)) hg.2.2 hts hl2 (fun r hm => hr r (List.mem_of_mem_drop hm)) hsg3
      rw [← Nat.add_assoc]
      refine ⟨S1 ++ S2, R2, hr1'.trans hr2, ?_, ho1.trans ho2⟩
      rw [e1]
      exact (hs1.ot ho2 (.inl (by rw [hl1]; exact Nat.le_refl _))).join (by rw [hl1]; exact hs2)
theorem rn_enL (X : Nat → Int → Nat) (t : Tr) (off df L : Nat) (hx : X (off + lvC t - 1) (L : Int) = off) (h : Int) (h0 : 0 ≤ h) (hL : h ≤ (L : Int)) : ∀ (ds : List Dt) (rep : Int) (R rest : List (List Ent)), (∀ j (h1 : j < ds.length), chk true t ds[j] = 0) → (∀ j (h1 : j < ds.length), PR X true t off df L ds[j]) → ds ≠ [] → rest.length = lvC t → (∀ r ∈ rest, hdR r = h) → Sg off (zipA (enL t df L rep ds) rest) R → Wk X t off h rest R
  | [], _, _, _, _, _, hne, _, _, _ => absurd rfl hne
  | d :: ds, rep, R, rest, hck, hP, _, hl, hr, hsg => by
    rw [enL, zipA_assoc] at hsg
    by_cases hds : ds = []
    · subst hds
      rw [enL, zipA_nils _ _ hl] at hsg
      exact hP 0 (by simp) rep h R rest h0 hL hl hr hsg
    · have hck2 : ∀ j (h1 : j < ds.length), chk true t ds[j] = 0 := fun j h1 => hck (j + 1) (by simpa using h1)
      have hel := enL_len ds t df L (L : Int) hck2
      obtain ⟨S1, R1, hr1, hs1, ho1⟩ := hP 0 (by simp) rep (L : Int) R (zipA (enL t df L (L : Int) ds) rest) (by omega) (Int.le_refl _) (by rw [zipA_len _ _ (by rw [hel, hl]), hel]) (fun r hm => hdR_of (zipA_hd (enL_hd ds t df L (L : Int) hck2 hds) r hm)) hsg
      rw [hx] at hr1
      obtain ⟨S2, R2, hr2, hs2, ho2⟩ := rn_enL X t off df L hx h h0 hL ds (L : Int) R1 rest hck2 (fun j h1 => hP (j + 1) (by simpa using h1)) hds hl hr hs1
      exact ⟨S1 ++ S2, R2, hr1.trans hr2, hs2, ho1.again ho2⟩
/-- A right datum. -/
theorem rn_any (X : Nat → Int → Nat) : ∀ (n : Nat) (d : Dt), SizeOf.sizeOf d < n → ∀ (t : Tr) (off df ls : Nat), (∀ y ∈ ndT t, (1 ≤ y.rep ∧ y.rep ≤ 3) ∧ (y.kind = 0 → 0 < y.sub.length)) → (chk true t d = 0 → (t.kind = 0 → GXL X off ls t.sub) → PR X true t off df ls d) ∧ (chk false t d = 0 → GX X off ls t → PR X false t off df ls d)
  | 0, d, h => absurd h (Nat.not_lt_zero _)
  | n + 1, d, hsz => fun t off df ls hs => by
    have hf := d.f_size
    have hl := d.l_size
    have hme := hs t (by rw [ndT_eq]; exact List.mem_cons_self)
    have hA : ∀ df, chk true t d = 0 → (t.kind = 0 → GXL X off ls t.sub) → PR X true t off df ls d := fun df hck hg => by
      intro rep h R rest h0 hls hrl hr hsg
      by_cases hk : t.kind = 0
      · obtain ⟨_, _, hfl, h4⟩ := chk_grp hk hck
        have hne : t.sub ≠ [] := fun e => by have := hme.2 hk; rw [e] at this; simp at this
        have hc : lvC t = lvCL t.sub := by rw [lvC_eq, if_pos hk]
        rw [en_eq, if_neg (by simp), if_neg (by simp), if_pos hk, if_pos (Or.inl rfl)] at hsg
        unfold Wk
        rw [hc] at hrl ⊢
        exact rn_enF X df ls rep h h0 hls t.sub d.f off R rest hfl h4 (fun j h1 h2 o hgx => (rn_any X n d.f[j] (by have := hf j h2; omega) t.sub[j] o df ls (fun y hy => hs y (nd_sub (List.getElem_mem h1) hy))).2 (h4 j h1 h2) hgx) (hg hk) hne hrl hr hsg
      · have hc : lvC t = 1 := by rw [lvC_eq, if_neg hk]
        rw [en_eq, if_neg (by simp), if_neg (by simp), if_neg hk] at hsg
        unfold Wk
        rw [hc] at hrl ⊢
        match rest, hrl with
        | [r], _ =>
          have h1 := hsg 0 (by simp [zipA])
          have h2 : R[off]? = some (⟨rep, ((if true = true ∨ t.rep = 1 then df else df + 1 : Nat) : Int), some d.v⟩ :: r) := by simpa [zipA] using h1
          have h3 : hdR r = h := hr r (by simp)
          refine ⟨[off], R.set off r, ?_, fun j hj => ?_, ⟨List.length_set, fun i hi => by rw [List.getElem?_set_ne (by omega)]⟩⟩
          · have h4 := Rn.one (X := X) h2
            rw [h3] at h4
            simpa using h4
          · have hj0 : j = 0 := by simp at hj; omega
            subst hj0
            obtain ⟨ho, _⟩ := List.getElem?_eq_some_iff.1 h2
            simp [ho]
    refine ⟨hA df, fun hck hg => ?_⟩
    intro rep h R rest h0 hls hrl hr hsg
    have hg2 := (GX_eq X off ls t).1 hg
    by_cases h3 : t.rep = 3
    · rw [en_eq, if_pos ⟨rfl, h3⟩] at hsg
      by_cases hll : d.l.length = 0
      · rw [if_pos hll] at hsg
        exact rn_abs X _ h h0 t off ls R rest (fun y hy => (hs y hy).2) hg hls hrl hr hsg
      · rw [if_neg hll] at hsg
        have hel := (chk_lst h3 hck).2
        have e : lsN t ls = ls + 1 := by unfold lsN; rw [if_pos h3]
        rw [e] at hg2
        exact rn_enL X t off (df + 1) (ls + 1) (hg2.1 h3) h h0 (by omega) d.l rep R rest (fun j h1 => hel _ (List.getElem_mem h1)) (fun j h1 => (rn_any X n d.l[j] (by have := hl j h1; omega) t off (df + 1) (ls + 1) hs).1 (hel _ (List.getElem_mem h1)) hg2.2) (fun e => hll (by rw [e]; rfl)) hrl hr hsg
    · have e : lsN t ls = ls := by unfold lsN; rw [if_neg h3]
      rw [e] at hg2
      by_cases hno : d.no = true
      · rw [en_eq, if_neg (by simp [h3]), if_pos ⟨rfl, hno⟩] at hsg
        exact rn_abs X _ h h0 t off ls R rest (fun y hy => (hs y hy).2) hg hls hrl hr hsg
      · have hno' : d.no = false := by simpa using hno
        rw [en_one h3 hno', e] at hsg
        exact hA (dfN t df) (chk_yes h3 hno' hck) hg2.2 rep h R rest h0 hls hrl hr hsg
end Go.Proofs.YtbicfjimlpdnkaaGreatDoor

namespace Go.Proofs.YtbicfjimlpdnkaaGreatDoor
open Go.RowKit
theorem cmnL_pre : ∀ ab x y : List Int, cmnL (ab ++ x) (ab ++ y) = ab.length + cmnL x y
  | [], x, y => by simp
  | a :: ab, x, y => by
    rw [List.cons_append, List.cons_append, cmnL, if_pos rfl, cmnL_pre ab x y, List.length_cons]
    omega
theorem cmnL_off (i : Int) (x : List Int) : ∀ (ab l : List Int), i ∉ l → cmnL (ab ++ i :: x) l ≤ ab.length
  | [], [], _ => by simp [cmnL]
  | [], y :: ys, h => by
    rw [List.nil_append, cmnL, if_neg (fun e => h (by rw [e]; exact List.mem_cons_self))]
    exact Nat.zero_le _
  | a :: ab, [], _ => by simp [cmnL]
  | a :: ab, y :: ys, h => by
    rw [List.cons_append, cmnL, List.length_cons]
    split
    · have := cmnL_off i x ab ys (fun hm => h (List.mem_cons_of_mem _ hm))
      omega
    · omega
/-- The lists around a node, with it. -/
def abN (t : Tr) (ab : List Int) : List Int := if t.rep = 3 then ab ++ [t.id] else ab
mutual
theorem lsT_pre : ∀ (t : Tr) (ab : List Int), ∀ l ∈ lsT ab t, ∃ x, l = abN t ab ++ x
  | .node id nm rep kind sub, ab, l, hl => by
    rw [lsT] at hl
    split at hl
    · exact lsL_pre sub _ l hl
    · exact ⟨[], by rw [List.mem_singleton.1 hl, List.append_nil]; rfl⟩
theorem lsL_pre : ∀ (ts : List Tr) (ab : List Int), ∀ l ∈ lsL ab ts, ∃ x, l = ab ++ x
  | [], ab, l, hl => by simp [lsL] at hl
  | t :: ts, ab, l, hl => by
    rw [lsL, List.mem_append] at hl
    rcases hl with hl | hl
    · obtain ⟨x, e⟩ := lsT_pre t ab l hl
      unfold abN at e
      split at e
      · exact ⟨t.id :: x, by rw [e]; simp⟩
      · exact ⟨x, e⟩
    · exact lsL_pre ts ab l hl
end
mutual
theorem lsT_idm : ∀ (t : Tr) (ab : List Int), ∀ l ∈ lsT ab t, ∀ i ∈ l, i ∈ ab ∨ i ∈ (ndT t).map Tr.id
  | .node id nm rep kind sub, ab, l, hl, i, hi => by
    have key : ∀ i, i ∈ (if rep = 3 then ab ++ [id] else ab) → i ∈ ab ∨ i = id := fun i h => by
      split at h
      · simpa using h
      · exact .inl h
    rw [ndT, List.map_cons]
    rw [lsT] at hl
    split at hl
    · rcases lsL_idm sub _ l hl i hi with h | h
      · rcases key i h with h | h
        · exact .inl h
        · exact .inr (by rw [h]; exact List.mem_cons_self)
      · exact .inr (List.mem_cons_of_mem _ h)
    · rw [List.mem_singleton.1 hl] at hi
      rcases key i hi with h | h
      · exact .inl h
      · exact .inr (by rw [h]; exact List.mem_cons_self)
theorem lsL_idm : ∀ (ts : List Tr) (ab : List Int), ∀ l ∈ lsL ab ts, ∀ i ∈ l, i ∈ ab ∨ i ∈ (ndL ts).map Tr.id
  | [], ab, l, hl, i, _ => by simp [lsL] at hl
  | t :: ts, ab, l, hl, i, hi => by
    rw [lsL, List.mem_append] at hl
    rw [ndL, List.map_append, List.mem_append]
    rcases hl with hl | hl
    · rcases lsT_idm t ab l hl i hi with h | h
      · exact .inl h
      · exact .inr (.inl h)
    · rcases lsL_idm ts ab l hl i hi with h | h
      · exact .inl h
      · exact .inr (.inr h)
end
mutual
theorem lsT_lv : ∀ (t : Tr) (ab : List Int), (lsT ab t).length = lvC t
  | .node id nm rep kind sub, ab => by
    rw [lsT, lvC]
    split
    · exact lsL_lv sub _
    · rfl
theorem lsL_lv : ∀ (ts : List Tr) (ab : List Int), (lsL ab ts).length = lvCL ts
  | [], ab => by simp [lsL, lvCL]
  | t :: ts, ab => by rw [lsL, lvCL, List.length_append, lsT_lv t ab, lsL_lv ts ab]
end
theorem at_mid {pre m post : List (List Int)} (j : Nat) (h : j < m.length) : (pre ++ (m ++ post)).getD (pre.length + j) [] = m[j] := by
  simp only [List.getD]
  rw [List.getElem?_append_right (by omega), Nat.add_sub_cancel_left, List.getElem?_append_left h, List.getElem?_eq_getElem h]
  rfl
theorem at_end {pre m post : List (List Int)} (h : 0 < post.length) : (pre ++ (m ++ post)).getD (pre.length + m.length) [] = post[0] := by
  simp only [List.getD]
  rw [List.getElem?_append_right (by omega), Nat.add_sub_cancel_left, List.getElem?_append_right (by omega), Nat.sub_self, List.getElem?_eq_getElem h]
  rfl
end Go.Proofs.YtbicfjimlpdnkaaGreatDoor

namespace Go.Proofs.YtbicfjimlpdnkaaGreatDoor
open Go.RowKit
def XK (L : List (List Int)) (k : Nat) (h : Int) : Nat := nxtK L k h.toNat
mutual
theorem lvC_pos : ∀ t : Tr, (∀ y ∈ ndT t, y.kind = 0 → 0 < y.sub.length) → 0 < lvC t
  | .node id nm rep kind sub, hs => by
    rw [lvC]
    split
    · rename_i hk
      have h := hs (.node id nm rep kind sub) (by rw [ndT]; exact List.mem_cons_self) hk
      exact lvCL_pos sub (fun y hy => hs y (by rw [ndT]; exact List.mem_cons_of_mem _ hy)) (fun e => by simp [Tr.sub, e] at h)
    · omega
theorem lvCL_pos : ∀ ts : List Tr, (∀ y ∈ ndL ts, y.kind = 0 → 0 < y.sub.length) → ts ≠ [] → 0 < lvCL ts
  | [], _, h => absurd rfl h
  | t :: ts, hs, _ => by
    rw [lvCL]
    have := lvC_pos t (fun y hy => hs y (by rw [ndL]; exact List.mem_append_left _ hy))
    omega
end
theorem abN_len (t : Tr) (ab : List Int) : (abN t ab).length = lsN t ab.length := by
  unfold abN lsN
  split <;> simp
/-- Behind a list's element: the list's first leaf. -/
theorem back_of {t : Tr} {ab : List Int} {pre post : List (List Int)} (h3 : t.rep = 3) (hp : 0 < lvC t) (hpre : ∀ l ∈ pre, t.id ∉ l) (hpost : ∀ l ∈ post, t.id ∉ l) : XK (pre ++ (lsT ab t ++ post)) (pre.length + lvC t - 1) ((ab.length + 1 : Nat) : Int) = pre.length := by
  have hl := lsT_lv t ab
  have hab : abN t ab = ab ++ [t.id] := by unfold abN; rw [if_pos h3]
  have e0 : pre.length + lvC t - 1 = pre.length + (lvC t - 1) := by omega
  have hj : lvC t - 1 < (lsT ab t).length := by omega
  obtain ⟨x, ex⟩ := lsT_pre t ab (lsT ab t)[lvC t - 1] (List.getElem_mem hj)
  rw [hab, List.append_assoc, List.singleton_append] at ex
  have hgd := at_mid (pre := pre) (post := post) (lvC t - 1) hj
  unfold XK nxtK
  rw [Int.toNat_natCast]
  have hc : cmnK (pre ++ (lsT ab t ++ post)) (pre.length + lvC t - 1) ≤ ab.length := by
    unfold cmnK
    split
    · rename_i hlt
      have hpl : 0 < post.length := by
        simp only [List.length_append] at hlt
        omega
      rw [e0, hgd, show pre.length + (lvC t - 1) + 1 = pre.length + (lsT ab t).length by omega, at_end hpl, ex]
      exact cmnL_off t.id x ab _ (hpost _ (List.getElem_mem hpl))
    · omega
  rw [if_neg (by omega), e0, hgd, ex, Nat.add_sub_cancel]
  have hi : (ab ++ t.id :: x).getD ab.length 0 = t.id := by simp [List.getD]
  rw [hi]
  unfold fstI
  have hlen : pre.length < (pre ++ (lsT ab t ++ post)).length := by simp only [List.length_append]; omega
  rw [List.findIdx_eq hlen]
  have h0 : 0 < (lsT ab t).length := by omega
  refine ⟨?_, fun j hj => ?_⟩
  · have e : (pre ++ (lsT ab t ++ post))[pre.length] = (lsT ab t)[0] := by
      rw [List.getElem_append_right (Nat.le_refl _), List.getElem_append_left (by omega)]
      simp
    obtain ⟨y, ey⟩ := lsT_pre t ab (lsT ab t)[0] (List.getElem_mem h0)
    rw [e, ey, hab]
    simp
  · rw [List.getElem_append_left hj]
    simpa using hpre _ (List.getElem_mem hj)
mutual
theorem gx_T : ∀ (t : Tr) (ab : List Int) (pre post : List (List Int)), (∀ y ∈ ndT t, y.kind = 0 → 0 < y.sub.length) → ((ndT t).map Tr.id).Nodup → (∀ i ∈ (ndT t).map Tr.id, i ∉ ab) → (∀ l ∈ pre, ∀ i ∈ (ndT t).map Tr.id, i ∉ l) → (∀ l ∈ post, ∀ i ∈ (ndT t).map Tr.id, i ∉ l) → GX (XK (pre ++ (lsT ab t ++ post))) pre.length ab.length t
  | .node id nm rep kind sub, ab, pre, post, hs, hn, hab, hpre, hpost => by
    have hme : id ∈ (ndT (.node id nm rep kind sub)).map Tr.id := by rw [ndT, List.map_cons]; exact List.mem_cons_self
    have hin : ∀ i ∈ (ndL sub).map Tr.id, i ∈ (ndT (.node id nm rep kind sub)).map Tr.id := fun i hi => by rw [ndT, List.map_cons]; exact List.mem_cons_of_mem _ hi
    rw [GX_eq]
    refine ⟨fun h3 => back_of h3 (lvC_pos _ hs) (fun l hl => hpre l hl id hme) (fun l hl => hpost l hl id hme), fun hk => ?_⟩
    have e : lsT ab (.node id nm rep kind sub) = lsL (abN (.node id nm rep kind sub) ab) sub := by
      have hk' : kind = 0 := hk
      rw [lsT, if_pos hk']
      rfl
    rw [e, ← abN_len]
    rw [ndT, List.map_cons, List.nodup_cons] at hn
    refine gx_L sub (abN (.node id nm rep kind sub) ab) pre post (fun y hy => hs y (by rw [ndT]; exact List.mem_cons_of_mem _ hy)) hn.2 (fun i hi hm => ?_) (fun l hl i hi => hpre l hl i (hin i hi)) (fun l hl i hi => hpost l hl i (hin i hi))
    unfold abN at hm
    split at hm
    · rcases List.mem_append.1 hm with h | h
      · exact hab i (hin i hi) h
      · rw [List.mem_singleton] at h
        rw [h] at hi
        exact hn.1 hi
    · exact hab i (hin i hi) hm
theorem gx_L : ∀ (ts : List Tr) (ab : List Int) (pre post : List (List Int)), (∀ y ∈ ndL ts, y.kind = 0 → 0 < y.sub.length) → ((ndL ts).map Tr.id).Nodup → (∀ i ∈ (ndL ts).map Tr.id, i ∉ ab) → (∀ l ∈ pre, ∀ i ∈ (ndL ts).map Tr.id, i ∉ l) → (∀ l ∈ post, ∀ i ∈ (ndL ts).map Tr.id, i ∉ l) → GXL (XK (pre ++ (lsL ab ts ++ post))) pre.length ab.length ts
  | [], _, _, _, _, _, _, _, _ => by rw [GXL]; trivial
  | t :: ts, ab, pre, post, hs, hn, hab, hpre, hpost => by
    have hs1 : ∀ y ∈ ndT t, y.kind = 0 → 0 < y.sub.length := fun y hy => hs y (by rw [ndL]; exact List.mem_append_left _ hy)
    have hs2 : ∀ y ∈ ndL ts, y.kind = 0 → 0 < y.sub.length := fun y hy => hs y (by rw [ndL]; exact List.mem_append_right _ hy)
    rw [ndL, List.map_append] at hn hab hpre hpost
    have hnd := List.nodup_append.1 hn
    have e1 : pre ++ (lsL ab (t :: ts) ++ post) = pre ++ (lsT ab t ++ (lsL ab ts ++ post)) := by rw [lsL, List.append_assoc]
    have e2 : pre ++ (lsL ab (t :: ts) ++ post) = (pre ++ lsT ab t) ++ (lsL ab ts ++ post) := by rw [lsL]; simp only [List.append_assoc]
    rw [GXL]
    refine ⟨?_, fun hne h h0 hle => ?_, ?_⟩
    · rw [e1]
      refine gx_T t ab pre (lsL ab ts ++ post) hs1 hnd.1 (fun i hi => hab i (List.mem_append_left _ hi)) (fun l hl i hi => hpre l hl i (List.mem_append_left _ hi)) (fun l hl i hi hm => ?_)
      rcases List.mem_append.1 hl with hl | hl
      · rcases lsL_idm ts ab l hl i hm with h | h
        · exact hab i (List.mem_append_left _ hi) h
        · exact hnd.2.2 i hi i h rfl
      · exact hpost l hl i (List.mem_append_left _ hi) hm
    · have hp := lvC_pos t hs1
      have hp2 := lvCL_pos ts hs2 hne
      have hl := lsT_lv t ab
      have hl2 := lsL_lv ts ab
      have ek : pre.length + lvC t - 1 = pre.length + (lvC t - 1) := by omega
      have hj : lvC t - 1 < (lsT ab t).length := by omega
      rw [e1]
      unfold XK nxtK
      have hc : ab.length ≤ cmnK (pre ++ (lsT ab t ++ (lsL ab ts ++ post))) (pre.length + lvC t - 1) := by
        unfold cmnK
        have hpl : 0 < (lsL ab ts ++ post).length := by rw [List.length_append]; omega
        rw [if_pos (by simp only [List.length_append]; omega), ek, at_mid (lvC t - 1) hj, show pre.length + (lvC t - 1) + 1 = pre.length + (lsT ab t).length by omega, at_end hpl, List.getElem_append_left (by omega)]
        obtain ⟨x, ex⟩ := lsT_pre t ab (lsT ab t)[lvC t - 1] (List.getElem_mem hj)
        obtain ⟨y, ey⟩ := lsL_pre ts ab ((lsL ab ts)[0]'(by omega)) (List.getElem_mem _)
        have hx : ∃ x', (lsT ab t)[lvC t - 1] = ab ++ x' := by
          unfold abN at ex
          split at ex
          · exact ⟨t.id :: x, by rw [ex]; simp⟩
          · exact ⟨x, ex⟩
        obtain ⟨x', ex'⟩ := hx
        rw [ex', ey, cmnL_pre]
        omega
      rw [if_pos (by omega)]
      omega
    · rw [e2]
      have hl := lsT_lv t ab
      have hlen : pre.length + lvC t = (pre ++ lsT ab t).length := by rw [List.length_append, hl]
      rw [hlen]
      refine gx_L ts ab (pre ++ lsT ab t) post hs2 hnd.2.1 (fun i hi => hab i (List.mem_append_right _ hi)) (fun l hl i hi hm => ?_) (fun l hl i hi => hpost l hl i (List.mem_append_right _ hi))
      rcases List.mem_append.1 hl with hl | hl
      · exact hpre l hl i (List.mem_append_right _ hi) hm
      · rcases lsT_idm t ab l hl i hm with h | h
        · exact hab i (List.mem_append_right _ hi) h
        · exact hnd.2.2 i h i hi rfl
end
/-- .. of a right schema. -/
theorem gx_right {t : Tr} (hn : ((ndT t).map Tr.id).Nodup) (hs : ∀ y ∈ ndT t, y.kind = 0 → 0 < y.sub.length) : GX (XK (lsT [] t)) 0 0 t := by
  have h := gx_T t [] [] [] hs hn (fun i _ => by simp) (fun l hl => by simp at hl) (fun l hl => by simp at hl)
  simpa using h
end Go.Proofs.YtbicfjimlpdnkaaGreatDoor

namespace Go.Proofs.YtbicfjimlpdnkaaGreatDoor
open Go.RowKit
theorem sg_eq {E R : List (List Ent)} (h : Sg 0 E R) (hl : R.length = E.length) : R = E := by
  apply List.ext_getElem hl
  intro j h1 h2
  have := h j h2
  rw [Nat.zero_add, List.getElem?_eq_getElem h1] at this
  exact Option.some.inj this
/-- Record by record, the machine of a right schema reads just the entries. -/
theorem rn_recs {t : Tr} (hv : vldN t = 0) (ds : List Dt) (hck : ∀ j (h : j < ds.length), chk true t ds[j] = 0) : ∃ Rm : Nat → List (List Ent), Rm 0 = enL t 0 0 0 ds ∧ Rm ds.length = List.replicate (lvC t) [] ∧ (∀ i, (Rm i).length = lvC t) ∧ (∀ i, i < ds.length → ∀ es ∈ Rm i, ∃ x r, es = x :: r) ∧ ∀ i, i < ds.length → ∃ S, Rn (XK (lsT [] t)) 0 (Rm i) S (lvC t) (Rm (i + 1)) := by
  obtain ⟨_, hr, hsh, _, hid⟩ := right_parts hv
  have hk0 : t.kind = 0 := (of_decide_eq_true hr).2.2.2
  have h1 : t.rep = 1 := (of_decide_eq_true hr).2.2.1
  have hu := right_idU hr hid
  unfold IdU at hu
  have hgr := right_grp hsh
  have hg := gx_right hu (fun y hy => (hgr y hy).2)
  have hlN : lsN t 0 = 0 := by unfold lsN; rw [if_neg (by omega)]
  have hgl := (GX_eq _ _ _ t).1 hg
  rw [hlN] at hgl
  have hpos := lvC_pos t (fun y hy => (hgr y hy).2)
  obtain ⟨Rm, rp, hR0, hRe, hRs, hRl, hRh, hRi⟩ := list_rem t 0 0 0 ds (List.replicate (lvC t) []) hck (by simp)
  have hz : zipA (enL t 0 0 0 ds) (List.replicate (lvC t) []) = enL t 0 0 0 ds := by
    have hl := enL_len ds t 0 0 0 hck
    have hg : ∀ (n : Nat) (c : List (List Ent)), c.length = n → zipA c (List.replicate n []) = c := fun n => by
      induction n with
      | zero => intro c h; rw [List.length_eq_zero_iff.1 h]; rfl
      | succ n ih =>
        intro c h
        cases c with
        | nil => simp at h
        | cons x c =>
          have := ih c (by simpa using h)
          unfold zipA at this ⊢
          rw [List.replicate_succ, List.zipWith_cons_cons, this, List.append_nil]
    exact hg _ _ hl
  rw [hz] at hR0
  refine ⟨Rm, hR0, hRe, hRl, fun i hi es he => ?_, fun i hi => ?_⟩
  · obtain ⟨x, r, e, _⟩ := hRi i hi es he
    exact ⟨x, r, e⟩
  · have hP := (rn_any (XK (lsT [] t)) _ ds[i] (Nat.lt_succ_self _) t 0 0 0 hgr).1 (hck i hi) hgl.2
    have hh : ∀ r ∈ Rm (i + 1), hdR r = 0 := fun r hm => by
      by_cases h : i + 1 < ds.length
      · exact hRh (i + 1) (by omega) h r hm
      · have e : i + 1 = ds.length := by omega
        rw [e, hRe] at hm
        rw [List.eq_of_mem_replicate hm]
        rfl
    have hsg : Sg 0 (zipA (en true t 0 0 (rp i) ds[i]) (Rm (i + 1))) (Rm i) := fun j hj => by
      rw [Nat.zero_add]
      have e := hRs i hi
      rw [e]
      exact List.getElem?_eq_getElem hj
    obtain ⟨S, R', hrn, hs, ho⟩ := hP (rp i) 0 (Rm i) (Rm (i + 1)) (Int.le_refl _) (Int.le_refl _) (hRl (i + 1)) hh hsg
    have e : R' = Rm (i + 1) := sg_eq hs (by rw [ho.1, hRl, hRl])
    have ex : XK (lsT [] t) (0 + lvC t - 1) 0 = lvC t := by
      unfold XK nxtK
      rw [if_pos (by simp)]
      omega
    rw [e, ex] at hrn
    exact ⟨S, hrn⟩
end Go.Proofs.YtbicfjimlpdnkaaGreatDoor

namespace Go.Proofs.YtbicfjimlpdnkaaGreatDoor
open Go.RowKit
/-- The levels of entries, leaf by leaf, lie within the lists around the leaf. -/
def LvlB (E : List (List Ent)) (L : List (List Int)) : Prop := ∀ (j : Nat) (es : List Ent), E[j]? = some es → ∃ l : List Int, L[j]? = some l ∧ ∀ e ∈ es, 0 ≤ e.rep ∧ e.rep ≤ (l.length : Int)
/-- The lists around the leaves below a node, of which the lists down to the node itself are known. -/
def lsI (ab : List Int) (t : Tr) : List (List Int) := if t.kind = 0 then lsL ab t.sub else [ab]
theorem lsT_I (ab : List Int) (t : Tr) : lsT ab t = lsI (abN t ab) t := by
  cases t with
  | node id nm rep kind sub => rw [lsT]; rfl
theorem lsI_len (ab : List Int) (t : Tr) : (lsI ab t).length = lvC t := by
  unfold lsI
  rw [lvC_eq]
  split
  · exact lsL_lv t.sub ab
  · rfl
theorem lsI_ge (ab : List Int) (t : Tr) : ∀ l ∈ lsI ab t, ab.length ≤ l.length := fun l h => by
  unfold lsI at h
  split at h
  · obtain ⟨x, ex⟩ := lsL_pre t.sub ab l h
    rw [ex, List.length_append]
    omega
  · rw [List.mem_singleton] at h
    rw [h]
    exact Nat.le_refl _
theorem lvB_abs (ab : List Int) (t : Tr) (df : Nat) (rep : Int) (h0 : 0 ≤ rep) (h1 : rep ≤ (ab.length : Int)) : LvlB (absE t df rep) (lsI ab t) := fun j es h => by
  unfold absE at h
  rw [List.getElem?_replicate] at h
  split at h
  · rename_i hj
    rw [← lsI_len ab t] at hj
    refine ⟨(lsI ab t)[j], List.getElem?_eq_getElem hj, fun e he => ?_⟩
    have hg := lsI_ge ab t _ (List.getElem_mem hj)
    obtain rfl : [⟨rep, (df : Int), none⟩] = es := by simpa using h
    rw [List.mem_singleton] at he
    subst he
    exact ⟨h0, by show rep ≤ _; omega⟩
  · cases h
theorem lvB_nils (L : List (List Int)) (n : Nat) (h : L.length = n) : LvlB (List.replicate n []) L := fun j es hj => by
  rw [List.getElem?_replicate] at hj
  split at hj
  · rename_i hl
    obtain rfl : [] = es := by simpa using hj
    exact ⟨L[j]'(by omega), List.getElem?_eq_getElem (by omega), fun e he => by simp at he⟩
  · cases hj
theorem lvB_zip {A B : List (List Ent)} {L : List (List Int)} (h1 : LvlB A L) (h2 : LvlB B L) : LvlB (zipA A B) L := fun j es hj => by
  unfold zipA at hj
  rw [List.getElem?_zipWith] at hj
  cases ha : A[j]? with
  | none => rw [ha] at hj; cases hj
  | some a =>
    cases hb : B[j]? with
    | none => rw [ha, hb] at hj; cases hj
    | some b =>
      rw [ha, hb] at hj
      obtain ⟨l, hl, h3⟩ := h1 j a ha
      obtain ⟨l2, hl2, h4⟩ := h2 j b hb
      have e : l = l2 := by rw [hl] at hl2; exact Option.some.inj hl2
      obtain rfl : a ++ b = es := by simpa using hj
      refine ⟨l, hl, fun e1 he => ?_⟩
      rcases List.mem_append.1 he with h | h
      · exact h3 e1 h
      · rw [e]; exact h4 e1 h
theorem lvB_app {A B : List (List Ent)} {L M : List (List Int)} (h1 : LvlB A L) (h2 : LvlB B M) (hl : A.length = L.length) : LvlB (A ++ B) (L ++ M) := fun j es hj => by
  by_cases h : j < A.length
  · rw [List.getElem?_append_left h] at hj
    obtain ⟨l, e, h3⟩ := h1 j es hj
    exact ⟨l, by rw [List.getElem?_append_left (by omega)]; exact e, h3⟩
  · rw [List.getElem?_append_right (by omega)] at hj
    obtain ⟨l, e, h3⟩ := h2 _ es hj
    exact ⟨l, by rw [List.getElem?_append_right (by omega), ← hl]; exact e, h3⟩
theorem lvB_L (ab : List Int) (t : Tr) (df : Nat) : ∀ (ds : List Dt) (rep : Int), 0 ≤ rep → rep ≤ (ab.length : Int) → (∀ j (h : j < ds.length) (rep : Int), 0 ≤ rep → rep ≤ (ab.length : Int) → LvlB (en true t df ab.length rep ds[j]) (lsI ab t)) → LvlB (enL t df ab.length rep ds) (lsI ab t)
  | [], rep, _, _, _ => by
    rw [enL]
    exact lvB_nils _ _ (lsI_len ab t)
  | d :: ds, rep, h0, h1, h => by
    rw [enL]
    exact lvB_zip (h 0 (by simp) rep h0 h1) (lvB_L ab t df ds _ (by omega) (Int.le_refl _) fun j hj => h (j + 1) (by simpa using hj))
theorem lvB_F (ab : List Int) (df : Nat) (rep : Int) : ∀ (ts : List Tr) (ds : List Dt), ds.length = ts.length → (∀ j (h : j < ts.length) (h' : j < ds.length), chk false ts[j] ds[j] = 0 ∧ LvlB (en false ts[j] df ab.length rep ds[j]) (lsT ab ts[j])) → LvlB (enF ts df ab.length rep ds) (lsL ab ts)
  | [], [], _, _ => by rw [enF, lsL]; exact fun j es h => by simp at h
  | [], _ :: _, hl, _ => by simp at hl
  | _ :: _, [], hl, _ => by simp at hl
  | t :: ts, d :: ds, hl, h => by
    rw [enF, lsL]
    obtain ⟨h1, h2⟩ := h 0 (by simp) (by simp)
    simp only [List.getElem_cons_zero] at h1 h2
    exact lvB_app h2 (lvB_F ab df rep ts ds (by simpa using hl) fun j h3 h4 => h (j + 1) (by simpa using h3) (by simpa using h4)) (by rw [en_len d false t df ab.length rep h1, lsT_lv])
/-- A right datum. -/
theorem lvB_any : ∀ (n : Nat) (d : Dt), SizeOf.sizeOf d < n → ∀ (t : Tr) (ab : List Int) (df : Nat) (rep : Int), 0 ≤ rep → rep ≤ (ab.length : Int) → (chk true t d = 0 → LvlB (en true t df ab.length rep d) (lsI ab t)) ∧ (chk false t d = 0 → LvlB (en false t df ab.length rep d) (lsT ab t))
  | 0, d, h => absurd h (Nat.not_lt_zero _)
  | n + 1, d, hsz => fun t ab df rep h0 h1 => by
    have hf := d.f_size
    have hl := d.l_size
    have hA : ∀ (one : Bool) (df : Nat), chk true t d = 0 → LvlB (if t.kind = 0 then enF t.sub df ab.length rep d.f else [[⟨rep, ((df : Nat) : Int), some d.v⟩]]) (lsI ab t) := fun one df hck => by
      by_cases hk : t.kind = 0
      · obtain ⟨_, _, hfl, h4⟩ := chk_grp hk hck
        rw [if_pos hk]
        unfold lsI
        rw [if_pos hk]
        exact lvB_F ab df rep t.sub d.f hfl fun j h2 h3 => ⟨h4 j h2 h3, (lvB_any n d.f[j] (by have := hf j h3; omega) t.sub[j] ab df rep h0 h1).2 (h4 j h2 h3)⟩
      · rw [if_neg hk]
        unfold lsI
        rw [if_neg hk]
        intro j es hj
        match j, hj with
        | 0, hj =>
          obtain rfl : [⟨rep, ((df : Nat) : Int), some d.v⟩] = es := by simpa using hj
          refine ⟨ab, rfl, fun e he => ?_⟩
          rw [List.mem_singleton] at he
          subst he
          exact ⟨h0, h1⟩
        | j + 1, hj => simp at hj
    have hB : ∀ df, chk true t d = 0 → LvlB (en true t df ab.length rep d) (lsI ab t) := fun df hck => by
      rw [en_eq, if_neg (by simp), if_neg (by simp)]
      exact hA true _ hck
    refine ⟨hB df, fun hck => ?_⟩
    by_cases h3 : t.rep = 3
    · have eab : abN t ab = ab ++ [t.id] := by unfold abN; rw [if_pos h3]
      have el : (abN t ab).length = ab.length + 1 := by rw [eab]; simp
      rw [lsT_I, en_eq, if_pos ⟨rfl, h3⟩]
      by_cases hll : d.l.length = 0
      · rw [if_pos hll]
        exact lvB_abs (abN t ab) t df rep h0 (by omega)
      · rw [if_neg hll, ← el]
        have hel := (chk_lst h3 hck).2
        exact lvB_L (abN t ab) t (df + 1) d.l rep h0 (by omega) fun j hj rep' h5 h6 => (lvB_any n d.l[j] (by have := hl j hj; omega) t (abN t ab) (df + 1) rep' h5 h6).1 (hel _ (List.getElem_mem hj))
    · have eab : abN t ab = ab := by unfold abN; rw [if_neg h3]
      rw [lsT_I, eab]
      by_cases hno : d.no = true
      · rw [en_eq, if_neg (by simp [h3]), if_pos ⟨rfl, hno⟩]
        exact lvB_abs ab t df rep h0 h1
      · have hno' : d.no = false := by simpa using hno
        rw [en_eq, if_neg (by simp [h3]), if_neg (by simp [hno'])]
        exact hA false _ (chk_yes h3 hno' hck)
/-- .. of many right records. -/
theorem lvlB_recs {t : Tr} (h1 : t.rep = 1) (ds : List Dt) (hck : ∀ j (h : j < ds.length), chk true t ds[j] = 0) : LvlB (enL t 0 0 0 ds) (lsT [] t) := by
  have eab : abN t [] = [] := by unfold abN; rw [if_neg (by omega)]
  rw [lsT_I, eab]
  exact lvB_L [] t 0 ds 0 (Int.le_refl _) (Int.le_refl _) fun j hj rep h0 h1 => (lvB_any _ ds[j] (Nat.lt_succ_self _) t [] 0 rep h0 h1).1 (hck j hj)
/-- What is left are the ends of what there was. -/
def SfE (E R : List (List Ent)) : Prop := R.length = E.length ∧ ∀ (j : Nat) (es : List Ent), E[j]? = some es → ∃ d r : List Ent, R[j]? = some r ∧ es = d ++ r
theorem SfE.refl (E : List (List Ent)) : SfE E E := ⟨rfl, fun _ es h => ⟨[], es, h, rfl⟩⟩
theorem SfE.set {E R : List (List Ent)} {k : Nat} {x : Ent} {r : List Ent} (h : SfE E R) (hx : R[k]? = some (x :: r)) : SfE E (R.set k r) := by
  obtain ⟨hk, _⟩ := List.getElem?_eq_some_iff.1 hx
  refine ⟨by rw [List.length_set, h.1], fun j es he => ?_⟩
  obtain ⟨d, r1, e1, e2⟩ := h.2 j es he
  by_cases e : j = k
  · subst e
    rw [hx] at e1
    obtain rfl : x :: r = r1 := Option.some.inj e1
    exact ⟨d ++ [x], r, by simp [hk], by rw [e2]; simp⟩
  · exact ⟨d, r1, by rw [List.getElem?_set_ne (fun e3 => e e3.symm)]; exact e1, e2⟩
theorem Rn.sfE {X : Nat → Int → Nat} {E R R' : List (List Ent)} {k k' : Nat} {S : List Nat} (h : Rn X k R S k' R') (hs : SfE E R) : SfE E R' := by
  induction h with
  | done k R => exact hs
  | step k R x r S k' R' hx t ih => exact ih (hs.set hx)
theorem Rn.lt {X : Nat → Int → Nat} {R R' : List (List Ent)} {k k' : Nat} {S : List Nat} (h : Rn X k R S k' R') : ∀ x ∈ S, x < R.length := by
  induction h with
  | done k R => intro x hx; simp at hx
  | step k R x r S k' R' hx t ih =>
    intro y hy
    rcases List.mem_cons.1 hy with rfl | hy
    · exact (List.getElem?_eq_some_iff.1 hx).1
    · have := ih y hy
      rwa [List.length_set] at this
/-- What is read of so many records. -/
def Ttr (Sc : Nat → List Nat) (i : Nat) : List Nat := (List.range i).flatMap Sc
theorem Ttr_succ (Sc : Nat → List Nat) (i : Nat) : Ttr Sc (i + 1) = Ttr Sc i ++ Sc i := by
  unfold Ttr
  rw [List.range_succ, List.flatMap_append]
  simp
theorem Ttr_le (Sc : Nat → List Nat) (i : Nat) : ∀ j, (Ttr Sc i).length ≤ (Ttr Sc (i + j)).length
  | 0 => Nat.le_refl _
  | j + 1 => by
    have := Ttr_le Sc i j
    rw [← Nat.add_assoc, Ttr_succ, List.length_append]
    omega
/-- All that a walk through the records wants. -/
structure WlkR (X : Nat → Int → Nat) (n N : Nat) (E : List (List Ent)) (Rm : Nat → List (List Ent)) (Sc : Nat → List Nat) : Prop where
  first : Rm 0 = E
  last : Rm N = List.replicate n []
  len : ∀ i, (Rm i).length = n
  some_ : ∀ i, i < N → ∀ es ∈ Rm i, ∃ x r, es = x :: r
  go : ∀ i, i < N → Rn X 0 (Rm i) (Sc i) n (Rm (i + 1))
theorem walk_right {t : Tr} (hv : vldN t = 0) (ds : List Dt) (hck : ∀ j (h : j < ds.length), chk true t ds[j] = 0) : ∃ Rm Sc, WlkR (XK (lsT [] t)) (lvC t) ds.length (enL t 0 0 0 ds) Rm Sc := by
  obtain ⟨Rm, h0, h1, h2, h3, h4⟩ := rn_recs hv ds hck
  have hS : ∀ i, ∃ S, i < ds.length → Rn (XK (lsT [] t)) 0 (Rm i) S (lvC t) (Rm (i + 1)) := fun i => by
    by_cases h : i < ds.length
    · obtain ⟨S, hS⟩ := h4 i h
      exact ⟨S, fun _ => hS⟩
    · exact ⟨[], fun h5 => absurd h5 h⟩
  exact ⟨Rm, fun i => Classical.choose (hS i), ⟨h0, h1, h2, h3, fun i hi => Classical.choose_spec (hS i) hi⟩⟩
theorem WlkR.count {X : Nat → Int → Nat} {n N : Nat} {E : List (List Ent)} {Rm : Nat → List (List Ent)} {Sc : Nat → List Nat} (h : WlkR X n N E Rm Sc) (j : Nat) : ∀ i, i ≤ N → (Ttr Sc i).count j + ((Rm i).getD j []).length = (E.getD j []).length
  | 0, _ => by rw [h.first]; simp [Ttr]
  | i + 1, hi => by
    have ih := h.count j i (by omega)
    have := ((h.go i (by omega)).count).2 j
    rw [Ttr_succ, List.count_append]
    omega
theorem WlkR.all {X : Nat → Int → Nat} {n N : Nat} {E : List (List Ent)} {Rm : Nat → List (List Ent)} {Sc : Nat → List Nat} (h : WlkR X n N E Rm Sc) (j : Nat) : (Ttr Sc N).count j = (E.getD j []).length := by
  have := h.count j N (Nat.le_refl _)
  rw [h.last] at this
  have e : ((List.replicate n ([] : List Ent)).getD j []).length = 0 := by
    simp only [List.getD]
    rw [List.getElem?_replicate]
    split <;> rfl
  omega
theorem WlkR.lt {X : Nat → Int → Nat} {n N : Nat} {E : List (List Ent)} {Rm : Nat → List (List Ent)} {Sc : Nat → List Nat} (h : WlkR X n N E Rm Sc) : ∀ i, i ≤ N → ∀ x ∈ Ttr Sc i, x < n
  | 0, _ => fun x hx => by simp [Ttr] at hx
  | i + 1, hi => fun x hx => by
    rw [Ttr_succ] at hx
    rcases List.mem_append.1 hx with h1 | h1
    · exact h.lt i (by omega) x h1
    · have := (h.go i (by omega)).lt x h1
      rwa [h.len i] at this
theorem WlkR.sfE {X : Nat → Int → Nat} {n N : Nat} {E : List (List Ent)} {Rm : Nat → List (List Ent)} {Sc : Nat → List Nat} (h : WlkR X n N E Rm Sc) : ∀ i, i ≤ N → SfE E (Rm i)
  | 0, _ => by rw [h.first]; exact SfE.refl E
  | i + 1, hi => (h.go i (by omega)).sfE (h.sfE i (by omega))
end Go.Proofs.YtbicfjimlpdnkaaGreatDoor

namespace Go.Proofs.YtbicfjimlpdnkaaGreatDoor
open Go.RowKit
theorem Rn.inv {X : Nat → Int → Nat} {k k' : Nat} {R R' : List (List Ent)} {S : List Nat} (h : Rn X k R S k' R') : (S = [] ∧ k = k' ∧ R = R') ∨ (∃ x r S3, S = k :: S3 ∧ R[k]? = some (x :: r) ∧ Rn X (X k (hdR r)) (R.set k r) S3 k' R') := by
  cases h with
  | done => exact .inl ⟨rfl, rfl, rfl⟩
  | step k R x r S k' R' hx t => exact .inr ⟨x, r, S, rfl, hx, t⟩
/-- How many entries of each leaf are read. -/
def rdv (E R : List (List Ent)) : Array Value := ((List.range E.length).map fun j => Value.int .i64 (((E.getD j []).length - (R.getD j []).length : Nat) : Int)).toArray
theorem rdv_size (E R : List (List Ent)) : (rdv E R).size = E.length := by simp [rdv]
theorem rdv_at (E R : List (List Ent)) (j : Nat) (h : j < E.length) : (rdv E R)[j]? = some (.int .i64 (((E.getD j []).length - (R.getD j []).length : Nat) : Int)) := by
  unfold rdv
  rw [List.getElem?_toArray, List.getElem?_map, List.getElem?_range h]
  rfl
theorem rdv_start (E : List (List Ent)) (M : Array Value) (hs : M.size = E.length) (hz : ∀ j, j < E.length → M[j]? = some (.int .i64 0)) : M = rdv E E := by
  apply Array.ext
  · rw [hs, rdv_size]
  · intro j h1 h2
    have h := hz j (by omega)
    have h3 := rdv_at E E j (by omega)
    rw [Array.getElem?_eq_getElem h1] at h
    rw [Array.getElem?_eq_getElem h2] at h3
    rw [Option.some.inj h, Option.some.inj h3, Nat.sub_self]
    rfl
theorem rdv_set {E R : List (List Ent)} {k d : Nat} {x : Ent} {r : List Ent} (hk : k < E.length) (hx : R[k]? = some (x :: r)) (hd : (E.getD k []).length = d + (r.length + 1)) : (rdv E R).setIfInBounds k (.int .i64 ((d : Int) + 1)) = rdv E (R.set k r) := by
  obtain ⟨hkr, _⟩ := List.getElem?_eq_some_iff.1 hx
  apply Array.ext
  · rw [Array.size_setIfInBounds, rdv_size, rdv_size]
  · intro j h1 h2
    rw [rdv_size] at h2
    have h3 := rdv_at E (R.set k r) j h2
    have h4 := rdv_at E R j h2
    rw [Array.getElem?_eq_getElem (by rw [rdv_size]; exact h2)] at h3 h4
    rw [Option.some.inj h3]
    by_cases e : j = k
    · subst e
      have e1 : (R.set j r).getD j [] = r := by simp [List.getD, hkr]
      rw [Array.getElem_setIfInBounds_self, e1]
      congr 1
      omega
    · have e1 : (R.set k r).getD j [] = R.getD j [] := by
        simp only [List.getD]
        rw [List.getElem?_set_ne (fun e2 => e e2.symm)]
      rw [Array.getElem_setIfInBounds_ne (by rw [rdv_size]; exact h2) (fun e2 => e e2.symm), Option.some.inj h4, e1]
/-- What a step reads. -/
structure Stpt (L : List (List Int)) (E R : List (List Ent)) (rs : List Int) (k : Nat) (r : List Ent) (d h : Nat) : Prop where
  lt : k < L.length
  len : (E.getD k []).length = d + (r.length + 1)
  lvl : lvA rs (d + 1) = ((h : Nat) : Int)
  hlt : h < (nxtR L k).length
  nxt : (nxtR L k)[h]? = some (((XK L k (hdR r) : Nat)) : Int)
theorem step_at {L : List (List Int)} {E R : List (List Ent)} {rs : List Int} {k : Nat} {x : Ent} {r : List Ent} (hs : SfE E R) (hx : R[k]? = some (x :: r)) (hLv : LvlB E L) (hE : E.length = L.length) (hr : ∀ es, E[k]? = some es → rs = eR es) : ∃ d h, Stpt L E R rs k r d h := by
  obtain ⟨hkr, _⟩ := List.getElem?_eq_some_iff.1 hx
  have hkE : k < E.length := by rw [← hs.1]; exact hkr
  obtain ⟨d, r1, e1, e2⟩ := hs.2 k E[k] (List.getElem?_eq_getElem hkE)
  rw [hx] at e1
  obtain rfl : x :: r = r1 := Option.some.inj e1
  obtain ⟨l, hl, hb⟩ := hLv k E[k] (List.getElem?_eq_getElem hkE)
  have hkL : k < L.length := by omega
  have eL : L.getD k [] = l := by simp [List.getD, hl]
  have hrs := hr E[k] (List.getElem?_eq_getElem hkE)
  have hlv : lvA rs (d.length + 1) = hdR r := by
    rw [hrs, e2]
    unfold lvA eR
    rw [List.getD, List.getElem?_map, List.getElem?_append_right (by omega), Nat.add_sub_cancel_left, List.getElem?_cons_succ]
    cases r with
    | nil => rfl
    | cons y r => rfl
  have hh : 0 ≤ hdR r ∧ hdR r ≤ (l.length : Int) := by
    cases r with
    | nil => exact ⟨Int.le_refl _, by show (0 : Int) ≤ _; omega⟩
    | cons y r => exact hb y (by rw [e2]; simp)
  have hn : (nxtR L k).length = l.length + 1 := by rw [nxtR_len, eL]
  have hlt : (hdR r).toNat < (nxtR L k).length := by rw [hn]; omega
  refine ⟨d.length, (hdR r).toNat, hkL, ?_, ?_, hlt, ?_⟩
  · have e : E.getD k [] = E[k] := by simp [List.getD, hkE]
    rw [e, e2, List.length_append, List.length_cons]
  · rw [hlv]; omega
  · have h2 : (hdR r).toNat < (L.getD k []).length + 1 := by rw [eL]; omega
    unfold nxtR XK
    rw [List.getElem?_map, List.getElem?_range h2]
    rfl
/-- What the machine's loops hold. -/
structure TrS (g : Nat) (la : Option Addr) (nL lc : Nat) (W : World) (E R : List (List Ent)) (T : List Nat) (v : Value) (wr : World) : Prop where
  box : wr.heap[g]? = some (.cells #[.slice la nL lc] 46 (0, 0))
  read : wr.heap[g + 1]? = some (.cells (rdv E R) 3 (0, 0))
  row : wr.ownsRow (g + 2) 3 1 v T.length (i64s (T.map fun x => ((x : Nat) : Int)))
  old : Below g W wr
theorem TrS.keep {g : Nat} {la : Option Addr} {nL lc : Nat} {W : World} {E R : List (List Ent)} {T : List Nat} {v : Value} {wr wx : World} (h : TrS g la nL lc W E R T v wr) (hb : Below wr.heap.size wr wx) : TrS g la nL lc W E R T v wx :=
  ⟨blk_keep hb h.box, blk_keep hb h.read, ow_kept h.row hb, h.old.trans (hb.mono (by have := lt_of_block h.box; omega))⟩
theorem TrS.at_ {g k d hh : Nat} {la : Option Addr} {nL lc : Nat} {W : World} {L : List (List Int)} {E R : List (List Ent)} {rs : List Int} {T : List Nat} {v : Value} {wr : World} {x : Ent} {r : List Ent} (h : TrS g la nL lc W E R T v wr) (hE : E.length = L.length) (hp : Stpt L E R rs k r d hh) (hx : R[k]? = some (x :: r)) : wr.cell? ⟨g + 1, k, none⟩ = some (.int .i64 (d : Nat)) ∧ wr.frozen? ⟨g + 1, k, none⟩ = false := by
  have e : (E.getD k []).length - (R.getD k []).length = d := by
    have e1 : R.getD k [] = x :: r := by simp [List.getD, hx]
    rw [hp.len, e1, List.length_cons]
    omega
  refine ⟨?_, frozen_of_row _ _ _ _ _ h.read⟩
  rw [cell_of_row _ _ _ _ _ _ h.read, rdv_at E R k (by have := hp.lt; omega), e]
/-- One leaf more is read: the trace grows. -/
theorem TrS.push {g k : Nat} {la : Option Addr} {nL lc : Nat} {W : World} {E R : List (List Ent)} {T : List Nat} {v v2 : Value} {wr w2 : World} {ob : Obj} (h : TrS g la nL lc W E R T v wr) (hown : w2.ownsRow (g + 2) 3 1 v2 (T.length + 1) (i64s (T.map fun x => ((x : Nat) : Int)) ++ [.int .i64 (k : Nat)])) (hg : (wr.alloc ob).grownBy w2 v.ownBlock) : TrS g la nL lc W E R (T ++ [k]) v2 w2 := by
  have hb : Below (g + 2) wr w2 := ((Below.refl (g + 2) wr).alloc (by have := lt_of_block h.read; omega) ob).grown hg (by have := lt_of_block h.read; simp; omega) (fun k hk => (h.row.lt k hk).1)
  refine ⟨(hb.block g (by omega)).trans h.box, (hb.block (g + 1) (by omega)).trans h.read, ?_, h.old.trans (hb.mono (by omega))⟩
  rw [List.length_append, List.map_append, i64s_app]
  exact hown
/-- .. and is counted. -/
theorem TrS.tick {g k d : Nat} {la : Option Addr} {nL lc : Nat} {W : World} {E R : List (List Ent)} {T : List Nat} {v : Value} {wr : World} {x : Ent} {r : List Ent} (h : TrS g la nL lc W E R T v wr) (hk : k < E.length) (hx : R[k]? = some (x :: r)) (hd : (E.getD k []).length = d + (r.length + 1)) : TrS g la nL lc W E (R.set k r) T v (wr.setCell ⟨g + 1, k, none⟩ (.int .i64 ((d : Int) + 1))) := by
  have hne : ∀ j, j ≠ g + 1 → (wr.setCell ⟨g + 1, k, none⟩ (.int .i64 ((d : Int) + 1))).heap[j]? = wr.heap[j]? := fun j hj => Below.heap_setCell _ _ _ _ fun e => hj e
  refine ⟨(hne g (by omega)).trans h.box, ?_, own_same h.row fun j hj => hne j (by have := (own_block h.row hj).1; omega), h.old.setCell (by show g ≤ g + 1; omega) _⟩
  rw [row_setC h.read, rdv_set hk hx hd]
end Go.Proofs.YtbicfjimlpdnkaaGreatDoor
