/-
  What is known of values, as nine cells; boxes of it.
  (stats.Stats).around and kind, walked.
  stats.Of, walked.
  Chunks: where records end, how many entries a page has, and a column in two parts: mathematics, without the program.
  The columns of right records: right for their leaves, as many records; joined, and in parts.
  data.Walk: the values of a leaf of a right record.
  data.Walk of a leaf of a right schema.
-/
import Derived.Test.YtdpedailookcjaaDoorSBVwB
import Derived.Test.YtdpedailookcjaaDoorSLess
import Derived.Test.YtdpedailookcjaaDoorSBColS
import Derived.Test.YtdpedailookcjaaDoorSBLeafOf
namespace Go.Proofs.YtdpedailookcjaaDoor
open Go.RowKit
def Vl.val (v : Vl) : Value := .agg #[.int .i64 v.k, .int .i64 v.n, .string v.s]
def Vl.zero : Vl := ⟨0, 0, ⟨#[]⟩⟩
/-- What is known of values. -/
structure St where
  e : Int
  u : Int
  h : Bool
  mn : Vl
  mx : Vl
def St.cs (s : St) : Array Value := #[.int .i64 s.e, .int .i64 s.u, .bool s.h, .int .i64 s.mn.k, .int .i64 s.mn.n, .string s.mn.s, .int .i64 s.mx.k, .int .i64 s.mx.n, .string s.mx.s]
def St.val (s : St) : Value := .agg s.cs
def St.zero : St := ⟨0, 0, false, Vl.zero, Vl.zero⟩
def Vl.Low (v : Vl) : Prop := -9223372036854775808 ≤ v.n
def St.Low (s : St) : Prop := s.mn.Low ∧ s.mx.Low
def lss (a b : Vl) : Bool := vless a.k a.n a.s b.k b.n b.s
/-- around, as a function. -/
def St.around (s : St) (l g : Vl) : St := ⟨s.e, s.u, true, if !s.h || lss l s.mn then l else s.mn, if !s.h || lss s.mx g then g else s.mx⟩
end Go.Proofs.YtdpedailookcjaaDoor

namespace Go.Proofs.YtdpedailookcjaaDoor
open Go.RowKit
end Go.Proofs.YtdpedailookcjaaDoor

namespace Go.Proofs.YtdpedailookcjaaDoor
open Go.RowKit
def zCl : Cl := ⟨0, none, [], 0, none, [], 0, none, [], 0⟩
/-- What Part of all records answers. -/
def PaR (N : Nat) (lid kind mr md : Int) (c : Cl) (sv kv : Value) (k : Cl) (ev : Value) (w : World) : Prop :=
  ((isLfB kind mr md && fitB lid mr md c.id c.rs c.ds c.vs.length) = false ∧ k = zCl ∧ ev = sv) ∨
  ((isLfB kind mr md && fitB lid mr md c.id c.rs c.ds c.vs.length) = true ∧ (∃ p : Nat, ∃ hp : p < c.vs.length, badV kind c.vs[p] = true ∧ (∀ j (h : j < c.vs.length), j < p → badV kind c.vs[j] = false) ∧ ∃ q, N ≤ q ∧ k = zCl ∧ ev = .iface 70 (.pointer (some ⟨q, 0, none⟩)) ∧ w.cell? ⟨q, 0, none⟩ = some (.int .i64 p) ∧ w.cell? ⟨q, 1, none⟩ = some kv)) ∨
  (GoodC lid kind mr md c ∧ ev = .nilIface ∧ k.At w ∧ k.Fr N ∧ k.rs = c.rs ∧ k.ds = c.ds ∧ k.vs = c.vs)
theorem PaR.off {N : Nat} {lid kind mr md : Int} {c : Cl} {sv kv : Value} {k : Cl} {ev : Value} {w : World} (h : PaR N lid kind mr md c sv kv k ev w) {g j : Nat} {v : Value} (hg : g < N) : PaR N lid kind mr md c sv kv k ev (w.setCell ⟨g, j, none⟩ v) := by
  rcases h with h | ⟨h0, p, hp, h1, h2, q, h3, h4, h5, h6, h7⟩ | ⟨h1, h2, h3, h4, h5⟩
  · exact .inl h
  · exact .inr (.inl ⟨h0, p, hp, h1, h2, q, h3, h4, h5, by rw [cell_off (by omega)]; exact h6, by rw [cell_off (by omega)]; exact h7⟩)
  · exact .inr (.inr ⟨h1, h2, h3.off h4 hg, h4, h5⟩)
theorem PaR.keep {N : Nat} {lid kind mr md : Int} {c : Cl} {sv kv : Value} {k : Cl} {ev : Value} {w w' : World} (h : PaR N lid kind mr md c sv kv k ev w) (hb : Below w.heap.size w w') : PaR N lid kind mr md c sv kv k ev w' := by
  rcases h with h | ⟨h0, p, hp, h1, h2, q, h3, h4, h5, h6, h7⟩ | ⟨h1, h2, h3, h4, h5⟩
  · exact .inl h
  · exact .inr (.inl ⟨h0, p, hp, h1, h2, q, h3, h4, h5, (hb.cell (World.block_lt_of_cell? w _ h6)).trans h6, (hb.cell (World.block_lt_of_cell? w _ h7)).trans h7⟩)
  · exact .inr (.inr ⟨h1, h2, h3.keep hb, h4, h5⟩)
theorem PaR.low {N M : Nat} {lid kind mr md : Int} {c : Cl} {sv kv : Value} {k : Cl} {ev : Value} {w : World} (h : PaR N lid kind mr md c sv kv k ev w) (hm : M ≤ N) : PaR M lid kind mr md c sv kv k ev w := by
  rcases h with h | ⟨h0, p, hp, h1, h2, q, h3, h4⟩ | ⟨h1, h2, h3, h4, h5⟩
  · exact .inl h
  · exact .inr (.inl ⟨h0, p, hp, h1, h2, q, Nat.le_trans hm h3, h4⟩)
  · exact .inr (.inr ⟨h1, h2, h3, h4.low hm, h5⟩)
theorem St.Low.around {s : St} {l g : Vl} (h : s.Low) (hl : l.Low) (hg : g.Low) : (s.around l g).Low := by
  unfold St.around
  refine ⟨?_, ?_⟩
  · show Vl.Low (if _ then l else s.mn)
    split
    · exact hl
    · exact h.1
  · show Vl.Low (if _ then g else s.mx)
    split
    · exact hg
    · exact h.2
end Go.Proofs.YtdpedailookcjaaDoor

namespace Go.Proofs.YtdpedailookcjaaDoor
open Go.RowKit
/-- At this place a record begins, or it is the end. -/
def Zr (rs : List Int) (k : Nat) : Prop := ∀ x, rs[k]? = some x → x = 0
/-- The first entries of a column, with their values, and the rest. -/
def Cl.fst (c : Cl) (md : Int) (n : Nat) : Cl := ⟨c.id, c.ra, c.rs.take n, c.rc, c.da, c.ds.take n, c.dc, c.va, c.vs.take (cntE md (c.ds.take n)), c.vc⟩
def Cl.snd (c : Cl) (md : Int) (n : Nat) : Cl := ⟨c.id, c.ra, c.rs.drop n, c.rc, c.da, c.ds.drop n, c.dc, c.va, c.vs.drop (cntE md (c.ds.take n)), c.vc⟩
theorem headB_iff {rs : List Int} : headB rs = false ↔ Zr rs 0 := by
  cases rs with
  | nil => simp [headB, Zr]
  | cons x xs => simp [headB, Zr]
theorem goodC_two {lid kind mr md : Int} {c : Cl} {n : Nat} (h : GoodC lid kind mr md c) (hz : Zr c.rs n) : GoodC lid kind mr md (c.fst md n) ∧ GoodC lid kind mr md (c.snd md n) ∧ cntE md (c.ds.take n) ≤ c.vs.length := by
  obtain ⟨h1, h2⟩ := h
  rw [Bool.and_eq_true, fitB_iff] at h1
  obtain ⟨hl, hid, hlen, hh, hr, hd, hv⟩ := h1
  have hsp : cntE md c.ds = cntE md (c.ds.take n) + cntE md (c.ds.drop n) := by
    rw [← cntE_app, List.take_append_drop]
  refine ⟨⟨?_, fun j hj => ?_⟩, ⟨?_, fun j hj => ?_⟩, by omega⟩
  · rw [Bool.and_eq_true, fitB_iff]
    refine ⟨hl, hid, ?_, ?_, fun x hx => hr x (List.mem_of_mem_take hx), fun x hx => hd x (List.mem_of_mem_take hx), ?_⟩
    · show (c.rs.take n).length = (c.ds.take n).length
      rw [List.length_take, List.length_take, hlen]
    · rw [headB_iff] at hh ⊢
      intro x hx
      have hx2 : (c.rs.take n)[0]? = some x := hx
      rw [List.getElem?_take] at hx2
      split at hx2
      · exact hh x hx2
      · cases hx2
    · show (c.vs.take _).length = cntE md (c.ds.take n)
      rw [List.length_take]
      omega
  · have hj2 : j < (c.vs.take (cntE md (c.ds.take n))).length := hj
    rw [List.length_take] at hj2
    have e : (c.vs.take (cntE md (c.ds.take n)))[j]'hj = c.vs[j]'(by omega) := List.getElem_take
    exact (congrArg (badV kind) e).trans (h2 j (by omega))
  · rw [Bool.and_eq_true, fitB_iff]
    refine ⟨hl, hid, ?_, ?_, fun x hx => hr x (List.mem_of_mem_drop hx), fun x hx => hd x (List.mem_of_mem_drop hx), ?_⟩
    · show (c.rs.drop n).length = (c.ds.drop n).length
      rw [List.length_drop, List.length_drop, hlen]
    · rw [headB_iff]
      intro x hx
      have hx2 : (c.rs.drop n)[0]? = some x := hx
      rw [List.getElem?_drop, Nat.add_zero] at hx2
      exact hz x hx2
    · show (c.vs.drop _).length = cntE md (c.ds.drop n)
      rw [List.length_drop]
      omega
  · have hj2 : j < (c.vs.drop (cntE md (c.ds.take n))).length := hj
    rw [List.length_drop] at hj2
    have e : (c.vs.drop (cntE md (c.ds.take n)))[j]'hj = c.vs[cntE md (c.ds.take n) + j]'(by omega) := List.getElem_drop
    exact (congrArg (badV kind) e).trans (h2 _ (by omega))
end Go.Proofs.YtdpedailookcjaaDoor

namespace Go.Proofs.YtdpedailookcjaaDoor
open Go.RowKit
theorem GoodC.congr {lid kind mr md : Int} {c k : Cl} (h : GoodC lid kind mr md c) (e0 : k.id = c.id) (e1 : k.rs = c.rs) (e2 : k.ds = c.ds) (e3 : k.vs = c.vs) : GoodC lid kind mr md k := by
  unfold GoodC at h ⊢
  refine ⟨by rw [e0, e1, e2, e3]; exact h.1, fun j hj => ?_⟩
  have hj2 : j < c.vs.length := by rw [← e3]; exact hj
  have := h.2 j hj2
  simp only [e3]
  exact this
/-- Entries of whole records. -/
structure EsOk (md mr : Nat) (kind : Int) (n : Nat) (es : List Ent) : Prop where
  rs : ∀ x ∈ eR es, btw 0 x mr = true
  head : headB (eR es) = false
  zero : cntE 0 (eR es) = n
  ds : ∀ x ∈ eD es, btw 0 x md = true
  many : (eV es).length = cntE md (eD es)
  vs : ∀ v ∈ eV es, badV kind v = false
theorem eD_val {md : Nat} {kind : Int} : ∀ es : List Ent, (∀ e ∈ es, 0 ≤ e.dfn ∧ e.dfn ≤ (md : Int) ∧ (e.v = none → e.dfn ≠ (md : Int)) ∧ ∀ v, e.v = some v → e.dfn = (md : Int) ∧ badV kind v = false) → (eV es).length = cntE md (eD es)
  | [], _ => rfl
  | e :: es, h => by
    have ih := eD_val es fun x hx => h x (List.mem_cons_of_mem _ hx)
    obtain ⟨_, _, h1, h2⟩ := h e List.mem_cons_self
    unfold eV eD cntE at ih ⊢
    rw [List.filterMap_cons, List.map_cons, List.filter_cons]
    cases hv : e.v with
    | none =>
      have := h1 hv
      rw [if_neg (by simpa using this)]
      exact ih
    | some v =>
      have := (h2 v hv).1
      rw [if_pos (by simpa using this)]
      simpa using ih
theorem es_nil (md mr : Nat) (kind : Int) : EsOk md mr kind 0 [] := ⟨by simp [eR], rfl, rfl, by simp [eD], rfl, by simp [eV]⟩
theorem es_cons {md mr : Nat} {kind : Int} {n : Nat} {xs es : List Ent} (h : EnOk md 0 mr kind 0 xs) (he : EsOk md mr kind n es) : EsOk md mr kind (n + 1) (xs ++ es) := by
  obtain ⟨⟨a, tl, ea, er, et⟩, hx⟩ := h
  have hz : cntE 0 (eR tl) = 0 := by
    unfold cntE eR
    rw [List.length_eq_zero_iff, List.filter_eq_nil_iff]
    intro y hy
    obtain ⟨e, he, rfl⟩ := List.mem_map.1 hy
    have := (et e he).1
    simp
    omega
  refine ⟨fun x hm => ?_, ?_, ?_, fun x hm => ?_, ?_, fun v hv => ?_⟩
  · rw [eR, List.map_append, List.mem_append] at hm
    rcases hm with hm | hm
    · obtain ⟨e, hm2, rfl⟩ := List.mem_map.1 hm
      rw [ea] at hm2
      rcases List.mem_cons.1 hm2 with e0 | hm2
      · rw [e0, er]; simp [btw]
      · have := et e hm2; simp [btw]; omega
    · exact he.rs x hm
  · rw [ea]
    simp [eR, headB, er]
  · have e2 : cntE 0 (eR (xs ++ es)) = cntE 0 (eR xs) + cntE 0 (eR es) := by rw [eR, List.map_append]; exact cntE_app 0 _ _
    rw [e2, he.zero, ea]
    have e3 : cntE 0 (eR (a :: tl)) = 1 + cntE 0 (eR tl) := by simp [cntE, eR, er]; omega
    rw [e3, hz]
    omega
  · rw [eD, List.map_append, List.mem_append] at hm
    rcases hm with hm | hm
    · obtain ⟨e, hm2, rfl⟩ := List.mem_map.1 hm
      have := hx e hm2
      simp [btw]
      omega
    · exact he.ds x hm
  · have e1 : eV (xs ++ es) = eV xs ++ eV es := by simp [eV]
    have e2 : cntE md (eD (xs ++ es)) = cntE md (eD xs) + cntE md (eD es) := by rw [eD, List.map_append]; exact cntE_app _ _ _
    rw [e1, e2, List.length_append, he.many, eD_val xs hx]
  · rw [eV, List.filterMap_append, List.mem_append] at hv
    rcases hv with hv | hv
    · obtain ⟨e, hm, e2⟩ := List.mem_filterMap.1 hv
      exact ((hx e hm).2.2.2 v e2).2
    · exact he.vs v hv
theorem ents_ok {t z : Tr} {q : List Tr} (hc : Chn t q) (hz : (t :: q).getLast? = some z) : ∀ (ds : List Dt), (∀ d ∈ ds, chk true t d = 0) → EsOk (lvD q) (lvR q) z.kind ds.length (ents (lvD q) (stq t q 0 0) ds)
  | [], _ => es_nil _ _ _
  | d :: ds, h => by
    have ih := ents_ok hc hz ds fun x hx => h x (List.mem_cons_of_mem _ hx)
    have h1 := dn_ok q t (lvD q) 0 0 z d 0 hc hz (Nat.zero_add _) (h d List.mem_cons_self)
    rw [Nat.zero_add] at h1
    unfold ents at ih ⊢
    rw [List.flatMap_cons, List.length_cons]
    exact es_cons h1 ih
theorem chn_cnt : ∀ (q : List Tr) (t : Tr), Chn t q → q.length < t.cnt
  | [], t, _ => by rw [Tr.cnt_eq, List.length_nil]; omega
  | x :: q, t, h => by
    obtain ⟨_, ⟨i, hi, e, _⟩, hq⟩ := h
    have ih := chn_cnt q x hq
    have hm : ∀ (ts : List Tr) (i : Nat) (h : i < ts.length), ts[i].cnt ≤ cntL ts := fun ts => by
      induction ts with
      | nil => intro i h; simp at h
      | cons y ys ih =>
        intro i h
        rw [cntL]
        cases i with
        | zero => simp
        | succ i => have := ih i (by simpa using h); simp; omega
    have := hm t.sub i hi
    rw [e] at this
    rw [Tr.cnt_eq, List.length_cons]
    omega
theorem lvR_lq (q : List Tr) : lvR q ≤ q.length := List.length_filter_le _ _
theorem lvD_lq (q : List Tr) : lvD q ≤ q.length := List.length_filter_le _ _
theorem chn_last : ∀ (q : List Tr) (t z : Tr), Chn t q → (t :: q).getLast? = some z → z ∈ ndT t ∧ z.kind ≠ 0
  | [], t, z, h, hz => by
    obtain rfl : t = z := by simpa using hz
    exact ⟨by rw [ndT_eq]; exact List.mem_cons_self, h⟩
  | x :: q, t, z, h, hz => by
    obtain ⟨_, ⟨i, hi, e, _⟩, hq⟩ := h
    rw [List.getLast?_cons_cons] at hz
    obtain ⟨h1, h2⟩ := chn_last q x z hq hz
    exact ⟨nd_sub (by rw [← e]; exact List.getElem_mem hi) h1, h2⟩
/-- What is known of a leaf of a right schema. -/
structure LfG (t : Tr) (f : Lf) (q : List Tr) (z : Tr) : Prop where
  w : LfW t f q z
  leaf : isLfB f.kind (f.mr : Nat) (f.md : Nat) = true
  len : q.length ≤ 40
theorem right_leaf {t : Tr} (hv : vldN t = 0) (f : Lf) (hf : f ∈ lvsT t) : ∃ q z, LfG t f q z := by
  obtain ⟨hb, hr, hs, _, hi⟩ := right_parts hv
  have hk0 : t.kind = 0 := (of_decide_eq_true hr).2.2.2
  obtain ⟨q, z, hw⟩ := right_way hr hs hi hk0 f hf
  have hc := (inB_cnt t 0 [] hb).2.1
  have hq := chn_cnt q t hw.way
  have h1 := lvR_lq q
  have h2 := lvD_lq q
  obtain ⟨hz, hzk⟩ := chn_last q t z hw.way hw.last
  have hso : shpOk z = true := by
    rw [shp_all, Bool.and_eq_true] at hs
    rw [ndT_eq] at hz
    rcases List.mem_cons.1 hz with rfl | hz
    · exact hs.1
    · exact List.all_eq_true.1 hs.2 z hz
  unfold shpOk at hso
  simp only [Bool.and_eq_true, decide_eq_true_iff] at hso
  refine ⟨q, z, hw, ?_, by omega⟩
  rw [hw.kind, hw.mr, hw.md]
  simp only [isLfB, btw, Bool.and_eq_true, decide_eq_true_iff]
  omega
/-- A column of right records, wherever it lies, is right for its leaf. -/
theorem col_good {t z : Tr} {f : Lf} {q : List Tr} (hg : LfG t f q z) (ds : List Dt) (hd : ∀ d ∈ ds, chk true t d = 0) (c : Cl) (h0 : c.id = f.id) (h1 : c.rs = eR (ents f.md (stq t q 0 0) ds)) (h2 : c.ds = eD (ents f.md (stq t q 0 0) ds)) (h3 : c.vs = eV (ents f.md (stq t q 0 0) ds)) : GoodC f.id f.kind (f.mr : Nat) (f.md : Nat) c ∧ cntE 0 c.rs = ds.length := by
  have he := ents_ok hg.w.way hg.w.last ds hd
  rw [← hg.w.md, ← hg.w.mr, ← hg.w.kind] at he
  refine ⟨⟨?_, fun j hj => ?_⟩, by rw [h1]; exact he.zero⟩
  · rw [Bool.and_eq_true, fitB_iff]
    refine ⟨hg.leaf, h0, ?_, by rw [h1]; exact he.head, fun x hx => he.rs x (by rw [← h1]; exact hx), fun x hx => he.ds x (by rw [← h2]; exact hx), by rw [h3, h2]; exact he.many⟩
    rw [h1, h2]
    simp [eR, eD]
  · exact he.vs _ (by rw [← h3]; exact List.getElem_mem hj)
theorem st_zr {rs : List Int} {rec : Int} {a : Nat} (h : StAt rs rec a) (h0 : 0 ≤ rec) : Zr rs a := by
  intro x hx
  obtain ⟨h1, h2, h3⟩ := h
  obtain ⟨ha, e⟩ := List.getElem?_eq_some_iff.1 hx
  have h4 := h3 ha
  rw [cntE_succ 0 rs a ha] at h4
  have h5 : (cntE 0 (rs.take a) : Int) ≤ rec := by
    cases a with
    | zero => simpa [cntE] using h0
    | succ a => exact h2 a (by omega)
  rw [← e]
  by_cases hz : rs[a] = 0
  · exact hz
  · rw [if_neg hz] at h4; omega
theorem st_zero {rs : List Int} {a : Nat} (hh : headB rs = false) (h : StAt rs 0 a) : a = 0 := by
  by_cases h0 : a = 0
  · exact h0
  · exfalso
    have h1 := h.2.1 0 (by omega)
    have hl : 0 < rs.length := by have := h.1; omega
    rw [headB_at rs hl] at hh
    have hz : rs[0] = 0 := by simpa using hh
    rw [cntE_succ 0 rs 0 hl, if_pos hz] at h1
    omega
theorem st_end {rs : List Int} {b : Nat} (h : StAt rs (cntE 0 rs : Nat) b) : b = rs.length := by
  by_cases h0 : b < rs.length
  · exfalso
    have h1 := h.2.2 h0
    have := cntE_all 0 rs (b + 1)
    omega
  · have := h.1; omega
/-- The parts of a right column up to a record and from it on: both right; joined they are the whole. -/
theorem parts_whole {lid kind mr md : Int} {c p q : Cl} (h : GoodC lid kind mr md c) {at_ : Int} (h0 : 0 ≤ at_) {a0 a1 a2 b2 : Nat} (s0 : StAt c.rs 0 a0) (s1 : StAt c.rs at_ a1) (s2 : StAt c.rs at_ a2) (s3 : StAt c.rs (cntE 0 c.rs : Nat) b2)
    (p0 : p.id = lid) (p1 : p.rs = cutL c.rs a0 a1) (p2 : p.ds = cutL c.ds a0 a1) (p3 : p.vs = cutL c.vs (cntE md (c.ds.take a0)) (cntE md (c.ds.take a1)))
    (q0 : q.id = lid) (q1 : q.rs = cutL c.rs a2 b2) (q2 : q.ds = cutL c.ds a2 b2) (q3 : q.vs = cutL c.vs (cntE md (c.ds.take a2)) (cntE md (c.ds.take b2))) :
    GoodC lid kind mr md p ∧ GoodC lid kind mr md q ∧ p.rs ++ q.rs = c.rs ∧ p.ds ++ q.ds = c.ds ∧ p.vs ++ q.vs = c.vs := by
  have hf := h.1
  rw [Bool.and_eq_true, fitB_iff] at hf
  obtain ⟨hl, hid, hlen, hh, _, _, hv⟩ := hf
  obtain rfl : a0 = 0 := st_zero hh s0
  obtain rfl : b2 = c.rs.length := st_end s3
  have e12 : a1 = a2 := Nat.le_antisymm (s1.le s2 (Int.le_refl _)) (s2.le s1 (Int.le_refl _))
  subst e12
  obtain ⟨g1, g2, g3⟩ := goodC_two h (st_zr s1 h0)
  have ed : c.ds.take c.rs.length = c.ds := by rw [hlen, List.take_length]
  have ez : cntE md (c.ds.take 0) = 0 := rfl
  have er : ∀ {α : Type} (l : List α) (n : Nat), cutL l 0 n = l.take n := fun l n => by simp [cutL]
  have ef : ∀ {α : Type} (l : List α) (n m : Nat), l.length ≤ m → cutL l n m = l.drop n := fun l n m h => by rw [cutL, List.take_of_length_le h]
  have p1' : p.rs = c.rs.take a1 := by rw [p1, er]
  have p2' : p.ds = c.ds.take a1 := by rw [p2, er]
  have p3' : p.vs = c.vs.take (cntE md (c.ds.take a1)) := by rw [p3, ez, er]
  have q1' : q.rs = c.rs.drop a1 := by rw [q1, ef _ _ _ (Nat.le_refl _)]
  have q2' : q.ds = c.ds.drop a1 := by rw [q2, ef _ _ _ (by omega)]
  have q3' : q.vs = c.vs.drop (cntE md (c.ds.take a1)) := by rw [q3, ed, ← hv, ef _ _ _ (Nat.le_refl _)]
  refine ⟨g1.congr (by rw [p0]; exact hid.symm) p1' p2' p3', g2.congr (by rw [q0]; exact hid.symm) q1' q2' q3', ?_, ?_, ?_⟩
  · rw [p1', q1', List.take_append_drop]
  · rw [p2', q2', List.take_append_drop]
  · rw [p3', q3', List.take_append_drop]
theorem ents_app (md : Nat) (sts : List Stp) (xs ys : List Dt) : ents md sts (xs ++ ys) = ents md sts xs ++ ents md sts ys := by unfold ents; rw [List.flatMap_append]
end Go.Proofs.YtdpedailookcjaaDoor

namespace Go.Proofs.YtdpedailookcjaaDoor
open Go.RowKit
theorem ons_len {t : Tr} {d : Dt} (h : d.Sm) : (ons t d).length ≤ 1048576 := by
  unfold ons
  split
  · exact h.lenL
  · split <;> simp
theorem ons_ok {t : Tr} {d : Dt} (hs : d.Sm) (h : chk false t d = 0) : ∀ o ∈ ons t d, chk true t o = 0 ∧ o.Sm := fun o ho => by
  unfold ons at ho
  by_cases hr : t.rep = 3
  · rw [if_pos hr] at ho
    obtain ⟨j, hj, rfl⟩ := List.getElem_of_mem ho
    exact ⟨(chk_lst hr h).2 _ ho, hs.atL j hj⟩
  · rw [if_neg hr] at ho
    cases hn : d.no with
    | true => rw [if_pos hn] at ho; simp at ho
    | false =>
      rw [if_neg (by rw [hn]; simp)] at ho
      rw [List.mem_singleton] at ho
      subst ho
      exact ⟨chk_yes hr hn h, hs⟩
theorem Dt.Sm.lenF {d : Dt} (h : d.Sm) : d.f.length ≤ 1048576 := by cases h with | mk no v l f hs hl hf el ef => exact hf
theorem Tr.Sm.atS {t : Tr} (h : t.Sm) (j : Nat) (hj : j < t.sub.length) : t.sub[j].Sm := by
  cases h with | mk id nm rep kind sub hi hs hl each => exact each j hj
/-- values along whatever way. -/
theorem dvalues_any : ∀ (q : List Tr) (t : Tr) (d : Dt), Chn t q → t.Sm → d.Sm → chk false t d = 0 → ValP t q d
  | [], t, d, _, _, hds, _ => values_leaf t d (ons_len hds)
  | x :: q, t, d, hc, hts, hds, h => by
    have ho := ons_ok hds h
    refine values_step t x q d (ons_len hds) hts.len hc (fun o hm => ⟨(chk_in hc (ho o hm).1).1, (ho o hm).2.lenF⟩) (fun o hm => ?_)
    obtain ⟨h1, h2, h3⟩ := chk_in hc (ho o hm).1
    obtain ⟨_, ⟨i, hi, e, _⟩, _⟩ := hc
    refine dvalues_any q x _ h3 ?_ ?_ h2
    · rw [← e]; exact hts.atS i hi
    · rw [getD_at h1]; exact (ho o hm).2.atF _ h1
mutual
theorem lvT_ids : ∀ (t : Tr) (p : List Tr), List.Sublist ((lvT p t).map Lf.id) ((ndT t).map Tr.id)
  | .node id nm rep kind sub, p => by
    rw [lvT, ndT, List.map_append, List.map_cons]
    have ih := lvL_ids sub (p ++ [.node id nm rep kind sub])
    by_cases h : kind = 0
    · rw [if_pos h, List.map_nil, List.nil_append]
      exact ih.cons _
    · rw [if_neg h]
      exact ih.cons_cons _
theorem lvL_ids : ∀ (ts : List Tr) (p : List Tr), List.Sublist ((lvL p ts).map Lf.id) ((ndL ts).map Tr.id)
  | [], p => by simp [lvL, ndL]
  | t :: ts, p => by
    rw [lvL, ndL, List.map_append, List.map_append]
    exact (lvT_ids t p).append (lvL_ids ts p)
end
/-- No two leaves of a right schema have one number. -/
theorem lvs_ne {t : Tr} (hv : vldN t = 0) (i j : Nat) (hi : i < (lvsT t).length) (hj : j < (lvsT t).length) (hlt : i < j) : (lvsT t)[i].id ≠ (lvsT t)[j].id := by
  obtain ⟨_, hr, _, _, hid⟩ := right_parts hv
  have hk0 : t.kind = 0 := (of_decide_eq_true hr).2.2.2
  have hu := right_idU hr hid
  unfold IdU at hu
  rw [ndT_eq, List.map_cons, List.nodup_cons] at hu
  have hn : ((lvsT t).map Lf.id).Nodup := by rw [lvs_right t hk0]; exact hu.2.sublist (lvL_ids t.sub [])
  rw [List.nodup_iff_pairwise_ne, List.pairwise_iff_getElem] at hn
  have := hn i j (by simpa using hi) (by simpa using hj) hlt
  simpa using this
set_option maxRecDepth 100000 in
set_option maxHeartbeats 1600000 in
theorem lfEq_any (id : Int) (g : Nat) (y0 y1 y2 y3 : Int) (a : Option Addr) (n c : Nat) (W : World) (hg : W.heap[g]? = some (.cells #[.int .i64 id] 3 (0, 0))) :
    Calls Tryd.prog 31 #[.agg #[.int .i64 y0, .int .i64 y1, .int .i64 y2, .int .i64 y3, .slice a n c], .pointer (some ⟨g, 0, none⟩)] W fun e w' => e = .returned (.bool (y0 == id)) ∧ Below W.heap.size W w' := by
  have HB : Hid (Below W.heap.size W (W.alloc (.cells #[.int .i64 y0, .int .i64 y1, .int .i64 y2, .int .i64 y3, .slice a n c] 45))) := (Below.refl _ _).alloc (Nat.le_refl _) _
  obtain ⟨p0, _⟩ := row_one (blk_alloc (o' := .cells #[.int .i64 y0, .int .i64 y1, .int .i64 y2, .int .i64 y3, .slice a n c] 45) hg)
  clear hg
  go_enter Tryd.func31, Tryd.ntmps31
  go_wp2
  go_ret
  exact ⟨rfl, HB.out⟩
set_option maxRecDepth 100000 in
set_option maxHeartbeats 1600000 in
/-- slices.IndexFunc over leaves: the one with that number. -/
theorem lfIx_at (g : Nat) (ls : List Lf) (hn : ls.length ≤ 1048576) (k : Nat) (hk : k < ls.length) (hne : ∀ j (h : j < ls.length), j < k → ls[j].id ≠ ls[k].id) (M : Nat) (lv : Value) (W : World) (hg : W.heap[g]? = some (.cells #[.int .i64 ls[k].id] 3 (0, 0))) (hl : LvR W M lv ls) :
    Calls Tryd.prog (30) #[lv, .func (.func 31) #[] #[.pointer (some ⟨g, 0, none⟩)]] W fun e w' => e = .returned (.int .i64 (k : Nat)) ∧ Below W.heap.size W w' := by
  have HL : Hid (LvR W M lv ls) := hl
  have HG : Hid _ := hg
  have HNE : Hid _ := hne
  obtain ⟨la, lc, rfl⟩ : ∃ la lc, lv = .slice la ls.length lc := (by obtain ⟨pvs, _, h2, _⟩ := hl; exact own_sl h2)
  clear hl hg hne
  obtain ⟨kid, HKI⟩ := hid_name ls[k].id
  rw [HKI.out] at HG
  go_enter Tryd.func30, Tryd.ntmps30
  go_wp2
  go_loopw [8] (fun x wr => ∃ i : Nat, i ≤ k ∧ x = .int .i64 i ∧ Below W.heap.size W wr) (fun x _ => ls.length - (intOf x).toNat)
  case atStart => exact ⟨0, Nat.zero_le _, rfl, Below.refl _ _⟩
  case round =>
    obtain ⟨i, hi, rfl, hb⟩ := hrel
    have HB : Hid _ := hb
    have hlt : i < ls.length := by omega
    obtain ⟨lb, cap, pa, pc, elv, ⟨g0, g1, g2, g3, g4⟩, _⟩ := (HL.out.stay (w' := wr) fun k cs e hk _ _ => hb.block k (lt_of_block hk)).at_ i hlt
    injection elv with ela _ elc
    subst ela elc
    have HGr : Hid (wr.heap[g]? = some (.cells #[.int .i64 kid] 3 (0, 0))) := blk_keep hb HG.out
    clear hb
    go_wp2_with fail
    refine (lfEq_any kid g _ _ _ _ pa _ pc wr HGr.out).mono ?_
    rintro e w1 ⟨rfl, hb1⟩
    have HB1 : Hid (Below W.heap.size W w1) := HB.out.trans (hb1.mono HB.out.size)
    clear hb1
    by_cases hik : i = k
    · have hq : (ls[i].id == kid) = true := (by subst hik; rw [HKI.out]; simp)
      clear g0 g1 g2 g3 g4
      rw [hq]
      clear hq
      go_wp2
      go_ret
      exact ⟨by subst hik; rfl, HB1.out⟩
    · have hq : (ls[i].id == kid) = false := (by rw [beq_eq_false_iff_ne, ← HKI.out]; exact HNE.out i hlt (by omega))
      clear g0 g1 g2 g3 g4
      rw [hq]
      clear hq
      go_wp2
      go_roundw
      case rel => exact ⟨i + 1, by omega, by go_num, HB1.out⟩
      case measure => simp [intOf]; omega
end Go.Proofs.YtdpedailookcjaaDoor

namespace Go.Proofs.YtdpedailookcjaaDoor
open Go.RowKit
theorem LvR.at3 {W : World} {N : Nat} {lv : Value} {ls : List Lf} (h : LvR W N lv ls) (j : Nat) (hj : j < ls.length) : ∃ lb cap pa pc, lv = .slice (some ⟨lb, 0, none⟩) ls.length cap ∧ (W.cell? ⟨lb, j * 5, none⟩ = some (.int .i64 ls[j].id) ∧ W.cell? ⟨lb, j * 5 + 1, none⟩ = some (.int .i64 ls[j].kind) ∧ W.cell? ⟨lb, j * 5 + 2, none⟩ = some (.int .i64 (ls[j].mr : Nat)) ∧ W.cell? ⟨lb, j * 5 + 3, none⟩ = some (.int .i64 (ls[j].md : Nat)) ∧ W.cell? ⟨lb, j * 5 + 4, none⟩ = some (.slice pa ls[j].path.length pc)) ∧ Lies W pa (i64s ls[j].path) ∧ ls[j].path.length ≤ pc ∧ ∀ p, pa = some p → p.block < W.heap.size := by
  obtain ⟨pvs, h1, h2, h3⟩ := h
  have hjp : j < pvs.length := by omega
  have hz : j < (List.zipWith lfC ls pvs).length := by simp; omega
  have h5 : ∀ x ∈ List.zipWith lfC ls pvs, x.length = 5 := fun x hx => by
    obtain ⟨i, hi, rfl⟩ := List.getElem_of_mem hx
    simp [lfC]
  have hrow := h3 j hj hjp
  rcases h2.2 with ⟨_, h0⟩ | ⟨g, cap, cur, rfl, _⟩
  · omega
  · have hc : ∀ k u, (lfC ls[j] pvs[j])[k]? = some u → k < 5 → W.cell? ⟨g, j * 5 + k, none⟩ = some u := fun k u hu hk => by
      have h6 := h2.cells (g := g) rfl (j * 5 + k) u (by
        rw [flat5 _ h5 j k hk, List.getElem?_eq_getElem hz, List.getElem_zipWith]
        exact hu)
      rw [addr_plus, Nat.zero_add] at h6
      exact h6
    obtain ⟨pa, pc, hpv⟩ := own_sl hrow
    rw [hpv] at hc hrow
    refine ⟨g, cap, pa, pc, rfl, ⟨hc 0 _ rfl (by omega), hc 1 _ rfl (by omega), hc 2 _ rfl (by omega), hc 3 _ rfl (by omega), hc 4 _ rfl (by omega)⟩, fun k hk => ?_, (own_cap hrow).2, fun p hp => ?_⟩
    rotate_left
    · subst hp
      rcases hrow.2 with ⟨h0, _⟩ | ⟨g', cap', cur', hv, _, hgk, _⟩
      · injection h0 with h0; cases h0
      · injection hv with hv _ _
        injection hv with hv
        subst hv
        exact lt_of_block hgk
    rcases hrow.2 with ⟨_, h0⟩ | ⟨g', cap', cur', hv, rest⟩
    · simp [i64s] at hk; omega
    · injection hv with hv _ _
      subst hv
      have h7 := hrow.cells (g := g') rfl k (i64s ls[j].path)[k] (List.getElem?_eq_getElem hk)
      rw [addr_plus, Nat.zero_add] at h7
      exact ⟨g', 0, rfl, by simpa using h7⟩
theorem own_block_none (v : Value) (h : v = .slice none 0 0) (b : Nat) : some b ≠ v.ownBlock := by subst h; simp [Value.ownBlock]
set_option maxRecDepth 100000 in
set_option maxHeartbeats 3200000 in
theorem walk_any (eb es ek en : TypeId × Value) (t : Tr) (n : Nat) (hd : t.Dp n) (hn : n ≤ 1100000) (hs : t.Sm) (hv : vldN t = 0) (d : Dt) (hds : d.Sm) (hck : chk false t d = 0) (k : Nat) (hk : k < (lvsT t).length) (q : List Tr) (z : Tr) (hg : LfG t (lvsT t)[k] q z) (hvo : ((ons t d).flatMap (vo t q)).length ≤ 20000)
    (a : Option Addr) (c : Nat) (hcap : t.sub.length ≤ c) (al : Option Addr) (cl : Nat) (af : Option Addr) (cf : Nat) (P Q : Nat → Prop) (W : World) (he : EC W eb es ek) (hen : W.cell? ⟨4, 0, none⟩ = some (.iface en.1 en.2)) (hl : LiesN W P a t.sub) (hd1 : LiesD W Q al d.l) (hd2 : LiesD W Q af d.f) :
    Calls Tryd.prog 15 #[nodeV t a c, datumV d al cl af cf, .int .i64 (lvsT t)[k].id] W fun e w' => (∃ v, e = .returned (.tuple #[v, .nilIface]) ∧ VsR w' W.heap.size v ((ons t d).flatMap (vo t q))) ∧ Below W.heap.size W w' := by
  obtain ⟨w0, HW0, HX, HY, HZ, HB, _⟩ := three_boxesS W #[.int .i64 t.id, .string t.nm, .int .i64 t.rep, .int .i64 t.kind, .slice a t.sub.length c] #[.bool d.no, .int .i64 d.v.k, .int .i64 d.v.n, .string d.v.s, .slice al d.l.length cl, .slice af d.f.length cf] #[.int .i64 (lvsT t)[k].id] 24 55 3
  have hC0 := checkD_right eb es ek en t d n hd hn hs hds hv P Q a c hcap al cl af cf w0 (he.keep HB.out) ((HB.out.cell (World.block_lt_of_cell? W _ hen)).trans hen) (hl.keep HB.out) (hd1.keep HB.out) (hd2.keep HB.out)
  rw [hck, show erV eb es ek 0 = .nilIface from rfl] at hC0
  have HC : Hid _ := hC0
  have HLv : Hid (∀ X, Below W.heap.size W X → Calls Tryd.prog 22 #[nodeV t a c] X fun e w' => (∃ lv, e = .returned (.tuple #[lv, .nilIface]) ∧ LvR w' X.heap.size lv (lvsT t)) ∧ Below X.heap.size X w') := fun X hX => leaves_right t n hd hn hs a c P X (hl.keep hX) hcap eb es en (he.keep hX).b (he.keep hX).s ((hX.cell (World.block_lt_of_cell? W _ hen)).trans hen) hv
  have HVa : Hid _ := dvalues_any q t d hg.w.way hs hds hck
  have HNe : Hid (∀ j (h : j < (lvsT t).length), j < k → (lvsT t)[j].id ≠ (lvsT t)[k].id) := fun j h hj => lvs_ne hv j k h hk hj
  have hlen : (lvsT t).length ≤ 1000 := by
    obtain ⟨hb, hr, _⟩ := right_parts hv
    have hc := (inB_cnt t 0 [] hb).2.1
    have h := wkT_more stL (fun s : List Lf => s.length) (fun s path t => by unfold stL; split <;> simp) t [] []
    unfold lvsT
    simp at h
    omega
  have HPath : Hid ((lvsT t)[k].path = q.map Tr.id) := hg.w.path
  have HQl : Hid (q.length ≤ 40) := hg.len
  have HVO : Hid (((ons t d).flatMap (vo t q)).length ≤ 20000) := hvo
  have HL : Hid (LiesN W P a t.sub) := hl
  have HD1 : Hid (LiesD W Q al d.l) := hd1
  have HD2 : Hid (LiesD W Q af d.f) := hd2
  obtain ⟨ls, HLS⟩ := hid_name (lvsT t)
  simp only [HLS.out] at HX HY HZ HW0 HLv HNe HPath hk hlen ⊢
  obtain ⟨kid, HKI⟩ := hid_name ls[k].id
  rw [HKI.out] at HZ HW0 ⊢
  obtain ⟨⟨p0, p1, p2, p3, p4⟩, _⟩ := row_five HX.out
  obtain ⟨z0, z1, z2, z3, z4, z5⟩ := row_six HY.out
  clear hd hs hv hds hck hg hvo he hen hl hd1 hd2 hC0
  unfold nodeV datumV at HC
  unfold nodeV at HLv
  unfold nodeV datumV
  go_enter Tryd.func15, Tryd.ntmps15
  go_wp2_with fail
  rw [HW0.out]
  refine Calls.mono HC.out ?_
  rintro e w1 ⟨rfl, hb1⟩
  have HB1 : Hid (Below W.heap.size W w1) := HB.out.trans (hb1.mono HB.out.size)
  have HX1 : Hid _ := blk_keep hb1 HX.out
  have HY1 : Hid _ := blk_keep hb1 HY.out
  have HZ1 : Hid _ := blk_keep hb1 HZ.out
  clear hb1 HC p0 p1 p2 p3 p4 z0 z1 z2 z3 z4 z5
  obtain ⟨⟨p0, p1, p2, p3, p4⟩, _⟩ := row_five HX1.out
  go_wp2_with fail
  refine Calls.mono (HLv.out w1 HB1.out) ?_
  rintro e w2 ⟨⟨lv, rfl, hlv⟩, hb2⟩
  have HB2 : Hid (Below W.heap.size W w2) := HB1.out.trans (hb2.mono HB1.out.size)
  have HX2 : Hid _ := blk_keep hb2 HX1.out
  have HY2 : Hid _ := blk_keep hb2 HY1.out
  have HZ2 : Hid _ := blk_keep hb2 HZ1.out
  have HLR : Hid (LvR w2 w1.heap.size lv ls) := hlv
  have HCi : Hid _ := lfIx_at (W.heap.size + 1 + 1) ls (by omega) k hk HNe.out w1.heap.size lv w2 (by rw [HKI.out]; exact HZ2.out) hlv
  obtain ⟨la, lc, rfl⟩ : ∃ la lc, lv = .slice la ls.length lc := (by obtain ⟨pvs, _, h2, _⟩ := hlv; exact own_sl h2)
  clear hb2 hlv HLv p0 p1 p2 p3 p4
  go_wp2_with fail
  refine Calls.mono HCi.out ?_
  rintro e w3 ⟨rfl, hb3⟩
  have HB3 : Hid (Below W.heap.size W w3) := HB2.out.trans (hb3.mono HB2.out.size)
  have HX3 : Hid _ := blk_keep hb3 HX2.out
  have HY3 : Hid _ := blk_keep hb3 HY2.out
  obtain ⟨lb, cap, pa, pc, elv, ⟨g0, g1, g2, g3, g4⟩, hpl, hpc, hpb⟩ := (HLR.out.stay (w' := w3) fun k cs e hk _ _ => hb3.block k (lt_of_block hk)).at3 k hk
  injection elv with ela _ elc
  subst ela elc
  clear hb3 HCi
  obtain ⟨⟨p0, p1, p2, p3, p4⟩, _⟩ := row_five HX3.out
  obtain ⟨z0, z1, z2, z3, z4, z5⟩ := row_six HY3.out
  have hql : ls[k].path.length = q.length := by rw [HPath.out, List.length_map]
  rw [HPath.out] at hpl
  have ob : ∀ b : Nat, some b ≠ (Value.slice none 0 0).ownBlock := fun b => own_block_none _ rfl b
  have HCv : Hid _ := HVa.out W.heap.size a c al cl af cf pa pc (.slice none 0 0) [] w3.drew (by have := HB3.out.size; simp; omega) (World.ownsRow_nil _ _ _ _) ((HL.out.keep HB3.out.drew).stay (fun b _ _ => ob b) (fun _ _ _ => rfl)) ((HD1.out.keep HB3.out.drew).stay (fun b _ _ => ob b) (fun _ _ _ => rfl)) ((HD2.out.keep HB3.out.drew).stay (fun b _ _ => ob b) (fun _ _ _ => rfl)) ⟨hpl.keep (Below.refl _ _).drew, fun p hp => ⟨hpb p hp, ob _⟩⟩ (by omega) (by simpa using HVO.out)
  have HN : Hid (∀ X, Below w3.heap.size w3 X → (X.cell? ⟨W.heap.size, 0, none⟩ = some (.int .i64 t.id) ∧ X.cell? ⟨W.heap.size, 1, none⟩ = some (.string t.nm) ∧ X.cell? ⟨W.heap.size, 2, none⟩ = some (.int .i64 t.rep) ∧ X.cell? ⟨W.heap.size, 3, none⟩ = some (.int .i64 t.kind) ∧ X.cell? ⟨W.heap.size, 4, none⟩ = some (.slice a t.sub.length c) ∧ X.cell? ⟨W.heap.size + 1, 0, none⟩ = some (.bool d.no) ∧ X.cell? ⟨W.heap.size + 1, 1, none⟩ = some (.int .i64 d.v.k) ∧ X.cell? ⟨W.heap.size + 1, 2, none⟩ = some (.int .i64 d.v.n) ∧ X.cell? ⟨W.heap.size + 1, 3, none⟩ = some (.string d.v.s) ∧ X.cell? ⟨W.heap.size + 1, 4, none⟩ = some (.slice al d.l.length cl) ∧ X.cell? ⟨W.heap.size + 1, 5, none⟩ = some (.slice af d.f.length cf) ∧ X.cell? ⟨lb, k * 5 + 4, none⟩ = some (.slice pa ls[k].path.length pc)) ∧ Below w3.heap.size w3 X) := fun X hX => (by
    have kk : ∀ (ad : Addr) (u : Value), w3.cell? ad = some u → X.cell? ad = some u := fun ad u h => (hX.cell (World.block_lt_of_cell? w3 _ h)).trans h
    exact ⟨⟨kk _ _ p0, kk _ _ p1, kk _ _ p2, kk _ _ p3, kk _ _ p4, kk _ _ z0, kk _ _ z1, kk _ _ z2, kk _ _ z3, kk _ _ z4, kk _ _ z5, kk _ _ g4⟩, hX⟩)
  have b0 : Below w3.heap.size w3 w3 := Below.refl _ _
  rw [hql] at g4 HN
  clear hpl hpc
  go_wp2
  go_region_with (go_at_call 32; refine Calls.mono HCv.out ?_; rintro e w4 ⟨v4, rfl, hr4, hk4⟩)
  all_goals
    have HR4 : Hid (VsR w4 W.heap.size v4 ((ons t d).flatMap (vo t q))) := (by show VsR _ _ _ _; simpa using hr4)
    have HB4 : Hid (Below W.heap.size W w4) := HB3.out.drew.trans (hk4.to_below.mono HB3.out.size)
    clear hr4 hk4
    go_wp2
    go_ret2
    exact ⟨⟨_, rfl, HR4.out⟩, HB4.out⟩
end Go.Proofs.YtdpedailookcjaaDoor
