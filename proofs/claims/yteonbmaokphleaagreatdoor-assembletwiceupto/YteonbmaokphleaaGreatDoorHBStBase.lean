/-
  What is known of values, as nine cells; boxes of it.
  (stats.Stats).around and kind, walked.
  stats.Of, walked.
  The columns of right records: right for their leaves, as many records; joined, and in parts.
  data.values: what a row that is filled keeps; ones as a slice.
  No two leaves of a right schema have one number.
  data.Walk: the values of a leaf of a right record.
  shred.Join, walked.
  What is cut has the same values: the words, without the program.
  The columns of cut records are those of the records: mathematics.
  What assemble's branches agree on: the closures, over the readers.
-/
import Derived.Test.YteonbmaokphleaaGreatDoorHBColS
import Derived.Test.YteonbmaokphleaaGreatDoorHBSameInts
import Derived.Test.YteonbmaokphleaaGreatDoorHBLvM
import Derived.Test.YteonbmaokphleaaGreatDoorHBColDf
import Derived.Test.YteonbmaokphleaaGreatDoorHBIds
import Derived.Test.YteonbmaokphleaaGreatDoorHBOpenVals
import Derived.BigQuiet
import Derived.Test.YteonbmaokphleaaGreatDoorHBColOf
import Derived.Test.YteonbmaokphleaaGreatDoorHBColH
import Derived.Deep.DeepCutAuto
namespace Go.Proofs.YteonbmaokphleaaGreatDoor
open Go.RowKit
def Vl.val (v : Vl) : Value := .agg #[.int .i64 v.k, .int .i64 v.n, .string v.s]
def Vl.zero : Vl := ⟨0, 0, ⟨#[]⟩⟩
structure St where
 e : Int
 u : Int
 h : Bool
 mn : Vl
 mx : Vl
def St.cs (s : St) : Array Value := #[.int .i64 s.e, .int .i64 s.u, .bool s.h, .int .i64 s.mn.k, .int .i64 s.mn.n, .string s.mn.s, .int .i64 s.mx.k, .int .i64 s.mx.n, .string s.mx.s]
def St.val (s : St) : Value := .agg s.cs
def St.zero : St := ⟨0, 0, false, Vl.zero, Vl.zero⟩
def Vl.Low (v : Vl) : Prop := -9223372036854775808 ≤ v.n
def St.Low (s : St) : Prop := s.mn.Low ∧ s.mx.Low
def lss (a b : Vl) : Bool := vless a.k a.n a.s b.k b.n b.s
def St.around (s : St) (l g : Vl) : St := ⟨s.e, s.u, true, if !s.h || lss l s.mn then l else s.mn, if !s.h || lss s.mx g then g else s.mx⟩
def zCl : Cl := ⟨0, none, [], 0, none, [], 0, none, [], 0⟩
def PaR (N : Nat) (lid kind mr md : Int) (c : Cl) (sv kv : Value) (k : Cl) (ev : Value) (w : World) : Prop :=
 ((isLfB kind mr md && fitB lid mr md c.id c.rs c.ds c.vs.length) = false ∧ k = zCl ∧ ev = sv) ∨
 ((isLfB kind mr md && fitB lid mr md c.id c.rs c.ds c.vs.length) = true ∧ (∃ p : Nat, ∃ hp : p < c.vs.length, badV kind c.vs[p] = true ∧ (∀ j (h : j < c.vs.length), j < p → badV kind c.vs[j] = false) ∧ ∃ q, N ≤ q ∧ k = zCl ∧ ev = .iface 68 (.pointer (some ⟨q, 0, none⟩)) ∧ w.cell? ⟨q, 0, none⟩ = some (.int .i64 p) ∧ w.cell? ⟨q, 1, none⟩ = some kv)) ∨
 (GoodC lid kind mr md c ∧ ev = .nilIface ∧ k.At w ∧ k.Fr N ∧ k.rs = c.rs ∧ k.ds = c.ds ∧ k.vs = c.vs)
theorem PaR.off {N : Nat} {lid kind mr md : Int} {c : Cl} {sv kv : Value} {k : Cl} {ev : Value} {w : World} (h : PaR N lid kind mr md c sv kv k ev w) {g j : Nat} {v : Value} (hg : g < N) : PaR N lid kind mr md c sv kv k ev (w.setCell ⟨g, j, none⟩ v) := by
 rcases h with h | ⟨h0, p, hp, h1, h2, q, h3, h4, h5, h6, h7⟩ | ⟨h1, h2, h3, h4, h5⟩
 · exact .inl h
 · exact .inr (.inl ⟨h0, p, hp, h1, h2, q, h3, h4, h5, by rw [cell_off (by omega)]; exact h6, by rw [cell_off (by omega)]; exact h7⟩)
 · exact .inr (.inr ⟨h1, h2, h3.off h4 hg, h4, h5⟩)
theorem PaR.keep {N : Nat} {lid kind mr md : Int} {c : Cl} {sv kv : Value} {k : Cl} {ev : Value} {w w' : World} (h : PaR N lid kind mr md c sv kv k ev w) (hb : Below w.heap.size w w') : PaR N lid kind mr md c sv kv k ev w' := by
 rcases h with h | ⟨h0, p, hp, h1, h2, q, h3, h4, h5, h6, h7⟩ | ⟨h1, h2, h3, h4, h5⟩
 · exact .inl h
 · exact .inr (.inl ⟨h0, p, hp, h1, h2, q, h3, h4, h5, (hb.cell (World.block_lt_of_cell? w _ h6)).trans h6, (hb.cell (World.block_lt_of_cell? w _ h7)).trans h7⟩)
 · exact .inr (.inr ⟨h1, h2, h3.keep hb, h4, h5⟩)
theorem PaR.low {N M : Nat} {lid kind mr md : Int} {c : Cl} {sv kv : Value} {k : Cl} {ev : Value} {w : World} (h : PaR N lid kind mr md c sv kv k ev w) (hm : M ≤ N) : PaR M lid kind mr md c sv kv k ev w := by
 rcases h with h | ⟨h0, p, hp, h1, h2, q, h3, h4⟩ | ⟨h1, h2, h3, h4, h5⟩
 · exact .inl h
 · exact .inr (.inl ⟨h0, p, hp, h1, h2, q, Nat.le_trans hm h3, h4⟩)
 · exact .inr (.inr ⟨h1, h2, h3, h4.low hm, h5⟩)
theorem St.Low.around {s : St} {l g : Vl} (h : s.Low) (hl : l.Low) (hg : g.Low) : (s.around l g).Low := by
 unfold St.around
 refine ⟨?_, ?_⟩
 · show Vl.Low (if _ then l else s.mn)
   split
   · exact hl
   · exact h.1
 · show Vl.Low (if _ then g else s.mx)
   split
   · exact hg
   · exact h.2
theorem GoodC.congr {lid kind mr md : Int} {c k : Cl} (h : GoodC lid kind mr md c) (e0 : k.id = c.id) (e1 : k.rs = c.rs) (e2 : k.ds = c.ds) (e3 : k.vs = c.vs) : GoodC lid kind mr md k := by
 unfold GoodC at h ⊢
 refine ⟨by rw [e0, e1, e2, e3]; exact h.1, fun j hj => ?_⟩
 have hj2 : j < c.vs.length := by rw [← e3]; exact hj
 have := h.2 j hj2
 simp only [e3]
 exact this
structure EsOk (md mr : Nat) (kind : Int) (n : Nat) (es : List Ent) : Prop where
 rs : ∀ x ∈ eR es, btw 0 x mr = true
 head : headB (eR es) = false
 zero : cntE 0 (eR es) = n
 ds : ∀ x ∈ eD es, btw 0 x md = true
 many : (eV es).length = cntE md (eD es)
 vs : ∀ v ∈ eV es, badV kind v = false
theorem eD_val {md : Nat} {kind : Int} : ∀ es : List Ent, (∀ e ∈ es, 0 ≤ e.dfn ∧ e.dfn ≤ (md : Int) ∧ (e.v = none → e.dfn ≠ (md : Int)) ∧ ∀ v, e.v = some v → e.dfn = (md : Int) ∧ badV kind v = false) → (eV es).length = cntE md (eD es)
 | [], _ => rfl
 | e :: es, h => by
  have ih := eD_val es fun x hx => h x (List.mem_cons_of_mem _ hx)
  obtain ⟨_, _, h1, h2⟩ := h e List.mem_cons_self
  unfold eV eD cntE at ih ⊢
  rw [List.filterMap_cons, List.map_cons, List.filter_cons]
  cases hv : e.v with
  | none =>
   have := h1 hv
   rw [if_neg (by simpa using this)]
   exact ih
  | some v =>
   have := (h2 v hv).1
   rw [if_pos (by simpa using this)]
   simpa using ih
theorem es_nil (md mr : Nat) (kind : Int) : EsOk md mr kind 0 [] := ⟨by simp [eR], rfl, rfl, by simp [eD], rfl, by simp [eV]⟩
theorem es_cons {md mr : Nat} {kind : Int} {n : Nat} {xs es : List Ent} (h : EnOk md 0 mr kind 0 xs) (he : EsOk md mr kind n es) : EsOk md mr kind (n + 1) (xs ++ es) := by
 obtain ⟨⟨a, tl, ea, er, et⟩, hx⟩ := h
 have hz : cntE 0 (eR tl) = 0 := by
  unfold cntE eR
  rw [List.length_eq_zero_iff, List.filter_eq_nil_iff]
  intro y hy
  obtain ⟨e, he, rfl⟩ := List.mem_map.1 hy
  have := (et e he).1
  simp
  omega
 refine ⟨fun x hm => ?_, ?_, ?_, fun x hm => ?_, ?_, fun v hv => ?_⟩
 · rw [eR, List.map_append, List.mem_append] at hm
   rcases hm with hm | hm
   · obtain ⟨e, hm2, rfl⟩ := List.mem_map.1 hm
     rw [ea] at hm2
     rcases List.mem_cons.1 hm2 with e0 | hm2
     · rw [e0, er]; simp [btw]
     · have := et e hm2; simp [btw]; omega
   · exact he.rs x hm
 · rw [ea]
   simp [eR, headB, er]
 · have e2 : cntE 0 (eR (xs ++ es)) = cntE 0 (eR xs) + cntE 0 (eR es) := by rw [eR, List.map_append]; exact cntE_app 0 _ _
   rw [e2, he.zero, ea]
   have e3 : cntE 0 (eR (a :: tl)) = 1 + cntE 0 (eR tl) := by simp [cntE, eR, er]; omega
   rw [e3, hz]
   omega
 · rw [eD, List.map_append, List.mem_append] at hm
   rcases hm with hm | hm
   · obtain ⟨e, hm2, rfl⟩ := List.mem_map.1 hm
     have := hx e hm2
     simp [btw]
     omega
   · exact he.ds x hm
 · have e1 : eV (xs ++ es) = eV xs ++ eV es := by simp [eV]
   have e2 : cntE md (eD (xs ++ es)) = cntE md (eD xs) + cntE md (eD es) := by rw [eD, List.map_append]; exact cntE_app _ _ _
   rw [e1, e2, List.length_append, he.many, eD_val xs hx]
 · rw [eV, List.filterMap_append, List.mem_append] at hv
   rcases hv with hv | hv
   · obtain ⟨e, hm, e2⟩ := List.mem_filterMap.1 hv
     exact ((hx e hm).2.2.2 v e2).2
   · exact he.vs v hv
theorem ents_ok {t z : Tr} {q : List Tr} (hc : Chn t q) (hz : (t :: q).getLast? = some z) : ∀ (ds : List Dt), (∀ d ∈ ds, chk true t d = 0) → EsOk (lvD q) (lvR q) z.kind ds.length (ents (lvD q) (stq t q 0 0) ds)
 | [], _ => es_nil _ _ _
 | d :: ds, h => by
  have ih := ents_ok hc hz ds fun x hx => h x (List.mem_cons_of_mem _ hx)
  have h1 := dn_ok q t (lvD q) 0 0 z d 0 hc hz (Nat.zero_add _) (h d List.mem_cons_self)
  rw [Nat.zero_add] at h1
  unfold ents at ih ⊢
  rw [List.flatMap_cons, List.length_cons]
  exact es_cons h1 ih
theorem chn_cnt : ∀ (q : List Tr) (t : Tr), Chn t q → q.length < t.cnt
 | [], t, _ => by rw [Tr.cnt_eq, List.length_nil]; omega
 | x :: q, t, h => by
  obtain ⟨_, ⟨i, hi, e, _⟩, hq⟩ := h
  have ih := chn_cnt q x hq
  have hm : ∀ (ts : List Tr) (i : Nat) (h : i < ts.length), ts[i].cnt ≤ cntL ts := fun ts => by
   induction ts with
   | nil => intro i h; simp at h
   | cons y ys ih =>
    intro i h
    rw [cntL]
    cases i with
    | zero => simp
    | succ i => have := ih i (by simpa using h); simp; omega
  have := hm t.sub i hi
  rw [e] at this
  rw [Tr.cnt_eq, List.length_cons]
  omega
theorem lvR_lq (q : List Tr) : lvR q ≤ q.length := List.length_filter_le _ _
theorem lvD_lq (q : List Tr) : lvD q ≤ q.length := List.length_filter_le _ _
theorem chn_last : ∀ (q : List Tr) (t z : Tr), Chn t q → (t :: q).getLast? = some z → z ∈ ndT t ∧ z.kind ≠ 0
 | [], t, z, h, hz => by
  obtain rfl : t = z := by simpa using hz
  exact ⟨by rw [ndT_eq]; exact List.mem_cons_self, h⟩
 | x :: q, t, z, h, hz => by
  obtain ⟨_, ⟨i, hi, e, _⟩, hq⟩ := h
  rw [List.getLast?_cons_cons] at hz
  obtain ⟨h1, h2⟩ := chn_last q x z hq hz
  exact ⟨nd_sub (by rw [← e]; exact List.getElem_mem hi) h1, h2⟩
structure LfG (t : Tr) (f : Lf) (q : List Tr) (z : Tr) : Prop where
 w : LfW t f q z
 leaf : isLfB f.kind (f.mr : Nat) (f.md : Nat) = true
 len : q.length ≤ 40
theorem right_leaf {t : Tr} (hv : vldN t = 0) (f : Lf) (hf : f ∈ lvsT t) : ∃ q z, LfG t f q z := by
 obtain ⟨hb, hr, hs, _, hi⟩ := right_parts hv
 have hk0 : t.kind = 0 := (of_decide_eq_true hr).2.2.2
 obtain ⟨q, z, hw⟩ := right_way hr hs hi hk0 f hf
 have hc := (inB_cnt t 0 [] hb).2.1
 have hq := chn_cnt q t hw.way
 have h1 := lvR_lq q
 have h2 := lvD_lq q
 obtain ⟨hz, hzk⟩ := chn_last q t z hw.way hw.last
 have hso : shpOk z = true := by
  rw [shp_all, Bool.and_eq_true] at hs
  rw [ndT_eq] at hz
  rcases List.mem_cons.1 hz with rfl | hz
  · exact hs.1
  · exact List.all_eq_true.1 hs.2 z hz
 unfold shpOk at hso
 simp only [Bool.and_eq_true, decide_eq_true_iff] at hso
 refine ⟨q, z, hw, ?_, by omega⟩
 rw [hw.kind, hw.mr, hw.md]
 simp only [isLfB, btw, Bool.and_eq_true, decide_eq_true_iff]
 omega
theorem col_good {t z : Tr} {f : Lf} {q : List Tr} (hg : LfG t f q z) (ds : List Dt) (hd : ∀ d ∈ ds, chk true t d = 0) (c : Cl) (h0 : c.id = f.id) (h1 : c.rs = eR (ents f.md (stq t q 0 0) ds)) (h2 : c.ds = eD (ents f.md (stq t q 0 0) ds)) (h3 : c.vs = eV (ents f.md (stq t q 0 0) ds)) : GoodC f.id f.kind (f.mr : Nat) (f.md : Nat) c ∧ cntE 0 c.rs = ds.length := by
 have he := ents_ok hg.w.way hg.w.last ds hd
 rw [← hg.w.md, ← hg.w.mr, ← hg.w.kind] at he
 refine ⟨⟨?_, fun j hj => ?_⟩, by rw [h1]; exact he.zero⟩
 · rw [Bool.and_eq_true, fitB_iff]
   refine ⟨hg.leaf, h0, ?_, by rw [h1]; exact he.head, fun x hx => he.rs x (by rw [← h1]; exact hx), fun x hx => he.ds x (by rw [← h2]; exact hx), by rw [h3, h2]; exact he.many⟩
   rw [h1, h2]
   simp [eR, eD]
 · exact he.vs _ (by rw [← h3]; exact List.getElem_mem hj)
structure VsK (W : World) (v : Value) (w' : World) (v' : Value) : Prop where
 rest : Below 0 W w'
 size : W.heap.size ≤ w'.heap.size
 keep : ∀ k, k < W.heap.size → some k ≠ v.ownBlock → w'.heap[k]? = W.heap[k]?
 own : v'.ownBlock = v.ownBlock ∨ ∃ k, v'.ownBlock = some k ∧ W.heap.size ≤ k
theorem lt_of_block_any {w : World} {k : Nat} {o : Obj} (h : w.heap[k]? = some o) : k < w.heap.size := (Array.getElem?_eq_some_iff.1 h).1
theorem VsK.refl (W : World) (v : Value) : VsK W v W v := ⟨Below.refl _ _, Nat.le_refl _, fun _ _ _ => rfl, .inl rfl⟩
theorem VsK.ne {W w' : World} {v v' : Value} (h : VsK W v w' v') {k : Nat} (hk : k < W.heap.size) (hn : some k ≠ v.ownBlock) : some k ≠ v'.ownBlock := by
 rcases h.own with e | ⟨m, e, hm⟩
 · rw [e]; exact hn
 · rw [e]; intro e2; injection e2 with e2; omega
theorem VsK.trans {W w1 w2 : World} {v v1 v2 : Value} (h : VsK W v w1 v1) (h' : VsK w1 v1 w2 v2) : VsK W v w2 v2 := by
 refine ⟨h.rest.trans h'.rest, Nat.le_trans h.size h'.size, fun k hk hn => (h'.keep k (Nat.lt_of_lt_of_le hk h.size) (h.ne hk hn)).trans (h.keep k hk hn), ?_⟩
 rcases h'.own with e | ⟨m, e, hm⟩
 · rcases h.own with e2 | ⟨m, e2, hm⟩
   · exact .inl (e.trans e2)
   · exact .inr ⟨m, e.trans e2, hm⟩
 · exact .inr ⟨m, e, Nat.le_trans h.size hm⟩
theorem VsK.below {W w' : World} (v : Value) (h : Below W.heap.size W w') : VsK W v w' v := ⟨h.mono (Nat.zero_le _), h.size, fun k hk _ => h.block k hk, .inl rfl⟩
theorem VsK.blk {W w' : World} {v v' : Value} (h : VsK W v w' v') {k : Nat} {o : Obj} (hk : W.heap[k]? = some o) (hn : some k ≠ v.ownBlock) : w'.heap[k]? = some o := (h.keep k (lt_of_block_any hk) hn).trans hk
theorem VsK.data {W w' : World} {v v' : Value} (h : VsK W v w' v') {a : Option Addr} {ts : List Dt} (hl : LiesD W (fun b => some b ≠ v.ownBlock) a ts) : LiesD w' (fun b => some b ≠ v'.ownBlock) a ts := hl.stay (fun b hb hlt => h.ne (k := b) hlt hb) (fun b hb hlt => h.keep b hlt hb)
def LiesO (w : World) (v : Value) (a : Option Addr) (cs : List Value) : Prop := Lies w a cs ∧ ∀ p, a = some p → p.block < w.heap.size ∧ some p.block ≠ v.ownBlock
theorem VsK.ints {W w' : World} {v v' : Value} (h : VsK W v w' v') {a : Option Addr} {cs : List Value} (hl : LiesO W v a cs) : LiesO w' v' a cs := by
 refine ⟨fun j hj => ?_, fun p hp => ?_⟩
 · obtain ⟨b, o, e, hc⟩ := hl.1 j hj
   refine ⟨b, o, e, cell_stay hc (h.keep b (World.block_lt_of_cell? W _ hc) ?_)⟩
   exact (hl.2 _ e).2
 · obtain ⟨h1, h2⟩ := hl.2 p hp
   exact ⟨Nat.lt_of_lt_of_le h1 h.size, h.ne h1 h2⟩
mutual
theorem lvT_ids : ∀ (t : Tr) (p : List Tr), List.Sublist ((lvT p t).map Lf.id) ((ndT t).map Tr.id)
 | .node id nm rep kind sub, p => by
  rw [lvT, ndT, List.map_append, List.map_cons]
  have ih := lvL_ids sub (p ++ [.node id nm rep kind sub])
  by_cases h : kind = 0
  · rw [if_pos h, List.map_nil, List.nil_append]
    exact ih.cons _
  · rw [if_neg h]
    exact ih.cons_cons _
theorem lvL_ids : ∀ (ts : List Tr) (p : List Tr), List.Sublist ((lvL p ts).map Lf.id) ((ndL ts).map Tr.id)
 | [], p => by simp [lvL, ndL]
 | t :: ts, p => by
  rw [lvL, ndL, List.map_append, List.map_append]
  exact (lvT_ids t p).append (lvL_ids ts p)
end
theorem lvs_ne {t : Tr} (hv : vldN t = 0) (i j : Nat) (hi : i < (lvsT t).length) (hj : j < (lvsT t).length) (hlt : i < j) : (lvsT t)[i].id ≠ (lvsT t)[j].id := by
 obtain ⟨_, hr, _, _, hid⟩ := right_parts hv
 have hk0 : t.kind = 0 := (of_decide_eq_true hr).2.2.2
 have hu := right_idU hr hid
 unfold IdU at hu
 rw [ndT_eq, List.map_cons, List.nodup_cons] at hu
 have hn : ((lvsT t).map Lf.id).Nodup := by rw [lvs_right t hk0]; exact hu.2.sublist (lvL_ids t.sub [])
 rw [List.nodup_iff_pairwise_ne, List.pairwise_iff_getElem] at hn
 have := hn i j (by simpa using hi) (by simpa using hj) hlt
 simpa using this
theorem Tr.Sm.atS {t : Tr} (h : t.Sm) (j : Nat) (hj : j < t.sub.length) : t.sub[j].Sm := by
 cases h with | mk id nm rep kind sub hi hs hl each => exact each j hj
structure JbI (W : World) (lid kind mr md : Int) (pa : Option Addr) (pn pc : Nat) (X : World) : Prop where
 lf : X.heap[W.heap.size]? = some (.cells #[.int .i64 lid, .int .i64 kind, .int .i64 mr, .int .i64 md, .slice pa pn pc] 72 (0, 0))
 re : X.heap[W.heap.size + 1]? = some (.cells #[.int .i64 0, .slice none 0 0, .slice none 0 0, .slice none 0 0] 50 (0, 0))
 old : Below W.heap.size W X
theorem JbI.keep {W : World} {lid kind mr md : Int} {pa : Option Addr} {pn pc : Nat} {X w' : World} (h : JbI W lid kind mr md pa pn pc X) (hb : Below X.heap.size X w') : JbI W lid kind mr md pa pn pc w' :=
 ⟨blk_keep hb h.lf, blk_keep hb h.re, h.old.trans (hb.mono h.old.size)⟩
theorem kept_of {L : List Int} {t : Tr} (h : rkL L t.sub ≠ []) : kept L t = true := by
 rw [rkL_filter] at h
 cases hf : t.sub.filter (kept L) with
 | nil => rw [hf] at h; exact absurd rfl h
 | cons c cs =>
  have hc : c ∈ t.sub.filter (kept L) := by rw [hf]; simp
  obtain ⟨h1, h2⟩ := List.mem_filter.1 hc
  exact kept_in (nd_sub h1 (nd_self c)) h2
theorem sm_mk {no : Bool} {v : Vl} {l f : List Dt} (hv : v.s.size ≤ 1048576) (hl : l.length ≤ 1048576) (hf : f.length ≤ 1048576) (el : ∀ x ∈ l, x.Sm) (ef : ∀ x ∈ f, x.Sm) : (Dt.mk no v l f).Sm := .mk no v l f hv hl hf (fun _ h => el _ (List.getElem_mem h)) (fun _ h => ef _ (List.getElem_mem h))
theorem Dt.Sm.vs {d : Dt} (h : d.Sm) : d.v.s.size ≤ 1048576 := by cases h with | mk no v l f hs hl hf el ef => exact hs
theorem dt_default_sm : (default : Dt).Sm := sm_mk (by decide) (by simp) (by simp) (by simp) (by simp)
theorem getD_sm {ds : List Dt} {i : Nat} (h : ∀ x ∈ ds, x.Sm) : (ds.getD i default).Sm := by
 by_cases hi : i < ds.length
 · rw [getD_at' hi]; exact h _ (List.getElem_mem hi)
 · rw [show ds.getD i default = default by simp [List.getD, List.getElem?_eq_none (Nat.le_of_not_lt hi)]]
   exact dt_default_sm
mutual
theorem cutT_sm : ∀ (p t : Tr) (d : Dt), p.Sm → d.Sm → (cutT p t d).Sm
 | .node id nm rep kind sub, t, d, hp, hd => by
  have hlen : sub.length ≤ 1048576 := hp.len
  have hsub : ∀ x ∈ sub, x.Sm := fun x hx => by
   obtain ⟨j, hj, rfl⟩ := List.getElem_of_mem hx
   exact hp.atS j hj
  have one : ∀ o : Dt, o.Sm → (Dt.mk false o.v [] (cutF sub t o)).Sm := fun o ho => sm_mk ho.vs (by simp) (by rw [cutF_len]; exact hlen) (by simp) (cutF_sm sub t o hsub ho)
  rw [cutT]
  split
  · refine sm_mk (by decide) (by rw [List.length_map]; exact hd.lenL) (by simp) (fun x hx => ?_) (by simp)
    obtain ⟨o, ho, rfl⟩ := List.mem_map.1 hx
    obtain ⟨j, hj, rfl⟩ := List.getElem_of_mem ho
    exact one _ (hd.atL j hj)
  · split
    · exact sm_mk (by decide) (by simp) (by simp) (by simp) (by simp)
    · exact one d hd
theorem cutF_sm : ∀ (xs : List Tr) (t : Tr) (d : Dt), (∀ x ∈ xs, x.Sm) → d.Sm → ∀ y ∈ cutF xs t d, y.Sm
 | [], t, d, _, _, y, hy => by simp [cutF] at hy
 | x :: xs, t, d, hx, hd, y, hy => by
  rw [cutF] at hy
  rcases List.mem_cons.1 hy with rfl | hy
  · refine cutT_sm x _ _ (hx x (by simp)) (getD_sm (fun z hz => ?_))
    obtain ⟨j, hj, rfl⟩ := List.getElem_of_mem hz
    exact hd.atF j hj
  · exact cutF_sm xs t d (fun z hz => hx z (by simp [hz])) hd y hy
end
theorem lv_cut {L : List Int} {t : Tr} (hv : vldN t = 0) {f : Lf} (hf : f ∈ lvsT (rkT L t)) : f ∈ lvsT t := by
 obtain ⟨_, hr, hs, _, _⟩ := right_parts hv
 have hk0 : t.kind = 0 := (of_decide_eq_true hr).2.2.2
 have hk1 : (rkT L t).kind = 0 := by rw [(rkT_id L t).2.2.2.1]; exact hk0
 rw [lvs_right _ hk1, rk_leaves L t (right_lfOk hs)] at hf
 rw [lvs_right t hk0]
 exact (List.mem_filter.1 hf).1
theorem dn_cut (L : List Int) (md : Nat) : ∀ (q q' : List Tr) (t : Tr) (o : Dt) (df ls : Nat) (rep : Int), IdU t → Chn t q → Chn (rkT L t) q' → q'.map Tr.id = q.map Tr.id → dn md (stq (rkT L t) q' df ls) (cut1 (rkT L t) t o) rep = dn md (stq t q df ls) o rep
 | [], [], t, o, df, ls, rep, _, _, _, _ => by rw [stq, stq, dn, dn]; rfl
 | [], x' :: q', t, o, df, ls, rep, _, _, _, h => by simp at h
 | x :: q, [], t, o, df, ls, rep, _, _, _, h => by simp at h
 | x :: q, x' :: q', t, o, df, ls, rep, hu, hc, hc', h => by
  rw [List.map_cons, List.map_cons, List.cons.injEq] at h
  obtain ⟨_, ⟨i, hi, ex, hf⟩, hq⟩ := hc
  obtain ⟨_, ⟨k, hk, ex', hf'⟩, hq'⟩ := hc'
  have i1 := ixO_at hi ex hf
  have i2 := ixO_at hk ex' hf'
  obtain ⟨i', hi', e1, e2⟩ := rk_ix hu (show x' ∈ (rkT L t).sub by rw [← ex']; exact List.getElem_mem hk)
  rw [h.1, i1] at e2
  subst e2
  rw [ex] at e1
  have hl : k < (cut1 (rkT L t) t o).f.length := by
   show k < (cutF (rkT L t).sub t o).length
   rw [cutF_len]; exact hk
  have e3 : (cut1 (rkT L t) t o).f.getD k default = cutT x' x (o.f.getD i default) := by
   rw [getD_at' hl]
   show (cutF (rkT L t).sub t o)[k] = _
   rw [cutF_at _ _ _ k hk hl, ex', h.1, i1, getD_at' hi, ex]
  subst e1
  have hm : x ∈ t.sub := by rw [← ex]; exact List.getElem_mem hi
  have hr : (rkT L x).rep = x.rep := (rkT_id L x).2.2.1
  have ih := fun (o' : Dt) (df ls : Nat) (rep : Int) => dn_cut L md q q' x o' df ls rep (hu.sub hm) hq hq' h.2
  rw [stq, stq, dn, dn]
  simp only [i1, i2, hr, e3]
  rw [cutT_eq]
  by_cases h3 : x.rep = 3
  · have h1 : ¬ x.rep = 1 := by omega
    simp only [if_pos h3, if_neg h1]
    show (match ((o.f.getD i default).l.map (cut1 (rkT L x) x)) with | [] => _ | e :: es => _) = _
    cases (o.f.getD i default).l with
    | nil => rfl
    | cons y ys =>
     simp only [List.map_cons]
     rw [ih, List.flatMap_map]
     congr 2
     funext z
     exact ih z _ _ _
  · simp only [if_neg h3]
    cases hno : (o.f.getD i default).no with
    | true =>
     rw [if_pos rfl]
     rfl
    | false =>
     have hc : (cut1 (rkT L x) x (o.f.getD i default)).no = false := rfl
     simp only [Bool.false_eq_true, if_false, hc]
     exact ih _ _ _ _
theorem ents_cut {L : List Int} {t z z' : Tr} {f : Lf} {q q' : List Tr} (hv : vldN t = 0) (h : LfG t f q z) (h' : LfG (rkT L t) f q' z') (md : Nat) (ds : List Dt) : ents md (stq (rkT L t) q' 0 0) (ds.map (cut1 (rkT L t) t)) = ents md (stq t q 0 0) ds := by
 obtain ⟨_, hr, _, _, hid⟩ := right_parts hv
 have hu := right_idU hr hid
 unfold ents
 rw [List.flatMap_map]
 congr 1
 funext d
 exact dn_cut L md q q' t d 0 0 0 hu h.w.way h'.w.way (by rw [← h.w.path, ← h'.w.path])
def ptrs (G : List Nat) : List Value := G.map fun g => .pointer (some ⟨g, 0, none⟩)
theorem ptrs_len (G : List Nat) : (ptrs G).length = G.length := by unfold ptrs; simp
theorem ptrs_at (G : List Nat) (j : Nat) (h : j < (ptrs G).length) (h' : j < G.length) : (ptrs G)[j] = .pointer (some ⟨G[j], 0, none⟩) := List.getElem_map (fun g => Value.pointer (some ⟨g, 0, none⟩)) (h := h)
set_option maxRecDepth 100000 in
set_option maxHeartbeats 3200000 in
theorem ixN (z : Nat) (G : List Nat) (A : Nat → Bool) (hG : G.length ≤ 1000) (a : Option Addr) (c : Nat) (W : World) (hl : Lies W a (ptrs G)) (his : ∀ (j : Nat) (h : j < G.length) (X : World), Below W.heap.size W X → Calls Tryz.prog (117) #[.pointer (some ⟨G[j], 0, none⟩), .pointer (some ⟨z, 0, none⟩)] X fun e w' => e = .returned (.bool (A j)) ∧ Below X.heap.size X w') :
    Calls Tryz.prog (118) #[.slice a G.length c, .func (.func 117) #[] #[.pointer (some ⟨z, 0, none⟩)]] W fun e w' => ∃ i : Int, e = .returned (.int .i64 i) ∧ (0 ≤ i ↔ ∃ j, j < G.length ∧ A j = true) ∧ Below W.heap.size W w' := by
 have HL : Hid (Lies W a (ptrs G)) := hl
 have HI : Hid _ := his
 clear hl his
 go_enter Tryz.func118, Tryz.ntmps118
 go_wp2_with fail
 go_loopw [8] (fun x wr => ∃ i : Nat, i ≤ G.length ∧ x = .int .i64 i ∧ Hid (∀ j, j < i → A j = false) ∧ Hid (Below W.heap.size W wr)) (fun x _ => G.length - (intOf x).toNat)
 case atStart => exact ⟨0, Nat.zero_le _, rfl, fun j h => absurd h (Nat.not_lt_zero _), Below.refl _ _⟩
 case round =>
  obtain ⟨i, hik, rfl, HA, HB⟩ := hrel
  by_cases hlt : i < G.length
  · obtain ⟨bb, oo, ea, hc⟩ := (HL.out.keep HB.out) i (by rw [ptrs_len]; exact hlt)
    rw [ptrs_at G i _ hlt] at hc
    subst ea
    have HC : Hid _ := HI.out i hlt wr HB.out
    obtain ⟨g, HGn⟩ := hid_name G[i]
    rw [HGn.out] at HC hc
    obtain ⟨v, HV⟩ := hid_name (A i)
    rw [HV.out] at HC
    have q0 : (0 : Int) ≤ (i : Int) := by omega
    have q1 : (i : Int) < (G.length : Int) := by omega
    go_wp2_with fail
    refine Calls.mono HC.out ?_
    rintro e w1 ⟨rfl, hb1⟩
    have HB1 : Hid (Below W.heap.size W w1) := HB.out.trans (hb1.mono HB.out.size)
    clear hb1 HC
    cases v with
    | true =>
     go_wp2
     go_ret
     exact ⟨i, rfl, ⟨fun _ => ⟨i, hlt, HV.out⟩, fun _ => by omega⟩, HB1.out⟩
    | false =>
     have HA1 : Hid (∀ j, j < i + 1 → A j = false) := fun j h => by
      by_cases e : j = i
      · rw [e]; exact HV.out
      · exact HA.out j (by omega)
     go_wp2
     go_roundw
     case rel => exact ⟨i + 1, by omega, by go_num, HA1, HB1⟩
     case measure => simp [intOf]; omega
  · obtain rfl : i = G.length := by omega
    go_wp2
    go_ret
    exact ⟨-1, rfl, ⟨fun h => absurd h (by omega), fun ⟨j, hj, e⟩ => by rw [HA.out j hj] at e; exact absurd e (by simp)⟩, HB.out⟩
set_option maxRecDepth 100000 in
set_option maxHeartbeats 1600000 in
theorem ctN (z : Nat) (G : List Nat) (A : Nat → Bool) (hG : G.length ≤ 1000) (a : Option Addr) (c : Nat) (W : World) (hl : Lies W a (ptrs G)) (his : ∀ (j : Nat) (h : j < G.length) (X : World), Below W.heap.size W X → Calls Tryz.prog (117) #[.pointer (some ⟨G[j], 0, none⟩), .pointer (some ⟨z, 0, none⟩)] X fun e w' => e = .returned (.bool (A j)) ∧ Below X.heap.size X w') :
    Calls Tryz.prog (81) #[.slice a G.length c, .func (.func 117) #[] #[.pointer (some ⟨z, 0, none⟩)]] W fun e w' => ∃ b : Bool, e = .returned (.bool b) ∧ (b = true ↔ ∃ j, j < G.length ∧ A j = true) ∧ Below W.heap.size W w' := by
 have HC : Hid _ := ixN z G A hG a c W hl his
 clear hl his
 go_enter Tryz.func81, Tryz.ntmps81
 go_wp2_with fail
 refine Calls.mono HC.out ?_
 rintro e w1 ⟨i, rfl, hiff, hb1⟩
 have HIff : Hid _ := hiff
 have HB1 : Hid _ := hb1
 clear hiff hb1
 go_wp2
 go_ret
 exact ⟨decide (0 ≤ i), by first | rfl | simp, by rw [decide_eq_true_iff]; exact HIff.out, HB1.out⟩
set_option maxRecDepth 100000 in
set_option maxHeartbeats 3200000 in
theorem ixE (G : List Nat) (A : Nat → Bool) (hG : G.length ≤ 1000) (a : Option Addr) (c : Nat) (W : World) (hl : Lies W a (ptrs G)) (his : ∀ (j : Nat) (h : j < G.length) (X : World), Below W.heap.size W X → Calls Tryz.prog (52) #[.pointer (some ⟨G[j], 0, none⟩)] X fun e w' => e = .returned (.bool (A j)) ∧ Below X.heap.size X w') :
    Calls Tryz.prog (118) #[.slice a G.length c, .func (.func 52) #[] #[]] W fun e w' => ∃ i : Int, e = .returned (.int .i64 i) ∧ (0 ≤ i ↔ ∃ j, j < G.length ∧ A j = true) ∧ Below W.heap.size W w' := by
 have HL : Hid (Lies W a (ptrs G)) := hl
 have HI : Hid _ := his
 clear hl his
 go_enter Tryz.func118, Tryz.ntmps118
 go_wp2_with fail
 go_loopw [8] (fun x wr => ∃ i : Nat, i ≤ G.length ∧ x = .int .i64 i ∧ Hid (∀ j, j < i → A j = false) ∧ Hid (Below W.heap.size W wr)) (fun x _ => G.length - (intOf x).toNat)
 case atStart => exact ⟨0, Nat.zero_le _, rfl, fun j h => absurd h (Nat.not_lt_zero _), Below.refl _ _⟩
 case round =>
  obtain ⟨i, hik, rfl, HA, HB⟩ := hrel
  by_cases hlt : i < G.length
  · obtain ⟨bb, oo, ea, hc⟩ := (HL.out.keep HB.out) i (by rw [ptrs_len]; exact hlt)
    rw [ptrs_at G i _ hlt] at hc
    subst ea
    have HC : Hid _ := HI.out i hlt wr HB.out
    obtain ⟨g, HGn⟩ := hid_name G[i]
    rw [HGn.out] at HC hc
    obtain ⟨v, HV⟩ := hid_name (A i)
    rw [HV.out] at HC
    have q0 : (0 : Int) ≤ (i : Int) := by omega
    have q1 : (i : Int) < (G.length : Int) := by omega
    go_wp2_with fail
    refine Calls.mono HC.out ?_
    rintro e w1 ⟨rfl, hb1⟩
    have HB1 : Hid (Below W.heap.size W w1) := HB.out.trans (hb1.mono HB.out.size)
    clear hb1 HC
    cases v with
    | true =>
     go_wp2
     go_ret
     exact ⟨i, rfl, ⟨fun _ => ⟨i, hlt, HV.out⟩, fun _ => by omega⟩, HB1.out⟩
    | false =>
     have HA1 : Hid (∀ j, j < i + 1 → A j = false) := fun j h => by
      by_cases e : j = i
      · rw [e]; exact HV.out
      · exact HA.out j (by omega)
     go_wp2
     go_roundw
     case rel => exact ⟨i + 1, by omega, by go_num, HA1, HB1⟩
     case measure => simp [intOf]; omega
  · obtain rfl : i = G.length := by omega
    go_wp2
    go_ret
    exact ⟨-1, rfl, ⟨fun h => absurd h (by omega), fun ⟨j, hj, e⟩ => by rw [HA.out j hj] at e; exact absurd e (by simp)⟩, HB.out⟩
set_option maxRecDepth 100000 in
set_option maxHeartbeats 1600000 in
theorem ctE (G : List Nat) (A : Nat → Bool) (hG : G.length ≤ 1000) (a : Option Addr) (c : Nat) (W : World) (hl : Lies W a (ptrs G)) (his : ∀ (j : Nat) (h : j < G.length) (X : World), Below W.heap.size W X → Calls Tryz.prog (52) #[.pointer (some ⟨G[j], 0, none⟩)] X fun e w' => e = .returned (.bool (A j)) ∧ Below X.heap.size X w') :
    Calls Tryz.prog (81) #[.slice a G.length c, .func (.func 52) #[] #[]] W fun e w' => ∃ b : Bool, e = .returned (.bool b) ∧ (b = true ↔ ∃ j, j < G.length ∧ A j = true) ∧ Below W.heap.size W w' := by
 have HC : Hid _ := ixE G A hG a c W hl his
 clear hl his
 go_enter Tryz.func81, Tryz.ntmps81
 go_wp2_with fail
 refine Calls.mono HC.out ?_
 rintro e w1 ⟨i, rfl, hiff, hb1⟩
 have HIff : Hid _ := hiff
 have HB1 : Hid _ := hb1
 clear hiff hb1
 go_wp2
 go_ret
 exact ⟨decide (0 ≤ i), by first | rfl | simp, by rw [decide_eq_true_iff]; exact HIff.out, HB1.out⟩
set_option maxRecDepth 100000 in
set_option maxHeartbeats 1600000 in
theorem notE (g z : Nat) (v : Bool) (X : World) (hz : X.cell? ⟨z, 0, none⟩ = some (.func (.func 52) #[] #[])) (his : Calls Tryz.prog (52) #[.pointer (some ⟨g, 0, none⟩)] X fun e w' => e = .returned (.bool v) ∧ Below X.heap.size X w') :
    Calls Tryz.prog (117) #[.pointer (some ⟨g, 0, none⟩), .pointer (some ⟨z, 0, none⟩)] X fun e w' => e = .returned (.bool (!v)) ∧ Below X.heap.size X w' := by
 have HI : Hid _ := his
 clear his
 go_enter Tryz.func117, Tryz.ntmps117
 go_wp2_with fail
 refine Calls.mono HI.out ?_
 rintro e w1 ⟨rfl, hb1⟩
 have HB1 : Hid _ := hb1
 clear hb1
 go_wp2
 go_ret
 exact ⟨rfl, HB1.out⟩
set_option maxRecDepth 100000 in
set_option maxHeartbeats 1600000 in
theorem allE (bb : Nat) (G : List Nat) (A : Nat → Bool) (hG : G.length ≤ 1000) (a : Option Addr) (c : Nat) (W : World) (hb4 : W.cell? ⟨bb, 4, none⟩ = some (.slice a G.length c)) (hl : Lies W a (ptrs G)) (his : ∀ (j : Nat) (h : j < G.length) (X : World), Below W.heap.size W X → Calls Tryz.prog (52) #[.pointer (some ⟨G[j], 0, none⟩)] X fun e w' => e = .returned (.bool (A j)) ∧ Below X.heap.size X w') :
    Calls Tryz.prog (80) #[.pointer (some ⟨bb, 0, none⟩), .func (.func 52) #[] #[]] W fun e w' => ∃ b : Bool, e = .returned (.bool b) ∧ (b = true ↔ ∀ j, j < G.length → A j = true) ∧ Below W.heap.size W w' := by
 have hmf : ∀ (fn : Fn) (first cap : Array Value) (w : World), (Instr.makeFunc fn first cap).run Tryz.prog w = .ok (.func fn first cap) w := fun _ _ _ _ => rfl
 obtain ⟨w0, HW0, HX, HB⟩ := one_box W #[.func (.func 52) #[] #[]] 112
 have hb4' : w0.cell? ⟨bb, 4, none⟩ = some (.slice a G.length c) := (HB.out.cell (World.block_lt_of_cell? W _ hb4)).trans hb4
 have HC : Hid _ := ctN W.heap.size G (fun j => !A j) hG a c w0 (hl.keep HB.out) (fun j h X hX => notE G[j] W.heap.size (A j) X (row_one (blk_keep hX HX.out)).1 (his j h X (HB.out.trans (hX.mono HB.out.size))))
 clear hl his hb4
 go_enter Tryz.func80, Tryz.ntmps80
 go_upto_region 1 with fail
 rw [HW0.out]
 go_wp2_with fail
 refine Calls.mono HC.out ?_
 rintro e w1 ⟨b, rfl, hiff, hb1⟩
 have HIff : Hid _ := hiff
 have HB1 : Hid (Below W.heap.size W w1) := HB.out.trans (hb1.mono HB.out.size)
 clear hiff hb1
 go_wp2
 go_ret
 refine ⟨!b, rfl, ⟨fun h j hj => ?_, fun h => ?_⟩, HB1.out⟩
 · cases hA : A j
   · have : b = true := HIff.out.2 ⟨j, hj, by simp [hA]⟩
     rw [this] at h
     exact absurd h (by simp)
   · rfl
 · cases hb : b
   · rfl
   · obtain ⟨j, hj, e⟩ := HIff.out.1 hb
     rw [h j hj] at e
     exact absurd e (by simp)
set_option maxRecDepth 100000 in
set_option maxHeartbeats 1600000 in
theorem agreeE (bb : Nat) (G : List Nat) (t : Bool) (h0 : 0 < G.length) (hG : G.length ≤ 1000) (a : Option Addr) (c : Nat) (W : World) (hb4 : W.cell? ⟨bb, 4, none⟩ = some (.slice a G.length c)) (hl : Lies W a (ptrs G)) (his : ∀ (j : Nat) (h : j < G.length) (X : World), Below W.heap.size W X → Calls Tryz.prog (52) #[.pointer (some ⟨G[j], 0, none⟩)] X fun e w' => e = .returned (.bool t) ∧ Below X.heap.size X w') :
    Calls Tryz.prog (51) #[.pointer (some ⟨bb, 0, none⟩), .func (.func 52) #[] #[]] W fun e w' => e = .returned (.tuple #[.bool t, .nilIface]) ∧ Below W.heap.size W w' := by
 have HC1 : Hid _ := allE bb G (fun _ => t) hG a c W hb4 hl his
 have HC2 : Hid (∀ X, Below W.heap.size W X → _) := fun X hX => ctE G (fun _ => t) hG a c X (hl.keep hX) (fun j h Y hY => his j h Y (hX.trans (hY.mono hX.size)))
 have HB4 : Hid _ := hb4
 clear hl his hb4
 go_enter Tryz.func51, Tryz.ntmps51
 go_wp2_with fail
 refine Calls.mono HC1.out ?_
 rintro e w1 ⟨b, rfl, hiff, hb1⟩
 have HB1 : Hid (Below W.heap.size W w1) := hb1
 have HBt : Hid (b = t) := (by
  show b = t
  rw [Bool.eq_iff_iff, hiff]
  exact ⟨fun h => h 0 h0, fun h _ _ => h⟩)
 clear hiff hb1
 rw [HBt.out]
 cases t with
 | true =>
  go_wp2
  go_ret2
  exact ⟨rfl, HB1.out⟩
 | false =>
  have b4 := (HB1.out.cell (World.block_lt_of_cell? W _ HB4.out)).trans HB4.out
  go_wp2_with fail
  refine Calls.mono (HC2.out w1 HB1.out) ?_
  rintro e w2 ⟨b2, rfl, hiff, hb2⟩
  have HB2 : Hid (Below W.heap.size W w2) := HB1.out.trans (hb2.mono HB1.out.size)
  obtain rfl : b2 = false := by
   cases b2
   · rfl
   · obtain ⟨j, _, e⟩ := hiff.1 rfl
     exact absurd e (by simp)
  clear hiff hb2
  go_wp2
  go_ret2
  exact ⟨rfl, HB2.out⟩
set_option maxRecDepth 100000 in
set_option maxHeartbeats 3200000 in
theorem ixI (b : Nat) (G : List Nat) (A : Nat → Bool) (hG : G.length ≤ 1000) (a : Option Addr) (c : Nat) (W : World) (hl : Lies W a (ptrs G)) (his : ∀ (j : Nat) (h : j < G.length) (X : World), Below W.heap.size W X → Calls Tryz.prog (120) #[.pointer (some ⟨b, 0, none⟩), .pointer (some ⟨G[j], 0, none⟩)] X fun e w' => e = .returned (.bool (A j)) ∧ Below X.heap.size X w') :
    Calls Tryz.prog (118) #[.slice a G.length c, .func (.func 120) #[.pointer (some ⟨b, 0, none⟩)] #[]] W fun e w' => ∃ i : Int, e = .returned (.int .i64 i) ∧ (0 ≤ i ↔ ∃ j, j < G.length ∧ A j = true) ∧ Below W.heap.size W w' := by
 have HL : Hid (Lies W a (ptrs G)) := hl
 have HI : Hid _ := his
 clear hl his
 go_enter Tryz.func118, Tryz.ntmps118
 go_wp2_with fail
 go_loopw [8] (fun x wr => ∃ i : Nat, i ≤ G.length ∧ x = .int .i64 i ∧ Hid (∀ j, j < i → A j = false) ∧ Hid (Below W.heap.size W wr)) (fun x _ => G.length - (intOf x).toNat)
 case atStart => exact ⟨0, Nat.zero_le _, rfl, fun j h => absurd h (Nat.not_lt_zero _), Below.refl _ _⟩
 case round =>
  obtain ⟨i, hik, rfl, HA, HB⟩ := hrel
  by_cases hlt : i < G.length
  · obtain ⟨bb, oo, ea, hc⟩ := (HL.out.keep HB.out) i (by rw [ptrs_len]; exact hlt)
    rw [ptrs_at G i _ hlt] at hc
    subst ea
    have HC : Hid _ := HI.out i hlt wr HB.out
    obtain ⟨g, HGn⟩ := hid_name G[i]
    rw [HGn.out] at HC hc
    obtain ⟨v, HV⟩ := hid_name (A i)
    rw [HV.out] at HC
    have q0 : (0 : Int) ≤ (i : Int) := by omega
    have q1 : (i : Int) < (G.length : Int) := by omega
    go_wp2_with fail
    refine Calls.mono HC.out ?_
    rintro e w1 ⟨rfl, hb1⟩
    have HB1 : Hid (Below W.heap.size W w1) := HB.out.trans (hb1.mono HB.out.size)
    clear hb1 HC
    cases v with
    | true =>
     go_wp2
     go_ret
     exact ⟨i, rfl, ⟨fun _ => ⟨i, hlt, HV.out⟩, fun _ => by omega⟩, HB1.out⟩
    | false =>
     have HA1 : Hid (∀ j, j < i + 1 → A j = false) := fun j h => by
      by_cases e : j = i
      · rw [e]; exact HV.out
      · exact HA.out j (by omega)
     go_wp2
     go_roundw
     case rel => exact ⟨i + 1, by omega, by go_num, HA1, HB1⟩
     case measure => simp [intOf]; omega
  · obtain rfl : i = G.length := by omega
    go_wp2
    go_ret
    exact ⟨-1, rfl, ⟨fun h => absurd h (by omega), fun ⟨j, hj, e⟩ => by rw [HA.out j hj] at e; exact absurd e (by simp)⟩, HB.out⟩
set_option maxRecDepth 100000 in
set_option maxHeartbeats 1600000 in
theorem ctI (b : Nat) (G : List Nat) (A : Nat → Bool) (hG : G.length ≤ 1000) (a : Option Addr) (c : Nat) (W : World) (hl : Lies W a (ptrs G)) (his : ∀ (j : Nat) (h : j < G.length) (X : World), Below W.heap.size W X → Calls Tryz.prog (120) #[.pointer (some ⟨b, 0, none⟩), .pointer (some ⟨G[j], 0, none⟩)] X fun e w' => e = .returned (.bool (A j)) ∧ Below X.heap.size X w') :
    Calls Tryz.prog (81) #[.slice a G.length c, .func (.func 120) #[.pointer (some ⟨b, 0, none⟩)] #[]] W fun e w' => ∃ b : Bool, e = .returned (.bool b) ∧ (b = true ↔ ∃ j, j < G.length ∧ A j = true) ∧ Below W.heap.size W w' := by
 have HC : Hid _ := ixI b G A hG a c W hl his
 clear hl his
 go_enter Tryz.func81, Tryz.ntmps81
 go_wp2_with fail
 refine Calls.mono HC.out ?_
 rintro e w1 ⟨i, rfl, hiff, hb1⟩
 have HIff : Hid _ := hiff
 have HB1 : Hid _ := hb1
 clear hiff hb1
 go_wp2
 go_ret
 exact ⟨decide (0 ≤ i), by first | rfl | simp, by rw [decide_eq_true_iff]; exact HIff.out, HB1.out⟩
set_option maxRecDepth 100000 in
set_option maxHeartbeats 1600000 in
theorem notI (b : Nat) (g z : Nat) (v : Bool) (X : World) (hz : X.cell? ⟨z, 0, none⟩ = some (.func (.func 120) #[.pointer (some ⟨b, 0, none⟩)] #[])) (his : Calls Tryz.prog (120) #[.pointer (some ⟨b, 0, none⟩), .pointer (some ⟨g, 0, none⟩)] X fun e w' => e = .returned (.bool v) ∧ Below X.heap.size X w') :
    Calls Tryz.prog (117) #[.pointer (some ⟨g, 0, none⟩), .pointer (some ⟨z, 0, none⟩)] X fun e w' => e = .returned (.bool (!v)) ∧ Below X.heap.size X w' := by
 have HI : Hid _ := his
 clear his
 go_enter Tryz.func117, Tryz.ntmps117
 go_wp2_with fail
 refine Calls.mono HI.out ?_
 rintro e w1 ⟨rfl, hb1⟩
 have HB1 : Hid _ := hb1
 clear hb1
 go_wp2
 go_ret
 exact ⟨rfl, HB1.out⟩
set_option maxRecDepth 100000 in
set_option maxHeartbeats 1600000 in
theorem allI (b : Nat) (bb : Nat) (G : List Nat) (A : Nat → Bool) (hG : G.length ≤ 1000) (a : Option Addr) (c : Nat) (W : World) (hb4 : W.cell? ⟨bb, 4, none⟩ = some (.slice a G.length c)) (hl : Lies W a (ptrs G)) (his : ∀ (j : Nat) (h : j < G.length) (X : World), Below W.heap.size W X → Calls Tryz.prog (120) #[.pointer (some ⟨b, 0, none⟩), .pointer (some ⟨G[j], 0, none⟩)] X fun e w' => e = .returned (.bool (A j)) ∧ Below X.heap.size X w') :
    Calls Tryz.prog (80) #[.pointer (some ⟨bb, 0, none⟩), .func (.func 120) #[.pointer (some ⟨b, 0, none⟩)] #[]] W fun e w' => ∃ b : Bool, e = .returned (.bool b) ∧ (b = true ↔ ∀ j, j < G.length → A j = true) ∧ Below W.heap.size W w' := by
 have hmf : ∀ (fn : Fn) (first cap : Array Value) (w : World), (Instr.makeFunc fn first cap).run Tryz.prog w = .ok (.func fn first cap) w := fun _ _ _ _ => rfl
 obtain ⟨w0, HW0, HX, HB⟩ := one_box W #[.func (.func 120) #[.pointer (some ⟨b, 0, none⟩)] #[]] 112
 have hb4' : w0.cell? ⟨bb, 4, none⟩ = some (.slice a G.length c) := (HB.out.cell (World.block_lt_of_cell? W _ hb4)).trans hb4
 have HC : Hid _ := ctN W.heap.size G (fun j => !A j) hG a c w0 (hl.keep HB.out) (fun j h X hX => notI b G[j] W.heap.size (A j) X (row_one (blk_keep hX HX.out)).1 (his j h X (HB.out.trans (hX.mono HB.out.size))))
 clear hl his hb4
 go_enter Tryz.func80, Tryz.ntmps80
 go_upto_region 1 with fail
 rw [HW0.out]
 go_wp2_with fail
 refine Calls.mono HC.out ?_
 rintro e w1 ⟨b, rfl, hiff, hb1⟩
 have HIff : Hid _ := hiff
 have HB1 : Hid (Below W.heap.size W w1) := HB.out.trans (hb1.mono HB.out.size)
 clear hiff hb1
 go_wp2
 go_ret
 refine ⟨!b, rfl, ⟨fun h j hj => ?_, fun h => ?_⟩, HB1.out⟩
 · cases hA : A j
   · have : b = true := HIff.out.2 ⟨j, hj, by simp [hA]⟩
     rw [this] at h
     exact absurd h (by simp)
   · rfl
 · cases hb : b
   · rfl
   · obtain ⟨j, hj, e⟩ := HIff.out.1 hb
     rw [h j hj] at e
     exact absurd e (by simp)
set_option maxRecDepth 100000 in
set_option maxHeartbeats 1600000 in
theorem agreeI (b : Nat) (bb : Nat) (G : List Nat) (t : Bool) (h0 : 0 < G.length) (hG : G.length ≤ 1000) (a : Option Addr) (c : Nat) (W : World) (hb4 : W.cell? ⟨bb, 4, none⟩ = some (.slice a G.length c)) (hl : Lies W a (ptrs G)) (his : ∀ (j : Nat) (h : j < G.length) (X : World), Below W.heap.size W X → Calls Tryz.prog (120) #[.pointer (some ⟨b, 0, none⟩), .pointer (some ⟨G[j], 0, none⟩)] X fun e w' => e = .returned (.bool t) ∧ Below X.heap.size X w') :
    Calls Tryz.prog (51) #[.pointer (some ⟨bb, 0, none⟩), .func (.func 120) #[.pointer (some ⟨b, 0, none⟩)] #[]] W fun e w' => e = .returned (.tuple #[.bool t, .nilIface]) ∧ Below W.heap.size W w' := by
 have HC1 : Hid _ := allI b bb G (fun _ => t) hG a c W hb4 hl his
 have HC2 : Hid (∀ X, Below W.heap.size W X → _) := fun X hX => ctI b G (fun _ => t) hG a c X (hl.keep hX) (fun j h Y hY => his j h Y (hX.trans (hY.mono hX.size)))
 have HB4 : Hid _ := hb4
 clear hl his hb4
 go_enter Tryz.func51, Tryz.ntmps51
 go_wp2_with fail
 refine Calls.mono HC1.out ?_
 rintro e w1 ⟨b, rfl, hiff, hb1⟩
 have HB1 : Hid (Below W.heap.size W w1) := hb1
 have HBt : Hid (b = t) := (by
  show b = t
  rw [Bool.eq_iff_iff, hiff]
  exact ⟨fun h => h 0 h0, fun h _ _ => h⟩)
 clear hiff hb1
 rw [HBt.out]
 cases t with
 | true =>
  go_wp2
  go_ret2
  exact ⟨rfl, HB1.out⟩
 | false =>
  have b4 := (HB1.out.cell (World.block_lt_of_cell? W _ HB4.out)).trans HB4.out
  go_wp2_with fail
  refine Calls.mono (HC2.out w1 HB1.out) ?_
  rintro e w2 ⟨b2, rfl, hiff, hb2⟩
  have HB2 : Hid (Below W.heap.size W w2) := HB1.out.trans (hb2.mono HB1.out.size)
  obtain rfl : b2 = false := by
   cases b2
   · rfl
   · obtain ⟨j, _, e⟩ := hiff.1 rfl
     exact absurd e (by simp)
  clear hiff hb2
  go_wp2
  go_ret2
  exact ⟨rfl, HB2.out⟩
set_option maxRecDepth 100000 in
set_option maxHeartbeats 3200000 in
theorem ixL (q : Nat) (G : List Nat) (A : Nat → Bool) (hG : G.length ≤ 1000) (a : Option Addr) (c : Nat) (W : World) (hl : Lies W a (ptrs G)) (his : ∀ (j : Nat) (h : j < G.length) (X : World), Below W.heap.size W X → Calls Tryz.prog (133) #[.pointer (some ⟨G[j], 0, none⟩), .pointer (some ⟨q, 0, none⟩)] X fun e w' => e = .returned (.bool (A j)) ∧ Below X.heap.size X w') :
    Calls Tryz.prog (118) #[.slice a G.length c, .func (.func 133) #[] #[.pointer (some ⟨q, 0, none⟩)]] W fun e w' => ∃ i : Int, e = .returned (.int .i64 i) ∧ (0 ≤ i ↔ ∃ j, j < G.length ∧ A j = true) ∧ Below W.heap.size W w' := by
 have HL : Hid (Lies W a (ptrs G)) := hl
 have HI : Hid _ := his
 clear hl his
 go_enter Tryz.func118, Tryz.ntmps118
 go_wp2_with fail
 go_loopw [8] (fun x wr => ∃ i : Nat, i ≤ G.length ∧ x = .int .i64 i ∧ Hid (∀ j, j < i → A j = false) ∧ Hid (Below W.heap.size W wr)) (fun x _ => G.length - (intOf x).toNat)
 case atStart => exact ⟨0, Nat.zero_le _, rfl, fun j h => absurd h (Nat.not_lt_zero _), Below.refl _ _⟩
 case round =>
  obtain ⟨i, hik, rfl, HA, HB⟩ := hrel
  by_cases hlt : i < G.length
  · obtain ⟨bb, oo, ea, hc⟩ := (HL.out.keep HB.out) i (by rw [ptrs_len]; exact hlt)
    rw [ptrs_at G i _ hlt] at hc
    subst ea
    have HC : Hid _ := HI.out i hlt wr HB.out
    obtain ⟨g, HGn⟩ := hid_name G[i]
    rw [HGn.out] at HC hc
    obtain ⟨v, HV⟩ := hid_name (A i)
    rw [HV.out] at HC
    have q0 : (0 : Int) ≤ (i : Int) := by omega
    have q1 : (i : Int) < (G.length : Int) := by omega
    go_wp2_with fail
    refine Calls.mono HC.out ?_
    rintro e w1 ⟨rfl, hb1⟩
    have HB1 : Hid (Below W.heap.size W w1) := HB.out.trans (hb1.mono HB.out.size)
    clear hb1 HC
    cases v with
    | true =>
     go_wp2
     go_ret
     exact ⟨i, rfl, ⟨fun _ => ⟨i, hlt, HV.out⟩, fun _ => by omega⟩, HB1.out⟩
    | false =>
     have HA1 : Hid (∀ j, j < i + 1 → A j = false) := fun j h => by
      by_cases e : j = i
      · rw [e]; exact HV.out
      · exact HA.out j (by omega)
     go_wp2
     go_roundw
     case rel => exact ⟨i + 1, by omega, by go_num, HA1, HB1⟩
     case measure => simp [intOf]; omega
  · obtain rfl : i = G.length := by omega
    go_wp2
    go_ret
    exact ⟨-1, rfl, ⟨fun h => absurd h (by omega), fun ⟨j, hj, e⟩ => by rw [HA.out j hj] at e; exact absurd e (by simp)⟩, HB.out⟩
set_option maxRecDepth 100000 in
set_option maxHeartbeats 1600000 in
theorem ctL (q : Nat) (G : List Nat) (A : Nat → Bool) (hG : G.length ≤ 1000) (a : Option Addr) (c : Nat) (W : World) (hl : Lies W a (ptrs G)) (his : ∀ (j : Nat) (h : j < G.length) (X : World), Below W.heap.size W X → Calls Tryz.prog (133) #[.pointer (some ⟨G[j], 0, none⟩), .pointer (some ⟨q, 0, none⟩)] X fun e w' => e = .returned (.bool (A j)) ∧ Below X.heap.size X w') :
    Calls Tryz.prog (81) #[.slice a G.length c, .func (.func 133) #[] #[.pointer (some ⟨q, 0, none⟩)]] W fun e w' => ∃ b : Bool, e = .returned (.bool b) ∧ (b = true ↔ ∃ j, j < G.length ∧ A j = true) ∧ Below W.heap.size W w' := by
 have HC : Hid _ := ixL q G A hG a c W hl his
 clear hl his
 go_enter Tryz.func81, Tryz.ntmps81
 go_wp2_with fail
 refine Calls.mono HC.out ?_
 rintro e w1 ⟨i, rfl, hiff, hb1⟩
 have HIff : Hid _ := hiff
 have HB1 : Hid _ := hb1
 clear hiff hb1
 go_wp2
 go_ret
 exact ⟨decide (0 ≤ i), by first | rfl | simp, by rw [decide_eq_true_iff]; exact HIff.out, HB1.out⟩
set_option maxRecDepth 100000 in
set_option maxHeartbeats 1600000 in
theorem notL (q : Nat) (g z : Nat) (v : Bool) (X : World) (hz : X.cell? ⟨z, 0, none⟩ = some (.func (.func 133) #[] #[.pointer (some ⟨q, 0, none⟩)])) (his : Calls Tryz.prog (133) #[.pointer (some ⟨g, 0, none⟩), .pointer (some ⟨q, 0, none⟩)] X fun e w' => e = .returned (.bool v) ∧ Below X.heap.size X w') :
    Calls Tryz.prog (117) #[.pointer (some ⟨g, 0, none⟩), .pointer (some ⟨z, 0, none⟩)] X fun e w' => e = .returned (.bool (!v)) ∧ Below X.heap.size X w' := by
 have HI : Hid _ := his
 clear his
 go_enter Tryz.func117, Tryz.ntmps117
 go_wp2_with fail
 refine Calls.mono HI.out ?_
 rintro e w1 ⟨rfl, hb1⟩
 have HB1 : Hid _ := hb1
 clear hb1
 go_wp2
 go_ret
 exact ⟨rfl, HB1.out⟩
set_option maxRecDepth 100000 in
set_option maxHeartbeats 1600000 in
theorem allL (q : Nat) (bb : Nat) (G : List Nat) (A : Nat → Bool) (hG : G.length ≤ 1000) (a : Option Addr) (c : Nat) (W : World) (hb4 : W.cell? ⟨bb, 4, none⟩ = some (.slice a G.length c)) (hl : Lies W a (ptrs G)) (his : ∀ (j : Nat) (h : j < G.length) (X : World), Below W.heap.size W X → Calls Tryz.prog (133) #[.pointer (some ⟨G[j], 0, none⟩), .pointer (some ⟨q, 0, none⟩)] X fun e w' => e = .returned (.bool (A j)) ∧ Below X.heap.size X w') :
    Calls Tryz.prog (80) #[.pointer (some ⟨bb, 0, none⟩), .func (.func 133) #[] #[.pointer (some ⟨q, 0, none⟩)]] W fun e w' => ∃ b : Bool, e = .returned (.bool b) ∧ (b = true ↔ ∀ j, j < G.length → A j = true) ∧ Below W.heap.size W w' := by
 have hmf : ∀ (fn : Fn) (first cap : Array Value) (w : World), (Instr.makeFunc fn first cap).run Tryz.prog w = .ok (.func fn first cap) w := fun _ _ _ _ => rfl
 obtain ⟨w0, HW0, HX, HB⟩ := one_box W #[.func (.func 133) #[] #[.pointer (some ⟨q, 0, none⟩)]] 112
 have hb4' : w0.cell? ⟨bb, 4, none⟩ = some (.slice a G.length c) := (HB.out.cell (World.block_lt_of_cell? W _ hb4)).trans hb4
 have HC : Hid _ := ctN W.heap.size G (fun j => !A j) hG a c w0 (hl.keep HB.out) (fun j h X hX => notL q G[j] W.heap.size (A j) X (row_one (blk_keep hX HX.out)).1 (his j h X (HB.out.trans (hX.mono HB.out.size))))
 clear hl his hb4
 go_enter Tryz.func80, Tryz.ntmps80
 go_upto_region 1 with fail
 rw [HW0.out]
 go_wp2_with fail
 refine Calls.mono HC.out ?_
 rintro e w1 ⟨b, rfl, hiff, hb1⟩
 have HIff : Hid _ := hiff
 have HB1 : Hid (Below W.heap.size W w1) := HB.out.trans (hb1.mono HB.out.size)
 clear hiff hb1
 go_wp2
 go_ret
 refine ⟨!b, rfl, ⟨fun h j hj => ?_, fun h => ?_⟩, HB1.out⟩
 · cases hA : A j
   · have : b = true := HIff.out.2 ⟨j, hj, by simp [hA]⟩
     rw [this] at h
     exact absurd h (by simp)
   · rfl
 · cases hb : b
   · rfl
   · obtain ⟨j, hj, e⟩ := HIff.out.1 hb
     rw [h j hj] at e
     exact absurd e (by simp)
set_option maxRecDepth 100000 in
set_option maxHeartbeats 1600000 in
theorem agreeL (q : Nat) (bb : Nat) (G : List Nat) (t : Bool) (h0 : 0 < G.length) (hG : G.length ≤ 1000) (a : Option Addr) (c : Nat) (W : World) (hb4 : W.cell? ⟨bb, 4, none⟩ = some (.slice a G.length c)) (hl : Lies W a (ptrs G)) (his : ∀ (j : Nat) (h : j < G.length) (X : World), Below W.heap.size W X → Calls Tryz.prog (133) #[.pointer (some ⟨G[j], 0, none⟩), .pointer (some ⟨q, 0, none⟩)] X fun e w' => e = .returned (.bool t) ∧ Below X.heap.size X w') :
    Calls Tryz.prog (51) #[.pointer (some ⟨bb, 0, none⟩), .func (.func 133) #[] #[.pointer (some ⟨q, 0, none⟩)]] W fun e w' => e = .returned (.tuple #[.bool t, .nilIface]) ∧ Below W.heap.size W w' := by
 have HC1 : Hid _ := allL q bb G (fun _ => t) hG a c W hb4 hl his
 have HC2 : Hid (∀ X, Below W.heap.size W X → _) := fun X hX => ctL q G (fun _ => t) hG a c X (hl.keep hX) (fun j h Y hY => his j h Y (hX.trans (hY.mono hX.size)))
 have HB4 : Hid _ := hb4
 clear hl his hb4
 go_enter Tryz.func51, Tryz.ntmps51
 go_wp2_with fail
 refine Calls.mono HC1.out ?_
 rintro e w1 ⟨b, rfl, hiff, hb1⟩
 have HB1 : Hid (Below W.heap.size W w1) := hb1
 have HBt : Hid (b = t) := (by
  show b = t
  rw [Bool.eq_iff_iff, hiff]
  exact ⟨fun h => h 0 h0, fun h _ _ => h⟩)
 clear hiff hb1
 rw [HBt.out]
 cases t with
 | true =>
  go_wp2
  go_ret2
  exact ⟨rfl, HB1.out⟩
 | false =>
  have b4 := (HB1.out.cell (World.block_lt_of_cell? W _ HB4.out)).trans HB4.out
  go_wp2_with fail
  refine Calls.mono (HC2.out w1 HB1.out) ?_
  rintro e w2 ⟨b2, rfl, hiff, hb2⟩
  have HB2 : Hid (Below W.heap.size W w2) := HB1.out.trans (hb2.mono HB1.out.size)
  obtain rfl : b2 = false := by
   cases b2
   · rfl
   · obtain ⟨j, _, e⟩ := hiff.1 rfl
     exact absurd e (by simp)
  clear hiff hb2
  go_wp2
  go_ret2
  exact ⟨rfl, HB2.out⟩
end Go.Proofs.YteonbmaokphleaaGreatDoor
