/-
  shred.Part: cuts of lists; slices that are sliced; what Part answers.
  The steps to a leaf, and the entries that a right record makes along them: the words, without the program.
  The entries that a right record makes on the way to a leaf: their levels, their values, how many.
  The values of a leaf by walking down, and those of its column.
  data.placeOf, and the place of a leaf: slices.IndexFunc.
-/
import Derived.Test.YtdpedailookcjaaDoorSBColO
import Derived.Deep.DeepCutAuto
import Derived.Deep.RegionHeld3
import Derived.Test.YtdpedailookcjaaDoorSBIds
import Derived.Test.YtdpedailookcjaaDoorSBLeafOf
import Derived.Test.YtdpedailookcjaaDoorSColOf
import Derived.Test.YtdpedailookcjaaDoorSBChkD
import Derived.Test.YtdpedailookcjaaDoorSBColDf
namespace Go.Proofs.YtdpedailookcjaaDoor
open Go.RowKit
theorem results_cR {P : Program} {fn : Func} {p u : Tmp} {ty : TypeId} (h : fn.results = #[.cell p ty, .tmp u]) (tmps : Array Value) (w : World) (g : Nat) (t : TypeId) (cs : Array Value) (fr : Nat × Nat) (d : TypeDesc) (y : Value)
    (hp : tmps.getD p undef = .pointer (some ⟨g, 0, none⟩)) (hy : tmps.getD u undef = y) (hg : w.heap[g]? = some (.cells cs t fr))
    (hu : P.underlying ty = some d) (hd : (match d with | .struct _ | .array _ _ => true | _ => false) = true) (hi : (P.info? ty).map (·.size) = some cs.size) :
    (results fn tmps).run P w = .ok (.tuple #[.agg cs, y]) w := by
  have hp' : tmps[p]?.getD undef = .pointer (some ⟨g, 0, none⟩) := by simpa using hp
  have hy' : tmps[u]?.getD undef = y := by simpa using hy
  simp [results, h, hp', hy', asAddr, Result.andThen, run_loadVar_row w g t ty cs fr d hg hu hd hi]
/-- From a place up to another one. -/
def cutL {α : Type} (l : List α) (a b : Nat) : List α := (l.take b).drop a
theorem cutL_len {α : Type} (l : List α) (a b : Nat) (h : b ≤ l.length) : (cutL l a b).length = b - a := by simp [cutL]; omega
theorem cutL_at {α : Type} (l : List α) (a b j : Nat) (h : j < (cutL l a b).length) : ∃ h2 : a + j < l.length, (cutL l a b)[j] = l[a + j] := by
  unfold cutL at *
  simp at h
  exact ⟨by omega, by simp⟩
theorem three_boxes (W : World) (c1 c2 c3 : Array Value) (t1 t2 t3 : TypeId) : ∃ w0, Hid (((W.alloc (.cells c1 t1)).alloc (.cells c2 t2)).alloc (.cells c3 t3) = w0) ∧ Hid (w0.heap[W.heap.size]? = some (.cells c1 t1 (0, 0))) ∧ Hid (w0.heap[W.heap.size + 1]? = some (.cells c2 t2 (0, 0))) ∧ Hid (w0.heap[W.heap.size + 1 + 1]? = some (.cells c3 t3 (0, 0))) ∧ Hid (Below W.heap.size W w0) := by
  obtain ⟨w1, H1, H2, H3, H4⟩ := two_boxes W c1 c2 t1 t2
  refine ⟨w1.alloc (.cells c3 t3), by show _ = _; rw [H1.out], blk_alloc H2.out, blk_alloc H3.out, ?_, H4.out.alloc H4.out.size _⟩
  have h := heap_alloc_new w1 (.cells c3 t3)
  rw [show w1.heap.size = W.heap.size + 1 + 1 by rw [← H1.out]; simp] at h
  exact h
theorem bel_next {B : Nat} {w X x' : World} (h : Below B w X) (hB : B ≤ w.heap.size) (hb : Below X.heap.size X x') : Below B w x' := h.trans (hb.mono (Nat.le_trans hB h.size))
theorem Cl.Fr.low {N M : Nat} {c : Cl} (h : c.Fr N) (hm : M ≤ N) : c.Fr M := ⟨fun p hp => Nat.le_trans hm (h.r p hp), fun p hp => Nat.le_trans hm (h.d p hp), fun p hp => Nat.le_trans hm (h.v p hp)⟩
theorem lies_cut {w : World} {a : Option Addr} {cs : List Value} (h : Lies w a cs) (l m c : Nat) (hm : m ≤ cs.length) (hc : cs.length ≤ c) {x : Option Addr} (hx : x = if c = l then a else a.map (fun p => p.add (l * 1))) : Lies w x (cutL cs l m) := fun j hj => by
  obtain ⟨h2, e⟩ := cutL_at cs l m j hj
  have hj2 : j < m - l := by rw [cutL_len cs l m hm] at hj; exact hj
  obtain ⟨b, o, rfl, hcell⟩ := h (l + j) h2
  rw [if_neg (by omega)] at hx
  refine ⟨b, o + l, by rw [hx]; simp [addr_add], ?_⟩
  rw [e, Nat.add_assoc]; exact hcell
theorem liesV_cut {w : World} {a : Option Addr} {vs : List Vl} (h : LiesV w a vs) (l m c : Nat) (hm : m ≤ vs.length) (hc : vs.length ≤ c) {x : Option Addr} (hx : x = if c = l then a else a.map (fun p => p.add (l * 3))) : LiesV w x (cutL vs l m) := fun j hj => by
  obtain ⟨h2, e⟩ := cutL_at vs l m j hj
  have hj2 : j < m - l := by rw [cutL_len vs l m hm] at hj; exact hj
  obtain ⟨b, o, rfl, h0, h1, h3⟩ := h (l + j) h2
  rw [if_neg (by omega)] at hx
  have e3 : o + (l + j) * 3 = o + l * 3 + j * 3 := by omega
  rw [e3] at h0 h1 h3
  refine ⟨b, o + l * 3, by rw [hx]; simp [addr_up], ?_, ?_, ?_⟩ <;> rw [e] <;> assumption
theorem i64s_cut (xs : List Int) (a b : Nat) : i64s (cutL xs a b) = cutL (i64s xs) a b := by simp [i64s, cutL]
theorem cntE_app (md : Int) (xs ys : List Int) : cntE md (xs ++ ys) = cntE md xs + cntE md ys := by simp [cntE]
theorem cntE_cut (md : Int) (xs : List Int) (a b : Nat) (h : a ≤ b) : cntE md (xs.take b) = cntE md (xs.take a) + cntE md (cutL xs a b) := by
  have e : xs.take b = xs.take a ++ cutL xs a b := by
    have e1 := (List.take_append_drop a (xs.take b)).symm
    rw [List.take_take, Nat.min_eq_left h] at e1
    exact e1
  exact (congrArg (cntE md) e).trans (cntE_app _ _ _)
theorem cntE_mono (md : Int) (xs : List Int) {a b : Nat} (h : a ≤ b) : cntE md (xs.take a) ≤ cntE md (xs.take b) := by rw [cntE_cut md xs a b h]; omega
theorem cntE_all (md : Int) (xs : List Int) (a : Nat) : cntE md (xs.take a) ≤ cntE md xs := by
  have h : cntE md xs = cntE md (xs.take a) + cntE md (xs.drop a) := by rw [← cntE_app, List.take_append_drop]
  omega
theorem StAt.le {rs : List Int} {x y : Int} {a b : Nat} (ha : StAt rs x a) (hb : StAt rs y b) (h : x ≤ y) : a ≤ b := by
  rcases Nat.lt_or_ge b a with hlt | hge
  · exfalso
    have h1 := ha.2.1 b hlt
    have h2 := hb.2.2 (by have := ha.1; omega)
    omega
  · exact hge
theorem valuesOf_n (id kind mr md : Int) (pa : Option Addr) (pn pc : Nat) (a : Option Addr) (n c : Nat) (xs : List Int) (hn : xs.length ≤ 1048576) (W : World) (hl : Lies W a (i64s xs)) (he : n = xs.length) :
    Calls Tryd.prog 34 #[leafV id kind mr md pa pn pc, .slice a n c] W fun e w' => e = .returned (.int .i64 (cntE md xs : Nat)) ∧ Below W.heap.size W w' := by
  subst he
  exact valuesOf_any id kind mr md pa pn pc a c xs hn W hl
theorem joined_n (lid kind mr md : Int) (pa : Option Addr) (pn pc : Nat) (a : Option Addr) (n c : Nat) (cs : List Cl) (W : World) (hn : cs.length ≤ 1048576) (hjr : (jR cs).length ≤ 1048576) (hjd : (jD cs).length ≤ 1048576) (hjv : (jV cs).length ≤ 1048576) (hl : LiesC W a cs) (he : n = cs.length) :
    Calls Tryd.prog 26 #[leafV lid kind mr md pa pn pc, .slice a n c] W fun e w' => (∃ k : Cl, e = .returned (.agg #[.int .i64 k.id, .slice k.ra k.rs.length k.rc, .slice k.da k.ds.length k.dc, .slice k.va k.vs.length k.vc]) ∧ k.At w' ∧ k.Fr W.heap.size ∧ k.id = lid ∧ k.rs = jR cs ∧ k.ds = jD cs ∧ k.vs = jV cs) ∧ Below W.heap.size W w' := by
  subst he
  exact joined_any lid kind mr md pa pn pc a c cs W hn hjr hjd hjv hl
theorem joined_nc (lid kind mr md : Int) (pa : Option Addr) (pn pc : Nat) (a : Option Addr) (n c : Nat) (cs : List Cl) (W : World) (hn : cs.length ≤ 1048576) (hjr : (jR cs).length ≤ 1048576) (hjd : (jD cs).length ≤ 1048576) (hjv : (jV cs).length ≤ 1048576) (hl : LiesC W a cs) (he : n = cs.length) :
    Calls Tryd.prog 26 #[leafV lid kind mr md pa pn pc, .slice a n c] W fun e w' => (∃ k : Cl, e = .returned (.agg #[.int .i64 k.id, .slice k.ra k.rs.length k.rc, .slice k.da k.ds.length k.dc, .slice k.va k.vs.length k.vc]) ∧ k.At w' ∧ k.Fr W.heap.size ∧ k.id = lid ∧ k.rs = jR cs ∧ k.ds = jD cs ∧ k.vs = jV cs ∧ k.Cap) ∧ Below W.heap.size W w' := by
  subst he
  exact joined_cap lid kind mr md pa pn pc a c cs W hn hjr hjd hjv hl
/-- A column of nothing. -/
abbrev zeroC : Value := .agg #[.int .i64 0, .slice none 0 0, .slice none 0 0, .slice none 0 0]
/-- Is a column right for a leaf? -/
def GoodC (lid kind mr md : Int) (c : Cl) : Prop := (isLfB kind mr md && fitB lid mr md c.id c.rs c.ds c.vs.length) = true ∧ ∀ j (h : j < c.vs.length), badV kind c.vs[j] = false
/-- What is told of a column that is not right. -/
def BadRet (N : Nat) (lid kind mr md : Int) (c : Cl) (sv kv : Value) (e : Ending) (w' : World) : Prop :=
  ((isLfB kind mr md && fitB lid mr md c.id c.rs c.ds c.vs.length) = false ∧ e = .returned (.tuple #[zeroC, sv])) ∨
  ((isLfB kind mr md && fitB lid mr md c.id c.rs c.ds c.vs.length) = true ∧ ∃ p : Nat, ∃ hp : p < c.vs.length, badV kind c.vs[p] = true ∧ (∀ j (h : j < c.vs.length), j < p → badV kind c.vs[j] = false) ∧ ∃ q, N ≤ q ∧ e = .returned (.tuple #[zeroC, .iface 70 (.pointer (some ⟨q, 0, none⟩))]) ∧ w'.cell? ⟨q, 0, none⟩ = some (.int .i64 p) ∧ w'.cell? ⟨q, 1, none⟩ = some kv)
/-- What Part answers. -/
def PtRet (N : Nat) (lid kind mr md : Int) (c : Cl) (lo hi : Int) (sv kv bv : Value) (e : Ending) (w' : World) : Prop :=
  BadRet N lid kind mr md c sv kv e w' ∨
  (GoodC lid kind mr md c ∧ ¬ (0 ≤ lo ∧ lo ≤ hi ∧ hi ≤ (cntE 0 c.rs : Nat)) ∧ e = .returned (.tuple #[zeroC, bv])) ∨
  (GoodC lid kind mr md c ∧ (0 ≤ lo ∧ lo ≤ hi ∧ hi ≤ (cntE 0 c.rs : Nat)) ∧ ∃ (k : Cl) (a b : Nat), e = .returned (.tuple #[k.val, .nilIface]) ∧ k.At w' ∧ k.Fr N ∧ StAt c.rs lo a ∧ StAt c.rs hi b ∧ k.id = lid ∧ k.rs = cutL c.rs a b ∧ k.ds = cutL c.ds a b ∧ k.vs = cutL c.vs (cntE md (c.ds.take a)) (cntE md (c.ds.take b)))
/-- What Part's boxes hold. -/
structure PtI (W : World) (lid kind mr md : Int) (pa : Option Addr) (pn pc : Nat) (c : Cl) (X : World) : Prop where
  lf : X.heap[W.heap.size]? = some (.cells #[.int .i64 lid, .int .i64 kind, .int .i64 mr, .int .i64 md, .slice pa pn pc] 45 (0, 0))
  co : X.heap[W.heap.size + 1]? = some (.cells #[.int .i64 c.id, .slice c.ra c.rs.length c.rc, .slice c.da c.ds.length c.dc, .slice c.va c.vs.length c.vc] 41 (0, 0))
  re : X.heap[W.heap.size + 1 + 1]? = some (.cells #[.int .i64 0, .slice none 0 0, .slice none 0 0, .slice none 0 0] 41 (0, 0))
  old : Below W.heap.size W X
theorem PtI.keep {W : World} {lid kind mr md : Int} {pa : Option Addr} {pn pc : Nat} {c : Cl} {X w' : World} (h : PtI W lid kind mr md pa pn pc c X) (hb : Below (W.heap.size + 1 + 1 + 1) X w') : PtI W lid kind mr md pa pn pc c w' :=
  ⟨(hb.block _ (by omega)).trans h.lf, (hb.block _ (by omega)).trans h.co, (hb.block _ (by omega)).trans h.re, h.old.trans (hb.mono (by omega))⟩
end Go.Proofs.YtdpedailookcjaaDoor

namespace Go.Proofs.YtdpedailookcjaaDoor
open Go.RowKit
/-- A way down from a node to a leaf in it. -/
def Chn : Tr → List Tr → Prop
  | t, [] => t.kind ≠ 0
  | t, x :: q => t.kind = 0 ∧ (∃ i, ∃ h : i < t.sub.length, t.sub[i] = x ∧ ∀ j (h' : j < i), (t.sub[j]'(Nat.lt_trans h' h)).id ≠ x.id) ∧ Chn x q
/-- The first node with a number. -/
def ixO (ts : List Tr) (id : Int) : Nat := ts.findIdx fun y => y.id == id
theorem ixO_at {ts : List Tr} {x : Tr} {i : Nat} (h : i < ts.length) (e : ts[i] = x) (hf : ∀ j (h' : j < i), (ts[j]'(Nat.lt_trans h' h)).id ≠ x.id) : ixO ts x.id = i := by
  unfold ixO
  rw [List.findIdx_eq h]
  refine ⟨by rw [e]; simp, fun j hj => ?_⟩
  have := hf j hj
  simp [this]
/-- The steps along a way. -/
def stq : Tr → List Tr → Nat → Nat → List Stp
  | _, [], _, _ => []
  | t, x :: q, df, ls => ⟨ixO t.sub x.id, x.rep, df, if x.rep = 3 then ls + 1 else ls⟩ :: stq x q (if x.rep = 1 then df else df + 1) (if x.rep = 3 then ls + 1 else ls)
theorem stq_path : ∀ (q : List Tr) (t : Tr) (df ls : Nat), Chn t q → StPath t (q.map Tr.id) df ls (stq t q df ls)
  | [], t, df, ls, _ => .nil t df ls
  | x :: q, t, df, ls, h => by
    obtain ⟨_, ⟨i, hi, e, hf⟩, hq⟩ := h
    rw [List.map_cons, stq, ixO_at hi e hf]
    subst e
    exact .cons t _ _ df ls i hi rfl hf _ (stq_path q _ _ _ hq)
theorem lvR_cq (x : Tr) (q : List Tr) : lvR (x :: q) = (if x.rep = 3 then 1 else 0) + lvR q := by
  unfold lvR
  by_cases h : x.rep = 3 <;> simp [h]; omega
theorem lvD_cq (x : Tr) (q : List Tr) : lvD (x :: q) = (if x.rep = 1 then 0 else 1) + lvD q := by
  unfold lvD
  by_cases h : x.rep = 1 <;> simp [h]; omega
theorem lvL_at : ∀ (ts : List Tr) (p : List Tr) (f : Lf), f ∈ lvL p ts → ∃ i, ∃ h : i < ts.length, f ∈ lvT p ts[i]
  | [], p, f, h => by simp [lvL] at h
  | t :: ts, p, f, h => by
    rw [lvL, List.mem_append] at h
    rcases h with h | h
    · exact ⟨0, by simp, h⟩
    · obtain ⟨i, hi, h⟩ := lvL_at ts p f h
      exact ⟨i + 1, by simp; omega, by simpa using h⟩
/-- No two of a node's nodes have one number. -/
theorem IdU.first {t : Tr} (h : IdU t) (i j : Nat) (hi : i < t.sub.length) (hj : j < i) : (t.sub[j]'(Nat.lt_trans hj hi)).id ≠ t.sub[i].id := by
  unfold IdU at h
  rw [ndT_eq, List.map_cons, List.nodup_cons] at h
  have hsub : ∀ ts : List Tr, List.Sublist ts (ndL ts) := fun ts => by
    induction ts with
    | nil => simp
    | cons x xs ih =>
      rw [ndL, ndT_eq, List.cons_append]
      exact (ih.trans (List.sublist_append_right _ _)).cons_cons x
  have hn : (t.sub.map Tr.id).Nodup := h.2.sublist ((hsub t.sub).map Tr.id)
  rw [List.nodup_iff_pairwise_ne, List.pairwise_iff_getElem] at hn
  have := hn j i (by simp; omega) (by simpa using hi) hj
  simpa using this
/-- A leaf of a tree: the way to it. -/
theorem lvT_chn : ∀ (n : Nat) (t : Tr), SizeOf.sizeOf t < n → ∀ (p : List Tr) (f : Lf), IdU t → (∀ y ∈ ndT t, y.kind ≠ 0 → y.sub = []) → f ∈ lvT p t →
    ∃ q z, Chn t q ∧ (t :: q).getLast? = some z ∧ f = ⟨z.id, z.kind, lvR (p ++ t :: q), lvD (p ++ t :: q), (p ++ t :: q).map Tr.id⟩
  | 0, t, h => absurd h (Nat.not_lt_zero _)
  | n + 1, .node id nm rep kind sub, hn => fun p f hu hk hf => by
    rw [lvT, List.mem_append] at hf
    by_cases h0 : kind = 0
    · rw [if_pos h0] at hf
      rcases hf with hf | hf
      · simp at hf
      · obtain ⟨i, hi, hf⟩ := lvL_at _ _ _ hf
        have hm : sub[i] ∈ (Tr.node id nm rep kind sub).sub := List.getElem_mem hi
        have hsz : SizeOf.sizeOf sub[i] < n := by
          have := List.sizeOf_lt_of_mem (List.getElem_mem (l := sub) (n := i) hi)
          simp only [Tr.node.sizeOf_spec] at hn
          omega
        obtain ⟨q, z, hc, hz, e⟩ := lvT_chn n sub[i] hsz _ f (hu.sub hm) (fun y hy => hk y (nd_sub hm hy)) hf
        refine ⟨sub[i] :: q, z, ⟨h0, ⟨i, hi, rfl, fun j hj => hu.first i j hi hj⟩, hc⟩, ?_, ?_⟩
        · rw [List.getLast?_cons_cons]; exact hz
        · rw [e]; simp
    · have hs : sub = [] := hk (.node id nm rep kind sub) (by rw [ndT]; exact List.mem_cons_self) h0
      subst hs
      rw [if_neg h0, lvL] at hf
      simp only [List.mem_singleton, List.not_mem_nil, or_false] at hf
      exact ⟨[], _, h0, rfl, by rw [hf, lfO]; rfl⟩
theorem right_lfs {t : Tr} (hs : shpT t = true) : ∀ y ∈ ndT t, y.kind ≠ 0 → y.sub = [] := fun y hy hk => by
  rw [shp_all, Bool.and_eq_true] at hs
  have h : shpOk y = true := by
    rw [ndT_eq] at hy
    rcases List.mem_cons.1 hy with rfl | hy
    · exact hs.1
    · exact List.all_eq_true.1 hs.2 y hy
  unfold shpOk at h
  rw [Bool.and_eq_true] at h
  have h2 := h.2
  have hs : ¬ 0 < y.sub.length := by
    intro hp
    simp [hk, hp] at h2
  exact List.eq_nil_of_length_eq_zero (by omega)
/-- A leaf of a right schema: the way to it from the root. -/
structure LfW (t : Tr) (f : Lf) (q : List Tr) (z : Tr) : Prop where
  way : Chn t q
  last : (t :: q).getLast? = some z
  ne : q ≠ []
  id : f.id = z.id
  kind : f.kind = z.kind
  mr : f.mr = lvR q
  md : f.md = lvD q
  path : f.path = q.map Tr.id
theorem right_way {t : Tr} (hr : isRootB t = true) (hs : shpT t = true) (hi : idsT t = true) (hk0 : t.kind = 0) (f : Lf) (hf : f ∈ lvsT t) : ∃ q z, LfW t f q z := by
  rw [lvs_right t hk0] at hf
  have hu := right_idU hr hi
  have hl := right_lfs hs
  obtain ⟨i, hi, hf⟩ := lvL_at _ _ _ hf
  have hm : t.sub[i] ∈ t.sub := List.getElem_mem hi
  obtain ⟨q, z, hc, hz, e⟩ := lvT_chn _ t.sub[i] (Nat.lt_succ_self _) [] f (hu.sub hm) (fun y hy => hl y (nd_sub hm hy)) hf
  rw [List.nil_append] at e
  exact ⟨t.sub[i] :: q, z, ⟨hk0, ⟨i, hi, rfl, fun j hj => hu.first i j hi hj⟩, hc⟩, by rw [List.getLast?_cons_cons]; exact hz, by simp, by rw [e], by rw [e], by rw [e], by rw [e], by rw [e]⟩
end Go.Proofs.YtdpedailookcjaaDoor

namespace Go.Proofs.YtdpedailookcjaaDoor
open Go.RowKit
theorem chkL_at : ∀ (ds : List Dt) (t : Tr), chkL t ds = 0 → ∀ d ∈ ds, chk true t d = 0
  | [], t, _, d, hd => by simp at hd
  | x :: ds, t, h, d, hd => by
    rw [chkL] at h
    split at h
    · rename_i h1
      rcases List.mem_cons.1 hd with rfl | hd
      · exact h1
      · exact chkL_at ds t h d hd
    · rename_i h1; exact absurd h h1
theorem chkF_at : ∀ (ds : List Dt) (ts : List Tr), ds.length = ts.length → chkF ts ds = 0 → ∀ j (h : j < ts.length) (h' : j < ds.length), chk false ts[j] ds[j] = 0
  | [], ts, hl, _, j, _, h' => by simp at h'
  | x :: ds, [], hl, _, j, h, _ => by simp at h
  | x :: ds, t :: ts, hl, h, j, hj, hj' => by
    rw [chkF] at h
    split at h
    · rename_i h1
      cases j with
      | zero => exact h1
      | succ j => exact chkF_at ds ts (by simpa using hl) h j (by simpa using hj) (by simpa using hj')
    · rename_i h1; exact absurd h h1
/-- A right group. -/
theorem chk_grp {t : Tr} {d : Dt} (hk : t.kind = 0) (h : chk true t d = 0) : d.no = false ∧ d.l = [] ∧ d.f.length = t.sub.length ∧ ∀ j (h : j < t.sub.length) (h' : j < d.f.length), chk false t.sub[j] d.f[j] = 0 := by
  rw [chk_group t d hk, grpEr] at h
  split at h
  · omega
  · rename_i h1
    simp only [Bool.or_eq_true, not_or, Bool.not_eq_true, Bool.not_eq_false', decide_eq_true_iff] at h1
    have hl : d.f.length = t.sub.length := by simpa using h1.2
    exact ⟨h1.1.1.1, List.eq_nil_of_length_eq_zero (by have := h1.1.2; simpa using this), hl, fun j hj hj' => chkF_at _ _ hl h j hj hj'⟩
/-- A right list. -/
theorem chk_lst {t : Tr} {d : Dt} (hr : t.rep = 3) (h : chk false t d = 0) : d.l.length ≤ 40 ∧ ∀ e ∈ d.l, chk true t e = 0 := by
  rw [chk_list t d hr, lstEr] at h
  split at h
  · omega
  · split at h
    · omega
    · exact ⟨by omega, chkL_at _ _ h⟩
/-- A right leaf. -/
theorem chk_lf {t : Tr} {d : Dt} (hk : t.kind ≠ 0) (h : chk true t d = 0) : d.no = false ∧ badV t.kind d.v = false := by
  rw [chk_leaf t d hk, leafEr] at h
  split at h
  · omega
  · rename_i h1
    split at h
    · omega
    · rename_i h2
      simp only [Bool.or_eq_true, not_or, Bool.not_eq_true] at h1 h2
      refine ⟨h1.1.1, ?_⟩
      unfold badV
      rw [Bool.or_eq_false_iff]
      refine ⟨?_, h2.2⟩
      have := h2.1
      simp only [Bool.not_eq_false', decide_eq_true_iff] at this
      simp [this]
/-- What is not there is so of an Optional alone. -/
theorem chk_no {t : Tr} {d : Dt} (h3 : t.rep ≠ 3) (hn : d.no = true) (h : chk false t d = 0) : t.rep = 2 := by
  by_cases h2 : t.rep = 2
  · exact h2
  · exfalso
    rw [chk_one t d h3 (fun e => h2 e.1)] at h
    by_cases hk : t.kind = 0
    · have := (chk_grp hk h).1; rw [hn] at this; cases this
    · have := (chk_lf hk h).1; rw [hn] at this; cases this
theorem chk_yes {t : Tr} {d : Dt} (h3 : t.rep ≠ 3) (hn : d.no = false) (h : chk false t d = 0) : chk true t d = 0 := by
  rw [chk_one t d h3 (fun e => by rw [hn] at e; exact absurd e.2 (by simp))] at h
  exact h
theorem getD_at {l : List Dt} {i : Nat} (h : i < l.length) : l.getD i default = l[i] := by simp [List.getD, h]
/-- The field that a way goes on into. -/
theorem chk_in {t x : Tr} {q : List Tr} {d : Dt} (hc : Chn t (x :: q)) (h : chk true t d = 0) : ixO t.sub x.id < d.f.length ∧ chk false x (d.f.getD (ixO t.sub x.id) default) = 0 ∧ Chn x q := by
  obtain ⟨hk, ⟨i, hi, e, hf⟩, hq⟩ := hc
  obtain ⟨_, _, hl, h4⟩ := chk_grp hk h
  have hi' : i < d.f.length := by omega
  rw [ixO_at hi e hf]
  refine ⟨hi', ?_, hq⟩
  rw [getD_at hi', ← e]
  exact h4 i hi hi'
/-- A right record has what the steps lead to. -/
theorem chn_fit : ∀ (q : List Tr) (t : Tr) (df ls : Nat) (d : Dt), Chn t q → chk true t d = 0 → FitS (stq t q df ls) d
  | [], t, df, ls, d, _, _ => by rw [stq, FitS]; trivial
  | x :: q, t, df, ls, d, hc, h => by
    obtain ⟨h1, h2, h3⟩ := chk_in hc h
    rw [stq, FitS]
    refine ⟨h1, fun hr e he => ?_, fun hr hn => ?_⟩
    · exact chn_fit q x _ _ e h3 ((chk_lst hr h2).2 e he)
    · exact chn_fit q x _ _ _ h3 (chk_yes hr hn h2)
/-- Entries that begin with a level: each other one is above a bound, up to another one; those with a value are at the deepest level, and no others. -/
structure EnOk (md lo hi : Nat) (kind rep : Int) (es : List Ent) : Prop where
  first : ∃ e tl, es = e :: tl ∧ e.rep = rep ∧ ∀ x ∈ tl, (lo : Int) < x.rep ∧ x.rep ≤ (hi : Int)
  each : ∀ e ∈ es, 0 ≤ e.dfn ∧ e.dfn ≤ (md : Int) ∧ (e.v = none → e.dfn ≠ (md : Int)) ∧ ∀ v, e.v = some v → e.dfn = (md : Int) ∧ badV kind v = false
theorem enOk_none {md lo hi df : Nat} {kind rep : Int} (h : df < md) : EnOk md lo hi kind rep [⟨rep, (df : Nat), none⟩] :=
  ⟨⟨_, _, rfl, rfl, fun x hx => by simp at hx⟩, fun e he => by
    rw [List.mem_singleton] at he
    subst he
    exact ⟨by simp, by simp; omega, fun _ => by simp; omega, fun v hv => by simp at hv⟩⟩
theorem dn_ok : ∀ (q : List Tr) (t : Tr) (md df ls : Nat) (z : Tr) (d : Dt) (rep : Int), Chn t q → (t :: q).getLast? = some z → df + lvD q = md → chk true t d = 0 → EnOk md ls (ls + lvR q) z.kind rep (dn md (stq t q df ls) d rep)
  | [], t, md, df, ls, z, d, rep, hc, hz, hm, h => by
    rw [stq, dn]
    have e : t = z := by simpa using hz
    subst e
    exact ⟨⟨_, _, rfl, rfl, fun x hx => by simp at hx⟩, fun e he => by
      rw [List.mem_singleton] at he
      subst he
      refine ⟨by simp, by simp, fun hv => by simp at hv, fun v hv => ⟨rfl, ?_⟩⟩
      obtain rfl : d.v = v := by simpa using hv
      exact (chk_lf hc h).2⟩
  | x :: q, t, md, df, ls, z, d, rep, hc, hz, hm, h => by
    obtain ⟨h1, h2, h3⟩ := chk_in hc h
    rw [List.getLast?_cons_cons] at hz
    rw [lvD_cq] at hm
    rw [stq, lvR_cq]
    by_cases hr : x.rep = 3
    · have hr1 : ¬ x.rep = 1 := by rw [hr]; decide
      simp only [if_neg hr1] at hm ⊢
      simp only [if_pos hr]
      by_cases hn : (d.f.getD (ixO t.sub x.id) default).l = []
      · rw [dn_nil md _ _ d rep hr hn]
        exact enOk_none (df := df) (by omega)
      · rw [dn]
        rw [if_pos hr]
        obtain ⟨e0, es, he⟩ : ∃ e0 es, (d.f.getD (ixO t.sub x.id) default).l = e0 :: es := by
          cases hl : (d.f.getD (ixO t.sub x.id) default).l with
          | nil => exact absurd hl hn
          | cons e0 es => exact ⟨e0, es, rfl⟩
        have hl := (chk_lst hr h2).2
        rw [he] at hl
        have H : ∀ e ∈ e0 :: es, ∀ rep, EnOk md (ls + 1) (ls + 1 + lvR q) z.kind rep (dn md (stq x q (df + 1) (ls + 1)) e rep) := fun e hm' rep => dn_ok q x md (df + 1) (ls + 1) z e rep h3 hz (by omega) (hl e hm')
        simp only [he]
        obtain ⟨⟨a, tl, ea, er, et⟩, hea⟩ := H e0 (by simp) rep
        refine ⟨⟨a, tl ++ es.flatMap (fun y => dn md (stq x q (df + 1) (ls + 1)) y ((ls + 1 : Nat) : Int)), by rw [ea, List.cons_append], er, fun y hy => ?_⟩, fun e hme => ?_⟩
        · rcases List.mem_append.1 hy with hy | hy
          · have := et y hy; omega
          · obtain ⟨e, hme, hy⟩ := List.mem_flatMap.1 hy
            obtain ⟨⟨a', tl', ea', er', et'⟩, _⟩ := H e (List.mem_cons_of_mem _ hme) ((ls + 1 : Nat) : Int)
            rw [ea'] at hy
            rcases List.mem_cons.1 hy with rfl | hy
            · rw [er']; omega
            · have := et' y hy; omega
        · rcases List.mem_append.1 hme with hme | hme
          · exact hea e hme
          · obtain ⟨e', hme', hy⟩ := List.mem_flatMap.1 hme
            exact (H e' (List.mem_cons_of_mem _ hme') ((ls + 1 : Nat) : Int)).each e hy
    · simp only [if_neg hr]
      rw [Nat.zero_add]
      by_cases hn : (d.f.getD (ixO t.sub x.id) default).no = true
      · rw [dn_none md _ _ d rep hr hn]
        have h2r := chk_no hr hn h2
        have hr1 : ¬ x.rep = 1 := by rw [h2r]; decide
        rw [if_neg hr1] at hm
        exact enOk_none (df := df) (by omega)
      · rw [Bool.not_eq_true] at hn
        rw [dn_one md _ _ d rep hr hn]
        exact dn_ok q x md _ ls z _ rep h3 hz (by by_cases h1 : x.rep = 1 <;> simp only [h1, if_true, if_false] at hm ⊢ <;> omega) (chk_yes hr hn h2)
/-- No more entries than a record is heavy. -/
theorem wt_fld {d : Dt} {i : Nat} (h : i < d.f.length) : wt d.f[i] + 1 ≤ wt d := by
  rw [wt_eq d]
  have t1 := wtL_take d.f i h
  have t2 := wtL_part d.f (i + 1)
  omega
theorem wt_pos (d : Dt) : 1 ≤ wt d := by rw [wt_eq]; omega
theorem dn_len : ∀ (sts : List Stp) (md : Nat) (d : Dt) (rep : Int), FitS sts d → (dn md sts d rep).length ≤ wt d
  | [], md, d, rep, _ => by rw [dn]; simpa using wt_pos d
  | s :: sts, md, d, rep, hf => by
    obtain ⟨h1, h2, h3⟩ := hf
    have hw := wt_fld h1
    rw [getD_at h1] at h2 h3
    by_cases hr : s.rep = 3
    · by_cases hn : (d.f.getD s.field default).l = []
      · rw [dn_nil md s sts d rep hr hn]; simpa using wt_pos d
      · rw [dn, if_pos hr]
        rw [getD_at h1] at hn ⊢
        have hl := h2 hr
        have hw2 := wt_eq d.f[s.field]
        have H : ∀ (es : List Dt), (∀ e ∈ es, FitS sts e) → (es.flatMap fun y => dn md sts y s.lists).length ≤ wtL es := fun es => by
          induction es with
          | nil => intro _; simp
          | cons e es ih =>
            intro hh
            have h1 := dn_len sts md e s.lists (hh e (by simp))
            have h2 := ih fun y hy => hh y (by simp [hy])
            rw [List.flatMap_cons, List.length_append, wtL]
            omega
        match hm : d.f[s.field].l, hn with
        | e :: es, _ =>
          rw [hm] at hl hw2
          have h1 := dn_len sts md e rep (hl e (by simp))
          have h2 := H es fun y hy => hl y (by simp [hy])
          simp only [List.length_append]
          rw [wtL] at hw2
          omega
    · by_cases hn : (d.f.getD s.field default).no = true
      · rw [dn_none md s sts d rep hr hn]; simpa using wt_pos d
      · rw [Bool.not_eq_true] at hn
        rw [dn_one md s sts d rep hr hn]
        rw [getD_at h1] at hn ⊢
        have := dn_len sts md d.f[s.field] rep (h3 hr hn)
        omega
theorem ents_len (sts : List Stp) (md : Nat) : ∀ (ds : List Dt), (∀ d ∈ ds, FitS sts d) → (ents md sts ds).length ≤ wtL ds
  | [], _ => by simp [ents, wtL]
  | d :: ds, h => by
    have h1 := dn_len sts md d 0 (h d (by simp))
    have h2 := ents_len sts md ds fun y hy => h y (by simp [hy])
    unfold ents at h2 ⊢
    rw [List.flatMap_cons, List.length_append, wtL]
    omega
end Go.Proofs.YtdpedailookcjaaDoor

namespace Go.Proofs.YtdpedailookcjaaDoor
open Go.RowKit
/-- What there is of a node, each as if it were Required. -/
def ons (t : Tr) (d : Dt) : List Dt := if t.rep = 3 then d.l else if d.no = true then [] else [d]
/-- The values at the end of a way. -/
def vo : Tr → List Tr → Dt → List Vl
  | _, [], o => [o.v]
  | t, x :: q, o => (ons x (o.f.getD (ixO t.sub x.id) default)).flatMap (vo x q)
theorem eV_flat (f : Dt → List Ent) (g : Dt → List Vl) (h : ∀ y, eV (f y) = g y) : ∀ es : List Dt, eV (es.flatMap f) = es.flatMap g
  | [] => rfl
  | e :: es => by rw [List.flatMap_cons, eV_app, h, List.flatMap_cons, eV_flat f g h es]
theorem eV_dn : ∀ (q : List Tr) (t : Tr) (md df ls : Nat) (o : Dt) (rep : Int), eV (dn md (stq t q df ls) o rep) = vo t q o
  | [], t, md, df, ls, o, rep => by rw [stq, dn, vo]; rfl
  | x :: q, t, md, df, ls, o, rep => by
    rw [stq, dn, vo, ons]
    by_cases hr : x.rep = 3
    · simp only [if_pos hr]
      cases hl : (o.f.getD (ixO t.sub x.id) default).l with
      | nil => rfl
      | cons e es =>
        simp only
        rw [eV_app, eV_dn q x, List.flatMap_cons]
        rw [eV_flat _ (vo x q) (fun y => eV_dn q x md _ _ y _)]
    · simp only [if_neg hr]
      by_cases hn : (o.f.getD (ixO t.sub x.id) default).no = true
      · simp only [if_pos hn]; rfl
      · simp only [if_neg hn, List.flatMap_cons, List.flatMap_nil, List.append_nil]
        exact eV_dn q x _ _ _ _ _
theorem eV_ents (q : List Tr) (t : Tr) (md : Nat) : ∀ ds : List Dt, eV (ents md (stq t q 0 0) ds) = ds.flatMap (vo t q)
  | [] => rfl
  | d :: ds => by
    have ih := eV_ents q t md ds
    unfold ents at ih ⊢
    rw [List.flatMap_cons, eV_app, eV_dn, List.flatMap_cons, ih]
end Go.Proofs.YtdpedailookcjaaDoor

namespace Go.Proofs.YtdpedailookcjaaDoor
open Go.RowKit
set_option maxRecDepth 100000 in
set_option maxHeartbeats 1600000 in
theorem plEq_any (id : Int) (s : ByteArray) (g : Nat) (y0 y2 y3 : Int) (a : Option Addr) (n c : Nat) (W : World) (hg : W.heap[g]? = some (.cells #[.int .i64 id] 3 (0, 0))) :
    Calls Tryd.prog 71 #[.agg #[.int .i64 y0, .string s, .int .i64 y2, .int .i64 y3, .slice a n c], .pointer (some ⟨g, 0, none⟩)] W fun e w' => e = .returned (.bool (y0 == id)) ∧ Below W.heap.size W w' := by
  have HB : Hid (Below W.heap.size W (W.alloc (.cells #[.int .i64 y0, .string s, .int .i64 y2, .int .i64 y3, .slice a n c] 24))) := (Below.refl _ _).alloc (Nat.le_refl _) _
  obtain ⟨p0, _⟩ := row_one (blk_alloc (o' := .cells #[.int .i64 y0, .string s, .int .i64 y2, .int .i64 y3, .slice a n c] 24) hg)
  clear hg
  go_enter Tryd.func71, Tryd.ntmps71
  go_wp2
  go_ret
  exact ⟨rfl, HB.out⟩
set_option maxRecDepth 100000 in
set_option maxHeartbeats 1600000 in
/-- slices.IndexFunc over nodes: the first with that number. -/
theorem plIx_any (id : Int) (g : Nat) (P : Nat → Prop) (a : Option Addr) (c : Nat) (ts : List Tr) (hn : ts.length ≤ 1048576) (W : World) (hg : W.heap[g]? = some (.cells #[.int .i64 id] 3 (0, 0))) (hl : LiesN W P a ts) :
    Calls Tryd.prog (63) #[.slice a ts.length c, .func (.func 71) #[] #[.pointer (some ⟨g, 0, none⟩)]] W fun e w' => (∃ r, e = .returned (.int .i64 r) ∧ Idx (fun t => t.id == id) ts r) ∧ Below W.heap.size W w' := by
  have HL : Hid (LiesN W P a ts) := hl
  have HG : Hid (W.heap[g]? = some (.cells #[.int .i64 id] 3 (0, 0))) := hg
  clear hl hg
  go_enter Tryd.func63, Tryd.ntmps63
  go_wp2
  go_loopw [8] (fun x wr => ∃ i : Nat, i ≤ ts.length ∧ x = .int .i64 i ∧ Hid (∀ j (h : j < ts.length), j < i → (ts[j].id == id) = false) ∧ Below W.heap.size W wr) (fun x _ => ts.length - (intOf x).toNat)
  case atStart => exact ⟨0, Nat.zero_le _, rfl, fun j _ h => absurd h (Nat.not_lt_zero _), Below.refl _ _⟩
  case round =>
    obtain ⟨i, hi, rfl, HA, hb⟩ := hrel
    have HB : Hid _ := hb
    by_cases hlt : i < ts.length
    · obtain ⟨b, o, a1, c1, rfl, d0, d1, d2, d3, d4, hl1⟩ := (HL.out.keep hb).at_ i hlt
      clear hl1
      have HGr : Hid (wr.heap[g]? = some (.cells #[.int .i64 id] 3 (0, 0))) := blk_keep hb HG.out
      clear hb
      go_wp2_with fail
      refine (plEq_any id ts[i].nm g _ _ _ a1 _ c1 wr HGr.out).mono ?_
      rintro e w1 ⟨rfl, hb1⟩
      have HB1 : Hid (Below W.heap.size W w1) := HB.out.trans (hb1.mono HB.out.size)
      clear hb1
      cases hq : (ts[i].id == id) with
      | true =>
        have HQ : Hid _ := hq
        clear hq
        go_wp2
        go_ret
        exact ⟨⟨(i : Int), rfl, .inr ⟨i, hlt, rfl, HQ.out, fun j h => HA.out j (by omega) h⟩⟩, HB1.out⟩
      | false =>
        have HN : Hid (∀ j (h : j < ts.length), j < i + 1 → (ts[j].id == id) = false) := fun j h hj => by
          by_cases e : j = i
          · subst e; exact hq
          · exact HA.out j h (by omega)
        clear hq
        go_wp2
        go_roundw
        case rel => exact ⟨i + 1, by omega, by go_num, HN, HB1⟩
        case measure => simp [intOf]; omega
    · obtain rfl : i = ts.length := by omega
      go_wp2
      go_ret
      exact ⟨⟨-1, rfl, .inl ⟨rfl, fun j h => HA.out j h h⟩⟩, hb⟩
set_option maxRecDepth 100000 in
set_option maxHeartbeats 1600000 in
/-- placeOf a node that is there. -/
theorem placeOf_at (t : Tr) (hsm : t.sub.length ≤ 1048576) (id : Int) (i : Nat) (hi : i < t.sub.length) (hid : t.sub[i].id = id) (hf : ∀ j (h : j < i), (t.sub[j]'(Nat.lt_trans h hi)).id ≠ id) (P : Nat → Prop) (a : Option Addr) (c : Nat) (W : World) (hl : LiesN W P a t.sub) :
    Calls Tryd.prog 50 #[nodeV t a c, .int .i64 id] W fun e w' => e = .returned (.int .i64 (i : Nat)) ∧ Below W.heap.size W w' := by
  obtain ⟨w0, HW0, HX, HY, HB⟩ := two_boxesS W #[.int .i64 t.id, .string t.nm, .int .i64 t.rep, .int .i64 t.kind, .slice a t.sub.length c] #[.int .i64 id] 24 3
  have HC : Hid _ := plIx_any id (W.heap.size + 1) P a c t.sub hsm w0 HY.out (hl.keep HB.out)
  obtain ⟨⟨p0, p1, p2, p3, p4⟩, _⟩ := row_five HX.out
  have HR : Hid (∀ r, Idx (fun t => t.id == id) t.sub r → r = (i : Int)) := fun r h => by
    rcases h with ⟨_, h⟩ | ⟨k, hk, rfl, h1, h2⟩
    · have := h i hi; simp [hid] at this
    · have e : k = i := by
        rcases Nat.lt_trichotomy k i with h | h | h
        · have := hf k h; simp at h1; exact absurd h1 this
        · exact h
        · have := h2 i h; simp [hid] at this
      rw [e]
  clear hl hid hf
  unfold nodeV
  go_enter Tryd.func50, Tryd.ntmps50
  go_wp2_with fail
  rw [HW0.out]
  refine Calls.mono HC.out ?_
  rintro e w1 ⟨⟨r, rfl, hr⟩, hb1⟩
  obtain rfl := HR.out r hr
  have HB1 : Hid (Below W.heap.size W w1) := HB.out.trans (hb1.mono HB.out.size)
  clear hb1 hr
  go_wp2
  go_ret
  exact ⟨rfl, HB1.out⟩
set_option maxRecDepth 100000 in
set_option maxHeartbeats 1600000 in
/-- ones, of a list. -/
theorem ones_lst (t : Tr) (d : Dt) (hr : t.rep = 3) (a : Option Addr) (c : Nat) (al : Option Addr) (cl : Nat) (af : Option Addr) (cf : Nat) (W : World) :
    Calls Tryd.prog 49 #[nodeV t a c, datumV d al cl af cf] W fun e w' => e = .returned (.slice al d.l.length cl) ∧ Below W.heap.size W w' := by
  obtain ⟨w0, HW0, HX, HY, HB⟩ := two_boxesS W #[.int .i64 t.id, .string t.nm, .int .i64 t.rep, .int .i64 t.kind, .slice a t.sub.length c] #[.bool d.no, .int .i64 d.v.k, .int .i64 d.v.n, .string d.v.s, .slice al d.l.length cl, .slice af d.f.length cf] 24 55
  have q : (t.rep == 3) = true := by simp [hr]
  clear hr
  obtain ⟨⟨p0, p1, p2, p3, p4⟩, _⟩ := row_five HX.out
  obtain ⟨z0, z1, z2, z3, z4, z5⟩ := row_six HY.out
  unfold nodeV datumV
  go_enter Tryd.func49, Tryd.ntmps49
  go_upto_region 1 with fail
  rw [HW0.out]
  go_wp2
  go_ret
  exact ⟨rfl, HB.out⟩
set_option maxRecDepth 100000 in
set_option maxHeartbeats 1600000 in
/-- .. of what is not there. -/
theorem ones_no (t : Tr) (d : Dt) (hr : t.rep ≠ 3) (hn : d.no = true) (a : Option Addr) (c : Nat) (al : Option Addr) (cl : Nat) (af : Option Addr) (cf : Nat) (W : World) :
    Calls Tryd.prog 49 #[nodeV t a c, datumV d al cl af cf] W fun e w' => e = .returned (.slice none 0 0) ∧ Below W.heap.size W w' := by
  unfold nodeV datumV
  rw [hn]
  obtain ⟨w0, HW0, HX, HY, HB⟩ := two_boxesS W #[.int .i64 t.id, .string t.nm, .int .i64 t.rep, .int .i64 t.kind, .slice a t.sub.length c] #[.bool true, .int .i64 d.v.k, .int .i64 d.v.n, .string d.v.s, .slice al d.l.length cl, .slice af d.f.length cf] 24 55
  have q : (t.rep == 3) = false := by simp [hr]
  clear hr hn
  obtain ⟨⟨p0, p1, p2, p3, p4⟩, _⟩ := row_five HX.out
  obtain ⟨z0, z1, z2, z3, z4, z5⟩ := row_six HY.out
  go_enter Tryd.func49, Tryd.ntmps49
  go_upto_region 1 with fail
  rw [HW0.out]
  go_wp2
  go_ret
  exact ⟨rfl, HB.out⟩
set_option maxRecDepth 100000 in
set_option maxHeartbeats 1600000 in
/-- .. of one. -/
theorem ones_one (t : Tr) (d : Dt) (hr : t.rep ≠ 3) (hn : d.no = false) (a : Option Addr) (c : Nat) (al : Option Addr) (cl : Nat) (af : Option Addr) (cf : Nat) (W : World) :
    Calls Tryd.prog 49 #[nodeV t a c, datumV d al cl af cf] W fun e w' => (∃ g, e = .returned (.slice (some ⟨g, 0, none⟩) 1 1) ∧ W.heap.size ≤ g ∧ w'.heap[g]? = some (.cells #[.bool d.no, .int .i64 d.v.k, .int .i64 d.v.n, .string d.v.s, .slice al d.l.length cl, .slice af d.f.length cf] 55 (0, 0))) ∧ Below W.heap.size W w' := by
  unfold nodeV datumV
  rw [hn]
  obtain ⟨w0, HW0, HX, HY, HB⟩ := two_boxesS W #[.int .i64 t.id, .string t.nm, .int .i64 t.rep, .int .i64 t.kind, .slice a t.sub.length c] #[.bool false, .int .i64 d.v.k, .int .i64 d.v.n, .string d.v.s, .slice al d.l.length cl, .slice af d.f.length cf] 24 55
  have q : (t.rep == 3) = false := by simp [hr]
  clear hr hn
  obtain ⟨⟨p0, p1, p2, p3, p4⟩, _⟩ := row_five HX.out
  obtain ⟨z0, z1, z2, z3, z4, z5⟩ := row_six HY.out
  go_enter Tryd.func49, Tryd.ntmps49
  go_upto_region 1 with fail
  rw [HW0.out]
  go_wp2
  go_ret
  exact ⟨⟨_, rfl, HB.out.size, heap_alloc_new _ _⟩, HB.out.alloc HB.out.size _⟩
end Go.Proofs.YtdpedailookcjaaDoor
