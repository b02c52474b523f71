/-
  shred.Part: cuts of lists; slices that are sliced; what Part answers.
-/
import Derived.Test.YthlnjnoeaicjjaaDoorQBColO
import Derived.Deep.DeepCutAuto
import Derived.Deep.RegionHeld3
namespace Go.Proofs.YthlnjnoeaicjjaaDoor
open Go.RowKit
theorem results_cR {P : Program} {fn : Func} {p u : Tmp} {ty : TypeId} (h : fn.results = #[.cell p ty, .tmp u]) (tmps : Array Value) (w : World) (g : Nat) (t : TypeId) (cs : Array Value) (fr : Nat × Nat) (d : TypeDesc) (y : Value)
    (hp : tmps.getD p undef = .pointer (some ⟨g, 0, none⟩)) (hy : tmps.getD u undef = y) (hg : w.heap[g]? = some (.cells cs t fr))
    (hu : P.underlying ty = some d) (hd : (match d with | .struct _ | .array _ _ => true | _ => false) = true) (hi : (P.info? ty).map (·.size) = some cs.size) :
    (results fn tmps).run P w = .ok (.tuple #[.agg cs, y]) w := by
  have hp' : tmps[p]?.getD undef = .pointer (some ⟨g, 0, none⟩) := by simpa using hp
  have hy' : tmps[u]?.getD undef = y := by simpa using hy
  simp [results, h, hp', hy', asAddr, Result.andThen, run_loadVar_row w g t ty cs fr d hg hu hd hi]
/-- From a place up to another one. -/
def cutL {α : Type} (l : List α) (a b : Nat) : List α := (l.take b).drop a
theorem cutL_len {α : Type} (l : List α) (a b : Nat) (h : b ≤ l.length) : (cutL l a b).length = b - a := by simp [cutL]; omega
theorem cutL_at {α : Type} (l : List α) (a b j : Nat) (h : j < (cutL l a b).length) : ∃ h2 : a + j < l.length, (cutL l a b)[j] = l[a + j] := by
  unfold cutL at *
  simp at h
  exact ⟨by omega, by simp⟩
theorem three_boxes (W : World) (c1 c2 c3 : Array Value) (t1 t2 t3 : TypeId) : ∃ w0, Hid (((W.alloc (.cells c1 t1)).alloc (.cells c2 t2)).alloc (.cells c3 t3) = w0) ∧ Hid (w0.heap[W.heap.size]? = some (.cells c1 t1 (0, 0))) ∧ Hid (w0.heap[W.heap.size + 1]? = some (.cells c2 t2 (0, 0))) ∧ Hid (w0.heap[W.heap.size + 1 + 1]? = some (.cells c3 t3 (0, 0))) ∧ Hid (Below W.heap.size W w0) := by
  obtain ⟨w1, H1, H2, H3, H4⟩ := two_boxes W c1 c2 t1 t2
  refine ⟨w1.alloc (.cells c3 t3), by show _ = _; rw [H1.out], blk_alloc H2.out, blk_alloc H3.out, ?_, H4.out.alloc H4.out.size _⟩
  have h := heap_alloc_new w1 (.cells c3 t3)
  rw [show w1.heap.size = W.heap.size + 1 + 1 by rw [← H1.out]; simp] at h
  exact h
theorem bel_next {B : Nat} {w X x' : World} (h : Below B w X) (hB : B ≤ w.heap.size) (hb : Below X.heap.size X x') : Below B w x' := h.trans (hb.mono (Nat.le_trans hB h.size))
theorem Cl.Fr.low {N M : Nat} {c : Cl} (h : c.Fr N) (hm : M ≤ N) : c.Fr M := ⟨fun p hp => Nat.le_trans hm (h.r p hp), fun p hp => Nat.le_trans hm (h.d p hp), fun p hp => Nat.le_trans hm (h.v p hp)⟩
/-- Where a slice of a slice lies. -/
theorem four_boxes (W : World) (c1 c2 c3 c4 : Array Value) (t1 t2 t3 t4 : TypeId) : ∃ w0, Hid ((((W.alloc (.cells c1 t1)).alloc (.cells c2 t2)).alloc (.cells c3 t3)).alloc (.cells c4 t4) = w0) ∧ Hid (w0.heap[W.heap.size]? = some (.cells c1 t1 (0, 0))) ∧ Hid (w0.heap[W.heap.size + 1]? = some (.cells c2 t2 (0, 0))) ∧ Hid (w0.heap[W.heap.size + 1 + 1]? = some (.cells c3 t3 (0, 0))) ∧ Hid (w0.heap[W.heap.size + 1 + 1 + 1]? = some (.cells c4 t4 (0, 0))) ∧ Hid (Below W.heap.size W w0) := by
  obtain ⟨w1, H1, H2, H3, H5, H4⟩ := three_boxes W c1 c2 c3 t1 t2 t3
  refine ⟨w1.alloc (.cells c4 t4), by show _ = _; rw [H1.out], blk_alloc H2.out, blk_alloc H3.out, blk_alloc H5.out, ?_, H4.out.alloc H4.out.size _⟩
  have h := heap_alloc_new w1 (.cells c4 t4)
  rw [show w1.heap.size = W.heap.size + 1 + 1 + 1 by rw [← H1.out]; simp] at h
  exact h
theorem lies_cut {w : World} {a : Option Addr} {cs : List Value} (h : Lies w a cs) (l m c : Nat) (hm : m ≤ cs.length) (hc : cs.length ≤ c) {x : Option Addr} (hx : x = if c = l then a else a.map (fun p => p.add (l * 1))) : Lies w x (cutL cs l m) := fun j hj => by
  obtain ⟨h2, e⟩ := cutL_at cs l m j hj
  have hj2 : j < m - l := by rw [cutL_len cs l m hm] at hj; exact hj
  obtain ⟨b, o, rfl, hcell⟩ := h (l + j) h2
  rw [if_neg (by omega)] at hx
  refine ⟨b, o + l, by rw [hx]; simp [addr_add], ?_⟩
  rw [e, Nat.add_assoc]; exact hcell
theorem liesV_cut {w : World} {a : Option Addr} {vs : List Vl} (h : LiesV w a vs) (l m c : Nat) (hm : m ≤ vs.length) (hc : vs.length ≤ c) {x : Option Addr} (hx : x = if c = l then a else a.map (fun p => p.add (l * 3))) : LiesV w x (cutL vs l m) := fun j hj => by
  obtain ⟨h2, e⟩ := cutL_at vs l m j hj
  have hj2 : j < m - l := by rw [cutL_len vs l m hm] at hj; exact hj
  obtain ⟨b, o, rfl, h0, h1, h3⟩ := h (l + j) h2
  rw [if_neg (by omega)] at hx
  have e3 : o + (l + j) * 3 = o + l * 3 + j * 3 := by omega
  rw [e3] at h0 h1 h3
  refine ⟨b, o + l * 3, by rw [hx]; simp [addr_up], ?_, ?_, ?_⟩ <;> rw [e] <;> assumption
theorem i64s_cut (xs : List Int) (a b : Nat) : i64s (cutL xs a b) = cutL (i64s xs) a b := by simp [i64s, cutL]
theorem cntE_app (md : Int) (xs ys : List Int) : cntE md (xs ++ ys) = cntE md xs + cntE md ys := by simp [cntE]
theorem cntE_cut (md : Int) (xs : List Int) (a b : Nat) (h : a ≤ b) : cntE md (xs.take b) = cntE md (xs.take a) + cntE md (cutL xs a b) := by
  have e : xs.take b = xs.take a ++ cutL xs a b := by
    have e1 := (List.take_append_drop a (xs.take b)).symm
    rw [List.take_take, Nat.min_eq_left h] at e1
    exact e1
  exact (congrArg (cntE md) e).trans (cntE_app _ _ _)
theorem cntE_mono (md : Int) (xs : List Int) {a b : Nat} (h : a ≤ b) : cntE md (xs.take a) ≤ cntE md (xs.take b) := by rw [cntE_cut md xs a b h]; omega
theorem cntE_all (md : Int) (xs : List Int) (a : Nat) : cntE md (xs.take a) ≤ cntE md xs := by
  have h : cntE md xs = cntE md (xs.take a) + cntE md (xs.drop a) := by rw [← cntE_app, List.take_append_drop]
  omega
theorem StAt.le {rs : List Int} {x y : Int} {a b : Nat} (ha : StAt rs x a) (hb : StAt rs y b) (h : x ≤ y) : a ≤ b := by
  rcases Nat.lt_or_ge b a with hlt | hge
  · exfalso
    have h1 := ha.2.1 b hlt
    have h2 := hb.2.2 (by have := ha.1; omega)
    omega
  · exact hge
theorem valuesOf_n (id kind mr md : Int) (pa : Option Addr) (pn pc : Nat) (a : Option Addr) (n c : Nat) (xs : List Int) (hn : xs.length ≤ 1048576) (W : World) (hl : Lies W a (i64s xs)) (he : n = xs.length) :
    Calls Tryd.prog 40 #[leafV id kind mr md pa pn pc, .slice a n c] W fun e w' => e = .returned (.int .i64 (cntE md xs : Nat)) ∧ Below W.heap.size W w' := by
  subst he
  exact valuesOf_any id kind mr md pa pn pc a c xs hn W hl
theorem joined_n (lid kind mr md : Int) (pa : Option Addr) (pn pc : Nat) (a : Option Addr) (n c : Nat) (cs : List Cl) (W : World) (hn : cs.length ≤ 1048576) (hjr : (jR cs).length ≤ 1048576) (hjd : (jD cs).length ≤ 1048576) (hjv : (jV cs).length ≤ 1048576) (hl : LiesC W a cs) (he : n = cs.length) :
    Calls Tryd.prog 31 #[leafV lid kind mr md pa pn pc, .slice a n c] W fun e w' => (∃ k : Cl, e = .returned (.agg #[.int .i64 k.id, .slice k.ra k.rs.length k.rc, .slice k.da k.ds.length k.dc, .slice k.va k.vs.length k.vc]) ∧ k.At w' ∧ k.Fr W.heap.size ∧ k.id = lid ∧ k.rs = jR cs ∧ k.ds = jD cs ∧ k.vs = jV cs) ∧ Below W.heap.size W w' := by
  subst he
  exact joined_any lid kind mr md pa pn pc a c cs W hn hjr hjd hjv hl
theorem joined_nc (lid kind mr md : Int) (pa : Option Addr) (pn pc : Nat) (a : Option Addr) (n c : Nat) (cs : List Cl) (W : World) (hn : cs.length ≤ 1048576) (hjr : (jR cs).length ≤ 1048576) (hjd : (jD cs).length ≤ 1048576) (hjv : (jV cs).length ≤ 1048576) (hl : LiesC W a cs) (he : n = cs.length) :
    Calls Tryd.prog 31 #[leafV lid kind mr md pa pn pc, .slice a n c] W fun e w' => (∃ k : Cl, e = .returned (.agg #[.int .i64 k.id, .slice k.ra k.rs.length k.rc, .slice k.da k.ds.length k.dc, .slice k.va k.vs.length k.vc]) ∧ k.At w' ∧ k.Fr W.heap.size ∧ k.id = lid ∧ k.rs = jR cs ∧ k.ds = jD cs ∧ k.vs = jV cs ∧ k.Cap) ∧ Below W.heap.size W w' := by
  subst he
  exact joined_cap lid kind mr md pa pn pc a c cs W hn hjr hjd hjv hl
/-- A column of nothing. -/
abbrev zeroC : Value := .agg #[.int .i64 0, .slice none 0 0, .slice none 0 0, .slice none 0 0]
/-- Is a column right for a leaf? -/
def GoodC (lid kind mr md : Int) (c : Cl) : Prop := (isLfB kind mr md && fitB lid mr md c.id c.rs c.ds c.vs.length) = true ∧ ∀ j (h : j < c.vs.length), badV kind c.vs[j] = false
/-- What is told of a column that is not right. -/
def BadRet (N : Nat) (lid kind mr md : Int) (c : Cl) (sv kv : Value) (e : Ending) (w' : World) : Prop :=
  ((isLfB kind mr md && fitB lid mr md c.id c.rs c.ds c.vs.length) = false ∧ e = .returned (.tuple #[zeroC, sv])) ∨
  ((isLfB kind mr md && fitB lid mr md c.id c.rs c.ds c.vs.length) = true ∧ ∃ p : Nat, ∃ hp : p < c.vs.length, badV kind c.vs[p] = true ∧ (∀ j (h : j < c.vs.length), j < p → badV kind c.vs[j] = false) ∧ ∃ q, N ≤ q ∧ e = .returned (.tuple #[zeroC, .iface 76 (.pointer (some ⟨q, 0, none⟩))]) ∧ w'.cell? ⟨q, 0, none⟩ = some (.int .i64 p) ∧ w'.cell? ⟨q, 1, none⟩ = some kv)
/-- What Part answers. -/
def PtRet (N : Nat) (lid kind mr md : Int) (c : Cl) (lo hi : Int) (sv kv bv : Value) (e : Ending) (w' : World) : Prop :=
  BadRet N lid kind mr md c sv kv e w' ∨
  (GoodC lid kind mr md c ∧ ¬ (0 ≤ lo ∧ lo ≤ hi ∧ hi ≤ (cntE 0 c.rs : Nat)) ∧ e = .returned (.tuple #[zeroC, bv])) ∨
  (GoodC lid kind mr md c ∧ (0 ≤ lo ∧ lo ≤ hi ∧ hi ≤ (cntE 0 c.rs : Nat)) ∧ ∃ (k : Cl) (a b : Nat), e = .returned (.tuple #[k.val, .nilIface]) ∧ k.At w' ∧ k.Fr N ∧ StAt c.rs lo a ∧ StAt c.rs hi b ∧ k.id = lid ∧ k.rs = cutL c.rs a b ∧ k.ds = cutL c.ds a b ∧ k.vs = cutL c.vs (cntE md (c.ds.take a)) (cntE md (c.ds.take b)))
/-- What Part's boxes hold. -/
structure PtI (W : World) (lid kind mr md : Int) (pa : Option Addr) (pn pc : Nat) (c : Cl) (X : World) : Prop where
  lf : X.heap[W.heap.size]? = some (.cells #[.int .i64 lid, .int .i64 kind, .int .i64 mr, .int .i64 md, .slice pa pn pc] 48 (0, 0))
  co : X.heap[W.heap.size + 1]? = some (.cells #[.int .i64 c.id, .slice c.ra c.rs.length c.rc, .slice c.da c.ds.length c.dc, .slice c.va c.vs.length c.vc] 44 (0, 0))
  re : X.heap[W.heap.size + 1 + 1]? = some (.cells #[.int .i64 0, .slice none 0 0, .slice none 0 0, .slice none 0 0] 44 (0, 0))
  old : Below W.heap.size W X
theorem PtI.keep {W : World} {lid kind mr md : Int} {pa : Option Addr} {pn pc : Nat} {c : Cl} {X w' : World} (h : PtI W lid kind mr md pa pn pc c X) (hb : Below (W.heap.size + 1 + 1 + 1) X w') : PtI W lid kind mr md pa pn pc c w' :=
  ⟨(hb.block _ (by omega)).trans h.lf, (hb.block _ (by omega)).trans h.co, (hb.block _ (by omega)).trans h.re, h.old.trans (hb.mono (by omega))⟩
end Go.Proofs.YthlnjnoeaicjjaaDoor
