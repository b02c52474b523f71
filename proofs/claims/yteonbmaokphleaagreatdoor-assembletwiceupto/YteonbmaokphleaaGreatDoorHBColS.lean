/-
  shred.Part: cuts of lists; slices that are sliced; what Part answers.
  The steps to a leaf, and the entries that a right record makes along them: the words, without the program.
  The entries that a right record makes on the way to a leaf: their levels, their values, how many.
  What a record is when it is cut: the words, without the program.
  shred.Part, walked.
-/
import Derived.Test.YteonbmaokphleaaGreatDoorHBColH
import Derived.Deep.DeepCutAuto
import Derived.Deep.RegionHeld3
import Derived.Test.YteonbmaokphleaaGreatDoorHBIds
import Derived.Test.YteonbmaokphleaaGreatDoorHBLvM
import Derived.Test.YteonbmaokphleaaGreatDoorHBColOf
import Derived.Test.YteonbmaokphleaaGreatDoorHBChkD
namespace Go.Proofs.YteonbmaokphleaaGreatDoor
open Go.RowKit
theorem results_cR {P : Program} {fn : Func} {p u : Tmp} {ty : TypeId} (h : fn.results = #[.cell p ty, .tmp u]) (tmps : Array Value) (w : World) (g : Nat) (t : TypeId) (cs : Array Value) (fr : Nat × Nat) (d : TypeDesc) (y : Value)
    (hp : tmps.getD p undef = .pointer (some ⟨g, 0, none⟩)) (hy : tmps.getD u undef = y) (hg : w.heap[g]? = some (.cells cs t fr))
    (hu : P.underlying ty = some d) (hd : (match d with | .struct _ | .array _ _ => true | _ => false) = true) (hi : (P.info? ty).map (·.size) = some cs.size) :
    (results fn tmps).run P w = .ok (.tuple #[.agg cs, y]) w := by
 have hp' : tmps[p]?.getD undef = .pointer (some ⟨g, 0, none⟩) := by simpa using hp
 have hy' : tmps[u]?.getD undef = y := by simpa using hy
 simp [results, h, hp', hy', asAddr, Result.andThen, run_loadVar_row w g t ty cs fr d hg hu hd hi]
def cutL {α : Type} (l : List α) (a b : Nat) : List α := (l.take b).drop a
theorem cutL_len {α : Type} (l : List α) (a b : Nat) (h : b ≤ l.length) : (cutL l a b).length = b - a := by simp [cutL]; omega
theorem cutL_at {α : Type} (l : List α) (a b j : Nat) (h : j < (cutL l a b).length) : ∃ h2 : a + j < l.length, (cutL l a b)[j] = l[a + j] := by
 unfold cutL at *
 simp at h
 exact ⟨by omega, by simp⟩
theorem three_boxes (W : World) (c1 c2 c3 : Array Value) (t1 t2 t3 : TypeId) : ∃ w0, Hid (((W.alloc (.cells c1 t1)).alloc (.cells c2 t2)).alloc (.cells c3 t3) = w0) ∧ Hid (w0.heap[W.heap.size]? = some (.cells c1 t1 (0, 0))) ∧ Hid (w0.heap[W.heap.size + 1]? = some (.cells c2 t2 (0, 0))) ∧ Hid (w0.heap[W.heap.size + 1 + 1]? = some (.cells c3 t3 (0, 0))) ∧ Hid (Below W.heap.size W w0) := by
 obtain ⟨w1, H1, H2, H3, H4⟩ := two_boxes W c1 c2 t1 t2
 refine ⟨w1.alloc (.cells c3 t3), by show _ = _; rw [H1.out], blk_alloc H2.out, blk_alloc H3.out, ?_, H4.out.alloc H4.out.size _⟩
 have h := heap_alloc_new w1 (.cells c3 t3)
 rw [show w1.heap.size = W.heap.size + 1 + 1 by rw [← H1.out]; simp] at h
 exact h
theorem bel_next {B : Nat} {w X x' : World} (h : Below B w X) (hB : B ≤ w.heap.size) (hb : Below X.heap.size X x') : Below B w x' := h.trans (hb.mono (Nat.le_trans hB h.size))
theorem Cl.Fr.low {N M : Nat} {c : Cl} (h : c.Fr N) (hm : M ≤ N) : c.Fr M := ⟨fun p hp => Nat.le_trans hm (h.r p hp), fun p hp => Nat.le_trans hm (h.d p hp), fun p hp => Nat.le_trans hm (h.v p hp)⟩
theorem lies_cut {w : World} {a : Option Addr} {cs : List Value} (h : Lies w a cs) (l m c : Nat) (hm : m ≤ cs.length) (hc : cs.length ≤ c) {x : Option Addr} (hx : x = if c = l then a else a.map (fun p => p.add (l * 1))) : Lies w x (cutL cs l m) := fun j hj => by
 obtain ⟨h2, e⟩ := cutL_at cs l m j hj
 have hj2 : j < m - l := by rw [cutL_len cs l m hm] at hj; exact hj
 obtain ⟨b, o, rfl, hcell⟩ := h (l + j) h2
 rw [if_neg (by omega)] at hx
 refine ⟨b, o + l, by rw [hx]; simp [addr_add], ?_⟩
 rw [e, Nat.add_assoc]; exact hcell
theorem liesV_cut {w : World} {a : Option Addr} {vs : List Vl} (h : LiesV w a vs) (l m c : Nat) (hm : m ≤ vs.length) (hc : vs.length ≤ c) {x : Option Addr} (hx : x = if c = l then a else a.map (fun p => p.add (l * 3))) : LiesV w x (cutL vs l m) := fun j hj => by
 obtain ⟨h2, e⟩ := cutL_at vs l m j hj
 have hj2 : j < m - l := by rw [cutL_len vs l m hm] at hj; exact hj
 obtain ⟨b, o, rfl, h0, h1, h3⟩ := h (l + j) h2
 rw [if_neg (by omega)] at hx
 have e3 : o + (l + j) * 3 = o + l * 3 + j * 3 := by omega
 rw [e3] at h0 h1 h3
 refine ⟨b, o + l * 3, by rw [hx]; simp [addr_up], ?_, ?_, ?_⟩ <;> rw [e] <;> assumption
theorem i64s_cut (xs : List Int) (a b : Nat) : i64s (cutL xs a b) = cutL (i64s xs) a b := by simp [i64s, cutL]
theorem cntE_app (md : Int) (xs ys : List Int) : cntE md (xs ++ ys) = cntE md xs + cntE md ys := by simp [cntE]
theorem cntE_cut (md : Int) (xs : List Int) (a b : Nat) (h : a ≤ b) : cntE md (xs.take b) = cntE md (xs.take a) + cntE md (cutL xs a b) := by
 have e : xs.take b = xs.take a ++ cutL xs a b := by
  have e1 := (List.take_append_drop a (xs.take b)).symm
  rw [List.take_take, Nat.min_eq_left h] at e1
  exact e1
 exact (congrArg (cntE md) e).trans (cntE_app _ _ _)
theorem cntE_mono (md : Int) (xs : List Int) {a b : Nat} (h : a ≤ b) : cntE md (xs.take a) ≤ cntE md (xs.take b) := by rw [cntE_cut md xs a b h]; omega
theorem cntE_all (md : Int) (xs : List Int) (a : Nat) : cntE md (xs.take a) ≤ cntE md xs := by
 have h : cntE md xs = cntE md (xs.take a) + cntE md (xs.drop a) := by rw [← cntE_app, List.take_append_drop]
 omega
theorem StAt.le {rs : List Int} {x y : Int} {a b : Nat} (ha : StAt rs x a) (hb : StAt rs y b) (h : x ≤ y) : a ≤ b := by
 rcases Nat.lt_or_ge b a with hlt | hge
 · exfalso
   have h1 := ha.2.1 b hlt
   have h2 := hb.2.2 (by have := ha.1; omega)
   omega
 · exact hge
theorem valuesOf_n (id kind mr md : Int) (pa : Option Addr) (pn pc : Nat) (a : Option Addr) (n c : Nat) (xs : List Int) (hn : xs.length ≤ 1048576) (W : World) (hl : Lies W a (i64s xs)) (he : n = xs.length) :
    Calls Tryz.prog 78 #[leafV id kind mr md pa pn pc, .slice a n c] W fun e w' => e = .returned (.int .i64 (cntE md xs : Nat)) ∧ Below W.heap.size W w' := by
 subst he
 exact valuesOf_any id kind mr md pa pn pc a c xs hn W hl
theorem joined_n (lid kind mr md : Int) (pa : Option Addr) (pn pc : Nat) (a : Option Addr) (n c : Nat) (cs : List Cl) (W : World) (hn : cs.length ≤ 1048576) (hjr : (jR cs).length ≤ 1048576) (hjd : (jD cs).length ≤ 1048576) (hjv : (jV cs).length ≤ 1048576) (hl : LiesC W a cs) (he : n = cs.length) :
    Calls Tryz.prog 79 #[leafV lid kind mr md pa pn pc, .slice a n c] W fun e w' => (∃ k : Cl, e = .returned (.agg #[.int .i64 k.id, .slice k.ra k.rs.length k.rc, .slice k.da k.ds.length k.dc, .slice k.va k.vs.length k.vc]) ∧ k.At w' ∧ k.Fr W.heap.size ∧ k.id = lid ∧ k.rs = jR cs ∧ k.ds = jD cs ∧ k.vs = jV cs) ∧ Below W.heap.size W w' := by
 subst he
 exact joined_any lid kind mr md pa pn pc a c cs W hn hjr hjd hjv hl
abbrev zeroC : Value := .agg #[.int .i64 0, .slice none 0 0, .slice none 0 0, .slice none 0 0]
def GoodC (lid kind mr md : Int) (c : Cl) : Prop := (isLfB kind mr md && fitB lid mr md c.id c.rs c.ds c.vs.length) = true ∧ ∀ j (h : j < c.vs.length), badV kind c.vs[j] = false
def BadRet (N : Nat) (lid kind mr md : Int) (c : Cl) (sv kv : Value) (e : Ending) (w' : World) : Prop :=
 ((isLfB kind mr md && fitB lid mr md c.id c.rs c.ds c.vs.length) = false ∧ e = .returned (.tuple #[zeroC, sv])) ∨
 ((isLfB kind mr md && fitB lid mr md c.id c.rs c.ds c.vs.length) = true ∧ ∃ p : Nat, ∃ hp : p < c.vs.length, badV kind c.vs[p] = true ∧ (∀ j (h : j < c.vs.length), j < p → badV kind c.vs[j] = false) ∧ ∃ q, N ≤ q ∧ e = .returned (.tuple #[zeroC, .iface 68 (.pointer (some ⟨q, 0, none⟩))]) ∧ w'.cell? ⟨q, 0, none⟩ = some (.int .i64 p) ∧ w'.cell? ⟨q, 1, none⟩ = some kv)
def PtRet (N : Nat) (lid kind mr md : Int) (c : Cl) (lo hi : Int) (sv kv bv : Value) (e : Ending) (w' : World) : Prop :=
 BadRet N lid kind mr md c sv kv e w' ∨
 (GoodC lid kind mr md c ∧ ¬ (0 ≤ lo ∧ lo ≤ hi ∧ hi ≤ (cntE 0 c.rs : Nat)) ∧ e = .returned (.tuple #[zeroC, bv])) ∨
 (GoodC lid kind mr md c ∧ (0 ≤ lo ∧ lo ≤ hi ∧ hi ≤ (cntE 0 c.rs : Nat)) ∧ ∃ (k : Cl) (a b : Nat), e = .returned (.tuple #[k.val, .nilIface]) ∧ k.At w' ∧ k.Fr N ∧ StAt c.rs lo a ∧ StAt c.rs hi b ∧ k.id = lid ∧ k.rs = cutL c.rs a b ∧ k.ds = cutL c.ds a b ∧ k.vs = cutL c.vs (cntE md (c.ds.take a)) (cntE md (c.ds.take b)))
structure PtI (W : World) (lid kind mr md : Int) (pa : Option Addr) (pn pc : Nat) (c : Cl) (X : World) : Prop where
 lf : X.heap[W.heap.size]? = some (.cells #[.int .i64 lid, .int .i64 kind, .int .i64 mr, .int .i64 md, .slice pa pn pc] 72 (0, 0))
 co : X.heap[W.heap.size + 1]? = some (.cells #[.int .i64 c.id, .slice c.ra c.rs.length c.rc, .slice c.da c.ds.length c.dc, .slice c.va c.vs.length c.vc] 50 (0, 0))
 re : X.heap[W.heap.size + 1 + 1]? = some (.cells #[.int .i64 0, .slice none 0 0, .slice none 0 0, .slice none 0 0] 50 (0, 0))
 old : Below W.heap.size W X
theorem PtI.keep {W : World} {lid kind mr md : Int} {pa : Option Addr} {pn pc : Nat} {c : Cl} {X w' : World} (h : PtI W lid kind mr md pa pn pc c X) (hb : Below (W.heap.size + 1 + 1 + 1) X w') : PtI W lid kind mr md pa pn pc c w' :=
 ⟨(hb.block _ (by omega)).trans h.lf, (hb.block _ (by omega)).trans h.co, (hb.block _ (by omega)).trans h.re, h.old.trans (hb.mono (by omega))⟩
def Chn : Tr → List Tr → Prop
 | t, [] => t.kind ≠ 0
 | t, x :: q => t.kind = 0 ∧ (∃ i, ∃ h : i < t.sub.length, t.sub[i] = x ∧ ∀ j (h' : j < i), (t.sub[j]'(Nat.lt_trans h' h)).id ≠ x.id) ∧ Chn x q
def ixO (ts : List Tr) (id : Int) : Nat := ts.findIdx fun y => y.id == id
theorem ixO_at {ts : List Tr} {x : Tr} {i : Nat} (h : i < ts.length) (e : ts[i] = x) (hf : ∀ j (h' : j < i), (ts[j]'(Nat.lt_trans h' h)).id ≠ x.id) : ixO ts x.id = i := by
 unfold ixO
 rw [List.findIdx_eq h]
 refine ⟨by rw [e]; simp, fun j hj => ?_⟩
 have := hf j hj
 simp [this]
def stq : Tr → List Tr → Nat → Nat → List Stp
 | _, [], _, _ => []
 | t, x :: q, df, ls => ⟨ixO t.sub x.id, x.rep, df, if x.rep = 3 then ls + 1 else ls⟩ :: stq x q (if x.rep = 1 then df else df + 1) (if x.rep = 3 then ls + 1 else ls)
theorem stq_path : ∀ (q : List Tr) (t : Tr) (df ls : Nat), Chn t q → StPath t (q.map Tr.id) df ls (stq t q df ls)
 | [], t, df, ls, _ => .nil t df ls
 | x :: q, t, df, ls, h => by
  obtain ⟨_, ⟨i, hi, e, hf⟩, hq⟩ := h
  rw [List.map_cons, stq, ixO_at hi e hf]
  subst e
  exact .cons t _ _ df ls i hi rfl hf _ (stq_path q _ _ _ hq)
theorem lvR_cq (x : Tr) (q : List Tr) : lvR (x :: q) = (if x.rep = 3 then 1 else 0) + lvR q := by
 unfold lvR
 by_cases h : x.rep = 3 <;> simp [h]; omega
theorem lvD_cq (x : Tr) (q : List Tr) : lvD (x :: q) = (if x.rep = 1 then 0 else 1) + lvD q := by
 unfold lvD
 by_cases h : x.rep = 1 <;> simp [h]; omega
theorem lvL_at : ∀ (ts : List Tr) (p : List Tr) (f : Lf), f ∈ lvL p ts → ∃ i, ∃ h : i < ts.length, f ∈ lvT p ts[i]
 | [], p, f, h => by simp [lvL] at h
 | t :: ts, p, f, h => by
  rw [lvL, List.mem_append] at h
  rcases h with h | h
  · exact ⟨0, by simp, h⟩
  · obtain ⟨i, hi, h⟩ := lvL_at ts p f h
    exact ⟨i + 1, by simp; omega, by simpa using h⟩
theorem IdU.first {t : Tr} (h : IdU t) (i j : Nat) (hi : i < t.sub.length) (hj : j < i) : (t.sub[j]'(Nat.lt_trans hj hi)).id ≠ t.sub[i].id := by
 unfold IdU at h
 rw [ndT_eq, List.map_cons, List.nodup_cons] at h
 have hsub : ∀ ts : List Tr, List.Sublist ts (ndL ts) := fun ts => by
  induction ts with
  | nil => simp
  | cons x xs ih =>
   rw [ndL, ndT_eq, List.cons_append]
   exact (ih.trans (List.sublist_append_right _ _)).cons_cons x
 have hn : (t.sub.map Tr.id).Nodup := h.2.sublist ((hsub t.sub).map Tr.id)
 rw [List.nodup_iff_pairwise_ne, List.pairwise_iff_getElem] at hn
 have := hn j i (by simp; omega) (by simpa using hi) hj
 simpa using this
theorem lvT_chn : ∀ (n : Nat) (t : Tr), SizeOf.sizeOf t < n → ∀ (p : List Tr) (f : Lf), IdU t → (∀ y ∈ ndT t, y.kind ≠ 0 → y.sub = []) → f ∈ lvT p t →
    ∃ q z, Chn t q ∧ (t :: q).getLast? = some z ∧ f = ⟨z.id, z.kind, lvR (p ++ t :: q), lvD (p ++ t :: q), (p ++ t :: q).map Tr.id⟩
 | 0, t, h => absurd h (Nat.not_lt_zero _)
 | n + 1, .node id nm rep kind sub, hn => fun p f hu hk hf => by
  rw [lvT, List.mem_append] at hf
  by_cases h0 : kind = 0
  · rw [if_pos h0] at hf
    rcases hf with hf | hf
    · simp at hf
    · obtain ⟨i, hi, hf⟩ := lvL_at _ _ _ hf
      have hm : sub[i] ∈ (Tr.node id nm rep kind sub).sub := List.getElem_mem hi
      have hsz : SizeOf.sizeOf sub[i] < n := by
       have := List.sizeOf_lt_of_mem (List.getElem_mem (l := sub) (n := i) hi)
       simp only [Tr.node.sizeOf_spec] at hn
       omega
      obtain ⟨q, z, hc, hz, e⟩ := lvT_chn n sub[i] hsz _ f (hu.sub hm) (fun y hy => hk y (nd_sub hm hy)) hf
      refine ⟨sub[i] :: q, z, ⟨h0, ⟨i, hi, rfl, fun j hj => hu.first i j hi hj⟩, hc⟩, ?_, ?_⟩
      · rw [List.getLast?_cons_cons]; exact hz
      · rw [e]; simp
  · have hs : sub = [] := hk (.node id nm rep kind sub) (by rw [ndT]; exact List.mem_cons_self) h0
    subst hs
    rw [if_neg h0, lvL] at hf
    simp only [List.mem_singleton, List.not_mem_nil, or_false] at hf
    exact ⟨[], _, h0, rfl, by rw [hf, lfO]; rfl⟩
theorem right_lfs {t : Tr} (hs : shpT t = true) : ∀ y ∈ ndT t, y.kind ≠ 0 → y.sub = [] := fun y hy hk => by
 rw [shp_all, Bool.and_eq_true] at hs
 have h : shpOk y = true := by
  rw [ndT_eq] at hy
  rcases List.mem_cons.1 hy with rfl | hy
  · exact hs.1
  · exact List.all_eq_true.1 hs.2 y hy
 unfold shpOk at h
 rw [Bool.and_eq_true] at h
 have h2 := h.2
 have hs : ¬ 0 < y.sub.length := by
  intro hp
  simp [hk, hp] at h2
 exact List.eq_nil_of_length_eq_zero (by omega)
structure LfW (t : Tr) (f : Lf) (q : List Tr) (z : Tr) : Prop where
 way : Chn t q
 last : (t :: q).getLast? = some z
 ne : q ≠ []
 id : f.id = z.id
 kind : f.kind = z.kind
 mr : f.mr = lvR q
 md : f.md = lvD q
 path : f.path = q.map Tr.id
theorem right_way {t : Tr} (hr : isRootB t = true) (hs : shpT t = true) (hi : idsT t = true) (hk0 : t.kind = 0) (f : Lf) (hf : f ∈ lvsT t) : ∃ q z, LfW t f q z := by
 rw [lvs_right t hk0] at hf
 have hu := right_idU hr hi
 have hl := right_lfs hs
 obtain ⟨i, hi, hf⟩ := lvL_at _ _ _ hf
 have hm : t.sub[i] ∈ t.sub := List.getElem_mem hi
 obtain ⟨q, z, hc, hz, e⟩ := lvT_chn _ t.sub[i] (Nat.lt_succ_self _) [] f (hu.sub hm) (fun y hy => hl y (nd_sub hm hy)) hf
 rw [List.nil_append] at e
 exact ⟨t.sub[i] :: q, z, ⟨hk0, ⟨i, hi, rfl, fun j hj => hu.first i j hi hj⟩, hc⟩, by rw [List.getLast?_cons_cons]; exact hz, by simp, by rw [e], by rw [e], by rw [e], by rw [e], by rw [e]⟩
theorem chkL_at : ∀ (ds : List Dt) (t : Tr), chkL t ds = 0 → ∀ d ∈ ds, chk true t d = 0
 | [], t, _, d, hd => by simp at hd
 | x :: ds, t, h, d, hd => by
  rw [chkL] at h
  split at h
  · rename_i h1
    rcases List.mem_cons.1 hd with rfl | hd
    · exact h1
    · exact chkL_at ds t h d hd
  · rename_i h1; exact absurd h h1
theorem chkF_at : ∀ (ds : List Dt) (ts : List Tr), ds.length = ts.length → chkF ts ds = 0 → ∀ j (h : j < ts.length) (h' : j < ds.length), chk false ts[j] ds[j] = 0
 | [], ts, hl, _, j, _, h' => by simp at h'
 | x :: ds, [], hl, _, j, h, _ => by simp at h
 | x :: ds, t :: ts, hl, h, j, hj, hj' => by
  rw [chkF] at h
  split at h
  · rename_i h1
    cases j with
    | zero => exact h1
    | succ j => exact chkF_at ds ts (by simpa using hl) h j (by simpa using hj) (by simpa using hj')
  · rename_i h1; exact absurd h h1
theorem chk_grp {t : Tr} {d : Dt} (hk : t.kind = 0) (h : chk true t d = 0) : d.no = false ∧ d.l = [] ∧ d.f.length = t.sub.length ∧ ∀ j (h : j < t.sub.length) (h' : j < d.f.length), chk false t.sub[j] d.f[j] = 0 := by
 rw [chk_group t d hk, grpEr] at h
 split at h
 · omega
 · rename_i h1
   simp only [Bool.or_eq_true, not_or, Bool.not_eq_true, Bool.not_eq_false', decide_eq_true_iff] at h1
   have hl : d.f.length = t.sub.length := by simpa using h1.2
   exact ⟨h1.1.1.1, List.eq_nil_of_length_eq_zero (by have := h1.1.2; simpa using this), hl, fun j hj hj' => chkF_at _ _ hl h j hj hj'⟩
theorem chk_lst {t : Tr} {d : Dt} (hr : t.rep = 3) (h : chk false t d = 0) : d.l.length ≤ 40 ∧ ∀ e ∈ d.l, chk true t e = 0 := by
 rw [chk_list t d hr, lstEr] at h
 split at h
 · omega
 · split at h
   · omega
   · exact ⟨by omega, chkL_at _ _ h⟩
theorem chk_lf {t : Tr} {d : Dt} (hk : t.kind ≠ 0) (h : chk true t d = 0) : d.no = false ∧ badV t.kind d.v = false := by
 rw [chk_leaf t d hk, leafEr] at h
 split at h
 · omega
 · rename_i h1
   split at h
   · omega
   · rename_i h2
     simp only [Bool.or_eq_true, not_or, Bool.not_eq_true] at h1 h2
     refine ⟨h1.1.1, ?_⟩
     unfold badV
     rw [Bool.or_eq_false_iff]
     refine ⟨?_, h2.2⟩
     have := h2.1
     simp only [Bool.not_eq_false', decide_eq_true_iff] at this
     simp [this]
theorem chk_no {t : Tr} {d : Dt} (h3 : t.rep ≠ 3) (hn : d.no = true) (h : chk false t d = 0) : t.rep = 2 := by
 by_cases h2 : t.rep = 2
 · exact h2
 · exfalso
   rw [chk_one t d h3 (fun e => h2 e.1)] at h
   by_cases hk : t.kind = 0
   · have := (chk_grp hk h).1; rw [hn] at this; cases this
   · have := (chk_lf hk h).1; rw [hn] at this; cases this
theorem chk_yes {t : Tr} {d : Dt} (h3 : t.rep ≠ 3) (hn : d.no = false) (h : chk false t d = 0) : chk true t d = 0 := by
 rw [chk_one t d h3 (fun e => by rw [hn] at e; exact absurd e.2 (by simp))] at h
 exact h
theorem getD_at {l : List Dt} {i : Nat} (h : i < l.length) : l.getD i default = l[i] := by simp [List.getD, h]
theorem chk_in {t x : Tr} {q : List Tr} {d : Dt} (hc : Chn t (x :: q)) (h : chk true t d = 0) : ixO t.sub x.id < d.f.length ∧ chk false x (d.f.getD (ixO t.sub x.id) default) = 0 ∧ Chn x q := by
 obtain ⟨hk, ⟨i, hi, e, hf⟩, hq⟩ := hc
 obtain ⟨_, _, hl, h4⟩ := chk_grp hk h
 have hi' : i < d.f.length := by omega
 rw [ixO_at hi e hf]
 refine ⟨hi', ?_, hq⟩
 rw [getD_at hi', ← e]
 exact h4 i hi hi'
theorem chn_fit : ∀ (q : List Tr) (t : Tr) (df ls : Nat) (d : Dt), Chn t q → chk true t d = 0 → FitS (stq t q df ls) d
 | [], t, df, ls, d, _, _ => by rw [stq, FitS]; trivial
 | x :: q, t, df, ls, d, hc, h => by
  obtain ⟨h1, h2, h3⟩ := chk_in hc h
  rw [stq, FitS]
  refine ⟨h1, fun hr e he => ?_, fun hr hn => ?_⟩
  · exact chn_fit q x _ _ e h3 ((chk_lst hr h2).2 e he)
  · exact chn_fit q x _ _ _ h3 (chk_yes hr hn h2)
structure EnOk (md lo hi : Nat) (kind rep : Int) (es : List Ent) : Prop where
 first : ∃ e tl, es = e :: tl ∧ e.rep = rep ∧ ∀ x ∈ tl, (lo : Int) < x.rep ∧ x.rep ≤ (hi : Int)
 each : ∀ e ∈ es, 0 ≤ e.dfn ∧ e.dfn ≤ (md : Int) ∧ (e.v = none → e.dfn ≠ (md : Int)) ∧ ∀ v, e.v = some v → e.dfn = (md : Int) ∧ badV kind v = false
theorem enOk_none {md lo hi df : Nat} {kind rep : Int} (h : df < md) : EnOk md lo hi kind rep [⟨rep, (df : Nat), none⟩] :=
 ⟨⟨_, _, rfl, rfl, fun x hx => by simp at hx⟩, fun e he => by
  rw [List.mem_singleton] at he
  subst he
  exact ⟨by simp, by simp; omega, fun _ => by simp; omega, fun v hv => by simp at hv⟩⟩
theorem dn_ok : ∀ (q : List Tr) (t : Tr) (md df ls : Nat) (z : Tr) (d : Dt) (rep : Int), Chn t q → (t :: q).getLast? = some z → df + lvD q = md → chk true t d = 0 → EnOk md ls (ls + lvR q) z.kind rep (dn md (stq t q df ls) d rep)
 | [], t, md, df, ls, z, d, rep, hc, hz, hm, h => by
  rw [stq, dn]
  have e : t = z := by simpa using hz
  subst e
  exact ⟨⟨_, _, rfl, rfl, fun x hx => by simp at hx⟩, fun e he => by
   rw [List.mem_singleton] at he
   subst he
   refine ⟨by simp, by simp, fun hv => by simp at hv, fun v hv => ⟨rfl, ?_⟩⟩
   obtain rfl : d.v = v := by simpa using hv
   exact (chk_lf hc h).2⟩
 | x :: q, t, md, df, ls, z, d, rep, hc, hz, hm, h => by
  obtain ⟨h1, h2, h3⟩ := chk_in hc h
  rw [List.getLast?_cons_cons] at hz
  rw [lvD_cq] at hm
  rw [stq, lvR_cq]
  by_cases hr : x.rep = 3
  · have hr1 : ¬ x.rep = 1 := by rw [hr]; decide
    simp only [if_neg hr1] at hm ⊢
    simp only [if_pos hr]
    by_cases hn : (d.f.getD (ixO t.sub x.id) default).l = []
    · rw [dn_nil md _ _ d rep hr hn]
      exact enOk_none (df := df) (by omega)
    · rw [dn]
      rw [if_pos hr]
      obtain ⟨e0, es, he⟩ : ∃ e0 es, (d.f.getD (ixO t.sub x.id) default).l = e0 :: es := by
       cases hl : (d.f.getD (ixO t.sub x.id) default).l with
       | nil => exact absurd hl hn
       | cons e0 es => exact ⟨e0, es, rfl⟩
      have hl := (chk_lst hr h2).2
      rw [he] at hl
      have H : ∀ e ∈ e0 :: es, ∀ rep, EnOk md (ls + 1) (ls + 1 + lvR q) z.kind rep (dn md (stq x q (df + 1) (ls + 1)) e rep) := fun e hm' rep => dn_ok q x md (df + 1) (ls + 1) z e rep h3 hz (by omega) (hl e hm')
      simp only [he]
      obtain ⟨⟨a, tl, ea, er, et⟩, hea⟩ := H e0 (by simp) rep
      refine ⟨⟨a, tl ++ es.flatMap (fun y => dn md (stq x q (df + 1) (ls + 1)) y ((ls + 1 : Nat) : Int)), by rw [ea, List.cons_append], er, fun y hy => ?_⟩, fun e hme => ?_⟩
      · rcases List.mem_append.1 hy with hy | hy
        · have := et y hy; omega
        · obtain ⟨e, hme, hy⟩ := List.mem_flatMap.1 hy
          obtain ⟨⟨a', tl', ea', er', et'⟩, _⟩ := H e (List.mem_cons_of_mem _ hme) ((ls + 1 : Nat) : Int)
          rw [ea'] at hy
          rcases List.mem_cons.1 hy with rfl | hy
          · rw [er']; omega
          · have := et' y hy; omega
      · rcases List.mem_append.1 hme with hme | hme
        · exact hea e hme
        · obtain ⟨e', hme', hy⟩ := List.mem_flatMap.1 hme
          exact (H e' (List.mem_cons_of_mem _ hme') ((ls + 1 : Nat) : Int)).each e hy
  · simp only [if_neg hr]
    rw [Nat.zero_add]
    by_cases hn : (d.f.getD (ixO t.sub x.id) default).no = true
    · rw [dn_none md _ _ d rep hr hn]
      have h2r := chk_no hr hn h2
      have hr1 : ¬ x.rep = 1 := by rw [h2r]; decide
      rw [if_neg hr1] at hm
      exact enOk_none (df := df) (by omega)
    · rw [Bool.not_eq_true] at hn
      rw [dn_one md _ _ d rep hr hn]
      exact dn_ok q x md _ ls z _ rep h3 hz (by by_cases h1 : x.rep = 1 <;> simp only [h1, if_true, if_false] at hm ⊢ <;> omega) (chk_yes hr hn h2)
theorem wt_fld {d : Dt} {i : Nat} (h : i < d.f.length) : wt d.f[i] + 1 ≤ wt d := by
 rw [wt_eq d]
 have t1 := wtL_take d.f i h
 have t2 := wtL_part d.f (i + 1)
 omega
theorem wt_pos (d : Dt) : 1 ≤ wt d := by rw [wt_eq]; omega
theorem dn_len : ∀ (sts : List Stp) (md : Nat) (d : Dt) (rep : Int), FitS sts d → (dn md sts d rep).length ≤ wt d
 | [], md, d, rep, _ => by rw [dn]; simpa using wt_pos d
 | s :: sts, md, d, rep, hf => by
  obtain ⟨h1, h2, h3⟩ := hf
  have hw := wt_fld h1
  rw [getD_at h1] at h2 h3
  by_cases hr : s.rep = 3
  · by_cases hn : (d.f.getD s.field default).l = []
    · rw [dn_nil md s sts d rep hr hn]; simpa using wt_pos d
    · rw [dn, if_pos hr]
      rw [getD_at h1] at hn ⊢
      have hl := h2 hr
      have hw2 := wt_eq d.f[s.field]
      have H : ∀ (es : List Dt), (∀ e ∈ es, FitS sts e) → (es.flatMap fun y => dn md sts y s.lists).length ≤ wtL es := fun es => by
       induction es with
       | nil => intro _; simp
       | cons e es ih =>
        intro hh
        have h1 := dn_len sts md e s.lists (hh e (by simp))
        have h2 := ih fun y hy => hh y (by simp [hy])
        rw [List.flatMap_cons, List.length_append, wtL]
        omega
      match hm : d.f[s.field].l, hn with
      | e :: es, _ =>
       rw [hm] at hl hw2
       have h1 := dn_len sts md e rep (hl e (by simp))
       have h2 := H es fun y hy => hl y (by simp [hy])
       simp only [List.length_append]
       rw [wtL] at hw2
       omega
  · by_cases hn : (d.f.getD s.field default).no = true
    · rw [dn_none md s sts d rep hr hn]; simpa using wt_pos d
    · rw [Bool.not_eq_true] at hn
      rw [dn_one md s sts d rep hr hn]
      rw [getD_at h1] at hn ⊢
      have := dn_len sts md d.f[s.field] rep (h3 hr hn)
      omega
theorem ents_len (sts : List Stp) (md : Nat) : ∀ (ds : List Dt), (∀ d ∈ ds, FitS sts d) → (ents md sts ds).length ≤ wtL ds
 | [], _ => by simp [ents, wtL]
 | d :: ds, h => by
  have h1 := dn_len sts md d 0 (h d (by simp))
  have h2 := ents_len sts md ds fun y hy => h y (by simp [hy])
  unfold ents at h2 ⊢
  rw [List.flatMap_cons, List.length_append, wtL]
  omega
abbrev zV : Vl := ⟨0, 0, ⟨#[]⟩⟩
mutual
def cutT : Tr → Tr → Dt → Dt
 | .node _ _ _ _ sub, t, d => if t.rep = 3 then .mk false zV (d.l.map fun o => .mk false o.v [] (cutF sub t o)) [] else if d.no = true then .mk true zV [] [] else .mk false d.v [] (cutF sub t d)
def cutF : List Tr → Tr → Dt → List Dt
 | [], _, _ => []
 | x :: xs, t, d => cutT x (t.sub.getD (ixO t.sub x.id) default) (d.f.getD (ixO t.sub x.id) default) :: cutF xs t d
end
def cut1 (p t : Tr) (o : Dt) : Dt := .mk false o.v [] (cutF p.sub t o)
theorem cutT_eq (p t : Tr) (d : Dt) : cutT p t d = if t.rep = 3 then .mk false zV (d.l.map (cut1 p t)) [] else if d.no = true then .mk true zV [] [] else cut1 p t d := by
 cases p with
 | node id nm rep kind sub => rw [cutT]; rfl
theorem cutF_len : ∀ (xs : List Tr) (t : Tr) (d : Dt), (cutF xs t d).length = xs.length
 | [], t, d => by rw [cutF]; rfl
 | x :: xs, t, d => by rw [cutF, List.length_cons, List.length_cons, cutF_len xs t d]
theorem cutF_at : ∀ (xs : List Tr) (t : Tr) (d : Dt) (i : Nat) (h : i < xs.length) (h' : i < (cutF xs t d).length), (cutF xs t d)[i] = cutT xs[i] (t.sub.getD (ixO t.sub xs[i].id) default) (d.f.getD (ixO t.sub xs[i].id) default)
 | [], t, d, i, h, _ => by simp at h
 | x :: xs, t, d, 0, h, _ => by simp [cutF]
 | x :: xs, t, d, i + 1, h, h' => by
  simp only [cutF, List.getElem_cons_succ]
  exact cutF_at xs t d i (by simpa using h) (by rw [cutF_len]; simpa using h)
theorem cutF_take (xs : List Tr) (t : Tr) (d : Dt) (i : Nat) (h : i < xs.length) : cutF (xs.take (i + 1)) t d = cutF (xs.take i) t d ++ [cutT xs[i] (t.sub.getD (ixO t.sub xs[i].id) default) (d.f.getD (ixO t.sub xs[i].id) default)] := by
 induction xs generalizing i with
 | nil => simp at h
 | cons x xs ih =>
  cases i with
  | zero => simp [cutF]
  | succ i =>
   rw [List.take_succ_cons, cutF, ih i (by simpa using h), List.take_succ_cons, cutF]
   simp
theorem rk_ix {L : List Int} {t : Tr} (hu : IdU t) {x' : Tr} (hx : x' ∈ (rkT L t).sub) : ∃ i, ∃ h : i < t.sub.length, x' = rkT L t.sub[i] ∧ ixO t.sub x'.id = i := by
 rw [(rkT_id L t).2.2.2.2, rkL_filter] at hx
 obtain ⟨x, hx2, rfl⟩ := List.mem_map.1 hx
 obtain ⟨i, hi, e⟩ := List.getElem_of_mem (List.mem_filter.1 hx2).1
 refine ⟨i, hi, by rw [e], ?_⟩
 rw [(rkT_id L x).1]
 exact ixO_at hi e (fun j hj => by rw [← e]; exact hu.first i j hi hj)
theorem getD_at' {α : Type} [Inhabited α] {l : List α} {i : Nat} (h : i < l.length) : l.getD i default = l[i] := by simp [List.getD, h]
theorem chkF_of : ∀ (ts : List Tr) (ds : List Dt), ds.length = ts.length → (∀ j (h : j < ts.length) (h' : j < ds.length), chk false ts[j] ds[j] = 0) → chkF ts ds = 0
 | _, [], _, _ => by rw [chkF]
 | [], x :: ds, h, _ => by simp at h
 | t :: ts, d :: ds, h, he => by
  have h0 : chk false t d = 0 := he 0 (by simp) (by simp)
  rw [chkF, if_pos h0]
  exact chkF_of ts ds (by simpa using h) (fun j h1 h2 => he (j + 1) (by simpa using h1) (by simpa using h2))
theorem chkL_of : ∀ (t : Tr) (ds : List Dt), (∀ d ∈ ds, chk true t d = 0) → chkL t ds = 0
 | t, [], _ => by rw [chkL]
 | t, d :: ds, h => by
  rw [chkL, if_pos (h d (by simp))]
  exact chkL_of t ds (fun x hx => h x (by simp [hx]))
theorem hasV_z : hasV zV = false := by
 have h : zV.s.toList = [] := by kernel_rfl
 simp [hasV, h]
theorem chk_cut (L : List Int) : ∀ (n : Nat) (t : Tr), SizeOf.sizeOf t < n → IdU t → LfOk t → (∀ d, chk true t d = 0 → chk true (rkT L t) (cut1 (rkT L t) t d) = 0) ∧ (∀ d, chk false t d = 0 → chk false (rkT L t) (cutT (rkT L t) t d) = 0)
 | 0, t, h => absurd h (Nat.not_lt_zero _)
 | n + 1, t, hn => fun hu hlf => by
  obtain ⟨e1, _, e3, e4, e5⟩ := rkT_id L t
  have one : ∀ d, chk true t d = 0 → chk true (rkT L t) (cut1 (rkT L t) t d) = 0 := fun d h => by
   by_cases hk : t.kind = 0
   · obtain ⟨g1, g2, g3, g4⟩ := chk_grp hk h
     have hv : hasV d.v = false := by
      rw [chk_group t d hk, grpEr] at h
      split at h
      · omega
      · rename_i h1
        simp only [Bool.or_eq_true, not_or, Bool.not_eq_true] at h1
        exact h1.1.1.2
     have hlen : (cutF (rkT L t).sub t d).length = (rkT L t).sub.length := cutF_len _ _ _
     rw [chk_group _ _ (by rw [e4]; exact hk), grpEr, if_neg]
     · refine chkF_of _ _ hlen (fun j h1 h2 => ?_)
       obtain ⟨i, hi, ex, ei⟩ := rk_ix hu (List.getElem_mem h1)
       have hc := cutF_at (rkT L t).sub t d j h1 (by rw [hlen]; exact h1)
       rw [ei, getD_at' hi, getD_at' (by rw [g3]; exact hi)] at hc
       rw [show (cut1 (rkT L t) t d).f[j] = _ from hc, ex]
       have hm : t.sub[i] ∈ t.sub := List.getElem_mem hi
       refine (chk_cut L n t.sub[i] ?_ (hu.sub hm) (hlf.sub hm)).2 _ (g4 i hi (by rw [g3]; exact hi))
       have := List.sizeOf_lt_of_mem hm
       cases t with
       | node id nm rep kind sub =>
        simp only [Tr.node.sizeOf_spec] at hn
        simp only [Tr.sub] at this ⊢
        omega
     · show ¬ (false || hasV d.v || decide (0 < ([] : List Dt).length) || !decide ((cutF (rkT L t).sub t d).length = (rkT L t).sub.length)) = true
       rw [hv, hlen]
       simp
   · have hs : t.sub = [] := hlf t (nd_self t) hk
     have hs' : (rkT L t).sub = [] := by rw [e5, hs, rkL]
     rw [chk_leaf t d hk, leafEr] at h
     split at h
     · omega
     · rename_i h1
       simp only [Bool.or_eq_true, not_or, Bool.not_eq_true] at h1
       split at h
       · omega
       · rename_i h2
         rw [chk_leaf _ _ (by rw [e4]; exact hk), leafEr, e4, if_neg, if_neg]
         · exact h2
         · show ¬ (false || decide (0 < ([] : List Dt).length) || decide (0 < (cutF (rkT L t).sub t d).length)) = true
           rw [hs', cutF]
           simp
  refine ⟨one, fun d h => ?_⟩
  rw [cutT_eq]
  by_cases h3 : t.rep = 3
  · obtain ⟨g1, g2⟩ := chk_lst h3 h
    rw [if_pos h3, chk_list _ _ (by rw [e3]; exact h3), lstEr, if_neg, if_neg]
    · exact chkL_of _ _ (fun o ho => by
        obtain ⟨o', ho', rfl⟩ := List.mem_map.1 ho
        exact one o' (g2 o' ho'))
    · show ¬ (false || hasV zV || decide (0 < ([] : List Dt).length)) = true
      rw [hasV_z]; simp
    · show ¬ 40 < (d.l.map (cut1 (rkT L t) t)).length
      rw [List.length_map]; omega
  · rw [if_neg h3]
    cases hno : d.no with
    | true =>
     rw [if_pos rfl]
     have h2 := chk_no h3 hno h
     rw [chk_eq, if_neg (by rw [e3]; simp [h3]), if_pos ⟨rfl, by rw [e3]; exact h2, rfl⟩, if_neg]
     show ¬ (hasV zV || decide (0 < ([] : List Dt).length) || decide (0 < ([] : List Dt).length)) = true
     rw [hasV_z]; simp
    | false =>
     rw [if_neg (by simp)]
     rw [chk_one _ _ (by rw [e3]; exact h3) (fun e => by simp [cut1, Dt.no] at e)]
     refine one d ?_
     rw [chk_one t d h3 (fun e => by rw [hno] at e; simp at e)] at h
     exact h
theorem addr_add0 (a : Addr) : a.add 0 = a := by
 obtain ⟨b, o, r⟩ := a
 unfold Addr.add
 split <;> simp_all
theorem blk_drew {w : World} {g : Nat} {o : Obj} (h : w.heap[g]? = some o) : w.drew.heap[g]? = some o := h
set_option maxRecDepth 100000 in
set_option maxHeartbeats 12800000 in
theorem part_any (lid kind mr md lo hi : Int) (pa : Option Addr) (pn pc : Nat) (c : Cl) (W : World) (st kt bt : TypeId) (sp kp bp : Value)
    (hn : c.rs.length ≤ 1048576) (hn2 : c.ds.length ≤ 1048576) (hv : c.vs.length ≤ 1048576) (hcr : c.rs.length ≤ c.rc) (hcd : c.ds.length ≤ c.dc) (hcv : c.vs.length ≤ c.vc)
    (hs : W.cell? ⟨1, 0, none⟩ = some (.iface st sp)) (hk : W.cell? ⟨4, 0, none⟩ = some (.iface kt kp)) (hbd : W.cell? ⟨0, 0, none⟩ = some (.iface bt bp)) (hat : c.At W) :
    Calls Tryz.prog 46 #[leafV lid kind mr md pa pn pc, c.val, .int .i64 lo, .int .i64 hi] W fun e w' => PtRet W.heap.size lid kind mr md c lo hi (.iface st sp) (.iface kt kp) (.iface bt bp) e w' ∧ Below W.heap.size W w' := by
 unfold leafV Cl.val colV
 obtain ⟨w0, HW0, HX, HY, HZ, HB⟩ := three_boxes W #[.int .i64 lid, .int .i64 kind, .int .i64 mr, .int .i64 md, .slice pa pn pc] #[.int .i64 c.id, .slice c.ra c.rs.length c.rc, .slice c.da c.ds.length c.dc, .slice c.va c.vs.length c.vc] #[.int .i64 0, .slice none 0 0, .slice none 0 0, .slice none 0 0] 72 50 50
 have HI0 : Hid (PtI W lid kind mr md pa pn pc c w0) := ⟨HX.out, HY.out, HZ.out, HB.out⟩
 have HAT : Hid (∀ X, PtI W lid kind mr md pa pn pc c X → c.At X) := fun X hX => hat.keep hX.old
 have HS : Hid (∀ X, PtI W lid kind mr md pa pn pc c X → X.cell? ⟨1, 0, none⟩ = some (.iface st sp)) := fun X hX => ckB hs hX.old
 have HK : Hid (∀ X, PtI W lid kind mr md pa pn pc c X → X.cell? ⟨4, 0, none⟩ = some (.iface kt kp)) := fun X hX => ckB hk hX.old
 have HBD : Hid (∀ X, PtI W lid kind mr md pa pn pc c X → X.cell? ⟨0, 0, none⟩ = some (.iface bt bp)) := fun X hX => ckB hbd hX.old
 have HLE : Hid (∀ X, PtI W lid kind mr md pa pn pc c X → W.heap.size + 1 + 1 + 1 ≤ X.heap.size) := fun X hX => lt_of_block hX.re
 have hgN : 0 < W.heap.size := World.block_lt_of_cell? W _ hbd
 have hgN1 : ¬ (0 = W.heap.size + 1 + 1) := by omega
 have hgN2 : ¬ (W.heap.size = 0) := by omega
 have hgN3 : ¬ (W.heap = #[]) := fun h => hgN2 (by rw [h]; rfl)
 clear hat hs hk hbd HX HY HZ HB hgN
 obtain ⟨⟨p0, p1, p2, p3, p4⟩, _⟩ := row_five HI0.out.lf
 obtain ⟨k0, k1, k2, k3⟩ := row_four HI0.out.co
 go_enter Tryz.func46, Tryz.ntmps46
 go_wp2_with fail
 rw [HW0.out]
 refine (scheck_any lid kind mr md c.id pa c.ra c.da c.va pn pc c.rc c.dc c.vc c.rs c.ds c.vs w0 st kt sp kp hn hn2 hv (HS.out _ HI0.out) (HK.out _ HI0.out) (HAT.out _ HI0.out).r (HAT.out _ HI0.out).d (HAT.out _ HI0.out).v).mono ?_
 rintro e w1 ⟨hck, hb1⟩
 have HI1 : Hid (PtI W lid kind mr md pa pn pc c w1) := HI0.out.keep (hb1.mono (HLE.out _ HI0.out))
 clear hb1 p0 p1 p2 p3 p4 k0 k1 k2 k3
 obtain ⟨⟨p0, p1, p2, p3, p4⟩, _⟩ := row_five HI1.out.lf
 obtain ⟨k0, k1, k2, k3⟩ := row_four HI1.out.co
 obtain ⟨z0, z1, z2, z3⟩ := row_four HI1.out.re
 obtain ⟨f0, f1, f2, f3⟩ := row_fourA HI1.out.re
 rcases hck with ⟨hb, rfl⟩ | ⟨hg, ⟨hall, rfl⟩ | ⟨p, hp, hbad, hf, q, hqn, rfl, hq0, hq1⟩⟩
 · have HG : Hid _ := hb
   clear hb
   go_wp2
   exact bodyPost_ret (v := .tuple #[zeroC, .iface st sp]) (results_cR Tryz.results46 _ _ (W.heap.size + 1 + 1) 50 #[.int .i64 0, .slice none 0 0, .slice none 0 0, .slice none 0 0] (0, 0) _ (.iface st sp) rfl rfl (row_setCell (row_setCell (row_setCell (row_setCell HI1.out.re _) _) _) _) Tryz.underlying50 rfl (by kernel_rfl)) rfl ⟨.inl (.inl ⟨HG.out, rfl⟩), (((HI1.out.old.setCell (by simp; omega) _).setCell (by simp; omega) _).setCell (by simp; omega) _).setCell (by simp; omega) _⟩
 · have HGood : Hid (GoodC lid kind mr md c) := ⟨hg, hall⟩
   clear hg hall
   have hbe := HBD.out _ HI1.out
   by_cases h1 : lo < 0
   · have HNo : Hid (¬ (0 ≤ lo ∧ lo ≤ hi ∧ hi ≤ (cntE 0 c.rs : Nat))) := (by show ¬ _; omega)
     have q1 : decide (lo < 0) = true := decide_eq_true h1
     clear h1
     go_wp2_with fail
     go_region
     all_goals
      go_wp2
      exact bodyPost_ret (v := .tuple #[zeroC, .iface bt bp]) (results_cR Tryz.results46 _ _ (W.heap.size + 1 + 1) 50 #[.int .i64 0, .slice none 0 0, .slice none 0 0, .slice none 0 0] (0, 0) _ (.iface bt bp) rfl rfl (blk_drew (row_setCell (row_setCell (row_setCell (row_setCell HI1.out.re _) _) _) _)) Tryz.underlying50 rfl (by kernel_rfl)) rfl ⟨.inr (.inl ⟨HGood.out, HNo.out, rfl⟩), ((((HI1.out.old.setCell (by simp; omega) _).setCell (by simp; omega) _).setCell (by simp; omega) _).setCell (by simp; omega) _).drew⟩
   · by_cases h2 : hi < lo
     · have HNo : Hid (¬ (0 ≤ lo ∧ lo ≤ hi ∧ hi ≤ (cntE 0 c.rs : Nat))) := (by show ¬ _; omega)
       have q1 : decide (lo < 0) = false := decide_eq_false h1
       have q2 : decide (hi < lo) = true := decide_eq_true h2
       clear h1 h2
       go_wp2_with fail
       go_region
       all_goals
        go_wp2
        exact bodyPost_ret (v := .tuple #[zeroC, .iface bt bp]) (results_cR Tryz.results46 _ _ (W.heap.size + 1 + 1) 50 #[.int .i64 0, .slice none 0 0, .slice none 0 0, .slice none 0 0] (0, 0) _ (.iface bt bp) rfl rfl (blk_drew (row_setCell (row_setCell (row_setCell (row_setCell HI1.out.re _) _) _) _)) Tryz.underlying50 rfl (by kernel_rfl)) rfl ⟨.inr (.inl ⟨HGood.out, HNo.out, rfl⟩), ((((HI1.out.old.setCell (by simp; omega) _).setCell (by simp; omega) _).setCell (by simp; omega) _).setCell (by simp; omega) _).drew⟩
     · have q1 : decide (lo < 0) = false := decide_eq_false h1
       have q2 : decide (hi < lo) = false := decide_eq_false h2
       go_wp2_with fail
       refine (count_any c.id c.ra c.rs c.rc c.da c.ds.length c.dc c.va c.vs.length c.vc hn w1 (HAT.out _ HI1.out).r).mono ?_
       rintro e w2 ⟨rfl, hb2⟩
       have HI2 : Hid (PtI W lid kind mr md pa pn pc c w2) := HI1.out.keep (hb2.mono (HLE.out _ HI1.out))
       clear hb2 p0 p1 p2 p3 p4 k0 k1 k2 k3 z0 z1 z2 z3 f0 f1 f2 f3 hbe
       obtain ⟨⟨p0, p1, p2, p3, p4⟩, _⟩ := row_five HI2.out.lf
       obtain ⟨k0, k1, k2, k3⟩ := row_four HI2.out.co
       obtain ⟨z0, z1, z2, z3⟩ := row_four HI2.out.re
       obtain ⟨f0, f1, f2, f3⟩ := row_fourA HI2.out.re
       have hbe := HBD.out _ HI2.out
       by_cases h3 : (cntE 0 c.rs : Nat) < hi
       · have HNo : Hid (¬ (0 ≤ lo ∧ lo ≤ hi ∧ hi ≤ (cntE 0 c.rs : Nat))) := (by show ¬ _; omega)
         have q3 : decide (((cntE 0 c.rs : Nat) : Int) < hi) = true := decide_eq_true h3
         clear h1 h2 h3
         go_wp2_with fail
         go_region
         all_goals
          go_wp2
          exact bodyPost_ret (v := .tuple #[zeroC, .iface bt bp]) (results_cR Tryz.results46 _ _ (W.heap.size + 1 + 1) 50 #[.int .i64 0, .slice none 0 0, .slice none 0 0, .slice none 0 0] (0, 0) _ (.iface bt bp) rfl rfl (blk_drew (row_setCell (row_setCell (row_setCell (row_setCell HI2.out.re _) _) _) _)) Tryz.underlying50 rfl (by kernel_rfl)) rfl ⟨.inr (.inl ⟨HGood.out, HNo.out, rfl⟩), ((((HI2.out.old.setCell (by simp; omega) _).setCell (by simp; omega) _).setCell (by simp; omega) _).setCell (by simp; omega) _).drew⟩
       · have HYes : Hid (0 ≤ lo ∧ lo ≤ hi ∧ hi ≤ (cntE 0 c.rs : Nat)) := (by show _ ∧ _; omega)
         have q3 : decide (((cntE 0 c.rs : Nat) : Int) < hi) = false := decide_eq_false h3
         clear h1 h2 h3
         go_upto_region 6 with fail
         go_cut [11, 12] (fun x y wx => ∃ a b : Nat, x = .int .i64 a ∧ y = .int .i64 b ∧ Hid (StAt c.rs lo a) ∧ Hid (StAt c.rs hi b) ∧ Hid (PtI W lid kind mr md pa pn pc c wx))
         case first =>
          have b0 : Below (W.heap.size + 1 + 1 + 1) w2 w2 := Below.refl _ _
          have hsz := HLE.out _ HI2.out
          have HN : Hid (∀ X, Below (W.heap.size + 1 + 1 + 1) w2 X → (X.cell? ⟨W.heap.size, 0, none⟩ = some (.int .i64 lid) ∧ X.cell? ⟨W.heap.size, 1, none⟩ = some (.int .i64 kind) ∧ X.cell? ⟨W.heap.size, 2, none⟩ = some (.int .i64 mr) ∧ X.cell? ⟨W.heap.size, 3, none⟩ = some (.int .i64 md) ∧ X.cell? ⟨W.heap.size, 4, none⟩ = some (.slice pa pn pc)) ∧ (X.cell? ⟨W.heap.size + 1, 0, none⟩ = some (.int .i64 c.id) ∧ X.cell? ⟨W.heap.size + 1, 1, none⟩ = some (.slice c.ra c.rs.length c.rc) ∧ X.cell? ⟨W.heap.size + 1, 2, none⟩ = some (.slice c.da c.ds.length c.dc) ∧ X.cell? ⟨W.heap.size + 1, 3, none⟩ = some (.slice c.va c.vs.length c.vc)) ∧ Below (W.heap.size + 1 + 1 + 1) w2 X) := fun X hX => ⟨(row_five ((hX.block _ (by omega)).trans HI2.out.lf)).1, row_four ((hX.block _ (by omega)).trans HI2.out.co), hX⟩
          have HCall : Hid (∀ (z : Int) X, Below (W.heap.size + 1 + 1 + 1) w2 X → Calls Tryz.prog 77 #[.agg #[.int .i64 c.id, .slice c.ra c.rs.length c.rc, .slice c.da c.ds.length c.dc, .slice c.va c.vs.length c.vc], .int .i64 z] X fun e w' => (∃ a : Nat, e = .returned (.int .i64 a) ∧ StAt c.rs z a) ∧ Below (W.heap.size + 1 + 1 + 1) w2 w') := fun z X hX => (startOf_any c.id z c.ra c.rs c.rc c.da c.ds.length c.dc c.va c.vs.length c.vc hn X (HAT.out _ (HI2.out.keep hX)).r).mono fun e w' h => ⟨h.1, bel_next hX hsz h.2⟩
          go_region_held3 (fun X => (X.cell? ⟨W.heap.size, 0, none⟩ = some (.int .i64 lid) ∧ X.cell? ⟨W.heap.size, 1, none⟩ = some (.int .i64 kind) ∧ X.cell? ⟨W.heap.size, 2, none⟩ = some (.int .i64 mr) ∧ X.cell? ⟨W.heap.size, 3, none⟩ = some (.int .i64 md) ∧ X.cell? ⟨W.heap.size, 4, none⟩ = some (.slice pa pn pc)) ∧ (X.cell? ⟨W.heap.size + 1, 0, none⟩ = some (.int .i64 c.id) ∧ X.cell? ⟨W.heap.size + 1, 1, none⟩ = some (.slice c.ra c.rs.length c.rc) ∧ X.cell? ⟨W.heap.size + 1, 2, none⟩ = some (.slice c.da c.ds.length c.dc) ∧ X.cell? ⟨W.heap.size + 1, 3, none⟩ = some (.slice c.va c.vs.length c.vc)) ∧ Below (W.heap.size + 1 + 1 + 1) w2 X) (with_reducible refine HN.out _ ?_; repeat' (first | with_reducible assumption | with_reducible exact b0.drew | with_reducible exact b0)) (first | (go_at_call 77; (with_reducible refine Calls.mono (HCall.out lo _ ?_) ?_); (first | with_reducible assumption | with_reducible exact b0.drew); rintro e xa ⟨⟨a, rfl, ha⟩, hba⟩; have HSA : Hid _ := ha; clear ha) | (go_at_call 77; (with_reducible refine Calls.mono (HCall.out hi _ ?_) ?_); (first | with_reducible assumption | with_reducible exact b0.drew); rintro e xb ⟨⟨b, rfl, hb⟩, hbb⟩; have HSB : Hid _ := hb; clear hb))
          all_goals
           go_wp2_with fail
           go_meet
           exact ⟨a, b, rfl, rfl, HSA, HSB, HI2.out.keep (by first | exact hbb | exact hba)⟩
         case rest =>
          obtain ⟨a, b, rfl, rfl, HSA, HSB, HI3⟩ := hcut
          clear p0 p1 p2 p3 p4 k0 k1 k2 k3 z0 z1 z2 z3 f0 f1 f2 f3 hbe HI2 HI1 HI0
          obtain ⟨hfid, hfl, _, _, _, hfv⟩ := fitB_iff.1 (show fitB lid mr md c.id c.rs c.ds c.vs.length = true from by have h := HGood.out.1; simp at h; exact h.2)
          have HLn : Hid (c.rs.length = c.ds.length) := hfl
          have HVn : Hid (c.vs.length = cntE md c.ds) := hfv
          have HFid : Hid (c.id = lid) := hfid
          clear hfl hfv hfid
          have hab : a ≤ b := HSA.out.le HSB.out HYes.out.2.1
          have hbl : b ≤ c.ds.length := by rw [← HLn.out]; exact HSB.out.1
          have hbr : b ≤ c.rs.length := HSB.out.1
          go_upto_region 7 with fail
          go_cut [13] (fun x wx => x = .int .i64 (cntE md (c.ds.take a) : Nat) ∧ Hid (PtI W lid kind mr md pa pn pc c wx))
          case first =>
           have b0 : Below (W.heap.size + 1 + 1 + 1) wc wc := Below.refl _ _
           have hsz := HLE.out _ HI3.out
           have HN : Hid (∀ X, Below (W.heap.size + 1 + 1 + 1) wc X → (X.cell? ⟨W.heap.size, 0, none⟩ = some (.int .i64 lid) ∧ X.cell? ⟨W.heap.size, 1, none⟩ = some (.int .i64 kind) ∧ X.cell? ⟨W.heap.size, 2, none⟩ = some (.int .i64 mr) ∧ X.cell? ⟨W.heap.size, 3, none⟩ = some (.int .i64 md) ∧ X.cell? ⟨W.heap.size, 4, none⟩ = some (.slice pa pn pc)) ∧ (X.cell? ⟨W.heap.size + 1, 0, none⟩ = some (.int .i64 c.id) ∧ X.cell? ⟨W.heap.size + 1, 1, none⟩ = some (.slice c.ra c.rs.length c.rc) ∧ X.cell? ⟨W.heap.size + 1, 2, none⟩ = some (.slice c.da c.ds.length c.dc) ∧ X.cell? ⟨W.heap.size + 1, 3, none⟩ = some (.slice c.va c.vs.length c.vc)) ∧ Below (W.heap.size + 1 + 1 + 1) wc X) := fun X hX => ⟨(row_five ((hX.block _ (by omega)).trans HI3.out.lf)).1, row_four ((hX.block _ (by omega)).trans HI3.out.co), hX⟩
           have qa : ((a : Nat) : Int) ≤ (c.dc : Int) := by omega
           have qb : (0 : Int) ≤ ((a : Nat) : Int) := by omega
           have HV7 : Hid (Calls Tryz.prog 78 #[.agg #[.int .i64 lid, .int .i64 kind, .int .i64 mr, .int .i64 md, .slice pa pn pc], .slice c.da a c.dc] wc.drew fun e w' => e = .returned (.int .i64 (cntE md (c.ds.take a) : Nat)) ∧ Below (W.heap.size + 1 + 1 + 1) wc w') := (valuesOf_n lid kind mr md pa pn pc c.da a c.dc (c.ds.take a) (by simp; omega) wc.drew (by
            have h := lies_cut ((HAT.out _ HI3.out).d) 0 a c.dc (by rw [i64s_len]; omega) (by rw [i64s_len]; omega) (x := c.da) (by cases c.da <;> simp [addr_add0])
            rw [← i64s_cut] at h
            exact h.keep (Below.refl _ _).drew) (by simp; omega)).mono fun e w' h => ⟨h.1, bel_next b0.drew hsz h.2⟩
           go_region_held3 (fun X => (X.cell? ⟨W.heap.size, 0, none⟩ = some (.int .i64 lid) ∧ X.cell? ⟨W.heap.size, 1, none⟩ = some (.int .i64 kind) ∧ X.cell? ⟨W.heap.size, 2, none⟩ = some (.int .i64 mr) ∧ X.cell? ⟨W.heap.size, 3, none⟩ = some (.int .i64 md) ∧ X.cell? ⟨W.heap.size, 4, none⟩ = some (.slice pa pn pc)) ∧ (X.cell? ⟨W.heap.size + 1, 0, none⟩ = some (.int .i64 c.id) ∧ X.cell? ⟨W.heap.size + 1, 1, none⟩ = some (.slice c.ra c.rs.length c.rc) ∧ X.cell? ⟨W.heap.size + 1, 2, none⟩ = some (.slice c.da c.ds.length c.dc) ∧ X.cell? ⟨W.heap.size + 1, 3, none⟩ = some (.slice c.va c.vs.length c.vc)) ∧ Below (W.heap.size + 1 + 1 + 1) wc X) (with_reducible refine HN.out _ ?_; repeat' (first | with_reducible assumption | with_reducible exact b0.drew | with_reducible exact b0)) (first | (go_at_call 78; (with_reducible refine Calls.mono HV7.out ?_); rintro e xv ⟨rfl, hbv⟩))
           all_goals
            go_wp2_with fail
            go_meet
            exact ⟨rfl, HI3.out.keep hbv⟩
          case rest =>
           obtain ⟨hx4, HI4⟩ := hcut
           obtain ⟨v1, HV1⟩ : ∃ v, Hid (cntE md (c.ds.take a) = v) := ⟨_, rfl⟩
           obtain ⟨v2, HV2⟩ : ∃ v, Hid (cntE md (c.ds.take b) = v) := ⟨_, rfl⟩
           rw [HV1.out] at hx4
           subst hx4
           clear HI3
           rename World => wd
           go_upto_region 8 with fail
           go_cut [14] (fun x wx => x = .int .i64 (v2 : Nat) ∧ Hid (PtI W lid kind mr md pa pn pc c wx))
           case first =>
            have b0 : Below (W.heap.size + 1 + 1 + 1) wd wd := Below.refl _ _
            have hsz := HLE.out _ HI4.out
            have HN : Hid (∀ X, Below (W.heap.size + 1 + 1 + 1) wd X → (X.cell? ⟨W.heap.size, 0, none⟩ = some (.int .i64 lid) ∧ X.cell? ⟨W.heap.size, 1, none⟩ = some (.int .i64 kind) ∧ X.cell? ⟨W.heap.size, 2, none⟩ = some (.int .i64 mr) ∧ X.cell? ⟨W.heap.size, 3, none⟩ = some (.int .i64 md) ∧ X.cell? ⟨W.heap.size, 4, none⟩ = some (.slice pa pn pc)) ∧ (X.cell? ⟨W.heap.size + 1, 0, none⟩ = some (.int .i64 c.id) ∧ X.cell? ⟨W.heap.size + 1, 1, none⟩ = some (.slice c.ra c.rs.length c.rc) ∧ X.cell? ⟨W.heap.size + 1, 2, none⟩ = some (.slice c.da c.ds.length c.dc) ∧ X.cell? ⟨W.heap.size + 1, 3, none⟩ = some (.slice c.va c.vs.length c.vc)) ∧ Below (W.heap.size + 1 + 1 + 1) wd X) := fun X hX => ⟨(row_five ((hX.block _ (by omega)).trans HI4.out.lf)).1, row_four ((hX.block _ (by omega)).trans HI4.out.co), hX⟩
            have qa : ((a : Nat) : Int) ≤ ((b : Nat) : Int) := by omega
            have qc : ((b : Nat) : Int) ≤ (c.dc : Int) := by omega
            have qb : (0 : Int) ≤ ((a : Nat) : Int) := by omega
            have HCt : Hid (v2 = v1 + cntE md (cutL c.ds a b)) := (by show _ = _; rw [← HV1.out, ← HV2.out]; exact cntE_cut md c.ds a b hab)
            obtain ⟨v3, HV3⟩ : ∃ v, Hid (cntE md (cutL c.ds a b) = v) := ⟨_, rfl⟩
            rw [HV3.out] at HCt
            obtain ⟨x8, hif8⟩ : ∃ x, (if c.dc = a then c.da else Option.map (fun x => x.add a) c.da) = x := ⟨_, rfl⟩
            have HV8 : Hid (Calls Tryz.prog 78 #[.agg #[.int .i64 lid, .int .i64 kind, .int .i64 mr, .int .i64 md, .slice pa pn pc], .slice x8 (b - a) (c.dc - a)] wd.drew fun e w' => e = .returned (.int .i64 (v3 : Nat)) ∧ Below (W.heap.size + 1 + 1 + 1) wd w') := (valuesOf_n lid kind mr md pa pn pc _ (b - a) _ (cutL c.ds a b) (by rw [cutL_len _ _ _ hbl]; omega) wd.drew (by
             have h := lies_cut ((HAT.out _ HI4.out).d) a b c.dc (by rw [i64s_len]; omega) (by rw [i64s_len]; omega) (x := x8) (by rw [← hif8]; simp)
             rw [← i64s_cut] at h
             exact h.keep (Below.refl _ _).drew) (by rw [cutL_len _ _ _ hbl])).mono fun e w' h => ⟨by rw [← HV3.out]; exact h.1, bel_next b0.drew hsz h.2⟩
            have hu2 := cntE_le md c.ds b
            have hu3 : v1 + v3 ≤ 1048576 := by rw [← HCt.out, ← HV2.out]; omega
            clear hu2
            have hwr : IntKind.i64.wrap ((v1 : Int) + (v3 : Int)) = (v1 : Int) + (v3 : Int) := by rw [IntKind.wrap_i64]; omega
            go_region_held3 (fun X => (X.cell? ⟨W.heap.size, 0, none⟩ = some (.int .i64 lid) ∧ X.cell? ⟨W.heap.size, 1, none⟩ = some (.int .i64 kind) ∧ X.cell? ⟨W.heap.size, 2, none⟩ = some (.int .i64 mr) ∧ X.cell? ⟨W.heap.size, 3, none⟩ = some (.int .i64 md) ∧ X.cell? ⟨W.heap.size, 4, none⟩ = some (.slice pa pn pc)) ∧ (X.cell? ⟨W.heap.size + 1, 0, none⟩ = some (.int .i64 c.id) ∧ X.cell? ⟨W.heap.size + 1, 1, none⟩ = some (.slice c.ra c.rs.length c.rc) ∧ X.cell? ⟨W.heap.size + 1, 2, none⟩ = some (.slice c.da c.ds.length c.dc) ∧ X.cell? ⟨W.heap.size + 1, 3, none⟩ = some (.slice c.va c.vs.length c.vc)) ∧ Below (W.heap.size + 1 + 1 + 1) wd X) (with_reducible refine HN.out _ ?_; repeat' (first | with_reducible assumption | with_reducible exact b0.drew | with_reducible exact b0)) (first | (go_at_call 78; (with_reducible refine Calls.mono HV8.out ?_); rintro e xv ⟨rfl, hbv⟩))
            all_goals
             go_wp2_with fail
             go_meet
             exact ⟨by rw [HCt.out]; simp, HI4.out.keep hbv⟩
           case rest =>
            obtain ⟨rfl, HI5⟩ := hcut
            clear HI4
            rename World => we
            have hv12 : v1 ≤ v2 := by rw [← HV1.out, ← HV2.out]; exact cntE_mono md c.ds hab
            have hv2n : v2 ≤ c.vs.length := by rw [HVn.out, ← HV2.out]; exact cntE_all md c.ds b
            have b0 : Below (W.heap.size + 1 + 1) we we := Below.refl _ _
            have hsz := HLE.out _ HI5.out
            have HN : Hid (∀ X, Below (W.heap.size + 1 + 1) we X → (X.cell? ⟨W.heap.size, 0, none⟩ = some (.int .i64 lid) ∧ X.cell? ⟨W.heap.size, 1, none⟩ = some (.int .i64 kind) ∧ X.cell? ⟨W.heap.size, 2, none⟩ = some (.int .i64 mr) ∧ X.cell? ⟨W.heap.size, 3, none⟩ = some (.int .i64 md) ∧ X.cell? ⟨W.heap.size, 4, none⟩ = some (.slice pa pn pc)) ∧ (X.cell? ⟨W.heap.size + 1, 0, none⟩ = some (.int .i64 c.id) ∧ X.cell? ⟨W.heap.size + 1, 1, none⟩ = some (.slice c.ra c.rs.length c.rc) ∧ X.cell? ⟨W.heap.size + 1, 2, none⟩ = some (.slice c.da c.ds.length c.dc) ∧ X.cell? ⟨W.heap.size + 1, 3, none⟩ = some (.slice c.va c.vs.length c.vc)) ∧ Below (W.heap.size + 1 + 1) we X) := fun X hX => ⟨(row_five ((hX.block _ (by omega)).trans HI5.out.lf)).1, row_four ((hX.block _ (by omega)).trans HI5.out.co), hX⟩
            have qa : ((a : Nat) : Int) ≤ ((b : Nat) : Int) := by omega
            have qc : ((b : Nat) : Int) ≤ (c.dc : Int) := by omega
            have qd : ((b : Nat) : Int) ≤ (c.rc : Int) := by omega
            have qb : (0 : Int) ≤ ((a : Nat) : Int) := by omega
            have qe : ((v1 : Nat) : Int) ≤ ((v2 : Nat) : Int) := by omega
            have qf : ((v2 : Nat) : Int) ≤ (c.vc : Int) := by omega
            have qg : (0 : Int) ≤ ((v1 : Nat) : Int) := by omega
            obtain ⟨x1, hif1⟩ : ∃ x, (if c.rc = a then c.ra else Option.map (fun x => x.add a) c.ra) = x := ⟨_, rfl⟩
            obtain ⟨x2, hif2⟩ : ∃ x, (if c.dc = a then c.da else Option.map (fun x => x.add a) c.da) = x := ⟨_, rfl⟩
            obtain ⟨x3, hif3⟩ : ∃ x, (if c.vc = v1 then c.va else Option.map (fun x => x.add (v1 * 3)) c.va) = x := ⟨_, rfl⟩
            have hsz2 : W.heap.size + 1 + 1 ≤ we.heap.size := by omega
            have HV9 : Hid (Calls Tryz.prog 79 #[.agg #[.int .i64 lid, .int .i64 kind, .int .i64 mr, .int .i64 md, .slice pa pn pc], .slice (some ⟨we.heap.size, 0, none⟩) 1 1] (we.alloc (.cells #[.int .i64 0, .slice x1 (b - a) (c.rc - a), .slice x2 (b - a) (c.dc - a), .slice x3 (v2 - v1) (c.vc - v1)] 50)).drew fun e w' => (∃ k : Cl, e = .returned (.agg #[.int .i64 k.id, .slice k.ra k.rs.length k.rc, .slice k.da k.ds.length k.dc, .slice k.va k.vs.length k.vc]) ∧ k.At w' ∧ k.Fr we.heap.size ∧ k.id = lid ∧ k.rs = cutL c.rs a b ∧ k.ds = cutL c.ds a b ∧ k.vs = cutL c.vs v1 v2) ∧ Below we.heap.size we w') := (by
             have hbx : Below we.heap.size we (we.alloc (.cells #[.int .i64 0, .slice x1 (b - a) (c.rc - a), .slice x2 (b - a) (c.dc - a), .slice x3 (v2 - v1) (c.vc - v1)] 50)).drew := ((Below.refl _ _).alloc (Nat.le_refl _) _).drew
             have hAt := HAT.out _ HI5.out
             have l1 := (lies_cut hAt.r a b c.rc (by rw [i64s_len]; omega) (by rw [i64s_len]; omega) (x := x1) (by rw [← hif1]; simp)).keep hbx
             have l2 := (lies_cut hAt.d a b c.dc (by rw [i64s_len]; omega) (by rw [i64s_len]; omega) (x := x2) (by rw [← hif2]; simp)).keep hbx
             have l3 := (liesV_cut hAt.v v1 v2 c.vc (by omega) (by omega) (x := x3) (by rw [← hif3])).keep hbx
             rw [← i64s_cut] at l1 l2
             obtain ⟨y0, y1, y2, y3⟩ := row_four (blk_drew (heap_alloc_new we (.cells #[.int .i64 0, .slice x1 (b - a) (c.rc - a), .slice x2 (b - a) (c.dc - a), .slice x3 (v2 - v1) (c.vc - v1)] 50)))
             have hj := joined_n lid kind mr md pa pn pc (some ⟨we.heap.size, 0, none⟩) 1 1 [⟨0, x1, cutL c.rs a b, c.rc - a, x2, cutL c.ds a b, c.dc - a, x3, cutL c.vs v1 v2, c.vc - v1⟩] (we.alloc (.cells #[.int .i64 0, .slice x1 (b - a) (c.rc - a), .slice x2 (b - a) (c.dc - a), .slice x3 (v2 - v1) (c.vc - v1)] 50)).drew (by simp) (by simp [jR, cutL_len _ _ _ hbr]; omega) (by simp [jD, cutL_len _ _ _ hbl]; omega) (by simp [jV, cutL_len _ _ _ hv2n]; omega) (fun j hj => by
              obtain rfl : j = 0 := by simp at hj; omega
              refine ⟨⟨we.heap.size, 0, rfl, y0, ?_, ?_, ?_⟩, l1, l2, l3⟩
              · show _ = some (Value.slice x1 (cutL c.rs a b).length (c.rc - a))
                rw [cutL_len _ _ _ hbr]; exact y1
              · show _ = some (Value.slice x2 (cutL c.ds a b).length (c.dc - a))
                rw [cutL_len _ _ _ hbl]; exact y2
              · show _ = some (Value.slice x3 (cutL c.vs v1 v2).length (c.vc - v1))
                rw [cutL_len _ _ _ hv2n]; exact y3) rfl
             refine hj.mono fun e w' h => ?_
             obtain ⟨⟨k, e0, e1, e2, e3, e4, e5, e6⟩, e7⟩ := h
             exact ⟨⟨k, e0, e1, ⟨fun p hp => Nat.le_trans hbx.size (e2.r p hp), fun p hp => Nat.le_trans hbx.size (e2.d p hp), fun p hp => Nat.le_trans hbx.size (e2.v p hp)⟩, e3, by simpa [jR] using e4, by simpa [jD] using e5, by simpa [jV] using e6⟩, hbx.trans (e7.mono hbx.size)⟩)
            go_wp2_with fail
            go_region_held3 (fun X => (X.cell? ⟨W.heap.size, 0, none⟩ = some (.int .i64 lid) ∧ X.cell? ⟨W.heap.size, 1, none⟩ = some (.int .i64 kind) ∧ X.cell? ⟨W.heap.size, 2, none⟩ = some (.int .i64 mr) ∧ X.cell? ⟨W.heap.size, 3, none⟩ = some (.int .i64 md) ∧ X.cell? ⟨W.heap.size, 4, none⟩ = some (.slice pa pn pc)) ∧ (X.cell? ⟨W.heap.size + 1, 0, none⟩ = some (.int .i64 c.id) ∧ X.cell? ⟨W.heap.size + 1, 1, none⟩ = some (.slice c.ra c.rs.length c.rc) ∧ X.cell? ⟨W.heap.size + 1, 2, none⟩ = some (.slice c.da c.ds.length c.dc) ∧ X.cell? ⟨W.heap.size + 1, 3, none⟩ = some (.slice c.va c.vs.length c.vc)) ∧ Below (W.heap.size + 1 + 1) we X) (with_reducible refine HN.out _ ?_; repeat' (first | with_reducible assumption | with_reducible exact b0.drew | with_reducible exact b0 | with_reducible exact (b0.alloc hsz2 _).drew | with_reducible refine Below.setCell ?_ ?_ _ | with_reducible refine Below.alloc ?_ ?_ _ | with_reducible exact Below.size (by assumption) | (simp; done) | (simp; omega) | omega)) (first | (go_at_call 79; (with_reducible refine Calls.mono HV9.out ?_); rintro e xj ⟨⟨⟨kid, kra, krs, krc, kda, kds, kdc, kva, kvs, kvc⟩, rfl, kat, kfr, rfl, rfl, rfl, rfl⟩, hbj⟩; have hbk : Below (W.heap.size + 1 + 1) we xj := hbj.mono hsz2; have HKA : Hid _ := kat; have HKF : Hid _ := kfr; have HBJ : Hid _ := hbj; clear kat kfr hbj; obtain ⟨z0, z1, z2, z3⟩ := row_four (blk_keep HBJ.out HI5.out.re); obtain ⟨f0, f1, f2, f3⟩ := row_fourA (blk_keep HBJ.out HI5.out.re)))
            all_goals
             go_wp2
             have hgN : W.heap.size + 1 + 1 < we.heap.size := by omega
             have hol : Below W.heap.size W xj := HI5.out.old.trans (HBJ.out.mono (by omega))
             exact bodyPost_ret (v := .tuple #[.agg #[.int .i64 kid, .slice kra (cutL c.rs a b).length krc, .slice kda (cutL c.ds a b).length kdc, .slice kva (cutL c.vs v1 v2).length kvc], .nilIface]) (results_cR Tryz.results46 _ _ (W.heap.size + 1 + 1) 50 #[.int .i64 kid, .slice kra (cutL c.rs a b).length krc, .slice kda (cutL c.ds a b).length kdc, .slice kva (cutL c.vs v1 v2).length kvc] (0, 0) _ .nilIface rfl rfl (row_setCell (row_setCell (row_setCell (row_setCell (blk_keep HBJ.out HI5.out.re) _) _) _) _) Tryz.underlying50 rfl (by kernel_rfl)) rfl ⟨.inr (.inr ⟨HGood.out, HYes.out, ⟨kid, kra, cutL c.rs a b, krc, kda, cutL c.ds a b, kdc, kva, cutL c.vs v1 v2, kvc⟩, a, b, rfl, (((HKA.out.off HKF.out hgN).off HKF.out hgN).off HKF.out hgN).off HKF.out hgN, HKF.out.low HI5.out.old.size, HSA.out, HSB.out, rfl, rfl, rfl, by rw [HV1.out, HV2.out]⟩), (((hol.setCell (by simp; omega) _).setCell (by simp; omega) _).setCell (by simp; omega) _).setCell (by simp; omega) _⟩
 · have HG : Hid _ := hg
   have HQ0 : Hid _ := hq0
   have HQ1 : Hid _ := hq1
   have HBa : Hid _ := hbad
   have HF : Hid _ := hf
   have HQN : Hid (W.heap.size + 1 + 1 < q) := (by have := HLE.out _ HI0.out; show _ < _; omega)
   clear hg hq0 hq1 hbad hf hqn
   go_wp2
   have hoff : ∀ (X : World) (o j : Nat) (v : Value), (X.setCell ⟨W.heap.size + 1 + 1, j, none⟩ v).cell? ⟨q, o, none⟩ = X.cell? ⟨q, o, none⟩ := fun X o j v => cell_off (by have := HQN.out; omega)
   exact bodyPost_ret (v := .tuple #[zeroC, .iface 68 (.pointer (some ⟨q, 0, none⟩))]) (results_cR Tryz.results46 _ _ (W.heap.size + 1 + 1) 50 #[.int .i64 0, .slice none 0 0, .slice none 0 0, .slice none 0 0] (0, 0) _ (.iface 68 (.pointer (some ⟨q, 0, none⟩))) rfl rfl (row_setCell (row_setCell (row_setCell (row_setCell HI1.out.re _) _) _) _) Tryz.underlying50 rfl (by kernel_rfl)) rfl ⟨.inl (.inr ⟨HG.out, p, hp, HBa.out, HF.out, q, (by have := HQN.out; omega), rfl, by rw [hoff, hoff, hoff, hoff]; exact HQ0.out, by rw [hoff, hoff, hoff, hoff]; exact HQ1.out⟩), (((HI1.out.old.setCell (by simp; omega) _).setCell (by simp; omega) _).setCell (by simp; omega) _).setCell (by simp; omega) _⟩
end Go.Proofs.YteonbmaokphleaaGreatDoor
