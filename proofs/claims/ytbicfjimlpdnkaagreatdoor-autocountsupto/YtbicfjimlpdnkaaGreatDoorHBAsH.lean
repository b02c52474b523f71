/-
  assemble: one datum of a leaf.
  shred.Part: cuts of lists; slices that are sliced; what Part answers.
  assemble: one datum of a group.
  shred.Part, walked.
  assemble: a list.
  assemble: a datum.
-/
import Derived.Test.YtbicfjimlpdnkaaGreatDoorHBAsD
import Derived.Deep.DeepCutAuto
import Derived.Test.YtbicfjimlpdnkaaGreatDoorHBColO
import Derived.Deep.RegionHeld3
import Derived.Test.YtbicfjimlpdnkaaGreatDoorHBColH
namespace Go.Proofs.YtbicfjimlpdnkaaGreatDoor
open Go.RowKit
theorem liesD_no (W : World) (P : Nat → Prop) (a : Option Addr) : LiesD W P a [] := ⟨fun _ => [], fun _ h => absurd h (Nat.not_lt_zero _), fun _ h => absurd h (Nat.not_lt_zero _)⟩
set_option maxRecDepth 100000 in
set_option maxHeartbeats 3200000 in
theorem aone_leaf (t : Tr) (df ls : Nat) (v : Vl) (hk : t.kind ≠ 0) : OneA t df ls (.mk false v [] []) := by
  intro N b G rep rest W hb hnd hG hrl hR hh
  rw [en_eq, if_neg (by simp), if_neg (by simp), if_neg hk] at hR
  cases hb with
  | group _ _ _ _ _ _ _ _ _ _ _ hk' => exact absurd hk' hk
  | leaf _ _ _ _ g ra rc hk' cell hr =>
    obtain ⟨x, r, HRx, HXr⟩ : ∃ (x : Ent) (r : List Ent), Hid (rest = [r]) ∧ Hid (x.v = some v ∧ RdL W N g (x :: r)) := by
      match rest, hrl with
      | [r], _ =>
        have h := hR.2 0 (by simp) (by rw [← hR.1]; simp)
        exact ⟨_, r, rfl, rfl, h⟩
    obtain ⟨w0, HW0, HX, HB⟩ := one_box W #[.bool false, .int .i64 0, .int .i64 0, .string ⟨#[]⟩, .slice none 0 0, .slice none 0 0] 58
    have hgl := HXr.out.2.hi
    have HT : Hid _ := atake_any N g x v r HXr.out.1 w0 (HXr.out.2.below HB.out)
    obtain ⟨c0, c1, c2, c3, c4⟩ := row_fiveB (blk_keep HB.out cell)
    obtain ⟨bb, oo, ea, hc⟩ := (hr.keep HB.out) 0 (by simp [ptrs])
    rw [ptrs_at [g] 0 _ (by simp), List.getElem_cons_zero, Nat.add_zero] at hc
    subst ea
    have HGz : Hid (W.heap.size ∉ [g]) := (by show _ ∉ _; rw [List.mem_singleton]; omega)
    have HNW : Hid (N ≤ W.heap.size) := (by show _ ≤ _; omega)
    clear hnd hG hrl hR hh cell hr hgl
    go_enter Tryz.func64, Tryz.ntmps64
    go_upto_region 1 with fail
    rw [HW0.out]
    go_wp2_with fail
    refine Calls.mono HT.out ?_
    rintro e w1 ⟨rfl, hr1, hf1⟩
    have HR1 : Hid (RdAll w1 N [g] rest) := (by
      show RdAll _ _ _ _
      rw [HRx.out]
      refine ⟨rfl, fun j h1 h2 => ?_⟩
      have : j = 0 := by simp at h1; omega
      subst this
      exact hr1)
    have HF1 : Hid (AFr [g] W w1) := (AFr.of_below HB.out).trans hf1
    have HX1 : Hid _ := hf1.box HX.out HGz.out
    obtain ⟨z0, z1, z2, z3, z4, z5⟩ := row_six HX1.out
    obtain ⟨y0, y1, y2, y3, y4, y5⟩ := row_six_z HX1.out
    clear hr1 hf1
    go_wp2
    refine bodyPost_ret (v := .tuple #[.agg #[.bool false, .int .i64 v.k, .int .i64 v.n, .string v.s, .slice none 0 0, .slice none 0 0], .nilIface]) (results_cS Tryz.results64 _ _ W.heap.size 58 #[.bool false, .int .i64 v.k, .int .i64 v.n, .string v.s, .slice none 0 0, .slice none 0 0] (0, 0) _ .nilIface rfl rfl (row_setC (row_setC (row_setC (row_setC (row_setC (row_setC HX1.out)))))) Tryz.underlying58 rfl (by kernel_rfl)) rfl ⟨none, 0, none, 0, rfl, liesD_no _ _ _, liesD_no _ _ _, HR1.out.six HGz.out HNW.out _ _ _ _ _ _, sixA HF1.out (Nat.le_refl _) _ _ _ _ _ _⟩
end Go.Proofs.YtbicfjimlpdnkaaGreatDoor

namespace Go.Proofs.YtbicfjimlpdnkaaGreatDoor
open Go.RowKit
theorem results_cR {P : Program} {fn : Func} {p u : Tmp} {ty : TypeId} (h : fn.results = #[.cell p ty, .tmp u]) (tmps : Array Value) (w : World) (g : Nat) (t : TypeId) (cs : Array Value) (fr : Nat × Nat) (d : TypeDesc) (y : Value)
    (hp : tmps.getD p undef = .pointer (some ⟨g, 0, none⟩)) (hy : tmps.getD u undef = y) (hg : w.heap[g]? = some (.cells cs t fr))
    (hu : P.underlying ty = some d) (hd : (match d with | .struct _ | .array _ _ => true | _ => false) = true) (hi : (P.info? ty).map (·.size) = some cs.size) :
    (results fn tmps).run P w = .ok (.tuple #[.agg cs, y]) w := by
  have hp' : tmps[p]?.getD undef = .pointer (some ⟨g, 0, none⟩) := by simpa using hp
  have hy' : tmps[u]?.getD undef = y := by simpa using hy
  simp [results, h, hp', hy', asAddr, Result.andThen, run_loadVar_row w g t ty cs fr d hg hu hd hi]
/-- From a place up to another one. -/
def cutL {α : Type} (l : List α) (a b : Nat) : List α := (l.take b).drop a
theorem cutL_len {α : Type} (l : List α) (a b : Nat) (h : b ≤ l.length) : (cutL l a b).length = b - a := by simp [cutL]; omega
theorem cutL_at {α : Type} (l : List α) (a b j : Nat) (h : j < (cutL l a b).length) : ∃ h2 : a + j < l.length, (cutL l a b)[j] = l[a + j] := by
  unfold cutL at *
  simp at h
  exact ⟨by omega, by simp⟩
theorem three_boxes (W : World) (c1 c2 c3 : Array Value) (t1 t2 t3 : TypeId) : ∃ w0, Hid (((W.alloc (.cells c1 t1)).alloc (.cells c2 t2)).alloc (.cells c3 t3) = w0) ∧ Hid (w0.heap[W.heap.size]? = some (.cells c1 t1 (0, 0))) ∧ Hid (w0.heap[W.heap.size + 1]? = some (.cells c2 t2 (0, 0))) ∧ Hid (w0.heap[W.heap.size + 1 + 1]? = some (.cells c3 t3 (0, 0))) ∧ Hid (Below W.heap.size W w0) := by
  obtain ⟨w1, H1, H2, H3, H4⟩ := two_boxes W c1 c2 t1 t2
  refine ⟨w1.alloc (.cells c3 t3), by show _ = _; rw [H1.out], blk_alloc H2.out, blk_alloc H3.out, ?_, H4.out.alloc H4.out.size _⟩
  have h := heap_alloc_new w1 (.cells c3 t3)
  rw [show w1.heap.size = W.heap.size + 1 + 1 by rw [← H1.out]; simp] at h
  exact h
theorem bel_next {B : Nat} {w X x' : World} (h : Below B w X) (hB : B ≤ w.heap.size) (hb : Below X.heap.size X x') : Below B w x' := h.trans (hb.mono (Nat.le_trans hB h.size))
theorem Cl.Fr.low {N M : Nat} {c : Cl} (h : c.Fr N) (hm : M ≤ N) : c.Fr M := ⟨fun p hp => Nat.le_trans hm (h.r p hp), fun p hp => Nat.le_trans hm (h.d p hp), fun p hp => Nat.le_trans hm (h.v p hp)⟩
theorem lies_cut {w : World} {a : Option Addr} {cs : List Value} (h : Lies w a cs) (l m c : Nat) (hm : m ≤ cs.length) (hc : cs.length ≤ c) {x : Option Addr} (hx : x = if c = l then a else a.map (fun p => p.add (l * 1))) : Lies w x (cutL cs l m) := fun j hj => by
  obtain ⟨h2, e⟩ := cutL_at cs l m j hj
  have hj2 : j < m - l := by rw [cutL_len cs l m hm] at hj; exact hj
  obtain ⟨b, o, rfl, hcell⟩ := h (l + j) h2
  rw [if_neg (by omega)] at hx
  refine ⟨b, o + l, by rw [hx]; simp [addr_add], ?_⟩
  rw [e, Nat.add_assoc]; exact hcell
theorem liesV_cut {w : World} {a : Option Addr} {vs : List Vl} (h : LiesV w a vs) (l m c : Nat) (hm : m ≤ vs.length) (hc : vs.length ≤ c) {x : Option Addr} (hx : x = if c = l then a else a.map (fun p => p.add (l * 3))) : LiesV w x (cutL vs l m) := fun j hj => by
  obtain ⟨h2, e⟩ := cutL_at vs l m j hj
  have hj2 : j < m - l := by rw [cutL_len vs l m hm] at hj; exact hj
  obtain ⟨b, o, rfl, h0, h1, h3⟩ := h (l + j) h2
  rw [if_neg (by omega)] at hx
  have e3 : o + (l + j) * 3 = o + l * 3 + j * 3 := by omega
  rw [e3] at h0 h1 h3
  refine ⟨b, o + l * 3, by rw [hx]; simp [addr_up], ?_, ?_, ?_⟩ <;> rw [e] <;> assumption
theorem i64s_cut (xs : List Int) (a b : Nat) : i64s (cutL xs a b) = cutL (i64s xs) a b := by simp [i64s, cutL]
theorem cntE_app (md : Int) (xs ys : List Int) : cntE md (xs ++ ys) = cntE md xs + cntE md ys := by simp [cntE]
theorem cntE_cut (md : Int) (xs : List Int) (a b : Nat) (h : a ≤ b) : cntE md (xs.take b) = cntE md (xs.take a) + cntE md (cutL xs a b) := by
  have e : xs.take b = xs.take a ++ cutL xs a b := by
    have e1 := (List.take_append_drop a (xs.take b)).symm
    rw [List.take_take, Nat.min_eq_left h] at e1
    exact e1
  exact (congrArg (cntE md) e).trans (cntE_app _ _ _)
theorem cntE_mono (md : Int) (xs : List Int) {a b : Nat} (h : a ≤ b) : cntE md (xs.take a) ≤ cntE md (xs.take b) := by rw [cntE_cut md xs a b h]; omega
theorem cntE_all (md : Int) (xs : List Int) (a : Nat) : cntE md (xs.take a) ≤ cntE md xs := by
  have h : cntE md xs = cntE md (xs.take a) + cntE md (xs.drop a) := by rw [← cntE_app, List.take_append_drop]
  omega
theorem StAt.le {rs : List Int} {x y : Int} {a b : Nat} (ha : StAt rs x a) (hb : StAt rs y b) (h : x ≤ y) : a ≤ b := by
  rcases Nat.lt_or_ge b a with hlt | hge
  · exfalso
    have h1 := ha.2.1 b hlt
    have h2 := hb.2.2 (by have := ha.1; omega)
    omega
  · exact hge
theorem valuesOf_n (id kind mr md : Int) (pa : Option Addr) (pn pc : Nat) (a : Option Addr) (n c : Nat) (xs : List Int) (hn : xs.length ≤ 1048576) (W : World) (hl : Lies W a (i64s xs)) (he : n = xs.length) :
    Calls Tryz.prog 89 #[leafV id kind mr md pa pn pc, .slice a n c] W fun e w' => e = .returned (.int .i64 (cntE md xs : Nat)) ∧ Below W.heap.size W w' := by
  subst he
  exact valuesOf_any id kind mr md pa pn pc a c xs hn W hl
theorem joined_n (lid kind mr md : Int) (pa : Option Addr) (pn pc : Nat) (a : Option Addr) (n c : Nat) (cs : List Cl) (W : World) (hn : cs.length ≤ 1048576) (hjr : (jR cs).length ≤ 1048576) (hjd : (jD cs).length ≤ 1048576) (hjv : (jV cs).length ≤ 1048576) (hl : LiesC W a cs) (he : n = cs.length) :
    Calls Tryz.prog 90 #[leafV lid kind mr md pa pn pc, .slice a n c] W fun e w' => (∃ k : Cl, e = .returned (.agg #[.int .i64 k.id, .slice k.ra k.rs.length k.rc, .slice k.da k.ds.length k.dc, .slice k.va k.vs.length k.vc]) ∧ k.At w' ∧ k.Fr W.heap.size ∧ k.id = lid ∧ k.rs = jR cs ∧ k.ds = jD cs ∧ k.vs = jV cs) ∧ Below W.heap.size W w' := by
  subst he
  exact joined_any lid kind mr md pa pn pc a c cs W hn hjr hjd hjv hl
/-- A column of nothing. -/
abbrev zeroC : Value := .agg #[.int .i64 0, .slice none 0 0, .slice none 0 0, .slice none 0 0]
/-- Is a column right for a leaf? -/
def GoodC (lid kind mr md : Int) (c : Cl) : Prop := (isLfB kind mr md && fitB lid mr md c.id c.rs c.ds c.vs.length) = true ∧ ∀ j (h : j < c.vs.length), badV kind c.vs[j] = false
/-- What is told of a column that is not right. -/
def BadRet (N : Nat) (lid kind mr md : Int) (c : Cl) (sv kv : Value) (e : Ending) (w' : World) : Prop :=
  ((isLfB kind mr md && fitB lid mr md c.id c.rs c.ds c.vs.length) = false ∧ e = .returned (.tuple #[zeroC, sv])) ∨
  ((isLfB kind mr md && fitB lid mr md c.id c.rs c.ds c.vs.length) = true ∧ ∃ p : Nat, ∃ hp : p < c.vs.length, badV kind c.vs[p] = true ∧ (∀ j (h : j < c.vs.length), j < p → badV kind c.vs[j] = false) ∧ ∃ q, N ≤ q ∧ e = .returned (.tuple #[zeroC, .iface 63 (.pointer (some ⟨q, 0, none⟩))]) ∧ w'.cell? ⟨q, 0, none⟩ = some (.int .i64 p) ∧ w'.cell? ⟨q, 1, none⟩ = some kv)
/-- What Part answers. -/
def PtRet (N : Nat) (lid kind mr md : Int) (c : Cl) (lo hi : Int) (sv kv bv : Value) (e : Ending) (w' : World) : Prop :=
  BadRet N lid kind mr md c sv kv e w' ∨
  (GoodC lid kind mr md c ∧ ¬ (0 ≤ lo ∧ lo ≤ hi ∧ hi ≤ (cntE 0 c.rs : Nat)) ∧ e = .returned (.tuple #[zeroC, bv])) ∨
  (GoodC lid kind mr md c ∧ (0 ≤ lo ∧ lo ≤ hi ∧ hi ≤ (cntE 0 c.rs : Nat)) ∧ ∃ (k : Cl) (a b : Nat), e = .returned (.tuple #[k.val, .nilIface]) ∧ k.At w' ∧ k.Fr N ∧ StAt c.rs lo a ∧ StAt c.rs hi b ∧ k.id = lid ∧ k.rs = cutL c.rs a b ∧ k.ds = cutL c.ds a b ∧ k.vs = cutL c.vs (cntE md (c.ds.take a)) (cntE md (c.ds.take b)))
/-- What Part's boxes hold. -/
structure PtI (W : World) (lid kind mr md : Int) (pa : Option Addr) (pn pc : Nat) (c : Cl) (X : World) : Prop where
  lf : X.heap[W.heap.size]? = some (.cells #[.int .i64 lid, .int .i64 kind, .int .i64 mr, .int .i64 md, .slice pa pn pc] 67 (0, 0))
  co : X.heap[W.heap.size + 1]? = some (.cells #[.int .i64 c.id, .slice c.ra c.rs.length c.rc, .slice c.da c.ds.length c.dc, .slice c.va c.vs.length c.vc] 42 (0, 0))
  re : X.heap[W.heap.size + 1 + 1]? = some (.cells #[.int .i64 0, .slice none 0 0, .slice none 0 0, .slice none 0 0] 42 (0, 0))
  old : Below W.heap.size W X
theorem PtI.keep {W : World} {lid kind mr md : Int} {pa : Option Addr} {pn pc : Nat} {c : Cl} {X w' : World} (h : PtI W lid kind mr md pa pn pc c X) (hb : Below (W.heap.size + 1 + 1 + 1) X w') : PtI W lid kind mr md pa pn pc c w' :=
  ⟨(hb.block _ (by omega)).trans h.lf, (hb.block _ (by omega)).trans h.co, (hb.block _ (by omega)).trans h.re, h.old.trans (hb.mono (by omega))⟩
end Go.Proofs.YtbicfjimlpdnkaaGreatDoor

namespace Go.Proofs.YtbicfjimlpdnkaaGreatDoor
open Go.RowKit
theorem fl_sub (FG : Nat → List Nat) {n j : Nat} (h : j < n) : ∀ g ∈ FG j, g ∈ (List.range n).flatMap FG := fun _ hg => List.mem_flatMap.2 ⟨j, List.mem_range.2 h, hg⟩
theorem fl_one {FG : Nat → List Nat} {n j : Nat} (h : j < n) (hnd : ((List.range n).flatMap FG).Nodup) : (FG j).Nodup ∧ (FG j).length ≤ ((List.range n).flatMap FG).length := by
  obtain ⟨tl, e⟩ := fl_split FG j n h
  rw [e] at hnd ⊢
  refine ⟨(List.nodup_append.1 (List.nodup_append.1 hnd).2.1).1, ?_⟩
  simp only [List.length_append]
  omega
theorem fl_lt {FG : Nat → List Nat} {n i j : Nat} (hij : i < j) (h : j < n) (hnd : ((List.range n).flatMap FG).Nodup) : ∀ g ∈ FG i, g ∉ FG j := fun g hi hj => by
  obtain ⟨tl, e⟩ := fl_split FG j n h
  rw [e] at hnd
  exact (List.nodup_append.1 hnd).2.2 g (fl_sub FG hij g hi) g (List.mem_append_left _ hj) rfl
theorem fl_dis {FG : Nat → List Nat} {n i j : Nat} (hij : i ≠ j) (h1 : i < n) (h : j < n) (hnd : ((List.range n).flatMap FG).Nodup) : ∀ g ∈ FG i, g ∉ FG j := fun g hi hj => by
  rcases Nat.lt_or_gt_of_ne hij with h2 | h2
  · exact fl_lt h2 h hnd g hi hj
  · exact fl_lt h2 h1 hnd g hj hi
theorem RdAll.fr {w w' : World} {N : Nat} {G H : List Nat} {R : List (List Ent)} (h : RdAll w N G R) (hf : AFr H w w') (hg : ∀ g ∈ G, g ∉ H) (hH : ∀ k ∈ H, N ≤ k) : RdAll w' N G R := ⟨h.1, fun j h1 h2 => (h.2 j h1 h2).fr hf (hg _ (List.getElem_mem _)) hH⟩
theorem RdAll.low {w w' : World} {N : Nat} {G : List Nat} {R : List (List Ent)} (h : RdAll w N G R) (B : Nat) (hg : ∀ g ∈ G, g < B) (hs : ∀ k, k < B → w'.heap[k]? = w.heap[k]?) : RdAll w' N G R := ⟨h.1, fun j h1 h2 => (h.2 j h1 h2).keep (hs _ (hg _ (List.getElem_mem _))) (fun b hb => hs b (by have := (h.2 j h1 h2).hi; have := hg _ (List.getElem_mem h1); omega))⟩
theorem AFr.base {G : List Nat} {q : Nat} {W Wb w : World} (h0 : Below W.heap.size W Wb) (h : AFr (q :: G) Wb w) (hq : W.heap.size ≤ q) : AFr G W w :=
  ⟨h.os.trans h0.os, h.tape.trans h0.tape, h.output.trans h0.output, Nat.le_trans h0.size h.size, fun k hk hn => by
    rw [h.keep k (Nat.lt_of_lt_of_le hk h0.size) (fun hm => by
      rcases List.mem_cons.1 hm with e | e
      · omega
      · exact hn e), h0.block k hk]⟩
/-- Branches stay, while readers and new blocks turn. -/
theorem BrAt.st {W w : World} {b : Nat} {t : Tr} {df ls : Nat} {G G' : List Nat} (h : BrAt W b t df ls G) (hf : AFr G' W w) (hn : ∀ k ∈ G', k < W.heap.size → ¬ BrB W k) : BrAt w b t df ls G := h.stay (fun k hk hb => hf.keep k hk (fun hm => hn k hm hk hb))
theorem ptrs_st {W w : World} {a : Option Addr} {G G' : List Nat} (h : Lies W a (ptrs G)) (hf : AFr G' W w) (hn : ∀ k ∈ G', k < W.heap.size → ¬ BrB W k) : Lies w a (ptrs G) := ptrs_stay h (fun k hk hb => hf.keep k hk (fun hm => hn k hm hk hb))
theorem LiesD.six {w : World} {B g : Nat} {P : Nat → Prop} {a : Option Addr} {ds : List Dt} (h : LiesD w (fun b => B ≤ b) a ds) (hg : g < B) (hP : ∀ b, B ≤ b → P b) (v0 v1 v2 v3 v4 v5 : Value) : LiesD ((((((w.setCell ⟨g, 0, none⟩ v0).setCell ⟨g, 1, none⟩ v1).setCell ⟨g, 2, none⟩ v2).setCell ⟨g, 3, none⟩ v3).setCell ⟨g, 4, none⟩ v4).setCell ⟨g, 5, none⟩ v5) P a ds :=
  h.stay (fun b hb _ => hP b hb) (fun b hb _ => sixK _ _ _ (by omega) _ _ _ _ _ _)
set_option maxRecDepth 100000 in
set_option maxHeartbeats 6400000 in
theorem aone_group (t : Tr) (df ls : Nat) (hk : t.kind = 0) (hsl : t.sub.length ≤ 1048576) (fs : List Dt) (hlen : fs.length = t.sub.length) (hck : ∀ j (h : j < t.sub.length) (h' : j < fs.length), chk false t.sub[j] fs[j] = 0) (each : ∀ j (h : j < t.sub.length) (h' : j < fs.length), DatA t.sub[j] (dfN t df) (lsN t ls) fs[j]) : OneA t df ls (.mk false ⟨0, 0, ⟨#[]⟩⟩ [] fs) := by
  intro N b G rep rest W hb hnd hG hrl hR hh
  obtain ⟨iv, hvi, hv0, hv1, hv2⟩ := info_parts Tryz.infoD
  rw [en_eq, if_neg (by simp), if_neg (by simp), if_pos hk, if_pos (Or.inl rfl)] at hR
  cases hb with
  | leaf _ _ _ _ _ _ _ hk' => exact absurd hk hk'
  | group _ _ _ _ fa fc ra rc FB FG _ _ h0 cell hf each' hr hGe =>
    subst hGe
    have hl : ∀ j (h : j < t.sub.length), (FG j).length = lvC t.sub[j] := fun j h => (each' j h).len
    have hlt := hR.lt
    have hGz : ∀ g ∈ (List.range t.sub.length).flatMap FG, g < W.heap.size := fun g hg => (hlt g hg).2
    obtain ⟨E, HE⟩ : ∃ E : Nat → List (List Ent), Hid (∀ j (h : j < t.sub.length) (h' : j < fs.length), E j = zipA (en false t.sub[j] (dfN t df) (lsN t ls) rep fs[j]) (ptR t.sub rest j)) := ⟨fun j => if h : j < t.sub.length ∧ j < fs.length then zipA (en false t.sub[j] (dfN t df) (lsN t ls) rep fs[j]) (ptR t.sub rest j) else [], fun j h h' => dif_pos ⟨h, h'⟩⟩
    have HSt : Hid (∀ j (h : j < t.sub.length), RdAll W N (FG j) (if j < 0 then ptR t.sub rest j else E j)) := fun j h => by
      rw [if_neg (by omega), HE.out j h (by omega)]
      exact rdAll_part hl hlen hck hrl hR j h (by omega)
    have HPl : Hid (∀ j (h : j < t.sub.length), (ptR t.sub rest j).length = (FG j).length) := fun j h => ptR_len hl rest hrl j h
    have HHd : Hid (∀ j, ∀ es ∈ ptR t.sub rest j, hdR es ≤ (lsN t ls : Int)) := fun j es he => hh es (ptR_mem he)
    have HWh : Hid (∀ w, (∀ j, j < t.sub.length → RdAll w N (FG j) (ptR t.sub rest j)) → RdAll w N ((List.range t.sub.length).flatMap FG) rest) := fun w h => rdAll_whole hl hrl h
    have HDis : Hid (∀ i j, i ≠ j → i < t.sub.length → j < t.sub.length → ∀ g ∈ FG i, g ∉ FG j) := fun i j h h1 h2 => fl_dis h h1 h2 hnd
    have HSub : Hid (∀ j, j < t.sub.length → ∀ g ∈ FG j, g ∈ (List.range t.sub.length).flatMap FG) := fun j h => fl_sub FG h
    have HOne : Hid (∀ j, j < t.sub.length → (FG j).Nodup ∧ (FG j).length ≤ 1000) := fun j h => ⟨(fl_one h hnd).1, Nat.le_trans (fl_one h hnd).2 hG⟩
    have HLt : Hid _ := hlt
    have HGz : Hid _ := hGz
    have HNb0 : ∀ g ∈ (List.range t.sub.length).flatMap FG, ¬ BrB W g := fun g hg => by
      obtain ⟨rem, h2⟩ := hR.mem g hg
      exact h2.noB
    have HEach : Hid _ := each
    have HBr : Hid _ := each'
    have HFl : Hid _ := hf
    have hlen2 : Hid (fs.length = t.sub.length) := hlen
    obtain ⟨G, HGn⟩ := hid_name ((List.range t.sub.length).flatMap FG)
    rw [HGn.out] at HWh HSub HLt HGz HNb0 cell ⊢
    obtain ⟨w0, HW0, HX, HB⟩ := one_box W #[.bool false, .int .i64 0, .int .i64 0, .string ⟨#[]⟩, .slice none 0 0, .slice none 0 0] 58
    obtain ⟨w1, HW1, HY, HB1⟩ := one_box w0 #[.bool false, .int .i64 0, .int .i64 0, .string ⟨#[]⟩, .slice none 0 0, .slice none 0 0] 58
    have hs0 : W.heap.size < w0.heap.size := lt_of_block HX.out
    have hs1 : w0.heap.size < w1.heap.size := lt_of_block HY.out
    have HBb : Hid (Below W.heap.size W w1) := HB.out.trans (HB1.out.mono (by omega))
    have HXb : Hid _ := blk_keep HB1.out HX.out
    obtain ⟨c0, c1, c2, c3, c4⟩ := row_fiveB (blk_keep HB.out cell)
    have d3 : w1.cell? ⟨b, 3, none⟩ = some (.slice fa t.sub.length fc) := (row_fiveB (blk_keep HBb.out cell)).2.2.2.1
    obtain ⟨q, HQ⟩ := hid_name w0.heap.size
    rw [HQ.out] at HY hs1
    have hqW : W.heap.size < q := by have := HQ.out; omega
    have HNb : Hid (∀ k ∈ q :: G, k < W.heap.size → ¬ BrB W k) := fun k hm hk => by
      rcases List.mem_cons.1 hm with e | e
      · omega
      · exact HNb0 k e
    have HSt1 : Hid (∀ j (h : j < t.sub.length), RdAll w1 N (FG j) (if j < 0 then ptR t.sub rest j else E j)) := fun j h => (HSt.out j h).below HBb.out
    have HAg : Hid (AgI w1 (q :: G) fs w1 0 (.slice none 0 0) []) := .start fs (AFr.refl _ _) (fun g hg => by
      rcases List.mem_cons.1 hg with e | e
      · omega
      · have := HGz.out g e; omega)
    have hn0 : ((t.sub.length : Int) == 0) = false := by
      rw [beq_eq_false_iff_ne]; omega
    have hn1 : (t.sub.length == 0) = false := by
      rw [beq_eq_false_iff_ne]; omega
    have HNW : Hid (G = [] ∨ N ≤ W.heap.size) := (by
      show _ ∨ _
      rcases Nat.eq_zero_or_pos G.length with h | h
      · exact .inl (List.length_eq_zero_iff.1 h)
      · have := HLt.out G[0] (List.getElem_mem _)
        exact .inr (by omega))
    clear hnd hG hrl hR hh cell hr hl hlt hGz HSt HNb0 each each' hf hck hlen
    go_enter Tryz.func64, Tryz.ntmps64
    go_upto_region 1 with fail
    rw [HW0.out]
    go_upto_region 4 with fail
    rw [HW1.out, HQ.out]
    go_wp2_with fail
    go_loopw [28] (fun x wr => ∃ (i : Nat) (l : Value) (ncs : List (List Value)), i ≤ t.sub.length ∧ x = .int .i64 i ∧ Hid (AgI w1 (q :: G) fs wr i l ncs) ∧ Hid (wr.heap[q]? = some (.cells #[.bool false, .int .i64 0, .int .i64 0, .string ⟨#[]⟩, .slice none 0 0, l] 58 (0, 0))) ∧ Hid (∀ j (h : j < t.sub.length), RdAll wr N (FG j) (if j < i then ptR t.sub rest j else E j))) (fun x _ => t.sub.length - (intOf x).toNat)
    case atStart => exact ⟨0, _, [], Nat.zero_le _, rfl, HAg, HY, HSt1⟩
    case round =>
      clear HAg HY HSt1 c0 c1 c2 c3 c4 d3
      obtain ⟨i, l, ncs, hik, rfl, HD, HQr, HS⟩ := hrel
      have HFW : Hid (AFr (q :: G) W wr) := (AFr.of_below HBb.out).trans HD.out.fr
      by_cases hlt : i < t.sub.length
      · have hif : i < fs.length := by rw [hlen2.out]; exact hlt
        have h1 := HS.out i hlt
        rw [if_neg (by omega), HE.out i hlt hif] at h1
        have HT : Hid _ := HEach.out i hlt hif N (FB i) (FG i) rep (ptR t.sub rest i) wr ((HBr.out i hlt).st HFW.out HNb.out) (HOne.out i hlt).1 (HOne.out i hlt).2 (HPl.out i hlt) h1 (HHd.out i)
        obtain ⟨bb, oo, ea, hc⟩ := (ptrs_st HFl.out HFW.out HNb.out) i (by rw [ptrs_len]; simpa using hlt)
        rw [ptrs_at _ i _ (by simpa using hlt), List.getElem_map, List.getElem_range] at hc
        subst ea
        have q0 : (0 : Int) ≤ (i : Int) := by omega
        have q1 : (i : Int) < (t.sub.length : Int) := by omega
        clear h1
        obtain ⟨y, HYn⟩ := hid_name fs[i]
        rw [HYn.out] at HT
        go_wp2_with fail
        refine Calls.mono HT.out ?_
        rintro e w2 ⟨al, cl, af, cf, rfl, hl2, hf2, hr2, hff2⟩
        have hqi : q ∉ FG i := fun hm => by have := HGz.out q (HSub.out i hlt q hm); omega
        have HQ2 : Hid _ := hff2.box HQr.out hqi
        have HS2 : Hid (∀ j (h : j < t.sub.length), RdAll w2 N (FG j) (if j < i + 1 then ptR t.sub rest j else E j)) := fun j h => by
          by_cases e : j = i
          · subst e
            rw [if_pos (by omega)]
            exact hr2
          · have h3 := (HS.out j h).fr hff2 (HDis.out j i e h hlt) (fun k hk => (HLt.out k (HSub.out i hlt k hk)).1)
            by_cases hji : j < i
            · rw [if_pos hji] at h3
              rw [if_pos (by omega)]
              exact h3
            · rw [if_neg hji] at h3
              rw [if_neg (by omega)]
              exact h3
        have hf2m : AFr (q :: G) wr w2 := hff2.more (fun g hg => List.mem_cons_of_mem _ (HSub.out i hlt g hg))
        obtain ⟨w3, HW3, HZ3, HB3⟩ := one_box w2 #[.bool y.no, .int .i64 y.v.k, .int .i64 y.v.n, .string y.v.s, .slice al y.l.length cl, .slice af y.f.length cf] 58
        have HF3 : Hid (AFr (q :: G) wr w3) := hf2m.trans (AFr.of_below HB3.out)
        have HL3 : Hid (LiesD w3 (fun b => wr.heap.size ≤ b) al y.l) := hl2.keep HB3.out
        have HL4 : Hid (LiesD w3 (fun b => wr.heap.size ≤ b) af y.f) := hf2.keep HB3.out
        have HQ3 : Hid _ := blk_keep HB3.out HQ2.out
        have HS3 : Hid (∀ j (h : j < t.sub.length), RdAll w3 N (FG j) (if j < i + 1 then ptR t.sub rest j else E j)) := fun j h => (HS2.out j h).below HB3.out
        have HRow : Hid (w3.ownsRow w1.heap.size 58 6 l i ncs.flatten) := row_af HD.out.row HF3.out HD.out.lt
        have hwsz : w1.heap.size ≤ w3.heap.size := Nat.le_trans HD.out.fr.size HF3.out.size
        clear hl2 hf2 hr2 hff2 hf2m HQ2 HS2
        go_upto_region 8 with fail
        rw [HW3.out]
        obtain ⟨z0, z1, z2, z3, z4, z5⟩ := row_six HZ3.out
        obtain ⟨p0, p1, p2, p3, p4, p5⟩ := row_six HQ3.out
        go_wp2_with (at_builtin; refine wpList_append_where _ rfl _ _ 25 rfl w1.heap.size 58 iv (.agg #[.bool false, .int .i64 0, .int .i64 0, .string ⟨#[]⟩, .slice none 0 0, .slice none 0 0]) 6 88 Tryz.underlying25 hvi hv0 hv1 hv2 rfl (by decide) _ i ncs.flatten rfl (HRow.out.alloc _) ⟨_, 0, none⟩ 1 1 [.bool y.no, .int .i64 y.v.k, .int .i64 y.v.n, .string y.v.s, .slice al y.l.length cl, .slice af y.f.length cf] rfl rfl six_cells (by intro u hu; simp at hu; rcases hu with rfl | rfl | rfl | rfl | rfl | rfl <;> rfl) (by unfold maxLen; omega) (by omega) (by simp; omega) (by decide) ?_; intro l' w9 hown9 hgrow9 hwh; have HDn : Hid (AgI w1 (q :: G) fs w9 (i + 1) l' (ncs ++ [[.bool fs[i].no, .int .i64 fs[i].v.k, .int .i64 fs[i].v.n, .string fs[i].v.s, .slice al fs[i].l.length cl, .slice af fs[i].f.length cf]])) := HD.out.push hif HF3.out (by rw [HYn.out]; exact HL3.out) (by rw [HYn.out]; exact HL4.out) (by rw [HYn.out]; exact hown9) hgrow9 hwh; have HG9 : Hid (AFr (q :: G) w1 w9 ∧ ∀ k, k < w1.heap.size → w9.heap[k]? = w3.heap[k]?) := af_grow (HD.out.fr.trans HF3.out) hgrow9 (fun k hk => (HD.out.row.lt k hk).1); have HQ9 : Hid _ := (HG9.out.2 q hs1).trans HQ3.out; have HZ9 : Hid _ := row_six_z HQ9.out; clear p0 p1 p2 p3 p4 p5; obtain ⟨f0, f1, f2, f3, f4, f5⟩ := HZ9.out; obtain ⟨g0, g1, g2, g3, g4, g5⟩ := row_six HQ9.out; obtain ⟨a8, c8, rfl⟩ := HDn.out.shape)
        have HDm : Hid _ := HDn.out.go ((AFr.refl (q :: G) w9).setIn (g := q) (j := 5) (v := .slice a8 (i + 1) c8) (List.mem_cons_self ..))
        have HQn : Hid ((w9.setCell ⟨q, 5, none⟩ (.slice a8 (i + 1) c8)).heap[q]? = some (.cells #[.bool false, .int .i64 0, .int .i64 0, .string ⟨#[]⟩, .slice none 0 0, .slice a8 (i + 1) c8] 58 (0, 0))) := row_setC HQ9.out
        have HSn : Hid (∀ j (h : j < t.sub.length), RdAll (w9.setCell ⟨q, 5, none⟩ (.slice a8 (i + 1) c8)) N (FG j) (if j < i + 1 then ptR t.sub rest j else E j)) := fun j h => (HS3.out j h).low W.heap.size (fun g hg => HGz.out g (HSub.out j h g hg)) (fun k hk => by
          rw [Below.heap_setCell w9 ⟨q, 5, none⟩ _ k (by show k ≠ q; omega), HG9.out.2 k (by omega)])
        go_roundw
        case rel => exact ⟨i + 1, _, _, by omega, by go_num, HDm, HQn, HSn⟩
        case measure => simp [intOf]; omega
      · obtain rfl : i = t.sub.length := by omega
        have HRn : Hid (RdAll wr N G rest) := HWh.out wr (fun j h => by
          have h3 := HS.out j h
          rw [if_pos h] at h3
          exact h3)
        have HXr : Hid _ := HD.out.fr.box HXb.out (fun hm => by
          rcases List.mem_cons.1 hm with e | e
          · omega
          · have := HGz.out _ e; omega)
        have HFn : Hid (AFr G W wr) := AFr.base HBb.out HD.out.fr (by omega)
        obtain ⟨a9, c9, rfl⟩ := HD.out.shape
        have hd := HD.out
        have hle := hlen2.out
        have HLn : Hid (LiesD wr (fun b => w1.heap.size ≤ b) a9 fs) := (by
          rw [← hle] at hd
          exact hd.lies)
        have HGe : Hid (W.heap.size ∉ G) := (by
          show _ ∉ _
          intro hm
          have := HGz.out _ hm
          omega)
        obtain ⟨z0, z1, z2, z3, z4, z5⟩ := row_six HXr.out
        obtain ⟨y0, y1, y2, y3, y4, y5⟩ := row_six_z HXr.out
        obtain ⟨p0, p1, p2, p3, p4, p5⟩ := row_six HQr.out
        clear hd hle
        go_wp2
        refine bodyPost_ret (v := .tuple #[.agg #[.bool false, .int .i64 0, .int .i64 0, .string ⟨#[]⟩, .slice none 0 0, .slice a9 t.sub.length c9], .nilIface]) (results_cS Tryz.results64 _ _ W.heap.size 58 #[.bool false, .int .i64 0, .int .i64 0, .string ⟨#[]⟩, .slice none 0 0, .slice a9 t.sub.length c9] (0, 0) _ .nilIface rfl rfl (row_setC (row_setC (row_setC (row_setC (row_setC (row_setC HXr.out)))))) Tryz.underlying58 rfl (by kernel_rfl)) rfl ⟨none, 0, a9, c9, by rw [← hlen2.out]; rfl, liesD_no _ _ _, HLn.out.six (by omega) (fun b hb => by omega) _ _ _ _ _ _, ?_, sixA HFn.out (Nat.le_refl _) _ _ _ _ _ _⟩
        rcases HNW.out with h | h
        · subst h
          exact ⟨HRn.out.1, fun j h1 _ => absurd h1 (by simp)⟩
        · exact HRn.out.six HGe.out h _ _ _ _ _ _
end Go.Proofs.YtbicfjimlpdnkaaGreatDoor

namespace Go.Proofs.YtbicfjimlpdnkaaGreatDoor
open Go.RowKit
theorem addr_add0 (a : Addr) : a.add 0 = a := by
  obtain ⟨b, o, r⟩ := a
  unfold Addr.add
  split <;> simp_all
theorem blk_drew {w : World} {g : Nat} {o : Obj} (h : w.heap[g]? = some o) : w.drew.heap[g]? = some o := h
set_option maxRecDepth 100000 in
set_option maxHeartbeats 12800000 in
theorem part_any (lid kind mr md lo hi : Int) (pa : Option Addr) (pn pc : Nat) (c : Cl) (W : World) (st kt bt : TypeId) (sp kp bp : Value)
    (hn : c.rs.length ≤ 1048576) (hn2 : c.ds.length ≤ 1048576) (hv : c.vs.length ≤ 1048576) (hcr : c.rs.length ≤ c.rc) (hcd : c.ds.length ≤ c.dc) (hcv : c.vs.length ≤ c.vc)
    (hs : W.cell? ⟨1, 0, none⟩ = some (.iface st sp)) (hk : W.cell? ⟨3, 0, none⟩ = some (.iface kt kp)) (hbd : W.cell? ⟨0, 0, none⟩ = some (.iface bt bp)) (hat : c.At W) :
    Calls Tryz.prog 56 #[leafV lid kind mr md pa pn pc, c.val, .int .i64 lo, .int .i64 hi] W fun e w' => PtRet W.heap.size lid kind mr md c lo hi (.iface st sp) (.iface kt kp) (.iface bt bp) e w' ∧ Below W.heap.size W w' := by
  unfold leafV Cl.val colV
  obtain ⟨w0, HW0, HX, HY, HZ, HB⟩ := three_boxes W #[.int .i64 lid, .int .i64 kind, .int .i64 mr, .int .i64 md, .slice pa pn pc] #[.int .i64 c.id, .slice c.ra c.rs.length c.rc, .slice c.da c.ds.length c.dc, .slice c.va c.vs.length c.vc] #[.int .i64 0, .slice none 0 0, .slice none 0 0, .slice none 0 0] 67 42 42
  have HI0 : Hid (PtI W lid kind mr md pa pn pc c w0) := ⟨HX.out, HY.out, HZ.out, HB.out⟩
  have HAT : Hid (∀ X, PtI W lid kind mr md pa pn pc c X → c.At X) := fun X hX => hat.keep hX.old
  have HS : Hid (∀ X, PtI W lid kind mr md pa pn pc c X → X.cell? ⟨1, 0, none⟩ = some (.iface st sp)) := fun X hX => ckB hs hX.old
  have HK : Hid (∀ X, PtI W lid kind mr md pa pn pc c X → X.cell? ⟨3, 0, none⟩ = some (.iface kt kp)) := fun X hX => ckB hk hX.old
  have HBD : Hid (∀ X, PtI W lid kind mr md pa pn pc c X → X.cell? ⟨0, 0, none⟩ = some (.iface bt bp)) := fun X hX => ckB hbd hX.old
  have HLE : Hid (∀ X, PtI W lid kind mr md pa pn pc c X → W.heap.size + 1 + 1 + 1 ≤ X.heap.size) := fun X hX => lt_of_block hX.re
  have hgN : 0 < W.heap.size := World.block_lt_of_cell? W _ hbd
  have hgN1 : ¬ (0 = W.heap.size + 1 + 1) := by omega
  have hgN2 : ¬ (W.heap.size = 0) := by omega
  have hgN3 : ¬ (W.heap = #[]) := fun h => hgN2 (by rw [h]; rfl)
  clear hat hs hk hbd HX HY HZ HB hgN
  obtain ⟨⟨p0, p1, p2, p3, p4⟩, _⟩ := row_five HI0.out.lf
  obtain ⟨k0, k1, k2, k3⟩ := row_four HI0.out.co
  go_enter Tryz.func56, Tryz.ntmps56
  go_wp2_with fail
  rw [HW0.out]
  refine (scheck_any lid kind mr md c.id pa c.ra c.da c.va pn pc c.rc c.dc c.vc c.rs c.ds c.vs w0 st kt sp kp hn hn2 hv (HS.out _ HI0.out) (HK.out _ HI0.out) (HAT.out _ HI0.out).r (HAT.out _ HI0.out).d (HAT.out _ HI0.out).v).mono ?_
  rintro e w1 ⟨hck, hb1⟩
  have HI1 : Hid (PtI W lid kind mr md pa pn pc c w1) := HI0.out.keep (hb1.mono (HLE.out _ HI0.out))
  clear hb1 p0 p1 p2 p3 p4 k0 k1 k2 k3
  obtain ⟨⟨p0, p1, p2, p3, p4⟩, _⟩ := row_five HI1.out.lf
  obtain ⟨k0, k1, k2, k3⟩ := row_four HI1.out.co
  obtain ⟨z0, z1, z2, z3⟩ := row_four HI1.out.re
  obtain ⟨f0, f1, f2, f3⟩ := row_fourA HI1.out.re
  rcases hck with ⟨hb, rfl⟩ | ⟨hg, ⟨hall, rfl⟩ | ⟨p, hp, hbad, hf, q, hqn, rfl, hq0, hq1⟩⟩
  · have HG : Hid _ := hb
    clear hb
    go_wp2
    exact bodyPost_ret (v := .tuple #[zeroC, .iface st sp]) (results_cR Tryz.results56 _ _ (W.heap.size + 1 + 1) 42 #[.int .i64 0, .slice none 0 0, .slice none 0 0, .slice none 0 0] (0, 0) _ (.iface st sp) rfl rfl (row_setCell (row_setCell (row_setCell (row_setCell HI1.out.re _) _) _) _) Tryz.underlying42 rfl (by kernel_rfl)) rfl ⟨.inl (.inl ⟨HG.out, rfl⟩), (((HI1.out.old.setCell (by simp; omega) _).setCell (by simp; omega) _).setCell (by simp; omega) _).setCell (by simp; omega) _⟩
  · have HGood : Hid (GoodC lid kind mr md c) := ⟨hg, hall⟩
    clear hg hall
    have hbe := HBD.out _ HI1.out
    by_cases h1 : lo < 0
    · have HNo : Hid (¬ (0 ≤ lo ∧ lo ≤ hi ∧ hi ≤ (cntE 0 c.rs : Nat))) := (by show ¬ _; omega)
      have q1 : decide (lo < 0) = true := decide_eq_true h1
      clear h1
      go_wp2_with fail
      go_region
      all_goals
        go_wp2
        exact bodyPost_ret (v := .tuple #[zeroC, .iface bt bp]) (results_cR Tryz.results56 _ _ (W.heap.size + 1 + 1) 42 #[.int .i64 0, .slice none 0 0, .slice none 0 0, .slice none 0 0] (0, 0) _ (.iface bt bp) rfl rfl (blk_drew (row_setCell (row_setCell (row_setCell (row_setCell HI1.out.re _) _) _) _)) Tryz.underlying42 rfl (by kernel_rfl)) rfl ⟨.inr (.inl ⟨HGood.out, HNo.out, rfl⟩), ((((HI1.out.old.setCell (by simp; omega) _).setCell (by simp; omega) _).setCell (by simp; omega) _).setCell (by simp; omega) _).drew⟩
    · by_cases h2 : hi < lo
      · have HNo : Hid (¬ (0 ≤ lo ∧ lo ≤ hi ∧ hi ≤ (cntE 0 c.rs : Nat))) := (by show ¬ _; omega)
        have q1 : decide (lo < 0) = false := decide_eq_false h1
        have q2 : decide (hi < lo) = true := decide_eq_true h2
        clear h1 h2
        go_wp2_with fail
        go_region
        all_goals
          go_wp2
          exact bodyPost_ret (v := .tuple #[zeroC, .iface bt bp]) (results_cR Tryz.results56 _ _ (W.heap.size + 1 + 1) 42 #[.int .i64 0, .slice none 0 0, .slice none 0 0, .slice none 0 0] (0, 0) _ (.iface bt bp) rfl rfl (blk_drew (row_setCell (row_setCell (row_setCell (row_setCell HI1.out.re _) _) _) _)) Tryz.underlying42 rfl (by kernel_rfl)) rfl ⟨.inr (.inl ⟨HGood.out, HNo.out, rfl⟩), ((((HI1.out.old.setCell (by simp; omega) _).setCell (by simp; omega) _).setCell (by simp; omega) _).setCell (by simp; omega) _).drew⟩
      · have q1 : decide (lo < 0) = false := decide_eq_false h1
        have q2 : decide (hi < lo) = false := decide_eq_false h2
        go_wp2_with fail
        refine (count_any c.id c.ra c.rs c.rc c.da c.ds.length c.dc c.va c.vs.length c.vc hn w1 (HAT.out _ HI1.out).r).mono ?_
        rintro e w2 ⟨rfl, hb2⟩
        have HI2 : Hid (PtI W lid kind mr md pa pn pc c w2) := HI1.out.keep (hb2.mono (HLE.out _ HI1.out))
        clear hb2 p0 p1 p2 p3 p4 k0 k1 k2 k3 z0 z1 z2 z3 f0 f1 f2 f3 hbe
        obtain ⟨⟨p0, p1, p2, p3, p4⟩, _⟩ := row_five HI2.out.lf
        obtain ⟨k0, k1, k2, k3⟩ := row_four HI2.out.co
        obtain ⟨z0, z1, z2, z3⟩ := row_four HI2.out.re
        obtain ⟨f0, f1, f2, f3⟩ := row_fourA HI2.out.re
        have hbe := HBD.out _ HI2.out
        by_cases h3 : (cntE 0 c.rs : Nat) < hi
        · have HNo : Hid (¬ (0 ≤ lo ∧ lo ≤ hi ∧ hi ≤ (cntE 0 c.rs : Nat))) := (by show ¬ _; omega)
          have q3 : decide (((cntE 0 c.rs : Nat) : Int) < hi) = true := decide_eq_true h3
          clear h1 h2 h3
          go_wp2_with fail
          go_region
          all_goals
            go_wp2
            exact bodyPost_ret (v := .tuple #[zeroC, .iface bt bp]) (results_cR Tryz.results56 _ _ (W.heap.size + 1 + 1) 42 #[.int .i64 0, .slice none 0 0, .slice none 0 0, .slice none 0 0] (0, 0) _ (.iface bt bp) rfl rfl (blk_drew (row_setCell (row_setCell (row_setCell (row_setCell HI2.out.re _) _) _) _)) Tryz.underlying42 rfl (by kernel_rfl)) rfl ⟨.inr (.inl ⟨HGood.out, HNo.out, rfl⟩), ((((HI2.out.old.setCell (by simp; omega) _).setCell (by simp; omega) _).setCell (by simp; omega) _).setCell (by simp; omega) _).drew⟩
        · have HYes : Hid (0 ≤ lo ∧ lo ≤ hi ∧ hi ≤ (cntE 0 c.rs : Nat)) := (by show _ ∧ _; omega)
          have q3 : decide (((cntE 0 c.rs : Nat) : Int) < hi) = false := decide_eq_false h3
          clear h1 h2 h3
          go_upto_region 6 with fail
          go_cut [11, 12] (fun x y wx => ∃ a b : Nat, x = .int .i64 a ∧ y = .int .i64 b ∧ Hid (StAt c.rs lo a) ∧ Hid (StAt c.rs hi b) ∧ Hid (PtI W lid kind mr md pa pn pc c wx))
          case first =>
            have b0 : Below (W.heap.size + 1 + 1 + 1) w2 w2 := Below.refl _ _
            have hsz := HLE.out _ HI2.out
            have HN : Hid (∀ X, Below (W.heap.size + 1 + 1 + 1) w2 X → (X.cell? ⟨W.heap.size, 0, none⟩ = some (.int .i64 lid) ∧ X.cell? ⟨W.heap.size, 1, none⟩ = some (.int .i64 kind) ∧ X.cell? ⟨W.heap.size, 2, none⟩ = some (.int .i64 mr) ∧ X.cell? ⟨W.heap.size, 3, none⟩ = some (.int .i64 md) ∧ X.cell? ⟨W.heap.size, 4, none⟩ = some (.slice pa pn pc)) ∧ (X.cell? ⟨W.heap.size + 1, 0, none⟩ = some (.int .i64 c.id) ∧ X.cell? ⟨W.heap.size + 1, 1, none⟩ = some (.slice c.ra c.rs.length c.rc) ∧ X.cell? ⟨W.heap.size + 1, 2, none⟩ = some (.slice c.da c.ds.length c.dc) ∧ X.cell? ⟨W.heap.size + 1, 3, none⟩ = some (.slice c.va c.vs.length c.vc)) ∧ Below (W.heap.size + 1 + 1 + 1) w2 X) := fun X hX => ⟨(row_five ((hX.block _ (by omega)).trans HI2.out.lf)).1, row_four ((hX.block _ (by omega)).trans HI2.out.co), hX⟩
            have HCall : Hid (∀ (z : Int) X, Below (W.heap.size + 1 + 1 + 1) w2 X → Calls Tryz.prog 88 #[.agg #[.int .i64 c.id, .slice c.ra c.rs.length c.rc, .slice c.da c.ds.length c.dc, .slice c.va c.vs.length c.vc], .int .i64 z] X fun e w' => (∃ a : Nat, e = .returned (.int .i64 a) ∧ StAt c.rs z a) ∧ Below (W.heap.size + 1 + 1 + 1) w2 w') := fun z X hX => (startOf_any c.id z c.ra c.rs c.rc c.da c.ds.length c.dc c.va c.vs.length c.vc hn X (HAT.out _ (HI2.out.keep hX)).r).mono fun e w' h => ⟨h.1, bel_next hX hsz h.2⟩
            go_region_held3 (fun X => (X.cell? ⟨W.heap.size, 0, none⟩ = some (.int .i64 lid) ∧ X.cell? ⟨W.heap.size, 1, none⟩ = some (.int .i64 kind) ∧ X.cell? ⟨W.heap.size, 2, none⟩ = some (.int .i64 mr) ∧ X.cell? ⟨W.heap.size, 3, none⟩ = some (.int .i64 md) ∧ X.cell? ⟨W.heap.size, 4, none⟩ = some (.slice pa pn pc)) ∧ (X.cell? ⟨W.heap.size + 1, 0, none⟩ = some (.int .i64 c.id) ∧ X.cell? ⟨W.heap.size + 1, 1, none⟩ = some (.slice c.ra c.rs.length c.rc) ∧ X.cell? ⟨W.heap.size + 1, 2, none⟩ = some (.slice c.da c.ds.length c.dc) ∧ X.cell? ⟨W.heap.size + 1, 3, none⟩ = some (.slice c.va c.vs.length c.vc)) ∧ Below (W.heap.size + 1 + 1 + 1) w2 X) (with_reducible refine HN.out _ ?_; repeat' (first | with_reducible assumption | with_reducible exact b0.drew | with_reducible exact b0)) (first | (go_at_call 88; (with_reducible refine Calls.mono (HCall.out lo _ ?_) ?_); (first | with_reducible assumption | with_reducible exact b0.drew); rintro e xa ⟨⟨a, rfl, ha⟩, hba⟩; have HSA : Hid _ := ha; clear ha) | (go_at_call 88; (with_reducible refine Calls.mono (HCall.out hi _ ?_) ?_); (first | with_reducible assumption | with_reducible exact b0.drew); rintro e xb ⟨⟨b, rfl, hb⟩, hbb⟩; have HSB : Hid _ := hb; clear hb))
            all_goals
              go_wp2_with fail
              go_meet
              exact ⟨a, b, rfl, rfl, HSA, HSB, HI2.out.keep (by first | exact hbb | exact hba)⟩
          case rest =>
            obtain ⟨a, b, rfl, rfl, HSA, HSB, HI3⟩ := hcut
            clear p0 p1 p2 p3 p4 k0 k1 k2 k3 z0 z1 z2 z3 f0 f1 f2 f3 hbe HI2 HI1 HI0
            obtain ⟨hfid, hfl, _, _, _, hfv⟩ := fitB_iff.1 (show fitB lid mr md c.id c.rs c.ds c.vs.length = true from by have h := HGood.out.1; simp at h; exact h.2)
            have HLn : Hid (c.rs.length = c.ds.length) := hfl
            have HVn : Hid (c.vs.length = cntE md c.ds) := hfv
            have HFid : Hid (c.id = lid) := hfid
            clear hfl hfv hfid
            have hab : a ≤ b := HSA.out.le HSB.out HYes.out.2.1
            have hbl : b ≤ c.ds.length := by rw [← HLn.out]; exact HSB.out.1
            have hbr : b ≤ c.rs.length := HSB.out.1
            go_upto_region 7 with fail
            go_cut [13] (fun x wx => x = .int .i64 (cntE md (c.ds.take a) : Nat) ∧ Hid (PtI W lid kind mr md pa pn pc c wx))
            case first =>
              have b0 : Below (W.heap.size + 1 + 1 + 1) wc wc := Below.refl _ _
              have hsz := HLE.out _ HI3.out
              have HN : Hid (∀ X, Below (W.heap.size + 1 + 1 + 1) wc X → (X.cell? ⟨W.heap.size, 0, none⟩ = some (.int .i64 lid) ∧ X.cell? ⟨W.heap.size, 1, none⟩ = some (.int .i64 kind) ∧ X.cell? ⟨W.heap.size, 2, none⟩ = some (.int .i64 mr) ∧ X.cell? ⟨W.heap.size, 3, none⟩ = some (.int .i64 md) ∧ X.cell? ⟨W.heap.size, 4, none⟩ = some (.slice pa pn pc)) ∧ (X.cell? ⟨W.heap.size + 1, 0, none⟩ = some (.int .i64 c.id) ∧ X.cell? ⟨W.heap.size + 1, 1, none⟩ = some (.slice c.ra c.rs.length c.rc) ∧ X.cell? ⟨W.heap.size + 1, 2, none⟩ = some (.slice c.da c.ds.length c.dc) ∧ X.cell? ⟨W.heap.size + 1, 3, none⟩ = some (.slice c.va c.vs.length c.vc)) ∧ Below (W.heap.size + 1 + 1 + 1) wc X) := fun X hX => ⟨(row_five ((hX.block _ (by omega)).trans HI3.out.lf)).1, row_four ((hX.block _ (by omega)).trans HI3.out.co), hX⟩
              have qa : ((a : Nat) : Int) ≤ (c.dc : Int) := by omega
              have qb : (0 : Int) ≤ ((a : Nat) : Int) := by omega
              have HV7 : Hid (Calls Tryz.prog 89 #[.agg #[.int .i64 lid, .int .i64 kind, .int .i64 mr, .int .i64 md, .slice pa pn pc], .slice c.da a c.dc] wc.drew fun e w' => e = .returned (.int .i64 (cntE md (c.ds.take a) : Nat)) ∧ Below (W.heap.size + 1 + 1 + 1) wc w') := (valuesOf_n lid kind mr md pa pn pc c.da a c.dc (c.ds.take a) (by simp; omega) wc.drew (by
                have h := lies_cut ((HAT.out _ HI3.out).d) 0 a c.dc (by rw [i64s_len]; omega) (by rw [i64s_len]; omega) (x := c.da) (by cases c.da <;> simp [addr_add0])
                rw [← i64s_cut] at h
                exact h.keep (Below.refl _ _).drew) (by simp; omega)).mono fun e w' h => ⟨h.1, bel_next b0.drew hsz h.2⟩
              go_region_held3 (fun X => (X.cell? ⟨W.heap.size, 0, none⟩ = some (.int .i64 lid) ∧ X.cell? ⟨W.heap.size, 1, none⟩ = some (.int .i64 kind) ∧ X.cell? ⟨W.heap.size, 2, none⟩ = some (.int .i64 mr) ∧ X.cell? ⟨W.heap.size, 3, none⟩ = some (.int .i64 md) ∧ X.cell? ⟨W.heap.size, 4, none⟩ = some (.slice pa pn pc)) ∧ (X.cell? ⟨W.heap.size + 1, 0, none⟩ = some (.int .i64 c.id) ∧ X.cell? ⟨W.heap.size + 1, 1, none⟩ = some (.slice c.ra c.rs.length c.rc) ∧ X.cell? ⟨W.heap.size + 1, 2, none⟩ = some (.slice c.da c.ds.length c.dc) ∧ X.cell? ⟨W.heap.size + 1, 3, none⟩ = some (.slice c.va c.vs.length c.vc)) ∧ Below (W.heap.size + 1 + 1 + 1) wc X) (with_reducible refine HN.out _ ?_; repeat' (first | with_reducible assumption | with_reducible exact b0.drew | with_reducible exact b0)) (first | (go_at_call 89; (with_reducible refine Calls.mono HV7.out ?_); rintro e xv ⟨rfl, hbv⟩))
              all_goals
                go_wp2_with fail
                go_meet
                exact ⟨rfl, HI3.out.keep hbv⟩
            case rest =>
              obtain ⟨hx4, HI4⟩ := hcut
              obtain ⟨v1, HV1⟩ : ∃ v, Hid (cntE md (c.ds.take a) = v) := ⟨_, rfl⟩
              obtain ⟨v2, HV2⟩ : ∃ v, Hid (cntE md (c.ds.take b) = v) := ⟨_, rfl⟩
              rw [HV1.out] at hx4
              subst hx4
              clear HI3
              rename World => wd
              go_upto_region 8 with fail
              go_cut [14] (fun x wx => x = .int .i64 (v2 : Nat) ∧ Hid (PtI W lid kind mr md pa pn pc c wx))
              case first =>
                have b0 : Below (W.heap.size + 1 + 1 + 1) wd wd := Below.refl _ _
                have hsz := HLE.out _ HI4.out
                have HN : Hid (∀ X, Below (W.heap.size + 1 + 1 + 1) wd X → (X.cell? ⟨W.heap.size, 0, none⟩ = some (.int .i64 lid) ∧ X.cell? ⟨W.heap.size, 1, none⟩ = some (.int .i64 kind) ∧ X.cell? ⟨W.heap.size, 2, none⟩ = some (.int .i64 mr) ∧ X.cell? ⟨W.heap.size, 3, none⟩ = some (.int .i64 md) ∧ X.cell? ⟨W.heap.size, 4, none⟩ = some (.slice pa pn pc)) ∧ (X.cell? ⟨W.heap.size + 1, 0, none⟩ = some (.int .i64 c.id) ∧ X.cell? ⟨W.heap.size + 1, 1, none⟩ = some (.slice c.ra c.rs.length c.rc) ∧ X.cell? ⟨W.heap.size + 1, 2, none⟩ = some (.slice c.da c.ds.length c.dc) ∧ X.cell? ⟨W.heap.size + 1, 3, none⟩ = some (.slice c.va c.vs.length c.vc)) ∧ Below (W.heap.size + 1 + 1 + 1) wd X) := fun X hX => ⟨(row_five ((hX.block _ (by omega)).trans HI4.out.lf)).1, row_four ((hX.block _ (by omega)).trans HI4.out.co), hX⟩
                have qa : ((a : Nat) : Int) ≤ ((b : Nat) : Int) := by omega
                have qc : ((b : Nat) : Int) ≤ (c.dc : Int) := by omega
                have qb : (0 : Int) ≤ ((a : Nat) : Int) := by omega
                have HCt : Hid (v2 = v1 + cntE md (cutL c.ds a b)) := (by show _ = _; rw [← HV1.out, ← HV2.out]; exact cntE_cut md c.ds a b hab)
                obtain ⟨v3, HV3⟩ : ∃ v, Hid (cntE md (cutL c.ds a b) = v) := ⟨_, rfl⟩
                rw [HV3.out] at HCt
                obtain ⟨x8, hif8⟩ : ∃ x, (if c.dc = a then c.da else Option.map (fun x => x.add a) c.da) = x := ⟨_, rfl⟩
                have HV8 : Hid (Calls Tryz.prog 89 #[.agg #[.int .i64 lid, .int .i64 kind, .int .i64 mr, .int .i64 md, .slice pa pn pc], .slice x8 (b - a) (c.dc - a)] wd.drew fun e w' => e = .returned (.int .i64 (v3 : Nat)) ∧ Below (W.heap.size + 1 + 1 + 1) wd w') := (valuesOf_n lid kind mr md pa pn pc _ (b - a) _ (cutL c.ds a b) (by rw [cutL_len _ _ _ hbl]; omega) wd.drew (by
                  have h := lies_cut ((HAT.out _ HI4.out).d) a b c.dc (by rw [i64s_len]; omega) (by rw [i64s_len]; omega) (x := x8) (by rw [← hif8]; simp)
                  rw [← i64s_cut] at h
                  exact h.keep (Below.refl _ _).drew) (by rw [cutL_len _ _ _ hbl])).mono fun e w' h => ⟨by rw [← HV3.out]; exact h.1, bel_next b0.drew hsz h.2⟩
                have hu2 := cntE_le md c.ds b
                have hu3 : v1 + v3 ≤ 1048576 := by rw [← HCt.out, ← HV2.out]; omega
                clear hu2
                have hwr : IntKind.i64.wrap ((v1 : Int) + (v3 : Int)) = (v1 : Int) + (v3 : Int) := by rw [IntKind.wrap_i64]; omega
                go_region_held3 (fun X => (X.cell? ⟨W.heap.size, 0, none⟩ = some (.int .i64 lid) ∧ X.cell? ⟨W.heap.size, 1, none⟩ = some (.int .i64 kind) ∧ X.cell? ⟨W.heap.size, 2, none⟩ = some (.int .i64 mr) ∧ X.cell? ⟨W.heap.size, 3, none⟩ = some (.int .i64 md) ∧ X.cell? ⟨W.heap.size, 4, none⟩ = some (.slice pa pn pc)) ∧ (X.cell? ⟨W.heap.size + 1, 0, none⟩ = some (.int .i64 c.id) ∧ X.cell? ⟨W.heap.size + 1, 1, none⟩ = some (.slice c.ra c.rs.length c.rc) ∧ X.cell? ⟨W.heap.size + 1, 2, none⟩ = some (.slice c.da c.ds.length c.dc) ∧ X.cell? ⟨W.heap.size + 1, 3, none⟩ = some (.slice c.va c.vs.length c.vc)) ∧ Below (W.heap.size + 1 + 1 + 1) wd X) (with_reducible refine HN.out _ ?_; repeat' (first | with_reducible assumption | with_reducible exact b0.drew | with_reducible exact b0)) (first | (go_at_call 89; (with_reducible refine Calls.mono HV8.out ?_); rintro e xv ⟨rfl, hbv⟩))
                all_goals
                  go_wp2_with fail
                  go_meet
                  exact ⟨by rw [HCt.out]; simp, HI4.out.keep hbv⟩
              case rest =>
                obtain ⟨rfl, HI5⟩ := hcut
                clear HI4
                rename World => we
                have hv12 : v1 ≤ v2 := by rw [← HV1.out, ← HV2.out]; exact cntE_mono md c.ds hab
                have hv2n : v2 ≤ c.vs.length := by rw [HVn.out, ← HV2.out]; exact cntE_all md c.ds b
                have b0 : Below (W.heap.size + 1 + 1) we we := Below.refl _ _
                have hsz := HLE.out _ HI5.out
                have HN : Hid (∀ X, Below (W.heap.size + 1 + 1) we X → (X.cell? ⟨W.heap.size, 0, none⟩ = some (.int .i64 lid) ∧ X.cell? ⟨W.heap.size, 1, none⟩ = some (.int .i64 kind) ∧ X.cell? ⟨W.heap.size, 2, none⟩ = some (.int .i64 mr) ∧ X.cell? ⟨W.heap.size, 3, none⟩ = some (.int .i64 md) ∧ X.cell? ⟨W.heap.size, 4, none⟩ = some (.slice pa pn pc)) ∧ (X.cell? ⟨W.heap.size + 1, 0, none⟩ = some (.int .i64 c.id) ∧ X.cell? ⟨W.heap.size + 1, 1, none⟩ = some (.slice c.ra c.rs.length c.rc) ∧ X.cell? ⟨W.heap.size + 1, 2, none⟩ = some (.slice c.da c.ds.length c.dc) ∧ X.cell? ⟨W.heap.size + 1, 3, none⟩ = some (.slice c.va c.vs.length c.vc)) ∧ Below (W.heap.size + 1 + 1) we X) := fun X hX => ⟨(row_five ((hX.block _ (by omega)).trans HI5.out.lf)).1, row_four ((hX.block _ (by omega)).trans HI5.out.co), hX⟩
                have qa : ((a : Nat) : Int) ≤ ((b : Nat) : Int) := by omega
                have qc : ((b : Nat) : Int) ≤ (c.dc : Int) := by omega
                have qd : ((b : Nat) : Int) ≤ (c.rc : Int) := by omega
                have qb : (0 : Int) ≤ ((a : Nat) : Int) := by omega
                have qe : ((v1 : Nat) : Int) ≤ ((v2 : Nat) : Int) := by omega
                have qf : ((v2 : Nat) : Int) ≤ (c.vc : Int) := by omega
                have qg : (0 : Int) ≤ ((v1 : Nat) : Int) := by omega
                obtain ⟨x1, hif1⟩ : ∃ x, (if c.rc = a then c.ra else Option.map (fun x => x.add a) c.ra) = x := ⟨_, rfl⟩
                obtain ⟨x2, hif2⟩ : ∃ x, (if c.dc = a then c.da else Option.map (fun x => x.add a) c.da) = x := ⟨_, rfl⟩
                obtain ⟨x3, hif3⟩ : ∃ x, (if c.vc = v1 then c.va else Option.map (fun x => x.add (v1 * 3)) c.va) = x := ⟨_, rfl⟩
                have hsz2 : W.heap.size + 1 + 1 ≤ we.heap.size := by omega
                have HV9 : Hid (Calls Tryz.prog 90 #[.agg #[.int .i64 lid, .int .i64 kind, .int .i64 mr, .int .i64 md, .slice pa pn pc], .slice (some ⟨we.heap.size, 0, none⟩) 1 1] (we.alloc (.cells #[.int .i64 0, .slice x1 (b - a) (c.rc - a), .slice x2 (b - a) (c.dc - a), .slice x3 (v2 - v1) (c.vc - v1)] 42)).drew fun e w' => (∃ k : Cl, e = .returned (.agg #[.int .i64 k.id, .slice k.ra k.rs.length k.rc, .slice k.da k.ds.length k.dc, .slice k.va k.vs.length k.vc]) ∧ k.At w' ∧ k.Fr we.heap.size ∧ k.id = lid ∧ k.rs = cutL c.rs a b ∧ k.ds = cutL c.ds a b ∧ k.vs = cutL c.vs v1 v2) ∧ Below we.heap.size we w') := (by
                  have hbx : Below we.heap.size we (we.alloc (.cells #[.int .i64 0, .slice x1 (b - a) (c.rc - a), .slice x2 (b - a) (c.dc - a), .slice x3 (v2 - v1) (c.vc - v1)] 42)).drew := ((Below.refl _ _).alloc (Nat.le_refl _) _).drew
                  have hAt := HAT.out _ HI5.out
                  have l1 := (lies_cut hAt.r a b c.rc (by rw [i64s_len]; omega) (by rw [i64s_len]; omega) (x := x1) (by rw [← hif1]; simp)).keep hbx
                  have l2 := (lies_cut hAt.d a b c.dc (by rw [i64s_len]; omega) (by rw [i64s_len]; omega) (x := x2) (by rw [← hif2]; simp)).keep hbx
                  have l3 := (liesV_cut hAt.v v1 v2 c.vc (by omega) (by omega) (x := x3) (by rw [← hif3])).keep hbx
                  rw [← i64s_cut] at l1 l2
                  obtain ⟨y0, y1, y2, y3⟩ := row_four (blk_drew (heap_alloc_new we (.cells #[.int .i64 0, .slice x1 (b - a) (c.rc - a), .slice x2 (b - a) (c.dc - a), .slice x3 (v2 - v1) (c.vc - v1)] 42)))
                  have hj := joined_n lid kind mr md pa pn pc (some ⟨we.heap.size, 0, none⟩) 1 1 [⟨0, x1, cutL c.rs a b, c.rc - a, x2, cutL c.ds a b, c.dc - a, x3, cutL c.vs v1 v2, c.vc - v1⟩] (we.alloc (.cells #[.int .i64 0, .slice x1 (b - a) (c.rc - a), .slice x2 (b - a) (c.dc - a), .slice x3 (v2 - v1) (c.vc - v1)] 42)).drew (by simp) (by simp [jR, cutL_len _ _ _ hbr]; omega) (by simp [jD, cutL_len _ _ _ hbl]; omega) (by simp [jV, cutL_len _ _ _ hv2n]; omega) (fun j hj => by
                    obtain rfl : j = 0 := by simp at hj; omega
                    refine ⟨⟨we.heap.size, 0, rfl, y0, ?_, ?_, ?_⟩, l1, l2, l3⟩
                    · show _ = some (Value.slice x1 (cutL c.rs a b).length (c.rc - a))
                      rw [cutL_len _ _ _ hbr]; exact y1
                    · show _ = some (Value.slice x2 (cutL c.ds a b).length (c.dc - a))
                      rw [cutL_len _ _ _ hbl]; exact y2
                    · show _ = some (Value.slice x3 (cutL c.vs v1 v2).length (c.vc - v1))
                      rw [cutL_len _ _ _ hv2n]; exact y3) rfl
                  refine hj.mono fun e w' h => ?_
                  obtain ⟨⟨k, e0, e1, e2, e3, e4, e5, e6⟩, e7⟩ := h
                  exact ⟨⟨k, e0, e1, ⟨fun p hp => Nat.le_trans hbx.size (e2.r p hp), fun p hp => Nat.le_trans hbx.size (e2.d p hp), fun p hp => Nat.le_trans hbx.size (e2.v p hp)⟩, e3, by simpa [jR] using e4, by simpa [jD] using e5, by simpa [jV] using e6⟩, hbx.trans (e7.mono hbx.size)⟩)
                go_wp2_with fail
                go_region_held3 (fun X => (X.cell? ⟨W.heap.size, 0, none⟩ = some (.int .i64 lid) ∧ X.cell? ⟨W.heap.size, 1, none⟩ = some (.int .i64 kind) ∧ X.cell? ⟨W.heap.size, 2, none⟩ = some (.int .i64 mr) ∧ X.cell? ⟨W.heap.size, 3, none⟩ = some (.int .i64 md) ∧ X.cell? ⟨W.heap.size, 4, none⟩ = some (.slice pa pn pc)) ∧ (X.cell? ⟨W.heap.size + 1, 0, none⟩ = some (.int .i64 c.id) ∧ X.cell? ⟨W.heap.size + 1, 1, none⟩ = some (.slice c.ra c.rs.length c.rc) ∧ X.cell? ⟨W.heap.size + 1, 2, none⟩ = some (.slice c.da c.ds.length c.dc) ∧ X.cell? ⟨W.heap.size + 1, 3, none⟩ = some (.slice c.va c.vs.length c.vc)) ∧ Below (W.heap.size + 1 + 1) we X) (with_reducible refine HN.out _ ?_; repeat' (first | with_reducible assumption | with_reducible exact b0.drew | with_reducible exact b0 | with_reducible exact (b0.alloc hsz2 _).drew | with_reducible refine Below.setCell ?_ ?_ _ | with_reducible refine Below.alloc ?_ ?_ _ | with_reducible exact Below.size (by assumption) | (simp; done) | (simp; omega) | omega)) (first | (go_at_call 90; (with_reducible refine Calls.mono HV9.out ?_); rintro e xj ⟨⟨⟨kid, kra, krs, krc, kda, kds, kdc, kva, kvs, kvc⟩, rfl, kat, kfr, rfl, rfl, rfl, rfl⟩, hbj⟩; have hbk : Below (W.heap.size + 1 + 1) we xj := hbj.mono hsz2; have HKA : Hid _ := kat; have HKF : Hid _ := kfr; have HBJ : Hid _ := hbj; clear kat kfr hbj; obtain ⟨z0, z1, z2, z3⟩ := row_four (blk_keep HBJ.out HI5.out.re); obtain ⟨f0, f1, f2, f3⟩ := row_fourA (blk_keep HBJ.out HI5.out.re)))
                all_goals
                  go_wp2
                  have hgN : W.heap.size + 1 + 1 < we.heap.size := by omega
                  have hol : Below W.heap.size W xj := HI5.out.old.trans (HBJ.out.mono (by omega))
                  exact bodyPost_ret (v := .tuple #[.agg #[.int .i64 kid, .slice kra (cutL c.rs a b).length krc, .slice kda (cutL c.ds a b).length kdc, .slice kva (cutL c.vs v1 v2).length kvc], .nilIface]) (results_cR Tryz.results56 _ _ (W.heap.size + 1 + 1) 42 #[.int .i64 kid, .slice kra (cutL c.rs a b).length krc, .slice kda (cutL c.ds a b).length kdc, .slice kva (cutL c.vs v1 v2).length kvc] (0, 0) _ .nilIface rfl rfl (row_setCell (row_setCell (row_setCell (row_setCell (blk_keep HBJ.out HI5.out.re) _) _) _) _) Tryz.underlying42 rfl (by kernel_rfl)) rfl ⟨.inr (.inr ⟨HGood.out, HYes.out, ⟨kid, kra, cutL c.rs a b, krc, kda, cutL c.ds a b, kdc, kva, cutL c.vs v1 v2, kvc⟩, a, b, rfl, (((HKA.out.off HKF.out hgN).off HKF.out hgN).off HKF.out hgN).off HKF.out hgN, HKF.out.low HI5.out.old.size, HSA.out, HSB.out, rfl, rfl, rfl, by rw [HV1.out, HV2.out]⟩), (((hol.setCell (by simp; omega) _).setCell (by simp; omega) _).setCell (by simp; omega) _).setCell (by simp; omega) _⟩
  · have HG : Hid _ := hg
    have HQ0 : Hid _ := hq0
    have HQ1 : Hid _ := hq1
    have HBa : Hid _ := hbad
    have HF : Hid _ := hf
    have HQN : Hid (W.heap.size + 1 + 1 < q) := (by have := HLE.out _ HI0.out; show _ < _; omega)
    clear hg hq0 hq1 hbad hf hqn
    go_wp2
    have hoff : ∀ (X : World) (o j : Nat) (v : Value), (X.setCell ⟨W.heap.size + 1 + 1, j, none⟩ v).cell? ⟨q, o, none⟩ = X.cell? ⟨q, o, none⟩ := fun X o j v => cell_off (by have := HQN.out; omega)
    exact bodyPost_ret (v := .tuple #[zeroC, .iface 63 (.pointer (some ⟨q, 0, none⟩))]) (results_cR Tryz.results56 _ _ (W.heap.size + 1 + 1) 42 #[.int .i64 0, .slice none 0 0, .slice none 0 0, .slice none 0 0] (0, 0) _ (.iface 63 (.pointer (some ⟨q, 0, none⟩))) rfl rfl (row_setCell (row_setCell (row_setCell (row_setCell HI1.out.re _) _) _) _) Tryz.underlying42 rfl (by kernel_rfl)) rfl ⟨.inl (.inr ⟨HG.out, p, hp, HBa.out, HF.out, q, (by have := HQN.out; omega), rfl, by rw [hoff, hoff, hoff, hoff]; exact HQ0.out, by rw [hoff, hoff, hoff, hoff]; exact HQ1.out⟩), (((HI1.out.old.setCell (by simp; omega) _).setCell (by simp; omega) _).setCell (by simp; omega) _).setCell (by simp; omega) _⟩
end Go.Proofs.YtbicfjimlpdnkaaGreatDoor

namespace Go.Proofs.YtbicfjimlpdnkaaGreatDoor
open Go.RowKit
theorem zipA_assoc : ∀ a b c : List (List Ent), zipA (zipA a b) c = zipA a (zipA b c)
  | [], _, _ => by simp [zipA]
  | _ :: _, [], _ => by simp [zipA]
  | _ :: _, _ :: _, [] => by simp [zipA]
  | x :: a, y :: b, z :: c => by
    have h := zipA_assoc a b c
    unfold zipA at h ⊢
    simp only [List.zipWith_cons_cons, List.append_assoc, h]
theorem zipA_nils : ∀ (n : Nat) (c : List (List Ent)), c.length = n → zipA (List.replicate n []) c = c
  | 0, [], _ => rfl
  | 0, _ :: _, h => by simp at h
  | n + 1, [], h => by simp at h
  | n + 1, z :: c, h => by
    have h := zipA_nils n c (by simpa using h)
    unfold zipA at h ⊢
    rw [List.replicate_succ, List.zipWith_cons_cons, h, List.nil_append]
theorem hdR_of {rep : Int} {p : Int → Prop} {es : List Ent} (h : Hd rep p es) : hdR es = rep := by
  obtain ⟨e, t, h1, h2, _⟩ := h
  rw [h1, ← h2]
  rfl
/-- What the readers have left, as the list goes on. -/
theorem list_rem (t : Tr) (df ls : Nat) (rep : Int) (ds : List Dt) (rest : List (List Ent)) (hck : ∀ j (h : j < ds.length), chk true t ds[j] = 0) (hrl : rest.length = lvC t) : ∃ (Rm : Nat → List (List Ent)) (rp : Nat → Int), Rm 0 = zipA (enL t df ls rep ds) rest ∧ Rm ds.length = rest ∧ (∀ i (h : i < ds.length), Rm i = zipA (en true t df ls (rp i) ds[i]) (Rm (i + 1))) ∧ (∀ i, (Rm i).length = lvC t) ∧ (∀ i, 0 < i → i < ds.length → ∀ es ∈ Rm i, hdR es = (ls : Int)) ∧ (∀ i, i < ds.length → ∀ es ∈ Rm i, ∃ x r, es = x :: r ∧ (df : Int) ≤ x.dfn) := by
  have hckd : ∀ i j (h : j < (ds.drop i).length), chk true t (ds.drop i)[j] = 0 := fun i j h => by
    rw [List.length_drop] at h
    rw [List.getElem_drop]
    exact hck _ (by omega)
  have hel : ∀ i r, (enL t df ls r (ds.drop i)).length = lvC t := fun i r => enL_len _ _ _ _ _ (hckd i)
  have hhd : ∀ i r, i < ds.length → ∀ es ∈ zipA (enL t df ls r (ds.drop i)) rest, Hd r (fun x => (df : Int) ≤ x) es := fun i r hi => zipA_hd (enL_hd _ _ _ _ _ (hckd i) (fun e => by
    have := congrArg List.length e
    rw [List.length_drop] at this
    simp at this
    omega))
  refine ⟨fun i => zipA (enL t df ls (if i = 0 then rep else (ls : Int)) (ds.drop i)) rest, fun i => if i = 0 then rep else (ls : Int), ?_, ?_, fun i h => ?_, fun i => ?_, fun i h0 h => ?_, fun i h es he => ?_⟩
  · simp
  · simp only [List.drop_length, enL]
    exact zipA_nils _ _ hrl
  · simp only
    rw [List.drop_eq_getElem_cons h, enL, zipA_assoc, if_neg (by omega : ¬ i + 1 = 0)]
  · rw [zipA_len _ _ (by rw [hel, hrl]), hel]
  · simp only
    rw [if_neg (by omega)]
    exact fun es he => hdR_of (hhd i _ h es he)
  · obtain ⟨x, r, h1, _, h3⟩ := hhd i _ h es he
    exact ⟨x, r, h1, h3⟩
def aLen : Value → Nat
  | .slice _ n _ => n
  | _ => 0
theorem BrAt.pos {w : World} {b : Nat} {t : Tr} {df ls : Nat} {G : List Nat} (h : BrAt w b t df ls G) : 0 < G.length := by
  induction h with
  | leaf b t df ls g ra rc hk cell hr => simp
  | group b t df ls fa fc ra rc FB FG G hk h0 cell hf each hr hG ih =>
    obtain ⟨tl, e⟩ := fl_split FG 0 t.sub.length h0
    rw [hG, e]
    have := ih 0 h0
    simp only [List.length_append]
    omega
set_option maxRecDepth 100000 in
set_option maxHeartbeats 6400000 in
theorem alist_of (t : Tr) (df ls : Nat) (h3 : t.rep = 3) (ds : List Dt) (hl40 : ds.length ≤ 40) (hne : 0 < ds.length) (hck : ∀ j (h : j < ds.length), chk true t ds[j] = 0) (each : ∀ j (h : j < ds.length), OneA t df ls ds[j])
    (N b : Nat) (G : List Nat) (rep : Int) (rest : List (List Ent)) (W : World) (hb : BrAt W b t df ls G) (hnd : G.Nodup) (hG : G.length ≤ 1000) (hrl : rest.length = G.length) (hR : RdAll W N G (zipA (enL t (df + 1) (ls + 1) rep ds) rest)) (hh : ∀ es ∈ rest, hdR es ≤ (ls : Int)) :
    Calls Tryz.prog (112) #[.pointer (some ⟨b, 0, none⟩)] W fun e w' => ∃ al cl, e = .returned (.tuple #[.agg #[.bool false, .int .i64 0, .int .i64 0, .string ⟨#[]⟩, .slice al ds.length cl, .slice none 0 0], .nilIface]) ∧ LiesD w' (fun b => W.heap.size ≤ b) al ds ∧ RdAll w' N G rest ∧ AFr G W w' := by
  obtain ⟨iv, hvi, hv0, hv1, hv2⟩ := info_parts Tryz.infoD
  have hmf : ∀ (fn : Fn) (first cap : Array Value) (w : World), (Instr.makeFunc fn first cap).run Tryz.prog w = .ok (.func fn first cap) w := fun _ _ _ _ => rfl
  have hdN : dfN t df = df + 1 := by unfold dfN; rw [if_neg (by omega)]
  have hlN : lsN t ls = ls + 1 := by unfold lsN; rw [if_pos h3]
  have hlv := hb.len
  have hpos := hb.pos
  obtain ⟨Rm, rp, hR0, hRe, hRs, hRl, hRh, hRi⟩ := list_rem t (df + 1) (ls + 1) rep ds rest hck (by rw [hrl, hlv])
  rw [← hR0] at hR
  have hlt := hR.lt
  have hNb0 : ∀ g ∈ G, ¬ BrB W g := fun g hg => by
    obtain ⟨rem, h2⟩ := hR.mem g hg
    exact h2.noB
  obtain ⟨w0, HW0, HP, HB⟩ := one_box W #[.pointer (some ⟨b, 0, none⟩)] 88
  obtain ⟨w1, HW1, HX, HB1⟩ := one_box w0 #[.bool false, .int .i64 0, .int .i64 0, .string ⟨#[]⟩, .slice none 0 0, .slice none 0 0] 58
  obtain ⟨w2, HW2, HY, HB2⟩ := one_box w1 #[.bool false, .int .i64 0, .int .i64 0, .string ⟨#[]⟩, .slice none 0 0, .slice none 0 0] 58
  have hs0 : W.heap.size < w0.heap.size := lt_of_block HP.out
  have hs1 : w0.heap.size < w1.heap.size := lt_of_block HX.out
  have hs2 : w1.heap.size < w2.heap.size := lt_of_block HY.out
  have HBb : Hid (Below W.heap.size W w2) := HB.out.trans ((HB1.out.mono (by omega)).trans (HB2.out.mono (by omega)))
  have HPb : Hid _ := blk_keep HB2.out (blk_keep HB1.out HP.out)
  have HXb : Hid _ := blk_keep HB2.out HX.out
  have hw0s : w0.heap.size = W.heap.size + 1 := by rw [← HW0.out]; simp
  rw [hw0s] at HX HXb hs1 hs0
  clear hw0s
  obtain ⟨rx, HRx⟩ := hid_name (W.heap.size + 1)
  obtain ⟨q, HQ⟩ := hid_name w1.heap.size
  obtain ⟨p, HPn⟩ := hid_name W.heap.size
  rw [HRx.out] at HX HXb hs1 hs0
  rw [HQ.out] at HY hs1 hs2
  rw [HPn.out] at hs0 HP HPb
  have HNb : Hid (∀ k ∈ q :: G, k < W.heap.size → ¬ BrB W k) := fun k hm hk => by
    rcases List.mem_cons.1 hm with e | e
    · have := HPn.out; omega
    · exact hNb0 k e
  have HGz : Hid (∀ g ∈ G, g < p) := fun g hg => by have := (hlt g hg).2; have := HPn.out; omega
  have HNW : Hid (N ≤ p) := (by
    have h := hlt G[0] (List.getElem_mem _)
    have h2 := HPn.out
    show _ ≤ _
    omega)
  have HAg : Hid (AgI w2 (q :: G) ds w2 0 (.slice none 0 0) []) := .start ds (AFr.refl _ _) (fun g hg => by
    rcases List.mem_cons.1 hg with e | e
    · omega
    · have := HGz.out g e; omega)
  have HSt : Hid (RdAll w2 N G (Rm 0)) := hR.below HBb.out
  have HBr : Hid (BrAt W b t df ls G) := hb
  have HEach : Hid (∀ i (h : i < ds.length), ∀ (X : World), BrAt X b t df ls G → RdAll X N G (Rm i) → _) := fun i h X hX hRX => by
    rw [hRs i h] at hRX
    exact each i h N b G (rp i) (Rm (i + 1)) X hX hnd hG (by rw [hRl, hlv]) (by rw [hdN, hlN]; exact hRX) (fun es he => by
      rw [hlN]
      by_cases hi : i + 1 < ds.length
      · rw [hRh (i + 1) (by omega) hi es he]; omega
      · have e : i + 1 = ds.length := by omega
        rw [e, hRe] at he
        have := hh es he
        omega)
  have HIn : Hid (∀ i, i < ds.length → ∀ (X : World), BrAt X b t df ls G → RdAll X N G (Rm i) → Calls Tryz.prog (91) #[.pointer (some ⟨b, 0, none⟩), .func (.func 110) #[.pointer (some ⟨b, 0, none⟩)] #[]] X fun e w' => e = .returned (.bool true) ∧ Below X.heap.size X w') := fun i hi X hX hRX => by
    obtain ⟨fv, ra, rc, hcell, hra, _⟩ := hX.box
    obtain ⟨c0, c1, c2, c3, c4⟩ := row_fiveB hcell
    refine Calls.mono (allI b b G (fun _ => true) hG ra rc X c4 hra (fun j h Y hY => ?_)) ?_
    · have h1 := (hRX.below hY).2 j h (by rw [← hRX.1]; exact h)
      obtain ⟨x, r, e, h2⟩ := hRi i hi _ (List.getElem_mem (by rw [← hRX.1]; exact h))
      rw [e] at h1
      exact clI N b G[j] df x r true (by rw [eq_comm, decide_eq_true_iff]; omega) Y ((hY.cell (World.block_lt_of_cell? X _ c1)).trans c1) h1
    · rintro e w' ⟨b', rfl, hiff, hb'⟩
      have hb2 := hiff.2 (fun _ _ => rfl)
      subst hb2
      exact ⟨rfl, hb'⟩
  have HMo : Hid (∀ i, i < ds.length → ∀ (X : World), BrAt X b t df ls G → RdAll X N G (Rm (i + 1)) → X.cell? ⟨p, 0, none⟩ = some (.pointer (some ⟨b, 0, none⟩)) → Calls Tryz.prog (61) #[.pointer (some ⟨b, 0, none⟩), .func (.func 119) #[] #[.pointer (some ⟨p, 0, none⟩)]] X fun e w' => e = .returned (.tuple #[.bool (decide (i + 1 < ds.length)), .nilIface]) ∧ Below X.heap.size X w') := fun i hi X hX hRX hp => by
    obtain ⟨fv, ra, rc, hcell, hra, _⟩ := hX.box
    obtain ⟨c0, c1, c2, c3, c4⟩ := row_fiveB hcell
    refine agreeL p b G (decide (i + 1 < ds.length)) hpos hG ra rc X c4 hra (fun j h Y hY => ?_)
    have h1 := (hRX.below hY).2 j h (by rw [← hRX.1]; exact h)
    refine clL N b p G[j] (ls + 1) _ _ ?_ Y ((hY.cell (World.block_lt_of_cell? X _ hp)).trans hp) (by rw [← hlN]; exact (hY.cell (World.block_lt_of_cell? X _ c2)).trans c2) h1
    have hm : (Rm (i + 1))[j]'(by rw [← hRX.1]; exact h) ∈ Rm (i + 1) := List.getElem_mem _
    by_cases hi2 : i + 1 < ds.length
    · rw [decide_eq_true hi2, hRh (i + 1) (by omega) hi2 _ hm]
      simp
    · have e : i + 1 = ds.length := by omega
      have h5 : ∀ es ∈ Rm (i + 1), hdR es ≤ (ls : Int) := by
        rw [e, hRe]
        exact hh
      have h6 := h5 _ hm
      rw [decide_eq_false hi2, eq_comm, decide_eq_false_iff_not]
      omega
  have HRe : Hid (Rm ds.length = rest) := hRe
  clear hnd hG hrl hR hh hlt hb each hck hNb0 hR0 hRe hRs hRl hRh hRi hlv
  go_enter Tryz.func112, Tryz.ntmps112
  go_upto_region 1 with fail
  rw [HW0.out, HW1.out]
  go_upto_region 3 with fail
  rw [HW2.out, HRx.out, HQ.out, HPn.out]
  go_loopw [5] (fun more wr => ∃ (i : Nat) (l : Value) (ncs : List (List Value)), i ≤ ds.length ∧ more = .bool (decide (i < ds.length)) ∧ Hid (AgI w2 (q :: G) ds wr i l ncs) ∧ Hid (wr.heap[q]? = some (.cells #[.bool false, .int .i64 0, .int .i64 0, .string ⟨#[]⟩, l, .slice none 0 0] 58 (0, 0))) ∧ Hid (RdAll wr N G (Rm i))) (fun _ wr => ds.length - aLen ((wr.cell? ⟨q, 4, none⟩).getD undef))
  case atStart => exact ⟨0, _, [], Nat.zero_le _, by rw [decide_eq_true hne], HAg, HY, HSt⟩
  case round =>
    clear HAg HY HSt
    obtain ⟨i, l, ncs, hik, rfl, HD, HQr, HS⟩ := hrel
    have HFW : Hid (AFr (q :: G) W wr) := (AFr.of_below HBb.out).trans HD.out.fr
    have hpG : p ∉ q :: G := fun hm => by
      rcases List.mem_cons.1 hm with e | e
      · omega
      · have := HGz.out _ e; omega
    have HPr : Hid _ := HD.out.fr.box HPb.out hpG
    by_cases hlt : i < ds.length
    · have qm : decide (i < ds.length) = true := decide_eq_true hlt
      have q40 : ((i : Int) == 40) = false := by rw [beq_eq_false_iff_ne]; omega
      rw [qm]
      obtain ⟨a0, c0, rfl⟩ := HD.out.shape
      obtain ⟨p0, p1, p2, p3, p4, p5⟩ := row_six HQr.out
      have pz := (row_one HPr.out).1
      have HC1 : Hid _ := HIn.out i hlt wr (HBr.out.st HFW.out HNb.out) HS.out
      go_wp2_with fail
      refine Calls.mono HC1.out ?_
      rintro e wa ⟨rfl, hba⟩
      have HBa : Hid (Below wr.heap.size wr wa) := hba
      have HPa : Hid _ := blk_keep hba HPr.out
      have HQa : Hid _ := blk_keep hba HQr.out
      clear hba p0 p1 p2 p3 p4 p5 pz HC1
      have pz := (row_one HPa.out).1
      obtain ⟨y, HYn⟩ := hid_name ds[i]
      have HC2 : Hid _ := HEach.out i hlt wa (HBr.out.st (HFW.out.trans (AFr.of_below HBa.out)) HNb.out) (HS.out.below HBa.out)
      rw [HYn.out] at HC2
      go_wp2_with fail
      refine Calls.mono HC2.out ?_
      rintro e w3 ⟨al, cl, af, cf, rfl, hl3, hf3, hr3, hff3⟩
      obtain ⟨w4, HW4, HZ4, HB4⟩ := one_box w3 #[.bool y.no, .int .i64 y.v.k, .int .i64 y.v.n, .string y.v.s, .slice al y.l.length cl, .slice af y.f.length cf] 58
      have hqG : q ∉ G := fun hm => by have := HGz.out q hm; omega
      have HQ4 : Hid _ := blk_keep HB4.out (hff3.box HQa.out hqG)
      have HF4 : Hid (AFr (q :: G) wr w4) := (AFr.of_below HBa.out).trans ((hff3.more (fun g hg => List.mem_cons_of_mem _ hg)).trans (AFr.of_below HB4.out))
      have hwa : wr.heap.size ≤ wa.heap.size := HBa.out.size
      have HL3 : Hid (LiesD w4 (fun b => wr.heap.size ≤ b) al y.l) := (hl3.stay (fun b h _ => Nat.le_trans hwa h) (fun _ _ _ => rfl)).keep HB4.out
      have HL4 : Hid (LiesD w4 (fun b => wr.heap.size ≤ b) af y.f) := (hf3.stay (fun b h _ => Nat.le_trans hwa h) (fun _ _ _ => rfl)).keep HB4.out
      have HS4 : Hid (RdAll w4 N G (Rm (i + 1))) := hr3.below HB4.out
      have HRow : Hid (w4.ownsRow w2.heap.size 58 6 (.slice a0 i c0) i ncs.flatten) := row_af HD.out.row HF4.out HD.out.lt
      have hwsz : w2.heap.size ≤ w4.heap.size := Nat.le_trans HD.out.fr.size HF4.out.size
      clear hl3 hf3 hr3 hff3 pz HC2
      go_upto_region 7 with fail
      rw [HW4.out]
      obtain ⟨z0, z1, z2, z3, z4, z5⟩ := row_six HZ4.out
      obtain ⟨p0, p1, p2, p3, p4, p5⟩ := row_six HQ4.out
      go_wp2_with (at_builtin; refine wpList_append_where _ rfl _ _ 25 rfl w2.heap.size 58 iv (.agg #[.bool false, .int .i64 0, .int .i64 0, .string ⟨#[]⟩, .slice none 0 0, .slice none 0 0]) 6 88 Tryz.underlying25 hvi hv0 hv1 hv2 rfl (by decide) _ i ncs.flatten rfl (HRow.out.alloc _) ⟨_, 0, none⟩ 1 1 [.bool y.no, .int .i64 y.v.k, .int .i64 y.v.n, .string y.v.s, .slice al y.l.length cl, .slice af y.f.length cf] rfl rfl six_cells (by intro u hu; simp at hu; rcases hu with rfl | rfl | rfl | rfl | rfl | rfl <;> rfl) (by unfold maxLen; omega) (by omega) (by simp; omega) (by decide) ?_; intro l' w9 hown9 hgrow9 hwh; have HDn : Hid (AgI w2 (q :: G) ds w9 (i + 1) l' (ncs ++ [[.bool ds[i].no, .int .i64 ds[i].v.k, .int .i64 ds[i].v.n, .string ds[i].v.s, .slice al ds[i].l.length cl, .slice af ds[i].f.length cf]])) := HD.out.push hlt HF4.out (by rw [HYn.out]; exact HL3.out) (by rw [HYn.out]; exact HL4.out) (by rw [HYn.out]; exact hown9) hgrow9 hwh; have HG9 : Hid (AFr (q :: G) w2 w9 ∧ ∀ k, k < w2.heap.size → w9.heap[k]? = w4.heap[k]?) := af_grow (HD.out.fr.trans HF4.out) hgrow9 (fun k hk => (HD.out.row.lt k hk).1); have HQ9 : Hid _ := (HG9.out.2 q hs2).trans HQ4.out; have HZ9 : Hid _ := row_six_z HQ9.out; clear p0 p1 p2 p3 p4 p5; obtain ⟨f0, f1, f2, f3, f4, f5⟩ := HZ9.out; obtain ⟨g0, g1, g2, g3, g4, g5⟩ := row_six HQ9.out; obtain ⟨a8, c8, rfl⟩ := HDn.out.shape; have HP9 : Hid _ := HDn.out.fr.box HPb.out hpG; have pz : (w9.setCell ⟨q, 4, none⟩ (.slice a8 (i + 1) c8)).cell? ⟨p, 0, none⟩ = some (.pointer (some ⟨b, 0, none⟩)) := (row_one ((Below.heap_setCell w9 ⟨q, 4, none⟩ (.slice a8 (i + 1) c8) p (by show p ≠ q; omega)).trans HP9.out)).1)
      have HDm : Hid _ := HDn.out.go ((AFr.refl (q :: G) w9).setIn (g := q) (j := 4) (v := .slice a8 (i + 1) c8) (List.mem_cons_self ..))
      have HQn : Hid ((w9.setCell ⟨q, 4, none⟩ (.slice a8 (i + 1) c8)).heap[q]? = some (.cells #[.bool false, .int .i64 0, .int .i64 0, .string ⟨#[]⟩, .slice a8 (i + 1) c8, .slice none 0 0] 58 (0, 0))) := row_setC HQ9.out
      have HSn : Hid (RdAll (w9.setCell ⟨q, 4, none⟩ (.slice a8 (i + 1) c8)) N G (Rm (i + 1))) := HS4.out.low p HGz.out (fun k hk => by
        rw [Below.heap_setCell w9 ⟨q, 4, none⟩ _ k (by show k ≠ q; omega), HG9.out.2 k (by omega)])
      obtain ⟨w5, HW5⟩ := hid_name (w9.setCell ⟨q, 4, none⟩ (.slice a8 (i + 1) c8))
      rw [HW5.out] at HDm HQn HSn
      have HP5 : Hid _ := HDm.out.fr.box HPb.out hpG
      have HC3 : Hid _ := HMo.out i hlt w5 (HBr.out.st ((AFr.of_below HBb.out).trans HDm.out.fr) HNb.out) HSn.out (row_one HP5.out).1
      clear f0 f1 f2 f3 f4 f5 z0 z1 z2 z3 z4 z5
      rw [HW5.out]
      refine Calls.mono HC3.out ?_
      rintro e w6 ⟨rfl, hb6⟩
      have HD6 : Hid _ := HDm.out.go (AFr.of_below hb6)
      have HQ6 : Hid _ := blk_keep hb6 HQn.out
      have HS6 : Hid _ := HSn.out.below hb6
      have HM6 : Hid (w6.cell? ⟨q, 4, none⟩ = some (.slice a8 (i + 1) c8)) := (row_six HQ6.out).2.2.2.2.1
      have HMr : Hid (wr.cell? ⟨q, 4, none⟩ = some (.slice a0 i c0)) := (row_six HQr.out).2.2.2.2.1
      clear hb6 HC3
      go_wp2
      go_roundw
      case rel => exact ⟨i + 1, _, _, hlt, rfl, HD6, HQ6, HS6⟩
      case measure => rw [HM6.out, HMr.out]; simp only [Option.getD, aLen]; omega
    · obtain rfl : i = ds.length := by omega
      have qm : decide (ds.length < ds.length) = false := decide_eq_false (by omega)
      rw [qm]
      have HRn : Hid (RdAll wr N G rest) := (by
        have h := HS.out
        rw [HRe.out] at h
        exact h)
      have hxG : rx ∉ q :: G := fun hm => by
        rcases List.mem_cons.1 hm with e | e
        · omega
        · have := HGz.out _ e; omega
      have HXr : Hid _ := HD.out.fr.box HXb.out hxG
      have hWp : W.heap.size = p := HPn.out
      have HFn : Hid (AFr G W wr) := AFr.base HBb.out HD.out.fr (by omega)
      have hWx : W.heap.size ≤ rx := by omega
      clear hWp
      obtain ⟨a9, c9, rfl⟩ := HD.out.shape
      have HLn : Hid (LiesD wr (fun b => w2.heap.size ≤ b) a9 ds) := HD.out.lies
      have HGe : Hid (rx ∉ G) := fun hm => hxG (List.mem_cons_of_mem _ hm)
      obtain ⟨z0, z1, z2, z3, z4, z5⟩ := row_six HXr.out
      obtain ⟨y0, y1, y2, y3, y4, y5⟩ := row_six_z HXr.out
      obtain ⟨p0, p1, p2, p3, p4, p5⟩ := row_six HQr.out
      have hNr : N ≤ rx := by have := HNW.out; omega
      go_wp2
      refine bodyPost_ret (v := .tuple #[.agg #[.bool false, .int .i64 0, .int .i64 0, .string ⟨#[]⟩, .slice a9 ds.length c9, .slice none 0 0], .nilIface]) (results_cS Tryz.results112 _ _ rx 58 #[.bool false, .int .i64 0, .int .i64 0, .string ⟨#[]⟩, .slice a9 ds.length c9, .slice none 0 0] (0, 0) _ .nilIface rfl rfl (row_setC (row_setC (row_setC (row_setC (row_setC (row_setC HXr.out)))))) Tryz.underlying58 rfl (by kernel_rfl)) rfl ⟨a9, c9, rfl, HLn.out.six (by omega) (fun b hb => by omega) _ _ _ _ _ _, HRn.out.six HGe.out hNr _ _ _ _ _ _, sixA HFn.out hWx _ _ _ _ _ _⟩
end Go.Proofs.YtbicfjimlpdnkaaGreatDoor

namespace Go.Proofs.YtbicfjimlpdnkaaGreatDoor
open Go.RowKit
theorem agI_of {t : Tr} {df ls N b : Nat} {G : List Nat} {R : List (List Ent)} (v : Bool) {W : World} (hb : BrAt W b t df ls G) (hG : G.length ≤ 1000) (hR : RdAll W N G R) (hv : ∀ es ∈ R, ∃ x r, es = x :: r ∧ v = decide ((df : Int) < x.dfn)) : Calls Tryz.prog (61) #[.pointer (some ⟨b, 0, none⟩), .func (.func 110) #[.pointer (some ⟨b, 0, none⟩)] #[]] W fun e w' => e = .returned (.tuple #[.bool v, .nilIface]) ∧ Below W.heap.size W w' := by
  obtain ⟨fv, ra, rc, hcell, hra, _⟩ := hb.box
  obtain ⟨c0, c1, c2, c3, c4⟩ := row_fiveB hcell
  refine agreeI b b G v hb.pos hG ra rc W c4 hra (fun j h Y hY => ?_)
  have h1 := (hR.below hY).2 j h (by rw [← hR.1]; exact h)
  obtain ⟨x, r, e, h2⟩ := hv _ (List.getElem_mem (by rw [← hR.1]; exact h))
  rw [e] at h1
  exact clI N b G[j] df x r v h2 Y ((hY.cell (World.block_lt_of_cell? W _ c1)).trans c1) h1
theorem en_one {t : Tr} {d : Dt} (h3 : t.rep ≠ 3) (hno : d.no = false) (df ls : Nat) (rep : Int) : en false t df ls rep d = en true t (dfN t df) (lsN t ls) rep d := by
  have e1 : lsN t ls = ls := by unfold lsN; rw [if_neg h3]
  have hA : en false t df ls rep d = if t.kind = 0 then enF t.sub (if false = true ∨ t.rep = 1 then df else df + 1) ls rep d.f else [[⟨rep, ((if false = true ∨ t.rep = 1 then df else df + 1 : Nat) : Int), some d.v⟩]] := by
    rw [en_eq, if_neg (by simp [h3]), if_neg (by simp [hno])]
  have hB : en true t (dfN t df) ls rep d = if t.kind = 0 then enF t.sub (if true = true ∨ t.rep = 1 then dfN t df else dfN t df + 1) ls rep d.f else [[⟨rep, ((if true = true ∨ t.rep = 1 then dfN t df else dfN t df + 1 : Nat) : Int), some d.v⟩]] := by
    rw [en_eq, if_neg (by simp), if_neg (by simp)]
  rw [e1, hA, hB]
  unfold dfN
  by_cases h1 : t.rep = 1 <;> simp [h1]
theorem lsN_ge (t : Tr) (ls : Nat) : ls ≤ lsN t ls ∧ lsN t ls ≤ ls + 1 := by unfold lsN; split <;> omega
set_option maxRecDepth 100000 in
set_option maxHeartbeats 3200000 in
theorem datum_one (t : Tr) (df ls : Nat) (d : Dt) (h1 : t.rep = 1) (hno : d.no = false) (hO : OneA t df ls d) : DatA t df ls d := by
  intro N b G rep rest W hb hnd hG hrl hR hh
  rw [en_one (by omega) hno] at hR
  have hlt := hR.lt
  obtain ⟨w0, HW0, HX, HB⟩ := one_box W #[.bool false, .int .i64 0, .int .i64 0, .string ⟨#[]⟩, .slice none 0 0, .slice none 0 0] 58
  obtain ⟨fv, ra, rc, hcell, _⟩ := hb.box
  obtain ⟨c0, c1, c2, c3, c4⟩ := row_fiveB (blk_keep HB.out hcell)
  rw [h1] at c0
  have HC : Hid _ := hO N b G rep rest w0 (hb.kept HB.out) hnd hG hrl (hR.below HB.out) (fun es he => by have := hh es he; have := (lsN_ge t ls).1; omega)
  have HGe : Hid (W.heap.size ∉ G) := fun hm => by have := (hlt _ hm).2; omega
  have HNW : Hid (N ≤ W.heap.size) := (by
    have h := hlt (G[0]'hb.pos) (List.getElem_mem hb.pos)
    show _ ≤ _
    omega)
  have hw0 : W.heap.size < w0.heap.size := lt_of_block HX.out
  clear hb hnd hG hrl hR hh hlt hcell hO hno
  go_enter Tryz.func94, Tryz.ntmps94
  go_upto_region 1 with fail
  rw [HW0.out]
  go_wp2_with fail
  refine Calls.mono HC.out ?_
  rintro e w1 ⟨al, cl, af, cf, rfl, hl1, hf1, hr1, hff1⟩
  have HL : Hid (LiesD w1 (fun b => w0.heap.size ≤ b) al d.l) := hl1
  have HF : Hid (LiesD w1 (fun b => w0.heap.size ≤ b) af d.f) := hf1
  have HR : Hid (RdAll w1 N G rest) := hr1
  have HFr : Hid (AFr G W w1) := (AFr.of_below HB.out).trans hff1
  have HX1 : Hid _ := hff1.box HX.out HGe.out
  obtain ⟨z0, z1, z2, z3, z4, z5⟩ := row_six HX1.out
  obtain ⟨y0, y1, y2, y3, y4, y5⟩ := row_six_z HX1.out
  clear hl1 hf1 hr1 hff1
  go_wp2
  exact bodyPost_ret (v := .tuple #[.agg #[.bool d.no, .int .i64 d.v.k, .int .i64 d.v.n, .string d.v.s, .slice al d.l.length cl, .slice af d.f.length cf], .nilIface]) (results_cS Tryz.results94 _ _ W.heap.size 58 #[.bool d.no, .int .i64 d.v.k, .int .i64 d.v.n, .string d.v.s, .slice al d.l.length cl, .slice af d.f.length cf] (0, 0) _ .nilIface rfl rfl (row_setC (row_setC (row_setC (row_setC (row_setC (row_setC HX1.out)))))) Tryz.underlying58 rfl (by kernel_rfl)) rfl ⟨al, cl, af, cf, rfl, HL.out.six hw0 (fun b hb => by omega) _ _ _ _ _ _, HF.out.six hw0 (fun b hb => by omega) _ _ _ _ _ _, HR.out.six HGe.out HNW.out _ _ _ _ _ _, sixA HFr.out (Nat.le_refl _) _ _ _ _ _ _⟩
set_option maxRecDepth 100000 in
set_option maxHeartbeats 3200000 in
/-- .. of an Optional that is there. -/
theorem datum_two (t : Tr) (df ls : Nat) (d : Dt) (h2 : t.rep = 2) (hck : chk false t d = 0) (hno : d.no = false) (hO : OneA t df ls d) : DatA t df ls d := by
  intro N b G rep rest W hb hnd hG hrl hR hh
  have hlt := hR.lt
  obtain ⟨w0, HW0, HX, HB⟩ := one_box W #[.bool false, .int .i64 0, .int .i64 0, .string ⟨#[]⟩, .slice none 0 0, .slice none 0 0] 58
  have HA : Hid _ := agI_of true (hb.kept HB.out) hG (hR.below HB.out) (fun es he => by
    obtain ⟨x, r, e, _, h⟩ := zipA_hd (en_hd d false t df ls rep hck) es he
    refine ⟨x, r, e, ?_⟩
    rw [eq_comm, decide_eq_true_iff]
    exact h.2.1 rfl (by omega) ⟨fun h3 => by omega, fun _ => hno⟩)
  rw [en_one (by omega) hno] at hR
  obtain ⟨fv, ra, rc, hcell, _⟩ := hb.box
  obtain ⟨c0, c1, c2, c3, c4⟩ := row_fiveB (blk_keep HB.out hcell)
  have HCl : Hid _ := blk_keep HB.out hcell
  rw [h2] at c0
  have HC : Hid (∀ w, Below w0.heap.size w0 w → _) := fun w hw => hO N b G rep rest w ((hb.kept HB.out).kept hw) hnd hG hrl ((hR.below HB.out).below hw) (fun es he => by have := hh es he; have := (lsN_ge t ls).1; omega)
  have HGe : Hid (W.heap.size ∉ G) := fun hm => by have := (hlt _ hm).2; omega
  have HNW : Hid (N ≤ W.heap.size) := (by
    have h := hlt (G[0]'hb.pos) (List.getElem_mem hb.pos)
    show _ ≤ _
    omega)
  have hw0 : W.heap.size < w0.heap.size := lt_of_block HX.out
  have hmf : ∀ (fn : Fn) (first cap : Array Value) (w : World), (Instr.makeFunc fn first cap).run Tryz.prog w = .ok (.func fn first cap) w := fun _ _ _ _ => rfl
  clear hb hnd hG hrl hR hh hlt hcell hO hck hno
  go_enter Tryz.func94, Tryz.ntmps94
  go_upto_region 1 with fail
  rw [HW0.out]
  go_wp2_with fail
  refine Calls.mono HA.out ?_
  rintro e wa ⟨rfl, hba⟩
  have HCa : Hid _ := HC.out wa hba
  have HBa : Hid _ := hba
  have hwa : W.heap.size < wa.heap.size := Nat.lt_of_lt_of_le hw0 hba.size
  have HCl2 : Hid _ := blk_keep hba HCl.out
  have HXa : Hid _ := blk_keep hba HX.out
  clear hba c0 c1 c2 c3 c4
  obtain ⟨c0, c1, c2, c3, c4⟩ := row_fiveB HCl2.out
  rw [h2] at c0
  go_wp2_with fail
  refine Calls.mono HCa.out ?_
  rintro e w1 ⟨al, cl, af, cf, rfl, hl1, hf1, hr1, hff1⟩
  have HL : Hid (LiesD w1 (fun b => wa.heap.size ≤ b) al d.l) := hl1
  have HF : Hid (LiesD w1 (fun b => wa.heap.size ≤ b) af d.f) := hf1
  have HR : Hid (RdAll w1 N G rest) := hr1
  have HFr : Hid (AFr G W w1) := ((AFr.of_below HB.out).trans (AFr.of_below HBa.out)).trans hff1
  have HX1 : Hid _ := hff1.box HXa.out HGe.out
  obtain ⟨z0, z1, z2, z3, z4, z5⟩ := row_six HX1.out
  obtain ⟨y0, y1, y2, y3, y4, y5⟩ := row_six_z HX1.out
  clear hl1 hf1 hr1 hff1 c0 c1 c2 c3 c4
  go_wp2
  exact bodyPost_ret (v := .tuple #[.agg #[.bool d.no, .int .i64 d.v.k, .int .i64 d.v.n, .string d.v.s, .slice al d.l.length cl, .slice af d.f.length cf], .nilIface]) (results_cS Tryz.results94 _ _ W.heap.size 58 #[.bool d.no, .int .i64 d.v.k, .int .i64 d.v.n, .string d.v.s, .slice al d.l.length cl, .slice af d.f.length cf] (0, 0) _ .nilIface rfl rfl (row_setC (row_setC (row_setC (row_setC (row_setC (row_setC HX1.out)))))) Tryz.underlying58 rfl (by kernel_rfl)) rfl ⟨al, cl, af, cf, rfl, HL.out.six hwa (fun b hb => by omega) _ _ _ _ _ _, HF.out.six hwa (fun b hb => by omega) _ _ _ _ _ _, HR.out.six HGe.out HNW.out _ _ _ _ _ _, sixA HFr.out (Nat.le_refl _) _ _ _ _ _ _⟩
set_option maxRecDepth 100000 in
set_option maxHeartbeats 3200000 in
/-- .. of a list that has elements. -/
theorem datum_three (t : Tr) (df ls : Nat) (ds : List Dt) (h3 : t.rep = 3) (hl40 : ds.length ≤ 40) (hne : 0 < ds.length) (hck : chk false t (.mk false ⟨0, 0, ⟨#[]⟩⟩ ds []) = 0) (hcl : ∀ j (h : j < ds.length), chk true t ds[j] = 0) (each : ∀ j (h : j < ds.length), OneA t df ls ds[j]) : DatA t df ls (.mk false ⟨0, 0, ⟨#[]⟩⟩ ds []) := by
  intro N b G rep rest W hb hnd hG hrl hR hh
  have hlt := hR.lt
  obtain ⟨w0, HW0, HX, HB⟩ := one_box W #[.bool false, .int .i64 0, .int .i64 0, .string ⟨#[]⟩, .slice none 0 0, .slice none 0 0] 58
  have HA : Hid _ := agI_of true (hb.kept HB.out) hG (hR.below HB.out) (fun es he => by
    obtain ⟨x, r, e, _, h⟩ := zipA_hd (en_hd _ false t df ls rep hck) es he
    refine ⟨x, r, e, ?_⟩
    rw [eq_comm, decide_eq_true_iff]
    exact h.2.1 rfl (by omega) ⟨fun _ e => by simp only [Dt.l] at e; rw [e] at hne; simp at hne, fun h => absurd h3 h⟩)
  rw [en_eq, if_pos ⟨rfl, h3⟩, if_neg (by simp only [Dt.l]; omega)] at hR
  obtain ⟨fv, ra, rc, hcell, _⟩ := hb.box
  obtain ⟨c0, c1, c2, c3, c4⟩ := row_fiveB (blk_keep HB.out hcell)
  have HCl : Hid _ := blk_keep HB.out hcell
  rw [h3] at c0
  have HC : Hid (∀ w, Below w0.heap.size w0 w → _) := fun w hw => alist_of t df ls h3 ds hl40 hne hcl each N b G rep rest w ((hb.kept HB.out).kept hw) hnd hG hrl ((hR.below HB.out).below hw) hh
  have HGe : Hid (W.heap.size ∉ G) := fun hm => by have := (hlt _ hm).2; omega
  have HNW : Hid (N ≤ W.heap.size) := (by
    have h := hlt (G[0]'hb.pos) (List.getElem_mem hb.pos)
    show _ ≤ _
    omega)
  have hw0 : W.heap.size < w0.heap.size := lt_of_block HX.out
  have hmf : ∀ (fn : Fn) (first cap : Array Value) (w : World), (Instr.makeFunc fn first cap).run Tryz.prog w = .ok (.func fn first cap) w := fun _ _ _ _ => rfl
  clear hb hnd hG hrl hR hh hlt hcell each hck hcl
  go_enter Tryz.func94, Tryz.ntmps94
  go_upto_region 1 with fail
  rw [HW0.out]
  go_wp2_with fail
  refine Calls.mono HA.out ?_
  rintro e wa ⟨rfl, hba⟩
  have HCa : Hid _ := HC.out wa hba
  have HBa : Hid _ := hba
  have hwa : W.heap.size < wa.heap.size := Nat.lt_of_lt_of_le hw0 hba.size
  have HCl2 : Hid _ := blk_keep hba HCl.out
  have HXa : Hid _ := blk_keep hba HX.out
  clear hba c0 c1 c2 c3 c4
  obtain ⟨c0, c1, c2, c3, c4⟩ := row_fiveB HCl2.out
  rw [h3] at c0
  go_wp2_with fail
  refine Calls.mono HCa.out ?_
  rintro e w1 ⟨al, cl, rfl, hl1, hr1, hff1⟩
  have HL : Hid (LiesD w1 (fun b => wa.heap.size ≤ b) al ds) := hl1
  have HR : Hid (RdAll w1 N G rest) := hr1
  have HFr : Hid (AFr G W w1) := ((AFr.of_below HB.out).trans (AFr.of_below HBa.out)).trans hff1
  have HX1 : Hid _ := hff1.box HXa.out HGe.out
  obtain ⟨z0, z1, z2, z3, z4, z5⟩ := row_six HX1.out
  obtain ⟨y0, y1, y2, y3, y4, y5⟩ := row_six_z HX1.out
  clear hl1 hr1 hff1 c0 c1 c2 c3 c4
  go_wp2
  exact bodyPost_ret (v := .tuple #[.agg #[.bool false, .int .i64 0, .int .i64 0, .string ⟨#[]⟩, .slice al ds.length cl, .slice none 0 0], .nilIface]) (results_cS Tryz.results94 _ _ W.heap.size 58 #[.bool false, .int .i64 0, .int .i64 0, .string ⟨#[]⟩, .slice al ds.length cl, .slice none 0 0] (0, 0) _ .nilIface rfl rfl (row_setC (row_setC (row_setC (row_setC (row_setC (row_setC HX1.out)))))) Tryz.underlying58 rfl (by kernel_rfl)) rfl ⟨al, cl, none, 0, rfl, HL.out.six hwa (fun b hb => by omega) _ _ _ _ _ _, liesD_no _ _ _, HR.out.six HGe.out HNW.out _ _ _ _ _ _, sixA HFr.out (Nat.le_refl _) _ _ _ _ _ _⟩
set_option maxRecDepth 100000 in
set_option maxHeartbeats 3200000 in
/-- .. of a node of which nothing is there. -/
theorem datum_no (t : Tr) (df ls : Nat) (h1 : t.rep ≠ 1) (hls : ls ≤ 1000) (d : Dt) (hd : d = .mk (!decide (t.rep = 3)) ⟨0, 0, ⟨#[]⟩⟩ [] []) : DatA t df ls d := by
  intro N b G rep rest W hb hnd hG hrl hR hh
  have hlt := hR.lt
  have e : en false t df ls rep d = absE t df rep := by
    subst hd
    rw [en_eq]
    by_cases h : t.rep = 3
    · rw [if_pos ⟨rfl, h⟩, if_pos (by simp [Dt.l])]
    · rw [if_neg (by simp [h]), if_pos ⟨rfl, by simp [Dt.no, h]⟩]
  rw [e] at hR
  obtain ⟨w0, HW0, HX, HB⟩ := one_box W #[.bool false, .int .i64 0, .int .i64 0, .string ⟨#[]⟩, .slice none 0 0, .slice none 0 0] 58
  have HA : Hid _ := agI_of false (hb.kept HB.out) hG (hR.below HB.out) (fun es he => by
    obtain ⟨x, r, e, _, h⟩ := zipA_hd (absE_all t df rep) es he
    refine ⟨x, r, e, ?_⟩
    rw [eq_comm, decide_eq_false_iff_not, h]
    omega)
  obtain ⟨fv, ra, rc, hcell, _⟩ := hb.box
  obtain ⟨c0, c1, c2, c3, c4⟩ := row_fiveB (blk_keep HB.out hcell)
  have q1 : (t.rep == 1) = false := by rw [beq_eq_false_iff_ne]; exact h1
  have HC : Hid (∀ w, Below w0.heap.size w0 w → _) := fun w hw => nothing_any t df ls b N G rep rest w ((hb.kept HB.out).kept hw) hnd hG hls hrl ((hR.below HB.out).below hw) hh
  have HGe : Hid (W.heap.size ∉ G) := fun hm => by have := (hlt _ hm).2; omega
  have HNW : Hid (N ≤ W.heap.size) := (by
    have h := hlt (G[0]'hb.pos) (List.getElem_mem hb.pos)
    show _ ≤ _
    omega)
  have hw0 : W.heap.size < w0.heap.size := lt_of_block HX.out
  have hmf : ∀ (fn : Fn) (first cap : Array Value) (w : World), (Instr.makeFunc fn first cap).run Tryz.prog w = .ok (.func fn first cap) w := fun _ _ _ _ => rfl
  obtain ⟨n3, HN3⟩ := hid_name (!decide (t.rep = 3))
  rw [HN3.out] at HC hd
  clear hb hnd hG hrl hR hh hlt hcell e
  subst hd
  go_enter Tryz.func94, Tryz.ntmps94
  go_upto_region 1 with fail
  rw [HW0.out]
  go_wp2_with fail
  refine Calls.mono HA.out ?_
  rintro e wa ⟨rfl, hba⟩
  have HCa : Hid _ := HC.out wa hba
  have HBa : Hid _ := hba
  have HXa : Hid _ := blk_keep hba HX.out
  clear hba c0 c1 c2 c3 c4
  go_wp2_with fail
  refine Calls.mono HCa.out ?_
  rintro e w1 ⟨rfl, hr1, hff1⟩
  have HR : Hid (RdAll w1 N G rest) := hr1
  have HFr : Hid (AFr G W w1) := ((AFr.of_below HB.out).trans (AFr.of_below HBa.out)).trans hff1
  have HX1 : Hid _ := hff1.box HXa.out HGe.out
  obtain ⟨z0, z1, z2, z3, z4, z5⟩ := row_six HX1.out
  obtain ⟨y0, y1, y2, y3, y4, y5⟩ := row_six_z HX1.out
  clear hr1 hff1
  go_wp2
  exact bodyPost_ret (v := .tuple #[.agg #[.bool n3, .int .i64 0, .int .i64 0, .string ⟨#[]⟩, .slice none 0 0, .slice none 0 0], .nilIface]) (results_cS Tryz.results94 _ _ W.heap.size 58 #[.bool n3, .int .i64 0, .int .i64 0, .string ⟨#[]⟩, .slice none 0 0, .slice none 0 0] (0, 0) _ .nilIface rfl rfl (row_setC (row_setC (row_setC (row_setC (row_setC (row_setC HX1.out)))))) Tryz.underlying58 rfl (by kernel_rfl)) rfl ⟨none, 0, none, 0, rfl, liesD_no _ _ _, liesD_no _ _ _, HR.out.six HGe.out HNW.out _ _ _ _ _ _, sixA HFr.out (Nat.le_refl _) _ _ _ _ _ _⟩
end Go.Proofs.YtbicfjimlpdnkaaGreatDoor
