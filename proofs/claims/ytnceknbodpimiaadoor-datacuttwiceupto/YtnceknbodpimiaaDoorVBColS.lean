/-
  shred.Part: cuts of lists; slices that are sliced; what Part answers.
  The steps to a leaf, and the entries that a right record makes along them: the words, without the program.
  The entries that a right record makes on the way to a leaf: their levels, their values, how many.
  The values of a leaf by walking down, and those of its column.
  shred.Part, walked.
  What a record is when it is cut: the words, without the program.
  data.placeOf, and the place of a leaf: slices.IndexFunc.
-/
import Derived.Test.YtnceknbodpimiaaDoorVBColO
import Derived.Deep.DeepCutAuto
import Derived.Deep.RegionHeld3
import Derived.Test.YtnceknbodpimiaaDoorVBIds
import Derived.Test.YtnceknbodpimiaaDoorVBLeafOf
import Derived.Test.YtnceknbodpimiaaDoorVBColOf
import Derived.Test.YtnceknbodpimiaaDoorVBChkD
import Derived.Test.YtnceknbodpimiaaDoorVBColH
import Derived.Test.YtnceknbodpimiaaDoorVBLvM
namespace Go.Proofs.YtnceknbodpimiaaDoor
open Go.RowKit
/-- From a place up to another one. -/
def cutL {α : Type} (l : List α) (a b : Nat) : List α := (l.take b).drop a
theorem cutL_len {α : Type} (l : List α) (a b : Nat) (h : b ≤ l.length) : (cutL l a b).length = b - a := by simp [cutL]; omega
theorem cutL_at {α : Type} (l : List α) (a b j : Nat) (h : j < (cutL l a b).length) : ∃ h2 : a + j < l.length, (cutL l a b)[j] = l[a + j] := by
  unfold cutL at *
  simp at h
  exact ⟨by omega, by simp⟩
theorem Cl.Fr.low {N M : Nat} {c : Cl} (h : c.Fr N) (hm : M ≤ N) : c.Fr M := ⟨fun p hp => Nat.le_trans hm (h.r p hp), fun p hp => Nat.le_trans hm (h.d p hp), fun p hp => Nat.le_trans hm (h.v p hp)⟩
theorem lies_cut {w : World} {a : Option Addr} {cs : List Value} (h : Lies w a cs) (l m c : Nat) (hm : m ≤ cs.length) (hc : cs.length ≤ c) {x : Option Addr} (hx : x = if c = l then a else a.map (fun p => p.add (l * 1))) : Lies w x (cutL cs l m) := fun j hj => by
  obtain ⟨h2, e⟩ := cutL_at cs l m j hj
  have hj2 : j < m - l := by rw [cutL_len cs l m hm] at hj; exact hj
  obtain ⟨b, o, rfl, hcell⟩ := h (l + j) h2
  rw [if_neg (by omega)] at hx
  refine ⟨b, o + l, by rw [hx]; simp [addr_add], ?_⟩
  rw [e, Nat.add_assoc]; exact hcell
/-- Is a column right for a leaf? -/
def GoodC (lid kind mr md : Int) (c : Cl) : Prop := (isLfB kind mr md && fitB lid mr md c.id c.rs c.ds c.vs.length) = true ∧ ∀ j (h : j < c.vs.length), badV kind c.vs[j] = false
end Go.Proofs.YtnceknbodpimiaaDoor

namespace Go.Proofs.YtnceknbodpimiaaDoor
open Go.RowKit
/-- A way down from a node to a leaf in it. -/
def Chn : Tr → List Tr → Prop
  | t, [] => t.kind ≠ 0
  | t, x :: q => t.kind = 0 ∧ (∃ i, ∃ h : i < t.sub.length, t.sub[i] = x ∧ ∀ j (h' : j < i), (t.sub[j]'(Nat.lt_trans h' h)).id ≠ x.id) ∧ Chn x q
/-- The first node with a number. -/
def ixO (ts : List Tr) (id : Int) : Nat := ts.findIdx fun y => y.id == id
theorem ixO_at {ts : List Tr} {x : Tr} {i : Nat} (h : i < ts.length) (e : ts[i] = x) (hf : ∀ j (h' : j < i), (ts[j]'(Nat.lt_trans h' h)).id ≠ x.id) : ixO ts x.id = i := by
  unfold ixO
  rw [List.findIdx_eq h]
  refine ⟨by rw [e]; simp, fun j hj => ?_⟩
  have := hf j hj
  simp [this]
theorem lvL_at : ∀ (ts : List Tr) (p : List Tr) (f : Lf), f ∈ lvL p ts → ∃ i, ∃ h : i < ts.length, f ∈ lvT p ts[i]
  | [], p, f, h => by simp [lvL] at h
  | t :: ts, p, f, h => by
    rw [lvL, List.mem_append] at h
    rcases h with h | h
    · exact ⟨0, by simp, h⟩
    · obtain ⟨i, hi, h⟩ := lvL_at ts p f h
      exact ⟨i + 1, by simp; omega, by simpa using h⟩
/-- No two of a node's nodes have one number. -/
theorem IdU.first {t : Tr} (h : IdU t) (i j : Nat) (hi : i < t.sub.length) (hj : j < i) : (t.sub[j]'(Nat.lt_trans hj hi)).id ≠ t.sub[i].id := by
  unfold IdU at h
  rw [ndT_eq, List.map_cons, List.nodup_cons] at h
  have hsub : ∀ ts : List Tr, List.Sublist ts (ndL ts) := fun ts => by
    induction ts with
    | nil => simp
    | cons x xs ih =>
      rw [ndL, ndT_eq, List.cons_append]
      exact (ih.trans (List.sublist_append_right _ _)).cons_cons x
  have hn : (t.sub.map Tr.id).Nodup := h.2.sublist ((hsub t.sub).map Tr.id)
  rw [List.nodup_iff_pairwise_ne, List.pairwise_iff_getElem] at hn
  have := hn j i (by simp; omega) (by simpa using hi) hj
  simpa using this
/-- A leaf of a tree: the way to it. -/
theorem lvT_chn : ∀ (n : Nat) (t : Tr), SizeOf.sizeOf t < n → ∀ (p : List Tr) (f : Lf), IdU t → (∀ y ∈ ndT t, y.kind ≠ 0 → y.sub = []) → f ∈ lvT p t →
    ∃ q z, Chn t q ∧ (t :: q).getLast? = some z ∧ f = ⟨z.id, z.kind, lvR (p ++ t :: q), lvD (p ++ t :: q), (p ++ t :: q).map Tr.id⟩
  | 0, t, h => absurd h (Nat.not_lt_zero _)
  | n + 1, .node id nm rep kind sub, hn => fun p f hu hk hf => by
    rw [lvT, List.mem_append] at hf
    by_cases h0 : kind = 0
    · rw [if_pos h0] at hf
      rcases hf with hf | hf
      · simp at hf
      · obtain ⟨i, hi, hf⟩ := lvL_at _ _ _ hf
        have hm : sub[i] ∈ (Tr.node id nm rep kind sub).sub := List.getElem_mem hi
        have hsz : SizeOf.sizeOf sub[i] < n := by
          have := List.sizeOf_lt_of_mem (List.getElem_mem (l := sub) (n := i) hi)
          simp only [Tr.node.sizeOf_spec] at hn
          omega
        obtain ⟨q, z, hc, hz, e⟩ := lvT_chn n sub[i] hsz _ f (hu.sub hm) (fun y hy => hk y (nd_sub hm hy)) hf
        refine ⟨sub[i] :: q, z, ⟨h0, ⟨i, hi, rfl, fun j hj => hu.first i j hi hj⟩, hc⟩, ?_, ?_⟩
        · rw [List.getLast?_cons_cons]; exact hz
        · rw [e]; simp
    · have hs : sub = [] := hk (.node id nm rep kind sub) (by rw [ndT]; exact List.mem_cons_self) h0
      subst hs
      rw [if_neg h0, lvL] at hf
      simp only [List.mem_singleton, List.not_mem_nil, or_false] at hf
      exact ⟨[], _, h0, rfl, by rw [hf, lfO]; rfl⟩
theorem right_lfs {t : Tr} (hs : shpT t = true) : ∀ y ∈ ndT t, y.kind ≠ 0 → y.sub = [] := fun y hy hk => by
  rw [shp_all, Bool.and_eq_true] at hs
  have h : shpOk y = true := by
    rw [ndT_eq] at hy
    rcases List.mem_cons.1 hy with rfl | hy
    · exact hs.1
    · exact List.all_eq_true.1 hs.2 y hy
  unfold shpOk at h
  rw [Bool.and_eq_true] at h
  have h2 := h.2
  have hs : ¬ 0 < y.sub.length := by
    intro hp
    simp [hk, hp] at h2
  exact List.eq_nil_of_length_eq_zero (by omega)
/-- A leaf of a right schema: the way to it from the root. -/
structure LfW (t : Tr) (f : Lf) (q : List Tr) (z : Tr) : Prop where
  way : Chn t q
  last : (t :: q).getLast? = some z
  ne : q ≠ []
  id : f.id = z.id
  kind : f.kind = z.kind
  mr : f.mr = lvR q
  md : f.md = lvD q
  path : f.path = q.map Tr.id
theorem right_way {t : Tr} (hr : isRootB t = true) (hs : shpT t = true) (hi : idsT t = true) (hk0 : t.kind = 0) (f : Lf) (hf : f ∈ lvsT t) : ∃ q z, LfW t f q z := by
  rw [lvs_right t hk0] at hf
  have hu := right_idU hr hi
  have hl := right_lfs hs
  obtain ⟨i, hi, hf⟩ := lvL_at _ _ _ hf
  have hm : t.sub[i] ∈ t.sub := List.getElem_mem hi
  obtain ⟨q, z, hc, hz, e⟩ := lvT_chn _ t.sub[i] (Nat.lt_succ_self _) [] f (hu.sub hm) (fun y hy => hl y (nd_sub hm hy)) hf
  rw [List.nil_append] at e
  exact ⟨t.sub[i] :: q, z, ⟨hk0, ⟨i, hi, rfl, fun j hj => hu.first i j hi hj⟩, hc⟩, by rw [List.getLast?_cons_cons]; exact hz, by simp, by rw [e], by rw [e], by rw [e], by rw [e], by rw [e]⟩
end Go.Proofs.YtnceknbodpimiaaDoor

namespace Go.Proofs.YtnceknbodpimiaaDoor
open Go.RowKit
theorem chkL_at : ∀ (ds : List Dt) (t : Tr), chkL t ds = 0 → ∀ d ∈ ds, chk true t d = 0
  | [], t, _, d, hd => by simp at hd
  | x :: ds, t, h, d, hd => by
    rw [chkL] at h
    split at h
    · rename_i h1
      rcases List.mem_cons.1 hd with rfl | hd
      · exact h1
      · exact chkL_at ds t h d hd
    · rename_i h1; exact absurd h h1
theorem chkF_at : ∀ (ds : List Dt) (ts : List Tr), ds.length = ts.length → chkF ts ds = 0 → ∀ j (h : j < ts.length) (h' : j < ds.length), chk false ts[j] ds[j] = 0
  | [], ts, hl, _, j, _, h' => by simp at h'
  | x :: ds, [], hl, _, j, h, _ => by simp at h
  | x :: ds, t :: ts, hl, h, j, hj, hj' => by
    rw [chkF] at h
    split at h
    · rename_i h1
      cases j with
      | zero => exact h1
      | succ j => exact chkF_at ds ts (by simpa using hl) h j (by simpa using hj) (by simpa using hj')
    · rename_i h1; exact absurd h h1
/-- A right group. -/
theorem chk_grp {t : Tr} {d : Dt} (hk : t.kind = 0) (h : chk true t d = 0) : d.no = false ∧ d.l = [] ∧ d.f.length = t.sub.length ∧ ∀ j (h : j < t.sub.length) (h' : j < d.f.length), chk false t.sub[j] d.f[j] = 0 := by
  rw [chk_group t d hk, grpEr] at h
  split at h
  · omega
  · rename_i h1
    simp only [Bool.or_eq_true, not_or, Bool.not_eq_true, Bool.not_eq_false', decide_eq_true_iff] at h1
    have hl : d.f.length = t.sub.length := by simpa using h1.2
    exact ⟨h1.1.1.1, List.eq_nil_of_length_eq_zero (by have := h1.1.2; simpa using this), hl, fun j hj hj' => chkF_at _ _ hl h j hj hj'⟩
/-- A right list. -/
theorem chk_lst {t : Tr} {d : Dt} (hr : t.rep = 3) (h : chk false t d = 0) : d.l.length ≤ 40 ∧ ∀ e ∈ d.l, chk true t e = 0 := by
  rw [chk_list t d hr, lstEr] at h
  split at h
  · omega
  · split at h
    · omega
    · exact ⟨by omega, chkL_at _ _ h⟩
/-- A right leaf. -/
theorem chk_lf {t : Tr} {d : Dt} (hk : t.kind ≠ 0) (h : chk true t d = 0) : d.no = false ∧ badV t.kind d.v = false := by
  rw [chk_leaf t d hk, leafEr] at h
  split at h
  · omega
  · rename_i h1
    split at h
    · omega
    · rename_i h2
      simp only [Bool.or_eq_true, not_or, Bool.not_eq_true] at h1 h2
      refine ⟨h1.1.1, ?_⟩
      unfold badV
      rw [Bool.or_eq_false_iff]
      refine ⟨?_, h2.2⟩
      have := h2.1
      simp only [Bool.not_eq_false', decide_eq_true_iff] at this
      simp [this]
/-- What is not there is so of an Optional alone. -/
theorem chk_no {t : Tr} {d : Dt} (h3 : t.rep ≠ 3) (hn : d.no = true) (h : chk false t d = 0) : t.rep = 2 := by
  by_cases h2 : t.rep = 2
  · exact h2
  · exfalso
    rw [chk_one t d h3 (fun e => h2 e.1)] at h
    by_cases hk : t.kind = 0
    · have := (chk_grp hk h).1; rw [hn] at this; cases this
    · have := (chk_lf hk h).1; rw [hn] at this; cases this
theorem chk_yes {t : Tr} {d : Dt} (h3 : t.rep ≠ 3) (hn : d.no = false) (h : chk false t d = 0) : chk true t d = 0 := by
  rw [chk_one t d h3 (fun e => by rw [hn] at e; exact absurd e.2 (by simp))] at h
  exact h
theorem getD_at {l : List Dt} {i : Nat} (h : i < l.length) : l.getD i default = l[i] := by simp [List.getD, h]
/-- The field that a way goes on into. -/
theorem chk_in {t x : Tr} {q : List Tr} {d : Dt} (hc : Chn t (x :: q)) (h : chk true t d = 0) : ixO t.sub x.id < d.f.length ∧ chk false x (d.f.getD (ixO t.sub x.id) default) = 0 ∧ Chn x q := by
  obtain ⟨hk, ⟨i, hi, e, hf⟩, hq⟩ := hc
  obtain ⟨_, _, hl, h4⟩ := chk_grp hk h
  have hi' : i < d.f.length := by omega
  rw [ixO_at hi e hf]
  refine ⟨hi', ?_, hq⟩
  rw [getD_at hi', ← e]
  exact h4 i hi hi'
end Go.Proofs.YtnceknbodpimiaaDoor

namespace Go.Proofs.YtnceknbodpimiaaDoor
open Go.RowKit
/-- What there is of a node, each as if it were Required. -/
def ons (t : Tr) (d : Dt) : List Dt := if t.rep = 3 then d.l else if d.no = true then [] else [d]
/-- The values at the end of a way. -/
def vo : Tr → List Tr → Dt → List Vl
  | _, [], o => [o.v]
  | t, x :: q, o => (ons x (o.f.getD (ixO t.sub x.id) default)).flatMap (vo x q)
end Go.Proofs.YtnceknbodpimiaaDoor

namespace Go.Proofs.YtnceknbodpimiaaDoor
open Go.RowKit
theorem blk_drew {w : World} {g : Nat} {o : Obj} (h : w.heap[g]? = some o) : w.drew.heap[g]? = some o := h
end Go.Proofs.YtnceknbodpimiaaDoor

namespace Go.Proofs.YtnceknbodpimiaaDoor
open Go.RowKit
abbrev zV : Vl := ⟨0, 0, ⟨#[]⟩⟩
mutual
/-- A datum of a node, cut to the same node with fewer in it. -/
def cutT : Tr → Tr → Dt → Dt
  | .node _ _ _ _ sub, t, d => if t.rep = 3 then .mk false zV (d.l.map fun o => .mk false o.v [] (cutF sub t o)) [] else if d.no = true then .mk true zV [] [] else .mk false d.v [] (cutF sub t d)
def cutF : List Tr → Tr → Dt → List Dt
  | [], _, _ => []
  | x :: xs, t, d => cutT x (t.sub.getD (ixO t.sub x.id) default) (d.f.getD (ixO t.sub x.id) default) :: cutF xs t d
end
/-- One datum, as if the node were Required. -/
def cut1 (p t : Tr) (o : Dt) : Dt := .mk false o.v [] (cutF p.sub t o)
theorem cutT_eq (p t : Tr) (d : Dt) : cutT p t d = if t.rep = 3 then .mk false zV (d.l.map (cut1 p t)) [] else if d.no = true then .mk true zV [] [] else cut1 p t d := by
  cases p with
  | node id nm rep kind sub => rw [cutT]; rfl
theorem cutF_len : ∀ (xs : List Tr) (t : Tr) (d : Dt), (cutF xs t d).length = xs.length
  | [], t, d => by rw [cutF]; rfl
  | x :: xs, t, d => by rw [cutF, List.length_cons, List.length_cons, cutF_len xs t d]
theorem cutF_at : ∀ (xs : List Tr) (t : Tr) (d : Dt) (i : Nat) (h : i < xs.length) (h' : i < (cutF xs t d).length), (cutF xs t d)[i] = cutT xs[i] (t.sub.getD (ixO t.sub xs[i].id) default) (d.f.getD (ixO t.sub xs[i].id) default)
  | [], t, d, i, h, _ => by simp at h
  | x :: xs, t, d, 0, h, _ => by simp [cutF]
  | x :: xs, t, d, i + 1, h, h' => by
    simp only [cutF, List.getElem_cons_succ]
    exact cutF_at xs t d i (by simpa using h) (by rw [cutF_len]; simpa using h)
/-- The same as a list of the fields so far. -/
theorem cutF_take (xs : List Tr) (t : Tr) (d : Dt) (i : Nat) (h : i < xs.length) : cutF (xs.take (i + 1)) t d = cutF (xs.take i) t d ++ [cutT xs[i] (t.sub.getD (ixO t.sub xs[i].id) default) (d.f.getD (ixO t.sub xs[i].id) default)] := by
  induction xs generalizing i with
  | nil => simp at h
  | cons x xs ih =>
    cases i with
    | zero => simp [cutF]
    | succ i =>
      rw [List.take_succ_cons, cutF, ih i (by simpa using h), List.take_succ_cons, cutF]
      simp
theorem ons_cut (p t : Tr) (d : Dt) (hr : p.rep = t.rep) : ons p (cutT p t d) = (ons t d).map (cut1 p t) := by
  rw [cutT_eq]
  unfold ons
  rw [hr]
  by_cases h3 : t.rep = 3
  · rw [if_pos h3, if_pos h3, if_pos h3]; rfl
  · rw [if_neg h3, if_neg h3, if_neg h3]
    cases hn : d.no with
    | true => rfl
    | false => rfl
/-- Where a node that is kept stands among those of the whole. -/
theorem rk_ix {L : List Int} {t : Tr} (hu : IdU t) {x' : Tr} (hx : x' ∈ (rkT L t).sub) : ∃ i, ∃ h : i < t.sub.length, x' = rkT L t.sub[i] ∧ ixO t.sub x'.id = i := by
  rw [(rkT_id L t).2.2.2.2, rkL_filter] at hx
  obtain ⟨x, hx2, rfl⟩ := List.mem_map.1 hx
  obtain ⟨i, hi, e⟩ := List.getElem_of_mem (List.mem_filter.1 hx2).1
  refine ⟨i, hi, by rw [e], ?_⟩
  rw [(rkT_id L x).1]
  exact ixO_at hi e (fun j hj => by rw [← e]; exact hu.first i j hi hj)
theorem getD_at' {α : Type} [Inhabited α] {l : List α} {i : Nat} (h : i < l.length) : l.getD i default = l[i] := by simp [List.getD, h]
theorem chkF_of : ∀ (ts : List Tr) (ds : List Dt), ds.length = ts.length → (∀ j (h : j < ts.length) (h' : j < ds.length), chk false ts[j] ds[j] = 0) → chkF ts ds = 0
  | _, [], _, _ => by rw [chkF]
  | [], x :: ds, h, _ => by simp at h
  | t :: ts, d :: ds, h, he => by
    have h0 : chk false t d = 0 := he 0 (by simp) (by simp)
    rw [chkF, if_pos h0]
    exact chkF_of ts ds (by simpa using h) (fun j h1 h2 => he (j + 1) (by simpa using h1) (by simpa using h2))
theorem chkL_of : ∀ (t : Tr) (ds : List Dt), (∀ d ∈ ds, chk true t d = 0) → chkL t ds = 0
  | t, [], _ => by rw [chkL]
  | t, d :: ds, h => by
    rw [chkL, if_pos (h d (by simp))]
    exact chkL_of t ds (fun x hx => h x (by simp [hx]))
theorem hasV_z : hasV zV = false := by
  have h : zV.s.toList = [] := by kernel_rfl
  simp [hasV, h]
/-- What is cut is right for what is kept. -/
theorem chk_cut (L : List Int) : ∀ (n : Nat) (t : Tr), SizeOf.sizeOf t < n → IdU t → LfOk t → (∀ d, chk true t d = 0 → chk true (rkT L t) (cut1 (rkT L t) t d) = 0) ∧ (∀ d, chk false t d = 0 → chk false (rkT L t) (cutT (rkT L t) t d) = 0)
  | 0, t, h => absurd h (Nat.not_lt_zero _)
  | n + 1, t, hn => fun hu hlf => by
    obtain ⟨e1, _, e3, e4, e5⟩ := rkT_id L t
    have one : ∀ d, chk true t d = 0 → chk true (rkT L t) (cut1 (rkT L t) t d) = 0 := fun d h => by
      by_cases hk : t.kind = 0
      · obtain ⟨g1, g2, g3, g4⟩ := chk_grp hk h
        have hv : hasV d.v = false := by
          rw [chk_group t d hk, grpEr] at h
          split at h
          · omega
          · rename_i h1
            simp only [Bool.or_eq_true, not_or, Bool.not_eq_true] at h1
            exact h1.1.1.2
        have hlen : (cutF (rkT L t).sub t d).length = (rkT L t).sub.length := cutF_len _ _ _
        rw [chk_group _ _ (by rw [e4]; exact hk), grpEr, if_neg]
        · refine chkF_of _ _ hlen (fun j h1 h2 => ?_)
          obtain ⟨i, hi, ex, ei⟩ := rk_ix hu (List.getElem_mem h1)
          have hc := cutF_at (rkT L t).sub t d j h1 (by rw [hlen]; exact h1)
          rw [ei, getD_at' hi, getD_at' (by rw [g3]; exact hi)] at hc
          rw [show (cut1 (rkT L t) t d).f[j] = _ from hc, ex]
          have hm : t.sub[i] ∈ t.sub := List.getElem_mem hi
          refine (chk_cut L n t.sub[i] ?_ (hu.sub hm) (hlf.sub hm)).2 _ (g4 i hi (by rw [g3]; exact hi))
          have := List.sizeOf_lt_of_mem hm
          cases t with
          | node id nm rep kind sub =>
            simp only [Tr.node.sizeOf_spec] at hn
            simp only [Tr.sub] at this ⊢
            omega
        · show ¬ (false || hasV d.v || decide (0 < ([] : List Dt).length) || !decide ((cutF (rkT L t).sub t d).length = (rkT L t).sub.length)) = true
          rw [hv, hlen]
          simp
      · have hs : t.sub = [] := hlf t (nd_self t) hk
        have hs' : (rkT L t).sub = [] := by rw [e5, hs, rkL]
        rw [chk_leaf t d hk, leafEr] at h
        split at h
        · omega
        · rename_i h1
          simp only [Bool.or_eq_true, not_or, Bool.not_eq_true] at h1
          split at h
          · omega
          · rename_i h2
            rw [chk_leaf _ _ (by rw [e4]; exact hk), leafEr, e4, if_neg, if_neg]
            · exact h2
            · show ¬ (false || decide (0 < ([] : List Dt).length) || decide (0 < (cutF (rkT L t).sub t d).length)) = true
              rw [hs', cutF]
              simp
    refine ⟨one, fun d h => ?_⟩
    rw [cutT_eq]
    by_cases h3 : t.rep = 3
    · obtain ⟨g1, g2⟩ := chk_lst h3 h
      rw [if_pos h3, chk_list _ _ (by rw [e3]; exact h3), lstEr, if_neg, if_neg]
      · exact chkL_of _ _ (fun o ho => by
          obtain ⟨o', ho', rfl⟩ := List.mem_map.1 ho
          exact one o' (g2 o' ho'))
      · show ¬ (false || hasV zV || decide (0 < ([] : List Dt).length)) = true
        rw [hasV_z]; simp
      · show ¬ 40 < (d.l.map (cut1 (rkT L t) t)).length
        rw [List.length_map]; omega
    · rw [if_neg h3]
      cases hno : d.no with
      | true =>
        rw [if_pos rfl]
        have h2 := chk_no h3 hno h
        rw [chk_eq, if_neg (by rw [e3]; simp [h3]), if_pos ⟨rfl, by rw [e3]; exact h2, rfl⟩, if_neg]
        show ¬ (hasV zV || decide (0 < ([] : List Dt).length) || decide (0 < ([] : List Dt).length)) = true
        rw [hasV_z]; simp
      | false =>
        rw [if_neg (by simp)]
        rw [chk_one _ _ (by rw [e3]; exact h3) (fun e => by simp [cut1, Dt.no] at e)]
        refine one d ?_
        rw [chk_one t d h3 (fun e => by rw [hno] at e; simp at e)] at h
        exact h
/-- The values at the end of a way are those of the whole. -/
theorem vo_cut (L : List Int) : ∀ (q q' : List Tr) (t : Tr) (o : Dt), IdU t → Chn t q → Chn (rkT L t) q' → q'.map Tr.id = q.map Tr.id → vo (rkT L t) q' (cut1 (rkT L t) t o) = vo t q o
  | [], [], t, o, _, _, _, _ => by rw [vo, vo]; rfl
  | [], x' :: q', t, o, _, _, _, h => by simp at h
  | x :: q, [], t, o, _, _, _, h => by simp at h
  | x :: q, x' :: q', t, o, hu, hc, hc', h => by
    rw [List.map_cons, List.map_cons, List.cons.injEq] at h
    obtain ⟨_, ⟨i, hi, ex, hf⟩, hq⟩ := hc
    obtain ⟨_, ⟨k, hk, ex', hf'⟩, hq'⟩ := hc'
    have i1 := ixO_at hi ex hf
    have i2 := ixO_at hk ex' hf'
    obtain ⟨i', hi', e1, e2⟩ := rk_ix hu (show x' ∈ (rkT L t).sub by rw [← ex']; exact List.getElem_mem hk)
    rw [h.1, i1] at e2
    subst e2
    rw [ex] at e1
    rw [vo, vo, i1, i2]
    have hl : k < (cut1 (rkT L t) t o).f.length := by
      show k < (cutF (rkT L t).sub t o).length
      rw [cutF_len]; exact hk
    have e3 : (cut1 (rkT L t) t o).f.getD k default = cutT x' x (o.f.getD i default) := by
      rw [getD_at' hl]
      show (cutF (rkT L t).sub t o)[k] = _
      rw [cutF_at _ _ _ k hk hl, ex', h.1, i1, getD_at' hi, ex]
    subst e1
    have hm : x ∈ t.sub := by rw [← ex]; exact List.getElem_mem hi
    rw [e3, ons_cut _ _ _ (rkT_id L x).2.2.1, List.flatMap_map]
    congr 1
    funext o'
    exact vo_cut L q q' x o' (hu.sub hm) hq hq' h.2
theorem wtL_mem : ∀ {ds : List Dt} {d : Dt}, d ∈ ds → wt d ≤ wtL ds
  | [], d, h => by simp at h
  | x :: ds, d, h => by
    rw [wtL]
    rcases List.mem_cons.1 h with rfl | h
    · omega
    · have := wtL_mem h; omega
theorem flat_le (f : Dt → List Vl) (h : ∀ o, (f o).length ≤ wt o) : ∀ ds : List Dt, (ds.flatMap f).length ≤ wtL ds
  | [] => by simp
  | d :: ds => by
    rw [List.flatMap_cons, List.length_append, wtL]
    have := h d
    have := flat_le f h ds
    omega
/-- There are no more values than the record is heavy. -/
theorem vo_le : ∀ (q : List Tr) (t : Tr) (o : Dt), (vo t q o).length ≤ wt o
  | [], t, o => by rw [vo, wt_eq]; simp; omega
  | x :: q, t, o => by
    rw [vo]
    have h1 : (o.f.getD (ixO t.sub x.id) default) = default ∨ (o.f.getD (ixO t.sub x.id) default) ∈ o.f := by
      by_cases h : ixO t.sub x.id < o.f.length
      · exact .inr (by rw [getD_at' h]; exact List.getElem_mem h)
      · exact .inl (by simp [List.getD, List.getElem?_eq_none (Nat.le_of_not_lt h)])
    have h2 : ∀ d : Dt, ((ons x d).flatMap (vo x q)).length ≤ wt d := fun d => by
      have h := flat_le (vo x q) (fun o => vo_le q x o) (ons x d)
      refine Nat.le_trans h ?_
      unfold ons
      split
      · rw [wt_eq d]; omega
      · split
        · rw [wtL]; omega
        · rw [wtL, wtL]; omega
    have h3 := h2 (o.f.getD (ixO t.sub x.id) default)
    have h4 : wt (o.f.getD (ixO t.sub x.id) default) ≤ wt o := by
      rw [wt_eq o]
      rcases h1 with e | e
      · have h1 : wt (default : Dt) = 1 := by
          rw [show (default : Dt) = .mk false ⟨0, 0, ⟨#[]⟩⟩ [] [] from rfl, wt, wtL]
          rfl
        rw [e, h1]; omega
      · have := wtL_mem e; omega
    omega
theorem vo_ons_le (t : Tr) (q : List Tr) (d : Dt) : ((ons t d).flatMap (vo t q)).length ≤ wt d := by
  refine Nat.le_trans (flat_le (vo t q) (fun o => vo_le q t o) (ons t d)) ?_
  unfold ons
  split
  · rw [wt_eq d]; omega
  · split
    · rw [wtL]; omega
    · rw [wtL, wtL]; omega
end Go.Proofs.YtnceknbodpimiaaDoor

namespace Go.Proofs.YtnceknbodpimiaaDoor
open Go.RowKit
set_option maxRecDepth 100000 in
set_option maxHeartbeats 1600000 in
theorem plEq_any (id : Int) (s : ByteArray) (g : Nat) (y0 y2 y3 : Int) (a : Option Addr) (n c : Nat) (W : World) (hg : W.heap[g]? = some (.cells #[.int .i64 id] 3 (0, 0))) :
    Calls Tryd.prog 70 #[.agg #[.int .i64 y0, .string s, .int .i64 y2, .int .i64 y3, .slice a n c], .pointer (some ⟨g, 0, none⟩)] W fun e w' => e = .returned (.bool (y0 == id)) ∧ Below W.heap.size W w' := by
  have HB : Hid (Below W.heap.size W (W.alloc (.cells #[.int .i64 y0, .string s, .int .i64 y2, .int .i64 y3, .slice a n c] 24))) := (Below.refl _ _).alloc (Nat.le_refl _) _
  obtain ⟨p0, _⟩ := row_one (blk_alloc (o' := .cells #[.int .i64 y0, .string s, .int .i64 y2, .int .i64 y3, .slice a n c] 24) hg)
  clear hg
  go_enter Tryd.func70, Tryd.ntmps70
  go_wp2
  go_ret
  exact ⟨rfl, HB.out⟩
set_option maxRecDepth 100000 in
set_option maxHeartbeats 1600000 in
/-- slices.IndexFunc over nodes: the first with that number. -/
theorem plIx_any (id : Int) (g : Nat) (P : Nat → Prop) (a : Option Addr) (c : Nat) (ts : List Tr) (hn : ts.length ≤ 1048576) (W : World) (hg : W.heap[g]? = some (.cells #[.int .i64 id] 3 (0, 0))) (hl : LiesN W P a ts) :
    Calls Tryd.prog (64) #[.slice a ts.length c, .func (.func 70) #[] #[.pointer (some ⟨g, 0, none⟩)]] W fun e w' => (∃ r, e = .returned (.int .i64 r) ∧ Idx (fun t => t.id == id) ts r) ∧ Below W.heap.size W w' := by
  have HL : Hid (LiesN W P a ts) := hl
  have HG : Hid (W.heap[g]? = some (.cells #[.int .i64 id] 3 (0, 0))) := hg
  clear hl hg
  go_enter Tryd.func64, Tryd.ntmps64
  go_wp2
  go_loopw [8] (fun x wr => ∃ i : Nat, i ≤ ts.length ∧ x = .int .i64 i ∧ Hid (∀ j (h : j < ts.length), j < i → (ts[j].id == id) = false) ∧ Below W.heap.size W wr) (fun x _ => ts.length - (intOf x).toNat)
  case atStart => exact ⟨0, Nat.zero_le _, rfl, fun j _ h => absurd h (Nat.not_lt_zero _), Below.refl _ _⟩
  case round =>
    obtain ⟨i, hi, rfl, HA, hb⟩ := hrel
    have HB : Hid _ := hb
    by_cases hlt : i < ts.length
    · obtain ⟨b, o, a1, c1, rfl, d0, d1, d2, d3, d4, hl1⟩ := (HL.out.keep hb).at_ i hlt
      clear hl1
      have HGr : Hid (wr.heap[g]? = some (.cells #[.int .i64 id] 3 (0, 0))) := blk_keep hb HG.out
      clear hb
      go_wp2_with fail
      refine (plEq_any id ts[i].nm g _ _ _ a1 _ c1 wr HGr.out).mono ?_
      rintro e w1 ⟨rfl, hb1⟩
      have HB1 : Hid (Below W.heap.size W w1) := HB.out.trans (hb1.mono HB.out.size)
      clear hb1
      cases hq : (ts[i].id == id) with
      | true =>
        have HQ : Hid _ := hq
        clear hq
        go_wp2
        go_ret
        exact ⟨⟨(i : Int), rfl, .inr ⟨i, hlt, rfl, HQ.out, fun j h => HA.out j (by omega) h⟩⟩, HB1.out⟩
      | false =>
        have HN : Hid (∀ j (h : j < ts.length), j < i + 1 → (ts[j].id == id) = false) := fun j h hj => by
          by_cases e : j = i
          · subst e; exact hq
          · exact HA.out j h (by omega)
        clear hq
        go_wp2
        go_roundw
        case rel => exact ⟨i + 1, by omega, by go_num, HN, HB1⟩
        case measure => simp [intOf]; omega
    · obtain rfl : i = ts.length := by omega
      go_wp2
      go_ret
      exact ⟨⟨-1, rfl, .inl ⟨rfl, fun j h => HA.out j h h⟩⟩, hb⟩
set_option maxRecDepth 100000 in
set_option maxHeartbeats 1600000 in
/-- placeOf a node that is there. -/
theorem placeOf_at (t : Tr) (hsm : t.sub.length ≤ 1048576) (id : Int) (i : Nat) (hi : i < t.sub.length) (hid : t.sub[i].id = id) (hf : ∀ j (h : j < i), (t.sub[j]'(Nat.lt_trans h hi)).id ≠ id) (P : Nat → Prop) (a : Option Addr) (c : Nat) (W : World) (hl : LiesN W P a t.sub) :
    Calls Tryd.prog 52 #[nodeV t a c, .int .i64 id] W fun e w' => e = .returned (.int .i64 (i : Nat)) ∧ Below W.heap.size W w' := by
  obtain ⟨w0, HW0, HX, HY, HB⟩ := two_boxesS W #[.int .i64 t.id, .string t.nm, .int .i64 t.rep, .int .i64 t.kind, .slice a t.sub.length c] #[.int .i64 id] 24 3
  have HC : Hid _ := plIx_any id (W.heap.size + 1) P a c t.sub hsm w0 HY.out (hl.keep HB.out)
  obtain ⟨⟨p0, p1, p2, p3, p4⟩, _⟩ := row_five HX.out
  have HR : Hid (∀ r, Idx (fun t => t.id == id) t.sub r → r = (i : Int)) := fun r h => by
    rcases h with ⟨_, h⟩ | ⟨k, hk, rfl, h1, h2⟩
    · have := h i hi; simp [hid] at this
    · have e : k = i := by
        rcases Nat.lt_trichotomy k i with h | h | h
        · have := hf k h; simp at h1; exact absurd h1 this
        · exact h
        · have := h2 i h; simp [hid] at this
      rw [e]
  clear hl hid hf
  unfold nodeV
  go_enter Tryd.func52, Tryd.ntmps52
  go_wp2_with fail
  rw [HW0.out]
  refine Calls.mono HC.out ?_
  rintro e w1 ⟨⟨r, rfl, hr⟩, hb1⟩
  obtain rfl := HR.out r hr
  have HB1 : Hid (Below W.heap.size W w1) := HB.out.trans (hb1.mono HB.out.size)
  clear hb1 hr
  go_wp2
  go_ret
  exact ⟨rfl, HB1.out⟩
set_option maxRecDepth 100000 in
set_option maxHeartbeats 1600000 in
/-- ones, of a list. -/
theorem ones_lst (t : Tr) (d : Dt) (hr : t.rep = 3) (a : Option Addr) (c : Nat) (al : Option Addr) (cl : Nat) (af : Option Addr) (cf : Nat) (W : World) :
    Calls Tryd.prog 51 #[nodeV t a c, datumV d al cl af cf] W fun e w' => e = .returned (.slice al d.l.length cl) ∧ Below W.heap.size W w' := by
  obtain ⟨w0, HW0, HX, HY, HB⟩ := two_boxesS W #[.int .i64 t.id, .string t.nm, .int .i64 t.rep, .int .i64 t.kind, .slice a t.sub.length c] #[.bool d.no, .int .i64 d.v.k, .int .i64 d.v.n, .string d.v.s, .slice al d.l.length cl, .slice af d.f.length cf] 24 30
  have q : (t.rep == 3) = true := by simp [hr]
  clear hr
  obtain ⟨⟨p0, p1, p2, p3, p4⟩, _⟩ := row_five HX.out
  obtain ⟨z0, z1, z2, z3, z4, z5⟩ := row_six HY.out
  unfold nodeV datumV
  go_enter Tryd.func51, Tryd.ntmps51
  go_upto_region 1 with fail
  rw [HW0.out]
  go_wp2
  go_ret
  exact ⟨rfl, HB.out⟩
set_option maxRecDepth 100000 in
set_option maxHeartbeats 1600000 in
/-- .. of what is not there. -/
theorem ones_no (t : Tr) (d : Dt) (hr : t.rep ≠ 3) (hn : d.no = true) (a : Option Addr) (c : Nat) (al : Option Addr) (cl : Nat) (af : Option Addr) (cf : Nat) (W : World) :
    Calls Tryd.prog 51 #[nodeV t a c, datumV d al cl af cf] W fun e w' => e = .returned (.slice none 0 0) ∧ Below W.heap.size W w' := by
  unfold nodeV datumV
  rw [hn]
  obtain ⟨w0, HW0, HX, HY, HB⟩ := two_boxesS W #[.int .i64 t.id, .string t.nm, .int .i64 t.rep, .int .i64 t.kind, .slice a t.sub.length c] #[.bool true, .int .i64 d.v.k, .int .i64 d.v.n, .string d.v.s, .slice al d.l.length cl, .slice af d.f.length cf] 24 30
  have q : (t.rep == 3) = false := by simp [hr]
  clear hr hn
  obtain ⟨⟨p0, p1, p2, p3, p4⟩, _⟩ := row_five HX.out
  obtain ⟨z0, z1, z2, z3, z4, z5⟩ := row_six HY.out
  go_enter Tryd.func51, Tryd.ntmps51
  go_upto_region 1 with fail
  rw [HW0.out]
  go_wp2
  go_ret
  exact ⟨rfl, HB.out⟩
set_option maxRecDepth 100000 in
set_option maxHeartbeats 1600000 in
/-- .. of one. -/
theorem ones_one (t : Tr) (d : Dt) (hr : t.rep ≠ 3) (hn : d.no = false) (a : Option Addr) (c : Nat) (al : Option Addr) (cl : Nat) (af : Option Addr) (cf : Nat) (W : World) :
    Calls Tryd.prog 51 #[nodeV t a c, datumV d al cl af cf] W fun e w' => (∃ g, e = .returned (.slice (some ⟨g, 0, none⟩) 1 1) ∧ W.heap.size ≤ g ∧ w'.heap[g]? = some (.cells #[.bool d.no, .int .i64 d.v.k, .int .i64 d.v.n, .string d.v.s, .slice al d.l.length cl, .slice af d.f.length cf] 30 (0, 0))) ∧ Below W.heap.size W w' := by
  unfold nodeV datumV
  rw [hn]
  obtain ⟨w0, HW0, HX, HY, HB⟩ := two_boxesS W #[.int .i64 t.id, .string t.nm, .int .i64 t.rep, .int .i64 t.kind, .slice a t.sub.length c] #[.bool false, .int .i64 d.v.k, .int .i64 d.v.n, .string d.v.s, .slice al d.l.length cl, .slice af d.f.length cf] 24 30
  have q : (t.rep == 3) = false := by simp [hr]
  clear hr hn
  obtain ⟨⟨p0, p1, p2, p3, p4⟩, _⟩ := row_five HX.out
  obtain ⟨z0, z1, z2, z3, z4, z5⟩ := row_six HY.out
  go_enter Tryd.func51, Tryd.ntmps51
  go_upto_region 1 with fail
  rw [HW0.out]
  go_wp2
  go_ret
  exact ⟨⟨_, rfl, HB.out.size, heap_alloc_new _ _⟩, HB.out.alloc HB.out.size _⟩
end Go.Proofs.YtnceknbodpimiaaDoor
