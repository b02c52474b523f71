/-
  The reference's ProjectOf of a right schema: exact.
  A projection's own leaves, and the projection of a projection: the words, without the program.
  The nodes of a projection; what is asked for in it.
  A projection is right.
-/
import Derived.Test.YtnfjpngmadoflaaGreatDoorNKeepR
import Derived.Test.YtnfjpngmadoflaaGreatDoorNBFindOf
import Derived.Test.YtnfjpngmadoflaaGreatDoorNBSBase
import Derived.Deep.DeepCutAuto
namespace Go.Proofs.YtnfjpngmadoflaaGreatDoor
open Go.RowKit
theorem found_some {t : Tr} {id : Int} (hB : (fl t).map Pc.t = ndT t) (i : Nat) (hi : i < (fl t).length) (h1 : (fl t)[i].t.id = id) (h2 : ∀ j (h' : j < (fl t).length), j < i → (fl t)[j].t.id ≠ id) : (ndT t).find? (fun y => y.id == id) = some (fl t)[i].t := by
  rw [← hB, List.find?_map]
  have h : (fl t).find? ((fun y : Tr => y.id == id) ∘ Pc.t) = some (fl t)[i] := by
    rw [List.find?_eq_some_iff_getElem]
    exact ⟨by simp [h1], i, hi, rfl, fun j hj => by simp [h2 j (by omega) hj]⟩
  rw [h]
  rfl
theorem askL_snoc (q : List Int) (z : Int) (t x : Tr) (h : (ndT t).find? (fun y => y.id == z) = some x) : askL (q ++ [z]) t = askL q t ++ lfI (ndT x) := by
  unfold askL
  rw [List.flatMap_append]
  simp [h]
/-- What FindOf's answer is. -/
def FdC (P : Nat → Prop) (t : Tr) (z : Int) (w : World) (y0 y2 y3 : Int) (y1 : ByteArray) (ya : Option Addr) (yn : Nat) (is : Bool) : Prop :=
  (is = true ∧ ∃ x, (ndT t).find? (fun y => y.id == z) = some x ∧ y0 = x.id ∧ y1 = x.nm ∧ y2 = x.rep ∧ y3 = x.kind ∧ yn = x.sub.length ∧ LiesN w P ya x.sub) ∨ (is = false ∧ z ∉ (ndT t).map Tr.id)
theorem fdC_of {P : Nat → Prop} {t : Tr} {id : Int} {e : Ending} {w : World} (hB : (fl t).map Pc.t = ndT t) (h : FoundN P t id e w) : ∃ (y0 y2 y3 : Int) (y1 : ByteArray) (ya : Option Addr) (yn yc : Nat) (is : Bool), e = .returned (.tuple #[.agg #[.int .i64 y0, .string y1, .int .i64 y2, .int .i64 y3, .slice ya yn yc], .bool is]) ∧ Hid (FdC P t id w y0 y2 y3 y1 ya yn is) := by
  rcases h with ⟨i, hi, a', c', h1, h2, rfl, h3, h4⟩ | ⟨h1, rfl⟩
  · exact ⟨_, _, _, _, a', _, c', true, rfl, .inl ⟨rfl, (fl t)[i].t, found_some hB i hi h1 h2, rfl, rfl, rfl, rfl, rfl, h3⟩⟩
  · refine ⟨_, _, _, _, _, _, _, false, rfl, .inr ⟨rfl, fun h => ?_⟩⟩
    obtain ⟨x, hx, e⟩ := List.mem_map.1 h
    rw [← hB] at hx
    obtain ⟨p, hp, rfl⟩ := List.mem_map.1 hx
    exact h1 p hp e
theorem hidK {p : Prop} (h : p) : Hid p := h
/-- Five cells of a block are set. -/
abbrev set5k (w : World) (g : Nat) (x0 x1 x2 x3 x4 : Value) : World := ((((w.setCell ⟨g, 0, none⟩ x0).setCell ⟨g, 1, none⟩ x1).setCell ⟨g, 2, none⟩ x2).setCell ⟨g, 3, none⟩ x3).setCell ⟨g, 4, none⟩ x4
theorem set5k_row {w : World} {g : Nat} {T : TypeId} {z0 z1 z2 z3 z4 : Value} (h : w.heap[g]? = some (.cells #[z0, z1, z2, z3, z4] T (0, 0))) (x0 x1 x2 x3 x4 : Value) : (set5k w g x0 x1 x2 x3 x4).heap[g]? = some (.cells #[x0, x1, x2, x3, x4] T (0, 0)) := row_setC (row_setC (row_setC (row_setC (row_setC h))))
theorem set5k_off (w : World) (g k : Nat) (h : k ≠ g) (x0 x1 x2 x3 x4 : Value) : (set5k w g x0 x1 x2 x3 x4).heap[k]? = w.heap[k]? := by
  rw [Below.heap_setCell _ _ _ _ h, Below.heap_setCell _ _ _ _ h, Below.heap_setCell _ _ _ _ h, Below.heap_setCell _ _ _ _ h, Below.heap_setCell _ _ _ _ h]
theorem set5k_below {B g : Nat} {w w' : World} (hb : Below B w w') (hB : B ≤ g) (x0 x1 x2 x3 x4 : Value) : Below B w (set5k w' g x0 x1 x2 x3 x4) := ((((hb.setCell hB _).setCell hB _).setCell hB _).setCell hB _).setCell hB _
/-- What ProjectOf answers of a right schema. -/
def PoR (t : Tr) (ids : List Int) (N : Nat) (e : Ending) (w' : World) : Prop :=
  ((∃ i ∈ ids, i ∉ (ndT t).map Tr.id) ∧ e = .returned (.tuple #[.agg #[.int .i64 0, .string ⟨#[]⟩, .int .i64 0, .int .i64 0, .slice none 0 0], .int .i64 6])) ∨
  ((∀ i ∈ ids, i ∈ (ndT t).map Tr.id) ∧ askL ids t = [] ∧ e = .returned (.tuple #[.agg #[.int .i64 0, .string ⟨#[]⟩, .int .i64 0, .int .i64 0, .slice none 0 0], .int .i64 3])) ∨
  ((∀ i ∈ ids, i ∈ (ndT t).map Tr.id) ∧ askL ids t ≠ [] ∧ ∃ a' c', e = .returned (.tuple #[.agg #[.int .i64 t.id, .string t.nm, .int .i64 t.rep, .int .i64 t.kind, .slice a' (rkL (askL ids t) t.sub).length c'], .int .i64 0]) ∧ LiesN w' (fun b => N ≤ b) a' (rkL (askL ids t) t.sub) ∧ (rkL (askL ids t) t.sub).length ≤ c')
theorem askL_len (t : Tr) (hc : t.cnt ≤ 1000) (q : List Int) : (askL q t).length ≤ 1000 * q.length := by
  unfold askL
  induction q with
  | nil => simp
  | cons z q ih =>
    rw [List.flatMap_cons, List.length_append, List.length_cons]
    cases hf : (ndT t).find? (fun y => y.id == z) with
    | none => simp only [List.length_nil]; omega
    | some x =>
      have h1 := lfI_len (ndT x)
      rw [ndT_len] at h1
      have h2 := (nd_in (SizeOf.sizeOf t + 1) t (Nat.lt_succ_self _) x (List.mem_of_find?_eq_some hf)).1
      simp only
      omega
end Go.Proofs.YtnfjpngmadoflaaGreatDoor

namespace Go.Proofs.YtnfjpngmadoflaaGreatDoor
open Go.RowKit
/-- A leaf has no nodes in it. -/
def LfOk (t : Tr) : Prop := ∀ y ∈ ndT t, y.kind ≠ 0 → y.sub = []
theorem LfOk.sub {t c : Tr} (h : LfOk t) (hc : c ∈ t.sub) : LfOk c := fun y hy hk => h y (nd_sub hc hy) hk
theorem lfI_nd (t : Tr) : lfI (ndT t) = (if t.kind = 0 then [] else [t.id]) ++ lfI (ndL t.sub) := by
  rw [ndT_eq, show t :: ndL t.sub = [t] ++ ndL t.sub from rfl, lfI_app, lfI_one]
/-- The leaves of what is kept are those that are asked for. -/
theorem rk_lf (L : List Int) : ∀ (n : Nat) (ts : List Tr), SizeOf.sizeOf ts < n → (∀ c ∈ ts, LfOk c) → lfI (ndL (rkL L ts)) = (lfI (ndL ts)).filter (fun i => L.contains i)
  | 0, ts, h => absurd h (Nat.not_lt_zero _)
  | n + 1, [], hsz => fun hl => by simp [rkL, ndL, lfI]
  | n + 1, .node id nm rep kind sub :: ts, hsz => fun hl => by
    have ih := rk_lf L n ts (by simp at hsz; omega) (fun c h => hl c (by simp [h]))
    have ih2 := rk_lf L n sub (by simp at hsz; omega) (fun c h => (hl (.node id nm rep kind sub) (by simp)).sub h)
    rw [ndL, lfI_app, List.filter_append, ← ih, rkL]
    by_cases hk : kind = 0
    · subst hk
      have e : lfI (ndT (.node id nm rep 0 sub)) = lfI (ndL sub) := by rw [lfI_nd]; rfl
      rw [e, ← ih2]
      split
      · rw [ndL, lfI_app, rkT, lfI_nd]
        rfl
      · rename_i h
        have hn : lfI (ndL (rkL L sub)) = [] := by
          rw [ih2, List.filter_eq_nil_iff]
          intro i hi hc
          exact h (List.any_eq_true.2 ⟨i, hi, hc⟩)
        rw [hn, List.nil_append]
    · have hs : sub = [] := hl (.node id nm rep kind sub) (by simp) (.node id nm rep kind sub) (nd_self _) hk
      subst hs
      have e : lfI (ndT (.node id nm rep kind [])) = [id] := by
        rw [lfI_nd, if_neg (show ¬ (Tr.node id nm rep kind []).kind = 0 from hk)]
        rfl
      rw [e]
      by_cases hc : L.contains id = true
      · rw [if_pos (by simpa using hc), ndL, lfI_app, rkT, rkL, e]
        simp only [List.filter_cons, hc, List.filter_nil, if_true]
      · rw [if_neg (by simpa using hc)]
        simp only [List.filter_cons, List.filter_nil]
        rw [if_neg hc, List.nil_append]
theorem rk_any (L : List Int) (c : Tr) (hl : LfOk c) (h : (lfI (ndT c)).any (fun i => L.contains i) = true) : (lfI (ndT (rkT L c))).any (fun i => L.contains i) = true := by
  have h1 := rk_lf L (SizeOf.sizeOf [c] + 1) [c] (Nat.lt_succ_self _) (fun x hx => by rw [List.mem_singleton.1 hx]; exact hl)
  rw [rkL, if_pos h, rkL] at h1
  simp only [ndL, List.append_nil] at h1
  rw [h1]
  obtain ⟨i, hi, hc⟩ := List.any_eq_true.1 h
  exact List.any_eq_true.2 ⟨i, List.mem_filter.2 ⟨hi, hc⟩, hc⟩
/-- What is kept is kept again. -/
theorem rk_again (L : List Int) : ∀ (n : Nat) (ts : List Tr), SizeOf.sizeOf ts < n → (∀ c ∈ ts, LfOk c) → rkL L (rkL L ts) = rkL L ts
  | 0, ts, h => absurd h (Nat.not_lt_zero _)
  | n + 1, [], hsz => fun hl => by simp [rkL]
  | n + 1, .node id nm rep kind sub :: ts, hsz => fun hl => by
    have ih := rk_again L n ts (by simp at hsz; omega) (fun c h => hl c (by simp [h]))
    have ih2 := rk_again L n sub (by simp at hsz; omega) (fun c h => (hl (.node id nm rep kind sub) (by simp)).sub h)
    rw [rkL]
    split
    · rename_i h
      rw [rkL, if_pos (rk_any L _ (hl _ (by simp)) h), ih, rkT, rkT, ih2]
    · exact ih
end Go.Proofs.YtnfjpngmadoflaaGreatDoor

namespace Go.Proofs.YtnfjpngmadoflaaGreatDoor
open Go.RowKit
/-- Is a node kept? -/
def kept (L : List Int) (y : Tr) : Bool := (lfI (ndT y)).any (fun i => L.contains i)
theorem kept_in {L : List Int} {y c : Tr} (h : y ∈ ndT c) (hk : kept L y = true) : kept L c = true := by
  obtain ⟨i, hi, hc⟩ := List.any_eq_true.1 hk
  obtain ⟨l, hl, hlk, hli⟩ := lfI_mem.1 hi
  exact List.any_eq_true.2 ⟨i, lfI_mem.2 ⟨l, nd_trans _ c (Nat.lt_succ_self _) y h l hl, hlk, hli⟩, hc⟩
theorem rkL_cons (L : List Int) (c : Tr) (ts : List Tr) : rkL L (c :: ts) = if kept L c = true then rkT L c :: rkL L ts else rkL L ts := by
  rw [rkL]
  rfl
theorem rkL_filter (L : List Int) : ∀ (ts : List Tr), rkL L ts = (ts.filter (kept L)).map (rkT L)
  | [] => by simp [rkL]
  | c :: ts => by
    rw [rkL_cons, rkL_filter L ts]
    cases h : kept L c with
    | true => rw [if_pos rfl, List.filter_cons_of_pos h, List.map_cons]
    | false => rw [if_neg (by simp), List.filter_cons_of_neg (by rw [h]; simp)]
theorem rk_nd (L : List Int) : ∀ (n : Nat) (ts : List Tr), SizeOf.sizeOf ts < n → ndL (rkL L ts) = ((ndL ts).filter (kept L)).map (rkT L)
  | 0, ts, h => absurd h (Nat.not_lt_zero _)
  | n + 1, [], hsz => by simp [rkL, ndL]
  | n + 1, .node id nm rep kind sub :: ts, hsz => by
    have ih := rk_nd L n ts (by simp at hsz; omega)
    have ih2 := rk_nd L n sub (by simp at hsz; omega)
    have hT : ndT (.node id nm rep kind sub) = .node id nm rep kind sub :: ndL sub := ndT_eq _
    rw [ndL, List.filter_append, List.map_append, ← ih, rkL_cons]
    cases h : kept L (.node id nm rep kind sub) with
    | true =>
      rw [if_pos rfl, ndL, hT, List.filter_cons_of_pos h, List.map_cons, ← ih2]
      rw [ndT_eq, (rkT_id L (.node id nm rep kind sub)).2.2.2.2]
      rfl
    | false =>
      rw [if_neg (by simp)]
      have hn : (ndT (.node id nm rep kind sub)).filter (kept L) = [] := by
        rw [List.filter_eq_nil_iff]
        intro y hy hk
        rw [kept_in hy hk] at h
        cases h
      rw [hn]
      rfl
theorem rk_ndT (L : List Int) (t : Tr) : ndT (rkT L t) = rkT L t :: ((ndL t.sub).filter (kept L)).map (rkT L) := by
  rw [ndT_eq, (rkT_id L t).2.2.2.2, rk_nd L _ t.sub (Nat.lt_succ_self _)]
theorem rk_ids (L : List Int) (t : Tr) : (ndT (rkT L t)).map Tr.id = t.id :: ((ndL t.sub).filter (kept L)).map Tr.id := by
  rw [rk_ndT, List.map_cons, (rkT_id L t).1, List.map_map]
  congr 1
  exact List.map_congr_left fun y _ => (rkT_id L y).1
theorem rk_idU {L : List Int} {t : Tr} (h : IdU t) : IdU (rkT L t) := by
  unfold IdU at h ⊢
  rw [rk_ids]
  rw [ndT_eq, List.map_cons] at h
  exact List.Nodup.sublist (List.Sublist.cons_cons _ (List.Sublist.map _ List.filter_sublist)) h
/-- All leaves of what is asked for are kept, and no others. -/
theorem ask_again {t : Tr} (ids : List Int) (hu : IdU t) (hlf : HasLf t) (hl : LfOk t) (hall : ∀ i ∈ ids, i ∈ (ndT t).map Tr.id) : (∀ i ∈ ids, i ∈ (ndT (rkT (askL ids t) t)).map Tr.id) ∧ askL ids (rkT (askL ids t) t) = askL ids t := by
  have hu2 : IdU (rkT (askL ids t) t) := rk_idU hu
  have hone : ∀ i ∈ ids, ∃ z, (ndT t).find? (fun y => y.id == i) = some z ∧ (ndT (rkT (askL ids t) t)).find? (fun y => y.id == i) = some (rkT (askL ids t) z) ∧ lfI (ndT (rkT (askL ids t) z)) = lfI (ndT z) := fun i hi => by
    obtain ⟨z, hz, hzi⟩ := List.mem_map.1 (hall i hi)
    have hf : (ndT t).find? (fun y => y.id == i) = some z := by
      cases hf : (ndT t).find? (fun y => y.id == i) with
      | none =>
        rw [List.find?_eq_none] at hf
        have := hf z hz
        simp [hzi] at this
      | some x =>
        have hx := List.mem_of_find?_eq_some hf
        have hk2 : x.id = i := by have := List.find?_some hf; simpa using this
        rw [hu.eq hx hz (hk2.trans hzi.symm)]
    have hlv : ∀ j ∈ lfI (ndT z), (askL ids t).contains j = true := fun j hj => by
      obtain ⟨l, h1, h2, h3⟩ := lfI_mem.1 hj
      exact List.contains_iff_mem.2 ((askL_mem hu).2 ⟨z, hz, by rw [hzi]; exact hi, l, h1, h2, h3⟩)
    have hk : kept (askL ids t) z = true := by
      obtain ⟨l, h1, h2⟩ := hlf z hz
      have hj : l.id ∈ lfI (ndT z) := lfI_mem.2 ⟨l, h1, h2, rfl⟩
      exact List.any_eq_true.2 ⟨l.id, hj, hlv _ hj⟩
    have hzl : LfOk z := fun y hy hk => hl y (nd_trans _ t (Nat.lt_succ_self _) z hz y hy) hk
    have hmem : rkT (askL ids t) z ∈ ndT (rkT (askL ids t) t) := by
      rw [rk_ndT]
      rw [ndT_eq] at hz
      rcases List.mem_cons.1 hz with rfl | hz
      · simp
      · exact List.mem_cons_of_mem _ (List.mem_map_of_mem (List.mem_filter.2 ⟨hz, hk⟩))
    refine ⟨z, hf, ?_, ?_⟩
    · cases hf2 : (ndT (rkT (askL ids t) t)).find? (fun y => y.id == i) with
      | none =>
        rw [List.find?_eq_none] at hf2
        have := hf2 _ hmem
        simp [(rkT_id (askL ids t) z).1, hzi] at this
      | some x =>
        have hx := List.mem_of_find?_eq_some hf2
        have hk2 : x.id = i := by have := List.find?_some hf2; simpa using this
        rw [hu2.eq hx hmem (by rw [hk2, (rkT_id (askL ids t) z).1, hzi])]
    · have h1 := rk_lf (askL ids t) (SizeOf.sizeOf [z] + 1) [z] (Nat.lt_succ_self _) (fun x hx => by rw [List.mem_singleton.1 hx]; exact hzl)
      rw [rkL_cons, if_pos hk, rkL] at h1
      simp only [ndL, List.append_nil] at h1
      rw [h1, List.filter_eq_self]
      exact hlv
  constructor
  · intro i hi
    obtain ⟨z, _, h2, _⟩ := hone i hi
    exact List.mem_map.2 ⟨_, List.mem_of_find?_eq_some h2, by have := List.find?_some h2; simpa using this⟩
  · have h : ∀ (q : List Int), (∀ i ∈ q, i ∈ ids) → askL q (rkT (askL ids t) t) = askL q t := fun q => by
      induction q with
      | nil => intro _; rfl
      | cons i q ih =>
        intro hq
        obtain ⟨z, h1, h2, h3⟩ := hone i (hq i (by simp))
        have ihq := ih fun j hj => hq j (by simp [hj])
        unfold askL at ihq ⊢
        rw [List.flatMap_cons, List.flatMap_cons]
        unfold askL at h2 h3
        rw [h1, h2, ihq]
        simp only
        rw [h3]
    exact h ids fun i hi => hi
end Go.Proofs.YtnfjpngmadoflaaGreatDoor

namespace Go.Proofs.YtnfjpngmadoflaaGreatDoor
open Go.RowKit
theorem rk_dp (L : List Int) : ∀ (k : Nat) (t : Tr), t.Dp k → (rkT L t).Dp k
  | 0, t, h => absurd h.pos (Nat.lt_irrefl _)
  | k + 1, .node id nm rep kind sub, h => by
    rw [rkT]
    refine .mk k id nm rep kind _ fun j hj => ?_
    have hm : (rkL L sub)[j] ∈ (sub.filter (kept L)).map (rkT L) := by rw [← rkL_filter]; exact List.getElem_mem hj
    obtain ⟨y, hy, e⟩ := List.mem_map.1 hm
    obtain ⟨i, hi, rfl⟩ := List.getElem_of_mem (List.mem_filter.1 hy).1
    rw [← e]
    exact rk_dp L k _ (h.at_ i hi)
theorem rk_cnt (L : List Int) (t : Tr) : (rkT L t).cnt ≤ t.cnt := by
  rw [← ndT_len, rk_ndT, ← ndT_len t, ndT_eq t]
  simp only [List.length_cons, List.length_map]
  have := List.length_filter_le (kept L) (ndL t.sub)
  omega
theorem rk_nms {L : List Int} {ts : List Tr} (h : nmsL [] ts = true) : nmsL [] (rkL L ts) = true := by
  rw [nmsL_chk, chk_iff] at h ⊢
  obtain ⟨h1, h2, _⟩ := h
  rw [rkL_filter]
  refine ⟨fun p hp => ?_, ?_, fun a ha => by simp at ha⟩
  · obtain ⟨y, hy, rfl⟩ := List.mem_map.1 hp
    rw [(rkT_id L y).2.1]
    exact h1 y (List.mem_filter.1 hy).1
  · rw [List.pairwise_map]
    refine (h2.sublist List.filter_sublist).imp ?_
    intro a b hab
    unfold nmEq at hab ⊢
    rw [(rkT_id L a).2.1, (rkT_id L b).2.1]
    exact hab
theorem rk_ne {L : List Int} {y : Tr} (hk : y.kind = 0) (h : kept L y = true) : 0 < (rkL L y.sub).length := by
  obtain ⟨i, hi, hc⟩ := List.any_eq_true.1 h
  obtain ⟨l, hl, hlk, hli⟩ := lfI_mem.1 hi
  rw [ndT_eq] at hl
  rcases List.mem_cons.1 hl with rfl | hl
  · exact absurd hk hlk
  · obtain ⟨c, hcs, hlc⟩ := (ndL_mem _ _).1 hl
    rw [rkL_filter, List.length_map]
    exact List.length_pos_of_mem (List.mem_filter.2 ⟨hcs, List.any_eq_true.2 ⟨i, lfI_mem.2 ⟨l, hlc, hlk, hli⟩, hc⟩⟩)
theorem rk_shp {L : List Int} {y : Tr} (h : shpOk y = true) (hk : y.kind = 0 → kept L y = true) : shpOk (rkT L y) = true := by
  obtain ⟨k1, k2, k3, k4, k5⟩ := rkT_id L y
  unfold shpOk at h ⊢
  rw [k3, k4, k5]
  rw [Bool.and_eq_true] at h ⊢
  refine ⟨h.1, ?_⟩
  have h2 := h.2
  by_cases hk0 : y.kind = 0
  · have := rk_ne hk0 (hk hk0)
    simp [hk0, this]
  · have hs : ¬ 0 < y.sub.length := by
      intro hp
      simp [hk0, hp] at h2
    have hs2 : y.sub = [] := List.eq_nil_of_length_eq_zero (by omega)
    simp [hk0, hs2, rkL]
theorem right_lfOk {t : Tr} (hs : shpT t = true) : LfOk t := fun y hy hk => by
  rw [shp_all, Bool.and_eq_true] at hs
  have h : shpOk y = true := by
    rw [ndT_eq] at hy
    rcases List.mem_cons.1 hy with rfl | hy
    · exact hs.1
    · exact List.all_eq_true.1 hs.2 y hy
  unfold shpOk at h
  rw [Bool.and_eq_true] at h
  have h2 := h.2
  have hs : ¬ 0 < y.sub.length := by
    intro hp
    simp [hk, hp] at h2
  exact List.eq_nil_of_length_eq_zero (by omega)
theorem rk_right {L : List Int} {t : Tr} (hv : vldN t = 0) (hL : kept L t = true) : vldN (rkT L t) = 0 := by
  obtain ⟨r1, r2, r3, r4, r5⟩ := right_parts hv
  have hdB := dpB t 0 [] r1
  obtain ⟨k1, k2, k3, k4, k5⟩ := rkT_id L t
  have hkd : t.kind = 0 := (of_decide_eq_true r2).2.2.2
  have hd : (rkT L t).Dp 6 := rk_dp L 6 t hdB.2.2
  have hc := rk_cnt L t
  have h1 : inB (rkT L t) = true := by
    rw [inB_fl]
    have hp := flT_pre (rkT L t) [] 1 (-1) 6 (by simp; omega) hd (by omega)
    have hfl : fl (rkT L t) = preT 0 (rkT L t) 1 (-1) := by unfold fl; rw [hp]; rfl
    rw [hfl]
    exact ⟨by rw [preT_len]; omega, fun p h => by have := preT_deep (rkT L t) 0 1 (-1) 6 hd p h; omega⟩
  have h2 : isRootB (rkT L t) = true := by
    unfold isRootB at r2 ⊢
    rw [k1, k2, k3, k4]
    exact r2
  rw [shp_all, Bool.and_eq_true] at r3
  have hin : ∀ y ∈ ndL (rkT L t).sub, ∃ x ∈ ndL t.sub, kept L x = true ∧ y = rkT L x := fun y hy => by
    rw [k5, rk_nd L _ t.sub (Nat.lt_succ_self _)] at hy
    obtain ⟨x, hx, e⟩ := List.mem_map.1 hy
    obtain ⟨hx1, hx2⟩ := List.mem_filter.1 hx
    exact ⟨x, hx1, hx2, e.symm⟩
  have h3 : shpT (rkT L t) = true := by
    rw [shp_all, Bool.and_eq_true, List.all_eq_true]
    refine ⟨rk_shp r3.1 fun _ => hL, fun y hy => ?_⟩
    obtain ⟨x, hx, hk, rfl⟩ := hin y hy
    exact rk_shp (List.all_eq_true.1 r3.2 x hx) fun _ => hk
  rw [nms_all, Bool.and_eq_true] at r4
  have h4 : nmsT (rkT L t) = true := by
    rw [nms_all, Bool.and_eq_true, List.all_eq_true]
    refine ⟨by rw [k5]; exact rk_nms r4.1, fun y hy => ?_⟩
    obtain ⟨x, hx, hk, rfl⟩ := hin y hy
    rw [(rkT_id L x).2.2.2.2]
    exact rk_nms (List.all_eq_true.1 r4.2 x hx)
  have hu : IdU (rkT L t) := rk_idU (right_idU r2 r5)
  have h5 : idsT (rkT L t) = true := by
    rw [ids_fl, chk_iff] at r5 ⊢
    obtain ⟨hok, _, _⟩ := r5
    refine ⟨fun p hp => ?_, ?_, fun a ha => by simp at ha⟩
    · have hm : p.t ∈ ndL (rkT L t).sub := by rw [← preL_map (rkT L t).sub 1 2 0]; exact List.mem_map_of_mem hp
      obtain ⟨x, hx, _, e⟩ := hin _ hm
      rw [← preL_map t.sub 1 2 0] at hx
      obtain ⟨p', hp', rfl⟩ := List.mem_map.1 hx
      have := hok p' hp'
      rw [idOkP, decide_eq_true_iff] at this ⊢
      rw [e, (rkT_id L p'.t).1]
      exact this
    · unfold IdU at hu
      rw [ndT_eq, List.map_cons, List.nodup_cons, ← preL_map (rkT L t).sub 1 2 0, List.map_map, List.nodup_iff_pairwise_ne, List.pairwise_map] at hu
      refine hu.2.imp ?_
      intro a b h
      rw [idBadP, decide_eq_false_iff_not]
      exact h
  simp [vldN, h1, h2, h3, h4, h5]
end Go.Proofs.YtnfjpngmadoflaaGreatDoor
