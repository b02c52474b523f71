/-
  Values as keys of a map: what a key reads as; what a map of places holds.
-/
import Derived.Test.YteeheodcejeloaaGreatDoorRBOpenVals
import Derived.Maps.Own
import Derived.Maps.OwnOps
import Derived.Maps.OwnSet
import Derived.Maps.Views
import Derived.DeepKeys4
namespace Go.Proofs.YteeheodcejeloaaGreatDoor
open Go.RowKit Go.Maps Go.WideMaps
theorem Tryz.rowV : (41 : TypeId) < Tryz.prog.types.size := of_decide_eq_true (by kernel_rfl)
theorem Tryz.wideV : (match Tryz.prog.underlying 41 with | some (.array _ _) | some (.struct _) => true | _ => false) = true := by rw [Tryz.underlying41]
set_option maxRecDepth 100000 in
theorem Tryz.lawV : Keyed Tryz.prog 41 := Keyed.of_law (deep_law_laid Tryz.laidV (m := 2) (by omega) Tryz.rowV (by kernel_rfl) Tryz.wideV)
set_option maxRecDepth 100000 in
theorem Tryz.zeroI (w : World) : (zeroValue 3).run Tryz.prog w = .ok (.int .i64 0) w := by kernel_rfl
theorem Tryz.keyTypeV : Tryz.prog.keyType 41 = true := by kernel_rfl
def klit (v : Vl) : Lit := .string (keyBytes [.int .i64 v.k, .int .i64 v.n, .string v.s.data.toList])
theorem Tryz.sizeV : ∃ m, Tryz.prog.types.size = m + 1 := ⟨Tryz.prog.types.size - 1, by have h : (41 : Nat) < Tryz.prog.types.size := Tryz.rowV; omega⟩
set_option maxRecDepth 100000 in
/-- What a value reads as, as a key. -/
theorem klit_key (v : Vl) (hv : v.In) : keyOf Tryz.prog 41 (.agg #[.int .i64 v.k, .int .i64 v.n, .string v.s]) = some (klit v) := by
  obtain ⟨m, hm⟩ := Tryz.sizeV
  have w1 : (Lit.int .i64 v.k).wf = true := WalkArith.wf_i64 hv.1
  have w2 : (Lit.int .i64 v.n).wf = true := WalkArith.wf_i64 hv.2.1
  have w3 := hv.2.2
  unfold keyOf
  rw [Tryz.underlying41, Tryz.keyTypeV]
  have hf : (Value.agg #[.int .i64 v.k, .int .i64 v.n, .string v.s]).formed Tryz.prog 41 = true := by simp [Value.formed, Tryz.underlying41, Tryz.cellsV]
  rw [hf]
  simp only [Bool.and_self, if_true]
  have hl : Tryz.prog.keyLits (Tryz.prog.types.size + 1) 41 (Value.agg #[.int .i64 v.k, .int .i64 v.n, .string v.s]).cells.toList = some [.int .i64 v.k, .int .i64 v.n, .string v.s.data.toList] := by
    rw [hm]
    unfold Program.keyLits
    rw [Tryz.underlying41]
    simp [Tryz.cellsV, Tryz.cellsI, Tryz.cellsI64, Tryz.cellsS, Value.cells, Program.keyLits, Tryz.underlying3, Tryz.underlying2, Tryz.underlying9, w1, w2, w3]
  rw [hl]
  rfl
theorem klit_inj {v u : Vl} (hv : v.In) (hu : u.In) (h : klit v = klit u) : v = u := by
  have h2 := klit_key u hu
  rw [← h] at h2
  have e := Tryz.lawV.inj (klit_key v hv) h2
  cases v; cases u
  simp at e
  simp [e]
theorem klit_isKey (v : Vl) (_hv : v.In) : WideAt.IsKeyLit (klit v) := by unfold klit; trivial
/-- The map tells of each of these values its place, and of no other one. -/
structure MInv (D : DataW Unit) (us : List Vl) : Prop where
  isM : IsMap D
  old : ∀ p (h : p < us.length), D.atKey (klit us[p]) (.lit (.int .i64 0)) = .lit (.int .i64 p) ∧ has D (klit us[p]) = true
  new : ∀ v, v.In → v ∉ us → has D (klit v) = false
  ins : ∀ u ∈ us, u.In
theorem MInv.start : MInv (.map []) [] := ⟨isMap_empty, fun p h => absurd h (by simp), fun v _ _ => rfl, fun u h => absurd h (by simp)⟩
theorem MInv.put {D : DataW Unit} {us : List Vl} (h : MInv D us) (v : Vl) (hv : v.In) (hn : v ∉ us) : MInv (D.put (klit v) (.lit (.int .i64 us.length))) (us ++ [v]) := by
  refine ⟨h.isM.put _ _, fun p hp => ?_, fun u hu hun => ?_, fun u hu => ?_⟩
  · by_cases e : p < us.length
    · have hne : klit us[p] ≠ klit v := fun he => hn (by rw [← klit_inj (h.ins _ (List.getElem_mem e)) hv he]; exact List.getElem_mem e)
      rw [List.getElem_append_left e, atKey_put_other hne, has_put_other hne]
      exact h.old p e
    · obtain rfl : p = us.length := by simp at hp; omega
      rw [List.getElem_concat_length rfl]
      exact ⟨atKey_put_same h.isM (klit_isKey v hv) _ _, has_put_same h.isM (klit_isKey v hv) _⟩
  · have hne : klit u ≠ klit v := fun he => hun (by rw [klit_inj hu hv he]; simp)
    rw [has_put_other hne]
    exact h.new u hu (fun hm => hun (by simp [hm]))
  · rcases List.mem_append.1 hu with h1 | h1
    · exact h.ins u h1
    · rw [List.mem_singleton.1 h1]; exact hv
/-- The unlike values, in the order in which they come first, and the place of each value among them. -/
inductive Uq : List Vl → List Vl → List Nat → Prop where
  | nil : Uq [] [] []
  | old {vs us : List Vl} {ps : List Nat} {v : Vl} {p : Nat} : Uq vs us ps → us[p]? = some v → Uq (vs ++ [v]) us (ps ++ [p])
  | new {vs us : List Vl} {ps : List Nat} {v : Vl} : Uq vs us ps → v ∉ us → Uq (vs ++ [v]) (us ++ [v]) (ps ++ [us.length])
theorem Uq.nodup {vs us : List Vl} {ps : List Nat} (h : Uq vs us ps) : us.Nodup := by
  induction h with
  | nil => simp
  | old _ _ ih => exact ih
  | new _ hn ih => exact List.nodup_append.2 ⟨ih, by simp, fun a ha b hb => by simp at hb; subst hb; exact fun e => hn (e ▸ ha)⟩
theorem Uq.len {vs us : List Vl} {ps : List Nat} (h : Uq vs us ps) : ps.length = vs.length ∧ us.length ≤ vs.length := by
  induction h with
  | nil => simp
  | old _ _ ih => simp; omega
  | new _ _ ih => simp; omega
theorem Uq.lt {vs us : List Vl} {ps : List Nat} (h : Uq vs us ps) : ∀ p ∈ ps, p < us.length := by
  induction h with
  | nil => simp
  | old _ hp ih =>
    intro p hm
    rcases List.mem_append.1 hm with h | h
    · exact ih p h
    · rw [List.mem_singleton.1 h]; exact (List.getElem?_eq_some_iff.1 hp).1
  | new _ _ ih =>
    intro p hm
    rw [List.length_append]
    rcases List.mem_append.1 hm with h | h
    · have := ih p h; omega
    · rw [List.mem_singleton.1 h]; simp
theorem Uq.sub {vs us : List Vl} {ps : List Nat} (h : Uq vs us ps) : ∀ u ∈ us, u ∈ vs := by
  induction h with
  | nil => simp
  | old _ _ ih => intro u hu; simp [ih u hu]
  | new _ _ ih =>
    intro u hu
    rcases List.mem_append.1 hu with h | h
    · simp [ih u h]
    · simp [List.mem_singleton.1 h]
theorem Uq.fn {vs us : List Vl} {ps : List Nat} (h : Uq vs us ps) : ∀ us' ps', Uq vs us' ps' → us = us' ∧ ps = ps' := by
  induction h with
  | nil =>
    intro us' ps' h'
    generalize hx : ([] : List Vl) = xs at h'
    cases h' with
    | nil => exact ⟨rfl, rfl⟩
    | old _ _ => simp at hx
    | new _ _ => simp at hx
  | @old vs us ps v p h0 hp ih =>
    intro us' ps' h'
    generalize hx : vs ++ [v] = xs at h'
    cases h' with
    | nil => simp at hx
    | @old vs' us' ps' v' p' h1 hp' =>
      obtain ⟨rfl, hv⟩ := List.append_inj' hx rfl
      obtain rfl : v = v' := by simpa using hv
      obtain ⟨rfl, rfl⟩ := ih _ _ h1
      have hn := h0.nodup
      have e : p = p' := by
        obtain ⟨h1, h2⟩ := List.getElem?_eq_some_iff.1 hp
        obtain ⟨h3, h4⟩ := List.getElem?_eq_some_iff.1 hp'
        exact (List.getElem_inj (h₀ := h1) (h₁ := h3) hn).1 (h2.trans h4.symm)
      rw [e]
      exact ⟨rfl, rfl⟩
    | @new vs' us' ps' v' h1 hn' =>
      obtain ⟨rfl, hv⟩ := List.append_inj' hx rfl
      obtain rfl : v = v' := by simpa using hv
      obtain ⟨rfl, rfl⟩ := ih _ _ h1
      exact absurd (List.mem_of_getElem? hp) hn'
  | @new vs us ps v h0 hn ih =>
    intro us' ps' h'
    generalize hx : vs ++ [v] = xs at h'
    cases h' with
    | nil => simp at hx
    | @old vs' us' ps' v' p' h1 hp' =>
      obtain ⟨rfl, hv⟩ := List.append_inj' hx rfl
      obtain rfl : v = v' := by simpa using hv
      obtain ⟨rfl, rfl⟩ := ih _ _ h1
      exact absurd (List.mem_of_getElem? hp') hn
    | @new vs' us' ps' v' h1 hn' =>
      obtain ⟨rfl, hv⟩ := List.append_inj' hx rfl
      obtain rfl : v = v' := by simpa using hv
      obtain ⟨rfl, rfl⟩ := ih _ _ h1
      exact ⟨rfl, rfl⟩
end Go.Proofs.YteeheodcejeloaaGreatDoor
