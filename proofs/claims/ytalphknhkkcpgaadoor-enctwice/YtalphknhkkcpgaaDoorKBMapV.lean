/-
  Values as keys of a map: what a key reads as; what a map of places holds.
  The reference's SameValues: whether two slices of values hold the same.
  slices.Equal of values: whether two slices of values hold the same.
-/
import Derived.Test.YtalphknhkkcpgaaDoorKSmall
import Derived.Maps.Own
import Derived.Maps.OwnOps
import Derived.Maps.OwnSet
import Derived.Maps.Views
import Derived.DeepKeys4
namespace Go.Proofs.YtalphknhkkcpgaaDoor
open Go.RowKit Go.Maps Go.WideMaps
theorem Tryd.rowV : (49 : TypeId) < Tryd.prog.types.size := of_decide_eq_true (by kernel_rfl)
theorem Tryd.wideV : (match Tryd.prog.underlying 49 with | some (.array _ _) | some (.struct _) => true | _ => false) = true := by rw [Tryd.underlying49]
set_option maxRecDepth 100000 in
theorem Tryd.lawV : Keyed Tryd.prog 49 := Keyed.of_law (deep_law_laid Tryd.laidV (m := 2) (by omega) Tryd.rowV (by kernel_rfl) Tryd.wideV)
set_option maxRecDepth 100000 in
theorem Tryd.zeroI (w : World) : (zeroValue 3).run Tryd.prog w = .ok (.int .i64 0) w := by kernel_rfl
theorem Tryd.keyTypeV : Tryd.prog.keyType 49 = true := by kernel_rfl
def klit (v : Vl) : Lit := .string (keyBytes [.int .i64 v.k, .int .i64 v.n, .string v.s.data.toList])
theorem Tryd.sizeV : ∃ m, Tryd.prog.types.size = m + 1 := ⟨Tryd.prog.types.size - 1, by have h : (49 : Nat) < Tryd.prog.types.size := Tryd.rowV; omega⟩
set_option maxRecDepth 100000 in
/-- What a value reads as, as a key. -/
theorem klit_key (v : Vl) (hv : v.In) : keyOf Tryd.prog 49 (.agg #[.int .i64 v.k, .int .i64 v.n, .string v.s]) = some (klit v) := by
  obtain ⟨m, hm⟩ := Tryd.sizeV
  have w1 : (Lit.int .i64 v.k).wf = true := WalkArith.wf_i64 hv.1
  have w2 : (Lit.int .i64 v.n).wf = true := WalkArith.wf_i64 hv.2.1
  have w3 := hv.2.2
  unfold keyOf
  rw [Tryd.underlying49, Tryd.keyTypeV]
  have hf : (Value.agg #[.int .i64 v.k, .int .i64 v.n, .string v.s]).formed Tryd.prog 49 = true := by simp [Value.formed, Tryd.underlying49, Tryd.cellsV]
  rw [hf]
  simp only [Bool.and_self, if_true]
  have hl : Tryd.prog.keyLits (Tryd.prog.types.size + 1) 49 (Value.agg #[.int .i64 v.k, .int .i64 v.n, .string v.s]).cells.toList = some [.int .i64 v.k, .int .i64 v.n, .string v.s.data.toList] := by
    rw [hm]
    unfold Program.keyLits
    rw [Tryd.underlying49]
    simp [Tryd.cellsV, Tryd.cellsI, Tryd.cellsI64, Tryd.cellsS, Value.cells, Program.keyLits, Tryd.underlying3, Tryd.underlying2, Tryd.underlying9, w1, w2, w3]
  rw [hl]
  rfl
theorem klit_inj {v u : Vl} (hv : v.In) (hu : u.In) (h : klit v = klit u) : v = u := by
  have h2 := klit_key u hu
  rw [← h] at h2
  have e := Tryd.lawV.inj (klit_key v hv) h2
  cases v; cases u
  simp at e
  simp [e]
theorem klit_isKey (v : Vl) (_hv : v.In) : WideAt.IsKeyLit (klit v) := by unfold klit; trivial
/-- The map tells of each of these values its place, and of no other one. -/
structure MInv (D : DataW Unit) (us : List Vl) : Prop where
  isM : IsMap D
  old : ∀ p (h : p < us.length), D.atKey (klit us[p]) (.lit (.int .i64 0)) = .lit (.int .i64 p) ∧ has D (klit us[p]) = true
  new : ∀ v, v.In → v ∉ us → has D (klit v) = false
  ins : ∀ u ∈ us, u.In
theorem MInv.start : MInv (.map []) [] := ⟨isMap_empty, fun p h => absurd h (by simp), fun v _ _ => rfl, fun u h => absurd h (by simp)⟩
theorem MInv.put {D : DataW Unit} {us : List Vl} (h : MInv D us) (v : Vl) (hv : v.In) (hn : v ∉ us) : MInv (D.put (klit v) (.lit (.int .i64 us.length))) (us ++ [v]) := by
  refine ⟨h.isM.put _ _, fun p hp => ?_, fun u hu hun => ?_, fun u hu => ?_⟩
  · by_cases e : p < us.length
    · have hne : klit us[p] ≠ klit v := fun he => hn (by rw [← klit_inj (h.ins _ (List.getElem_mem e)) hv he]; exact List.getElem_mem e)
      rw [List.getElem_append_left e, atKey_put_other hne, has_put_other hne]
      exact h.old p e
    · obtain rfl : p = us.length := by simp at hp; omega
      rw [List.getElem_concat_length rfl]
      exact ⟨atKey_put_same h.isM (klit_isKey v hv) _ _, has_put_same h.isM (klit_isKey v hv) _⟩
  · have hne : klit u ≠ klit v := fun he => hun (by rw [klit_inj hu hv he]; simp)
    rw [has_put_other hne]
    exact h.new u hu (fun hm => hun (by simp [hm]))
  · rcases List.mem_append.1 hu with h1 | h1
    · exact h.ins u h1
    · rw [List.mem_singleton.1 h1]; exact hv
/-- The unlike values, in the order in which they come first, and the place of each value among them. -/
inductive Uq : List Vl → List Vl → List Nat → Prop where
  | nil : Uq [] [] []
  | old {vs us : List Vl} {ps : List Nat} {v : Vl} {p : Nat} : Uq vs us ps → us[p]? = some v → Uq (vs ++ [v]) us (ps ++ [p])
  | new {vs us : List Vl} {ps : List Nat} {v : Vl} : Uq vs us ps → v ∉ us → Uq (vs ++ [v]) (us ++ [v]) (ps ++ [us.length])
theorem Uq.nodup {vs us : List Vl} {ps : List Nat} (h : Uq vs us ps) : us.Nodup := by
  induction h with
  | nil => simp
  | old _ _ ih => exact ih
  | new _ hn ih => exact List.nodup_append.2 ⟨ih, by simp, fun a ha b hb => by simp at hb; subst hb; exact fun e => hn (e ▸ ha)⟩
theorem Uq.len {vs us : List Vl} {ps : List Nat} (h : Uq vs us ps) : ps.length = vs.length ∧ us.length ≤ vs.length := by
  induction h with
  | nil => simp
  | old _ _ ih => simp; omega
  | new _ _ ih => simp; omega
theorem Uq.lt {vs us : List Vl} {ps : List Nat} (h : Uq vs us ps) : ∀ p ∈ ps, p < us.length := by
  induction h with
  | nil => simp
  | old _ hp ih =>
    intro p hm
    rcases List.mem_append.1 hm with h | h
    · exact ih p h
    · rw [List.mem_singleton.1 h]; exact (List.getElem?_eq_some_iff.1 hp).1
  | new _ _ ih =>
    intro p hm
    rw [List.length_append]
    rcases List.mem_append.1 hm with h | h
    · have := ih p h; omega
    · rw [List.mem_singleton.1 h]; simp
theorem Uq.sub {vs us : List Vl} {ps : List Nat} (h : Uq vs us ps) : ∀ u ∈ us, u ∈ vs := by
  induction h with
  | nil => simp
  | old _ _ ih => intro u hu; simp [ih u hu]
  | new _ _ ih =>
    intro u hu
    rcases List.mem_append.1 hu with h | h
    · simp [ih u h]
    · simp [List.mem_singleton.1 h]
theorem Uq.fn {vs us : List Vl} {ps : List Nat} (h : Uq vs us ps) : ∀ us' ps', Uq vs us' ps' → us = us' ∧ ps = ps' := by
  induction h with
  | nil =>
    intro us' ps' h'
    generalize hx : ([] : List Vl) = xs at h'
    cases h' with
    | nil => exact ⟨rfl, rfl⟩
    | old _ _ => simp at hx
    | new _ _ => simp at hx
  | @old vs us ps v p h0 hp ih =>
    intro us' ps' h'
    generalize hx : vs ++ [v] = xs at h'
    cases h' with
    | nil => simp at hx
    | @old vs' us' ps' v' p' h1 hp' =>
      obtain ⟨rfl, hv⟩ := List.append_inj' hx rfl
      obtain rfl : v = v' := by simpa using hv
      obtain ⟨rfl, rfl⟩ := ih _ _ h1
      have hn := h0.nodup
      have e : p = p' := by
        obtain ⟨h1, h2⟩ := List.getElem?_eq_some_iff.1 hp
        obtain ⟨h3, h4⟩ := List.getElem?_eq_some_iff.1 hp'
        exact (List.getElem_inj (h₀ := h1) (h₁ := h3) hn).1 (h2.trans h4.symm)
      rw [e]
      exact ⟨rfl, rfl⟩
    | @new vs' us' ps' v' h1 hn' =>
      obtain ⟨rfl, hv⟩ := List.append_inj' hx rfl
      obtain rfl : v = v' := by simpa using hv
      obtain ⟨rfl, rfl⟩ := ih _ _ h1
      exact absurd (List.mem_of_getElem? hp) hn'
  | @new vs us ps v h0 hn ih =>
    intro us' ps' h'
    generalize hx : vs ++ [v] = xs at h'
    cases h' with
    | nil => simp at hx
    | @old vs' us' ps' v' p' h1 hp' =>
      obtain ⟨rfl, hv⟩ := List.append_inj' hx rfl
      obtain rfl : v = v' := by simpa using hv
      obtain ⟨rfl, rfl⟩ := ih _ _ h1
      exact absurd (List.mem_of_getElem? hp') hn
    | @new vs' us' ps' v' h1 hn' =>
      obtain ⟨rfl, hv⟩ := List.append_inj' hx rfl
      obtain rfl : v = v' := by simpa using hv
      obtain ⟨rfl, rfl⟩ := ih _ _ h1
      exact ⟨rfl, rfl⟩
end Go.Proofs.YtalphknhkkcpgaaDoor

namespace Go.Proofs.YtalphknhkkcpgaaDoor
open Go.RowKit
/-- Whether they are the same. -/
def RetSame (e : Ending) (p : Prop) : Prop := ∃ b, e = .returned (.bool b) ∧ (b = true ↔ p)
set_option maxHeartbeats 1600000 in
set_option maxRecDepth 100000 in
/-- Two slices of one length. -/
theorem sameVs_loop (w : World) (a1 a2 : Option Addr) (c1 c2 : Nat) (xs ys : List Vl) (hl : xs.length = ys.length) (hm : xs.length ≤ maxLen) (h1 : LiesV w a1 xs) (h2 : LiesV w a2 ys) :
    Calls Tryd.prog 17 #[.slice a1 xs.length c1, .slice a2 ys.length c2] w fun e w' => RetSame e (xs = ys) ∧ Below w.heap.size w w' := by
  unfold maxLen at hm
  rw [← hl]
  have HL : Hid (xs.length = ys.length) := hl
  have HW : Hid (LiesV w a1 xs) := h1
  have HY : Hid (LiesV w a2 ys) := h2
  clear hl h1 h2
  go_enter Tryd.func17, Tryd.ntmps17
  go_wp2
  go_loopw [5] (fun x wr => ∃ k : Nat, k ≤ xs.length ∧ x = .int .i64 k ∧ Hid (∀ j (h1 : j < xs.length) (h2 : j < ys.length), j < k → xs[j] = ys[j]) ∧ Below w.heap.size w wr) (fun x _ => xs.length - (intOf x).toNat)
  case atStart => exact ⟨0, Nat.zero_le _, rfl, fun j _ _ h => absurd h (Nat.not_lt_zero _), Below.refl _ _⟩
  case round =>
    obtain ⟨k, hk, rfl, HP, hb⟩ := hrel
    by_cases hlt : k < xs.length
    · have hlt2 : k < ys.length := by rw [← HL.out]; exact hlt
      obtain ⟨b1, o1, rfl, d0, d1, d2⟩ := HW.out.keep hb k hlt
      obtain ⟨b2, o2, rfl, e0, e1, e2⟩ := HY.out.keep hb k hlt2
      have HV : Hid (xs[k] = xs[k] ∧ ys[k] = ys[k]) := ⟨rfl, rfl⟩
      by_cases hv : xs[k] = ys[k]
      · have HV : Hid (xs[k] = ys[k]) := hv
        rw [hv] at d0 d1 d2
        clear hv
        generalize hy : ys[k] = y at d0 d1 d2 e0 e1 e2
        obtain ⟨p, q, s⟩ := y
        clear hy
        simp only at d0 d1 d2 e0 e1 e2
        go_wp2
        go_region
        all_goals (try go_wp2)
        all_goals go_roundw
        all_goals first
          | (exact ⟨k + 1, by omega, by go_num, fun j h1 h2 hj => if e : j = k then (by subst e; exact HV.out) else HP.out j h1 h2 (by omega), hb.drew⟩)
          | (simp [intOf]; omega)
      · have HN : Hid (xs ≠ ys) := fun e => hv (by subst e; rfl)
        generalize xs[k] = x at d0 d1 d2 hv
        generalize ys[k] = y at e0 e1 e2 hv
        clear HV
        obtain ⟨p, q, s⟩ := x
        obtain ⟨p', q', s'⟩ := y
        simp only at d0 d1 d2 e0 e1 e2
        have hc : (p ≠ p') ∨ (p = p' ∧ q ≠ q') ∨ (p = p' ∧ q = q' ∧ s.toList ≠ s'.toList) := by
          by_cases h1 : p = p'
          · by_cases h2 : q = q'
            · exact Or.inr (Or.inr ⟨h1, h2, fun h => hv (by rw [h1, h2, str_ext h])⟩)
            · exact Or.inr (Or.inl ⟨h1, h2⟩)
          · exact Or.inl h1
        clear hv
        rcases hc with h1 | ⟨rfl, h1⟩ | ⟨rfl, rfl, h1⟩
        all_goals
          go_wp2
          go_region
          all_goals (try go_wp2)
          all_goals go_ret
          all_goals exact ⟨⟨false, rfl, ⟨fun h => (by cases h), fun h => absurd h HN.out⟩⟩, hb.drew⟩
    · go_wp2
      go_ret
      exact ⟨⟨true, rfl, ⟨fun _ => List.ext_getElem HL.out (fun j h1 h2 => HP.out j h1 h2 (by omega)), fun _ => rfl⟩⟩, hb⟩
set_option maxHeartbeats 800000 in
theorem sameVs_len (w : World) (a1 a2 : Option Addr) (n1 c1 n2 c2 : Nat) (hl : n1 ≠ n2) :
    Calls Tryd.prog 17 #[.slice a1 n1 c1, .slice a2 n2 c2] w fun e w' => e = .returned (.bool false) ∧ w' = w := by
  have hd : ((n1 : Int) != (n2 : Int)) = true := by simp; omega
  go_enter Tryd.func17, Tryd.ntmps17
  go_wp2
  go_ret
  exact ⟨rfl, rfl⟩
/-- SameValues, at whatever two slices. -/
theorem sameVs_any (w : World) (a1 a2 : Option Addr) (c1 c2 : Nat) (xs ys : List Vl) (hm : xs.length ≤ maxLen) (h1 : LiesV w a1 xs) (h2 : LiesV w a2 ys) :
    Calls Tryd.prog 17 #[.slice a1 xs.length c1, .slice a2 ys.length c2] w fun e w' => RetSame e (xs = ys) ∧ Below w.heap.size w w' := by
  by_cases hl : xs.length = ys.length
  · exact sameVs_loop w a1 a2 c1 c2 xs ys hl hm h1 h2
  · refine (sameVs_len w a1 a2 xs.length c1 ys.length c2 hl).mono ?_
    rintro e w' ⟨rfl, rfl⟩
    exact ⟨⟨false, rfl, ⟨fun h => (by cases h), fun h => absurd (by rw [h]) hl⟩⟩, Below.refl _ _⟩
end Go.Proofs.YtalphknhkkcpgaaDoor

namespace Go.Proofs.YtalphknhkkcpgaaDoor
open Go.RowKit
set_option maxHeartbeats 1600000 in
set_option maxRecDepth 100000 in
/-- Two slices of one length. -/
theorem equalV_loop (w : World) (a1 a2 : Option Addr) (c1 c2 : Nat) (xs ys : List Vl) (hl : xs.length = ys.length) (hm : xs.length ≤ maxLen) (h1 : LiesV w a1 xs) (h2 : LiesV w a2 ys) :
    Calls Tryd.prog 90 #[.slice a1 xs.length c1, .slice a2 ys.length c2] w fun e w' => RetSame e (xs = ys) ∧ Below w.heap.size w w' := by
  unfold maxLen at hm
  rw [← hl]
  have HL : Hid (xs.length = ys.length) := hl
  have HW : Hid (LiesV w a1 xs) := h1
  have HY : Hid (LiesV w a2 ys) := h2
  clear hl h1 h2
  go_enter Tryd.func90, Tryd.ntmps90
  go_wp2
  go_loopw [13] (fun x wr => ∃ k : Nat, k ≤ xs.length ∧ x = .int .i64 k ∧ Hid (∀ j (h1 : j < xs.length) (h2 : j < ys.length), j < k → xs[j] = ys[j]) ∧ Below w.heap.size w wr) (fun x _ => xs.length - (intOf x).toNat)
  case atStart => exact ⟨0, Nat.zero_le _, rfl, fun j _ _ h => absurd h (Nat.not_lt_zero _), Below.refl _ _⟩
  case round =>
    obtain ⟨k, hk, rfl, HP, hb⟩ := hrel
    by_cases hlt : k < xs.length
    · have hlt2 : k < ys.length := by rw [← HL.out]; exact hlt
      obtain ⟨b1, o1, rfl, d0, d1, d2⟩ := HW.out.keep hb k hlt
      obtain ⟨b2, o2, rfl, e0, e1, e2⟩ := HY.out.keep hb k hlt2
      have HV : Hid (xs[k] = xs[k] ∧ ys[k] = ys[k]) := ⟨rfl, rfl⟩
      by_cases hv : xs[k] = ys[k]
      · have HV : Hid (xs[k] = ys[k]) := hv
        rw [hv] at d0 d1 d2
        clear hv
        generalize hy : ys[k] = y at d0 d1 d2 e0 e1 e2
        obtain ⟨p, q, s⟩ := y
        clear hy
        simp only at d0 d1 d2 e0 e1 e2
        go_wp2
        go_region
        all_goals (try go_wp2)
        all_goals go_roundw
        all_goals first
          | (exact ⟨k + 1, by omega, by go_num, fun j h1 h2 hj => if e : j = k then (by subst e; exact HV.out) else HP.out j h1 h2 (by omega), hb.drew⟩)
          | (simp [intOf]; omega)
      · have HN : Hid (xs ≠ ys) := fun e => hv (by subst e; rfl)
        generalize xs[k] = x at d0 d1 d2 hv
        generalize ys[k] = y at e0 e1 e2 hv
        clear HV
        obtain ⟨p, q, s⟩ := x
        obtain ⟨p', q', s'⟩ := y
        simp only at d0 d1 d2 e0 e1 e2
        have hc : (p ≠ p') ∨ (p = p' ∧ q ≠ q') ∨ (p = p' ∧ q = q' ∧ s.toList ≠ s'.toList) := by
          by_cases h1 : p = p'
          · by_cases h2 : q = q'
            · exact Or.inr (Or.inr ⟨h1, h2, fun h => hv (by rw [h1, h2, str_ext h])⟩)
            · exact Or.inr (Or.inl ⟨h1, h2⟩)
          · exact Or.inl h1
        clear hv
        rcases hc with h1 | ⟨rfl, h1⟩ | ⟨rfl, rfl, h1⟩
        all_goals
          go_wp2
          go_region
          all_goals (try go_wp2)
          all_goals go_ret
          all_goals exact ⟨⟨false, rfl, ⟨fun h => (by cases h), fun h => absurd h HN.out⟩⟩, hb.drew⟩
    · go_wp2
      go_ret
      exact ⟨⟨true, rfl, ⟨fun _ => List.ext_getElem HL.out (fun j h1 h2 => HP.out j h1 h2 (by omega)), fun _ => rfl⟩⟩, hb⟩
set_option maxHeartbeats 800000 in
theorem equalV_len (w : World) (a1 a2 : Option Addr) (n1 c1 n2 c2 : Nat) (hl : n1 ≠ n2) :
    Calls Tryd.prog 90 #[.slice a1 n1 c1, .slice a2 n2 c2] w fun e w' => e = .returned (.bool false) ∧ w' = w := by
  have hd : ((n1 : Int) != (n2 : Int)) = true := by simp; omega
  go_enter Tryd.func90, Tryd.ntmps90
  go_wp2
  go_ret
  exact ⟨rfl, rfl⟩
/-- slices.Equal, at whatever two slices. -/
theorem equalV_any (w : World) (a1 a2 : Option Addr) (c1 c2 : Nat) (xs ys : List Vl) (hm : xs.length ≤ maxLen) (h1 : LiesV w a1 xs) (h2 : LiesV w a2 ys) :
    Calls Tryd.prog 90 #[.slice a1 xs.length c1, .slice a2 ys.length c2] w fun e w' => RetSame e (xs = ys) ∧ Below w.heap.size w w' := by
  by_cases hl : xs.length = ys.length
  · exact equalV_loop w a1 a2 c1 c2 xs ys hl hm h1 h2
  · refine (equalV_len w a1 a2 xs.length c1 ys.length c2 hl).mono ?_
    rintro e w' ⟨rfl, rfl⟩
    exact ⟨⟨false, rfl, ⟨fun h => (by cases h), fun h => absurd (by rw [h]) hl⟩⟩, Below.refl _ _⟩
end Go.Proofs.YtalphknhkkcpgaaDoor
