/-
  The law's small and values: which lists something is said of; a copy.
  The reference's SameValues: whether two slices of values hold the same.
-/
import Derived.Test.YtdpedailookcjaaDoorSBOpenVals
import Derived.Test.YtdpedailookcjaaDoorSBVal
import Derived.Test.YtdpedailookcjaaDoorSBMath
import Derived.Laws.MakeOwn
import Derived.Test.YtdpedailookcjaaDoorSOwn
namespace Go.Proofs.YtdpedailookcjaaDoor
open Go.RowKit
theorem str_ext {a b : ByteArray} (h : a.toList = b.toList) : a = b := by
  rw [Lib.toList_data, Lib.toList_data, Array.toList_inj] at h
  cases a; cases b; simp_all
/-- The cells of values. -/
def vcells (vs : List Vl) : List Value := vs.flatMap fun v => [.int .i64 v.k, .int .i64 v.n, .string v.s]
theorem vcells_len (vs : List Vl) : (vcells vs).length = vs.length * 3 := by
  induction vs with
  | nil => rfl
  | cons v vs ih => simp only [vcells, List.flatMap_cons, List.length_append, List.length_cons, List.length_nil] at *; omega
theorem vcells_at (vs : List Vl) (j : Nat) (h : j < vs.length) : (vcells vs)[j * 3]? = some (.int .i64 vs[j].k) ∧ (vcells vs)[j * 3 + 1]? = some (.int .i64 vs[j].n) ∧ (vcells vs)[j * 3 + 2]? = some (.string vs[j].s) := by
  induction vs generalizing j with
  | nil => simp at h
  | cons v vs ih =>
    cases j with
    | zero => simp [vcells]
    | succ j =>
      have := ih j (by simpa using h)
      have e1 : (j + 1) * 3 = j * 3 + 3 := by omega
      have e2 : (j + 1) * 3 + 1 = j * 3 + 1 + 3 := by omega
      have e3 : (j + 1) * 3 + 2 = j * 3 + 2 + 3 := by omega
      have hc : vcells (v :: vs) = [.int .i64 v.k, .int .i64 v.n, .string v.s] ++ vcells vs := by simp [vcells]
      rw [hc, e2, e3, e1]
      rw [List.getElem?_append_right (by simp), List.getElem?_append_right (by simp), List.getElem?_append_right (by simp)]
      simpa using this
theorem vcells_cell (vs : List Vl) (j : Nat) (v : Value) (h : (vcells vs)[j]? = some v) : ∃ i r, ∃ hi : i < vs.length, j = i * 3 + r ∧ ((r = 0 ∧ v = .int .i64 vs[i].k) ∨ (r = 1 ∧ v = .int .i64 vs[i].n) ∨ (r = 2 ∧ v = .string vs[i].s)) := by
  have hj := (List.getElem?_eq_some_iff.1 h).1
  rw [vcells_len] at hj
  have hi : j / 3 < vs.length := by omega
  obtain ⟨h0, h1, h2⟩ := vcells_at vs (j / 3) hi
  have hr : j % 3 = 0 ∨ j % 3 = 1 ∨ j % 3 = 2 := by omega
  refine ⟨j / 3, j % 3, hi, by omega, ?_⟩
  rcases hr with hr | hr | hr
  · rw [show j = j / 3 * 3 by omega, h0] at h
    exact Or.inl ⟨hr, (Option.some.inj h).symm⟩
  · rw [show j = j / 3 * 3 + 1 by omega, h1] at h
    exact Or.inr (Or.inl ⟨hr, (Option.some.inj h).symm⟩)
  · rw [show j = j / 3 * 3 + 2 by omega, h2] at h
    exact Or.inr (Or.inr ⟨hr, (Option.some.inj h).symm⟩)
theorem addr_up (b o j : Nat) : (⟨b, o, none⟩ : Addr).add j = ⟨b, o + j, none⟩ := by unfold Addr.add; split <;> simp_all
/-- What is owned lies somewhere. -/
theorem liesV_own {w : World} {base e n : Nat} {v : Value} {vs : List Vl} (h : w.ownsRow base e 3 v n (vcells vs)) : ∃ a c, v = .slice a vs.length c ∧ LiesV w a vs := by
  have hl := h.1
  rw [vcells_len] at hl
  have hl' : vs.length = n := by omega
  rcases h.2 with ⟨rfl, rfl⟩ | ⟨g, cap, cur, rfl, _, hg, _, _, _, htake⟩
  · exact ⟨none, 0, by rw [hl'], fun j hj => absurd hj (by omega)⟩
  · refine ⟨some ⟨g, 0, none⟩, cap, by rw [hl'], fun j hj => ⟨g, 0, rfl, ?_⟩⟩
    obtain ⟨h0, h1, h2⟩ := vcells_at vs j hj
    have e0 := h.cells rfl _ _ h0
    have e1 := h.cells rfl _ _ h1
    have e2 := h.cells rfl _ _ h2
    rw [addr_up] at e0 e1 e2
    exact ⟨e0, by rw [Nat.add_assoc]; exact e1, by rw [Nat.add_assoc]; exact e2⟩
theorem Tryd.infoV : (Tryd.prog.info? 53).map (fun i => (i.zero, i.size, i.bytes)) = some (some (.agg #[.int .i64 0, .int .i64 0, .string ⟨#[]⟩]), 3, 32) := by kernel_rfl
end Go.Proofs.YtdpedailookcjaaDoor

namespace Go.Proofs.YtdpedailookcjaaDoor
open Go.RowKit
/-- Whether they are the same. -/
def RetSame (e : Ending) (p : Prop) : Prop := ∃ b, e = .returned (.bool b) ∧ (b = true ↔ p)
set_option maxHeartbeats 1600000 in
set_option maxRecDepth 100000 in
/-- Two slices of one length. -/
theorem sameVs_loop (w : World) (a1 a2 : Option Addr) (c1 c2 : Nat) (xs ys : List Vl) (hl : xs.length = ys.length) (hm : xs.length ≤ maxLen) (h1 : LiesV w a1 xs) (h2 : LiesV w a2 ys) :
    Calls Tryd.prog 17 #[.slice a1 xs.length c1, .slice a2 ys.length c2] w fun e w' => RetSame e (xs = ys) ∧ Below w.heap.size w w' := by
  unfold maxLen at hm
  rw [← hl]
  have HL : Hid (xs.length = ys.length) := hl
  have HW : Hid (LiesV w a1 xs) := h1
  have HY : Hid (LiesV w a2 ys) := h2
  clear hl h1 h2
  go_enter Tryd.func17, Tryd.ntmps17
  go_wp2
  go_loopw [5] (fun x wr => ∃ k : Nat, k ≤ xs.length ∧ x = .int .i64 k ∧ Hid (∀ j (h1 : j < xs.length) (h2 : j < ys.length), j < k → xs[j] = ys[j]) ∧ Below w.heap.size w wr) (fun x _ => xs.length - (intOf x).toNat)
  case atStart => exact ⟨0, Nat.zero_le _, rfl, fun j _ _ h => absurd h (Nat.not_lt_zero _), Below.refl _ _⟩
  case round =>
    obtain ⟨k, hk, rfl, HP, hb⟩ := hrel
    by_cases hlt : k < xs.length
    · have hlt2 : k < ys.length := by rw [← HL.out]; exact hlt
      obtain ⟨b1, o1, rfl, d0, d1, d2⟩ := HW.out.keep hb k hlt
      obtain ⟨b2, o2, rfl, e0, e1, e2⟩ := HY.out.keep hb k hlt2
      have HV : Hid (xs[k] = xs[k] ∧ ys[k] = ys[k]) := ⟨rfl, rfl⟩
      by_cases hv : xs[k] = ys[k]
      · have HV : Hid (xs[k] = ys[k]) := hv
        rw [hv] at d0 d1 d2
        clear hv
        generalize hy : ys[k] = y at d0 d1 d2 e0 e1 e2
        obtain ⟨p, q, s⟩ := y
        clear hy
        simp only at d0 d1 d2 e0 e1 e2
        go_wp2
        go_region
        all_goals (try go_wp2)
        all_goals go_roundw
        all_goals first
          | (exact ⟨k + 1, by omega, by go_num, fun j h1 h2 hj => if e : j = k then (by subst e; exact HV.out) else HP.out j h1 h2 (by omega), hb.drew⟩)
          | (simp [intOf]; omega)
      · have HN : Hid (xs ≠ ys) := fun e => hv (by subst e; rfl)
        generalize xs[k] = x at d0 d1 d2 hv
        generalize ys[k] = y at e0 e1 e2 hv
        clear HV
        obtain ⟨p, q, s⟩ := x
        obtain ⟨p', q', s'⟩ := y
        simp only at d0 d1 d2 e0 e1 e2
        have hc : (p ≠ p') ∨ (p = p' ∧ q ≠ q') ∨ (p = p' ∧ q = q' ∧ s.toList ≠ s'.toList) := by
          by_cases h1 : p = p'
          · by_cases h2 : q = q'
            · exact Or.inr (Or.inr ⟨h1, h2, fun h => hv (by rw [h1, h2, str_ext h])⟩)
            · exact Or.inr (Or.inl ⟨h1, h2⟩)
          · exact Or.inl h1
        clear hv
        rcases hc with h1 | ⟨rfl, h1⟩ | ⟨rfl, rfl, h1⟩
        all_goals
          go_wp2
          go_region
          all_goals (try go_wp2)
          all_goals go_ret
          all_goals exact ⟨⟨false, rfl, ⟨fun h => (by cases h), fun h => absurd h HN.out⟩⟩, hb.drew⟩
    · go_wp2
      go_ret
      exact ⟨⟨true, rfl, ⟨fun _ => List.ext_getElem HL.out (fun j h1 h2 => HP.out j h1 h2 (by omega)), fun _ => rfl⟩⟩, hb⟩
set_option maxHeartbeats 800000 in
theorem sameVs_len (w : World) (a1 a2 : Option Addr) (n1 c1 n2 c2 : Nat) (hl : n1 ≠ n2) :
    Calls Tryd.prog 17 #[.slice a1 n1 c1, .slice a2 n2 c2] w fun e w' => e = .returned (.bool false) ∧ w' = w := by
  have hd : ((n1 : Int) != (n2 : Int)) = true := by simp; omega
  go_enter Tryd.func17, Tryd.ntmps17
  go_wp2
  go_ret
  exact ⟨rfl, rfl⟩
/-- SameValues, at whatever two slices. -/
theorem sameVs_any (w : World) (a1 a2 : Option Addr) (c1 c2 : Nat) (xs ys : List Vl) (hm : xs.length ≤ maxLen) (h1 : LiesV w a1 xs) (h2 : LiesV w a2 ys) :
    Calls Tryd.prog 17 #[.slice a1 xs.length c1, .slice a2 ys.length c2] w fun e w' => RetSame e (xs = ys) ∧ Below w.heap.size w w' := by
  by_cases hl : xs.length = ys.length
  · exact sameVs_loop w a1 a2 c1 c2 xs ys hl hm h1 h2
  · refine (sameVs_len w a1 a2 xs.length c1 ys.length c2 hl).mono ?_
    rintro e w' ⟨rfl, rfl⟩
    exact ⟨⟨false, rfl, ⟨fun h => (by cases h), fun h => absurd (by rw [h]) hl⟩⟩, Below.refl _ _⟩
end Go.Proofs.YtdpedailookcjaaDoor
