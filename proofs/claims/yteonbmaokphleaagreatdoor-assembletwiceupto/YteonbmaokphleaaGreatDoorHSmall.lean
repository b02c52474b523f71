/-
  The law's small and values: which lists something is said of; a copy.
-/
import Derived.Test.YteonbmaokphleaaGreatDoorHBOpenVals
import Derived.Test.YteonbmaokphleaaGreatDoorHBVal
import Derived.Test.YteonbmaokphleaaGreatDoorHBMath
import Derived.Laws.MakeOwn
import Derived.Test.YteonbmaokphleaaGreatDoorHOwn
namespace Go.Proofs.YteonbmaokphleaaGreatDoor
open Go.RowKit
def vcells (vs : List Vl) : List Value := vs.flatMap fun v => [.int .i64 v.k, .int .i64 v.n, .string v.s]
theorem vcells_len (vs : List Vl) : (vcells vs).length = vs.length * 3 := by
 induction vs with
 | nil => rfl
 | cons v vs ih => simp only [vcells, List.flatMap_cons, List.length_append, List.length_cons, List.length_nil] at *; omega
theorem vcells_at (vs : List Vl) (j : Nat) (h : j < vs.length) : (vcells vs)[j * 3]? = some (.int .i64 vs[j].k) ∧ (vcells vs)[j * 3 + 1]? = some (.int .i64 vs[j].n) ∧ (vcells vs)[j * 3 + 2]? = some (.string vs[j].s) := by
 induction vs generalizing j with
 | nil => simp at h
 | cons v vs ih =>
  cases j with
  | zero => simp [vcells]
  | succ j =>
   have := ih j (by simpa using h)
   have e1 : (j + 1) * 3 = j * 3 + 3 := by omega
   have e2 : (j + 1) * 3 + 1 = j * 3 + 1 + 3 := by omega
   have e3 : (j + 1) * 3 + 2 = j * 3 + 2 + 3 := by omega
   have hc : vcells (v :: vs) = [.int .i64 v.k, .int .i64 v.n, .string v.s] ++ vcells vs := by simp [vcells]
   rw [hc, e2, e3, e1]
   rw [List.getElem?_append_right (by simp), List.getElem?_append_right (by simp), List.getElem?_append_right (by simp)]
   simpa using this
theorem vcells_cell (vs : List Vl) (j : Nat) (v : Value) (h : (vcells vs)[j]? = some v) : ∃ i r, ∃ hi : i < vs.length, j = i * 3 + r ∧ ((r = 0 ∧ v = .int .i64 vs[i].k) ∨ (r = 1 ∧ v = .int .i64 vs[i].n) ∨ (r = 2 ∧ v = .string vs[i].s)) := by
 have hj := (List.getElem?_eq_some_iff.1 h).1
 rw [vcells_len] at hj
 have hi : j / 3 < vs.length := by omega
 obtain ⟨h0, h1, h2⟩ := vcells_at vs (j / 3) hi
 have hr : j % 3 = 0 ∨ j % 3 = 1 ∨ j % 3 = 2 := by omega
 refine ⟨j / 3, j % 3, hi, by omega, ?_⟩
 rcases hr with hr | hr | hr
 · rw [show j = j / 3 * 3 by omega, h0] at h
   exact Or.inl ⟨hr, (Option.some.inj h).symm⟩
 · rw [show j = j / 3 * 3 + 1 by omega, h1] at h
   exact Or.inr (Or.inl ⟨hr, (Option.some.inj h).symm⟩)
 · rw [show j = j / 3 * 3 + 2 by omega, h2] at h
   exact Or.inr (Or.inr ⟨hr, (Option.some.inj h).symm⟩)
theorem addr_up (b o j : Nat) : (⟨b, o, none⟩ : Addr).add j = ⟨b, o + j, none⟩ := by unfold Addr.add; split <;> simp_all
theorem liesV_own {w : World} {base e n : Nat} {v : Value} {vs : List Vl} (h : w.ownsRow base e 3 v n (vcells vs)) : ∃ a c, v = .slice a vs.length c ∧ LiesV w a vs := by
 have hl := h.1
 rw [vcells_len] at hl
 have hl' : vs.length = n := by omega
 rcases h.2 with ⟨rfl, rfl⟩ | ⟨g, cap, cur, rfl, _, hg, _, _, _, htake⟩
 · exact ⟨none, 0, by rw [hl'], fun j hj => absurd hj (by omega)⟩
 · refine ⟨some ⟨g, 0, none⟩, cap, by rw [hl'], fun j hj => ⟨g, 0, rfl, ?_⟩⟩
   obtain ⟨h0, h1, h2⟩ := vcells_at vs j hj
   have e0 := h.cells rfl _ _ h0
   have e1 := h.cells rfl _ _ h1
   have e2 := h.cells rfl _ _ h2
   rw [addr_up] at e0 e1 e2
   exact ⟨e0, by rw [Nat.add_assoc]; exact e1, by rw [Nat.add_assoc]; exact e2⟩
theorem Tryz.infoV : (Tryz.prog.info? 54).map (fun i => (i.zero, i.size, i.bytes)) = some (some (.agg #[.int .i64 0, .int .i64 0, .string ⟨#[]⟩]), 3, 32) := by kernel_rfl
end Go.Proofs.YteonbmaokphleaaGreatDoor
