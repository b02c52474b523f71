/-
  shred.columnOf: the column of a leaf.
  shred.Shred: the columns of right records.
-/
import Derived.Test.YtnceknbodpimiaaDoorVBWriter
import Derived.Deep.RegionLaw
import Derived.Deep.RegionHeld3
namespace Go.Proofs.YtnceknbodpimiaaDoor
open Go.RowKit
theorem own_sl {w : World} {B e size n : Nat} {v : Value} {xs : List Value} (h : w.ownsRow B e size v n xs) : ∃ a c, v = .slice a n c := by
  rcases h.2 with ⟨rfl, rfl⟩ | ⟨g, cap, cur, rfl, _⟩
  · exact ⟨none, 0, rfl⟩
  · exact ⟨_, cap, rfl⟩
theorem StPath.len {t : Tr} {ids : List Int} {df ls : Nat} {sts : List Stp} (h : StPath t ids df ls sts) : sts.length = ids.length := by
  induction h with
  | nil => rfl
  | cons t id rest df ls i hi hid first sts more ih => simp [ih]
theorem own_low {W : World} {N N' e s n : Nat} {v : Value} {xs : List Value} (h : W.ownsRow N e s v n xs) (hN : N' ≤ N) : W.ownsRow N' e s v n xs := ⟨h.1, h.2.imp id (fun ⟨g, cap, cur, e1, e2, e3⟩ => ⟨g, cap, cur, e1, by omega, e3⟩)⟩
end Go.Proofs.YtnceknbodpimiaaDoor

namespace Go.Proofs.YtnceknbodpimiaaDoor
open Go.RowKit
/-- A column: its number, levels and values. -/
structure Col where
  id : Int
  reps : List Int
  defs : List Int
  vals : List Vl
def colC (c : Col) (q : Value × Value × Value) : List Value := [.int .i64 c.id, q.1, q.2.1, q.2.2]
/-- Where a column's rows lie. -/
structure ColQ (W : World) (N : Nat) (c : Col) (q : Value × Value × Value) : Prop where
  r : W.ownsRow N 3 1 q.1 c.reps.length (i64s c.reps)
  d : W.ownsRow N 3 1 q.2.1 c.defs.length (i64s c.defs)
  v : W.ownsRow N 27 3 q.2.2 c.vals.length (vcells c.vals)
theorem ColQ.stay {W w' : World} {N : Nat} {c : Col} {q : Value × Value × Value} (h : ColQ W N c q) (hs : ∀ k cs e, W.heap[k]? = some (.cells cs e (0, 0)) → (e = 3 ∨ e = 27) → N ≤ k → w'.heap[k]? = W.heap[k]?) : ColQ w' N c q := by
  refine ⟨own_same h.r fun k hk => ?_, own_same h.d fun k hk => ?_, own_same h.v fun k hk => ?_⟩
  · obtain ⟨q1, _, cs, q3⟩ := own_block h.r hk; exact hs k cs _ q3 (.inl rfl) q1
  · obtain ⟨q1, _, cs, q3⟩ := own_block h.d hk; exact hs k cs _ q3 (.inl rfl) q1
  · obtain ⟨q1, _, cs, q3⟩ := own_block h.v hk; exact hs k cs _ q3 (.inr rfl) q1
theorem ColQ.down {W : World} {N N' : Nat} {c : Col} {q : Value × Value × Value} (h : ColQ W N c q) (hN : N' ≤ N) : ColQ W N' c q := ⟨own_low h.r hN, own_low h.d hN, own_low h.v hN⟩
/-- A leaf at its place in the row. -/
theorem LvR.at_ {W : World} {N : Nat} {lv : Value} {ls : List Lf} (h : LvR W N lv ls) (j : Nat) (hj : j < ls.length) : ∃ lb cap pa pc, lv = .slice (some ⟨lb, 0, none⟩) ls.length cap ∧ (W.cell? ⟨lb, j * 5, none⟩ = some (.int .i64 ls[j].id) ∧ W.cell? ⟨lb, j * 5 + 1, none⟩ = some (.int .i64 ls[j].kind) ∧ W.cell? ⟨lb, j * 5 + 2, none⟩ = some (.int .i64 (ls[j].mr : Nat)) ∧ W.cell? ⟨lb, j * 5 + 3, none⟩ = some (.int .i64 (ls[j].md : Nat)) ∧ W.cell? ⟨lb, j * 5 + 4, none⟩ = some (.slice pa ls[j].path.length pc)) ∧ Lies W pa (i64s ls[j].path) := by
  obtain ⟨pvs, h1, h2, h3⟩ := h
  have hjp : j < pvs.length := by omega
  have hz : j < (List.zipWith lfC ls pvs).length := by simp; omega
  have h5 : ∀ x ∈ List.zipWith lfC ls pvs, x.length = 5 := fun x hx => by
    obtain ⟨i, hi, rfl⟩ := List.getElem_of_mem hx
    simp [lfC]
  have hrow := h3 j hj hjp
  rcases h2.2 with ⟨_, h0⟩ | ⟨g, cap, cur, rfl, _⟩
  · omega
  · have hc : ∀ k u, (lfC ls[j] pvs[j])[k]? = some u → k < 5 → W.cell? ⟨g, j * 5 + k, none⟩ = some u := fun k u hu hk => by
      have h6 := h2.cells (g := g) rfl (j * 5 + k) u (by
        rw [flat5 _ h5 j k hk, List.getElem?_eq_getElem hz, List.getElem_zipWith]
        exact hu)
      rw [addr_plus, Nat.zero_add] at h6
      exact h6
    obtain ⟨pa, pc, hpv⟩ := own_sl hrow
    rw [hpv] at hc hrow
    refine ⟨g, cap, pa, pc, rfl, ⟨hc 0 _ rfl (by omega), hc 1 _ rfl (by omega), hc 2 _ rfl (by omega), hc 3 _ rfl (by omega), hc 4 _ rfl (by omega)⟩, fun k hk => ?_⟩
    rcases hrow.2 with ⟨_, h0⟩ | ⟨g', cap', cur', hv, rest⟩
    · simp [i64s] at hk; omega
    · injection hv with hv _ _
      subst hv
      have h7 := hrow.cells (g := g') rfl k (i64s ls[j].path)[k] (List.getElem?_eq_getElem hk)
      rw [addr_plus, Nat.zero_add] at h7
      exact ⟨g', 0, rfl, by simpa using h7⟩
end Go.Proofs.YtnceknbodpimiaaDoor
