/-
  The reference's Bare, Fine and BitsError, and the law's faulted: what they answer.
-/
import Derived.Test.YtgmglgepmdmmeaaDoorRefBits
import Derived.Test.YtgmglgepmdmmeaaDoorCodeFault
import Derived.Laws.CopyOwn
namespace Go.Proofs.YtgmglgepmdmmeaaDoor
open Go.RowKit
/-- A Fault of the reference: its cells. -/
abbrev rfl2 (c i : Int) : Array Value := #[.int .i64 c, .int .i64 i]
set_option maxRecDepth 100000 in
theorem bare_any (k : Int) (w : World) : Calls Tryd.prog 26 #[.int .i64 k] w fun e w' => e = .returned (.agg (rfl2 k (-1))) ∧ w' = w.alloc (.cells (rfl2 k (-1)) 25) := by
  go_enter Tryd.func26, Tryd.ntmps26
  go_wp2
  exact bodyPost_ret (v := .agg (rfl2 k (-1))) (results_cell_row Tryd.results26 _ _ w.heap.size 25 (rfl2 k (-1)) (0, 0) _ rfl (heap_alloc_new w _) Tryd.underlying25 rfl (by kernel_rfl)) rfl ⟨rfl, rfl⟩
set_option maxRecDepth 100000 in
theorem fine_any (w : World) : Calls Tryd.prog 27 #[] w fun e w' => e = .returned (.agg (rfl2 0 (-1))) ∧ w' = w.alloc (.cells (rfl2 0 (-1)) 25) := by
  go_enter Tryd.func27, Tryd.ntmps27
  go_wp2
  exact bodyPost_ret (v := .agg (rfl2 0 (-1))) (results_cell_row Tryd.results27 _ _ w.heap.size 25 (rfl2 0 (-1)) (0, 0) _ rfl (heap_alloc_new w _) Tryd.underlying25 rfl (by kernel_rfl)) rfl ⟨rfl, rfl⟩
set_option maxRecDepth 100000 in
set_option maxHeartbeats 800000 in
/-- The width, or how many they are, is out of its bounds. -/
theorem bitsError_bound (a : Option Addr) (n c : Nat) (k : Int) (w : World) (hk : decide (k < 0) = true ∨ (decide (k < 0) = false ∧ decide (32 < k) = true) ∨ (decide (k < 0) = false ∧ decide (32 < k) = false ∧ decide ((20000 : Int) < n) = true)) :
    Calls Tryd.prog 10 #[.slice a n c, .int .i64 k] w fun e w' => e = .returned (.agg (rfl2 2 (-1))) ∧ Below w.heap.size w w' := by
  rcases hk with h | ⟨h, h'⟩ | ⟨h, h', h''⟩
  all_goals
    go_enter Tryd.func10, Tryd.ntmps10
    go_wp2_with (go_at_call 26; refine (bare_any _ _).mono ?_; rintro e w1 ⟨rfl, rfl⟩)
    exact bodyPost_ret (v := .agg (rfl2 2 (-1))) (results_cell_row Tryd.results10 _ _ w.heap.size 25 (rfl2 2 (-1)) (0, 0) _ rfl (heap_alloc2_old w _ _) Tryd.underlying25 rfl (by kernel_rfl)) rfl ⟨rfl, ((Below.refl _ _).alloc (Nat.le_refl _) _).alloc (by simp) _⟩
theorem row_setCell {w : World} {g j : Nat} {cs : Array Value} {t : TypeId} (h : w.heap[g]? = some (.cells cs t (0, 0))) (v : Value) : (w.setCell ⟨g, j, none⟩ v).heap[g]? = some (.cells (cs.setIfInBounds j v) t (0, 0)) := by
  simp [World.setCell, Array.getElem?_modify, h]
/-- What is known of a Fault's block. -/
theorem row_two {w : World} {g : Nat} {x y : Int} {t : TypeId} (h : w.heap[g]? = some (.cells (rfl2 x y) t (0, 0))) :
    (w.cell? ⟨g, 0, none⟩ = some (.int .i64 x) ∧ w.cell? ⟨g, 1, none⟩ = some (.int .i64 y)) ∧ w.frozen? ⟨g, 0, none⟩ = false ∧ w.frozen? ⟨g, 1, none⟩ = false :=
  ⟨⟨cell_of_row w g 0 _ t _ h, cell_of_row w g 1 _ t _ h⟩, frozen_of_row w g 0 _ t h, frozen_of_row w g 1 _ t h⟩
theorem row_put {w : World} {g : Nat} {x y : Int} {t : TypeId} (h : w.heap[g]? = some (.cells (rfl2 x y) t (0, 0))) (x' y' : Int) :
    ((w.setCell ⟨g, 0, none⟩ (.int .i64 x')).setCell ⟨g, 1, none⟩ (.int .i64 y')).heap[g]? = some (.cells (rfl2 x' y') t (0, 0)) :=
  row_setCell (row_setCell h _) _
/-- What BitsError says. -/
def ErrSays (k : Nat) (xs : List Int) (e : Ending) : Prop :=
  (e = .returned (.agg (rfl2 0 (-1))) ∧ ∀ j (h : j < xs.length), Room k xs[j]) ∨
  (∃ i, ∃ hi : i < xs.length, e = .returned (.agg (rfl2 3 i)) ∧ (∀ j (h : j < xs.length), j < i → Room k xs[j]) ∧ ¬ Room k xs[i])
theorem shl_one {k : Nat} (hk : k ≤ 32) : IntKind.i64.wrap (2 ^ k) = 2 ^ k ∧ (2 : Int) ^ k ≤ 4294967296 := by
  have h := Nat.pow_le_pow_right (n := 2) (by omega) hk
  have e : ((2 ^ k : Nat) : Int) = (2 : Int) ^ k := by simp
  have h32 : (2 : Nat) ^ 32 = 4294967296 := by decide
  have hp := Nat.two_pow_pos k
  rw [← e, IntKind.wrap_i64]
  omega
set_option maxRecDepth 100000 in
set_option maxHeartbeats 1600000 in
theorem bitsError_any (a : Option Addr) (c : Nat) (xs : List Int) (k : Nat) (w : World) (hn : xs.length ≤ 20000) (hk : k ≤ 32) (h : Lies w a (i64s xs)) :
    Calls Tryd.prog 10 #[.slice a xs.length c, .int .i64 k] w fun e w' => ErrSays k xs e ∧ Below w.heap.size w w' := by
  have HL : Hid (∀ j (h : j < xs.length), ∃ b o, a = some ⟨b, o, none⟩ ∧ w.cell? ⟨b, o + j, none⟩ = some (.int .i64 xs[j])) := lies_ints h
  have hs1 := (shl_one hk).1
  clear h
  go_enter Tryd.func10, Tryd.ntmps10
  go_wp2_with fail
  go_loopw [5] (fun x wr => ∃ i : Nat, i ≤ xs.length ∧ x = .int .i64 i ∧ Hid (wr.heap[w.heap.size]? = some (.cells (rfl2 0 0) 25 (0, 0))) ∧ Hid (∀ j (h : j < xs.length), j < i → Room k xs[j]) ∧ Below w.heap.size w wr) (fun x _ => xs.length - (intOf x).toNat)
  case atStart => exact ⟨0, Nat.zero_le _, rfl, heap_alloc_new w _, fun j _ h => absurd h (Nat.not_lt_zero _), (Below.refl _ _).alloc (Nat.le_refl _) _⟩
  case round =>
    obtain ⟨i, hi, rfl, HH, HP, hb⟩ := hrel
    by_cases hlt : i < xs.length
    · obtain ⟨b, o, rfl, hc⟩ := HL.out i hlt
      have hc := (hb.cell (World.block_lt_of_cell? w _ hc)).trans hc
      by_cases hf : Room k xs[i]
      · have HF : Hid (Room k xs[i]) := hf
        have hd1 : decide (xs[i] < 0) = false := by have := hf.1; simp; omega
        have hd2 : decide (2 ^ k ≤ xs[i]) = false := by have := hf.2; simp; omega
        clear hf
        go_wp2_with fail
        go_region
        all_goals (try go_wp2_with fail)
        all_goals go_roundw
        all_goals first
          | (exact ⟨i + 1, by omega, by go_num, HH, fun j h hj => if e : j = i then (by subst e; exact HF.out) else HP.out j h (by omega), hb.drew⟩)
          | (simp [intOf]; omega)
      · have HF : Hid (¬ Room k xs[i]) := hf
        have hd : decide (xs[i] < 0) = true ∨ (decide (xs[i] < 0) = false ∧ decide (2 ^ k ≤ xs[i]) = true) := by
          by_cases h0 : xs[i] < 0
          · left; simpa using h0
          · right; refine ⟨by simp; omega, ?_⟩
            by_cases h1 : 2 ^ k ≤ xs[i]
            · simpa using h1
            · exact absurd ⟨by omega, by omega⟩ hf
        clear hf
        have hH := HH.out
        obtain ⟨⟨c0, c1⟩, f0, f1⟩ := row_two hH
        rcases hd with hd1 | ⟨hd1, hd2⟩
        all_goals
          go_wp2_with fail
          go_region
          all_goals (try go_wp2_with fail)
          all_goals exact bodyPost_ret (v := .agg (rfl2 3 i)) (results_cell_row Tryd.results10 _ _ w.heap.size 25 (rfl2 3 i) (0, 0) _ rfl (row_put (by exact HH.out) _ _) Tryd.underlying25 rfl (by kernel_rfl)) rfl ⟨Or.inr ⟨i, hlt, rfl, HP.out, HF.out⟩, (hb.drew.setCell (Nat.le_refl _) _).setCell (Nat.le_refl _) _⟩
    · have HA : Hid (∀ j (h : j < xs.length), Room k xs[j]) := fun j h => HP.out j h (by omega)
      have hlt2 : w.heap.size < wr.heap.size := (Array.getElem?_eq_some_iff.1 HH.out).1
      obtain ⟨⟨c0, c1⟩, f0, f1⟩ := row_two (show (wr.alloc (.cells (rfl2 0 (-1)) 25)).heap[w.heap.size]? = some (.cells (rfl2 0 0) 25 (0, 0)) from (heap_alloc_old wr _ hlt2).trans HH.out)
      obtain ⟨⟨d0, d1⟩, e0, e1⟩ := row_two HH.out
      go_wp2_with (go_at_call 27; refine (fine_any _).mono ?_; rintro e w1 ⟨rfl, rfl⟩)
      exact bodyPost_ret (v := .agg (rfl2 0 (-1))) (results_cell_row Tryd.results10 _ _ w.heap.size 25 (rfl2 0 (-1)) (0, 0) _ rfl ((heap_alloc_old _ _ (Array.getElem?_eq_some_iff.1 (row_put HH.out _ _)).1).trans (row_put HH.out _ _)) Tryd.underlying25 rfl (by kernel_rfl)) rfl ⟨Or.inl ⟨rfl, HA.out⟩, ((hb.setCell (Nat.le_refl _) _).setCell (Nat.le_refl _) _).alloc (((hb.setCell (Nat.le_refl _) _).setCell (Nat.le_refl _) _).size) _⟩
set_option maxRecDepth 100000 in
set_option maxHeartbeats 800000 in
/-- faulted, of a fault round ErrShape, against the reference's. -/
theorem faulted_fault (w : World) (A : Nat → Addr) (h : Errs w A) (i p : Nat) (hi : i < 8) (at_ : Int) (h0 : w.cell? ⟨p, 0, none⟩ = some (.int .i64 at_)) (h1 : w.cell? ⟨p, 1, none⟩ = some (errV (A i))) (n : Int) (hn : n = (i : Int) + 1) :
    Calls Tryd.prog 13 #[.iface 74 (.pointer (some ⟨p, 0, none⟩)), .agg (rfl2 n at_)] w fun e w' => e = .returned (.bool true) ∧ Below w.heap.size w w' := by
  subst hn
  have hb0 : Below w.heap.size w (w.alloc (.cells (rfl2 ((i : Int) + 1) at_) 25)) := (Below.refl _ _).alloc (Nat.le_refl _) _
  have HA : Hid (Errs (w.alloc (.cells (rfl2 ((i : Int) + 1) at_) 25)) A) := h.keep hb0
  have H0 : Hid ((w.alloc (.cells (rfl2 ((i : Int) + 1) at_) 25)).cell? ⟨p, 0, none⟩ = some (.int .i64 at_)) := (hb0.cell (World.block_lt_of_cell? w _ h0)).trans h0
  have H1 : Hid ((w.alloc (.cells (rfl2 ((i : Int) + 1) at_) 25)).cell? ⟨p, 1, none⟩ = some (errV (A i))) := (hb0.cell (World.block_lt_of_cell? w _ h1)).trans h1
  clear h h0 h1
  go_enter Tryd.func13, Tryd.ntmps13
  go_wp2_with fail
  refine (code_fault _ A HA.out i p hi at_ H0.out H1.out).mono ?_
  rintro e w1 ⟨rfl, hb1⟩
  have hrow : w1.heap[w.heap.size]? = some (.cells (rfl2 ((i : Int) + 1) at_) 25 (0, 0)) := (hb1.block w.heap.size (by simp)).trans (heap_alloc_new w _)
  obtain ⟨⟨c0, c1⟩, _, _⟩ := row_two hrow
  have hne : ((i : Int) + 1 == 0) = false := by simp; omega
  clear hrow
  go_wp2_with fail
  go_ret
  exact ⟨rfl, hb0.trans (hb1.mono hb0.size)⟩
set_option maxRecDepth 100000 in
set_option maxHeartbeats 800000 in
/-- faulted, of a bare error, against the reference's. -/
theorem faulted_sent (w : World) (A : Nat → Addr) (h : Errs w A) (i : Nat) (hi : i < 8) (n : Int) (hn : n = (i : Int) + 1) :
    Calls Tryd.prog 13 #[errV (A i), .agg (rfl2 n (-1))] w fun e w' => e = .returned (.bool true) ∧ Below w.heap.size w w' := by
  subst hn
  have hb0 : Below w.heap.size w (w.alloc (.cells (rfl2 ((i : Int) + 1) (-1)) 25)) := (Below.refl _ _).alloc (Nat.le_refl _) _
  have HA : Hid (Errs (w.alloc (.cells (rfl2 ((i : Int) + 1) (-1)) 25)) A) := h.keep hb0
  clear h
  go_enter Tryd.func13, Tryd.ntmps13
  go_wp2_with fail
  refine (code_sent _ A HA.out i hi).mono ?_
  rintro e w1 ⟨rfl, hb1⟩
  have hrow : w1.heap[w.heap.size]? = some (.cells (rfl2 ((i : Int) + 1) (-1)) 25 (0, 0)) := (hb1.block w.heap.size (by simp)).trans (heap_alloc_new w _)
  obtain ⟨⟨c0, c1⟩, _, _⟩ := row_two hrow
  have hne : ((i : Int) + 1 == 0) = false := by simp; omega
  clear hrow
  go_wp2_with fail
  go_ret
  exact ⟨rfl, hb0.trans (hb1.mono hb0.size)⟩
end Go.Proofs.YtgmglgepmdmmeaaDoor
