/-
  The walk of the law BitsPack.
-/
import Derived.Test.YtgmglgepmdmmeaaDoorPackOf
import Derived.Test.YtgmglgepmdmmeaaDoorRefErr
import Derived.Test.YtgmglgepmdmmeaaDoorLaid8
import Derived.OpenShut
namespace Go.Proofs.YtgmglgepmdmmeaaDoor
open Go.RowKit
theorem errs_cell {w : World} {A : Nat → Addr} (h : Errs w A) (i : Nat) (hi : i < 8) : w.cell? ⟨errG i, 0, none⟩ = some (errV (A i)) := (h.at_ i hi).var
set_option maxRecDepth 100000 in
set_option maxHeartbeats 800000 in
/-- Of more than 400 numbers nothing is said. -/
theorem bitsPack_none (a : Option Addr) (n c : Nat) (k : Int) (w : World) (A : Nat → Addr) (h : Errs w A) (hn : n ≤ maxLen) (h4 : 400 < n) :
    Calls Tryd.prog 3 #[.slice a n c, .int .i64 k] w fun e w' => e = .returned (.bool true) ∧ Below w.heap.size w w' := by
  unfold maxLen at hn
  have HA : Hid (Errs w A) := h
  clear h
  go_enter Tryd.func3, Tryd.ntmps3
  go_wp2_with (go_at_call 9; refine (nine_any _ _ _ (errs_cell HA.out 2 (by omega))).mono ?_; rintro e w1 ⟨rfl, hb1⟩)
  go_ret
  exact ⟨rfl, hb1⟩
theorem bound_cases {k : Int} (h : ¬ (0 ≤ k ∧ k ≤ 32)) : decide (k < 0) = true ∨ (decide (k < 0) = false ∧ decide (32 < k) = true) := by
  by_cases h0 : k < 0
  · left; simpa using h0
  · right; exact ⟨by simp; omega, by simp; omega⟩
set_option maxRecDepth 100000 in
set_option maxHeartbeats 1600000 in
/-- A width that is none. -/
theorem bitsPack_bound (a : Option Addr) (c : Nat) (xs : List Int) (k : Int) (w : World) (A : Nat → Addr) (h : Errs w A) (h4 : xs.length ≤ 400) (hl : Lies w a (i64s xs)) (hk : ¬ (0 ≤ k ∧ k ≤ 32)) :
    Calls Tryd.prog 3 #[.slice a xs.length c, .int .i64 k] w fun e w' => e = .returned (.bool true) ∧ Below w.heap.size w w' := by
  have HA : Hid (Errs w A) := h
  have HL : Hid (Lies w a (i64s xs)) := hl
  have HK : Hid (¬ (0 ≤ k ∧ k ≤ 32)) := hk
  clear h hl hk
  go_enter Tryd.func3, Tryd.ntmps3
  go_wp2_with fail
  refine (nine_any _ _ _ (errs_cell HA.out 2 (by omega))).mono ?_
  rintro e w1 ⟨rfl, hb1⟩
  go_wp2_with fail
  refine (bitsError_bound a xs.length c k w1 ((bound_cases HK.out).imp id (fun h => Or.inl h))).mono ?_
  rintro e w2 ⟨rfl, hb2⟩
  have hb12 := hb1.trans (hb2.mono hb1.size)
  go_wp2_with fail
  refine (ints_any a c xs _ (by omega) (HL.out.keep (hb12.alloc hb12.size _))).mono ?_
  rintro e w3 ⟨⟨a3, c3, rfl, hl3⟩, hb3⟩
  have hb13 := (hb12.alloc hb12.size (.cells (rfl2 2 (-1)) 25)).trans (hb3.mono (hb12.alloc hb12.size _).size)
  have hE3 := HA.out.keep hb13
  have hrow : w3.heap[w2.heap.size]? = some (.cells (rfl2 2 (-1)) 25 (0, 0)) := (hb3.block w2.heap.size (by simp)).trans (heap_alloc_new w2 _)
  obtain ⟨⟨c0, c1⟩, _, _⟩ := row_two hrow
  clear hrow
  go_wp2_with fail
  refine (packF_bound a3 xs.length c3 k w3 _ _ (by unfold maxLen; omega) (errs_cell hE3 1 (by omega)) (Or.inl (decide_eq_false HK.out))).mono ?_
  rintro e w4 ⟨rfl, hw⟩
  obtain rfl := hw.symm
  go_wp2_with fail
  refine (faulted_sent w3 A hE3 1 (by omega) 2 (by omega)).mono ?_
  rintro e w5 ⟨rfl, hb5⟩
  go_wp2_with fail
  go_ret
  exact ⟨rfl, hb13.trans (hb5.mono hb13.size)⟩
set_option maxRecDepth 100000 in
set_option maxHeartbeats 1600000 in
/-- A right width. -/
theorem bitsPack_right (a : Option Addr) (c : Nat) (xs : List Int) (k : Nat) (w : World) (A : Nat → Addr) (h : Errs w A) (h4 : xs.length ≤ 400) (hl : Lies w a (i64s xs)) (hk : k ≤ 32) (hx : ∀ j (h : j < xs.length), -9223372036854775808 ≤ xs[j] ∧ xs[j] ≤ 9223372036854775807) :
    Calls Tryd.prog 3 #[.slice a xs.length c, .int .i64 k] w fun e w' => e = .returned (.bool true) ∧ Below w.heap.size w w' := by
  have HA : Hid (Errs w A) := h
  have HL : Hid (Lies w a (i64s xs)) := hl
  have HX : Hid (∀ j (h : j < xs.length), -9223372036854775808 ≤ xs[j] ∧ xs[j] ≤ 9223372036854775807) := hx
  clear h hl hx
  go_enter Tryd.func3, Tryd.ntmps3
  go_wp2_with fail
  refine (nine_any _ _ _ (errs_cell HA.out 2 (by omega))).mono ?_
  rintro e w1 ⟨rfl, hb1⟩
  go_wp2_with fail
  refine (bitsError_any a c xs k w1 (by omega) hk (HL.out.keep hb1)).mono ?_
  rintro e w2 ⟨⟨rfl, hR⟩ | ⟨i, hi, rfl, hR, hN⟩, hb2⟩
  · have HR : Hid (∀ j (h : j < xs.length), Room k xs[j]) := hR
    clear hR
    have hb12 := hb1.trans (hb2.mono hb1.size)
    go_wp2_with fail
    refine (ints_any a c xs _ (by omega) (HL.out.keep (hb12.alloc hb12.size _))).mono ?_
    rintro e w3 ⟨⟨a3, c3, rfl, hl3⟩, hb3⟩
    have hb13 := (hb12.alloc hb12.size (.cells (rfl2 0 (-1)) 25)).trans (hb3.mono (hb12.alloc hb12.size _).size)
    have hE3 := HA.out.keep hb13
    have hrow : w3.heap[w2.heap.size]? = some (.cells (rfl2 0 (-1)) 25 (0, 0)) := (hb3.block w2.heap.size (by simp)).trans (heap_alloc_new w2 _)
    have HRow : Hid (w3.heap[w2.heap.size]? = some (.cells (rfl2 0 (-1)) 25 (0, 0))) := hrow
    have hlt3 : w2.heap.size < w3.heap.size := (Array.getElem?_eq_some_iff.1 hrow).1
    clear hrow
    go_wp2_with fail
    refine (packF_any a3 xs c3 k w3 _ _ (by omega) hk (errs_cell hE3 2 (by omega)) HX.out (lies_ints hl3)).mono ?_
    rintro e w4 ⟨⟨rfl, _⟩ | ⟨i, p, hi, rfl, _, hN, _, _⟩, hb4⟩
    · have hb14 := hb13.trans (hb4.mono hb13.size)
      obtain ⟨⟨c0, c1⟩, _, _⟩ := row_two ((hb4.block w2.heap.size hlt3).trans HRow.out)
      have hlw := HL.out.keep hb14
      have HW : Hid (Lies w4 a (i64s xs)) := hlw
      clear hlw
      go_wp2_with fail
      refine (wide_any a c xs w4 (by omega) HW.out (fun j h => ⟨(HR.out j h).1, (HX.out j h).2⟩)).mono ?_
      rintro e w5 ⟨⟨a5, c5, rfl, hl5⟩, hb5⟩
      have HW5 : Hid (Lies w5 a5 (u64s (nats xs))) := hl5
      clear hl5
      go_wp2_with fail
      have hp := packOf_any a5 c5 (nats xs) k w5 (by rw [nats_len]; omega) (by omega) (nats_lt HR.out) HW5.out
      rw [nats_len] at hp
      refine hp.mono ?_
      rintro e w6 ⟨rfl, hb6⟩
      have hb15 := hb14.trans (hb5.mono hb14.size)
      go_wp2_with fail
      go_ret
      exact ⟨by unfold packed; simp, hb15.trans (hb6.mono hb15.size)⟩
    · exact absurd (HR.out i hi) hN
  · have HR : Hid (∀ j (h : j < xs.length), j < i → Room k xs[j]) := hR
    have HN : Hid (¬ Room k xs[i]) := hN
    clear hR hN
    have hb12 := hb1.trans (hb2.mono hb1.size)
    go_wp2_with fail
    refine (ints_any a c xs _ (by omega) (HL.out.keep (hb12.alloc hb12.size _))).mono ?_
    rintro e w3 ⟨⟨a3, c3, rfl, hl3⟩, hb3⟩
    have hb13 := (hb12.alloc hb12.size (.cells (rfl2 3 i) 25)).trans (hb3.mono (hb12.alloc hb12.size _).size)
    have hE3 := HA.out.keep hb13
    have hrow : w3.heap[w2.heap.size]? = some (.cells (rfl2 3 i) 25 (0, 0)) := (hb3.block w2.heap.size (by simp)).trans (heap_alloc_new w2 _)
    have HRow : Hid (w3.heap[w2.heap.size]? = some (.cells (rfl2 3 i) 25 (0, 0))) := hrow
    have hlt3 : w2.heap.size < w3.heap.size := (Array.getElem?_eq_some_iff.1 hrow).1
    clear hrow
    go_wp2_with fail
    refine (packF_any a3 xs c3 k w3 _ _ (by omega) hk (errs_cell hE3 2 (by omega)) HX.out (lies_ints hl3)).mono ?_
    rintro e w4 ⟨⟨rfl, hall⟩ | ⟨i2, p, hi2, rfl, hR2, hN2, hp0, hp1⟩, hb4⟩
    · exact absurd (hall i hi) HN.out
    · have hii : i2 = i := by
        by_cases hlt : i2 < i
        · exact absurd (HR.out i2 hi2 hlt) hN2
        · by_cases hgt : i < i2
          · exact absurd (hR2 i hi hgt) HN.out
          · omega
      subst hii
      have hb14 := hb13.trans (hb4.mono hb13.size)
      obtain ⟨⟨c0, c1⟩, _, _⟩ := row_two ((hb4.block w2.heap.size hlt3).trans HRow.out)
      have hE4 := hE3.keep hb4
      have H0 : Hid (w4.cell? ⟨p, 0, none⟩ = some (.int .i64 i2)) := hp0
      have H1 : Hid (w4.cell? ⟨p, 1, none⟩ = some (errV (A 2))) := hp1
      clear hp0 hp1
      go_wp2_with fail
      refine (faulted_fault w4 A hE4 2 p (by omega) i2 H0.out H1.out 3 (by omega)).mono ?_
      rintro e w5 ⟨rfl, hb5⟩
      go_wp2_with fail
      go_ret
      exact ⟨rfl, hb14.trans (hb5.mono hb14.size)⟩
end Go.Proofs.YtgmglgepmdmmeaaDoor
