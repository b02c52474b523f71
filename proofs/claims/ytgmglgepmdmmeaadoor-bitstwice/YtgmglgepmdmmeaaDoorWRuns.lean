/-
  The walk of the law BitsRuns.
-/
import Derived.Test.YtgmglgepmdmmeaaDoorRuns
import Derived.Test.YtgmglgepmdmmeaaDoorWRunsB
namespace Go.Proofs.YtgmglgepmdmmeaaDoor
open Go.RowKit
/-- What is returned is a slice with these cells, within its capacity. -/
def RetSlC (e : Ending) (w' : World) (n : Nat) (cs : List Value) : Prop := ∃ a c, n ≤ c ∧ e = .returned (.slice a n c) ∧ Lies w' a cs
theorem lies_own_cap {w : World} {base e n : Nat} {v : Value} {cs : List Value} (h : w.ownsRow base e 1 v n cs) : ∃ a c, cs.length ≤ c ∧ v = .slice a cs.length c ∧ Lies w a cs := by
  obtain ⟨a, c, hv, hl⟩ := lies_own h
  refine ⟨a, c, ?_, hv, hl⟩
  have hn := h.1
  rw [Nat.mul_one] at hn
  rcases h.2 with ⟨h1, h2⟩ | ⟨g, cap, cur, h1, _, _, hnc, _⟩
  · omega
  · rw [h1] at hv
    injection hv with _ _ h3
    omega
set_option maxRecDepth 100000 in
/-- ints: a copy, within its capacity. -/
theorem ints_cap (a : Option Addr) (c : Nat) (xs : List Int) (w : World) (hn : xs.length ≤ 20000) (h : Lies w a (i64s xs)) :
    Calls Tryd.prog 12 #[.slice a xs.length c] w fun e w' => RetSlC e w' xs.length (i64s xs) ∧ Below w.heap.size w w' := by
  obtain ⟨i0, hi, hz0, hz1, hz2⟩ := info_parts Tryd.info3
  have HL : Hid (Lies w a (i64s xs)) := h
  clear h
  cases a with
  | none =>
    have h0 : xs.length = 0 := by
      by_cases h : 0 < xs.length
      · obtain ⟨b, o, e, _⟩ := HL.out 0 (by rw [i64s_len]; exact h)
        cases e
      · omega
    obtain rfl : xs = [] := List.eq_nil_of_length_eq_zero h0
    go_enter Tryd.func12, Tryd.ntmps12
    have hap : ∀ W : World, (Builtin.append_ #[22, 22] 22 #[.slice none 0 0, .slice none 0 c]).run Tryd.prog W = .ok (.slice none 0 0) W := fun W => by
      simp [Builtin.append_, run_underlying Tryd.underlying22, sizeOf, typeInfo, hi, Builtin.lenOf, Builtin.firstCells]
    go_wp2_with (at_builtin; refine Lib.wpList_append_run _ rfl _ _ 22 22 rfl _ _ rfl rfl _ _ (hap _) ?_)
    go_ret
    exact ⟨⟨none, 0, Nat.le_refl _, rfl, fun j hj => absurd hj (by simp [i64s])⟩, Below.refl _ _⟩
  | some ad =>
    have hn' : ∀ j u, (i64s xs)[j]? = some u → w.cell? (ad.add j) = some u := fun j u hu => by
      obtain ⟨hj, rfl⟩ := List.getElem?_eq_some_iff.1 hu
      obtain ⟨b, o, e, hc⟩ := HL.out j hj
      obtain rfl := Option.some.inj e
      rw [addr_add]; exact hc
    go_enter Tryd.func12, Tryd.ntmps12
    go_wp2_with (at_builtin; refine wpList_append_own _ rfl _ _ 22 rfl w.heap.size 3 i0 (.int .i64 0) 1 8 Tryd.underlying22 hi hz0 hz1 hz2 rfl (by decide) (.slice none 0 0) 0 [] rfl (World.ownsRow_nil w w.heap.size 3 1) ad xs.length c (i64s xs) rfl (by rw [i64s_len, Nat.mul_one]) hn' (by intro u hu; obtain ⟨x, _, rfl⟩ := List.mem_map.1 hu; rfl) (by unfold maxLen; omega) (by omega) (Nat.le_refl _) ?_; intro v' w1 hown hgrow _)
    rw [List.nil_append] at hown
    obtain ⟨a', c', hcc, rfl, hl⟩ := lies_own_cap hown
    go_ret
    exact ⟨⟨a', c', by rw [i64s_len] at hcc; exact hcc, by rw [i64s_len]; rfl, hl⟩, (Below.refl _ _).grown hgrow (Nat.le_refl _) (fun k hk => by simp [Value.ownBlock] at hk)⟩
set_option maxRecDepth 100000 in
set_option maxHeartbeats 800000 in
/-- Of more than 400 numbers nothing is said. -/
theorem bitsRuns_none (a : Option Addr) (n c : Nat) (k : Int) (w : World) (A : Nat → Addr) (h : Errs w A) (hn : n ≤ maxLen) (h4 : 400 < n) :
    Calls Tryd.prog 4 #[.slice a n c, .int .i64 k] w fun e w' => e = .returned (.bool true) ∧ Below w.heap.size w w' := by
  unfold maxLen at hn
  have HA : Hid (Errs w A) := h
  clear h
  go_enter Tryd.func4, Tryd.ntmps4
  go_wp2_with (go_at_call 9; refine (nine_any _ _ _ (err_of HA.out 2 (by omega))).mono ?_; rintro e w1 ⟨rfl, hb1⟩)
  go_ret
  exact ⟨rfl, hb1⟩
theorem bound_case2 {k : Int} (h : ¬ (0 ≤ k ∧ k ≤ 32)) : decide (k < 0) = true ∨ (decide (k < 0) = false ∧ decide (32 < k) = true) := by
  by_cases h0 : k < 0
  · left; simpa using h0
  · right; exact ⟨by simp; omega, by simp; omega⟩
set_option maxRecDepth 100000 in
set_option maxHeartbeats 1600000 in
/-- A width that is none. -/
theorem bitsRuns_bound (a : Option Addr) (c : Nat) (xs : List Int) (k : Int) (w : World) (A : Nat → Addr) (h : Errs w A) (h4 : xs.length ≤ 400) (hl : Lies w a (i64s xs)) (hk : ¬ (0 ≤ k ∧ k ≤ 32)) :
    Calls Tryd.prog 4 #[.slice a xs.length c, .int .i64 k] w fun e w' => e = .returned (.bool true) ∧ Below w.heap.size w w' := by
  have HA : Hid (Errs w A) := h
  have HL : Hid (Lies w a (i64s xs)) := hl
  have HK : Hid (¬ (0 ≤ k ∧ k ≤ 32)) := hk
  clear h hl hk
  go_enter Tryd.func4, Tryd.ntmps4
  go_wp2_with fail
  refine (nine_any _ _ _ (err_of HA.out 2 (by omega))).mono ?_
  rintro e w1 ⟨rfl, hb1⟩
  go_wp2_with fail
  refine (bitsError_bound a xs.length c k w1 ((bound_case2 HK.out).imp id (fun h => Or.inl h))).mono ?_
  rintro e w2 ⟨rfl, hb2⟩
  have hb12 := hb1.trans (hb2.mono hb1.size)
  go_wp2_with fail
  refine (ints_cap a c xs _ (by omega) (HL.out.keep (hb12.alloc hb12.size _))).mono ?_
  rintro e w3 ⟨⟨a3, c3, hcap, rfl, hl3⟩, hb3⟩
  have hb13 := (hb12.alloc hb12.size (.cells (rfl2 2 (-1)) 25)).trans (hb3.mono (hb12.alloc hb12.size _).size)
  have hE3 := HA.out.keep hb13
  have hrow : w3.heap[w2.heap.size]? = some (.cells (rfl2 2 (-1)) 25 (0, 0)) := (hb3.block w2.heap.size (by simp)).trans (heap_alloc_new w2 _)
  have HRow : Hid (w3.heap[w2.heap.size]? = some (.cells (rfl2 2 (-1)) 25 (0, 0))) := hrow
  have hlt3 : w2.heap.size < w3.heap.size := (Array.getElem?_eq_some_iff.1 hrow).1
  clear hrow
  go_wp2_with fail
  refine (runsF_bound a3 xs.length c3 k w3 _ _ (by unfold maxLen; omega) (err_of hE3 1 (by omega)) (Or.inl (decide_eq_false HK.out))).mono ?_
  rintro e w4 ⟨rfl, hb4⟩
  have hb14 := hb13.trans (hb4.mono hb13.size)
  have hE4 := hE3.keep hb4
  obtain ⟨⟨c0, c1⟩, _, _⟩ := row_two ((hb4.block w2.heap.size hlt3).trans HRow.out)
  go_wp2_with fail
  refine (faulted_sent w4 A hE4 1 (by omega) 2 (by omega)).mono ?_
  rintro e w5 ⟨rfl, hb5⟩
  go_wp2_with fail
  go_ret
  exact ⟨rfl, hb14.trans (hb5.mono hb14.size)⟩
set_option maxRecDepth 100000 in
set_option maxHeartbeats 1600000 in
/-- A right width. -/
theorem bitsRuns_right (a : Option Addr) (c : Nat) (xs : List Int) (k : Nat) (w : World) (A : Nat → Addr) (h : Errs w A) (h4 : xs.length ≤ 400) (hl : Lies w a (i64s xs)) (hk : k ≤ 32) (hx : ∀ j (h : j < xs.length), -9223372036854775808 ≤ xs[j] ∧ xs[j] ≤ 9223372036854775807) :
    Calls Tryd.prog 4 #[.slice a xs.length c, .int .i64 k] w fun e w' => e = .returned (.bool true) ∧ Below w.heap.size w w' := by
  have HA : Hid (Errs w A) := h
  have HL : Hid (Lies w a (i64s xs)) := hl
  have HX : Hid (∀ j (h : j < xs.length), -9223372036854775808 ≤ xs[j] ∧ xs[j] ≤ 9223372036854775807) := hx
  clear h hl hx
  go_enter Tryd.func4, Tryd.ntmps4
  go_wp2_with fail
  refine (nine_any _ _ _ (err_of HA.out 2 (by omega))).mono ?_
  rintro e w1 ⟨rfl, hb1⟩
  go_wp2_with fail
  refine (bitsError_any a c xs k w1 (by omega) hk (HL.out.keep hb1)).mono ?_
  rintro e w2 ⟨⟨rfl, hR⟩ | ⟨i, hi, rfl, hR, hN⟩, hb2⟩
  · have HR : Hid (∀ j (h : j < xs.length), Room k xs[j]) := hR
    clear hR
    have hb12 := hb1.trans (hb2.mono hb1.size)
    go_wp2_with fail
    refine (ints_cap a c xs _ (by omega) (HL.out.keep (hb12.alloc hb12.size _))).mono ?_
    rintro e w3 ⟨⟨a3, c3, hcap, rfl, hl3⟩, hb3⟩
    have hb13 := (hb12.alloc hb12.size (.cells (rfl2 0 (-1)) 25)).trans (hb3.mono (hb12.alloc hb12.size _).size)
    have hE3 := HA.out.keep hb13
    have hrow : w3.heap[w2.heap.size]? = some (.cells (rfl2 0 (-1)) 25 (0, 0)) := (hb3.block w2.heap.size (by simp)).trans (heap_alloc_new w2 _)
    have HRow : Hid (w3.heap[w2.heap.size]? = some (.cells (rfl2 0 (-1)) 25 (0, 0))) := hrow
    have hlt3 : w2.heap.size < w3.heap.size := (Array.getElem?_eq_some_iff.1 hrow).1
    clear hrow
    go_wp2_with fail
    refine (runsF_any a3 xs c3 k w3 _ _ (by omega) hcap hk (err_of hE3 2 (by omega)) HX.out hl3).mono ?_
    rintro e w4 ⟨⟨rfl, _⟩ | ⟨i, p, hi, rfl, _, hN, _, _⟩, hb4⟩
    · have hb14 := hb13.trans (hb4.mono hb13.size)
      obtain ⟨⟨c0, c1⟩, _, _⟩ := row_two ((hb4.block w2.heap.size hlt3).trans HRow.out)
      have hlw := HL.out.keep hb14
      have HW : Hid (Lies w4 a (i64s xs)) := hlw
      clear hlw
      go_wp2_with fail
      refine (runsOf_any a c xs k w4 h4 hk HR.out HW.out).mono ?_
      rintro e w5 ⟨rfl, hb5⟩
      go_wp2_with fail
      go_ret
      exact ⟨by simp, hb14.trans (hb5.mono hb14.size)⟩
    · exact absurd (HR.out i hi) hN
  · have HR : Hid (∀ j (h : j < xs.length), j < i → Room k xs[j]) := hR
    have HN : Hid (¬ Room k xs[i]) := hN
    clear hR hN
    have hb12 := hb1.trans (hb2.mono hb1.size)
    go_wp2_with fail
    refine (ints_cap a c xs _ (by omega) (HL.out.keep (hb12.alloc hb12.size _))).mono ?_
    rintro e w3 ⟨⟨a3, c3, hcap, rfl, hl3⟩, hb3⟩
    have hb13 := (hb12.alloc hb12.size (.cells (rfl2 3 i) 25)).trans (hb3.mono (hb12.alloc hb12.size _).size)
    have hE3 := HA.out.keep hb13
    have hrow : w3.heap[w2.heap.size]? = some (.cells (rfl2 3 i) 25 (0, 0)) := (hb3.block w2.heap.size (by simp)).trans (heap_alloc_new w2 _)
    have HRow : Hid (w3.heap[w2.heap.size]? = some (.cells (rfl2 3 i) 25 (0, 0))) := hrow
    have hlt3 : w2.heap.size < w3.heap.size := (Array.getElem?_eq_some_iff.1 hrow).1
    clear hrow
    go_wp2_with fail
    refine (runsF_any a3 xs c3 k w3 _ _ (by omega) hcap hk (err_of hE3 2 (by omega)) HX.out hl3).mono ?_
    rintro e w4 ⟨⟨rfl, hall⟩ | ⟨i2, p, hi2, rfl, hR2, hN2, hp0, hp1⟩, hb4⟩
    · exact absurd (hall i hi) HN.out
    · have hii : i2 = i := by
        by_cases hlt : i2 < i
        · exact absurd (HR.out i2 hi2 hlt) hN2
        · by_cases hgt : i < i2
          · exact absurd (hR2 i hi hgt) HN.out
          · omega
      subst hii
      have hb14 := hb13.trans (hb4.mono hb13.size)
      obtain ⟨⟨c0, c1⟩, _, _⟩ := row_two ((hb4.block w2.heap.size hlt3).trans HRow.out)
      have hE4 := hE3.keep hb4
      have H0 : Hid (w4.cell? ⟨p, 0, none⟩ = some (.int .i64 i2)) := hp0
      have H1 : Hid (w4.cell? ⟨p, 1, none⟩ = some (errV (A 2))) := hp1
      clear hp0 hp1
      go_wp2_with fail
      refine (faulted_fault w4 A hE4 2 p (by omega) i2 H0.out H1.out 3 (by omega)).mono ?_
      rintro e w5 ⟨rfl, hb5⟩
      go_wp2_with fail
      go_ret
      exact ⟨rfl, hb14.trans (hb5.mono hb14.size)⟩
end Go.Proofs.YtgmglgepmdmmeaaDoor
