/-
  The walk of the law BitsReads.
-/
import Derived.Test.YtgmglgepmdmmeaaDoorRunsRd
import Derived.Test.YtgmglgepmdmmeaaDoorRefErr
import Derived.Test.YtgmglgepmdmmeaaDoorLaid8
import Derived.Test.YtgmglgepmdmmeaaDoorSameInts
import Derived.OpenShut
namespace Go.Proofs.YtgmglgepmdmmeaaDoor
open Go.RowKit
set_option linter.unusedVariables false
theorem err_at {w : World} {A : Nat → Addr} (h : Errs w A) (i : Nat) (hi : i < 8) : w.cell? ⟨errG i, 0, none⟩ = some (errV (A i)) := (h.at_ i hi).var
/-- SameInts of the same numbers. -/
theorem sameInts_lies (w : World) (a1 a2 : Option Addr) (c1 c2 : Nat) (xs : List Int) (n1 n2 : Nat) (e1 : n1 = xs.length) (e2 : n2 = xs.length) (hm : xs.length ≤ maxLen) (h1 : Lies w a1 (i64s xs)) (h2 : Lies w a2 (i64s xs)) :
    Calls Tryd.prog 23 #[.slice a1 n1 c1, .slice a2 n2 c2] w fun e w' => e = .returned (.bool true) ∧ Below w.heap.size w w' := by
  subst e1 e2
  by_cases h0 : xs.length = 0
  · rw [h0]
    refine (sameInts_empty w a1 a2 c1 c2).mono ?_
    rintro e w' ⟨rfl, rfl⟩
    exact ⟨rfl, Below.refl _ _⟩
  · obtain ⟨b1, o1, rfl, _⟩ := lies_ints h1 0 (by omega)
    obtain ⟨b2, o2, rfl, _⟩ := lies_ints h2 0 (by omega)
    have h := sameInts_loop w b1 o1 c1 b2 o2 c2 xs xs rfl hm (fun j hj => by
      obtain ⟨b, o, e, hc⟩ := lies_ints h1 j hj
      obtain ⟨rfl, rfl⟩ : b1 = b ∧ o1 = o := by injection e with e; injection e with x y; exact ⟨x, y⟩
      exact hc) (fun j hj => by
      obtain ⟨b, o, e, hc⟩ := lies_ints h2 j hj
      obtain ⟨rfl, rfl⟩ : b2 = b ∧ o2 = o := by injection e with e; injection e with x y; exact ⟨x, y⟩
      exact hc)
    simpa using h
set_option maxRecDepth 100000 in
set_option maxHeartbeats 1600000 in
theorem bitsReads_none (s : ByteArray) (k n : Int) (w : World) (A : Nat → Addr) (h : Errs w A) (hs : s.size ≤ maxLen) (h4 : 1000 < s.size ∨ s.size ≤ 1000 ∧ 1000 < n ∧ n ≤ 20000) :
    Calls Tryd.prog 6 #[.string s, .int .i64 k, .int .i64 n] w fun e w' => e = .returned (.bool true) ∧ Below w.heap.size w w' := by
  unfold maxLen at hs
  have HA : Hid (Errs w A) := h
  clear h
  rcases h4 with h4 | ⟨h4, h5, h6⟩
  all_goals
    go_enter Tryd.func6, Tryd.ntmps6
    go_wp2_with (go_at_call 9; refine (nine_any _ _ _ (err_at HA.out 2 (by omega))).mono ?_; rintro e w1 ⟨rfl, hb1⟩)
    go_ret
    exact ⟨rfl, hb1⟩
set_option maxRecDepth 100000 in
set_option maxHeartbeats 1600000 in
theorem bitsReads_bound (s : ByteArray) (k n : Int) (w : World) (A : Nat → Addr) (h : Errs w A) (hs : s.size ≤ 1000) (hn : ¬ (1000 < n ∧ n ≤ 20000)) (hk : ¬ (0 ≤ k ∧ k ≤ 32) ∨ (0 ≤ k ∧ k ≤ 32) ∧ ¬ (0 ≤ n ∧ n ≤ 20000)) :
    Calls Tryd.prog 6 #[.string s, .int .i64 k, .int .i64 n] w fun e w' => e = .returned (.bool true) ∧ Below w.heap.size w w' := by
  have HA : Hid (Errs w A) := h
  have HK : Hid (decide (0 ≤ k ∧ k ≤ 32) = false ∨ decide (0 ≤ k ∧ k ≤ 32) = true ∧ decide (0 ≤ n ∧ n ≤ 20000) = false) := by
    rcases hk with h | ⟨h, h'⟩
    · exact Or.inl (decide_eq_false h)
    · exact Or.inr ⟨decide_eq_true h, decide_eq_false h'⟩
  have hs1 : (decide ((1000 : Int) < s.size)) = false := by simp; omega
  have hc1 : decide (1000 < n) = false ∨ decide (1000 < n) = true ∧ decide (n ≤ 20000) = false := by
    by_cases h : 1000 < n
    · exact Or.inr ⟨decide_eq_true h, decide_eq_false (by omega)⟩
    · exact Or.inl (decide_eq_false h)
  have hc2 : decide (k < 0) = true ∨ (decide (k < 0) = false ∧ decide (32 < k) = true) ∨ (decide (k < 0) = false ∧ decide (32 < k) = false ∧ decide (n < 0) = true) ∨ (decide (k < 0) = false ∧ decide (32 < k) = false ∧ decide (n < 0) = false ∧ decide (20000 < n) = true) := by
    by_cases h1 : k < 0
    · exact Or.inl (decide_eq_true h1)
    · by_cases h2 : 32 < k
      · exact Or.inr (Or.inl ⟨decide_eq_false h1, decide_eq_true h2⟩)
      · by_cases h3 : n < 0
        · exact Or.inr (Or.inr (Or.inl ⟨decide_eq_false h1, decide_eq_false h2, decide_eq_true h3⟩))
        · exact Or.inr (Or.inr (Or.inr ⟨decide_eq_false h1, decide_eq_false h2, decide_eq_false h3, decide_eq_true (by omega)⟩))
  clear h hk hn hs
  go_enter Tryd.func6, Tryd.ntmps6
  go_wp2_with fail
  refine (nine_any _ _ _ (err_at HA.out 2 (by omega))).mono ?_
  rintro e w1 ⟨rfl, hb1⟩
  have hE1 := HA.out.keep hb1
  rcases hc1 with q | ⟨q, q'⟩
  all_goals
    go_wp2_with fail
    refine (readRuns_bound s k n w1 _ _ (err_at hE1 1 (by omega)) HK.out).mono ?_
    rintro e w2 ⟨rfl, hb2⟩
    have hb12 := hb1.trans (hb2.mono hb1.size)
    have hE2 := hE1.keep hb2
    rcases hc2 with r1 | ⟨r1, r2⟩ | ⟨r1, r2, r3⟩ | ⟨r1, r2, r3, r4⟩
    all_goals
      go_wp2_with fail
      refine (coded_sent w2 A hE2 1 (by omega) 2 true (by decide)).mono ?_
      rintro e w3 ⟨rfl, hb3⟩
      go_wp2_with fail
      go_ret
      exact ⟨rfl, hb12.trans (hb3.mono hb12.size)⟩
set_option maxRecDepth 100000 in
set_option maxHeartbeats 1600000 in
theorem bitsReads_right (s : ByteArray) (k n : Nat) (w : World) (A : Nat → Addr) (h : Errs w A) (hs : s.size ≤ 1000) (hk : k ≤ 32) (hn : n ≤ 1000) :
    Calls Tryd.prog 6 #[.string s, .int .i64 k, .int .i64 n] w fun e w' => e = .returned (.bool true) ∧ Below w.heap.size w w' := by
  have HA : Hid (Errs w A) := h
  clear h
  go_enter Tryd.func6, Tryd.ntmps6
  go_wp2_with fail
  refine (nine_any _ _ _ (err_at HA.out 2 (by omega))).mono ?_
  rintro e w1 ⟨rfl, hb1⟩
  have hE1 := HA.out.keep hb1
  go_wp2_with fail
  refine (readRuns_any s k n w1 _ _ (by omega) hk (by omega) (err_at hE1 0 (by omega))).mono ?_
  rintro e w2 ⟨hret, hb2⟩
  have hb12 := hb1.trans (hb2.mono hb1.size)
  have hE2 := hE1.keep hb2
  rcases retPart_map hret with ⟨hpn, rfl⟩ | ⟨p, u, a, c, hpn, rfl, hl⟩
  · have HN : Hid (Um.runs s.data.toList k n = none) := hpn
    clear hpn hret
    go_wp2_with fail
    refine (readRunsOf_any s k n w2 hs hk (by omega)).mono ?_
    rw [HN.out]
    rintro e w3 ⟨rfl, hb3⟩
    have hb13 := hb12.trans (hb3.mono hb12.size)
    have hE3 := hE2.keep hb3
    go_wp2_with fail
    refine (coded_sent w3 A hE3 0 (by omega) 1 true (by decide)).mono ?_
    rintro e w4 ⟨rfl, hb4⟩
    go_wp2_with fail
    go_ret
    exact ⟨rfl, hb13.trans (hb4.mono hb13.size)⟩
  · have HN : Hid (Um.runs s.data.toList k n = some (p, u)) := hpn
    have HL : Hid (Lies w2 a (i64s (p.map fun n : Nat => (n : Int)))) := hl
    clear hpn hret hl
    go_wp2_with fail
    refine (readRunsOf_any s k n w2 hs hk (by omega)).mono ?_
    rw [HN.out]
    rintro e w3 ⟨⟨a3, c3, rfl, hl3⟩, hb3⟩
    have hb13 := hb12.trans (hb3.mono hb12.size)
    have HL3 : Hid (Lies w3 a3 (i64s (p.map fun n : Nat => (n : Int)))) := hl3
    have HL2 : Hid (Lies w3 a (i64s (p.map fun n : Nat => (n : Int)))) := HL.out.keep hb3
    have hpl : p.length ≤ n := Um.runs_len HN.out
    clear hl3
    go_wp2_with fail
    refine (sameInts_lies w3 a a3 c c3 (p.map fun n : Nat => (n : Int)) p.length p.length (by simp) (by simp) (by unfold maxLen; simp; omega) HL2.out HL3.out).mono ?_
    rintro e w4 ⟨rfl, hb4⟩
    go_wp2_with fail
    go_ret
    exact ⟨rfl, hb13.trans (hb4.mono hb13.size)⟩
theorem bitsReads_top (s : ByteArray) (k n : Int) (w : World) (hs : s.size ≤ maxLen) (hL : laidMetH Tryd.prog Rows.bitsReadsRow.laid w) :
    Calls Tryd.prog 6 #[.string s, .int .i64 k, .int .i64 n] w fun e w' => e = .returned (.bool true) ∧ Below w.heap.size w w' := by
  obtain ⟨A, hE⟩ := errs_of hL
  by_cases h4 : 1000 < s.size ∨ s.size ≤ 1000 ∧ 1000 < n ∧ n ≤ 20000
  · exact bitsReads_none s k n w A hE hs h4
  · by_cases hk : 0 ≤ k ∧ k ≤ 32
    · by_cases hn : 0 ≤ n ∧ n ≤ 20000
      · obtain ⟨k', rfl⟩ : ∃ m : Nat, k = m := ⟨k.toNat, by omega⟩
        obtain ⟨n', rfl⟩ : ∃ m : Nat, n = m := ⟨n.toNat, by omega⟩
        exact bitsReads_right s k' n' w A hE (by omega) (by omega) (by omega)
      · exact bitsReads_bound s k n w A hE (by omega) (by omega) (Or.inr ⟨hk, hn⟩)
    · exact bitsReads_bound s k n w A hE (by omega) (by omega) (Or.inl hk)
end Go.Proofs.YtgmglgepmdmmeaaDoor
