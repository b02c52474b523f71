/-
  The reader of a schema's text: its next word.
-/
import Derived.Test.YtlncenjaplaokaaDoorPSWord
import Derived.Test.YtlncenjaplaokaaDoorPOwn
import Derived.BigQuiet
namespace Go.Proofs.YtlncenjaplaokaaDoor
open Go.RowKit
theorem below_dN {B : Nat} {a w : World} (h : Below B a w) (n : Nat) : Below B a (w.drewN n) := h.trans ⟨rfl, rfl, rfl, Nat.le_refl _, fun _ _ => rfl⟩
/-- A word stands from a place up to another one, behind blanks. -/
structure WdAt (s : ByteArray) (p a n : Nat) : Prop where
  pa : p ≤ a
  an : a ≤ n
  ns : n ≤ s.size
  bl : ∀ k (h : k < s.size), p ≤ k → k < a → isBl s[k] = true
  st : ∀ h : a < s.size, isBl s[a] = false
  we : ∀ W : World, Calls Tryd.prog 42 #[.string s, .int .i64 (a : Nat)] W fun e w' => e = .returned (.int .i64 (n : Nat)) ∧ w' = W
set_option maxRecDepth 100000 in
set_option maxHeartbeats 3200000 in
theorem next_any (r : Nat) (s : ByteArray) (p a n : Nat) (fv : Value) (W : World) (hr : W.heap[r]? = some (.cells #[.string s, .int .i64 (p : Nat), fv] 42 (0, 0))) (hm : s.size ≤ 100000) (h : WdAt s p a n) :
    Calls Tryd.prog (23) #[.pointer (some ⟨r, 0, none⟩)] W fun e w' => e = .returned (.tuple #[.string (s.extract a n), .int .i64 (a : Nat)]) ∧ Below W.heap.size W w' := by
  obtain ⟨c0, c1, c2⟩ := row_three hr
  have HH : Hid _ := h
  obtain ⟨hpa, han, hns, _, _, _⟩ := h
  clear hr
  go_enter Tryd.func23, Tryd.ntmps23
  go_wp2_with fail
  go_loop [3] (fun x => ∃ k : Nat, p ≤ k ∧ k ≤ a ∧ x = .int .i64 k) (fun x => a - (intOf x).toNat)
  case atStart => exact ⟨p, Nat.le_refl _, hpa, rfl⟩
  case round =>
    obtain ⟨k, hk, hka, rfl⟩ := hrel
    by_cases hlt : k < a
    · have hks : k < s.size := by omega
      have HB : Hid (isBl s[k] = true) := HH.out.bl k hks hk hlt
      have q7 : decide ((k : Int) < (s.size : Int)) = true := by rw [decide_eq_true_iff]; omega
      go_wp2_with fail
      refine (isBlank_any s[k] W).mono ?_
      rw [HB.out]
      rintro e w1 ⟨rfl, hw⟩
      obtain rfl := hw.symm
      go_wp2
      go_round
      case rel => exact ⟨k + 1, by omega, by omega, by go_num⟩
      case measure => simp [intOf]; omega
    · obtain rfl : k = a := by omega
      clear hlt hka
      by_cases hks : k < s.size
      · have HB : Hid (isBl s[k] = false) := HH.out.st hks
        have q7 : decide ((k : Int) < (s.size : Int)) = true := by rw [decide_eq_true_iff]; omega
        go_wp2_with fail
        refine (isBlank_any s[k] W).mono ?_
        rw [HB.out]
        rintro e w1 ⟨rfl, hw⟩
        obtain rfl := hw.symm
        have q8 : (0 : Int) ≤ (k : Int) := by omega
        have q9 : (k : Int) ≤ (n : Int) := by omega
        have q10 : (n : Int) ≤ (s.size : Int) := by omega
        go_wp2_with fail
        go_quiet ((go_at_call 42; exact Calls.quiet_of_same (HH.out.we _)))
        go_wp2
        go_ret2
        exact ⟨rfl, below_dN (Below.refl _ _) _⟩
      · have q7 : decide ((k : Int) < (s.size : Int)) = false := by rw [decide_eq_false_iff_not]; omega
        have q8 : (0 : Int) ≤ (k : Int) := by omega
        have q9 : (k : Int) ≤ (n : Int) := by omega
        have q10 : (n : Int) ≤ (s.size : Int) := by omega
        go_wp2_with fail
        go_quiet ((go_at_call 42; exact Calls.quiet_of_same (HH.out.we _)))
        go_wp2
        go_ret2
        exact ⟨rfl, below_dN (Below.refl _ _) _⟩
end Go.Proofs.YtlncenjaplaokaaDoor
