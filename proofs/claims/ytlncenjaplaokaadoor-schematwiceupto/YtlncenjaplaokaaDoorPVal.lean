/-
  Values (api.Value): isValue of the program and IsValue of the reference: what they answer.
-/
import Derived.Test.YtlncenjaplaokaaDoorPBase
import Derived.RegionTactic
import Derived.Lib.Strings
namespace Go.Proofs.YtlncenjaplaokaaDoor
open Go.RowKit
theorem ret_b {a b : Bool} (h : a = b) : Ending.returned (.bool a) = .returned (.bool b) := by rw [h]
/-- Is it a value of the kind? -/
def OkV (kd k n : Int) (len : Nat) : Prop := k = kd ∧ (kd = 1 ∧ len = 0 ∧ (n = 0 ∨ n = 1) ∨ kd = 2 ∧ len = 0 ∧ -2147483648 ≤ n ∧ n ≤ 2147483647 ∨ (kd = 3 ∨ kd = 5) ∧ len = 0 ∨ kd = 4 ∧ n = 0 ∧ len ≤ 100)
def okV (kd k n : Int) (len : Nat) : Bool := decide (k = kd ∧ (kd = 1 ∧ len = 0 ∧ (n = 0 ∨ n = 1) ∨ kd = 2 ∧ len = 0 ∧ -2147483648 ≤ n ∧ n ≤ 2147483647 ∨ (kd = 3 ∨ kd = 5) ∧ len = 0 ∨ kd = 4 ∧ n = 0 ∧ len ≤ 100))
theorem okV_iff {kd k n : Int} {len : Nat} : okV kd k n len = true ↔ OkV kd k n len := by unfold okV OkV; exact decide_eq_true_iff
theorem okV_no {kd k n : Int} {len : Nat} (h : ¬ OkV kd k n len) : okV kd k n len = false := by
  cases e : okV kd k n len
  · rfl
  · exact absurd (okV_iff.1 e) h
theorem toList_nil (s : ByteArray) : s.toList = [] ↔ s.size = 0 := by
  rw [Lib.toList_data, ← List.length_eq_zero_iff, Array.length_toList]; rfl
theorem toList_isEmpty (s : ByteArray) : s.toList.isEmpty = decide (s.size = 0) := by
  rw [Bool.eq_iff_iff, List.isEmpty_iff, toList_nil, decide_eq_true_iff]
end Go.Proofs.YtlncenjaplaokaaDoor
