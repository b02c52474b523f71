/-
  Values (api.Value): isValue of the program and IsValue of the reference: what they answer.
-/
import Derived.Test.YtjchkhdmjbojjaaDoorJBase
import Derived.RegionTactic
import Derived.Lib.Strings
namespace Go.Proofs.YtjchkhdmjbojjaaDoor
open Go.RowKit
theorem ret_b {a b : Bool} (h : a = b) : Ending.returned (.bool a) = .returned (.bool b) := by rw [h]
/-- Is it a value of the kind? -/
def OkV (kd k n : Int) (len : Nat) : Prop := k = kd ∧ (kd = 1 ∧ len = 0 ∧ (n = 0 ∨ n = 1) ∨ kd = 2 ∧ len = 0 ∧ -2147483648 ≤ n ∧ n ≤ 2147483647 ∨ (kd = 3 ∨ kd = 5) ∧ len = 0 ∨ kd = 4 ∧ n = 0 ∧ len ≤ 100)
def okV (kd k n : Int) (len : Nat) : Bool := decide (k = kd ∧ (kd = 1 ∧ len = 0 ∧ (n = 0 ∨ n = 1) ∨ kd = 2 ∧ len = 0 ∧ -2147483648 ≤ n ∧ n ≤ 2147483647 ∨ (kd = 3 ∨ kd = 5) ∧ len = 0 ∨ kd = 4 ∧ n = 0 ∧ len ≤ 100))
theorem okV_iff {kd k n : Int} {len : Nat} : okV kd k n len = true ↔ OkV kd k n len := by unfold okV OkV; exact decide_eq_true_iff
theorem okV_no {kd k n : Int} {len : Nat} (h : ¬ OkV kd k n len) : okV kd k n len = false := by
  cases e : okV kd k n len
  · rfl
  · exact absurd (okV_iff.1 e) h
theorem toList_nil (s : ByteArray) : s.toList = [] ↔ s.size = 0 := by
  rw [Lib.toList_data, ← List.length_eq_zero_iff, Array.length_toList]; rfl
theorem toList_isEmpty (s : ByteArray) : s.toList.isEmpty = decide (s.size = 0) := by
  rw [Bool.eq_iff_iff, List.isEmpty_iff, toList_nil, decide_eq_true_iff]
set_option maxRecDepth 100000 in
set_option maxHeartbeats 800000 in
theorem isValue_any (k n : Int) (s : ByteArray) (w : World) : Calls Tryd.prog 62 #[.agg #[.int .i64 k, .int .i64 n, .string s]] w fun e w' => e = .returned (.bool (okV k k n s.size)) ∧ Below w.heap.size w w' := by
  go_enter Tryd.func62, Tryd.ntmps62
  go_wp2
  all_goals go_ret
  all_goals refine ⟨ret_b ?_, (Below.refl _ _).alloc (Nat.le_refl _) _⟩
  all_goals (unfold okV; grind [toList_nil, toList_isEmpty])
set_option maxRecDepth 100000 in
set_option maxHeartbeats 1600000 in
theorem isValueR_any (kd k n : Int) (s : ByteArray) (w : World) : Calls Tryd.prog 23 #[.int .i64 kd, .agg #[.int .i64 k, .int .i64 n, .string s]] w fun e w' => e = .returned (.bool (okV kd k n s.size)) ∧ Below w.heap.size w w' := by
  go_enter Tryd.func23, Tryd.ntmps23
  go_wp2
  all_goals go_ret
  all_goals refine ⟨ret_b ?_, (Below.refl _ _).alloc (Nat.le_refl _) _⟩
  all_goals (unfold okV; grind [toList_nil, toList_isEmpty])
end Go.Proofs.YtjchkhdmjbojjaaDoor
