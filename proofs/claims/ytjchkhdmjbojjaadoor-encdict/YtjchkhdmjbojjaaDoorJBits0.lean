/-
  bitrun's isWidth, isCount, eights and fits: what they answer.
-/
import Derived.Test.YtjchkhdmjbojjaaDoorJBase
import Derived.Test.YtjchkhdmjbojjaaDoorJBMath
import Derived.Laws.MakeOwn
import Derived.RegionTactic
namespace Go.Proofs.YtjchkhdmjbojjaaDoor
open Go.RowKit
theorem retb {a b : Bool} (h : a = b) : Ending.returned (.bool a) = .returned (.bool b) := by rw [h]
set_option maxRecDepth 100000 in
theorem isWidth_any (k : Int) (w : World) : Calls Tryd.prog 85 #[.int .i64 k] w fun e w' => e = .returned (.bool (decide (0 ≤ k ∧ k ≤ 32))) ∧ w' = w := by
  have hcase : decide (0 ≤ k) = false ∨ (decide (0 ≤ k) = true ∧ decide (k ≤ 32) = false) ∨ (decide (0 ≤ k) = true ∧ decide (k ≤ 32) = true) := by
    by_cases h : 0 ≤ k <;> by_cases h' : k ≤ 32 <;> simp [h, h']
  rcases hcase with h | ⟨h, h'⟩ | ⟨h, h'⟩
  all_goals
    go_enter Tryd.func85, Tryd.ntmps85
    go_wp2
    all_goals go_ret
    all_goals exact ⟨retb (by simp at *; omega), rfl⟩
set_option maxRecDepth 100000 in
theorem isCount_any (k : Int) (w : World) : Calls Tryd.prog 86 #[.int .i64 k] w fun e w' => e = .returned (.bool (decide (0 ≤ k ∧ k ≤ 20000))) ∧ w' = w := by
  have hcase : decide (0 ≤ k) = false ∨ (decide (0 ≤ k) = true ∧ decide (k ≤ 20000) = false) ∨ (decide (0 ≤ k) = true ∧ decide (k ≤ 20000) = true) := by
    by_cases h : 0 ≤ k <;> by_cases h' : k ≤ 20000 <;> simp [h, h']
  rcases hcase with h | ⟨h, h'⟩ | ⟨h, h'⟩
  all_goals
    go_enter Tryd.func86, Tryd.ntmps86
    go_wp2
    all_goals go_ret
    all_goals exact ⟨retb (by simp at *; omega), rfl⟩
set_option maxRecDepth 100000 in
theorem eights_any (k : Nat) (w : World) (hk : k < 9000000000000000000) : Calls Tryd.prog 65 #[.int .i64 k] w fun e w' => e = .returned (.int .i64 ((k + 7) / 8 : Nat)) ∧ w' = w := by
  go_enter Tryd.func65, Tryd.ntmps65
  go_wp2
  go_ret
  exact ⟨by go_num, rfl⟩
theorem fits_iff (n : Int) (k : Nat) (h0 : -9223372036854775808 ≤ n) (h1 : n ≤ 9223372036854775807) (hk : k ≤ 32) : (n % 18446744073709551616 / 2 ^ k = 0) ↔ (0 ≤ n ∧ n < 2 ^ k) := by
  have hp : (0 : Int) < 2 ^ k := Int.pow_pos (by omega)
  have hp2 : (2 : Int) ^ k ≤ 4294967296 := by
    have h := Nat.pow_le_pow_right (n := 2) (by omega) hk
    have e : ((2 ^ k : Nat) : Int) = (2 : Int) ^ k := by simp
    have h32 : (2 : Nat) ^ 32 = 4294967296 := by decide
    rw [← e]
    omega
  generalize (2 : Int) ^ k = p at hp hp2
  have hm : 0 ≤ n % 18446744073709551616 := Int.emod_nonneg _ (by omega)
  have hz : n % 18446744073709551616 / p = 0 ↔ n % 18446744073709551616 < p := by
    have hd := Int.emod_add_mul_ediv (n % 18446744073709551616) p
    have hl := Int.emod_lt_of_pos (n % 18446744073709551616) hp
    have hn := Int.emod_nonneg (n % 18446744073709551616) (show p ≠ 0 by omega)
    constructor
    · intro h
      rw [h, Int.mul_zero] at hd
      omega
    · intro h
      exact Int.ediv_eq_zero_of_lt hm h
  rw [hz]
  omega
set_option maxRecDepth 100000 in
theorem fits_any (n : Int) (k : Nat) (w : World) (h0 : -9223372036854775808 ≤ n) (h1 : n ≤ 9223372036854775807) (hk : k ≤ 32) :
    Calls Tryd.prog 96 #[.int .i64 n, .int .i64 k] w fun e w' => e = .returned (.bool (decide (0 ≤ n ∧ n < 2 ^ k))) ∧ w' = w := by
  have hf := fits_iff n k h0 h1 hk
  go_enter Tryd.func96, Tryd.ntmps96
  go_wp2
  go_ret
  refine ⟨retb ?_, rfl⟩
  rw [IntKind.wrap_u64, Bool.eq_iff_iff, decide_eq_true_iff, beq_iff_eq]
  exact hf
end Go.Proofs.YtjchkhdmjbojjaaDoor
