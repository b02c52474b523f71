/-
  The reference's ReadSeven: what it answers, for every text.
-/
import Derived.Test.YtbklaikniocihaaDoorRd
namespace Go.Proofs.YtbklaikniocihaaDoor
open Go.RowKit
theorem rs_none {r : Nat × Nat} (h : r = (0, 0)) : Ending.returned (.tuple #[.int .u64 0, .int .i64 0]) = .returned (.tuple #[.int .u64 r.1, .int .i64 r.2]) := by rw [h]; rfl
theorem rs_some {r : Nat × Nat} {a k : Nat} {x y : Int} (hy : y = (a : Int)) (hx : x = (k : Int) + 1) (h : r = (a, k + 1)) : Ending.returned (.tuple #[.int .u64 y, .int .i64 x]) = .returned (.tuple #[.int .u64 r.1, .int .i64 r.2]) := by
  rw [h, hx, hy]; rfl
theorem wrap_exact {b k : Nat} (h : b % 128 * 2 ^ (7 * k) < 18446744073709551616) : IntKind.u64.wrap ((b : Int) % 128 * 2 ^ (7 * k)) = ((b % 128 * 2 ^ (7 * k) : Nat) : Int) := by
  have e1 : ((b % 128 * 2 ^ (7 * k) : Nat) : Int) = (b : Int) % 128 * 2 ^ (7 * k) := by simp
  rw [← e1]
  generalize b % 128 * 2 ^ (7 * k) = q at h
  simp only [IntKind.wrap, IntKind.bits, IntKind.signed]
  simp
  omega
/-- In the tenth byte there is room for one bit. -/
theorem room_at {n b k : Nat} (hk : k < 10) (h : n < 2 ^ (7 * k)) (hc : ¬ (k = 9 ∧ 1 < b)) : n + b % 128 * 2 ^ (7 * k) < 18446744073709551616 := by
  by_cases h9 : k = 9
  · subst h9
    have : b % 128 * 2 ^ (7 * 9) ≤ 1 * 2 ^ (7 * 9) := Nat.mul_le_mul_right _ (by omega)
    have e : (1 : Nat) * 2 ^ (7 * 9) = 9223372036854775808 := by decide
    have e2 : (2 : Nat) ^ (7 * 9) = 9223372036854775808 := by decide
    omega
  · have := acc_next (b := b) h
    have h2 : 2 ^ (7 * (k + 1)) ≤ 2 ^ 63 := Nat.pow_le_pow_right (by omega) (by omega)
    omega
end Go.Proofs.YtbklaikniocihaaDoor
