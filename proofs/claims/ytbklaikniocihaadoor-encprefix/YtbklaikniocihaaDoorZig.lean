/-
  Numbers with a sign as numbers without one, and back: the mathematics, without the program.
-/
import Derived.Test.YtbklaikniocihaaDoorMath
namespace Go.Proofs.YtbklaikniocihaaDoor
/-- 2n, or -2n - 1. -/
def zig (n : Int) : Nat := if n < 0 then (-(n + 1) * 2 + 1).toNat else (n * 2).toNat
theorem zig_neg {n : Int} (h : n < 0) : ((zig n : Nat) : Int) = -(n + 1) * 2 + 1 := by unfold zig; rw [if_pos h]; omega
theorem zig_pos {n : Int} (h : ¬ n < 0) : ((zig n : Nat) : Int) = n * 2 := by unfold zig; rw [if_neg h]; omega
theorem zig_lt {n : Int} (h1 : -9223372036854775808 ≤ n) (h2 : n ≤ 9223372036854775807) : zig n < 18446744073709551616 := by
  unfold zig; split <;> omega
/-- The number with a sign: its lowest bit is the sign. -/
def unz (n : Nat) : Int := if n % 2 = 1 then -1 - ((n / 2 : Nat) : Int) else ((n / 2 : Nat) : Int)
theorem unz_zig (n : Int) : unz (zig n) = n := by
  unfold unz zig
  by_cases h : n < 0
  · rw [if_pos h, if_pos (by omega)]; omega
  · rw [if_neg h, if_neg (by omega)]; omega
end Go.Proofs.YtbklaikniocihaaDoor
