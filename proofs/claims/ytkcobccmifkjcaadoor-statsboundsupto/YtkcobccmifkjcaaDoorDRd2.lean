/-
  wire.ReadVarint, wire.Text and wire.ReadText: what they answer, by cases, for every text.
-/
import Derived.Test.YtkcobccmifkjcaaDoorDRd
import Derived.Test.YtkcobccmifkjcaaDoorDClone
import Derived.Test.YtkcobccmifkjcaaDoorDBMath
import Derived.Laws.DeepNot64
namespace Go.Proofs.YtkcobccmifkjcaaDoor
open Go.RowKit
theorem and1_u64 (n : Nat) (h : n < 18446744073709551616) : bits .and .u64 (n : Int) 1 = ((n % 2 : Nat) : Int) := by
  have := u64_and_nat n 1 h (by omega)
  rw [Nat.and_one_is_mod] at this
  exact this
theorem ret_v {a b : Int} {c : Int} {x : Value} (h : a = b) : Ending.returned (.tuple #[.int .i64 a, .int .i64 c, x]) = .returned (.tuple #[.int .i64 b, .int .i64 c, x]) := by rw [h]
end Go.Proofs.YtkcobccmifkjcaaDoor
