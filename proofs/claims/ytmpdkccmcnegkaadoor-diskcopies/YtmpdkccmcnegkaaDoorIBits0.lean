/-
  bitrun's isWidth, isCount, eights and fits: what they answer.
-/
import Derived.Test.YtmpdkccmcnegkaaDoorIBase
import Derived.Test.YtmpdkccmcnegkaaDoorIBMath
import Derived.Laws.MakeOwn
import Derived.RegionTactic
namespace Go.Proofs.YtmpdkccmcnegkaaDoor
open Go.RowKit
theorem retb {a b : Bool} (h : a = b) : Ending.returned (.bool a) = .returned (.bool b) := by rw [h]
theorem fits_iff (n : Int) (k : Nat) (h0 : -9223372036854775808 ≤ n) (h1 : n ≤ 9223372036854775807) (hk : k ≤ 32) : (n % 18446744073709551616 / 2 ^ k = 0) ↔ (0 ≤ n ∧ n < 2 ^ k) := by
  have hp : (0 : Int) < 2 ^ k := Int.pow_pos (by omega)
  have hp2 : (2 : Int) ^ k ≤ 4294967296 := by
    have h := Nat.pow_le_pow_right (n := 2) (by omega) hk
    have e : ((2 ^ k : Nat) : Int) = (2 : Int) ^ k := by simp
    have h32 : (2 : Nat) ^ 32 = 4294967296 := by decide
    rw [← e]
    omega
  generalize (2 : Int) ^ k = p at hp hp2
  have hm : 0 ≤ n % 18446744073709551616 := Int.emod_nonneg _ (by omega)
  have hz : n % 18446744073709551616 / p = 0 ↔ n % 18446744073709551616 < p := by
    have hd := Int.emod_add_mul_ediv (n % 18446744073709551616) p
    have hl := Int.emod_lt_of_pos (n % 18446744073709551616) hp
    have hn := Int.emod_nonneg (n % 18446744073709551616) (show p ≠ 0 by omega)
    constructor
    · intro h
      rw [h, Int.mul_zero] at hd
      omega
    · intro h
      exact Int.ediv_eq_zero_of_lt hm h
  rw [hz]
  omega
end Go.Proofs.YtmpdkccmcnegkaaDoor
