/-
  wire.ReadUvarint answers the number that the mathematics names, and its length, or the error that ErrText holds, for every text.
-/
import Derived.Test.YtkcobccmifkjcaaDoorDBBase
import Derived.Test.YtkcobccmifkjcaaDoorDBMath
import Derived.RegionTactic
namespace Go.Proofs.YtkcobccmifkjcaaDoor
open Go.RowKit
theorem ret_bool {a b : Bool} (h : a = b) : Ending.returned (.bool a) = .returned (.bool b) := by rw [h]
/-- endsWell, as a Bool. -/
def endsB (i b : Nat) : Bool := !((b == 0 && decide (0 < i)) || (i == 9 && decide (1 < b)))
theorem ends_nine {i b : Nat} (hi : i < 10) (h2 : ¬ i < 9) (_h1 : ¬ b = 0) : ((b : Int) == 1) = endsB i b := by
  obtain rfl : i = 9 := by omega
  rw [Bool.eq_iff_iff]
  simp [endsB]
  omega
theorem ends_yes {i b : Nat} (h : endsB i b = true) : ¬ ((b = 0 ∧ 0 < i) ∨ (i = 9 ∧ 1 < b)) := by
  simp [endsB] at h
  omega
theorem ends_no {i b : Nat} (h : endsB i b = false) : (b = 0 ∧ 0 < i) ∨ (i = 9 ∧ 1 < b) := by
  simp [endsB] at h
  omega
theorem and127 : ∀ x : Fin 256, (x.val &&& 127) = x.val % 128 := by decide +kernel
theorem and128 : ∀ x : Fin 256, (x.val &&& 128) = if x.val < 128 then 0 else 128 := by decide +kernel
theorem byte_and127 (b : Nat) (h : b < 256) : bits .and .u8 (b : Int) 127 = ((b % 128 : Nat) : Int) := by
  have := u8_and_nat b 127 h (by omega)
  rw [and127 ⟨b, h⟩] at this
  exact this
theorem byte_lo (b : Nat) (h : b < 128) : bits .and .u8 (b : Int) 128 = 0 := by
  have := u8_and_nat b 128 (by omega) (by omega)
  rw [and128 ⟨b, by omega⟩, if_pos h] at this
  exact this
theorem byte_hi (b : Nat) (h : b < 256) (hb : ¬ b < 128) : bits .and .u8 (b : Int) 128 = 128 := by
  have := u8_and_nat b 128 h (by omega)
  rw [and128 ⟨b, h⟩, if_neg hb] at this
  exact this
/-- A number with 7 bits more, at their place, in 64 bits. -/
def acc (n b k : Nat) : Nat := n ||| (b % 128 * 2 ^ (7 * k) % 18446744073709551616)
theorem acc_lt {n b k : Nat} (h : n < 18446744073709551616) : acc n b k < 18446744073709551616 :=
  Nat.or_lt_two_pow (n := 64) h (Nat.mod_lt _ (by omega))
theorem acc_eq {n b k : Nat} (h : n < 2 ^ (7 * k)) (hr : b % 128 * 2 ^ (7 * k) < 18446744073709551616) : acc n b k = n + b % 128 * 2 ^ (7 * k) := by
  unfold acc
  rw [Nat.mod_eq_of_lt hr, Nat.or_comm, Nat.mul_comm, ← Nat.two_pow_add_eq_or_of_lt h, Nat.add_comm]
theorem acc_room {b k : Nat} (hk : k < 9) : b % 128 * 2 ^ (7 * k) < 18446744073709551616 :=
  Nat.lt_of_le_of_lt (Nat.mul_le_mul (show b % 128 ≤ 127 by omega) (Nat.pow_le_pow_right (by omega) (show 7 * k ≤ 56 by omega))) (by decide)
theorem acc_bits {n b k : Nat} (h : n < 18446744073709551616) : bits .or .u64 (n : Int) (IntKind.u64.wrap ((b : Int) % 128 * 2 ^ (7 * k))) = ((acc n b k : Nat) : Int) := by
  have e : IntKind.u64.wrap ((b : Int) % 128 * 2 ^ (7 * k)) = ((b % 128 * 2 ^ (7 * k) % 18446744073709551616 : Nat) : Int) := by
    have e1 : ((b % 128 * 2 ^ (7 * k) : Nat) : Int) = (b : Int) % 128 * 2 ^ (7 * k) := by simp
    rw [← e1]
    simp only [IntKind.wrap, IntKind.bits, IntKind.signed]
    generalize b % 128 * 2 ^ (7 * k) = q
    simp
  rw [e]
  exact u64_or_nat n _ h (Nat.mod_lt _ (by omega))
/-- The error behind a reading: none, where something was read. -/
def errOf (ev : Value) (k : Nat) : Value := if k = 0 then ev else .nilIface
theorem drop_cons (s : ByteArray) (k : Nat) (h : k < s.size) : s.data.toList.drop k = s[k] :: s.data.toList.drop (k + 1) := by
  rw [List.drop_eq_getElem_cons (by simpa using h)]; rfl
theorem rd_none {r : Nat × Nat} {ev : Value} (h : r = (0, 0)) : Ending.returned (.tuple #[.int .u64 0, .int .i64 0, ev]) = .returned (.tuple #[.int .u64 r.1, .int .i64 r.2, errOf ev r.2]) := by rw [h]; rfl
theorem rd_some {r : Nat × Nat} {ev : Value} {a k : Nat} {x : Int} (hx : x = (k : Int) + 1) (h : r = (a, k + 1)) : Ending.returned (.tuple #[.int .u64 a, .int .i64 x, .nilIface]) = .returned (.tuple #[.int .u64 r.1, .int .i64 r.2, errOf ev r.2]) := by
  rw [h, hx]; rfl
theorem acc_next {n b k : Nat} (h : n < 2 ^ (7 * k)) : n + b % 128 * 2 ^ (7 * k) < 2 ^ (7 * (k + 1)) := by
  have e : 2 ^ (7 * (k + 1)) = 128 * 2 ^ (7 * k) := by rw [show 7 * (k + 1) = 7 + 7 * k by omega, Nat.pow_add]
  have h8 : (b % 128 + 1) * 2 ^ (7 * k) ≤ 128 * 2 ^ (7 * k) := Nat.mul_le_mul_right _ (by omega)
  rw [Nat.add_mul] at h8
  omega
theorem acc_last {n b k : Nat} (hk : k < 10) (hb : b < 128) (h : n < 2 ^ (7 * k)) (he : endsB k b = true) : acc n b k = n + b * 2 ^ (7 * k) := by
  have hw := ends_yes he
  have hm : b % 128 = b := by omega
  by_cases h9 : k = 9
  · subst h9
    rw [acc_eq h ?_, hm]
    rw [hm]
    exact Nat.lt_of_le_of_lt (Nat.mul_le_mul_right _ (show b ≤ 1 by omega)) (by decide)
  · rw [acc_eq h (acc_room (by omega)), hm]
end Go.Proofs.YtkcobccmifkjcaaDoor
