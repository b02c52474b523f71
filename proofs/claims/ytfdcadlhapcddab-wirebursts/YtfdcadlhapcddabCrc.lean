/-
  The remainder of 32 bits, in plain numbers: eight steps a byte; four steps at once by a table of sixteen.
-/
import Derived.WalkKit
namespace Go.Proofs.Ytfdcadlhapcddab
namespace Crc
/-- One step: one bit to the right; where the bit that went out is set, joined with the divisor. -/
def st (c : Nat) : Nat := if c % 2 = 1 then c / 2 ^^^ 3988292384 else c / 2
/-- So many steps. -/
def stn : Nat → Nat → Nat
  | 0, c => c
  | k + 1, c => st (stn k c)
/-- A byte joined, and eight steps. -/
def byte (c : Nat) (b : UInt8) : Nat := stn 8 (c ^^^ b.toNat)
/-- Bytes, one behind the other. -/
def bytes (c : Nat) (l : List UInt8) : Nat := l.foldl byte c
/-- The remainder. -/
def rem (l : List UInt8) : Nat := bytes 4294967295 l ^^^ 4294967295

theorem xor_lt {a b : Nat} (ha : a < 4294967296) (hb : b < 4294967296) : a ^^^ b < 4294967296 := Nat.xor_lt_two_pow (n := 32) ha hb
theorem st_lt {c : Nat} (h : c < 4294967296) : st c < 4294967296 := by
  unfold st
  split
  · exact xor_lt (by omega) (by omega)
  · omega
theorem stn_lt (k : Nat) {c : Nat} (h : c < 4294967296) : stn k c < 4294967296 := by
  induction k with
  | zero => exact h
  | succ k ih => exact st_lt ih
theorem byte_lt {c : Nat} (b : UInt8) (h : c < 4294967296) : byte c b < 4294967296 :=
  stn_lt 8 (xor_lt h (by have := b.toNat_lt; omega))
theorem bytes_lt (l : List UInt8) : ∀ {c : Nat}, c < 4294967296 → bytes c l < 4294967296 := by
  induction l with
  | nil => exact fun h => h
  | cons b l ih => exact fun h => ih (byte_lt b h)
theorem bytes_snoc (c : Nat) (l : List UInt8) (b : UInt8) : bytes c (l ++ [b]) = byte (bytes c l) b := by simp [bytes]

theorem xor_div2 (a b : Nat) : (a ^^^ b) / 2 = a / 2 ^^^ b / 2 := by
  simpa [Nat.shiftRight_eq_div_pow] using Nat.shiftRight_xor_distrib (a := a) (b := b) (i := 1)
theorem xor_mod2 (a b : Nat) : (a ^^^ b) % 2 = (a % 2 + b % 2) % 2 := by
  have h := Nat.xor_mod_two_pow (a := a) (b := b) (n := 1)
  rw [Nat.pow_one] at h
  rw [h]
  rcases Nat.mod_two_eq_zero_or_one a with h1 | h1 <;> rcases Nat.mod_two_eq_zero_or_one b with h2 | h2 <;> rw [h1, h2] <;> rfl
/-- A step of what is joined is what is joined of the steps. -/
theorem st_xor (a b : Nat) : st (a ^^^ b) = st a ^^^ st b := by
  unfold st
  rw [xor_mod2, xor_div2]
  rcases Nat.mod_two_eq_zero_or_one a with h1 | h1 <;> rcases Nat.mod_two_eq_zero_or_one b with h2 | h2 <;> simp only [h1, h2]
  · simp
  · simp [Nat.xor_assoc]
  · simp only [if_true, Nat.zero_ne_one, if_false]
    rw [Nat.xor_assoc, Nat.xor_assoc, Nat.xor_comm (b / 2)]
  · simp only [Nat.reduceAdd, Nat.reduceMod]
    rw [if_neg (by omega), if_pos trivial, if_pos trivial]
    rw [Nat.xor_assoc, Nat.xor_comm 3988292384, Nat.xor_assoc, Nat.xor_self, Nat.xor_zero]
theorem stn_xor (k a b : Nat) : stn k (a ^^^ b) = stn k a ^^^ stn k b := by
  induction k with
  | zero => rfl
  | succ k ih => simp only [stn, ih, st_xor]
theorem stn_add (j k c : Nat) : stn (j + k) c = stn j (stn k c) := by
  induction j with
  | zero => simp [stn]
  | succ j ih => rw [Nat.add_right_comm]; simp only [stn, ih]
theorem st_even (c : Nat) : st (2 * c) = c := by
  unfold st
  rw [if_neg (by omega)]
  omega
theorem stn_up (k : Nat) : ∀ c, stn k (2 ^ k * c) = c := by
  induction k with
  | zero => simp [stn]
  | succ k ih =>
    intro c
    rw [Nat.add_comm, stn_add, show 2 ^ (1 + k) * c = 2 ^ k * (2 * c) by rw [Nat.add_comm, Nat.pow_succ]; simp [Nat.mul_assoc], ih]
    exact st_even c
/-- Four steps at once: the table's place is the four bits that go out. -/
theorem four (c : Nat) : stn 4 c = c / 16 ^^^ stn 4 (c % 16) := by
  have h : c = (16 * (c / 16)) ^^^ (c % 16) := by
    have h2 : (16 * (c / 16)) ^^^ (c % 16) = 16 * (c / 16) + c % 16 := by
      apply Nat.eq_of_testBit_eq
      intro i
      have e := Nat.testBit_two_pow_mul_add (c / 16) (i := 4) (b := c % 16) (by omega) i
      rw [show (2 : Nat) ^ 4 = 16 by rfl] at e
      rw [e, Nat.testBit_xor]
      have e2 := Nat.testBit_two_pow_mul (i := 4) (a := c / 16) (j := i)
      rw [show (2 : Nat) ^ 4 = 16 by rfl] at e2
      rw [e2]
      by_cases hi : i < 4
      · simp [hi, Nat.not_le.2 hi]
      · have h3 : (c % 16).testBit i = false := Nat.testBit_lt_two_pow (Nat.lt_of_lt_of_le (show c % 16 < 2 ^ 4 by omega) (Nat.pow_le_pow_right (by omega) (by omega)))
        simp [hi, Nat.not_lt.1 hi, h3]
    omega
  have h4 := stn_up 4 (c / 16)
  rw [show (2 : Nat) ^ 4 = 16 by rfl] at h4
  conv => lhs; rw [h]
  rw [stn_xor, h4]
/-- A byte by the table: twice four steps. -/
theorem byte_four (c : Nat) (b : UInt8) : byte c b = stn 4 (stn 4 (c ^^^ b.toNat)) := by unfold byte; rw [← stn_add]
end Crc
end Go.Proofs.Ytfdcadlhapcddab
