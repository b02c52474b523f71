/-
  Numbers in so many bytes, the lowest first, and back: the mathematics, without the program.
-/
import Derived.Test.YtbklaikniocihaaDoorMath
namespace Go.Proofs.YtbklaikniocihaaDoor
namespace Um
/-- Byte j of a number. -/
def by_ (n j : Nat) : Nat := n / 2 ^ (8 * j) % 256
theorem by_lt (n j : Nat) : by_ n j < 256 := Nat.mod_lt _ (by omega)
/-- So many bytes of a number, the lowest first. -/
def lit (n k : Nat) : List UInt8 := (List.range k).map fun j => bt (by_ n j : Nat)
theorem lit_len (n k : Nat) : (lit n k).length = k := by simp [lit]
theorem lit_succ (n k : Nat) : lit n (k + 1) = lit n k ++ [bt (by_ n k : Nat)] := by simp [lit, List.range_succ]
theorem lit_get (n k j : Nat) (h : j < k) : (lit n k)[j]'(by rw [lit_len]; exact h) = bt (by_ n j : Nat) := by simp [lit]
theorem pow_step (j : Nat) : 2 ^ (8 * (j + 1)) = 2 ^ (8 * j) * 256 := by rw [show 8 * (j + 1) = 8 * j + 8 by omega, Nat.pow_add]
theorem div_step (n j : Nat) : n / 2 ^ (8 * j) / 256 = n / 2 ^ (8 * (j + 1)) := by rw [pow_step, Nat.div_div_eq_div_mul]
/-- Bytes as one number, the lowest first. -/
def lev : List UInt8 → Nat
  | [] => 0
  | b :: l => b.toNat + 256 * lev l
theorem lev_lt (l : List UInt8) : lev l < 2 ^ (8 * l.length) := by
  induction l with
  | nil => simp [lev]
  | cons b l ih =>
    have := b.toNat_lt
    simp only [lev, List.length_cons, pow_step]
    omega
theorem lev_snoc (l : List UInt8) (b : UInt8) : lev (l ++ [b]) = lev l + b.toNat * 2 ^ (8 * l.length) := by
  induction l with
  | nil => simp [lev]
  | cons c l ih =>
    simp only [List.cons_append, lev, ih, List.length_cons, pow_step]
    rw [Nat.mul_add, Nat.mul_comm 256 (b.toNat * _), Nat.mul_assoc]
    omega
theorem lev_eight {l : List UInt8} (h : l.length ≤ 8) : lev l < 18446744073709551616 :=
  Nat.lt_of_lt_of_le (lev_lt l) (Nat.le_trans (Nat.pow_le_pow_right (by omega) (show 8 * l.length ≤ 64 by omega)) (by decide))
/-- A high byte joined to a lower number: their sum. -/
theorem or_high {n b i : Nat} (h : n < 2 ^ (8 * i)) : n ||| (b * 2 ^ (8 * i)) = n + b * 2 ^ (8 * i) := by
  rw [Nat.or_comm, Nat.mul_comm, ← Nat.two_pow_add_eq_or_of_lt h, Nat.add_comm]
theorem high_lt {b i : Nat} (hb : b < 256) (hi : i < 8) : b * 2 ^ (8 * i) < 18446744073709551616 :=
  Nat.lt_of_le_of_lt (Nat.mul_le_mul (show b ≤ 255 by omega) (Nat.pow_le_pow_right (by omega) (show 8 * i ≤ 56 by omega))) (by decide)
/-- Has a number room in so many bytes? By its highest byte, or by what is left above. -/
theorem room_iff {n k : Nat} (h1 : 1 ≤ k) : n / 2 ^ (8 * (k - 1)) ≤ 255 ↔ n / 2 ^ (8 * k) = 0 := by
  obtain ⟨j, rfl⟩ : ∃ j, k = j + 1 := ⟨k - 1, by omega⟩
  rw [Nat.add_sub_cancel, ← div_step]
  generalize n / 2 ^ (8 * j) = q
  omega
end Um
end Go.Proofs.YtbklaikniocihaaDoor
