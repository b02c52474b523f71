/-
  Where bits are turned within 32 in a row, the remainder is another one: the mathematics, without the program.
-/
import Derived.Test.YtfdcadlhapcddabCrc
namespace Go.Proofs.Ytfdcadlhapcddab
namespace Crc
/-- Bytes as one number, the lowest first. -/
def le : List UInt8 → Nat
  | [] => 0
  | b :: l => b.toNat + 256 * le l
theorem le_lt (l : List UInt8) : le l < 2 ^ (8 * l.length) := by
  induction l with
  | nil => simp [le]
  | cons b l ih =>
    have := b.toNat_lt
    simp only [le, List.length_cons]
    rw [show 8 * (l.length + 1) = 8 * l.length + 8 by omega, Nat.pow_add]
    omega
theorem le_inj : ∀ (a b : List UInt8), a.length = b.length → le a = le b → a = b
  | [], [], _, _ => rfl
  | [], _ :: _, h, _ => by simp at h
  | _ :: _, [], h, _ => by simp at h
  | x :: a, y :: b, h, e => by
    have hx := x.toNat_lt
    have hy := y.toNat_lt
    simp only [le] at e
    have h1 : x = y := UInt8.toNat_inj.1 (by omega)
    have h2 : a = b := le_inj a b (by simpa using h) (by omega)
    rw [h1, h2]
/-- A low part and a high part, joined: their sum. -/
theorem xor_low (k a b : Nat) (h : a < 2 ^ k) : a ^^^ (2 ^ k * b) = a + 2 ^ k * b := by
  apply Nat.eq_of_testBit_eq
  intro i
  rw [Nat.add_comm, Nat.testBit_two_pow_mul_add b h i, Nat.testBit_xor, Nat.testBit_two_pow_mul]
  by_cases hi : i < k
  · simp [hi, Nat.not_le.2 hi]
  · have h3 : a.testBit i = false := Nat.testBit_lt_two_pow (Nat.lt_of_lt_of_le h (Nat.pow_le_pow_right (by omega) (by omega)))
    simp [hi, Nat.not_lt.1 hi, h3]
/-- The remainder's register behind bytes: so many steps of the one number. -/
theorem bytes_le (l : List UInt8) : ∀ c, bytes c l = stn (8 * l.length) (c ^^^ le l) := by
  induction l with
  | nil => intro c; simp [bytes, le, stn]
  | cons b l ih =>
    intro c
    have e : bytes c (b :: l) = bytes (byte c b) l := rfl
    have hb : b.toNat < 2 ^ 8 := b.toNat_lt
    rw [e, ih, List.length_cons, show 8 * (l.length + 1) = 8 * l.length + 8 by omega, stn_add]
    congr 1
    simp only [le]
    rw [show (256 : Nat) = 2 ^ 8 by rfl, ← xor_low 8 b.toNat (le l) hb, ← Nat.xor_assoc, stn_xor, stn_up]
    rfl
theorem st_zero {c : Nat} (h : c < 4294967296) (e : st c = 0) : c = 0 := by
  unfold st at e
  split at e
  · have hx : (c / 2 ^^^ 3988292384).testBit 31 = true := by
      rw [Nat.testBit_xor, Nat.testBit_lt_two_pow (show c / 2 < 2 ^ 31 by omega)]
      decide
    rw [e] at hx
    simp at hx
  · omega
theorem stn_zero (k : Nat) : ∀ {c : Nat}, c < 4294967296 → stn k c = 0 → c = 0 := by
  induction k with
  | zero => exact fun _ h => h
  | succ k ih => exact fun h e => ih h (st_zero (stn_lt k h) e)
/-- Two texts of one length whose numbers part within 32 bits in a row: where their remainders are the same, the texts are. -/
theorem burst (s t : List UInt8) (hl : t.length = s.length) (k u : Nat) (hk : k ≤ 8 * s.length) (hu : u < 4294967296) (h : le t = le s ^^^ (2 ^ k * u)) (e : rem t = rem s) : t = s := by
  have e1 : bytes 4294967295 t = bytes 4294967295 s := by
    have e2 := congrArg (· ^^^ 4294967295) e
    simpa [rem, Nat.xor_assoc] using e2
  rw [bytes_le, bytes_le, hl, h, stn_xor, stn_xor, stn_xor] at e1
  have e3 : stn (8 * s.length) (2 ^ k * u) = 0 := by
    have e4 := congrArg (stn (8 * s.length) 4294967295 ^^^ ·) e1
    simp only [← Nat.xor_assoc, Nat.xor_self, Nat.zero_xor] at e4
    have e5 := congrArg (stn (8 * s.length) (le s) ^^^ ·) e4
    simpa only [← Nat.xor_assoc, Nat.xor_self, Nat.zero_xor] using e5
  rw [show 8 * s.length = (8 * s.length - k) + k by omega, stn_add, stn_up] at e3
  have hu0 := stn_zero _ hu e3
  subst hu0
  exact le_inj t s hl (by simpa using h)
/-- One bit of one byte turned. -/
theorem le_turn : ∀ (l : List UInt8) (j b : Nat) (hj : j < l.length), b < 8 → ∀ x : UInt8, x.toNat = l[j].toNat ^^^ 2 ^ b → le (l.set j x) = le l ^^^ 2 ^ (8 * j + b)
  | y :: l, 0, b, _, hb, x, hx => by
    simp only [List.getElem_cons_zero] at hx
    simp only [List.set_cons_zero, le, Nat.mul_zero, Nat.zero_add]
    have hy : y.toNat < 2 ^ 8 := y.toNat_lt
    have hxl : x.toNat < 2 ^ 8 := x.toNat_lt
    rw [show (256 : Nat) = 2 ^ 8 by rfl, ← xor_low 8 x.toNat (le l) hxl, ← xor_low 8 y.toNat (le l) hy, hx, Nat.xor_assoc, Nat.xor_assoc, Nat.xor_comm (2 ^ b)]
  | y :: l, j + 1, b, hj, hb, x, hx => by
    have ih := le_turn l j b (by simpa using hj) hb x (by simpa using hx)
    have hy : y.toNat < 2 ^ 8 := y.toNat_lt
    simp only [List.set_cons_succ, le]
    rw [ih, show (256 : Nat) = 2 ^ 8 by rfl, ← xor_low 8 y.toNat _ hy, ← xor_low 8 y.toNat _ hy, Nat.xor_assoc]
    congr 1
    rw [show 8 * (j + 1) + b = 8 + (8 * j + b) by omega]
    apply Nat.eq_of_testBit_eq
    intro i
    rw [Nat.testBit_two_pow_mul, Nat.testBit_xor, Nat.testBit_xor, Nat.testBit_two_pow_mul, Nat.testBit_two_pow, Nat.testBit_two_pow]
    by_cases hi : i ≥ 8
    · have : (8 + (8 * j + b) = i) ↔ (8 * j + b = i - 8) := by omega
      simp [hi, this]
    · have : ¬ (8 + (8 * j + b) = i) := by omega
      simp [hi, this]
/-- A step of the turning: bit i of the row, at place k + i. -/
theorem turn_step (l s : List UInt8) (k i u : Nat) (hu : u < 2 ^ i) (h : le l = le s ^^^ (2 ^ k * u)) (hj : (k + i) / 8 < l.length) (x : UInt8) (hx : x.toNat = l[(k + i) / 8].toNat ^^^ 2 ^ ((k + i) % 8)) :
    ∃ u', u' < 2 ^ (i + 1) ∧ le (l.set ((k + i) / 8) x) = le s ^^^ (2 ^ k * u') := by
  refine ⟨u ^^^ 2 ^ i, ?_, ?_⟩
  · exact Nat.xor_lt_two_pow (Nat.lt_of_lt_of_le hu (Nat.pow_le_pow_right (by omega) (by omega))) (Nat.pow_lt_pow_right (by omega) (by omega))
  · rw [le_turn l ((k + i) / 8) ((k + i) % 8) hj (by omega) x hx, h, Nat.xor_assoc, show 8 * ((k + i) / 8) + (k + i) % 8 = k + i by omega]
    congr 1
    apply Nat.eq_of_testBit_eq
    intro j
    rw [Nat.testBit_xor, Nat.testBit_two_pow_mul, Nat.testBit_two_pow_mul, Nat.testBit_xor, Nat.testBit_two_pow, Nat.testBit_two_pow]
    by_cases hj : k ≤ j
    · have : (k + i = j) ↔ (i = j - k) := by omega
      simp [hj, this]
    · have : ¬ (k + i = j) := by omega
      simp [hj, this]
end Crc
end Go.Proofs.Ytfdcadlhapcddab
