/-
  The bits of numbers, one by one: the mathematics, without the program.
-/
import Derived.Test.YtbklaikniocihaaDoorBitMath
namespace Go.Proofs.YtbklaikniocihaaDoor
namespace Um
theorem num_drop (w : Nat) : ∀ (i : Nat) (l : List Nat), (∀ x ∈ l, x < 2 ^ w) → num w l / 2 ^ (w * i) = num w (l.drop i)
  | 0, l, _ => by simp
  | i + 1, [], _ => by simp [num]
  | i + 1, x :: l, h => by
    have h1 := num_drop w i l (fun y hy => h y (List.mem_cons_of_mem _ hy))
    have hx := h x (List.mem_cons_self ..)
    rw [List.drop_succ_cons, ← h1, num, Nat.mul_add, Nat.mul_one, Nat.add_comm (w * i), Nat.pow_add, ← Nat.div_div_eq_div_mul, Nat.add_mul_div_left _ _ (Nat.two_pow_pos w), Nat.div_eq_of_lt hx, Nat.zero_add]
theorem num_at (w : Nat) (l : List Nat) (i : Nat) (hi : i < l.length) (h : ∀ x ∈ l, x < 2 ^ w) : ∃ M, num w l / 2 ^ (w * i) = l[i] + 2 ^ w * M := by
  rw [num_drop w i l h, List.drop_eq_getElem_cons hi]
  exact ⟨_, rfl⟩
/-- One bit of all of them is one of the number's. -/
theorem bit_at (w : Nat) (l : List Nat) (i k : Nat) (hi : i < l.length) (hk : k < w) (h : ∀ x ∈ l, x < 2 ^ w) : num w l / 2 ^ (w * i + k) % 2 = l[i] / 2 ^ k % 2 := by
  obtain ⟨M, hM⟩ := num_at w l i hi h
  rw [Nat.pow_add, ← Nat.div_div_eq_div_mul, hM]
  have e : 2 ^ w * M = 2 ^ k * (2 * (2 ^ (w - k - 1) * M)) := by
    rw [← Nat.mul_assoc, ← Nat.mul_assoc, ← Nat.pow_succ, ← Nat.pow_add, show k + 1 + (w - k - 1) = w by omega]
  rw [e, Nat.add_mul_div_left _ _ (Nat.two_pow_pos k), Nat.add_mul_mod_self_left]
/-- One number of all of them. -/
theorem num_get (w : Nat) (l : List Nat) (i : Nat) (hi : i < l.length) (h : ∀ x ∈ l, x < 2 ^ w) : num w l / 2 ^ (w * i) % 2 ^ w = l[i] := by
  obtain ⟨M, hM⟩ := num_at w l i hi h
  rw [hM, Nat.add_mul_mod_self_left, Nat.mod_eq_of_lt (h _ (List.getElem_mem hi))]
/-- The first m bits of a number. -/
def bitl (N m : Nat) : List UInt8 := (List.range m).map fun j => bt ((N / 2 ^ j % 2 : Nat) : Int)
theorem bitl_len (N m : Nat) : (bitl N m).length = m := by simp [bitl]
theorem bitl_succ (N m : Nat) : bitl N (m + 1) = bitl N m ++ [bt ((N / 2 ^ m % 2 : Nat) : Int)] := by simp [bitl, List.range_succ]
theorem bitl_get (N m j : Nat) (h : j < m) : (bitl N m)[j]'(by rw [bitl_len]; exact h) = bt ((N / 2 ^ j % 2 : Nat) : Int) := by simp [bitl]
/-- A bit more of a number. -/
theorem mod_step (x k : Nat) : x % 2 ^ (k + 1) = x % 2 ^ k + x / 2 ^ k % 2 * 2 ^ k := by
  rw [Nat.pow_succ, Nat.mod_mul, Nat.mul_comm (2 ^ k)]
/-- The last byte, of fewer bits. -/
theorem by_end {N q k : Nat} (h : N < 2 ^ (8 * q + k)) (hk : k ≤ 8) : N / 2 ^ (8 * q) % 2 ^ k = by_ N q := by
  have h1 : N / 2 ^ (8 * q) < 2 ^ k := by
    rw [Nat.div_lt_iff_lt_mul (Nat.two_pow_pos _), ← Nat.pow_add, Nat.add_comm k]; exact h
  have h2 : 2 ^ k ≤ 2 ^ 8 := Nat.pow_le_pow_right (by omega) hk
  unfold by_
  rw [Nat.mod_eq_of_lt h1, Nat.mod_eq_of_lt (show N / 2 ^ (8 * q) < 256 by have : 2 ^ 8 = 256 := rfl; omega)]
end Um
end Go.Proofs.YtbklaikniocihaaDoor
