/-
  Numbers, so many bits each, as one number, and its bytes: the mathematics, without the program.
-/
import Derived.Test.YtbklaikniocihaaDoorFixMath
namespace Go.Proofs.YtbklaikniocihaaDoor
namespace Um
/-- Numbers, w bits each, the first lowest, as one number. -/
def num (w : Nat) : List Nat → Nat
  | [] => 0
  | x :: l => x + 2 ^ w * num w l
theorem num_snoc (w : Nat) (l : List Nat) (x : Nat) : num w (l ++ [x]) = num w l + x * 2 ^ (w * l.length) := by
  induction l with
  | nil => simp [num]
  | cons y l ih =>
    simp only [List.cons_append, num, ih, List.length_cons, Nat.mul_add, Nat.mul_one, Nat.pow_add]
    rw [Nat.mul_left_comm (2 ^ w) x, Nat.mul_comm (2 ^ w) (2 ^ (w * l.length))]
    omega
theorem num_take (w : Nat) (l : List Nat) (k : Nat) (h : k < l.length) : num w (l.take (k + 1)) = num w (l.take k) + l[k] * 2 ^ (w * k) := by
  rw [List.take_succ_eq_append_getElem h, num_snoc, List.length_take, Nat.min_eq_left (by omega)]
theorem num_lt (w : Nat) (l : List Nat) (h : ∀ x ∈ l, x < 2 ^ w) : num w l < 2 ^ (w * l.length) := by
  induction l with
  | nil => simp [num]
  | cons y l ih =>
    have h1 := ih (fun x hx => h x (List.mem_cons_of_mem _ hx))
    have h2 := h y (List.mem_cons_self ..)
    simp only [num, List.length_cons, Nat.mul_add, Nat.mul_one, Nat.pow_add]
    rw [Nat.mul_comm (2 ^ (w * l.length))]
    have : 2 ^ w * (num w l + 1) ≤ 2 ^ w * 2 ^ (w * l.length) := Nat.mul_le_mul_left _ h1
    rw [Nat.mul_add, Nat.mul_one] at this
    omega
theorem num_take_lt (w : Nat) (l : List Nat) (k : Nat) (h : ∀ x ∈ l, x < 2 ^ w) (hk : k ≤ l.length) : num w (l.take k) < 2 ^ (w * k) := by
  have := num_lt w (l.take k) (fun x hx => h x (List.mem_of_mem_take hx))
  rwa [List.length_take, Nat.min_eq_left hk] at this
/-- What is left above q bytes, when a number is added above. -/
theorem above_add (n x b q : Nat) (h : 8 * q ≤ b) : (n + x * 2 ^ b) / 2 ^ (8 * q) = n / 2 ^ (8 * q) + x * 2 ^ (b - 8 * q) := by
  have e : x * 2 ^ b = x * 2 ^ (b - 8 * q) * 2 ^ (8 * q) := by rw [Nat.mul_assoc, ← Nat.pow_add, Nat.sub_add_cancel h]
  rw [e, Nat.add_mul_div_right _ _ (Nat.two_pow_pos _)]
theorem above_lt {n b q : Nat} (hn : n < 2 ^ b) (h : 8 * q ≤ b) : n / 2 ^ (8 * q) < 2 ^ (b - 8 * q) := by
  rw [Nat.div_lt_iff_lt_mul (Nat.two_pow_pos _), ← Nat.pow_add, Nat.sub_add_cancel h]
  exact hn
/-- A number above a lesser one: joined, their sum. -/
theorem or_above {r x h : Nat} (hr : r < 2 ^ h) : r ||| (x * 2 ^ h) = r + x * 2 ^ h := by
  rw [Nat.or_comm, Nat.mul_comm, ← Nat.two_pow_add_eq_or_of_lt hr, Nat.add_comm]
/-- Bytes already written stay, when a number is added above. -/
theorem by_add (n x b j : Nat) (h : 8 * (j + 1) ≤ b) : by_ (n + x * 2 ^ b) j = by_ n j := by
  unfold by_
  rw [above_add n x b j (by omega)]
  have e : 2 ^ (b - 8 * j) = 2 ^ (b - 8 * (j + 1)) * 256 := by
    rw [show (256 : Nat) = 2 ^ 8 by rfl, ← Nat.pow_add]; congr 1; omega
  rw [e, ← Nat.mul_assoc, Nat.add_mul_mod_self_right]
theorem lit_add (n x b q : Nat) (h : 8 * q ≤ b) : lit (n + x * 2 ^ b) q = lit n q := by
  unfold lit
  apply List.map_congr_left
  intro j hj
  have hj := List.mem_range.1 hj
  rw [by_add n x b j (by omega)]
/-- Bytes above a number are 0. -/
theorem lit_zeros (n q k : Nat) (h : n < 2 ^ (8 * q)) : lit n (q + k) = lit n q ++ List.replicate k 0 := by
  induction k with
  | zero => simp
  | succ k ih =>
    rw [← Nat.add_assoc, lit_succ, ih, List.replicate_succ', List.append_assoc]
    congr 1
    congr 1
    have : by_ n (q + k) = 0 := by
      unfold by_
      rw [Nat.div_eq_of_lt (Nat.lt_of_lt_of_le h (Nat.pow_le_pow_right (by omega) (by omega)))]
    rw [this]; rfl
end Um
end Go.Proofs.YtbklaikniocihaaDoor
