/-
  Numbers, so many bits each, out of bytes: the mathematics, without the program.
-/
import Derived.Test.YtbklaikniocihaaDoorBitMath2
namespace Go.Proofs.YtbklaikniocihaaDoor
namespace Um
theorem lev_num (l : List UInt8) : lev l = num 8 (l.map UInt8.toNat) := by
  induction l with
  | nil => rfl
  | cons b l ih => simp only [lev, List.map_cons, num, ih]
theorem map_lt (l : List UInt8) : ∀ x ∈ l.map UInt8.toNat, x < 2 ^ 8 := by
  intro x hx
  obtain ⟨b, _, rfl⟩ := List.mem_map.1 hx
  exact b.toNat_lt
/-- One bit of bytes. -/
theorem lev_bit (l : List UInt8) (at_ : Nat) (h : at_ / 8 < l.length) : lev l / 2 ^ at_ % 2 = l[at_ / 8].toNat / 2 ^ (at_ % 8) % 2 := by
  have := bit_at 8 (l.map UInt8.toNat) (at_ / 8) (at_ % 8) (by simpa using h) (by omega) (map_lt l)
  rw [← lev_num, show 8 * (at_ / 8) + at_ % 8 = at_ by omega] at this
  simpa using this
theorem lev_take (l : List UInt8) (k : Nat) (h : k < l.length) : lev (l.take (k + 1)) = lev (l.take k) + l[k].toNat * 2 ^ (8 * k) := by
  rw [List.take_succ_eq_append_getElem h, lev_snoc, List.length_take, Nat.min_eq_left (by omega)]
theorem lev_take_lt (l : List UInt8) (k : Nat) (h : k ≤ l.length) : lev (l.take k) < 2 ^ (8 * k) := by
  have := lev_lt (l.take k)
  rwa [List.length_take, Nat.min_eq_left h] at this
theorem lev_split (l : List UInt8) (k : Nat) (h : k ≤ l.length) : ∃ M, lev l = lev (l.take k) + 2 ^ (8 * k) * M := by
  induction l generalizing k with
  | nil => exact ⟨0, by simp [lev]⟩
  | cons b l ih =>
    cases k with
    | zero => exact ⟨lev (b :: l), by simp [lev]⟩
    | succ k =>
      obtain ⟨M, hM⟩ := ih k (by simpa using h)
      refine ⟨M, ?_⟩
      rw [List.take_succ_cons, lev, lev, hM, pow_step, Nat.mul_add, Nat.mul_right_comm, Nat.mul_comm 256 (2 ^ (8 * k) * M)]
      omega
theorem add_above (n x b c : Nat) (h : c ≤ b) : (n + x * 2 ^ b) / 2 ^ c = n / 2 ^ c + x * 2 ^ (b - c) := by
  have e : x * 2 ^ b = x * 2 ^ (b - c) * 2 ^ c := by rw [Nat.mul_assoc, ← Nat.pow_add, Nat.sub_add_cancel h]
  rw [e, Nat.add_mul_div_right _ _ (Nat.two_pow_pos _)]
theorem div_lt_pow {n b c : Nat} (hn : n < 2 ^ b) (h : c ≤ b) : n / 2 ^ c < 2 ^ (b - c) := by
  rw [Nat.div_lt_iff_lt_mul (Nat.two_pow_pos _), ← Nat.pow_add, Nat.sub_add_cancel h]
  exact hn
/-- A number whose bits all lie in the first q bytes. -/
theorem lev_cut (l : List UInt8) (q c w : Nat) (hq : q ≤ l.length) (h : c + w ≤ 8 * q) : lev (l.take q) / 2 ^ c % 2 ^ w = lev l / 2 ^ c % 2 ^ w := by
  obtain ⟨M, hM⟩ := lev_split l q hq
  have e : 2 ^ (8 * q) * M = 2 ^ w * (2 ^ (8 * q - c - w) * M) * 2 ^ c := by
    rw [← Nat.mul_assoc, ← Nat.pow_add, Nat.mul_right_comm, ← Nat.pow_add, show w + (8 * q - c - w) + c = 8 * q by omega]
  rw [hM, e, Nat.add_mul_div_right _ _ (Nat.two_pow_pos _), Nat.add_mul_mod_self_left]
/-- The first n numbers of bytes. -/
def unp (l : List UInt8) (w n : Nat) : List Nat := (List.range n).map fun i => lev l / 2 ^ (w * i) % 2 ^ w
theorem unp_len (l : List UInt8) (w n : Nat) : (unp l w n).length = n := by simp [unp]
theorem unp_get (l : List UInt8) (w n i : Nat) (h : i < n) : (unp l w n)[i]'(by rw [unp_len]; exact h) = lev l / 2 ^ (w * i) % 2 ^ w := by simp [unp]
theorem unp_succ (l : List UInt8) (w n : Nat) : unp l w (n + 1) = unp l w n ++ [lev l / 2 ^ (w * n) % 2 ^ w] := by simp [unp, List.range_succ]
theorem unp_lt (l : List UInt8) (w n : Nat) : ∀ x ∈ unp l w n, x < 2 ^ w := by
  intro x hx
  obtain ⟨i, _, rfl⟩ := List.mem_map.1 hx
  exact Nat.mod_lt _ (Nat.two_pow_pos w)
theorem lev_lit (n k : Nat) : lev (lit n k) = n % 2 ^ (8 * k) := by
  induction k with
  | zero => simp [lit, lev, Nat.mod_one]
  | succ k ih =>
    have hb := by_lt n k
    rw [lit_succ, lev_snoc, ih, lit_len, pow_step, Nat.mod_mul, Nat.mul_comm (2 ^ (8 * k))]
    rw [bt_nat hb]; rfl
end Um
end Go.Proofs.YtbklaikniocihaaDoor
