/-
  What number bytes begin with, 7 bits a byte: the mathematics, without the program.
-/
import Derived.Test.YtbklaikniocihaaDoorMath
namespace Go.Proofs.YtbklaikniocihaaDoor
namespace Um
/-- The number that bytes begin with, and how many bytes it has; (0, 0): none. i: how many bytes went ahead; n: what they are worth. -/
def rdv : List UInt8 → Nat → Nat → Nat × Nat
  | [], _, _ => (0, 0)
  | b :: r, i, n =>
    if 10 ≤ i then (0, 0)
    else if b.toNat < 128 then (if (b.toNat = 0 ∧ 0 < i) ∨ (i = 9 ∧ 1 < b.toNat) then (0, 0) else (n + b.toNat * 2 ^ (7 * i), i + 1))
    else rdv r (i + 1) (n + b.toNat % 128 * 2 ^ (7 * i))
theorem rdv_ten (l : List UInt8) {i : Nat} (n : Nat) (h : 10 ≤ i) : rdv l i n = (0, 0) := by
  cases l with
  | nil => rfl
  | cons b r => simp [rdv, h]
theorem rdv_end {b : UInt8} {r : List UInt8} {i n : Nat} (hi : i < 10) (hb : b.toNat < 128) (hw : ¬ ((b.toNat = 0 ∧ 0 < i) ∨ (i = 9 ∧ 1 < b.toNat))) : rdv (b :: r) i n = (n + b.toNat * 2 ^ (7 * i), i + 1) := by
  rw [rdv, if_neg (by omega), if_pos hb, if_neg hw]
theorem rdv_bad {b : UInt8} {r : List UInt8} {i n : Nat} (hb : b.toNat < 128) (hw : (b.toNat = 0 ∧ 0 < i) ∨ (i = 9 ∧ 1 < b.toNat)) : rdv (b :: r) i n = (0, 0) := by
  by_cases hi : 10 ≤ i
  · exact rdv_ten _ _ hi
  · rw [rdv, if_neg hi, if_pos hb, if_pos hw]
theorem rdv_more {b : UInt8} {r : List UInt8} {i n : Nat} (hi : i < 10) (hb : ¬ b.toNat < 128) : rdv (b :: r) i n = rdv r (i + 1) (n + b.toNat % 128 * 2 ^ (7 * i)) := by
  rw [rdv, if_neg (by omega), if_neg hb]
/-- What is read has room: the number in 64 bits, its bytes in the text. -/
theorem rdv_room (l : List UInt8) : ∀ (i n : Nat), n < 2 ^ (7 * i) → (rdv l i n).1 < 18446744073709551616 ∧ (rdv l i n).2 ≤ 10 ∧ (rdv l i n).2 ≤ i + l.length := by
  induction l with
  | nil => intro i n _; simp [rdv]
  | cons b r ih =>
    intro i n hn
    by_cases hi : 10 ≤ i
    · rw [rdv_ten _ _ hi]; simp
    · by_cases hb : b.toNat < 128
      · by_cases hw : (b.toNat = 0 ∧ 0 < i) ∨ (i = 9 ∧ 1 < b.toNat)
        · rw [rdv_bad hb hw]; simp
        · rw [rdv_end (by omega) hb hw]
          refine ⟨?_, by show i + 1 ≤ 10; omega, by show i + 1 ≤ i + (b :: r).length; simp⟩
          have h7 : b.toNat * 2 ^ (7 * i) + 2 ^ (7 * i) ≤ 18446744073709551616 := by
            have h8 : (b.toNat + 1) * 2 ^ (7 * i) ≤ 18446744073709551616 := by
              by_cases h9 : i = 9
              · subst h9
                have : b.toNat ≤ 1 := by omega
                exact Nat.le_trans (Nat.mul_le_mul_right _ (show b.toNat + 1 ≤ 2 by omega)) (by decide)
              · exact Nat.le_trans (Nat.mul_le_mul (show b.toNat + 1 ≤ 128 by omega) (Nat.pow_le_pow_right (by omega) (show 7 * i ≤ 56 by omega))) (by decide)
            rw [Nat.add_mul] at h8
            omega
          show n + b.toNat * 2 ^ (7 * i) < 18446744073709551616
          omega
      · rw [rdv_more (by omega) hb]
        have hn' : n + b.toNat % 128 * 2 ^ (7 * i) < 2 ^ (7 * (i + 1)) := by
          have e : 2 ^ (7 * (i + 1)) = 128 * 2 ^ (7 * i) := by rw [show 7 * (i + 1) = 7 + 7 * i by omega, Nat.pow_add]
          have h8 : (b.toNat % 128 + 1) * 2 ^ (7 * i) ≤ 128 * 2 ^ (7 * i) := Nat.mul_le_mul_right _ (by omega)
          rw [Nat.add_mul] at h8
          omega
        have := ih (i + 1) _ hn'
        refine ⟨this.1, this.2.1, ?_⟩
        have h3 := this.2.2
        simp only [List.length_cons]
        omega
/-- The bytes of a number are read as it, with whatever behind them. -/
theorem rdv_uv (k : Nat) : ∀ (n i m : Nat) (r : List UInt8), (uv n).length = k → n * 2 ^ (7 * i) < 18446744073709551616 → i < 10 → (0 < i → 0 < n) → rdv (uv n ++ r) i m = (m + n * 2 ^ (7 * i), i + (uv n).length) := by
  induction k with
  | zero => intro n i m r h; have := uv_pos n; omega
  | succ k ih =>
    intro n i m r hk hn hi h0
    have hb0 : 0 < 2 ^ (7 * i) := Nat.pos_of_ne_zero (by simp)
    by_cases hs : n < 128
    · have e : (bt (n : Int)).toNat = n := bt_nat (by omega)
      rw [uv_small hs, List.cons_append, rdv_end hi (by rw [e]; exact hs), e]
      · rfl
      · rw [e]
        rintro (⟨h1, h2⟩ | ⟨h1, h2⟩)
        · have := h0 h2; omega
        · subst h1
          have : 2 * 2 ^ (7 * 9) ≤ n * 2 ^ (7 * 9) := Nat.mul_le_mul_right _ (by omega)
          have h3 : 2 * 2 ^ (7 * 9) = 18446744073709551616 := by decide
          omega
    · have e : (bt ((n : Int) % 128 + 128)).toNat = n % 128 + 128 := by
        have := bt_nat (n := n % 128 + 128) (by omega)
        rw [← this]
        congr 2
      rw [uv_big hs] at hk ⊢
      rw [List.cons_append, rdv_more hi (by rw [e]; omega), e]
      have hp : 2 ^ (7 * (i + 1)) = 128 * 2 ^ (7 * i) := by rw [show 7 * (i + 1) = 7 + 7 * i by omega, Nat.pow_add]
      have hq : n / 128 * (128 * 2 ^ (7 * i)) + n % 128 * 2 ^ (7 * i) = n * 2 ^ (7 * i) := by
        rw [← Nat.mul_assoc, ← Nat.add_mul]
        congr 1
        omega
      have hi2 : i + 1 < 10 := by
        by_cases h9 : i = 9
        · subst h9
          have : 128 * 2 ^ (7 * 9) ≤ n * 2 ^ (7 * 9) := Nat.mul_le_mul_right _ (by omega)
          have h3 : 128 * 2 ^ (7 * 9) = 1180591620717411303424 := by decide
          omega
        · omega
      rw [ih (n / 128) (i + 1) _ r (by simpa using hk) (by rw [hp]; omega) hi2 (by omega), hp]
      refine Prod.ext ?_ ?_
      · show m + (n % 128 + 128) % 128 * 2 ^ (7 * i) + n / 128 * (128 * 2 ^ (7 * i)) = m + n * 2 ^ (7 * i)
        rw [show (n % 128 + 128) % 128 = n % 128 by omega]
        omega
      · show i + 1 + (uv (n / 128)).length = i + ((uv (n / 128)).length + 1)
        omega
theorem rdv_whole (n : Nat) (r : List UInt8) (h : n < 18446744073709551616) : rdv (uv n ++ r) 0 0 = (n, (uv n).length) := by
  rw [rdv_uv _ n 0 0 r rfl (by simpa using h) (by omega) (fun h => absurd h (Nat.lt_irrefl _))]
  simp
end Um
end Go.Proofs.YtbklaikniocihaaDoor
