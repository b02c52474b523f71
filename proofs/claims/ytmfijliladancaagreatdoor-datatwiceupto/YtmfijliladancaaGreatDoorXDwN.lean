/-
  A number's digits are read back: mathematics.
-/
import Derived.Test.YtmfijliladancaaGreatDoorXBDwM
import Derived.Lib.ItoaNum
import Derived.Lib.ItoaLen
import Derived.Lib.ItoaMem
import Derived.Lib.ParseIntB
namespace Go.Proofs.YtmfijliladancaaGreatDoor
open Go.RowKit
/-- A digit. -/
def dgB (c : UInt8) : Bool := decide (48 ≤ c.toNat ∧ c.toNat ≤ 57)
theorem dec_all : ∀ (n u : Nat), u < n → ∀ x ∈ Lib.decDigits u, dgB x = true
  | 0, u, h => absurd h (Nat.not_lt_zero _)
  | n + 1, u, h => fun x hx => by
    rw [Lib.decDigits] at hx
    split at hx
    · rename_i h10
      rw [List.mem_singleton.1 hx]
      simp [dgB, UInt8.toNat_ofNat']
      omega
    · rcases List.mem_append.1 hx with hx | hx
      · exact dec_all n (u / 10) (by omega) x hx
      · rw [List.mem_singleton.1 hx]
        simp [dgB, UInt8.toNat_ofNat']
        omega
theorem dec_ne (u : Nat) : Lib.decDigits u ≠ [] := by
  intro h
  have := congrArg List.length h
  rw [Lib.decDigits_length] at this
  have := Lib.nDigits_pos u
  simp at *
  omega
/-- One more digit. -/
def oneM (M : Nat) (e : Lib.NumEnd Nat) (c : UInt8) : Lib.NumEnd Nat := match e with
  | .ok a => Lib.parseUintM M a [c]
  | .range => .range
  | .syntax => .syntax
theorem pm_app (M : Nat) : ∀ (l : List UInt8) (acc : Nat) (c : UInt8), Lib.parseUintM M acc (l ++ [c]) = oneM M (Lib.parseUintM M acc l) c
  | [], acc, c => rfl
  | b :: l, acc, c => by
    rw [List.cons_append, Lib.parseUintM, Lib.parseUintM]
    split
    · split
      · rfl
      · split
        · rfl
        · exact pm_app M l _ c
    · rfl
theorem pm_dec (M : Nat) (hM : M ≤ 18446744073709551615) : ∀ (n u : Nat), u < n → u ≤ M → Lib.parseUintM M 0 (Lib.decDigits u) = .ok u
  | 0, u, h => absurd h (Nat.not_lt_zero _)
  | n + 1, u, h => fun hu => by
    have hd : ∀ v, v < 10 → (UInt8.ofNat (48 + v)).toNat = 48 + v := fun v hv => by simp [UInt8.toNat_ofNat']; omega
    have one : ∀ (a v : Nat), v < 10 → a < 1844674407370955162 → a * 10 + v ≤ M → Lib.parseUintM M a [UInt8.ofNat (48 + v)] = .ok (a * 10 + v) := fun a v hv ha hm => by
      rw [Lib.parseUintM, hd v hv, if_pos (by omega), if_neg (by omega), if_neg (by omega), Lib.parseUintM]
      congr 1
      omega
    rw [Lib.decDigits]
    split
    · rename_i h10
      have h1 := one 0 u h10 (by omega) (by omega)
      rw [Nat.zero_mul, Nat.zero_add] at h1
      exact h1
    · rename_i h10
      rw [pm_app, pm_dec M hM n (u / 10) (by omega) (by omega)]
      show Lib.parseUintM M (u / 10) [UInt8.ofNat (48 + u % 10)] = .ok u
      rw [one (u / 10) (u % 10) (by omega) (by omega) (by omega)]
      congr 1
      omega
theorem pb_dec (B u : Nat) (hB : 2 ^ B - 1 ≤ 18446744073709551615) (hu : u ≤ 2 ^ B - 1) : Lib.parseUintB B (Lib.decDigits u) = .ok u := by
  unfold Lib.parseUintB
  rw [if_neg (dec_ne u)]
  exact pm_dec _ hB (u + 1) u (by omega) hu
theorem itoa_cases (n : Int) : (n < 0 ∧ Lib.itoa n = 45 :: Lib.decDigits n.natAbs) ∨ (0 ≤ n ∧ Lib.itoa n = Lib.decDigits n.toNat) := by
  unfold Lib.itoa
  by_cases h : n < 0
  · exact .inl ⟨h, by rw [if_pos h]⟩
  · exact .inr ⟨by omega, by rw [if_neg h]⟩
theorem parse_itoa (B : Nat) (hB : B = 32 ∨ B = 64) (n : Int) (h0 : -((2 ^ (B - 1) : Nat) : Int) ≤ n) (h1 : n < ((2 ^ (B - 1) : Nat) : Int)) : Lib.parseIntB B (Lib.itoa n) = .ok n := by
  have hb64 : 2 ^ B - 1 ≤ 18446744073709551615 := by rcases hB with rfl | rfl <;> decide
  have hbb : 2 ^ (B - 1) ≤ 2 ^ B - 1 := by rcases hB with rfl | rfl <;> decide
  obtain ⟨C, hC⟩ : ∃ C, 2 ^ (B - 1) = C := ⟨_, rfl⟩
  rw [hC] at h0 h1 hbb
  rcases itoa_cases n with ⟨hn, e⟩ | ⟨hn, e⟩
  · rw [e]
    have hp := pb_dec B n.natAbs hb64 (by omega)
    have e1 : (45 : UInt8).toNat = 45 := rfl
    unfold Lib.parseIntB
    simp only [e1, or_true, if_true, hp, hC]
    simp only [not_true_eq_false, false_and, if_false, true_and]
    rw [if_neg (by omega)]
    congr 1
    omega
  · rw [e]
    have hp := pb_dec B n.toNat hb64 (by omega)
    have ha := dec_all (n.toNat + 1) n.toNat (by omega)
    cases hd : Lib.decDigits n.toNat with
    | nil => exact absurd hd (dec_ne _)
    | cons c r =>
      have hc := ha c (by rw [hd]; simp)
      simp only [dgB, decide_eq_true_eq] at hc
      rw [hd] at hp
      have g1 : ¬ (c.toNat = 43 ∨ c.toNat = 45) := by omega
      have g2 : ¬ c.toNat = 45 := by omega
      unfold Lib.parseIntB
      simp only [if_neg g1, hp, hC]
      simp only [g2, not_false_eq_true, true_and, false_and, if_false]
      rw [if_neg (by omega)]
      congr 1
      omega
/-- The bytes of a number: how many are ahead of its digits; each behind them is a digit. -/
theorem itoa_shape (n : Int) : ∃ g, g ≤ 1 ∧ g < (Lib.itoa n).length ∧ (∀ j (h : j < (Lib.itoa n).length), g ≤ j → dgB (Lib.itoa n)[j] = true) ∧ (g = 1 → (Lib.itoa n)[0]? = some 45) ∧ (g = 0 → ∀ h, (Lib.itoa n)[0]'h ≠ 45) := by
  rcases itoa_cases n with ⟨hn, e⟩ | ⟨hn, e⟩
  · rw [e]
    have ha := dec_all (n.natAbs + 1) n.natAbs (by omega)
    have hl : 0 < (Lib.decDigits n.natAbs).length := List.length_pos_iff.2 (dec_ne _)
    refine ⟨1, by omega, by rw [List.length_cons]; omega, fun j h hj => ?_, fun _ => rfl, fun h => absurd h (by omega)⟩
    obtain ⟨k, rfl⟩ : ∃ k, j = k + 1 := ⟨j - 1, by omega⟩
    rw [List.getElem_cons_succ]
    exact ha _ (List.getElem_mem _)
  · rw [e]
    have ha := dec_all (n.toNat + 1) n.toNat (by omega)
    have hl : 0 < (Lib.decDigits n.toNat).length := List.length_pos_iff.2 (dec_ne _)
    refine ⟨0, by omega, hl, fun j h hj => ha _ (List.getElem_mem _), fun h => absurd h (by omega), fun _ h => ?_⟩
    have := ha _ (List.getElem_mem h)
    intro e2
    rw [e2] at this
    exact absurd this (by decide)
end Go.Proofs.YtmfijliladancaaGreatDoor
