/-
  What numbers 0 or 1 bytes are: the mathematics, without the program.
-/
import Derived.Test.YtalphknhkkcpgaaDoorHRdMathE
namespace Go.Proofs.YtalphknhkkcpgaaDoor
open Go.RowKit
namespace Um
theorem num_unp (l : List UInt8) (w : Nat) : ∀ n, num w (unp l w n) = lev l % 2 ^ (w * n)
  | 0 => by simp [unp, num, Nat.mod_one]
  | n + 1 => by
    rw [unp_succ, num_snoc, num_unp l w n, unp_len, Nat.mul_add, Nat.mul_one, Nat.pow_add, Nat.mod_mul, Nat.mul_comm (2 ^ (w * n))]
/-- Have the bytes nothing behind so many bits? -/
theorem lev_last (l : List UInt8) (n : Nat) (b : UInt8) (h : (l ++ [b]).length = (n + 7) / 8) (hr : 0 < n % 8) : lev (l ++ [b]) < 2 ^ n ↔ b.toNat / 2 ^ (n % 8) = 0 := by
  have hl : 8 * l.length + n % 8 = n := by rw [List.length_append] at h; simp at h; omega
  have h1 := lev_lt l
  have h2 := lev_snoc l b
  have hp := Nat.two_pow_pos (8 * l.length)
  have e : 2 ^ n = 2 ^ (8 * l.length) * 2 ^ (n % 8) := by rw [← Nat.pow_add, hl]
  rw [h2, e, Nat.div_eq_zero_iff_lt (Nat.two_pow_pos _)]
  generalize 2 ^ (8 * l.length) = P at *
  generalize 2 ^ (n % 8) = Q
  constructor
  · intro h3
    apply Nat.lt_of_mul_lt_mul_left (a := P)
    rw [Nat.mul_comm P b.toNat]
    omega
  · intro h3
    have h4 : b.toNat * P + P ≤ P * Q := by
      have : (b.toNat + 1) * P ≤ Q * P := Nat.mul_le_mul_right _ h3
      rw [Nat.add_mul, Nat.one_mul] at this
      rw [Nat.mul_comm P Q]; exact this
    omega
end Um
/-- The numbers 0 or 1 that bytes are, as values. -/
def bvs (l : List UInt8) (n : Nat) : List Vl := (List.range n).map fun i => ⟨1, ((Um.unp l 1 n).getD i 0 : Nat), ⟨#[]⟩⟩
theorem isPl_bools {l : List UInt8} {n : Nat} (hl : l.length = (n + 7) / 8) (hb : Um.lev l < 2 ^ n) : IsPl 1 l n (bvs l n) := by
  have hv : nats (vns (bvs l n)) = Um.unp l 1 n := by
    refine List.ext_getElem (by simp [nats, vns, bvs, Um.unp_len]) fun j h1 h2 => ?_
    rw [Um.unp_len] at h2
    have h3 : j < (Um.unp l 1 n).length := by rw [Um.unp_len]; exact h2
    simp [nats, vns, bvs, List.getD, h3]
  have hbit : ∀ i, (Um.unp l 1 n).getD i 0 < 2 := fun i => by
    by_cases h : i < (Um.unp l 1 n).length
    · have := Um.unp_lt l 1 n (Um.unp l 1 n)[i] (List.getElem_mem h)
      simpa [List.getD, h] using this
    · simp [List.getD, h]
  refine ⟨by simp [bvs], ⟨by omega, fun v hm => ?_⟩, ?_⟩
  · obtain ⟨i, _, rfl⟩ := List.mem_map.1 hm
    have := hbit i
    refine ⟨?_, ⟨by simp, by simp only; omega, Nat.zero_le _⟩⟩
    show OkV 1 1 (((Um.unp l 1 n).getD i 0 : Nat) : Int) 0
    unfold OkV
    omega
  · show packed 1 (vns (bvs l n)) = l
    unfold packed
    rw [hv, Um.num_unp, Nat.one_mul, Nat.mod_eq_of_lt hb, vns_len, show (bvs l n).length = n by simp [bvs], Nat.one_mul, ← hl]
    exact Um.lit_lev l
theorem notPl_bools {l : List UInt8} {n : Nat} (h : l.length ≠ (n + 7) / 8 ∨ ¬ Um.lev l < 2 ^ n) : ¬ ∃ vs, IsPl 1 l n vs := by
  rintro ⟨vs, h1, h2, h3⟩
  have h4 : packed 1 (vns vs) = l := h3
  unfold packed at h4
  rw [vns_len, h1, Nat.one_mul] at h4
  have hn := Um.num_lt 1 (nats (vns vs)) fun x hm => by
    obtain ⟨m, hm', rfl⟩ := List.mem_map.1 hm
    obtain ⟨v, hv, rfl⟩ := List.mem_map.1 hm'
    have ho := (h2.2 v hv).1
    unfold Vl.Ok OkV at ho
    omega
  rw [nats_len, vns_len, h1, Nat.one_mul] at hn
  rcases h with h | h
  · apply h; rw [← h4, Um.lit_len]
  · apply h
    rw [← h4, Um.lev_lit]
    exact Nat.lt_of_le_of_lt (Nat.mod_le _ _) hn
end Go.Proofs.YtalphknhkkcpgaaDoor
