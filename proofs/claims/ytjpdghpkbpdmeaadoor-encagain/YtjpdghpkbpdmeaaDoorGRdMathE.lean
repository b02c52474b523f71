/-
  What values plain bytes are: the mathematics, without the program.
-/
import Derived.Test.YtjpdghpkbpdmeaaDoorGWordsMath
namespace Go.Proofs.YtjpdghpkbpdmeaaDoor
open Go.RowKit
namespace Um
theorem bt_toNat (b : UInt8) : bt (b.toNat : Int) = b := by
  apply UInt8.toNat_inj.1
  exact bt_nat b.toNat_lt
theorem by_lev : ∀ (l : List UInt8) (j : Nat) (h : j < l.length), by_ (lev l) j = l[j].toNat
  | [], j, h => by simp at h
  | b :: l, 0, _ => by
    have := b.toNat_lt
    simp [by_, lev]
  | b :: l, j + 1, h => by
    have ih := by_lev l j (by simpa using h)
    have := b.toNat_lt
    have e : by_ (lev (b :: l)) (j + 1) = by_ (lev l) j := by
      unfold by_
      rw [pow_step, Nat.mul_comm, ← Nat.div_div_eq_div_mul]
      congr 2
      simp only [lev]; omega
    rw [e, ih]; rfl
theorem lit_lev (l : List UInt8) : lit (lev l) l.length = l := by
  refine List.ext_getElem (lit_len _ _) fun j h1 h2 => ?_
  rw [lit_get _ _ j h2, by_lev l j h2, bt_toNat]
/-- The number with a sign that so many bytes are. -/
def sgn (k x : Nat) : Int := if x < 2 ^ (8 * k - 1) then (x : Int) else (x : Int) - 2 ^ (8 * k)
theorem sgn_four {x : Nat} (h : x < 4294967296) : (-2147483648 ≤ sgn 4 x ∧ sgn 4 x ≤ 2147483647) ∧ u64 (sgn 4 x) % 4294967296 = x := by
  unfold sgn u64
  have e : (2 : Nat) ^ (8 * 4 - 1) = 2147483648 := by decide
  have e2 : (2 : Int) ^ (8 * 4) = 4294967296 := by decide
  rw [e, e2]
  split <;> omega
theorem sgn_eight {x : Nat} (h : x < 18446744073709551616) : (-9223372036854775808 ≤ sgn 8 x ∧ sgn 8 x ≤ 9223372036854775807) ∧ u64 (sgn 8 x) = x := by
  unfold sgn u64
  have e : (2 : Nat) ^ (8 * 8 - 1) = 9223372036854775808 := by decide
  have e2 : (2 : Int) ^ (8 * 8) = 18446744073709551616 := by decide
  rw [e, e2]
  split <;> omega
theorem lit_mod (n k : Nat) : lit (n % 2 ^ (8 * k)) k = lit n k := by
  refine List.ext_getElem (by rw [lit_len, lit_len]) fun j h1 h2 => ?_
  rw [lit_len] at h1
  rw [lit_get _ _ j h1, lit_get _ _ j h1]
  have e : by_ (n % 2 ^ (8 * k)) j = by_ n j := by
    unfold by_
    obtain ⟨d, rfl⟩ : ∃ d, k = j + 1 + d := ⟨k - j - 1, by omega⟩
    have h : (2 : Nat) ^ (8 * (j + 1 + d)) = 2 ^ (8 * j) * (256 * 2 ^ (8 * d)) := by
      rw [show 8 * (j + 1 + d) = 8 * j + (8 + 8 * d) by omega, Nat.pow_add, Nat.pow_add]
    rw [h, Nat.mod_mul_right_div_self, Nat.mod_mul_right_mod]
  rw [e]
/-- Number i of numbers of so many bytes. -/
def rdn (k : Nat) (l : List UInt8) (i : Nat) : Int := sgn k (lev ((l.drop (k * i)).take k))
theorem lit_rdn (k : Nat) (hk : k = 4 ∨ k = 8) (l : List UInt8) (i : Nat) (h : k * i + k ≤ l.length) : lit (u64 (rdn k l i)) k = (l.drop (k * i)).take k := by
  have hl : ((l.drop (k * i)).take k).length = k := by rw [List.length_take, List.length_drop]; omega
  have hlt := lev_lt ((l.drop (k * i)).take k)
  rw [hl] at hlt
  have e := lit_lev ((l.drop (k * i)).take k)
  rw [hl] at e
  unfold rdn
  generalize (l.drop (k * i)).take k = b at *
  rcases hk with rfl | rfl
  · have := (sgn_four (x := lev b) hlt).2
    rw [← lit_mod, show (2 : Nat) ^ (8 * 4) = 4294967296 by decide, this, e]
  · rw [(sgn_eight (x := lev b) hlt).2, e]
theorem nums_rdn (k : Nat) (hk : k = 4 ∨ k = 8) (l : List UInt8) : ∀ n, k * n ≤ l.length → nums k ((List.range n).map (rdn k l)) = l.take (k * n)
  | 0, _ => by simp [nums]
  | n + 1, h => by
    rw [Nat.mul_add, Nat.mul_one] at h
    rw [List.range_succ, List.map_append, List.map_cons, List.map_nil, nums_snoc, nums_rdn k hk l n (by omega), lit_rdn k hk l n h, Nat.mul_add, Nat.mul_one, List.take_add]
end Um
/-- These are the values of a kind that the bytes are. -/
def IsPl (kd : Int) (l : List UInt8) (n : Nat) (vs : List Vl) : Prop := vs.length = n ∧ Right kd vs ∧ plainB kd vs = l
theorem isPl_fn {kd : Int} {l : List UInt8} {n : Nat} {vs us : List Vl} (h1 : IsPl kd l n vs) (h2 : IsPl kd l n us) : vs = us :=
  plainB_inj (h1.1.trans h2.1.symm) h1.2.1 h2.2.1 (h1.2.2.trans h2.2.2.symm)
/-- The bytes of a number of the kind. -/
def szOf (kd : Int) : Nat := if kd = 2 then 4 else 8
theorem szOf_cases (kd : Int) : szOf kd = 4 ∨ szOf kd = 8 := by unfold szOf; split <;> simp
/-- The numbers that bytes are. -/
def rdvs (kd : Int) (l : List UInt8) (n : Nat) : List Vl := (List.range n).map fun i => ⟨kd, Um.rdn (szOf kd) l i, ⟨#[]⟩⟩
theorem rdvs_len (kd : Int) (l : List UInt8) (n : Nat) : (rdvs kd l n).length = n := by simp [rdvs]
theorem isPl_nums {kd : Int} {l : List UInt8} {n : Nat} (h : kd = 2 ∨ kd = 3 ∨ kd = 5) (hl : l.length = szOf kd * n) : IsPl kd l n (rdvs kd l n) := by
  have hv : vns (rdvs kd l n) = (List.range n).map (Um.rdn (szOf kd) l) := by simp [vns, rdvs]
  refine ⟨rdvs_len kd l n, ⟨by omega, fun v hm => ?_⟩, ?_⟩
  · obtain ⟨i, hi, rfl⟩ := List.mem_map.1 hm
    rw [List.mem_range] at hi
    have hlt := Um.lev_lt ((l.drop (szOf kd * i)).take (szOf kd))
    have hll : ((l.drop (szOf kd * i)).take (szOf kd)).length ≤ szOf kd := by rw [List.length_take]; omega
    have hb : Um.lev ((l.drop (szOf kd * i)).take (szOf kd)) < 2 ^ (8 * szOf kd) := Nat.lt_of_lt_of_le hlt (Nat.pow_le_pow_right (by omega) (by omega))
    have h8 : -9223372036854775808 ≤ Um.rdn (szOf kd) l i ∧ Um.rdn (szOf kd) l i ≤ 9223372036854775807 ∧ (kd = 2 → -2147483648 ≤ Um.rdn (szOf kd) l i ∧ Um.rdn (szOf kd) l i ≤ 2147483647) := by
      unfold Um.rdn
      by_cases h2 : kd = 2
      · have e : szOf kd = 4 := by simp [szOf, h2]
        rw [e] at hb ⊢
        have := (Um.sgn_four hb).1
        omega
      · have e : szOf kd = 8 := by simp [szOf, h2]
        rw [e] at hb ⊢
        have := (Um.sgn_eight hb).1
        omega
    refine ⟨?_, ⟨by simp only; omega, ⟨h8.1, h8.2.1⟩, Nat.zero_le _⟩⟩
    show OkV kd kd (Um.rdn (szOf kd) l i) 0
    unfold OkV
    omega
  · unfold plainB
    rw [if_neg (by omega), if_neg (by omega), hv]
    have := Um.nums_rdn (szOf kd) (szOf_cases kd) l n (by omega)
    rw [← hl, List.take_length] at this
    exact this
theorem notPl_nums {kd : Int} {l : List UInt8} {n : Nat} (h : kd = 2 ∨ kd = 3 ∨ kd = 5) (hl : l.length ≠ szOf kd * n) : ¬ ∃ vs, IsPl kd l n vs := by
  rintro ⟨vs, h1, _, h3⟩
  apply hl
  rw [← h3]
  unfold plainB
  rw [if_neg (by omega), if_neg (by omega), Um.nums_len, vns_len, h1]
  rfl
end Go.Proofs.YtjpdghpkbpdmeaaDoor
