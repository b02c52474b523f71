/-
  What values plain bytes are: the mathematics, without the program.
  What texts bytes are: the mathematics, without the program.
-/
import Derived.Test.YtalphknhkkcpgaaDoorKBWordsMath
import Derived.Test.YtalphknhkkcpgaaDoorKBMath
namespace Go.Proofs.YtalphknhkkcpgaaDoor
open Go.RowKit
namespace Um
theorem bt_toNat (b : UInt8) : bt (b.toNat : Int) = b := by
  apply UInt8.toNat_inj.1
  exact bt_nat b.toNat_lt
theorem by_lev : ∀ (l : List UInt8) (j : Nat) (h : j < l.length), by_ (lev l) j = l[j].toNat
  | [], j, h => by simp at h
  | b :: l, 0, _ => by
    have := b.toNat_lt
    simp [by_, lev]
  | b :: l, j + 1, h => by
    have ih := by_lev l j (by simpa using h)
    have := b.toNat_lt
    have e : by_ (lev (b :: l)) (j + 1) = by_ (lev l) j := by
      unfold by_
      rw [pow_step, Nat.mul_comm, ← Nat.div_div_eq_div_mul]
      congr 2
      simp only [lev]; omega
    rw [e, ih]; rfl
theorem lit_lev (l : List UInt8) : lit (lev l) l.length = l := by
  refine List.ext_getElem (lit_len _ _) fun j h1 h2 => ?_
  rw [lit_get _ _ j h2, by_lev l j h2, bt_toNat]
/-- The number with a sign that so many bytes are. -/
def sgn (k x : Nat) : Int := if x < 2 ^ (8 * k - 1) then (x : Int) else (x : Int) - 2 ^ (8 * k)
theorem sgn_four {x : Nat} (h : x < 4294967296) : (-2147483648 ≤ sgn 4 x ∧ sgn 4 x ≤ 2147483647) ∧ u64 (sgn 4 x) % 4294967296 = x := by
  unfold sgn u64
  have e : (2 : Nat) ^ (8 * 4 - 1) = 2147483648 := by decide
  have e2 : (2 : Int) ^ (8 * 4) = 4294967296 := by decide
  rw [e, e2]
  split <;> omega
theorem sgn_eight {x : Nat} (h : x < 18446744073709551616) : (-9223372036854775808 ≤ sgn 8 x ∧ sgn 8 x ≤ 9223372036854775807) ∧ u64 (sgn 8 x) = x := by
  unfold sgn u64
  have e : (2 : Nat) ^ (8 * 8 - 1) = 9223372036854775808 := by decide
  have e2 : (2 : Int) ^ (8 * 8) = 18446744073709551616 := by decide
  rw [e, e2]
  split <;> omega
theorem lit_mod (n k : Nat) : lit (n % 2 ^ (8 * k)) k = lit n k := by
  refine List.ext_getElem (by rw [lit_len, lit_len]) fun j h1 h2 => ?_
  rw [lit_len] at h1
  rw [lit_get _ _ j h1, lit_get _ _ j h1]
  have e : by_ (n % 2 ^ (8 * k)) j = by_ n j := by
    unfold by_
    obtain ⟨d, rfl⟩ : ∃ d, k = j + 1 + d := ⟨k - j - 1, by omega⟩
    have h : (2 : Nat) ^ (8 * (j + 1 + d)) = 2 ^ (8 * j) * (256 * 2 ^ (8 * d)) := by
      rw [show 8 * (j + 1 + d) = 8 * j + (8 + 8 * d) by omega, Nat.pow_add, Nat.pow_add]
    rw [h, Nat.mod_mul_right_div_self, Nat.mod_mul_right_mod]
  rw [e]
/-- Number i of numbers of so many bytes. -/
def rdn (k : Nat) (l : List UInt8) (i : Nat) : Int := sgn k (lev ((l.drop (k * i)).take k))
theorem lit_rdn (k : Nat) (hk : k = 4 ∨ k = 8) (l : List UInt8) (i : Nat) (h : k * i + k ≤ l.length) : lit (u64 (rdn k l i)) k = (l.drop (k * i)).take k := by
  have hl : ((l.drop (k * i)).take k).length = k := by rw [List.length_take, List.length_drop]; omega
  have hlt := lev_lt ((l.drop (k * i)).take k)
  rw [hl] at hlt
  have e := lit_lev ((l.drop (k * i)).take k)
  rw [hl] at e
  unfold rdn
  generalize (l.drop (k * i)).take k = b at *
  rcases hk with rfl | rfl
  · have := (sgn_four (x := lev b) hlt).2
    rw [← lit_mod, show (2 : Nat) ^ (8 * 4) = 4294967296 by decide, this, e]
  · rw [(sgn_eight (x := lev b) hlt).2, e]
theorem nums_rdn (k : Nat) (hk : k = 4 ∨ k = 8) (l : List UInt8) : ∀ n, k * n ≤ l.length → nums k ((List.range n).map (rdn k l)) = l.take (k * n)
  | 0, _ => by simp [nums]
  | n + 1, h => by
    rw [Nat.mul_add, Nat.mul_one] at h
    rw [List.range_succ, List.map_append, List.map_cons, List.map_nil, nums_snoc, nums_rdn k hk l n (by omega), lit_rdn k hk l n h, Nat.mul_add, Nat.mul_one, List.take_add]
end Um
/-- These are the values of a kind that the bytes are. -/
def IsPl (kd : Int) (l : List UInt8) (n : Nat) (vs : List Vl) : Prop := vs.length = n ∧ Right kd vs ∧ plainB kd vs = l
theorem isPl_fn {kd : Int} {l : List UInt8} {n : Nat} {vs us : List Vl} (h1 : IsPl kd l n vs) (h2 : IsPl kd l n us) : vs = us :=
  plainB_inj (h1.1.trans h2.1.symm) h1.2.1 h2.2.1 (h1.2.2.trans h2.2.2.symm)
/-- The bytes of a number of the kind. -/
def szOf (kd : Int) : Nat := if kd = 2 then 4 else 8
theorem szOf_cases (kd : Int) : szOf kd = 4 ∨ szOf kd = 8 := by unfold szOf; split <;> simp
/-- The numbers that bytes are. -/
def rdvs (kd : Int) (l : List UInt8) (n : Nat) : List Vl := (List.range n).map fun i => ⟨kd, Um.rdn (szOf kd) l i, ⟨#[]⟩⟩
theorem rdvs_len (kd : Int) (l : List UInt8) (n : Nat) : (rdvs kd l n).length = n := by simp [rdvs]
theorem isPl_nums {kd : Int} {l : List UInt8} {n : Nat} (h : kd = 2 ∨ kd = 3 ∨ kd = 5) (hl : l.length = szOf kd * n) : IsPl kd l n (rdvs kd l n) := by
  have hv : vns (rdvs kd l n) = (List.range n).map (Um.rdn (szOf kd) l) := by simp [vns, rdvs]
  refine ⟨rdvs_len kd l n, ⟨by omega, fun v hm => ?_⟩, ?_⟩
  · obtain ⟨i, hi, rfl⟩ := List.mem_map.1 hm
    rw [List.mem_range] at hi
    have hlt := Um.lev_lt ((l.drop (szOf kd * i)).take (szOf kd))
    have hll : ((l.drop (szOf kd * i)).take (szOf kd)).length ≤ szOf kd := by rw [List.length_take]; omega
    have hb : Um.lev ((l.drop (szOf kd * i)).take (szOf kd)) < 2 ^ (8 * szOf kd) := Nat.lt_of_lt_of_le hlt (Nat.pow_le_pow_right (by omega) (by omega))
    have h8 : -9223372036854775808 ≤ Um.rdn (szOf kd) l i ∧ Um.rdn (szOf kd) l i ≤ 9223372036854775807 ∧ (kd = 2 → -2147483648 ≤ Um.rdn (szOf kd) l i ∧ Um.rdn (szOf kd) l i ≤ 2147483647) := by
      unfold Um.rdn
      by_cases h2 : kd = 2
      · have e : szOf kd = 4 := by simp [szOf, h2]
        rw [e] at hb ⊢
        have := (Um.sgn_four hb).1
        omega
      · have e : szOf kd = 8 := by simp [szOf, h2]
        rw [e] at hb ⊢
        have := (Um.sgn_eight hb).1
        omega
    refine ⟨?_, ⟨by simp only; omega, ⟨h8.1, h8.2.1⟩, Nat.zero_le _⟩⟩
    show OkV kd kd (Um.rdn (szOf kd) l i) 0
    unfold OkV
    omega
  · unfold plainB
    rw [if_neg (by omega), if_neg (by omega), hv]
    have := Um.nums_rdn (szOf kd) (szOf_cases kd) l n (by omega)
    rw [← hl, List.take_length] at this
    exact this
theorem notPl_nums {kd : Int} {l : List UInt8} {n : Nat} (h : kd = 2 ∨ kd = 3 ∨ kd = 5) (hl : l.length ≠ szOf kd * n) : ¬ ∃ vs, IsPl kd l n vs := by
  rintro ⟨vs, h1, _, h3⟩
  apply hl
  rw [← h3]
  unfold plainB
  rw [if_neg (by omega), if_neg (by omega), Um.nums_len, vns_len, h1]
  rfl
end Go.Proofs.YtalphknhkkcpgaaDoor

namespace Go.Proofs.YtalphknhkkcpgaaDoor
open Go.RowKit
namespace Um
/-- What is read as a number are that number's bytes. -/
theorem rdv_back : ∀ (l : List UInt8) (i n m k : Nat), i < 10 ∨ True → rdv l i n = (m, k) → 0 < k → ∃ x, m = n + x * 2 ^ (7 * i) ∧ (0 < i → 0 < x) ∧ i < k ∧ l.take (k - i) = uv x
  | [], i, n, m, k, _, h, hk => by
    have e : rdv [] i n = (0, 0) := by unfold rdv; rfl
    rw [e] at h
    injection h with _ h
    omega
  | b :: r, i, n, m, k, _, h, hk => by
    by_cases hi : i < 10
    · by_cases hb : b.toNat < 128
      · by_cases hw : (b.toNat = 0 ∧ 0 < i) ∨ (i = 9 ∧ 1 < b.toNat)
        · rw [rdv_bad hb hw] at h
          injection h with _ h
          omega
        · rw [rdv_end hi hb hw] at h
          injection h with h1 h2
          subst h1 h2
          refine ⟨b.toNat, rfl, fun h0 => by omega, by omega, ?_⟩
          rw [show i + 1 - i = 1 by omega, uv_small hb, bt_toNat]; rfl
      · rw [rdv_more hi hb] at h
        obtain ⟨x, h1, h2, h3, h4⟩ := rdv_back r (i + 1) _ m k (Or.inr trivial) h hk
        have hx := h2 (by omega)
        have h256 := b.toNat_lt
        refine ⟨b.toNat % 128 + 128 * x, ?_, fun _ => by omega, by omega, ?_⟩
        · rw [h1, show 7 * (i + 1) = 7 * i + 7 by omega, Nat.pow_add, Nat.add_mul, Nat.add_assoc]
          congr 2
          rw [Nat.mul_comm 128 x, Nat.mul_assoc, Nat.mul_comm (2 ^ (7 * i))]
        · have hb' : bt (((b.toNat % 128 + 128 * x : Nat) : Int) % 128 + 128) = b := by
            rw [show ((b.toNat % 128 + 128 * x : Nat) : Int) % 128 + 128 = (b.toNat : Int) by omega]; exact bt_toNat b
          rw [uv_big (by omega), show k - i = (k - (i + 1)) + 1 by omega, List.take_succ_cons, h4, hb', show (b.toNat % 128 + 128 * x) / 128 = x by omega]
    · rw [rdv_ten (b :: r) n (by omega)] at h
      injection h with _ h
      omega
theorem rdv_bytes {l : List UInt8} {m k : Nat} (h : rdv l 0 0 = (m, k)) (hk : 0 < k) : l.take k = uv m := by
  obtain ⟨x, h1, _, _, h4⟩ := rdv_back l 0 0 m k (Or.inr trivial) h hk
  have : m = x := by rw [h1]; simp
  rw [this]; exact h4
/-- No bytes: no number. -/
theorem rdv_zero {l : List UInt8} {m : Nat} (h : rdv l 0 0 = (m, 0)) : m = 0 := by
  have key : ∀ (l : List UInt8) (i n m : Nat), rdv l i n = (m, 0) → m = 0 := by
    intro l
    induction l with
    | nil => intro i n m h; rw [show rdv [] i n = (0, 0) from rfl] at h; injection h with h _; exact h.symm
    | cons b r ih =>
      intro i n m h
      by_cases hi : i < 10
      · by_cases hb : b.toNat < 128
        · by_cases hw : (b.toNat = 0 ∧ 0 < i) ∨ (i = 9 ∧ 1 < b.toNat)
          · rw [rdv_bad hb hw] at h; injection h with h _; exact h.symm
          · rw [rdv_end hi hb hw] at h; injection h with _ h; omega
        · rw [rdv_more hi hb] at h; exact ih _ _ _ h
      · rw [rdv_ten (b :: r) n (by omega)] at h; injection h with h _; exact h.symm
  exact key l 0 0 m h
theorem txt_split {l : List UInt8} {m k : Nat} (h : rdv l 0 0 = (m, k)) (hk : 0 < k) (hm : k + m ≤ l.length) : txt ((l.drop k).take m) ++ l.drop (k + m) = l := by
  have h1 := rdv_bytes h hk
  have hl : ((l.drop k).take m).length = m := by rw [List.length_take, List.length_drop]; omega
  unfold txt
  rw [hl, ← h1, List.append_assoc, ← List.drop_drop, List.take_append_drop, List.take_append_drop]
/-- The texts that bytes are. -/
def rdt : Nat → List UInt8 → Option (List (List UInt8))
  | 0, l => if l = [] then some [] else none
  | n + 1, l =>
    let p := rdv l 0 0
    if 0 < p.2 ∧ p.1 ≤ 100 ∧ p.2 + p.1 ≤ l.length then (rdt n (l.drop (p.2 + p.1))).map fun r => (l.drop p.2).take p.1 :: r else none
theorem rdt_some : ∀ (n : Nat) (l : List UInt8) (ss : List (List UInt8)), rdt n l = some ss → ss.length = n ∧ (∀ s ∈ ss, s.length ≤ 100) ∧ txts ss = l
  | 0, l, ss, h => by
    unfold rdt at h
    split at h
    · rename_i e
      obtain rfl := Option.some.inj h
      exact ⟨rfl, fun s hs => by simp at hs, by rw [e]; rfl⟩
    · cases h
  | n + 1, l, ss, h => by
    unfold rdt at h
    generalize hp : rdv l 0 0 = p at h
    obtain ⟨m, k⟩ := p
    simp only at h
    split at h
    · rename_i hc
      obtain ⟨hk, hm, hf⟩ := hc
      obtain ⟨r, hr, rfl⟩ := Option.map_eq_some_iff.1 h
      obtain ⟨h1, h2, h3⟩ := rdt_some n _ r hr
      have hl : ((l.drop k).take m).length = m := by rw [List.length_take, List.length_drop]; omega
      refine ⟨by simp [h1], fun s hs => ?_, ?_⟩
      · rcases List.mem_cons.1 hs with rfl | hs
        · omega
        · exact h2 s hs
      · have e : txts (((l.drop k).take m) :: r) = txt ((l.drop k).take m) ++ txts r := by simp [txts]
        rw [e, h3]
        exact txt_split hp hk hf
    · cases h
theorem rdt_back : ∀ (ss : List (List UInt8)), (∀ s ∈ ss, s.length ≤ 100) → rdt ss.length (txts ss) = some ss
  | [], _ => by simp [rdt, txts]
  | s :: ss, h => by
    have hs := h s (by simp)
    have e : txts (s :: ss) = uv s.length ++ (s ++ txts ss) := by simp [txts, txt]
    have hr := rdv_whole s.length (s ++ txts ss) (by omega)
    have hp := uv_pos s.length
    rw [← e] at hr
    have ih := rdt_back ss fun x hx => h x (by simp [hx])
    show rdt (ss.length + 1) (txts (s :: ss)) = _
    unfold rdt
    simp only [hr]
    have hlen : (txts (s :: ss)).length = (uv s.length).length + (s.length + (txts ss).length) := by rw [e]; simp
    rw [if_pos ⟨hp, hs, by omega⟩]
    have d1 : (txts (s :: ss)).drop (uv s.length).length = s ++ txts ss := by rw [e, List.drop_left]
    rw [← List.drop_drop, d1, List.drop_left, List.take_left, ih]
    rfl
end Um
/-- The texts that bytes are, as values. -/
def tvs (ss : List (List UInt8)) : List Vl := ss.map fun s => ⟨4, 0, ⟨s.toArray⟩⟩
theorem isPl_texts {l : List UInt8} {n : Nat} {ss : List (List UInt8)} (h : Um.rdt n l = some ss) : IsPl 4 l n (tvs ss) := by
  obtain ⟨h1, h2, h3⟩ := Um.rdt_some n l ss h
  have e : vss (tvs ss) = ss := by
    unfold vss tvs
    rw [List.map_map]
    exact (List.map_congr_left fun s _ => rfl).trans (List.map_id' ss)
  refine ⟨by simp [tvs, h1], ⟨by omega, fun v hm => ?_⟩, ?_⟩
  · obtain ⟨s, hs, rfl⟩ := List.mem_map.1 hm
    have h4 := h2 s hs
    have hz : (⟨s.toArray⟩ : ByteArray).size = s.length := by simp [ByteArray.size]
    refine ⟨?_, ⟨by simp, by simp, ?_⟩⟩
    · show OkV 4 4 0 _
      rw [hz]
      unfold OkV
      omega
    · show (⟨s.toArray⟩ : ByteArray).size ≤ maxLen
      rw [hz]; unfold maxLen; omega
  · show Um.txts (vss (tvs ss)) = l
    rw [e, h3]
theorem notPl_texts {l : List UInt8} {n : Nat} (h : Um.rdt n l = none) : ¬ ∃ vs, IsPl 4 l n vs := by
  rintro ⟨vs, h1, h2, h3⟩
  have h4 : Um.txts (vss vs) = l := h3
  have h5 := Um.rdt_back (vss vs) fun s hm => by
    obtain ⟨v, hv, rfl⟩ := List.mem_map.1 hm
    have ho := (h2.2 v hv).1
    unfold Vl.Ok OkV at ho
    rw [Array.length_toList]
    show v.s.size ≤ 100
    omega
  rw [h4, vss_len, h1, h] at h5
  cases h5
end Go.Proofs.YtalphknhkkcpgaaDoor
