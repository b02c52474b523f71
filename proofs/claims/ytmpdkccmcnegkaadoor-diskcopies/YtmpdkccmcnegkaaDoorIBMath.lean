/-
  The plain mathematics of numbers in bytes, 7 bits a byte: no text of the program is named here.
  Numbers in so many bytes, the lowest first, and back: the mathematics, without the program.
  Numbers, so many bits each, as one number, and its bytes: the mathematics, without the program.
  The bits of numbers, one by one: the mathematics, without the program.
-/
import Derived.WalkKit
namespace Go.Proofs.YtmpdkccmcnegkaaDoor
namespace Um
/-- A byte of a number. -/
def bt (n : Int) : UInt8 := UInt8.ofNat n.toNat
theorem bt_nat {n : Nat} (h : n < 256) : (bt n).toNat = n := by
  unfold bt
  simp only [Int.toNat_natCast, UInt8.toNat_ofNat']
  omega
theorem bt_int {n : Int} (h0 : 0 ≤ n) (h : n < 256) : ((bt n).toNat : Int) = n := by
  obtain ⟨k, rfl⟩ := Int.eq_ofNat_of_zero_le h0
  rw [bt_nat (by omega)]

/-- A number's bytes, 7 bits a byte, the lowest first; f: how many bytes there may be. -/
def uvf : Nat → Nat → List UInt8
  | 0, n => [bt n]
  | f + 1, n => if n < 128 then [bt n] else bt ((n : Int) % 128 + 128) :: uvf f (n / 128)
theorem uvf_small (f : Nat) {n : Nat} (h : n < 128) : uvf f n = [bt n] := by
  cases f with
  | zero => rfl
  | succ f => rw [uvf, if_pos h]
theorem uvf_same (f : Nat) : ∀ (g n : Nat), n ≤ f → n ≤ g → uvf f n = uvf g n := by
  induction f with
  | zero => intro g n h _; rw [uvf_small 0 (by omega), uvf_small g (by omega)]
  | succ f ih =>
    intro g n h1 h2
    by_cases h : n < 128
    · rw [uvf_small _ h, uvf_small _ h]
    · cases g with
      | zero => omega
      | succ g => rw [uvf, uvf, if_neg h, if_neg h, ih g (n / 128) (by omega) (by omega)]
/-- A number's bytes, 7 bits a byte, the lowest first. -/
def uv (n : Nat) : List UInt8 := uvf n n
theorem uv_small {n : Nat} (h : n < 128) : uv n = [bt n] := uvf_small n h
theorem uv_big {n : Nat} (h : ¬ n < 128) : uv n = bt ((n : Int) % 128 + 128) :: uv (n / 128) := by
  unfold uv
  cases n with
  | zero => omega
  | succ m => rw [uvf, if_neg h, uvf_same m ((m + 1) / 128) ((m + 1) / 128) (by omega) (Nat.le_refl _)]

/-- As many bytes as it takes: k bytes hold 7k bits. -/
theorem uv_len (k : Nat) : ∀ n, n < 128 ^ (k + 1) → (uv n).length ≤ k + 1 := by
  induction k with
  | zero => intro n h; rw [uv_small (by simpa using h)]; simp
  | succ k ih =>
    intro n h
    by_cases hs : n < 128
    · rw [uv_small hs]; simp
    · rw [uv_big hs]
      have hd : n / 128 < 128 ^ (k + 1) := by
        apply Nat.div_lt_of_lt_mul
        rw [Nat.pow_succ, Nat.mul_comm] at h
        exact h
      have := ih _ hd
      simp only [List.length_cons]
      omega

theorem uv_pos (n : Nat) : 0 < (uv n).length := by
  by_cases h : n < 128
  · rw [uv_small h]; simp
  · rw [uv_big h]; simp

theorem uv_ten {n : Nat} (h : n < 18446744073709551616) : (uv n).length ≤ 10 := by
  have e : (128 : Nat) ^ (9 + 1) = 1180591620717411303424 := by decide
  exact uv_len 9 n (by rw [e]; omega)
/-- What has been written so far has room. -/
theorem uv_room {n m : Nat} {l : List UInt8} (hn : n < 18446744073709551616) (h : l ++ uv m = uv n) : l.length ≤ 9 := by
  have h1 := uv_ten hn
  have h2 := uv_pos m
  rw [← h, List.length_append] at h1
  omega
theorem uv_end {n m : Nat} {l : List UInt8} (hm : m < 128) (h : l ++ uv m = uv n) : l ++ [bt m] = uv n := by rw [← h, uv_small hm]
theorem uv_step {n m : Nat} {l : List UInt8} (hm : ¬ m < 128) (h : l ++ uv m = uv n) : (l ++ [bt ((m : Int) % 128 + 128)]) ++ uv (m / 128) = uv n := by
  rw [← h, uv_big hm]; simp
end Um
theorem str_snoc (l : List UInt8) (b : UInt8) : (⟨l.toArray⟩ : ByteArray) ++ ⟨#[b]⟩ = ⟨(l ++ [b]).toArray⟩ := by
  apply ByteArray.ext
  simp
end Go.Proofs.YtmpdkccmcnegkaaDoor

namespace Go.Proofs.YtmpdkccmcnegkaaDoor
namespace Um
/-- Byte j of a number. -/
def by_ (n j : Nat) : Nat := n / 2 ^ (8 * j) % 256
theorem by_lt (n j : Nat) : by_ n j < 256 := Nat.mod_lt _ (by omega)
/-- So many bytes of a number, the lowest first. -/
def lit (n k : Nat) : List UInt8 := (List.range k).map fun j => bt (by_ n j : Nat)
theorem lit_len (n k : Nat) : (lit n k).length = k := by simp [lit]
theorem lit_succ (n k : Nat) : lit n (k + 1) = lit n k ++ [bt (by_ n k : Nat)] := by simp [lit, List.range_succ]
theorem lit_get (n k j : Nat) (h : j < k) : (lit n k)[j]'(by rw [lit_len]; exact h) = bt (by_ n j : Nat) := by simp [lit]
theorem pow_step (j : Nat) : 2 ^ (8 * (j + 1)) = 2 ^ (8 * j) * 256 := by rw [show 8 * (j + 1) = 8 * j + 8 by omega, Nat.pow_add]
theorem div_step (n j : Nat) : n / 2 ^ (8 * j) / 256 = n / 2 ^ (8 * (j + 1)) := by rw [pow_step, Nat.div_div_eq_div_mul]
/-- Bytes as one number, the lowest first. -/
def lev : List UInt8 → Nat
  | [] => 0
  | b :: l => b.toNat + 256 * lev l
theorem lev_lt (l : List UInt8) : lev l < 2 ^ (8 * l.length) := by
  induction l with
  | nil => simp [lev]
  | cons b l ih =>
    have := b.toNat_lt
    simp only [lev, List.length_cons, pow_step]
    omega
theorem lev_snoc (l : List UInt8) (b : UInt8) : lev (l ++ [b]) = lev l + b.toNat * 2 ^ (8 * l.length) := by
  induction l with
  | nil => simp [lev]
  | cons c l ih =>
    simp only [List.cons_append, lev, ih, List.length_cons, pow_step]
    rw [Nat.mul_add, Nat.mul_comm 256 (b.toNat * _), Nat.mul_assoc]
    omega
theorem lev_eight {l : List UInt8} (h : l.length ≤ 8) : lev l < 18446744073709551616 :=
  Nat.lt_of_lt_of_le (lev_lt l) (Nat.le_trans (Nat.pow_le_pow_right (by omega) (show 8 * l.length ≤ 64 by omega)) (by decide))
/-- A high byte joined to a lower number: their sum. -/
theorem or_high {n b i : Nat} (h : n < 2 ^ (8 * i)) : n ||| (b * 2 ^ (8 * i)) = n + b * 2 ^ (8 * i) := by
  rw [Nat.or_comm, Nat.mul_comm, ← Nat.two_pow_add_eq_or_of_lt h, Nat.add_comm]
theorem high_lt {b i : Nat} (hb : b < 256) (hi : i < 8) : b * 2 ^ (8 * i) < 18446744073709551616 :=
  Nat.lt_of_le_of_lt (Nat.mul_le_mul (show b ≤ 255 by omega) (Nat.pow_le_pow_right (by omega) (show 8 * i ≤ 56 by omega))) (by decide)
/-- Has a number room in so many bytes? By its highest byte, or by what is left above. -/
theorem room_iff {n k : Nat} (h1 : 1 ≤ k) : n / 2 ^ (8 * (k - 1)) ≤ 255 ↔ n / 2 ^ (8 * k) = 0 := by
  obtain ⟨j, rfl⟩ : ∃ j, k = j + 1 := ⟨k - 1, by omega⟩
  rw [Nat.add_sub_cancel, ← div_step]
  generalize n / 2 ^ (8 * j) = q
  omega
end Um
end Go.Proofs.YtmpdkccmcnegkaaDoor

namespace Go.Proofs.YtmpdkccmcnegkaaDoor
namespace Um
/-- Numbers, w bits each, the first lowest, as one number. -/
def num (w : Nat) : List Nat → Nat
  | [] => 0
  | x :: l => x + 2 ^ w * num w l
theorem num_snoc (w : Nat) (l : List Nat) (x : Nat) : num w (l ++ [x]) = num w l + x * 2 ^ (w * l.length) := by
  induction l with
  | nil => simp [num]
  | cons y l ih =>
    simp only [List.cons_append, num, ih, List.length_cons, Nat.mul_add, Nat.mul_one, Nat.pow_add]
    rw [Nat.mul_left_comm (2 ^ w) x, Nat.mul_comm (2 ^ w) (2 ^ (w * l.length))]
    omega
theorem num_take (w : Nat) (l : List Nat) (k : Nat) (h : k < l.length) : num w (l.take (k + 1)) = num w (l.take k) + l[k] * 2 ^ (w * k) := by
  rw [List.take_succ_eq_append_getElem h, num_snoc, List.length_take, Nat.min_eq_left (by omega)]
theorem num_lt (w : Nat) (l : List Nat) (h : ∀ x ∈ l, x < 2 ^ w) : num w l < 2 ^ (w * l.length) := by
  induction l with
  | nil => simp [num]
  | cons y l ih =>
    have h1 := ih (fun x hx => h x (List.mem_cons_of_mem _ hx))
    have h2 := h y (List.mem_cons_self ..)
    simp only [num, List.length_cons, Nat.mul_add, Nat.mul_one, Nat.pow_add]
    rw [Nat.mul_comm (2 ^ (w * l.length))]
    have : 2 ^ w * (num w l + 1) ≤ 2 ^ w * 2 ^ (w * l.length) := Nat.mul_le_mul_left _ h1
    rw [Nat.mul_add, Nat.mul_one] at this
    omega
theorem num_take_lt (w : Nat) (l : List Nat) (k : Nat) (h : ∀ x ∈ l, x < 2 ^ w) (hk : k ≤ l.length) : num w (l.take k) < 2 ^ (w * k) := by
  have := num_lt w (l.take k) (fun x hx => h x (List.mem_of_mem_take hx))
  rwa [List.length_take, Nat.min_eq_left hk] at this
/-- What is left above q bytes, when a number is added above. -/
theorem above_add (n x b q : Nat) (h : 8 * q ≤ b) : (n + x * 2 ^ b) / 2 ^ (8 * q) = n / 2 ^ (8 * q) + x * 2 ^ (b - 8 * q) := by
  have e : x * 2 ^ b = x * 2 ^ (b - 8 * q) * 2 ^ (8 * q) := by rw [Nat.mul_assoc, ← Nat.pow_add, Nat.sub_add_cancel h]
  rw [e, Nat.add_mul_div_right _ _ (Nat.two_pow_pos _)]
theorem above_lt {n b q : Nat} (hn : n < 2 ^ b) (h : 8 * q ≤ b) : n / 2 ^ (8 * q) < 2 ^ (b - 8 * q) := by
  rw [Nat.div_lt_iff_lt_mul (Nat.two_pow_pos _), ← Nat.pow_add, Nat.sub_add_cancel h]
  exact hn
/-- A number above a lesser one: joined, their sum. -/
theorem or_above {r x h : Nat} (hr : r < 2 ^ h) : r ||| (x * 2 ^ h) = r + x * 2 ^ h := by
  rw [Nat.or_comm, Nat.mul_comm, ← Nat.two_pow_add_eq_or_of_lt hr, Nat.add_comm]
/-- Bytes already written stay, when a number is added above. -/
theorem by_add (n x b j : Nat) (h : 8 * (j + 1) ≤ b) : by_ (n + x * 2 ^ b) j = by_ n j := by
  unfold by_
  rw [above_add n x b j (by omega)]
  have e : 2 ^ (b - 8 * j) = 2 ^ (b - 8 * (j + 1)) * 256 := by
    rw [show (256 : Nat) = 2 ^ 8 by rfl, ← Nat.pow_add]; congr 1; omega
  rw [e, ← Nat.mul_assoc, Nat.add_mul_mod_self_right]
theorem lit_add (n x b q : Nat) (h : 8 * q ≤ b) : lit (n + x * 2 ^ b) q = lit n q := by
  unfold lit
  apply List.map_congr_left
  intro j hj
  have hj := List.mem_range.1 hj
  rw [by_add n x b j (by omega)]
/-- Bytes above a number are 0. -/
theorem lit_zeros (n q k : Nat) (h : n < 2 ^ (8 * q)) : lit n (q + k) = lit n q ++ List.replicate k 0 := by
  induction k with
  | zero => simp
  | succ k ih =>
    rw [← Nat.add_assoc, lit_succ, ih, List.replicate_succ', List.append_assoc]
    congr 1
    congr 1
    have : by_ n (q + k) = 0 := by
      unfold by_
      rw [Nat.div_eq_of_lt (Nat.lt_of_lt_of_le h (Nat.pow_le_pow_right (by omega) (by omega)))]
    rw [this]; rfl
end Um
end Go.Proofs.YtmpdkccmcnegkaaDoor

namespace Go.Proofs.YtmpdkccmcnegkaaDoor
namespace Um
theorem num_drop (w : Nat) : ∀ (i : Nat) (l : List Nat), (∀ x ∈ l, x < 2 ^ w) → num w l / 2 ^ (w * i) = num w (l.drop i)
  | 0, l, _ => by simp
  | i + 1, [], _ => by simp [num]
  | i + 1, x :: l, h => by
    have h1 := num_drop w i l (fun y hy => h y (List.mem_cons_of_mem _ hy))
    have hx := h x (List.mem_cons_self ..)
    rw [List.drop_succ_cons, ← h1, num, Nat.mul_add, Nat.mul_one, Nat.add_comm (w * i), Nat.pow_add, ← Nat.div_div_eq_div_mul, Nat.add_mul_div_left _ _ (Nat.two_pow_pos w), Nat.div_eq_of_lt hx, Nat.zero_add]
theorem num_at (w : Nat) (l : List Nat) (i : Nat) (hi : i < l.length) (h : ∀ x ∈ l, x < 2 ^ w) : ∃ M, num w l / 2 ^ (w * i) = l[i] + 2 ^ w * M := by
  rw [num_drop w i l h, List.drop_eq_getElem_cons hi]
  exact ⟨_, rfl⟩
/-- One bit of all of them is one of the number's. -/
theorem bit_at (w : Nat) (l : List Nat) (i k : Nat) (hi : i < l.length) (hk : k < w) (h : ∀ x ∈ l, x < 2 ^ w) : num w l / 2 ^ (w * i + k) % 2 = l[i] / 2 ^ k % 2 := by
  obtain ⟨M, hM⟩ := num_at w l i hi h
  rw [Nat.pow_add, ← Nat.div_div_eq_div_mul, hM]
  have e : 2 ^ w * M = 2 ^ k * (2 * (2 ^ (w - k - 1) * M)) := by
    rw [← Nat.mul_assoc, ← Nat.mul_assoc, ← Nat.pow_succ, ← Nat.pow_add, show k + 1 + (w - k - 1) = w by omega]
  rw [e, Nat.add_mul_div_left _ _ (Nat.two_pow_pos k), Nat.add_mul_mod_self_left]
/-- One number of all of them. -/
theorem num_get (w : Nat) (l : List Nat) (i : Nat) (hi : i < l.length) (h : ∀ x ∈ l, x < 2 ^ w) : num w l / 2 ^ (w * i) % 2 ^ w = l[i] := by
  obtain ⟨M, hM⟩ := num_at w l i hi h
  rw [hM, Nat.add_mul_mod_self_left, Nat.mod_eq_of_lt (h _ (List.getElem_mem hi))]
/-- The first m bits of a number. -/
def bitl (N m : Nat) : List UInt8 := (List.range m).map fun j => bt ((N / 2 ^ j % 2 : Nat) : Int)
theorem bitl_len (N m : Nat) : (bitl N m).length = m := by simp [bitl]
theorem bitl_succ (N m : Nat) : bitl N (m + 1) = bitl N m ++ [bt ((N / 2 ^ m % 2 : Nat) : Int)] := by simp [bitl, List.range_succ]
theorem bitl_get (N m j : Nat) (h : j < m) : (bitl N m)[j]'(by rw [bitl_len]; exact h) = bt ((N / 2 ^ j % 2 : Nat) : Int) := by simp [bitl]
/-- A bit more of a number. -/
theorem mod_step (x k : Nat) : x % 2 ^ (k + 1) = x % 2 ^ k + x / 2 ^ k % 2 * 2 ^ k := by
  rw [Nat.pow_succ, Nat.mod_mul, Nat.mul_comm (2 ^ k)]
/-- The last byte, of fewer bits. -/
theorem by_end {N q k : Nat} (h : N < 2 ^ (8 * q + k)) (hk : k ≤ 8) : N / 2 ^ (8 * q) % 2 ^ k = by_ N q := by
  have h1 : N / 2 ^ (8 * q) < 2 ^ k := by
    rw [Nat.div_lt_iff_lt_mul (Nat.two_pow_pos _), ← Nat.pow_add, Nat.add_comm k]; exact h
  have h2 : 2 ^ k ≤ 2 ^ 8 := Nat.pow_le_pow_right (by omega) hk
  unfold by_
  rw [Nat.mod_eq_of_lt h1, Nat.mod_eq_of_lt (show N / 2 ^ (8 * q) < 256 by have : 2 ^ 8 = 256 := rfl; omega)]
end Um
end Go.Proofs.YtmpdkccmcnegkaaDoor
