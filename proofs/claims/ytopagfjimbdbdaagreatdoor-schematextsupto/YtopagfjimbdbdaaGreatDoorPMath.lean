/-
  The plain mathematics of numbers in bytes, 7 bits a byte: no text of the program is named here.
-/
import Derived.WalkKit
namespace Go.Proofs.YtopagfjimbdbdaaGreatDoor
namespace Um
/-- A byte of a number. -/
def bt (n : Int) : UInt8 := UInt8.ofNat n.toNat
theorem bt_nat {n : Nat} (h : n < 256) : (bt n).toNat = n := by
  unfold bt
  simp only [Int.toNat_natCast, UInt8.toNat_ofNat']
  omega
theorem bt_int {n : Int} (h0 : 0 ≤ n) (h : n < 256) : ((bt n).toNat : Int) = n := by
  obtain ⟨k, rfl⟩ := Int.eq_ofNat_of_zero_le h0
  rw [bt_nat (by omega)]

/-- A number's bytes, 7 bits a byte, the lowest first; f: how many bytes there may be. -/
def uvf : Nat → Nat → List UInt8
  | 0, n => [bt n]
  | f + 1, n => if n < 128 then [bt n] else bt ((n : Int) % 128 + 128) :: uvf f (n / 128)
theorem uvf_small (f : Nat) {n : Nat} (h : n < 128) : uvf f n = [bt n] := by
  cases f with
  | zero => rfl
  | succ f => rw [uvf, if_pos h]
theorem uvf_same (f : Nat) : ∀ (g n : Nat), n ≤ f → n ≤ g → uvf f n = uvf g n := by
  induction f with
  | zero => intro g n h _; rw [uvf_small 0 (by omega), uvf_small g (by omega)]
  | succ f ih =>
    intro g n h1 h2
    by_cases h : n < 128
    · rw [uvf_small _ h, uvf_small _ h]
    · cases g with
      | zero => omega
      | succ g => rw [uvf, uvf, if_neg h, if_neg h, ih g (n / 128) (by omega) (by omega)]
/-- A number's bytes, 7 bits a byte, the lowest first. -/
def uv (n : Nat) : List UInt8 := uvf n n
theorem uv_small {n : Nat} (h : n < 128) : uv n = [bt n] := uvf_small n h
theorem uv_big {n : Nat} (h : ¬ n < 128) : uv n = bt ((n : Int) % 128 + 128) :: uv (n / 128) := by
  unfold uv
  cases n with
  | zero => omega
  | succ m => rw [uvf, if_neg h, uvf_same m ((m + 1) / 128) ((m + 1) / 128) (by omega) (Nat.le_refl _)]

/-- As many bytes as it takes: k bytes hold 7k bits. -/
theorem uv_len (k : Nat) : ∀ n, n < 128 ^ (k + 1) → (uv n).length ≤ k + 1 := by
  induction k with
  | zero => intro n h; rw [uv_small (by simpa using h)]; simp
  | succ k ih =>
    intro n h
    by_cases hs : n < 128
    · rw [uv_small hs]; simp
    · rw [uv_big hs]
      have hd : n / 128 < 128 ^ (k + 1) := by
        apply Nat.div_lt_of_lt_mul
        rw [Nat.pow_succ, Nat.mul_comm] at h
        exact h
      have := ih _ hd
      simp only [List.length_cons]
      omega

theorem uv_pos (n : Nat) : 0 < (uv n).length := by
  by_cases h : n < 128
  · rw [uv_small h]; simp
  · rw [uv_big h]; simp

theorem uv_ten {n : Nat} (h : n < 18446744073709551616) : (uv n).length ≤ 10 := by
  have e : (128 : Nat) ^ (9 + 1) = 1180591620717411303424 := by decide
  exact uv_len 9 n (by rw [e]; omega)
/-- What has been written so far has room. -/
theorem uv_room {n m : Nat} {l : List UInt8} (hn : n < 18446744073709551616) (h : l ++ uv m = uv n) : l.length ≤ 9 := by
  have h1 := uv_ten hn
  have h2 := uv_pos m
  rw [← h, List.length_append] at h1
  omega
theorem uv_end {n m : Nat} {l : List UInt8} (hm : m < 128) (h : l ++ uv m = uv n) : l ++ [bt m] = uv n := by rw [← h, uv_small hm]
theorem uv_step {n m : Nat} {l : List UInt8} (hm : ¬ m < 128) (h : l ++ uv m = uv n) : (l ++ [bt ((m : Int) % 128 + 128)]) ++ uv (m / 128) = uv n := by
  rw [← h, uv_big hm]; simp
end Um
theorem str_snoc (l : List UInt8) (b : UInt8) : (⟨l.toArray⟩ : ByteArray) ++ ⟨#[b]⟩ = ⟨(l ++ [b]).toArray⟩ := by
  apply ByteArray.ext
  simp
end Go.Proofs.YtopagfjimbdbdaaGreatDoor
