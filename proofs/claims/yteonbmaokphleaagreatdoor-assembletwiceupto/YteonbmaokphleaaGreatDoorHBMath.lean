/-
  The plain mathematics of numbers in bytes, 7 bits a byte: no text of the program is named here.
  Numbers in so many bytes, the lowest first, and back: the mathematics, without the program.
  Numbers, so many bits each, as one number, and its bytes: the mathematics, without the program.
  Values as bytes: the mathematics of Plain, without the program.
  Numbers, so many bits each, out of bytes: the mathematics, without the program.
  Parts of runs, and runs, out of bytes: the mathematics, without the program.
-/
import Derived.WalkKit
namespace Go.Proofs.YteonbmaokphleaaGreatDoor
namespace Um
def bt (n : Int) : UInt8 := UInt8.ofNat n.toNat
def uvf : Nat → Nat → List UInt8
 | 0, n => [bt n]
 | f + 1, n => if n < 128 then [bt n] else bt ((n : Int) % 128 + 128) :: uvf f (n / 128)
def uv (n : Nat) : List UInt8 := uvf n n
end Um
end Go.Proofs.YteonbmaokphleaaGreatDoor
namespace Go.Proofs.YteonbmaokphleaaGreatDoor
namespace Um
def by_ (n j : Nat) : Nat := n / 2 ^ (8 * j) % 256
def lit (n k : Nat) : List UInt8 := (List.range k).map fun j => bt (by_ n j : Nat)
theorem pow_step (j : Nat) : 2 ^ (8 * (j + 1)) = 2 ^ (8 * j) * 256 := by rw [show 8 * (j + 1) = 8 * j + 8 by omega, Nat.pow_add]
def lev : List UInt8 → Nat
 | [] => 0
 | b :: l => b.toNat + 256 * lev l
theorem lev_lt (l : List UInt8) : lev l < 2 ^ (8 * l.length) := by
 induction l with
 | nil => simp [lev]
 | cons b l ih =>
  have := b.toNat_lt
  simp only [lev, List.length_cons, pow_step]
  omega
theorem lev_snoc (l : List UInt8) (b : UInt8) : lev (l ++ [b]) = lev l + b.toNat * 2 ^ (8 * l.length) := by
 induction l with
 | nil => simp [lev]
 | cons c l ih =>
  simp only [List.cons_append, lev, ih, List.length_cons, pow_step]
  rw [Nat.mul_add, Nat.mul_comm 256 (b.toNat * _), Nat.mul_assoc]
  omega
end Um
end Go.Proofs.YteonbmaokphleaaGreatDoor
namespace Go.Proofs.YteonbmaokphleaaGreatDoor
namespace Um
def num (w : Nat) : List Nat → Nat
 | [] => 0
 | x :: l => x + 2 ^ w * num w l
end Um
end Go.Proofs.YteonbmaokphleaaGreatDoor
namespace Go.Proofs.YteonbmaokphleaaGreatDoor
namespace Um
def u64 (n : Int) : Nat := (n % 18446744073709551616).toNat
end Um
end Go.Proofs.YteonbmaokphleaaGreatDoor
namespace Go.Proofs.YteonbmaokphleaaGreatDoor
namespace Um
theorem lev_take (l : List UInt8) (k : Nat) (h : k < l.length) : lev (l.take (k + 1)) = lev (l.take k) + l[k].toNat * 2 ^ (8 * k) := by
 rw [List.take_succ_eq_append_getElem h, lev_snoc, List.length_take, Nat.min_eq_left (by omega)]
theorem lev_take_lt (l : List UInt8) (k : Nat) (h : k ≤ l.length) : lev (l.take k) < 2 ^ (8 * k) := by
 have := lev_lt (l.take k)
 rwa [List.length_take, Nat.min_eq_left h] at this
theorem add_above (n x b c : Nat) (h : c ≤ b) : (n + x * 2 ^ b) / 2 ^ c = n / 2 ^ c + x * 2 ^ (b - c) := by
 have e : x * 2 ^ b = x * 2 ^ (b - c) * 2 ^ c := by rw [Nat.mul_assoc, ← Nat.pow_add, Nat.sub_add_cancel h]
 rw [e, Nat.add_mul_div_right _ _ (Nat.two_pow_pos _)]
theorem div_lt_pow {n b c : Nat} (hn : n < 2 ^ b) (h : c ≤ b) : n / 2 ^ c < 2 ^ (b - c) := by
 rw [Nat.div_lt_iff_lt_mul (Nat.two_pow_pos _), ← Nat.pow_add, Nat.sub_add_cancel h]
 exact hn
end Um
end Go.Proofs.YteonbmaokphleaaGreatDoor
namespace Go.Proofs.YteonbmaokphleaaGreatDoor
namespace Um
def same (l : List UInt8) (w c left : Nat) : Option (List Nat × Nat) :=
 if (0 < c ∧ c ≤ left) ∧ ((w + 7) / 8 ≤ l.length ∧ lev (l.take ((w + 7) / 8)) < 2 ^ w) then some (List.replicate c (lev (l.take ((w + 7) / 8))), (w + 7) / 8) else none
end Um
end Go.Proofs.YteonbmaokphleaaGreatDoor
