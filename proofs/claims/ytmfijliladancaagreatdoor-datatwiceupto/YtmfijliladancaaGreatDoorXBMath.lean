/-
  The plain mathematics of numbers in bytes, 7 bits a byte: no text of the program is named here.
  Numbers in so many bytes, the lowest first, and back: the mathematics, without the program.
  Values as bytes: the mathematics of Plain, without the program.
-/
import Derived.WalkKit
namespace Go.Proofs.YtmfijliladancaaGreatDoor
namespace Um
/-- A byte of a number. -/
def bt (n : Int) : UInt8 := UInt8.ofNat n.toNat
end Um
end Go.Proofs.YtmfijliladancaaGreatDoor

namespace Go.Proofs.YtmfijliladancaaGreatDoor
namespace Um
/-- Byte j of a number. -/
def by_ (n j : Nat) : Nat := n / 2 ^ (8 * j) % 256
/-- So many bytes of a number, the lowest first. -/
def lit (n k : Nat) : List UInt8 := (List.range k).map fun j => bt (by_ n j : Nat)
end Um
end Go.Proofs.YtmfijliladancaaGreatDoor

namespace Go.Proofs.YtmfijliladancaaGreatDoor
namespace Um
/-- The bits of a number with a sign. -/
def u64 (n : Int) : Nat := (n % 18446744073709551616).toNat
theorem u64_lt (n : Int) : u64 n < 18446744073709551616 := by unfold u64; omega
theorem u64_int (n : Int) : ((u64 n : Nat) : Int) = n % 18446744073709551616 := by unfold u64; omega
end Um
end Go.Proofs.YtmfijliladancaaGreatDoor
