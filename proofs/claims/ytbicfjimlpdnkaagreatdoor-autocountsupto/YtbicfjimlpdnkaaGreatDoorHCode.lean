/-
  plain.Code of nil and of each bare error: its number, and no place.
-/
import Derived.Test.YtbicfjimlpdnkaaGreatDoorHErrAs
import Derived.Test.YtbicfjimlpdnkaaGreatDoorHSent
namespace Go.Proofs.YtbicfjimlpdnkaaGreatDoor
open Go.RowKit Go.Extern.Stop Go.Stop Go.Extern
def errT : Nat → List UInt8
  | 0 => [115, 104, 114, 101, 100, 99, 111, 108, 58, 32, 116, 101, 120, 116]
  | 1 => [115, 104, 114, 101, 100, 99, 111, 108, 58, 32, 98, 111, 117, 110, 100]
  | 2 => [115, 104, 114, 101, 100, 99, 111, 108, 58, 32, 115, 104, 97, 112, 101]
  | 3 => [115, 104, 114, 101, 100, 99, 111, 108, 58, 32, 107, 105, 110, 100]
  | 4 => [115, 104, 114, 101, 100, 99, 111, 108, 58, 32, 110, 97, 109, 101]
  | 5 => [115, 104, 114, 101, 100, 99, 111, 108, 58, 32, 110, 111, 110, 101]
  | 6 => [115, 104, 114, 101, 100, 99, 111, 108, 58, 32, 115, 117, 109]
  | _ => [115, 104, 114, 101, 100, 99, 111, 108, 58, 32, 115, 112, 97, 99, 101]
theorem errT_ne : ∀ i j : Fin 8, i ≠ j → errT i ≠ errT j := by decide
/-- The error that lies at a. -/
abbrev errV (a : Addr) : Value := .iface 155 (.pointer (some a))
def eightV (A : Nat → Addr) : Array Value := #[errV (A 0), errV (A 1), errV (A 2), errV (A 3), errV (A 4), errV (A 5), errV (A 6), errV (A 7)]
theorem eight_at (A : Nat → Addr) (k : Nat) (hk : k < 8) : (eightV A)[k]? = some (errV (A k)) := by
  have h : k = 0 ∨ k = 1 ∨ k = 2 ∨ k = 3 ∨ k = 4 ∨ k = 5 ∨ k = 6 ∨ k = 7 := by omega
  rcases h with rfl | rfl | rfl | rfl | rfl | rfl | rfl | rfl <;> rfl
end Go.Proofs.YtbicfjimlpdnkaaGreatDoor
