/-
  The reference's SameInts: whether two slices of ints hold the same numbers.
  enc.Less, enc.inTotalOrder and the reference's LessOf: what they answer.
-/
import Derived.Test.YteeheodcejeloaaGreatDoorRows
import Derived.WalkKit
import Derived.WalkSpells
import Derived.WalkLawsBesides
import Derived.RegionTactic
import Derived.Below
import Derived.Test.YteeheodcejeloaaGreatDoorTBVal
import Derived.Deep.QuietTactic
import Derived.BigQuiet
namespace Go.Proofs.YteeheodcejeloaaGreatDoor
open Go.RowKit
/-- A slice value that holds these ints in a world (nil: none). -/
def IntsAt (w : World) (v : Value) (xs : List Int) : Prop :=
  (v = .slice none 0 0 ∧ xs = []) ∨ ∃ b o cap, v = .slice (some ⟨b, o, none⟩) xs.length cap ∧ ∀ j (h : j < xs.length), w.cell? ⟨b, o + j, none⟩ = some (.int .i64 xs[j])
theorem IntsAt.keep {w w' : World} {v : Value} {xs : List Int} (h : IntsAt w v xs) (hb : Below w.heap.size w w') : IntsAt w' v xs := by
  rcases h with h | ⟨b, o, cap, e, hc⟩
  · exact Or.inl h
  · exact Or.inr ⟨b, o, cap, e, fun j hj => (hb.cell (World.block_lt_of_cell? w _ (hc j hj))).trans (hc j hj)⟩
end Go.Proofs.YteeheodcejeloaaGreatDoor

namespace Go.Proofs.YteeheodcejeloaaGreatDoor
open Go.RowKit
theorem blw_drewN {B : Nat} {a w : World} (h : Below B a w) (n : Nat) : Below B a (w.drewN n) := h.trans ⟨rfl, rfl, rfl, Nat.le_refl _, fun _ _ => rfl⟩
theorem xor_low (m : Nat) (hm : m < 2 ^ 63) : (2 ^ 63 + m) ^^^ (2 ^ 63 - 1) = 2 ^ 63 + (2 ^ 63 - 1 - m) := by
  apply Nat.eq_of_testBit_eq
  intro i
  rw [Nat.testBit_xor, Nat.testBit_two_pow_sub_one]
  rcases Nat.lt_trichotomy i 63 with h | h | h
  · rw [Nat.testBit_two_pow_add_gt h, Nat.testBit_two_pow_add_gt h, show 2 ^ 63 - 1 - m = 2 ^ 63 - (m + 1) from by omega, Nat.testBit_two_pow_sub_succ hm]
    simp [h]
  · subst h
    rw [Nat.testBit_two_pow_add_eq, Nat.testBit_two_pow_add_eq, Nat.testBit_lt_two_pow hm, Nat.testBit_lt_two_pow (show 2 ^ 63 - 1 - m < 2 ^ 63 by omega)]
    rfl
  · have hb : (2 : Nat) ^ 64 ≤ 2 ^ i := Nat.pow_le_pow_right (by omega) h
    rw [Nat.testBit_lt_two_pow (show 2 ^ 63 + m < 2 ^ i by omega), Nat.testBit_lt_two_pow (show 2 ^ 63 + (2 ^ 63 - 1 - m) < 2 ^ i by omega)]
    simp; omega
theorem flip_i64 (a : Int) (h0 : -9223372036854775808 ≤ a) (h1 : a < 0) : bits .xor .i64 a 9223372036854775807 = -9223372036854775809 - a := by
  obtain ⟨m, hm⟩ : ∃ m : Nat, a = -9223372036854775808 + m := ⟨(a + 9223372036854775808).toNat, by omega⟩
  have hm2 : m < 2 ^ 63 := by omega
  show IntKind.i64.wrap ((BitVec.ofInt 64 a ^^^ BitVec.ofInt 64 9223372036854775807).toNat : Int) = _
  have e1 : (BitVec.ofInt 64 a).toNat = 2 ^ 63 + m := by rw [BitVec.toNat_ofInt]; omega
  have e2 : (BitVec.ofInt 64 9223372036854775807).toNat = 2 ^ 63 - 1 := by decide
  rw [BitVec.toNat_xor, e1, e2, xor_low m hm2, IntKind.wrap_i64]
  omega
set_option maxRecDepth 100000 in
theorem inTotal_any (n : Int) (w : World) (h0 : -9223372036854775808 ≤ n) : Calls Tryz.prog 126 #[.int .i64 n] w fun e w' => e = .returned (.int .i64 (if n < 0 then -9223372036854775809 - n else n)) ∧ w' = w := by
  by_cases h : n < 0
  · have hf := flip_i64 n h0 h
    rw [if_pos h]
    go_enter Tryz.func126, Tryz.ntmps126
    go_wp2
    go_ret
    exact ⟨rfl, rfl⟩
  · rw [if_neg h]
    go_enter Tryz.func126, Tryz.ntmps126
    go_wp2
    go_ret
    exact ⟨rfl, rfl⟩
/-- The order of doubles by their bits. -/
def tot (n : Int) : Int := if n < 0 then -9223372036854775809 - n else n
/-- The order of values. -/
def vless (k1 n1 : Int) (s1 : ByteArray) (k2 n2 : Int) (s2 : ByteArray) : Bool :=
  if k1 = k2 then (if k1 = 4 then Op.bytesLess s1.toList s2.toList else if k1 = 5 then decide (tot n1 < tot n2) else decide (n1 < n2)) else decide (k1 < k2)
set_option maxRecDepth 100000 in
set_option maxHeartbeats 800000 in
theorem less_any (k1 n1 : Int) (s1 : ByteArray) (k2 n2 : Int) (s2 : ByteArray) (w : World) (h1 : -9223372036854775808 ≤ n1) (h2 : -9223372036854775808 ≤ n2) :
    Calls Tryz.prog 76 #[.agg #[.int .i64 k1, .int .i64 n1, .string s1], .agg #[.int .i64 k2, .int .i64 n2, .string s2]] w fun e w' => e = .returned (.bool (vless k1 n1 s1 k2 n2 s2)) ∧ Below w.heap.size w w' := by
  go_enter Tryz.func76, Tryz.ntmps76
  go_wp2
  all_goals try (go_quiet ((go_at_call 126; exact Calls.quiet_of_same (inTotal_any _ _ (by assumption)))); go_wp2)
  all_goals go_ret
  all_goals refine ⟨ret_b ?_, ?_⟩
  all_goals first
    | exact ((Below.refl _ _).alloc (Nat.le_refl _) _).alloc (by simp) _
    | exact blw_drewN (((Below.refl _ _).alloc (Nat.le_refl _) _).alloc (by simp) _) _
    | (unfold vless tot; grind)
end Go.Proofs.YteeheodcejeloaaGreatDoor
