/-
  bitrun.Width, math/bits' Len and Len64, and the reference's WidthOf: how many bits a number takes.
-/
import Derived.Test.YteeheodcejeloaaGreatDoorRBPack
import Derived.Test.YteeheodcejeloaaGreatDoorRLen
namespace Go.Proofs.YteeheodcejeloaaGreatDoor
open Go.RowKit
set_option maxRecDepth 100000 in
set_option maxHeartbeats 800000 in
theorem widthOf_any (n : Nat) (w : World) (h1 : n < 18446744073709551616) :
    Calls Tryz.prog 53 #[.int .u64 n] w fun e w' => e = .returned (.int .i64 (Lib.bitLen n : Nat)) ∧ w' = w := by
  have hw := bitLen_64 n
  go_enter Tryz.func53, Tryz.ntmps53
  go_wp2
  go_loop [0, 3] (fun x v => ∃ m k : Nat, m < 18446744073709551616 ∧ x = .int .u64 m ∧ v = .int .i64 k ∧ Hid (k + Lib.bitLen m = Lib.bitLen n)) (fun x _ => (intOf x).toNat)
  case atStart => exact ⟨n, 0, h1, rfl, rfl, Nat.zero_add _⟩
  case round =>
    obtain ⟨m, k, hm, rfl, rfl, HK⟩ := hrel
    have hk := HK.out
    by_cases h0 : 0 < m
    · have hh := Lib.bitLen_half m (by omega) (by omega)
      have hkl : k < 64 := by omega
      have HK' : Hid (k + 1 + Lib.bitLen (m / 2) = Lib.bitLen n) := by show _ = _; omega
      clear hk hh
      go_wp2
      go_round
      case rel => exact ⟨m / 2, k + 1, by omega, by go_num, by go_num, HK'⟩
      case measure => simp [intOf]; omega
    · obtain rfl : m = 0 := by omega
      have e : Lib.bitLen 0 = 0 := rfl
      have HE : Hid (k = Lib.bitLen n) := by show _ = _; omega
      clear hk e
      go_wp2
      go_ret
      exact ⟨by rw [HE.out]; rfl, rfl⟩
set_option maxRecDepth 100000 in
theorem len_any (n : Nat) (w : World) (h1 : n < 18446744073709551616) :
    Calls Tryz.prog 108 #[.int .u64 n] w fun e w' => e = .returned (.int .i64 (Lib.bitLen n : Nat)) ∧ w' = w := by
  go_enter Tryz.func108, Tryz.ntmps108
  go_wp2_with (go_at_call 146; refine (len64_any n _ h1).mono ?_; rintro e w1 ⟨rfl, hw⟩; obtain rfl := hw.symm)
  go_ret
  exact ⟨rfl, rfl⟩
set_option maxRecDepth 100000 in
theorem width_any (n : Nat) (w : World) (h0 : 0 < n) (h1 : n < 9223372036854775808) :
    Calls Tryz.prog 64 #[.int .i64 n] w fun e w' => e = .returned (.int .i64 (Lib.bitLen n : Nat)) ∧ w' = w := by
  go_enter Tryz.func64, Tryz.ntmps64
  go_wp2_with (go_at_call 108; refine (len_any n _ (by omega)).mono ?_; rintro e w1 ⟨rfl, hw⟩; obtain rfl := hw.symm)
  go_ret
  exact ⟨rfl, rfl⟩
theorem width_none (n : Int) (w : World) (h0 : n ≤ 0) :
    Calls Tryz.prog 64 #[.int .i64 n] w fun e w' => e = .returned (.int .i64 0) ∧ w' = w := by
  go_enter Tryz.func64, Tryz.ntmps64
  go_wp2
  go_ret
  exact ⟨rfl, rfl⟩
end Go.Proofs.YteeheodcejeloaaGreatDoor
