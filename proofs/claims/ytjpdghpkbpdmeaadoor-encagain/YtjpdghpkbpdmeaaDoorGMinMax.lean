/-
  slices.Min and slices.Max of numbers.
-/
import Derived.Test.YtjpdghpkbpdmeaaDoorGRefBits
namespace Go.Proofs.YtjpdghpkbpdmeaaDoor
open Go.RowKit
def lows (xs : List Int) : Int := xs.foldl min (xs.getD 0 0)
def highs (xs : List Int) : Int := xs.foldl max (xs.getD 0 0)
def mins (x : Int) (xs : List Int) (i : Nat) : Int := (xs.take i).foldl min x
def maxs (x : Int) (xs : List Int) (i : Nat) : Int := (xs.take i).foldl max x
theorem mins_succ (x : Int) (xs : List Int) (i : Nat) (h : i < xs.length) : mins x xs (i + 1) = min (mins x xs i) xs[i] := by
  unfold mins; rw [List.take_succ_eq_append_getElem h, List.foldl_append]; rfl
theorem maxs_succ (x : Int) (xs : List Int) (i : Nat) (h : i < xs.length) : maxs x xs (i + 1) = max (maxs x xs i) xs[i] := by
  unfold maxs; rw [List.take_succ_eq_append_getElem h, List.foldl_append]; rfl
set_option maxRecDepth 100000 in
set_option maxHeartbeats 1600000 in
theorem min_any (a : Option Addr) (xs : List Int) (c : Nat) (w : World) (hl : Lies w a (i64s xs)) (h1 : 0 < xs.length) (hn : xs.length ≤ 20000) :
    Calls Tryd.prog 97 #[.slice a xs.length c] w fun e w' => e = .returned (.int .i64 (lows xs)) ∧ w' = w := by
  have HL : Hid _ := lies_ints hl
  obtain ⟨b, o, rfl, h0⟩ := lies_ints hl 0 h1
  rw [Nat.add_zero] at h0
  obtain ⟨x, hx⟩ : ∃ x, x = xs[0] := ⟨_, rfl⟩
  rw [← hx] at h0
  have HE : Hid (lows xs = mins x xs xs.length) := by
    show _ = _
    rw [hx]; simp [lows, mins, List.getD, h1]
  have HS : Hid (x = mins x xs 1) := by
    show _ = _
    rw [show 1 = 0 + 1 from rfl, mins_succ x xs 0 h1, ← hx]; simp [mins]
  clear hl hx
  go_enter Tryd.func97, Tryd.ntmps97
  go_wp2
  go_loop [3, 4] (fun m y => ∃ (i : Nat) (k : Int), i ≤ xs.length ∧ y = .int .i64 i ∧ m = .int .i64 k ∧ Hid (k = mins x xs i)) (fun _ y => xs.length - (intOf y).toNat)
  case atStart => exact ⟨1, x, by omega, rfl, rfl, HS⟩
  case round =>
    clear HS
    obtain ⟨i, k, hik, rfl, rfl, HK⟩ := hrel
    by_cases hlt : i < xs.length
    · obtain ⟨b', o', e', hc⟩ := HL.out i hlt
      obtain ⟨rfl, rfl⟩ : b = b' ∧ o = o' := by simpa using e'
      clear e'
      have HN : Hid (mins x xs (i + 1) = min k xs[i]) := by show _ = _; rw [mins_succ x xs i hlt, HK.out]
      generalize xs[i] = z at *
      by_cases hz : z < k
      · have HN2 : Hid (z = mins x xs (i + 1)) := by show _ = _; rw [HN.out]; omega
        go_wp2
        go_round
        case rel => exact ⟨i + 1, z, by omega, by go_num, rfl, HN2⟩
        case measure => simp [intOf]; omega
      · have HN2 : Hid (k = mins x xs (i + 1)) := by show _ = _; rw [HN.out]; omega
        go_wp2
        go_round
        case rel => exact ⟨i + 1, k, by omega, by go_num, rfl, HN2⟩
        case measure => simp [intOf]; omega
    · obtain rfl : i = xs.length := by omega
      go_wp2
      go_ret
      exact ⟨by rw [HE.out, ← HK.out]; rfl, rfl⟩
set_option maxRecDepth 100000 in
set_option maxHeartbeats 1600000 in
theorem max_any (a : Option Addr) (xs : List Int) (c : Nat) (w : World) (hl : Lies w a (i64s xs)) (h1 : 0 < xs.length) (hn : xs.length ≤ 20000) :
    Calls Tryd.prog 98 #[.slice a xs.length c] w fun e w' => e = .returned (.int .i64 (highs xs)) ∧ w' = w := by
  have HL : Hid _ := lies_ints hl
  obtain ⟨b, o, rfl, h0⟩ := lies_ints hl 0 h1
  rw [Nat.add_zero] at h0
  obtain ⟨x, hx⟩ : ∃ x, x = xs[0] := ⟨_, rfl⟩
  rw [← hx] at h0
  have HE : Hid (highs xs = maxs x xs xs.length) := by
    show _ = _
    rw [hx]; simp [highs, maxs, List.getD, h1]
  have HS : Hid (x = maxs x xs 1) := by
    show _ = _
    rw [show 1 = 0 + 1 from rfl, maxs_succ x xs 0 h1, ← hx]; simp [maxs]
  clear hl hx
  go_enter Tryd.func98, Tryd.ntmps98
  go_wp2
  go_loop [3, 4] (fun m y => ∃ (i : Nat) (k : Int), i ≤ xs.length ∧ y = .int .i64 i ∧ m = .int .i64 k ∧ Hid (k = maxs x xs i)) (fun _ y => xs.length - (intOf y).toNat)
  case atStart => exact ⟨1, x, by omega, rfl, rfl, HS⟩
  case round =>
    clear HS
    obtain ⟨i, k, hik, rfl, rfl, HK⟩ := hrel
    by_cases hlt : i < xs.length
    · obtain ⟨b', o', e', hc⟩ := HL.out i hlt
      obtain ⟨rfl, rfl⟩ : b = b' ∧ o = o' := by simpa using e'
      clear e'
      have HN : Hid (maxs x xs (i + 1) = max k xs[i]) := by show _ = _; rw [maxs_succ x xs i hlt, HK.out]
      generalize xs[i] = z at *
      by_cases hz : k < z
      · have HN2 : Hid (z = maxs x xs (i + 1)) := by show _ = _; rw [HN.out]; omega
        go_wp2
        go_round
        case rel => exact ⟨i + 1, z, by omega, by go_num, rfl, HN2⟩
        case measure => simp [intOf]; omega
      · have HN2 : Hid (k = maxs x xs (i + 1)) := by show _ = _; rw [HN.out]; omega
        go_wp2
        go_round
        case rel => exact ⟨i + 1, k, by omega, by go_num, rfl, HN2⟩
        case measure => simp [intOf]; omega
    · obtain rfl : i = xs.length := by omega
      go_wp2
      go_ret
      exact ⟨by rw [HE.out, ← HK.out]; rfl, rfl⟩
end Go.Proofs.YtjpdghpkbpdmeaaDoor
