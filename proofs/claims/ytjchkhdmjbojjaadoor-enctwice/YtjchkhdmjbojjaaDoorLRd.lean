/-
  wire.ReadUvarint answers the number that the mathematics names, and its length, or the error that ErrText holds, for every text.
-/
import Derived.Test.YtjchkhdmjbojjaaDoorLBBase
import Derived.Test.YtjchkhdmjbojjaaDoorLBMath
import Derived.RegionTactic
namespace Go.Proofs.YtjchkhdmjbojjaaDoor
open Go.RowKit
theorem ret_bool {a b : Bool} (h : a = b) : Ending.returned (.bool a) = .returned (.bool b) := by rw [h]
/-- endsWell, as a Bool. -/
def endsB (i b : Nat) : Bool := !((b == 0 && decide (0 < i)) || (i == 9 && decide (1 < b)))
theorem ends_nine {i b : Nat} (hi : i < 10) (h2 : ¬ i < 9) (_h1 : ¬ b = 0) : ((b : Int) == 1) = endsB i b := by
  obtain rfl : i = 9 := by omega
  rw [Bool.eq_iff_iff]
  simp [endsB]
  omega
theorem ends_yes {i b : Nat} (h : endsB i b = true) : ¬ ((b = 0 ∧ 0 < i) ∨ (i = 9 ∧ 1 < b)) := by
  simp [endsB] at h
  omega
theorem ends_no {i b : Nat} (h : endsB i b = false) : (b = 0 ∧ 0 < i) ∨ (i = 9 ∧ 1 < b) := by
  simp [endsB] at h
  omega
set_option maxHeartbeats 400000 in
theorem endsWell_any (i b : Nat) (w : World) (hi : i < 10) :
    Calls Tryd.prog 109 #[.int .i64 i, .int .u8 b] w fun e w' => e = .returned (.bool (endsB i b)) ∧ w' = w := by
  by_cases h0 : i = 0
  · subst h0
    go_enter Tryd.func109, Tryd.ntmps109
    go_wp2
    go_ret
    exact ⟨by simp [endsB], rfl⟩
  · have h0' : ((i : Int) == 0) = false := by simp; omega
    by_cases h1 : b = 0
    · subst h1
      go_enter Tryd.func109, Tryd.ntmps109
      go_wp2
      go_ret
      exact ⟨by simp [endsB]; omega, rfl⟩
    · have h1' : ((b : Int) != 0) = true := by simp; omega
      by_cases h2 : i < 9
      · have h2' : decide ((i : Int) < 9) = true := by simp; omega
        go_enter Tryd.func109, Tryd.ntmps109
        go_wp2
        go_ret
        exact ⟨by simp [endsB, h1]; omega, rfl⟩
      · have h2' : decide ((i : Int) < 9) = false := by simp; omega
        go_enter Tryd.func109, Tryd.ntmps109
        go_wp2
        go_ret
        exact ⟨ret_bool (ends_nine hi h2 h1), rfl⟩
theorem and127 : ∀ x : Fin 256, (x.val &&& 127) = x.val % 128 := by decide +kernel
theorem and128 : ∀ x : Fin 256, (x.val &&& 128) = if x.val < 128 then 0 else 128 := by decide +kernel
theorem byte_and127 (b : Nat) (h : b < 256) : bits .and .u8 (b : Int) 127 = ((b % 128 : Nat) : Int) := by
  have := u8_and_nat b 127 h (by omega)
  rw [and127 ⟨b, h⟩] at this
  exact this
theorem byte_lo (b : Nat) (h : b < 128) : bits .and .u8 (b : Int) 128 = 0 := by
  have := u8_and_nat b 128 (by omega) (by omega)
  rw [and128 ⟨b, by omega⟩, if_pos h] at this
  exact this
theorem byte_hi (b : Nat) (h : b < 256) (hb : ¬ b < 128) : bits .and .u8 (b : Int) 128 = 128 := by
  have := u8_and_nat b 128 h (by omega)
  rw [and128 ⟨b, h⟩, if_neg hb] at this
  exact this
/-- A number with 7 bits more, at their place, in 64 bits. -/
def acc (n b k : Nat) : Nat := n ||| (b % 128 * 2 ^ (7 * k) % 18446744073709551616)
theorem acc_lt {n b k : Nat} (h : n < 18446744073709551616) : acc n b k < 18446744073709551616 :=
  Nat.or_lt_two_pow (n := 64) h (Nat.mod_lt _ (by omega))
theorem acc_eq {n b k : Nat} (h : n < 2 ^ (7 * k)) (hr : b % 128 * 2 ^ (7 * k) < 18446744073709551616) : acc n b k = n + b % 128 * 2 ^ (7 * k) := by
  unfold acc
  rw [Nat.mod_eq_of_lt hr, Nat.or_comm, Nat.mul_comm, ← Nat.two_pow_add_eq_or_of_lt h, Nat.add_comm]
theorem acc_room {b k : Nat} (hk : k < 9) : b % 128 * 2 ^ (7 * k) < 18446744073709551616 :=
  Nat.lt_of_le_of_lt (Nat.mul_le_mul (show b % 128 ≤ 127 by omega) (Nat.pow_le_pow_right (by omega) (show 7 * k ≤ 56 by omega))) (by decide)
theorem acc_bits {n b k : Nat} (h : n < 18446744073709551616) : bits .or .u64 (n : Int) (IntKind.u64.wrap ((b : Int) % 128 * 2 ^ (7 * k))) = ((acc n b k : Nat) : Int) := by
  have e : IntKind.u64.wrap ((b : Int) % 128 * 2 ^ (7 * k)) = ((b % 128 * 2 ^ (7 * k) % 18446744073709551616 : Nat) : Int) := by
    have e1 : ((b % 128 * 2 ^ (7 * k) : Nat) : Int) = (b : Int) % 128 * 2 ^ (7 * k) := by simp
    rw [← e1]
    simp only [IntKind.wrap, IntKind.bits, IntKind.signed]
    generalize b % 128 * 2 ^ (7 * k) = q
    simp
  rw [e]
  exact u64_or_nat n _ h (Nat.mod_lt _ (by omega))
/-- The error behind a reading: none, where something was read. -/
def errOf (ev : Value) (k : Nat) : Value := if k = 0 then ev else .nilIface
theorem drop_cons (s : ByteArray) (k : Nat) (h : k < s.size) : s.data.toList.drop k = s[k] :: s.data.toList.drop (k + 1) := by
  rw [List.drop_eq_getElem_cons (by simpa using h)]; rfl
theorem rd_none {r : Nat × Nat} {ev : Value} (h : r = (0, 0)) : Ending.returned (.tuple #[.int .u64 0, .int .i64 0, ev]) = .returned (.tuple #[.int .u64 r.1, .int .i64 r.2, errOf ev r.2]) := by rw [h]; rfl
theorem rd_some {r : Nat × Nat} {ev : Value} {a k : Nat} {x : Int} (hx : x = (k : Int) + 1) (h : r = (a, k + 1)) : Ending.returned (.tuple #[.int .u64 a, .int .i64 x, .nilIface]) = .returned (.tuple #[.int .u64 r.1, .int .i64 r.2, errOf ev r.2]) := by
  rw [h, hx]; rfl
theorem acc_next {n b k : Nat} (h : n < 2 ^ (7 * k)) : n + b % 128 * 2 ^ (7 * k) < 2 ^ (7 * (k + 1)) := by
  have e : 2 ^ (7 * (k + 1)) = 128 * 2 ^ (7 * k) := by rw [show 7 * (k + 1) = 7 + 7 * k by omega, Nat.pow_add]
  have h8 : (b % 128 + 1) * 2 ^ (7 * k) ≤ 128 * 2 ^ (7 * k) := Nat.mul_le_mul_right _ (by omega)
  rw [Nat.add_mul] at h8
  omega
theorem acc_last {n b k : Nat} (hk : k < 10) (hb : b < 128) (h : n < 2 ^ (7 * k)) (he : endsB k b = true) : acc n b k = n + b * 2 ^ (7 * k) := by
  have hw := ends_yes he
  have hm : b % 128 = b := by omega
  by_cases h9 : k = 9
  · subst h9
    rw [acc_eq h ?_, hm]
    rw [hm]
    exact Nat.lt_of_le_of_lt (Nat.mul_le_mul_right _ (show b ≤ 1 by omega)) (by decide)
  · rw [acc_eq h (acc_room (by omega)), hm]
set_option maxHeartbeats 800000 in
theorem readUvarint_any (s : ByteArray) (w : World) (ev : Value) (hs : s.size ≤ maxLen) (hg : w.cell? ⟨0, 0, none⟩ = some ev) :
    Calls Tryd.prog 84 #[.string s] w fun e w' => e = .returned (.tuple #[.int .u64 (Um.rdv s.data.toList 0 0).1, .int .i64 (Um.rdv s.data.toList 0 0).2, errOf ev (Um.rdv s.data.toList 0 0).2]) ∧ Below w.heap.size w w' := by
  unfold maxLen at hs
  go_enter Tryd.func84, Tryd.ntmps84
  go_wp2
  go_loop [2, 5] (fun x i => ∃ (k n m : Nat), k ≤ 10 ∧ i = .int .i64 k ∧ x = .int .u64 n ∧ n < 18446744073709551616 ∧ k ≤ s.size ∧ Hid (k ≤ 9 → n = m ∧ n < 2 ^ (7 * k)) ∧ Hid (Um.rdv s.data.toList 0 0 = Um.rdv (s.data.toList.drop k) k m)) (fun _ i => 10 - (intOf i).toNat)
  case atStart => exact ⟨0, 0, 0, by omega, rfl, rfl, by omega, by omega, fun _ => ⟨rfl, by simp⟩, rfl⟩
  case round =>
    obtain ⟨k, n, m, hk, rfl, rfl, hn, hks, hm, hr⟩ := hrel
    by_cases hlt : k < s.size
    · have hlt' : decide ((k : Int) < (s.size : Int)) = true := by simp; omega
      by_cases hk10 : k < 10
      · have hk10' : decide ((k : Int) < 10) = true := by simp; omega
        have hb8 : s[k].toNat < 256 := s[k].toNat_lt
        have ha := byte_and127 _ hb8
        have hac := acc_bits (b := s[k].toNat) (k := k) hn
        have hal := acc_lt (b := s[k].toNat) (k := k) hn
        obtain ⟨rfl, hn7⟩ := hm.out (by omega)
        have HN : Hid (n < 2 ^ (7 * k)) := hn7
        have HR : Hid (Um.rdv s.data.toList 0 0 = Um.rdv (s[k] :: s.data.toList.drop (k + 1)) k n) := by
          show _ = _
          rw [hr.out, drop_cons s k hlt]
        clear hn7 hm hr
        by_cases hb : s[k].toNat < 128
        · have ha2 := byte_lo _ hb
          cases he : endsB k s[k].toNat
          · have HE : Hid (Um.rdv s.data.toList 0 0 = (0, 0)) := by
              show _ = _
              rw [HR.out, Um.rdv_bad hb (ends_no he)]
            go_wp2_with (go_at_call 109; refine (endsWell_any _ _ _ hk10).mono ?_; rw [he]; rintro e w' ⟨rfl, rfl⟩)
            go_region
            all_goals (try go_wp2)
            all_goals go_ret3
            all_goals exact ⟨rd_none HE.out, (Below.refl _ _).drew⟩
          · have HE : Hid (Um.rdv s.data.toList 0 0 = (n + s[k].toNat * 2 ^ (7 * k), k + 1)) := by
              show _ = _
              rw [HR.out, Um.rdv_end hk10 hb (ends_yes he)]
            go_wp2_with (go_at_call 109; refine (endsWell_any _ _ _ hk10).mono ?_; rw [he]; rintro e w' ⟨rfl, rfl⟩)
            go_ret3
            exact ⟨by rw [acc_last hk10 hb HN.out he]; exact rd_some rfl HE.out, Below.refl _ _⟩
        · have ha2 := byte_hi _ hb8 hb
          go_wp2_with fail
          go_round
          case rel => exact ⟨k + 1, acc n s[k].toNat k, n + s[k].toNat % 128 * 2 ^ (7 * k), by omega, by go_num, rfl, hal, by omega, fun h9 => ⟨acc_eq HN.out (acc_room (by omega)), by rw [acc_eq HN.out (acc_room (by omega))]; exact acc_next HN.out⟩, by show _ = _; rw [HR.out, Um.rdv_more hk10 hb]⟩
          case measure => simp [intOf]; omega
      · have hk10' : decide ((k : Int) < 10) = false := by simp; omega
        have HE : Hid (Um.rdv s.data.toList 0 0 = (0, 0)) := by
          show _ = _
          rw [hr.out, Um.rdv_ten _ _ (by omega)]
        go_wp2
        go_region
        all_goals (try go_wp2)
        all_goals go_ret3
        all_goals exact ⟨rd_none HE.out, (Below.refl _ _).drew⟩
    · have hlt' : decide ((k : Int) < (s.size : Int)) = false := by simp; omega
      have HE : Hid (Um.rdv s.data.toList 0 0 = (0, 0)) := by
        show _ = _
        rw [hr.out, List.drop_of_length_le (by simp; omega)]; rfl
      go_wp2
      go_region
      all_goals (try go_wp2)
      all_goals go_ret3
      all_goals exact ⟨rd_none HE.out, (Below.refl _ _).drew⟩
end Go.Proofs.YtjchkhdmjbojjaaDoor
