/-
  wire.ReadUvarint answers the number that the mathematics names, and its length, or the error that ErrText holds, for every text.
  The reference's ReadSeven: what it answers, for every text.
  The reference's ReadLong: what bytes begin with, behind their length.
  The reference's Long: bytes behind their length.
-/
import Derived.Test.YtmhkpnmifhfboaaGreatDoorMBBase
import Derived.Test.YtmhkpnmifhfboaaGreatDoorMBMath
import Derived.RegionTactic
namespace Go.Proofs.YtmhkpnmifhfboaaGreatDoor
open Go.RowKit
theorem ret_bool {a b : Bool} (h : a = b) : Ending.returned (.bool a) = .returned (.bool b) := by rw [h]
/-- endsWell, as a Bool. -/
def endsB (i b : Nat) : Bool := !((b == 0 && decide (0 < i)) || (i == 9 && decide (1 < b)))
theorem ends_nine {i b : Nat} (hi : i < 10) (h2 : ¬ i < 9) (_h1 : ¬ b = 0) : ((b : Int) == 1) = endsB i b := by
  obtain rfl : i = 9 := by omega
  rw [Bool.eq_iff_iff]
  simp [endsB]
  omega
theorem ends_yes {i b : Nat} (h : endsB i b = true) : ¬ ((b = 0 ∧ 0 < i) ∨ (i = 9 ∧ 1 < b)) := by
  simp [endsB] at h
  omega
theorem ends_no {i b : Nat} (h : endsB i b = false) : (b = 0 ∧ 0 < i) ∨ (i = 9 ∧ 1 < b) := by
  simp [endsB] at h
  omega
set_option maxHeartbeats 400000 in
theorem endsWell_any (i b : Nat) (w : World) (hi : i < 10) :
    Calls Tryz.prog 96 #[.int .i64 i, .int .u8 b] w fun e w' => e = .returned (.bool (endsB i b)) ∧ w' = w := by
  by_cases h0 : i = 0
  · subst h0
    go_enter Tryz.func96, Tryz.ntmps96
    go_wp2
    go_ret
    exact ⟨by simp [endsB], rfl⟩
  · have h0' : ((i : Int) == 0) = false := by simp; omega
    by_cases h1 : b = 0
    · subst h1
      go_enter Tryz.func96, Tryz.ntmps96
      go_wp2
      go_ret
      exact ⟨by simp [endsB]; omega, rfl⟩
    · have h1' : ((b : Int) != 0) = true := by simp; omega
      by_cases h2 : i < 9
      · have h2' : decide ((i : Int) < 9) = true := by simp; omega
        go_enter Tryz.func96, Tryz.ntmps96
        go_wp2
        go_ret
        exact ⟨by simp [endsB, h1]; omega, rfl⟩
      · have h2' : decide ((i : Int) < 9) = false := by simp; omega
        go_enter Tryz.func96, Tryz.ntmps96
        go_wp2
        go_ret
        exact ⟨ret_bool (ends_nine hi h2 h1), rfl⟩
theorem and127 : ∀ x : Fin 256, (x.val &&& 127) = x.val % 128 := by decide +kernel
theorem and128 : ∀ x : Fin 256, (x.val &&& 128) = if x.val < 128 then 0 else 128 := by decide +kernel
theorem byte_and127 (b : Nat) (h : b < 256) : bits .and .u8 (b : Int) 127 = ((b % 128 : Nat) : Int) := by
  have := u8_and_nat b 127 h (by omega)
  rw [and127 ⟨b, h⟩] at this
  exact this
theorem byte_lo (b : Nat) (h : b < 128) : bits .and .u8 (b : Int) 128 = 0 := by
  have := u8_and_nat b 128 (by omega) (by omega)
  rw [and128 ⟨b, by omega⟩, if_pos h] at this
  exact this
theorem byte_hi (b : Nat) (h : b < 256) (hb : ¬ b < 128) : bits .and .u8 (b : Int) 128 = 128 := by
  have := u8_and_nat b 128 h (by omega)
  rw [and128 ⟨b, h⟩, if_neg hb] at this
  exact this
/-- A number with 7 bits more, at their place, in 64 bits. -/
def acc (n b k : Nat) : Nat := n ||| (b % 128 * 2 ^ (7 * k) % 18446744073709551616)
theorem acc_lt {n b k : Nat} (h : n < 18446744073709551616) : acc n b k < 18446744073709551616 :=
  Nat.or_lt_two_pow (n := 64) h (Nat.mod_lt _ (by omega))
theorem acc_eq {n b k : Nat} (h : n < 2 ^ (7 * k)) (hr : b % 128 * 2 ^ (7 * k) < 18446744073709551616) : acc n b k = n + b % 128 * 2 ^ (7 * k) := by
  unfold acc
  rw [Nat.mod_eq_of_lt hr, Nat.or_comm, Nat.mul_comm, ← Nat.two_pow_add_eq_or_of_lt h, Nat.add_comm]
theorem acc_room {b k : Nat} (hk : k < 9) : b % 128 * 2 ^ (7 * k) < 18446744073709551616 :=
  Nat.lt_of_le_of_lt (Nat.mul_le_mul (show b % 128 ≤ 127 by omega) (Nat.pow_le_pow_right (by omega) (show 7 * k ≤ 56 by omega))) (by decide)
theorem acc_bits {n b k : Nat} (h : n < 18446744073709551616) : bits .or .u64 (n : Int) (IntKind.u64.wrap ((b : Int) % 128 * 2 ^ (7 * k))) = ((acc n b k : Nat) : Int) := by
  have e : IntKind.u64.wrap ((b : Int) % 128 * 2 ^ (7 * k)) = ((b % 128 * 2 ^ (7 * k) % 18446744073709551616 : Nat) : Int) := by
    have e1 : ((b % 128 * 2 ^ (7 * k) : Nat) : Int) = (b : Int) % 128 * 2 ^ (7 * k) := by simp
    rw [← e1]
    simp only [IntKind.wrap, IntKind.bits, IntKind.signed]
    generalize b % 128 * 2 ^ (7 * k) = q
    simp
  rw [e]
  exact u64_or_nat n _ h (Nat.mod_lt _ (by omega))
/-- The error behind a reading: none, where something was read. -/
def errOf (ev : Value) (k : Nat) : Value := if k = 0 then ev else .nilIface
theorem drop_cons (s : ByteArray) (k : Nat) (h : k < s.size) : s.data.toList.drop k = s[k] :: s.data.toList.drop (k + 1) := by
  rw [List.drop_eq_getElem_cons (by simpa using h)]; rfl
theorem rd_none {r : Nat × Nat} {ev : Value} (h : r = (0, 0)) : Ending.returned (.tuple #[.int .u64 0, .int .i64 0, ev]) = .returned (.tuple #[.int .u64 r.1, .int .i64 r.2, errOf ev r.2]) := by rw [h]; rfl
theorem rd_some {r : Nat × Nat} {ev : Value} {a k : Nat} {x : Int} (hx : x = (k : Int) + 1) (h : r = (a, k + 1)) : Ending.returned (.tuple #[.int .u64 a, .int .i64 x, .nilIface]) = .returned (.tuple #[.int .u64 r.1, .int .i64 r.2, errOf ev r.2]) := by
  rw [h, hx]; rfl
theorem acc_next {n b k : Nat} (h : n < 2 ^ (7 * k)) : n + b % 128 * 2 ^ (7 * k) < 2 ^ (7 * (k + 1)) := by
  have e : 2 ^ (7 * (k + 1)) = 128 * 2 ^ (7 * k) := by rw [show 7 * (k + 1) = 7 + 7 * k by omega, Nat.pow_add]
  have h8 : (b % 128 + 1) * 2 ^ (7 * k) ≤ 128 * 2 ^ (7 * k) := Nat.mul_le_mul_right _ (by omega)
  rw [Nat.add_mul] at h8
  omega
theorem acc_last {n b k : Nat} (hk : k < 10) (hb : b < 128) (h : n < 2 ^ (7 * k)) (he : endsB k b = true) : acc n b k = n + b * 2 ^ (7 * k) := by
  have hw := ends_yes he
  have hm : b % 128 = b := by omega
  by_cases h9 : k = 9
  · subst h9
    rw [acc_eq h ?_, hm]
    rw [hm]
    exact Nat.lt_of_le_of_lt (Nat.mul_le_mul_right _ (show b ≤ 1 by omega)) (by decide)
  · rw [acc_eq h (acc_room (by omega)), hm]
set_option maxHeartbeats 800000 in
theorem readUvarint_any (s : ByteArray) (w : World) (ev : Value) (hs : s.size ≤ maxLen) (hg : w.cell? ⟨3, 0, none⟩ = some ev) :
    Calls Tryz.prog 63 #[.string s] w fun e w' => e = .returned (.tuple #[.int .u64 (Um.rdv s.data.toList 0 0).1, .int .i64 (Um.rdv s.data.toList 0 0).2, errOf ev (Um.rdv s.data.toList 0 0).2]) ∧ Below w.heap.size w w' := by
  unfold maxLen at hs
  go_enter Tryz.func63, Tryz.ntmps63
  go_wp2
  go_loop [2, 5] (fun x i => ∃ (k n m : Nat), k ≤ 10 ∧ i = .int .i64 k ∧ x = .int .u64 n ∧ n < 18446744073709551616 ∧ k ≤ s.size ∧ Hid (k ≤ 9 → n = m ∧ n < 2 ^ (7 * k)) ∧ Hid (Um.rdv s.data.toList 0 0 = Um.rdv (s.data.toList.drop k) k m)) (fun _ i => 10 - (intOf i).toNat)
  case atStart => exact ⟨0, 0, 0, by omega, rfl, rfl, by omega, by omega, fun _ => ⟨rfl, by simp⟩, rfl⟩
  case round =>
    obtain ⟨k, n, m, hk, rfl, rfl, hn, hks, hm, hr⟩ := hrel
    by_cases hlt : k < s.size
    · have hlt' : decide ((k : Int) < (s.size : Int)) = true := by simp; omega
      by_cases hk10 : k < 10
      · have hk10' : decide ((k : Int) < 10) = true := by simp; omega
        have hb8 : s[k].toNat < 256 := s[k].toNat_lt
        have ha := byte_and127 _ hb8
        have hac := acc_bits (b := s[k].toNat) (k := k) hn
        have hal := acc_lt (b := s[k].toNat) (k := k) hn
        obtain ⟨rfl, hn7⟩ := hm.out (by omega)
        have HN : Hid (n < 2 ^ (7 * k)) := hn7
        have HR : Hid (Um.rdv s.data.toList 0 0 = Um.rdv (s[k] :: s.data.toList.drop (k + 1)) k n) := by
          show _ = _
          rw [hr.out, drop_cons s k hlt]
        clear hn7 hm hr
        by_cases hb : s[k].toNat < 128
        · have ha2 := byte_lo _ hb
          cases he : endsB k s[k].toNat
          · have HE : Hid (Um.rdv s.data.toList 0 0 = (0, 0)) := by
              show _ = _
              rw [HR.out, Um.rdv_bad hb (ends_no he)]
            go_wp2_with (go_at_call 96; refine (endsWell_any _ _ _ hk10).mono ?_; rw [he]; rintro e w' ⟨rfl, rfl⟩)
            go_region
            all_goals (try go_wp2)
            all_goals go_ret3
            all_goals exact ⟨rd_none HE.out, (Below.refl _ _).drew⟩
          · have HE : Hid (Um.rdv s.data.toList 0 0 = (n + s[k].toNat * 2 ^ (7 * k), k + 1)) := by
              show _ = _
              rw [HR.out, Um.rdv_end hk10 hb (ends_yes he)]
            go_wp2_with (go_at_call 96; refine (endsWell_any _ _ _ hk10).mono ?_; rw [he]; rintro e w' ⟨rfl, rfl⟩)
            go_ret3
            exact ⟨by rw [acc_last hk10 hb HN.out he]; exact rd_some rfl HE.out, Below.refl _ _⟩
        · have ha2 := byte_hi _ hb8 hb
          go_wp2_with fail
          go_round
          case rel => exact ⟨k + 1, acc n s[k].toNat k, n + s[k].toNat % 128 * 2 ^ (7 * k), by omega, by go_num, rfl, hal, by omega, fun h9 => ⟨acc_eq HN.out (acc_room (by omega)), by rw [acc_eq HN.out (acc_room (by omega))]; exact acc_next HN.out⟩, by show _ = _; rw [HR.out, Um.rdv_more hk10 hb]⟩
          case measure => simp [intOf]; omega
      · have hk10' : decide ((k : Int) < 10) = false := by simp; omega
        have HE : Hid (Um.rdv s.data.toList 0 0 = (0, 0)) := by
          show _ = _
          rw [hr.out, Um.rdv_ten _ _ (by omega)]
        go_wp2
        go_region
        all_goals (try go_wp2)
        all_goals go_ret3
        all_goals exact ⟨rd_none HE.out, (Below.refl _ _).drew⟩
    · have hlt' : decide ((k : Int) < (s.size : Int)) = false := by simp; omega
      have HE : Hid (Um.rdv s.data.toList 0 0 = (0, 0)) := by
        show _ = _
        rw [hr.out, List.drop_of_length_le (by simp; omega)]; rfl
      go_wp2
      go_region
      all_goals (try go_wp2)
      all_goals go_ret3
      all_goals exact ⟨rd_none HE.out, (Below.refl _ _).drew⟩
end Go.Proofs.YtmhkpnmifhfboaaGreatDoor

namespace Go.Proofs.YtmhkpnmifhfboaaGreatDoor
open Go.RowKit
theorem rs_none {r : Nat × Nat} (h : r = (0, 0)) : Ending.returned (.tuple #[.int .u64 0, .int .i64 0]) = .returned (.tuple #[.int .u64 r.1, .int .i64 r.2]) := by rw [h]; rfl
theorem rs_some {r : Nat × Nat} {a k : Nat} {x y : Int} (hy : y = (a : Int)) (hx : x = (k : Int) + 1) (h : r = (a, k + 1)) : Ending.returned (.tuple #[.int .u64 y, .int .i64 x]) = .returned (.tuple #[.int .u64 r.1, .int .i64 r.2]) := by
  rw [h, hx, hy]; rfl
theorem wrap_exact {b k : Nat} (h : b % 128 * 2 ^ (7 * k) < 18446744073709551616) : IntKind.u64.wrap ((b : Int) % 128 * 2 ^ (7 * k)) = ((b % 128 * 2 ^ (7 * k) : Nat) : Int) := by
  have e1 : ((b % 128 * 2 ^ (7 * k) : Nat) : Int) = (b : Int) % 128 * 2 ^ (7 * k) := by simp
  rw [← e1]
  generalize b % 128 * 2 ^ (7 * k) = q at h
  simp only [IntKind.wrap, IntKind.bits, IntKind.signed]
  simp
  omega
/-- In the tenth byte there is room for one bit. -/
theorem room_at {n b k : Nat} (hk : k < 10) (h : n < 2 ^ (7 * k)) (hc : ¬ (k = 9 ∧ 1 < b)) : n + b % 128 * 2 ^ (7 * k) < 18446744073709551616 := by
  by_cases h9 : k = 9
  · subst h9
    have : b % 128 * 2 ^ (7 * 9) ≤ 1 * 2 ^ (7 * 9) := Nat.mul_le_mul_right _ (by omega)
    have e : (1 : Nat) * 2 ^ (7 * 9) = 9223372036854775808 := by decide
    have e2 : (2 : Nat) ^ (7 * 9) = 9223372036854775808 := by decide
    omega
  · have := acc_next (b := b) h
    have h2 : 2 ^ (7 * (k + 1)) ≤ 2 ^ 63 := Nat.pow_le_pow_right (by omega) (by omega)
    omega
set_option maxHeartbeats 800000 in
set_option maxRecDepth 100000 in
theorem readSeven_any (s : ByteArray) (w : World) (hs : s.size ≤ maxLen) :
    Calls Tryz.prog 48 #[.string s] w fun e w' => e = .returned (.tuple #[.int .u64 (Um.rdv s.data.toList 0 0).1, .int .i64 (Um.rdv s.data.toList 0 0).2]) ∧ w' = w := by
  unfold maxLen at hs
  go_enter Tryz.func48, Tryz.ntmps48
  go_wp2
  go_loop [4, 5] (fun x i => ∃ (k n : Nat), k ≤ 10 ∧ i = .int .i64 k ∧ x = .int .u64 n ∧ k ≤ s.size ∧ n < 18446744073709551616 ∧ Hid (k ≤ 9 → n < 2 ^ (7 * k)) ∧ Hid (Um.rdv s.data.toList 0 0 = Um.rdv (s.data.toList.drop k) k n)) (fun _ i => 10 - (intOf i).toNat)
  case atStart => exact ⟨0, 0, by omega, rfl, rfl, by omega, by omega, fun _ => by simp, rfl⟩
  case round =>
    obtain ⟨k, n, hk, rfl, rfl, hks, hn, hm, hr⟩ := hrel
    by_cases hlt : k < s.size
    · have hlt' : decide ((k : Int) < (s.size : Int)) = true := by simp; omega
      by_cases hk10 : k < 10
      · have hk10' : decide ((k : Int) < 10) = true := by simp; omega
        have hb8 : s[k].toNat < 256 := s[k].toNat_lt
        have HN : Hid (n < 2 ^ (7 * k)) := hm.out (by omega)
        have HR : Hid (Um.rdv s.data.toList 0 0 = Um.rdv (s[k] :: s.data.toList.drop (k + 1)) k n) := by
          show _ = _
          rw [hr.out, drop_cons s k hlt]
        clear hm hr
        by_cases h9 : k = 9 ∧ 1 < s[k].toNat
        · have h9' : ((k : Int) == 9) = true := by simp; omega
          have h91 : decide (1 < (s[k].toNat : Int)) = true := by simp; omega
          have HE : Hid (Um.rdv s.data.toList 0 0 = (0, 0)) := by
            show _ = _
            rw [HR.out]
            by_cases hb : s[k].toNat < 128
            · exact Um.rdv_bad hb (Or.inr h9)
            · rw [Um.rdv_more hk10 hb]; exact Um.rdv_ten _ _ (by omega)
          clear h9
          go_wp2
          go_ret2
          exact ⟨rs_none HE.out, rfl⟩
        · have hrm := room_at hk10 HN.out h9
          have hex := wrap_exact (b := s[k].toNat) (k := k) (by omega)
          have hnx : Hid (n + s[k].toNat % 128 * 2 ^ (7 * k) < 2 ^ (7 * (k + 1))) := acc_next HN.out
          have HB : Hid (s[k].toNat < 128 → s[k].toNat % 128 * 2 ^ (7 * k) = s[k].toNat * 2 ^ (7 * k)) := fun hb => by rw [Nat.mod_eq_of_lt hb]
          have HM : Hid (¬ s[k].toNat < 128 → Um.rdv s.data.toList 0 0 = Um.rdv (s.data.toList.drop (k + 1)) (k + 1) (n + s[k].toNat % 128 * 2 ^ (7 * k))) := fun hb => by rw [HR.out, Um.rdv_more hk10 hb]
          generalize s[k].toNat % 128 * 2 ^ (7 * k) = q at *
          have hd : ((k : Int) == 9) = false ∨ (((k : Int) == 9) = true ∧ decide (1 < (s[k].toNat : Int)) = false) := by
            by_cases e : k = 9
            · right; subst e; exact ⟨rfl, by simp; omega⟩
            · left; simp; omega
          by_cases hb : s[k].toNat < 128
          · have hb' : decide ((s[k].toNat : Int) < 128) = true := by simp; omega
            by_cases hz : s[k].toNat = 0 ∧ 0 < k
            · have hz1 : ((s[k].toNat : Int) == 0) = true := by simp; omega
              have hz2 : 0 < k := hz.2
              have HE : Hid (Um.rdv s.data.toList 0 0 = (0, 0)) := by
                show _ = _
                rw [HR.out]
                exact Um.rdv_bad hb (Or.inl hz)
              clear hz h9
              rcases hd with hd | ⟨hd, hd'⟩
              all_goals
                go_wp2
                go_ret2
                exact ⟨rs_none HE.out, rfl⟩
            · have hz' : ((s[k].toNat : Int) == 0) = false ∨ (((s[k].toNat : Int) == 0) = true ∧ ¬ 0 < k) := by
                by_cases e : s[k].toNat = 0
                · right; exact ⟨by simp; omega, by omega⟩
                · left; simp; omega
              have HE : Hid (Um.rdv s.data.toList 0 0 = (n + q, k + 1)) := by
                show _ = _
                rw [HR.out, HB.out hb]
                exact Um.rdv_end hk10 hb (by omega)
              clear hz h9
              rcases hd with hd | ⟨hd, hd'⟩ <;> rcases hz' with hz | ⟨hz, hz'⟩
              all_goals
                go_wp2
                go_ret2
                exact ⟨rs_some (by omega) rfl HE.out, rfl⟩
          · have hb' : decide ((s[k].toNat : Int) < 128) = false := by simp; omega
            clear h9
            rcases hd with hd | ⟨hd, hd'⟩
            all_goals
              go_wp2
              go_round
              case rel => exact ⟨k + 1, n + q, by omega, by go_num, by go_num, by omega, by omega, fun _ => hnx.out, HM.out hb⟩
              case measure => simp [intOf]; omega
      · have hk10' : decide ((k : Int) < 10) = false := by simp; omega
        have HE : Hid (Um.rdv s.data.toList 0 0 = (0, 0)) := by
          show _ = _
          rw [hr.out, Um.rdv_ten _ _ (by omega)]
        go_wp2
        go_ret2
        exact ⟨rs_none HE.out, rfl⟩
    · have hlt' : decide ((k : Int) < (s.size : Int)) = false := by simp; omega
      have HE : Hid (Um.rdv s.data.toList 0 0 = (0, 0)) := by
        show _ = _
        rw [hr.out, List.drop_of_length_le (by simp; omega)]; rfl
      go_wp2
      go_ret2
      exact ⟨rs_none HE.out, rfl⟩
end Go.Proofs.YtmhkpnmifhfboaaGreatDoor

namespace Go.Proofs.YtmhkpnmifhfboaaGreatDoor
open Go.RowKit
set_option maxHeartbeats 800000 in
theorem readLong_hit (s : ByteArray) (w : World) (n k : Nat) (hs : s.size ≤ 2000) (hr : Um.rdv s.data.toList 0 0 = (n, k)) (hk : 0 < k) (hf : k + n ≤ s.size) :
    Calls Tryz.prog 46 #[.string s] w fun e w' => e = .returned (.tuple #[.string (s.extract k (k + n)), .int .i64 ((k : Int) + n)]) ∧ w' = w := by
  have hm : s.size ≤ maxLen := by unfold maxLen; omega
  have HR : Hid (Um.rdv s.data.toList 0 0 = (n, k)) := hr
  clear hr
  have hd0 : ((k : Int) == 0) = false := by simp; omega
  have hd1 : decide (200000 < (n : Int)) = false := by simp; omega
  have hd2 : decide ((s.size : Int) - (k : Int) < (n : Int)) = false := by simp; omega
  go_enter Tryz.func46, Tryz.ntmps46
  go_wp2_with fail
  refine (readSeven_any s _ hm).mono ?_
  rw [HR.out]
  rintro e w1 ⟨rfl, hw⟩
  subst hw
  go_wp2
  go_ret2
  exact ⟨rfl, rfl⟩
set_option maxHeartbeats 800000 in
theorem readLong_miss (s : ByteArray) (w : World) (n k : Nat) (hs : s.size ≤ 2000) (hr : Um.rdv s.data.toList 0 0 = (n, k)) (hf : k = 0 ∨ s.size < k + n) :
    Calls Tryz.prog 46 #[.string s] w fun e w' => e = .returned (.tuple #[.string ⟨#[]⟩, .int .i64 0]) ∧ w' = w := by
  have hm : s.size ≤ maxLen := by unfold maxLen; omega
  have hn : n < 18446744073709551616 := by have := (Um.rdv_room s.data.toList 0 0 (by simp)).1; rw [hr] at this; exact this
  have hk10 : k ≤ 10 := by have := (Um.rdv_room s.data.toList 0 0 (by simp)).2.1; rw [hr] at this; exact this
  have hkl : k ≤ s.size := by have := (Um.rdv_room s.data.toList 0 0 (by simp)).2.2; rw [hr] at this; simpa using this
  have HR : Hid (Um.rdv s.data.toList 0 0 = (n, k)) := hr
  clear hr
  have hcase : ((k : Int) == 0) = true ∨ (((k : Int) == 0) = false ∧ decide (200000 < (n : Int)) = true) ∨ (((k : Int) == 0) = false ∧ decide (200000 < (n : Int)) = false ∧ n ≤ 200000 ∧ decide ((s.size : Int) - (k : Int) < (n : Int)) = true) := by
    by_cases h0 : k = 0
    · left; simp; omega
    · right
      by_cases h1 : n ≤ 200000
      · right; refine ⟨?_, ?_, h1, ?_⟩ <;> (simp; omega)
      · left; refine ⟨?_, ?_⟩ <;> (simp; omega)
  clear hf
  rcases hcase with hd0 | ⟨hd0, hd1⟩ | ⟨hd0, hd1, hn2, hd2⟩
  all_goals
    go_enter Tryz.func46, Tryz.ntmps46
    go_wp2_with fail
    refine (readSeven_any s _ hm).mono ?_
    rw [HR.out]
    rintro e w1 ⟨rfl, hw⟩
    subst hw
    go_wp2
    go_ret2
    exact ⟨rfl, rfl⟩
end Go.Proofs.YtmhkpnmifhfboaaGreatDoor

namespace Go.Proofs.YtmhkpnmifhfboaaGreatDoor
open Go.RowKit
set_option maxHeartbeats 400000 in
theorem long_any (s : ByteArray) (w : World) (hs : s.size ≤ 140737488351232) :
    Calls Tryz.prog 83 #[.string s] w fun e w' => e = .returned (.string (⟨(Um.uv s.size).toArray⟩ ++ s)) ∧ Below w.heap.size w w' := by
  have hl := Um.uv_ten (n := s.size) (by omega)
  go_enter Tryz.func83, Tryz.ntmps83
  go_wp2_with fail
  refine (seven_any s.size _ (by omega)).mono ?_
  rintro e w1 ⟨rfl, hb1⟩
  go_wp2
  go_ret
  exact ⟨rfl, hb1⟩
end Go.Proofs.YtmhkpnmifhfboaaGreatDoor
