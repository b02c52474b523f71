/-
  The reference's ReadSeven: what it answers, for every text.
-/
import Derived.Test.YtgmglgepmdmmeaaDoorRd
namespace Go.Proofs.YtgmglgepmdmmeaaDoor
open Go.RowKit
theorem rs_none {r : Nat × Nat} (h : r = (0, 0)) : Ending.returned (.tuple #[.int .u64 0, .int .i64 0]) = .returned (.tuple #[.int .u64 r.1, .int .i64 r.2]) := by rw [h]; rfl
theorem rs_some {r : Nat × Nat} {a k : Nat} {x y : Int} (hy : y = (a : Int)) (hx : x = (k : Int) + 1) (h : r = (a, k + 1)) : Ending.returned (.tuple #[.int .u64 y, .int .i64 x]) = .returned (.tuple #[.int .u64 r.1, .int .i64 r.2]) := by
  rw [h, hx, hy]; rfl
theorem wrap_exact {b k : Nat} (h : b % 128 * 2 ^ (7 * k) < 18446744073709551616) : IntKind.u64.wrap ((b : Int) % 128 * 2 ^ (7 * k)) = ((b % 128 * 2 ^ (7 * k) : Nat) : Int) := by
  have e1 : ((b % 128 * 2 ^ (7 * k) : Nat) : Int) = (b : Int) % 128 * 2 ^ (7 * k) := by simp
  rw [← e1]
  generalize b % 128 * 2 ^ (7 * k) = q at h
  simp only [IntKind.wrap, IntKind.bits, IntKind.signed]
  simp
  omega
/-- In the tenth byte there is room for one bit. -/
theorem room_at {n b k : Nat} (hk : k < 10) (h : n < 2 ^ (7 * k)) (hc : ¬ (k = 9 ∧ 1 < b)) : n + b % 128 * 2 ^ (7 * k) < 18446744073709551616 := by
  by_cases h9 : k = 9
  · subst h9
    have : b % 128 * 2 ^ (7 * 9) ≤ 1 * 2 ^ (7 * 9) := Nat.mul_le_mul_right _ (by omega)
    have e : (1 : Nat) * 2 ^ (7 * 9) = 9223372036854775808 := by decide
    have e2 : (2 : Nat) ^ (7 * 9) = 9223372036854775808 := by decide
    omega
  · have := acc_next (b := b) h
    have h2 : 2 ^ (7 * (k + 1)) ≤ 2 ^ 63 := Nat.pow_le_pow_right (by omega) (by omega)
    omega
set_option maxHeartbeats 800000 in
set_option maxRecDepth 100000 in
theorem readSeven_any (s : ByteArray) (w : World) (hs : s.size ≤ maxLen) :
    Calls Tryd.prog 43 #[.string s] w fun e w' => e = .returned (.tuple #[.int .u64 (Um.rdv s.data.toList 0 0).1, .int .i64 (Um.rdv s.data.toList 0 0).2]) ∧ w' = w := by
  unfold maxLen at hs
  go_enter Tryd.func43, Tryd.ntmps43
  go_wp2
  go_loop [4, 5] (fun x i => ∃ (k n : Nat), k ≤ 10 ∧ i = .int .i64 k ∧ x = .int .u64 n ∧ k ≤ s.size ∧ n < 18446744073709551616 ∧ Hid (k ≤ 9 → n < 2 ^ (7 * k)) ∧ Hid (Um.rdv s.data.toList 0 0 = Um.rdv (s.data.toList.drop k) k n)) (fun _ i => 10 - (intOf i).toNat)
  case atStart => exact ⟨0, 0, by omega, rfl, rfl, by omega, by omega, fun _ => by simp, rfl⟩
  case round =>
    obtain ⟨k, n, hk, rfl, rfl, hks, hn, hm, hr⟩ := hrel
    by_cases hlt : k < s.size
    · have hlt' : decide ((k : Int) < (s.size : Int)) = true := by simp; omega
      by_cases hk10 : k < 10
      · have hk10' : decide ((k : Int) < 10) = true := by simp; omega
        have hb8 : s[k].toNat < 256 := s[k].toNat_lt
        have HN : Hid (n < 2 ^ (7 * k)) := hm.out (by omega)
        have HR : Hid (Um.rdv s.data.toList 0 0 = Um.rdv (s[k] :: s.data.toList.drop (k + 1)) k n) := by
          show _ = _
          rw [hr.out, drop_cons s k hlt]
        clear hm hr
        by_cases h9 : k = 9 ∧ 1 < s[k].toNat
        · have h9' : ((k : Int) == 9) = true := by simp; omega
          have h91 : decide (1 < (s[k].toNat : Int)) = true := by simp; omega
          have HE : Hid (Um.rdv s.data.toList 0 0 = (0, 0)) := by
            show _ = _
            rw [HR.out]
            by_cases hb : s[k].toNat < 128
            · exact Um.rdv_bad hb (Or.inr h9)
            · rw [Um.rdv_more hk10 hb]; exact Um.rdv_ten _ _ (by omega)
          clear h9
          go_wp2
          go_ret2
          exact ⟨rs_none HE.out, rfl⟩
        · have hrm := room_at hk10 HN.out h9
          have hex := wrap_exact (b := s[k].toNat) (k := k) (by omega)
          have hnx : Hid (n + s[k].toNat % 128 * 2 ^ (7 * k) < 2 ^ (7 * (k + 1))) := acc_next HN.out
          have HB : Hid (s[k].toNat < 128 → s[k].toNat % 128 * 2 ^ (7 * k) = s[k].toNat * 2 ^ (7 * k)) := fun hb => by rw [Nat.mod_eq_of_lt hb]
          have HM : Hid (¬ s[k].toNat < 128 → Um.rdv s.data.toList 0 0 = Um.rdv (s.data.toList.drop (k + 1)) (k + 1) (n + s[k].toNat % 128 * 2 ^ (7 * k))) := fun hb => by rw [HR.out, Um.rdv_more hk10 hb]
          generalize s[k].toNat % 128 * 2 ^ (7 * k) = q at *
          have hd : ((k : Int) == 9) = false ∨ (((k : Int) == 9) = true ∧ decide (1 < (s[k].toNat : Int)) = false) := by
            by_cases e : k = 9
            · right; subst e; exact ⟨rfl, by simp; omega⟩
            · left; simp; omega
          by_cases hb : s[k].toNat < 128
          · have hb' : decide ((s[k].toNat : Int) < 128) = true := by simp; omega
            by_cases hz : s[k].toNat = 0 ∧ 0 < k
            · have hz1 : ((s[k].toNat : Int) == 0) = true := by simp; omega
              have hz2 : 0 < k := hz.2
              have HE : Hid (Um.rdv s.data.toList 0 0 = (0, 0)) := by
                show _ = _
                rw [HR.out]
                exact Um.rdv_bad hb (Or.inl hz)
              clear hz h9
              rcases hd with hd | ⟨hd, hd'⟩
              all_goals
                go_wp2
                go_ret2
                exact ⟨rs_none HE.out, rfl⟩
            · have hz' : ((s[k].toNat : Int) == 0) = false ∨ (((s[k].toNat : Int) == 0) = true ∧ ¬ 0 < k) := by
                by_cases e : s[k].toNat = 0
                · right; exact ⟨by simp; omega, by omega⟩
                · left; simp; omega
              have HE : Hid (Um.rdv s.data.toList 0 0 = (n + q, k + 1)) := by
                show _ = _
                rw [HR.out, HB.out hb]
                exact Um.rdv_end hk10 hb (by omega)
              clear hz h9
              rcases hd with hd | ⟨hd, hd'⟩ <;> rcases hz' with hz | ⟨hz, hz'⟩
              all_goals
                go_wp2
                go_ret2
                exact ⟨rs_some (by omega) rfl HE.out, rfl⟩
          · have hb' : decide ((s[k].toNat : Int) < 128) = false := by simp; omega
            clear h9
            rcases hd with hd | ⟨hd, hd'⟩
            all_goals
              go_wp2
              go_round
              case rel => exact ⟨k + 1, n + q, by omega, by go_num, by go_num, by omega, by omega, fun _ => hnx.out, HM.out hb⟩
              case measure => simp [intOf]; omega
      · have hk10' : decide ((k : Int) < 10) = false := by simp; omega
        have HE : Hid (Um.rdv s.data.toList 0 0 = (0, 0)) := by
          show _ = _
          rw [hr.out, Um.rdv_ten _ _ (by omega)]
        go_wp2
        go_ret2
        exact ⟨rs_none HE.out, rfl⟩
    · have hlt' : decide ((k : Int) < (s.size : Int)) = false := by simp; omega
      have HE : Hid (Um.rdv s.data.toList 0 0 = (0, 0)) := by
        show _ = _
        rw [hr.out, List.drop_of_length_le (by simp; omega)]; rfl
      go_wp2
      go_ret2
      exact ⟨rs_none HE.out, rfl⟩
end Go.Proofs.YtgmglgepmdmmeaaDoor
