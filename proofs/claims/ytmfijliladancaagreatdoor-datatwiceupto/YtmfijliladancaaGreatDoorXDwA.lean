/-
  data.Text: digits of 16.
-/
import Derived.Test.YtmfijliladancaaGreatDoorXBDwM
import Derived.Laws.Bits64b
namespace Go.Proofs.YtmfijliladancaaGreatDoor
open Go.RowKit
theorem nib_any (n k : Nat) (hn : n < 18446744073709551616) : bits BinOp.and IntKind.u64 ((n : Int) / 2 ^ (4 * k)) 15 = ((n / 16 ^ k % 16 : Nat) : Int) := by
  have e : (n : Int) / 2 ^ (4 * k) = ((n / 16 ^ k : Nat) : Int) := by
    have h2 : (2 : Int) ^ (4 * k) = ((16 ^ k : Nat) : Int) := by rw [Int.pow_mul]; simp
    rw [h2]
    exact (Int.natCast_ediv n (16 ^ k)).symm
  have hle : n / 16 ^ k < 18446744073709551616 := Nat.lt_of_le_of_lt (Nat.div_le_self _ _) hn
  rw [e, show (15 : Int) = ((15 : Nat) : Int) from rfl, bits_and_u64_nat _ _ hle (by omega)]
  congr 1
  exact Nat.and_two_pow_sub_one_eq_mod (n / 16 ^ k) 4
theorem dig_at : ∀ (d : Nat), d < 16 → ∀ h, (⟨#[48, 49, 50, 51, 52, 53, 54, 55, 56, 57, 97, 98, 99, 100, 101, 102]⟩ : ByteArray)[d]'h = hxD d := by
  intro d hd h
  have hh : d = 0 ∨ d = 1 ∨ d = 2 ∨ d = 3 ∨ d = 4 ∨ d = 5 ∨ d = 6 ∨ d = 7 ∨ d = 8 ∨ d = 9 ∨ d = 10 ∨ d = 11 ∨ d = 12 ∨ d = 13 ∨ d = 14 ∨ d = 15 := by omega
  rcases hh with rfl | rfl | rfl | rfl | rfl | rfl | rfl | rfl | rfl | rfl | rfl | rfl | rfl | rfl | rfl | rfl <;> rfl
set_option maxRecDepth 100000 in
set_option maxHeartbeats 3200000 in
theorem appendDigits_any (b : Value) (l : List UInt8) (n m : Nat) (hn : n < 18446744073709551616) (hm : m ≤ 16) (N : Nat) (W : World) (hN : N ≤ W.heap.size) (hl : l.length + m ≤ 2000000) (hb : BtR W N b l) :
    Calls Tryz.prog 63 #[b, .int .u64 (n : Nat), .int .i64 (m : Nat)] W fun e w' => ∃ b', e = .returned b' ∧ ApR W N (l ++ hx n m) b' w' := by
  obtain ⟨i0, hi, hz0, hz1, hz2⟩ := info_parts Tryz.info5
  have HA0 : Hid (ApR W N l b W) := ApR.start hb
  clear hb
  go_enter Tryz.func63, Tryz.ntmps63
  go_wp2_with fail
  go_loopw [0, 7] (fun bv x wr => ∃ (i : Nat) (pre : List UInt8), i ≤ m ∧ x = .int .i64 ((i : Int) - 1) ∧ Hid (pre ++ hx n i = hx n m) ∧ Hid (ApR W N (l ++ pre) bv wr)) (fun _ x _ => (intOf x + 1).toNat)
  case atStart => exact ⟨m, [], Nat.le_refl _, by go_num, rfl, by rw [List.append_nil]; exact HA0.out⟩
  case round =>
    clear HA0
    obtain ⟨i, pre, him, rfl, HP, HA⟩ := hrel
    cases i with
    | zero =>
      go_wp2
      go_ret
      refine ⟨u0, rfl, ?_⟩
      have h := HP.out
      rw [hx, List.append_nil] at h
      rw [← h]
      exact HA.out
    | succ k =>
      have hk4 : 4 * k < 64 := by omega
      have q1 : bits BinOp.and IntKind.u64 ((n : Int) / 2 ^ (4 * k)) 15 = ((n / 16 ^ k % 16 : Nat) : Int) := nib_any n k hn
      have hlt16 : n / 16 ^ k % 16 < 16 := Nat.mod_lt _ (by omega)
      have hpl : pre.length + (k + 1) = m := by
        have h := congrArg List.length HP.out
        rw [List.length_append, hx_len, hx_len] at h
        exact h
      obtain ⟨d, HD⟩ := hid_name (n / 16 ^ k % 16)
      rw [HD.out] at q1 hlt16
      have q2 : (0 : Int) ≤ (d : Int) ∧ (d : Int) < 16 := by omega
      have hdg : ∀ h, (⟨#[48, 49, 50, 51, 52, 53, 54, 55, 56, 57, 97, 98, 99, 100, 101, 102]⟩ : ByteArray)[d]'h = hxD d := fun h => dig_at d hlt16 h
      have hbs : N ≤ wr.heap.size := Nat.le_trans hN HA.out.old.size
      have HA2 : Hid (∀ v, ApR W N (l ++ pre) u0 (wr.alloc (.cells #[v] 5))) := fun v => HA.out.next hN ((Below.refl _ _).alloc (Nat.le_refl _) _)
      go_wp2_with (at_builtin; refine wpList_append_own _ rfl _ _ 48 rfl N 5 i0 (.int .u8 0) 1 1 Tryz.underlying48 hi hz0 hz1 hz2 rfl (by decide) _ _ _ rfl (HA2.out _).row ⟨_, 0, none⟩ 1 1 [.int .u8 (hxD d).toNat] rfl rfl (byte_cell _ _ _) (by intro u hu; simp at hu; subst hu; rfl) (by rw [List.length_append]; unfold maxLen; omega) (by rw [List.length_append]; omega) (by simp; omega) ?_; intro b2 w2 hown2 hgrow2 _; have HA3 : Hid (ApR W N ((l ++ pre) ++ [hxD d]) b2 w2) := (HA2.out _).one (c := hxD d) hN hown2 hgrow2)
      go_roundw
      case rel => exact ⟨k, pre ++ [hxD d], by omega, by go_num, by
        show _ = _
        rw [← HP.out, hx, HD.out, List.append_assoc]
        rfl, by rw [← List.append_assoc]; exact HA3.out⟩
      case measure => simp [intOf]
end Go.Proofs.YtmfijliladancaaGreatDoor
