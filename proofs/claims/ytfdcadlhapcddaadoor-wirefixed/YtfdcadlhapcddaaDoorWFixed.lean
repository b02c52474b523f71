/-
  The walk of the law WireFixed.
-/
import Derived.Test.YtfdcadlhapcddaaDoorFix2
import Derived.Test.YtfdcadlhapcddaaDoorLaid8
import Derived.OpenShut
namespace Go.Proofs.YtfdcadlhapcddaaDoor
open Go.RowKit
set_option maxHeartbeats 2000000 in
set_option maxRecDepth 100000 in
theorem wfixed_bad (n : Nat) (k : Int) (s : ByteArray) (w : World) (A : Nat → Addr) (h : Errs w A) (hs : s.size ≤ 1000) (h0 : -9223372036854775808 ≤ k) (h1 : k ≤ 9223372036854775807) (hk : k < 1 ∨ 8 < k) :
    Calls Tryd.prog 5 #[.int .u64 n, .int .i64 k, .string s] w fun e w' => e = .returned (.bool true) ∧ Below w.heap.size w w' := by
  have hd0 : decide (1000 < (s.size : Int)) = false := by simp; omega
  have hcase : decide (k < 1) = true ∨ (decide (k < 1) = false ∧ decide (8 < k) = true) := by
    by_cases h : k < 1
    · left; simpa using h
    · right; exact ⟨by simp; omega, by simp; omega⟩
  have HA : Hid (Errs w A) := h
  have HK : Hid (k < 1 ∨ 8 < k) := hk
  clear h hk
  rcases hcase with hd | ⟨hd, hd'⟩
  all_goals
    go_enter Tryd.func5, Tryd.ntmps5
    go_wp2_with fail
    refine (three_any _).mono ?_
    rintro e w1 ⟨rfl, hb1⟩
    go_wp2_with fail
    refine (fixed_bad n k _ _ ((HA.out.keep hb1).at_ 1 (by omega)).var h0 h1 HK.out).mono ?_
    rintro e w2 ⟨rfl, hb2⟩
    have k2 := hb1.trans (hb2.mono hb1.size)
    go_wp2_with fail
    refine (readFixed_bad s k _ _ ((HA.out.keep k2).at_ 1 (by omega)).var HK.out).mono ?_
    rintro e w3 ⟨rfl, hb3⟩
    have k3 := k2.trans (hb3.mono k2.size)
    clear hb1 hb2 hb3 k2
    go_wp2_with fail
    refine (coded_sent _ A (HA.out.keep k3) 1 (by omega) 2 true rfl).mono ?_
    rintro e w4 ⟨rfl, hb4⟩
    have k4 := k3.trans (hb4.mono k3.size)
    go_wp2_with fail
    refine (coded_sent _ A (HA.out.keep k4) 1 (by omega) 2 true rfl).mono ?_
    rintro e w5 ⟨rfl, hb5⟩
    have k5 := k4.trans (hb5.mono k4.size)
    clear hb4 hb5 k3 k4
    go_wp2
    go_ret
    exact ⟨rfl, k5⟩
/-- The law's own test of room, by what the number leaves above so many bytes. -/
theorem room_test (n k : Nat) : ((n : Int) / 2 ^ (8 * k)) = ((n / 2 ^ (8 * k) : Nat) : Int) := by simp
set_option maxHeartbeats 2000000 in
set_option maxRecDepth 100000 in
theorem wfixed_good (n k : Nat) (s : ByteArray) (w : World) (A : Nat → Addr) (h : Errs w A) (hs : s.size ≤ 1000) (hn : n < 18446744073709551616) (h1 : 1 ≤ k) (h8 : k ≤ 8) (room : Bool) (hroom : room = decide (n / 2 ^ (8 * (k - 1)) ≤ 255)) (short : Bool) (hshort : short = decide (s.size < k)) :
    Calls Tryd.prog 5 #[.int .u64 n, .int .i64 k, .string s] w fun e w' => e = .returned (.bool true) ∧ Below w.heap.size w w' := by
  have hd0 : decide (1000 < (s.size : Int)) = false := by simp; omega
  have hd1 : decide ((k : Int) < 1) = false := by simp; omega
  have hd2 : decide (8 < (k : Int)) = false := by simp; omega
  have hq : n / 2 ^ (8 * (k - 1)) ≤ 255 ↔ n / 2 ^ (8 * k) = 0 := Um.room_iff h1
  have HA : Hid (Errs w A) := h
  clear h
  have hrt := room_test n k
  have hcase : (k = 8 ∧ room = true) ∨ (k < 8 ∧ decide (0 < ((n / 2 ^ (8 * k) : Nat) : Int)) = !room) := by
    by_cases h : k = 8
    · left
      refine ⟨h, ?_⟩
      subst h
      rw [hroom]
      simp only [decide_eq_true_eq]
      rw [hq]
      exact Nat.div_eq_of_lt (by omega)
    · right
      refine ⟨by omega, ?_⟩
      rw [hroom]
      by_cases hz : n / 2 ^ (8 * k) = 0
      · rw [decide_eq_true (hq.2 hz)]; simp [hz]
      · rw [decide_eq_false (fun h => hz (hq.1 h))]
        generalize n / 2 ^ (8 * k) = q at hz
        simp
        omega
  have HF : Hid (∀ W : World, Errs W A → Calls Tryd.prog 16 #[.int .u64 n, .int .i64 k] W fun e w' => e = .returned (.tuple #[(if room then .string ⟨(Um.lit n k).toArray⟩ else .string ⟨#[]⟩), (if room then .nilIface else errV (A 1))]) ∧ Below W.heap.size W w') := fun W hW => by
    cases room
    · exact fixed_room n k W _ (hW.at_ 1 (by omega)).var h1 h8 (of_decide_eq_false hroom.symm)
    · exact fixed_ok n k W hn h1 h8 (of_decide_eq_true hroom.symm)
  have HG : Hid (∀ W : World, Errs W A → Calls Tryd.prog 17 #[.string s, .int .i64 k] W fun e w' => e = .returned (.tuple #[(if short then .int .u64 0 else .int .u64 (Um.lev (s.data.toList.take k))), (if short then errV (A 0) else .nilIface)]) ∧ Below W.heap.size W w') := fun W hW => by
    cases short
    · refine (readFixed_ok s k W h1 h8 (by have := of_decide_eq_false hshort.symm; omega) hs).mono ?_
      rintro e w' ⟨rfl, rfl⟩
      exact ⟨rfl, Below.refl _ _⟩
    · exact readFixed_short s k W _ (hW.at_ 0 (by omega)).var h1 h8 (of_decide_eq_true hshort.symm)
  have hsh : decide ((s.size : Int) < (k : Int)) = short := by
    rw [hshort]; simp
  generalize (n / 2 ^ (8 * k) : Nat) = q at *
  clear hroom hshort hq
  rcases hcase with ⟨hk, rfl⟩ | ⟨hk, hr⟩
  · have hd3 : decide ((k : Int) < 8) = false := by simp; omega
    clear hk
    cases short
    · have hsl : ¬ s.size < k := by simpa using hsh
      clear hsh
      go_enter Tryd.func5, Tryd.ntmps5
      go_wp2_with fail
      refine (three_any _).mono ?_
      rintro e w1 ⟨rfl, hb1⟩
      go_wp2_with fail
      refine (HF.out _ (HA.out.keep hb1)).mono ?_
      rintro e w2 ⟨rfl, hb2⟩
      have k2 := hb1.trans (hb2.mono hb1.size)
      go_wp2_with fail
      refine (HG.out _ (HA.out.keep k2)).mono ?_
      rintro e w3 ⟨rfl, hb3⟩
      have k3 := k2.trans (hb3.mono k2.size)
      clear hb1 hb2 hb3 k2
      go_wp2_with fail
      refine (little_any n k _ hn h8).mono ?_
      rintro e w4 ⟨rfl, hb4⟩
      have k4 := k3.trans (hb4.mono k3.size)
      go_wp2_with fail
      refine (readLittle_any s k _ h1 h8 (by omega) hs).mono ?_
      rintro e w5 ⟨rfl, hw⟩
      subst hw
      clear hb4 k3
      go_wp2
      go_ret
      exact ⟨rfl, k4⟩
    · have hsl : s.size < k := by simpa using hsh
      clear hsh
      go_enter Tryd.func5, Tryd.ntmps5
      go_wp2_with fail
      refine (three_any _).mono ?_
      rintro e w1 ⟨rfl, hb1⟩
      go_wp2_with fail
      refine (HF.out _ (HA.out.keep hb1)).mono ?_
      rintro e w2 ⟨rfl, hb2⟩
      have k2 := hb1.trans (hb2.mono hb1.size)
      go_wp2_with fail
      refine (HG.out _ (HA.out.keep k2)).mono ?_
      rintro e w3 ⟨rfl, hb3⟩
      have k3 := k2.trans (hb3.mono k2.size)
      clear hb1 hb2 hb3 k2
      go_wp2_with fail
      refine (little_any n k _ hn h8).mono ?_
      rintro e w4 ⟨rfl, hb4⟩
      have k4 := k3.trans (hb4.mono k3.size)
      go_wp2_with fail
      refine (coded_sent _ A (HA.out.keep k4) 0 (by omega) 1 true rfl).mono ?_
      rintro e w5 ⟨rfl, hb5⟩
      have k5 := k4.trans (hb5.mono k4.size)
      clear hb4 hb5 k3 k4
      go_wp2
      go_ret
      exact ⟨rfl, k5⟩
  · have hd3 : decide ((k : Int) < 8) = true := by simp; omega
    cases room <;> cases short <;> simp only [Bool.not_false, Bool.not_true] at hr
    · have hsl : ¬ s.size < k := by simpa using hsh
      clear hsh
      have hqp : 0 < q := by simpa using hr
      go_enter Tryd.func5, Tryd.ntmps5
      go_wp2_with fail
      refine (three_any _).mono ?_
      rintro e w1 ⟨rfl, hb1⟩
      go_wp2_with fail
      refine (HF.out _ (HA.out.keep hb1)).mono ?_
      rintro e w2 ⟨rfl, hb2⟩
      have k2 := hb1.trans (hb2.mono hb1.size)
      go_wp2_with fail
      refine (HG.out _ (HA.out.keep k2)).mono ?_
      rintro e w3 ⟨rfl, hb3⟩
      have k3 := k2.trans (hb3.mono k2.size)
      clear hb1 hb2 hb3 k2
      go_wp2_with fail
      refine (coded_sent _ A (HA.out.keep k3) 1 (by omega) 2 true rfl).mono ?_
      rintro e w4 ⟨rfl, hb4⟩
      have k4 := k3.trans (hb4.mono k3.size)
      go_wp2_with fail
      refine (readLittle_any s k _ h1 h8 (by omega) hs).mono ?_
      rintro e w5 ⟨rfl, hw⟩
      subst hw
      clear hb4 k3
      go_wp2
      go_ret
      exact ⟨rfl, k4⟩
    · have hsl : s.size < k := by simpa using hsh
      clear hsh
      have hqp : 0 < q := by simpa using hr
      go_enter Tryd.func5, Tryd.ntmps5
      go_wp2_with fail
      refine (three_any _).mono ?_
      rintro e w1 ⟨rfl, hb1⟩
      go_wp2_with fail
      refine (HF.out _ (HA.out.keep hb1)).mono ?_
      rintro e w2 ⟨rfl, hb2⟩
      have k2 := hb1.trans (hb2.mono hb1.size)
      go_wp2_with fail
      refine (HG.out _ (HA.out.keep k2)).mono ?_
      rintro e w3 ⟨rfl, hb3⟩
      have k3 := k2.trans (hb3.mono k2.size)
      clear hb1 hb2 hb3 k2
      go_wp2_with fail
      refine (coded_sent _ A (HA.out.keep k3) 1 (by omega) 2 true rfl).mono ?_
      rintro e w4 ⟨rfl, hb4⟩
      have k4 := k3.trans (hb4.mono k3.size)
      go_wp2_with fail
      refine (coded_sent _ A (HA.out.keep k4) 0 (by omega) 1 true rfl).mono ?_
      rintro e w5 ⟨rfl, hb5⟩
      have k5 := k4.trans (hb5.mono k4.size)
      clear hb4 hb5 k3 k4
      go_wp2
      go_ret
      exact ⟨rfl, k5⟩
    · have hsl : ¬ s.size < k := by simpa using hsh
      clear hsh
      have hqp : ¬ 0 < q := by simpa using hr
      go_enter Tryd.func5, Tryd.ntmps5
      go_wp2_with fail
      refine (three_any _).mono ?_
      rintro e w1 ⟨rfl, hb1⟩
      go_wp2_with fail
      refine (HF.out _ (HA.out.keep hb1)).mono ?_
      rintro e w2 ⟨rfl, hb2⟩
      have k2 := hb1.trans (hb2.mono hb1.size)
      go_wp2_with fail
      refine (HG.out _ (HA.out.keep k2)).mono ?_
      rintro e w3 ⟨rfl, hb3⟩
      have k3 := k2.trans (hb3.mono k2.size)
      clear hb1 hb2 hb3 k2
      go_wp2_with fail
      refine (little_any n k _ hn h8).mono ?_
      rintro e w4 ⟨rfl, hb4⟩
      have k4 := k3.trans (hb4.mono k3.size)
      go_wp2_with fail
      refine (readLittle_any s k _ h1 h8 (by omega) hs).mono ?_
      rintro e w5 ⟨rfl, hw⟩
      subst hw
      clear hb4 k3
      go_wp2
      go_ret
      exact ⟨rfl, k4⟩
    · have hsl : s.size < k := by simpa using hsh
      clear hsh
      have hqp : ¬ 0 < q := by simpa using hr
      go_enter Tryd.func5, Tryd.ntmps5
      go_wp2_with fail
      refine (three_any _).mono ?_
      rintro e w1 ⟨rfl, hb1⟩
      go_wp2_with fail
      refine (HF.out _ (HA.out.keep hb1)).mono ?_
      rintro e w2 ⟨rfl, hb2⟩
      have k2 := hb1.trans (hb2.mono hb1.size)
      go_wp2_with fail
      refine (HG.out _ (HA.out.keep k2)).mono ?_
      rintro e w3 ⟨rfl, hb3⟩
      have k3 := k2.trans (hb3.mono k2.size)
      clear hb1 hb2 hb3 k2
      go_wp2_with fail
      refine (little_any n k _ hn h8).mono ?_
      rintro e w4 ⟨rfl, hb4⟩
      have k4 := k3.trans (hb4.mono k3.size)
      go_wp2_with fail
      refine (coded_sent _ A (HA.out.keep k4) 0 (by omega) 1 true rfl).mono ?_
      rintro e w5 ⟨rfl, hb5⟩
      have k5 := k4.trans (hb5.mono k4.size)
      clear hb4 hb5 k3 k4
      go_wp2
      go_ret
      exact ⟨rfl, k5⟩
set_option maxHeartbeats 1000000 in
theorem wfixed_none (n k : Int) (s : ByteArray) (w : World) (hs : s.size ≤ maxLen) (h : 1000 < s.size) :
    Calls Tryd.prog 5 #[.int .u64 n, .int .i64 k, .string s] w fun e w' => e = .returned (.bool true) ∧ Below w.heap.size w w' := by
  unfold maxLen at hs
  have hd1 : decide (1000 < (s.size : Int)) = true := by simp; omega
  go_enter Tryd.func5, Tryd.ntmps5
  go_wp2_with (go_at_call 11; refine (three_any _).mono ?_; rintro e w1 ⟨rfl, hb1⟩)
  go_ret
  exact ⟨rfl, hb1⟩
theorem wireFixed_walk (n k : Int) (s : ByteArray) (w : World) (hn : (Lit.int .u64 n).wf = true) (hk : (Lit.int .i64 k).wf = true) (hs : s.size ≤ maxLen) (hL : laidMetH Tryd.prog Rows.wireFixedRow.laid w) :
    Calls Tryd.prog 5 #[.int .u64 n, .int .i64 k, .string s] w fun e w' => e = .returned (.bool true) ∧ Below w.heap.size w w' := by
  by_cases h : 1000 < s.size
  · exact wfixed_none n k s w hs h
  · obtain ⟨A, hA⟩ := errs_of hL
    have hnb := bounds_u64 hn
    have hkb := bounds_i64 hk
    obtain ⟨m, rfl⟩ := Int.eq_ofNat_of_zero_le hnb.1
    by_cases hb : k < 1 ∨ 8 < k
    · exact wfixed_bad m k s w A hA (by omega) hkb.1 hkb.2 hb
    · obtain ⟨j, rfl⟩ := Int.eq_ofNat_of_zero_le (show 0 ≤ k by omega)
      exact wfixed_good m j s w A hA (by omega) (by omega) (by omega) (by omega) _ rfl _ rfl
end Go.Proofs.YtfdcadlhapcddaaDoor
