/-
  Words of a schema's text: which bytes they are of; where one ends.
-/
import Derived.Test.YtopagfjimbdbdaaGreatDoorPNms
namespace Go.Proofs.YtopagfjimbdbdaaGreatDoor
open Go.RowKit
def isSm (b : UInt8) : Bool := decide (97 ≤ b.toNat ∧ b.toNat ≤ 122)
def isBg (b : UInt8) : Bool := decide (65 ≤ b.toNat ∧ b.toNat ≤ 90)
def isLt (b : UInt8) : Bool := isSm b || isBg b
def isDg (b : UInt8) : Bool := decide (48 ≤ b.toNat ∧ b.toNat ≤ 57)
def isBl (b : UInt8) : Bool := decide (b.toNat = 32 ∨ b.toNat = 10)
set_option maxRecDepth 100000 in
set_option maxHeartbeats 1600000 in
theorem isLetter_any (b : UInt8) (W : World) : Calls Tryz.prog 73 #[.int .u8 b.toNat] W fun e w' => e = .returned (.bool (isLt b)) ∧ w' = W := by
  obtain ⟨c, HC⟩ : ∃ c, Hid (isSm b = c) := ⟨_, rfl⟩
  cases c
  · by_cases h1 : 65 ≤ b.toNat
    all_goals
      by_cases h2 : b.toNat ≤ 90
      all_goals
        have HE : Hid (isLt b = isBg b) := (by show _ = _; rw [isLt, HC.out]; rfl)
        have HG : Hid (isBg b = decide (65 ≤ b.toNat ∧ b.toNat ≤ 90)) := rfl
        go_enter Tryz.func73, Tryz.ntmps73
        go_wp2_with fail
        refine (isSmall_any b W).mono ?_
        rw [show decide (97 ≤ b.toNat ∧ b.toNat ≤ 122) = false from HC.out]
        rintro e w1 ⟨rfl, hw⟩
        obtain rfl := hw.symm
        go_wp2
        all_goals go_ret
        all_goals (rw [HE.out, HG.out]; simp [h1, h2]; try omega)
  · have HE : Hid (isLt b = true) := (by show _ = _; rw [isLt, HC.out]; rfl)
    go_enter Tryz.func73, Tryz.ntmps73
    go_wp2_with fail
    refine (isSmall_any b W).mono ?_
    rw [show decide (97 ≤ b.toNat ∧ b.toNat ≤ 122) = true from HC.out]
    rintro e w1 ⟨rfl, hw⟩
    obtain rfl := hw.symm
    go_wp2
    go_ret
    exact ⟨by rw [HE.out]; rfl, rfl⟩
set_option maxRecDepth 100000 in
set_option maxHeartbeats 1600000 in
theorem isDigit_any (b : UInt8) (W : World) : Calls Tryz.prog 74 #[.int .u8 b.toNat] W fun e w' => e = .returned (.bool (isDg b)) ∧ w' = W := by
  by_cases h1 : 48 ≤ b.toNat
  all_goals
    by_cases h2 : b.toNat ≤ 57
    all_goals
      have HG : Hid (isDg b = decide (48 ≤ b.toNat ∧ b.toNat ≤ 57)) := rfl
      go_enter Tryz.func74, Tryz.ntmps74
      go_wp2
      all_goals go_ret
      all_goals (rw [HG.out]; simp [h1, h2]; try omega)
set_option maxRecDepth 100000 in
set_option maxHeartbeats 1600000 in
theorem isBlank_any (b : UInt8) (W : World) : Calls Tryz.prog 60 #[.int .u8 b.toNat] W fun e w' => e = .returned (.bool (isBl b)) ∧ w' = W := by
  have HG : Hid (isBl b = decide (b.toNat = 32 ∨ b.toNat = 10)) := rfl
  by_cases h1 : b.toNat = 32
  · go_enter Tryz.func60, Tryz.ntmps60
    go_wp2
    all_goals go_ret
    all_goals (rw [HG.out]; simp [h1])
  · have q1 : ((b.toNat : Int) == 32) = false := by simp; omega
    go_enter Tryz.func60, Tryz.ntmps60
    go_wp2
    all_goals go_ret
    all_goals (rw [HG.out]; simp [h1]; rw [Bool.eq_iff_iff]; simp; omega)
/-- A list's next element is none of these. -/
def Stop (p : UInt8 → Bool) (r : List UInt8) : Prop := ∀ c t, r = c :: t → p c = false
/-- A word, with what stands behind it. -/
def IsTok (w rest : List UInt8) : Prop :=
  (w = [] ∧ rest = []) ∨ ∃ c t, w = c :: t ∧ ((isLt c = true ∧ (∀ x ∈ t, isLt x = true) ∧ Stop isLt rest) ∨ (c.toNat = 35 ∧ (∀ x ∈ t, isDg x = true) ∧ Stop isDg rest) ∨ (isLt c = false ∧ c.toNat ≠ 35 ∧ t = []))
theorem at_mid {s : ByteArray} {pre m rest : List UInt8} (hs : s.data.toList = pre ++ (m ++ rest)) {i : Nat} (hi : i < m.length) : ∃ h : pre.length + i < s.size, s[pre.length + i] = m[i] := by
  have hl : s.data.toList.length = s.size := by simp
  have h : pre.length + i < s.size := by rw [← hl, hs]; simp; omega
  refine ⟨h, ?_⟩
  have e : s[pre.length + i] = s.data.toList[pre.length + i]'(by rw [hl]; exact h) := rfl
  rw [e]
  simp only [hs]
  rw [List.getElem_append_right (by omega), List.getElem_append_left (by omega)]
  congr 1
  omega
theorem sz_mid {s : ByteArray} {pre m rest : List UInt8} (hs : s.data.toList = pre ++ (m ++ rest)) : s.size = pre.length + m.length + rest.length := by
  have hl : s.data.toList.length = s.size := by simp
  rw [← hl, hs]; simp; omega
set_option maxRecDepth 100000 in
theorem goesNot_any (b : UInt8) (W : World) : Calls Tryz.prog 72 #[.int .u8 b.toNat] W fun e w' => e = .returned (.bool false) ∧ w' = W := by
  go_enter Tryz.func72, Tryz.ntmps72
  go_wp2
  go_ret
  exact ⟨rfl, rfl⟩
set_option maxRecDepth 100000 in
set_option maxHeartbeats 3200000 in
theorem wordEnd_lt (s : ByteArray) (p n : Nat) (hm : s.size ≤ 100000) (hp : p < s.size) (hn : p < n) (hns : n ≤ s.size) (hc : isLt s[p] = true) (ht : ∀ k (h : k < s.size), p < k → k < n → isLt s[k] = true) (hr : ∀ h : n < s.size, isLt s[n] = false) (W : World) :
    Calls Tryz.prog 61 #[.string s, .int .i64 (p : Nat)] W fun e w' => e = .returned (.int .i64 (n : Nat)) ∧ w' = W := by
  have q0 : ((p : Int) == (s.size : Int)) = false := by simp; omega
  have HT : Hid _ := ht
  have HR : Hid _ := hr
  clear ht hr
  go_enter Tryz.func61, Tryz.ntmps61
  go_wp2_with fail
  refine (isLetter_any s[p] W).mono ?_
  rw [hc]
  rintro e w1 ⟨rfl, hw⟩
  obtain rfl := hw.symm
  go_wp2_with fail
  go_loop [6] (fun x => ∃ k : Nat, p < k ∧ k ≤ n ∧ x = .int .i64 k) (fun x => n - (intOf x).toNat)
  case atStart => exact ⟨p + 1, by omega, by omega, by go_num⟩
  case round =>
    obtain ⟨k, hk, hkn, rfl⟩ := hrel
    by_cases hlt : k < n
    · have hks : k < s.size := by omega
      have HB : Hid (isLt s[k] = true) := HT.out k hks hk hlt
      go_wp2_with fail
      refine (isLetter_any s[k] W).mono ?_
      rw [HB.out]
      rintro e w1 ⟨rfl, hw⟩
      obtain rfl := hw.symm
      go_wp2
      go_round
      case rel => exact ⟨k + 1, by omega, by omega, by go_num⟩
      case measure => simp [intOf]; omega
    · obtain rfl : k = n := by omega
      clear hlt hkn
      by_cases hks : k < s.size
      · have HB : Hid (isLt s[k] = false) := HR.out hks
        have q7 : decide ((k : Int) < (s.size : Int)) = true := by rw [decide_eq_true_iff]; omega
        go_wp2_with fail
        refine (isLetter_any s[k] W).mono ?_
        rw [HB.out]
        rintro e w1 ⟨rfl, hw⟩
        obtain rfl := hw.symm
        go_wp2
        go_ret
        exact ⟨rfl, rfl⟩
      · have q7 : decide ((k : Int) < (s.size : Int)) = false := by rw [decide_eq_false_iff_not]; omega
        go_wp2
        go_ret
        exact ⟨rfl, rfl⟩
set_option maxRecDepth 100000 in
set_option maxHeartbeats 3200000 in
theorem wordEnd_dg (s : ByteArray) (p n : Nat) (hm : s.size ≤ 100000) (hp : p < s.size) (hn : p < n) (hns : n ≤ s.size) (hc : isLt s[p] = false) (hc2 : s[p].toNat = 35) (ht : ∀ k (h : k < s.size), p < k → k < n → isDg s[k] = true) (hr : ∀ h : n < s.size, isDg s[n] = false) (W : World) :
    Calls Tryz.prog 61 #[.string s, .int .i64 (p : Nat)] W fun e w' => e = .returned (.int .i64 (n : Nat)) ∧ w' = W := by
  have q0 : ((p : Int) == (s.size : Int)) = false := by simp; omega
  have HT : Hid _ := ht
  have HR : Hid _ := hr
  clear ht hr
  have q3 : ((s[p].toNat : Int) == 35) = true := beq_iff_eq.2 (by omega)
  have HC2 : Hid _ := hc2
  clear hc2
  go_enter Tryz.func61, Tryz.ntmps61
  go_wp2_with fail
  refine (isLetter_any s[p] W).mono ?_
  rw [hc]
  rintro e w1 ⟨rfl, hw⟩
  obtain rfl := hw.symm
  go_wp2_with fail
  go_loop [6] (fun x => ∃ k : Nat, p < k ∧ k ≤ n ∧ x = .int .i64 k) (fun x => n - (intOf x).toNat)
  case atStart => exact ⟨p + 1, by omega, by omega, by go_num⟩
  case round =>
    obtain ⟨k, hk, hkn, rfl⟩ := hrel
    by_cases hlt : k < n
    · have hks : k < s.size := by omega
      have HB : Hid (isDg s[k] = true) := HT.out k hks hk hlt
      go_wp2_with fail
      refine (isDigit_any s[k] W).mono ?_
      rw [HB.out]
      rintro e w1 ⟨rfl, hw⟩
      obtain rfl := hw.symm
      go_wp2
      go_round
      case rel => exact ⟨k + 1, by omega, by omega, by go_num⟩
      case measure => simp [intOf]; omega
    · obtain rfl : k = n := by omega
      clear hlt hkn
      by_cases hks : k < s.size
      · have HB : Hid (isDg s[k] = false) := HR.out hks
        have q7 : decide ((k : Int) < (s.size : Int)) = true := by rw [decide_eq_true_iff]; omega
        go_wp2_with fail
        refine (isDigit_any s[k] W).mono ?_
        rw [HB.out]
        rintro e w1 ⟨rfl, hw⟩
        obtain rfl := hw.symm
        go_wp2
        go_ret
        exact ⟨rfl, rfl⟩
      · have q7 : decide ((k : Int) < (s.size : Int)) = false := by rw [decide_eq_false_iff_not]; omega
        go_wp2
        go_ret
        exact ⟨rfl, rfl⟩
set_option maxRecDepth 100000 in
set_option maxHeartbeats 3200000 in
theorem wordEnd_one (s : ByteArray) (p : Nat) (hm : s.size ≤ 100000) (hp : p < s.size) (hc : isLt s[p] = false) (hc2 : s[p].toNat ≠ 35) (W : World) :
    Calls Tryz.prog 61 #[.string s, .int .i64 (p : Nat)] W fun e w' => e = .returned (.int .i64 (p + 1 : Nat)) ∧ w' = W := by
  have q0 : ((p : Int) == (s.size : Int)) = false := by simp; omega
  have q3 : ((s[p].toNat : Int) == 35) = false := beq_eq_false_iff_ne.2 (by omega)
  clear hc2
  go_enter Tryz.func61, Tryz.ntmps61
  go_wp2_with fail
  refine (isLetter_any s[p] W).mono ?_
  rw [hc]
  rintro e w1 ⟨rfl, hw⟩
  obtain rfl := hw.symm
  go_wp2_with fail
  go_loop [6] (fun x => ∃ k : Nat, k = p + 1 ∧ x = .int .i64 k) (fun _ => 0)
  case atStart => exact ⟨p + 1, rfl, by go_num⟩
  case round =>
    obtain ⟨k, hk, rfl⟩ := hrel
    have HK : Hid _ := hk
    clear hk
    by_cases hks : k < s.size
    · have q7 : decide ((k : Int) < (s.size : Int)) = true := by rw [decide_eq_true_iff]; omega
      go_wp2_with fail
      refine (goesNot_any s[k] W).mono ?_
      rintro e w1 ⟨rfl, hw⟩
      obtain rfl := hw.symm
      go_wp2
      go_ret
      have hk := HK.out
      subst hk
      exact ⟨rfl, rfl⟩
    · have q7 : decide ((k : Int) < (s.size : Int)) = false := by rw [decide_eq_false_iff_not]; omega
      go_wp2
      go_ret
      have hk := HK.out
      subst hk
      exact ⟨rfl, rfl⟩
set_option maxRecDepth 100000 in
theorem wordEnd_end (s : ByteArray) (W : World) :
    Calls Tryz.prog 61 #[.string s, .int .i64 (s.size : Nat)] W fun e w' => e = .returned (.int .i64 (s.size : Nat)) ∧ w' = W := by
  go_enter Tryz.func61, Tryz.ntmps61
  go_wp2
  go_ret
  exact ⟨rfl, rfl⟩
end Go.Proofs.YtopagfjimbdbdaaGreatDoor
