/-
  Words of a schema's text: which bytes they are of; where one ends.
  The reader of a schema's text: its next word.
  The reader of a schema's text: a word is taken.
-/
import Derived.Test.YtajaoglnembkpaaGreatDoorPBNms
import Derived.Test.YtajaoglnembkpaaGreatDoorPOwn
import Derived.BigQuiet
import Derived.Test.YtajaoglnembkpaaGreatDoorPBInB
import Derived.Test.YtajaoglnembkpaaGreatDoorPOwnN
namespace Go.Proofs.YtajaoglnembkpaaGreatDoor
open Go.RowKit
def isSm (b : UInt8) : Bool := decide (97 ≤ b.toNat ∧ b.toNat ≤ 122)
def isBg (b : UInt8) : Bool := decide (65 ≤ b.toNat ∧ b.toNat ≤ 90)
def isLt (b : UInt8) : Bool := isSm b || isBg b
def isDg (b : UInt8) : Bool := decide (48 ≤ b.toNat ∧ b.toNat ≤ 57)
def isBl (b : UInt8) : Bool := decide (b.toNat = 32 ∨ b.toNat = 10)
set_option maxRecDepth 100000 in
set_option maxHeartbeats 1600000 in
theorem isLetter_any (b : UInt8) (W : World) : Calls Tryz.prog 74 #[.int .u8 b.toNat] W fun e w' => e = .returned (.bool (isLt b)) ∧ w' = W := by
  obtain ⟨c, HC⟩ : ∃ c, Hid (isSm b = c) := ⟨_, rfl⟩
  cases c
  · by_cases h1 : 65 ≤ b.toNat
    all_goals
      by_cases h2 : b.toNat ≤ 90
      all_goals
        have HE : Hid (isLt b = isBg b) := (by show _ = _; rw [isLt, HC.out]; rfl)
        have HG : Hid (isBg b = decide (65 ≤ b.toNat ∧ b.toNat ≤ 90)) := rfl
        go_enter Tryz.func74, Tryz.ntmps74
        go_wp2_with fail
        refine (isSmall_any b W).mono ?_
        rw [show decide (97 ≤ b.toNat ∧ b.toNat ≤ 122) = false from HC.out]
        rintro e w1 ⟨rfl, hw⟩
        obtain rfl := hw.symm
        go_wp2
        all_goals go_ret
        all_goals (rw [HE.out, HG.out]; simp [h1, h2]; try omega)
  · have HE : Hid (isLt b = true) := (by show _ = _; rw [isLt, HC.out]; rfl)
    go_enter Tryz.func74, Tryz.ntmps74
    go_wp2_with fail
    refine (isSmall_any b W).mono ?_
    rw [show decide (97 ≤ b.toNat ∧ b.toNat ≤ 122) = true from HC.out]
    rintro e w1 ⟨rfl, hw⟩
    obtain rfl := hw.symm
    go_wp2
    go_ret
    exact ⟨by rw [HE.out]; rfl, rfl⟩
set_option maxRecDepth 100000 in
set_option maxHeartbeats 1600000 in
theorem isDigit_any (b : UInt8) (W : World) : Calls Tryz.prog 75 #[.int .u8 b.toNat] W fun e w' => e = .returned (.bool (isDg b)) ∧ w' = W := by
  by_cases h1 : 48 ≤ b.toNat
  all_goals
    by_cases h2 : b.toNat ≤ 57
    all_goals
      have HG : Hid (isDg b = decide (48 ≤ b.toNat ∧ b.toNat ≤ 57)) := rfl
      go_enter Tryz.func75, Tryz.ntmps75
      go_wp2
      all_goals go_ret
      all_goals (rw [HG.out]; simp [h1, h2]; try omega)
set_option maxRecDepth 100000 in
set_option maxHeartbeats 1600000 in
theorem isBlank_any (b : UInt8) (W : World) : Calls Tryz.prog 57 #[.int .u8 b.toNat] W fun e w' => e = .returned (.bool (isBl b)) ∧ w' = W := by
  have HG : Hid (isBl b = decide (b.toNat = 32 ∨ b.toNat = 10)) := rfl
  by_cases h1 : b.toNat = 32
  · go_enter Tryz.func57, Tryz.ntmps57
    go_wp2
    all_goals go_ret
    all_goals (rw [HG.out]; simp [h1])
  · have q1 : ((b.toNat : Int) == 32) = false := by simp; omega
    go_enter Tryz.func57, Tryz.ntmps57
    go_wp2
    all_goals go_ret
    all_goals (rw [HG.out]; simp [h1]; rw [Bool.eq_iff_iff]; simp; omega)
/-- A list's next element is none of these. -/
def Stop (p : UInt8 → Bool) (r : List UInt8) : Prop := ∀ c t, r = c :: t → p c = false
/-- A word, with what stands behind it. -/
def IsTok (w rest : List UInt8) : Prop :=
  (w = [] ∧ rest = []) ∨ ∃ c t, w = c :: t ∧ ((isLt c = true ∧ (∀ x ∈ t, isLt x = true) ∧ Stop isLt rest) ∨ (c.toNat = 35 ∧ (∀ x ∈ t, isDg x = true) ∧ Stop isDg rest) ∨ (isLt c = false ∧ c.toNat ≠ 35 ∧ t = []))
theorem at_mid {s : ByteArray} {pre m rest : List UInt8} (hs : s.data.toList = pre ++ (m ++ rest)) {i : Nat} (hi : i < m.length) : ∃ h : pre.length + i < s.size, s[pre.length + i] = m[i] := by
  have hl : s.data.toList.length = s.size := by simp
  have h : pre.length + i < s.size := by rw [← hl, hs]; simp; omega
  refine ⟨h, ?_⟩
  have e : s[pre.length + i] = s.data.toList[pre.length + i]'(by rw [hl]; exact h) := rfl
  rw [e]
  simp only [hs]
  rw [List.getElem_append_right (by omega), List.getElem_append_left (by omega)]
  congr 1
  omega
theorem sz_mid {s : ByteArray} {pre m rest : List UInt8} (hs : s.data.toList = pre ++ (m ++ rest)) : s.size = pre.length + m.length + rest.length := by
  have hl : s.data.toList.length = s.size := by simp
  rw [← hl, hs]; simp; omega
set_option maxRecDepth 100000 in
theorem goesNot_any (b : UInt8) (W : World) : Calls Tryz.prog 73 #[.int .u8 b.toNat] W fun e w' => e = .returned (.bool false) ∧ w' = W := by
  go_enter Tryz.func73, Tryz.ntmps73
  go_wp2
  go_ret
  exact ⟨rfl, rfl⟩
set_option maxRecDepth 100000 in
set_option maxHeartbeats 3200000 in
theorem wordEnd_lt (s : ByteArray) (p n : Nat) (hm : s.size ≤ 100000) (hp : p < s.size) (hn : p < n) (hns : n ≤ s.size) (hc : isLt s[p] = true) (ht : ∀ k (h : k < s.size), p < k → k < n → isLt s[k] = true) (hr : ∀ h : n < s.size, isLt s[n] = false) (W : World) :
    Calls Tryz.prog 58 #[.string s, .int .i64 (p : Nat)] W fun e w' => e = .returned (.int .i64 (n : Nat)) ∧ w' = W := by
  have q0 : ((p : Int) == (s.size : Int)) = false := by simp; omega
  have HT : Hid _ := ht
  have HR : Hid _ := hr
  clear ht hr
  go_enter Tryz.func58, Tryz.ntmps58
  go_wp2_with fail
  refine (isLetter_any s[p] W).mono ?_
  rw [hc]
  rintro e w1 ⟨rfl, hw⟩
  obtain rfl := hw.symm
  go_wp2_with fail
  go_loop [6] (fun x => ∃ k : Nat, p < k ∧ k ≤ n ∧ x = .int .i64 k) (fun x => n - (intOf x).toNat)
  case atStart => exact ⟨p + 1, by omega, by omega, by go_num⟩
  case round =>
    obtain ⟨k, hk, hkn, rfl⟩ := hrel
    by_cases hlt : k < n
    · have hks : k < s.size := by omega
      have HB : Hid (isLt s[k] = true) := HT.out k hks hk hlt
      go_wp2_with fail
      refine (isLetter_any s[k] W).mono ?_
      rw [HB.out]
      rintro e w1 ⟨rfl, hw⟩
      obtain rfl := hw.symm
      go_wp2
      go_round
      case rel => exact ⟨k + 1, by omega, by omega, by go_num⟩
      case measure => simp [intOf]; omega
    · obtain rfl : k = n := by omega
      clear hlt hkn
      by_cases hks : k < s.size
      · have HB : Hid (isLt s[k] = false) := HR.out hks
        have q7 : decide ((k : Int) < (s.size : Int)) = true := by rw [decide_eq_true_iff]; omega
        go_wp2_with fail
        refine (isLetter_any s[k] W).mono ?_
        rw [HB.out]
        rintro e w1 ⟨rfl, hw⟩
        obtain rfl := hw.symm
        go_wp2
        go_ret
        exact ⟨rfl, rfl⟩
      · have q7 : decide ((k : Int) < (s.size : Int)) = false := by rw [decide_eq_false_iff_not]; omega
        go_wp2
        go_ret
        exact ⟨rfl, rfl⟩
set_option maxRecDepth 100000 in
set_option maxHeartbeats 3200000 in
theorem wordEnd_dg (s : ByteArray) (p n : Nat) (hm : s.size ≤ 100000) (hp : p < s.size) (hn : p < n) (hns : n ≤ s.size) (hc : isLt s[p] = false) (hc2 : s[p].toNat = 35) (ht : ∀ k (h : k < s.size), p < k → k < n → isDg s[k] = true) (hr : ∀ h : n < s.size, isDg s[n] = false) (W : World) :
    Calls Tryz.prog 58 #[.string s, .int .i64 (p : Nat)] W fun e w' => e = .returned (.int .i64 (n : Nat)) ∧ w' = W := by
  have q0 : ((p : Int) == (s.size : Int)) = false := by simp; omega
  have HT : Hid _ := ht
  have HR : Hid _ := hr
  clear ht hr
  have q3 : ((s[p].toNat : Int) == 35) = true := beq_iff_eq.2 (by omega)
  have HC2 : Hid _ := hc2
  clear hc2
  go_enter Tryz.func58, Tryz.ntmps58
  go_wp2_with fail
  refine (isLetter_any s[p] W).mono ?_
  rw [hc]
  rintro e w1 ⟨rfl, hw⟩
  obtain rfl := hw.symm
  go_wp2_with fail
  go_loop [6] (fun x => ∃ k : Nat, p < k ∧ k ≤ n ∧ x = .int .i64 k) (fun x => n - (intOf x).toNat)
  case atStart => exact ⟨p + 1, by omega, by omega, by go_num⟩
  case round =>
    obtain ⟨k, hk, hkn, rfl⟩ := hrel
    by_cases hlt : k < n
    · have hks : k < s.size := by omega
      have HB : Hid (isDg s[k] = true) := HT.out k hks hk hlt
      go_wp2_with fail
      refine (isDigit_any s[k] W).mono ?_
      rw [HB.out]
      rintro e w1 ⟨rfl, hw⟩
      obtain rfl := hw.symm
      go_wp2
      go_round
      case rel => exact ⟨k + 1, by omega, by omega, by go_num⟩
      case measure => simp [intOf]; omega
    · obtain rfl : k = n := by omega
      clear hlt hkn
      by_cases hks : k < s.size
      · have HB : Hid (isDg s[k] = false) := HR.out hks
        have q7 : decide ((k : Int) < (s.size : Int)) = true := by rw [decide_eq_true_iff]; omega
        go_wp2_with fail
        refine (isDigit_any s[k] W).mono ?_
        rw [HB.out]
        rintro e w1 ⟨rfl, hw⟩
        obtain rfl := hw.symm
        go_wp2
        go_ret
        exact ⟨rfl, rfl⟩
      · have q7 : decide ((k : Int) < (s.size : Int)) = false := by rw [decide_eq_false_iff_not]; omega
        go_wp2
        go_ret
        exact ⟨rfl, rfl⟩
set_option maxRecDepth 100000 in
set_option maxHeartbeats 3200000 in
theorem wordEnd_one (s : ByteArray) (p : Nat) (hm : s.size ≤ 100000) (hp : p < s.size) (hc : isLt s[p] = false) (hc2 : s[p].toNat ≠ 35) (W : World) :
    Calls Tryz.prog 58 #[.string s, .int .i64 (p : Nat)] W fun e w' => e = .returned (.int .i64 (p + 1 : Nat)) ∧ w' = W := by
  have q0 : ((p : Int) == (s.size : Int)) = false := by simp; omega
  have q3 : ((s[p].toNat : Int) == 35) = false := beq_eq_false_iff_ne.2 (by omega)
  clear hc2
  go_enter Tryz.func58, Tryz.ntmps58
  go_wp2_with fail
  refine (isLetter_any s[p] W).mono ?_
  rw [hc]
  rintro e w1 ⟨rfl, hw⟩
  obtain rfl := hw.symm
  go_wp2_with fail
  go_loop [6] (fun x => ∃ k : Nat, k = p + 1 ∧ x = .int .i64 k) (fun _ => 0)
  case atStart => exact ⟨p + 1, rfl, by go_num⟩
  case round =>
    obtain ⟨k, hk, rfl⟩ := hrel
    have HK : Hid _ := hk
    clear hk
    by_cases hks : k < s.size
    · have q7 : decide ((k : Int) < (s.size : Int)) = true := by rw [decide_eq_true_iff]; omega
      go_wp2_with fail
      refine (goesNot_any s[k] W).mono ?_
      rintro e w1 ⟨rfl, hw⟩
      obtain rfl := hw.symm
      go_wp2
      go_ret
      have hk := HK.out
      subst hk
      exact ⟨rfl, rfl⟩
    · have q7 : decide ((k : Int) < (s.size : Int)) = false := by rw [decide_eq_false_iff_not]; omega
      go_wp2
      go_ret
      have hk := HK.out
      subst hk
      exact ⟨rfl, rfl⟩
set_option maxRecDepth 100000 in
theorem wordEnd_end (s : ByteArray) (W : World) :
    Calls Tryz.prog 58 #[.string s, .int .i64 (s.size : Nat)] W fun e w' => e = .returned (.int .i64 (s.size : Nat)) ∧ w' = W := by
  go_enter Tryz.func58, Tryz.ntmps58
  go_wp2
  go_ret
  exact ⟨rfl, rfl⟩
end Go.Proofs.YtajaoglnembkpaaGreatDoor

namespace Go.Proofs.YtajaoglnembkpaaGreatDoor
open Go.RowKit
theorem below_dN {B : Nat} {a w : World} (h : Below B a w) (n : Nat) : Below B a (w.drewN n) := h.trans ⟨rfl, rfl, rfl, Nat.le_refl _, fun _ _ => rfl⟩
/-- A word stands from a place up to another one, behind blanks. -/
structure WdAt (s : ByteArray) (p a n : Nat) : Prop where
  pa : p ≤ a
  an : a ≤ n
  ns : n ≤ s.size
  bl : ∀ k (h : k < s.size), p ≤ k → k < a → isBl s[k] = true
  st : ∀ h : a < s.size, isBl s[a] = false
  we : ∀ W : World, Calls Tryz.prog 58 #[.string s, .int .i64 (a : Nat)] W fun e w' => e = .returned (.int .i64 (n : Nat)) ∧ w' = W
set_option maxRecDepth 100000 in
set_option maxHeartbeats 3200000 in
theorem next_any (r : Nat) (s : ByteArray) (p a n : Nat) (fv : Value) (W : World) (hr : W.heap[r]? = some (.cells #[.string s, .int .i64 (p : Nat), fv] 59 (0, 0))) (hm : s.size ≤ 100000) (h : WdAt s p a n) :
    Calls Tryz.prog (34) #[.pointer (some ⟨r, 0, none⟩)] W fun e w' => e = .returned (.tuple #[.string (s.extract a n), .int .i64 (a : Nat)]) ∧ Below W.heap.size W w' := by
  obtain ⟨c0, c1, c2⟩ := row_three hr
  have HH : Hid _ := h
  obtain ⟨hpa, han, hns, _, _, _⟩ := h
  clear hr
  go_enter Tryz.func34, Tryz.ntmps34
  go_wp2_with fail
  go_loop [3] (fun x => ∃ k : Nat, p ≤ k ∧ k ≤ a ∧ x = .int .i64 k) (fun x => a - (intOf x).toNat)
  case atStart => exact ⟨p, Nat.le_refl _, hpa, rfl⟩
  case round =>
    obtain ⟨k, hk, hka, rfl⟩ := hrel
    by_cases hlt : k < a
    · have hks : k < s.size := by omega
      have HB : Hid (isBl s[k] = true) := HH.out.bl k hks hk hlt
      have q7 : decide ((k : Int) < (s.size : Int)) = true := by rw [decide_eq_true_iff]; omega
      go_wp2_with fail
      refine (isBlank_any s[k] W).mono ?_
      rw [HB.out]
      rintro e w1 ⟨rfl, hw⟩
      obtain rfl := hw.symm
      go_wp2
      go_round
      case rel => exact ⟨k + 1, by omega, by omega, by go_num⟩
      case measure => simp [intOf]; omega
    · obtain rfl : k = a := by omega
      clear hlt hka
      by_cases hks : k < s.size
      · have HB : Hid (isBl s[k] = false) := HH.out.st hks
        have q7 : decide ((k : Int) < (s.size : Int)) = true := by rw [decide_eq_true_iff]; omega
        go_wp2_with fail
        refine (isBlank_any s[k] W).mono ?_
        rw [HB.out]
        rintro e w1 ⟨rfl, hw⟩
        obtain rfl := hw.symm
        have q8 : (0 : Int) ≤ (k : Int) := by omega
        have q9 : (k : Int) ≤ (n : Int) := by omega
        have q10 : (n : Int) ≤ (s.size : Int) := by omega
        go_wp2_with fail
        go_quiet ((go_at_call 58; exact Calls.quiet_of_same (HH.out.we _)))
        go_wp2
        go_ret2
        exact ⟨rfl, below_dN (Below.refl _ _) _⟩
      · have q7 : decide ((k : Int) < (s.size : Int)) = false := by rw [decide_eq_false_iff_not]; omega
        have q8 : (0 : Int) ≤ (k : Int) := by omega
        have q9 : (k : Int) ≤ (n : Int) := by omega
        have q10 : (n : Int) ≤ (s.size : Int) := by omega
        go_wp2_with fail
        go_quiet ((go_at_call 58; exact Calls.quiet_of_same (HH.out.we _)))
        go_wp2
        go_ret2
        exact ⟨rfl, below_dN (Below.refl _ _) _⟩
end Go.Proofs.YtajaoglnembkpaaGreatDoor

namespace Go.Proofs.YtajaoglnembkpaaGreatDoor
open Go.RowKit
/-- What the reader's calls keep: all but the reader itself. -/
structure RFr (r : Nat) (W w' : World) : Prop where
  os : w'.os = W.os
  tape : w'.tape = W.tape
  output : w'.output = W.output
  size : W.heap.size ≤ w'.heap.size
  keep : ∀ k, k < W.heap.size → k ≠ r → w'.heap[k]? = W.heap[k]?
theorem RFr.refl (r : Nat) (W : World) : RFr r W W := ⟨rfl, rfl, rfl, Nat.le_refl _, fun _ _ _ => rfl⟩
theorem RFr.trans {r : Nat} {W w1 w2 : World} (h : RFr r W w1) (h2 : RFr r w1 w2) : RFr r W w2 :=
  ⟨h2.os.trans h.os, h2.tape.trans h.tape, h2.output.trans h.output, Nat.le_trans h.size h2.size, fun k hk hne => by rw [h2.keep k (Nat.lt_of_lt_of_le hk h.size) hne, h.keep k hk hne]⟩
theorem RFr.of_below {r : Nat} {W w' : World} (hb : Below W.heap.size W w') : RFr r W w' := ⟨hb.os, hb.tape, hb.output, hb.size, fun k hk _ => hb.block k hk⟩
theorem RFr.below {r B : Nat} {W w' : World} (h : RFr r W w') (hB : B ≤ W.heap.size) (hr : B ≤ r) : Below B W w' := ⟨h.os, h.tape, h.output, h.size, fun k hk => h.keep k (by omega) (by omega)⟩
theorem RFr.set {r j : Nat} {W w' : World} {v : Value} (h : RFr r W w') : RFr r W (w'.setCell ⟨r, j, none⟩ v) := ⟨h.os, h.tape, h.output, by simpa using h.size, fun k hk hne => (Below.heap_setCell w' ⟨r, j, none⟩ v k hne).trans (h.keep k hk hne)⟩
theorem RFr.box {r k : Nat} {W w' : World} {o : Obj} (h : RFr r W w') (hk : W.heap[k]? = some o) (hne : k ≠ r) : w'.heap[k]? = some o := (h.keep k (lt_of_block hk) hne).trans hk
/-- A reader that has read up to a place. -/
def RdAt (r : Nat) (s : ByteArray) (p : Nat) (W : World) : Prop := W.heap[r]? = some (.cells #[.string s, .int .i64 (p : Nat), .nilIface] 59 (0, 0))
theorem row_threeF {w : World} {g e : Nat} {x0 x1 x2 : Value} (h : w.heap[g]? = some (.cells #[x0, x1, x2] e (0, 0))) : w.frozen? ⟨g, 0, none⟩ = false ∧ w.frozen? ⟨g, 1, none⟩ = false ∧ w.frozen? ⟨g, 2, none⟩ = false := by
  refine ⟨?_, ?_, ?_⟩ <;> simp [World.frozen?, h]
theorem ext_size {s : ByteArray} {a n : Nat} (han : a ≤ n) (hns : n ≤ s.size) : (s.extract a n).size = n - a := by
  rw [ByteArray.size_extract]; omega
set_option maxRecDepth 100000 in
set_option maxHeartbeats 1600000 in
theorem isLetters_any (s : ByteArray) (h0 : 0 < s.size) (hl : isLt s[0] = true) (W : World) : Calls Tryz.prog 63 #[.string s] W fun e w' => e = .returned (.bool true) ∧ w' = W := by
  have q1 : s.toList.isEmpty = false := by
    rw [List.isEmpty_eq_false_iff]
    intro e
    rw [Lib.toList_data] at e
    have : s.size = 0 := by
      have h2 : s.data.toList.length = s.size := by simp
      rw [e] at h2
      simpa using h2.symm
    omega
  go_enter Tryz.func63, Tryz.ntmps63
  go_wp2_with fail
  refine (isLetter_any s[0] W).mono ?_
  rw [hl]
  rintro e w1 ⟨rfl, hw⟩
  obtain rfl := hw.symm
  go_wp2
  go_ret
  exact ⟨rfl, rfl⟩
set_option maxRecDepth 100000 in
set_option maxHeartbeats 3200000 in
theorem take_letters (r : Nat) (s : ByteArray) (p a n : Nat) (W : World) (hr : RdAt r s p W) (hm : s.size ≤ 100000) (h : WdAt s p a n) (han : a < n) (hl : ∀ h : 0 < (s.extract a n).size, isLt (s.extract a n)[0] = true) :
    Calls Tryz.prog (62) #[.pointer (some ⟨r, 0, none⟩), .func (.func 63) #[] #[]] W fun e w' => e = .returned (.string (s.extract a n)) ∧ RdAt r s n w' ∧ RFr r W w' := by
  have HR : Hid _ := hr
  have hns := h.ns
  have hz : (s.extract a n).size = n - a := ext_size (by omega) hns
  have HL : Hid (0 < (s.extract a n).size) := (by show _ < _; omega)
  have HLL : Hid _ := hl
  have HW : Hid _ := h
  clear hr hl h
  obtain ⟨x, HX⟩ : ∃ x, Hid (s.extract a n = x) := ⟨_, rfl⟩
  go_enter Tryz.func62, Tryz.ntmps62
  go_wp2_with fail
  refine (next_any r s p a n _ W HR.out hm HW.out).mono ?_
  rintro e w1 ⟨rfl, hb1⟩
  have HB1 : Hid _ := hb1
  have HR1 : Hid (w1.heap[r]? = some (.cells #[.string s, .int .i64 (p : Nat), .nilIface] 59 (0, 0))) := blk_keep hb1 HR.out
  clear hb1
  have HIs : Hid _ := isLetters_any (s.extract a n) HL.out (HLL.out HL.out) w1
  rw [HX.out] at hz HIs ⊢
  obtain ⟨c0, c1, c2⟩ := row_three HR1.out
  obtain ⟨f0, f1, f2⟩ := row_threeF HR1.out
  have HV : Hid ((a : Int) + ((n - a : Nat) : Int) = ((n : Nat) : Int)) := (by show _ = _; omega)
  go_wp2_with fail
  refine Calls.mono HIs.out ?_
  rintro e w2 ⟨rfl, hw⟩
  obtain rfl := hw.symm
  go_wp2
  go_ret
  refine ⟨by rw [HX.out]; rfl, ?_, (RFr.of_below HB1.out).set⟩
  exact (row_setC HR1.out).trans (by show some (Obj.cells #[.string s, .int .i64 ((a : Int) + ((n - a : Nat) : Int)), .nilIface] 59 (0, 0)) = _; rw [HV.out])
end Go.Proofs.YtajaoglnembkpaaGreatDoor
