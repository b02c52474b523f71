/-
  The reader of a schema's text: its next word.
  The reader of a schema's text: a word is taken.
-/
import Derived.Test.YtnfjpngmadoflaaGreatDoorNBFlatL
import Derived.Test.YtnfjpngmadoflaaGreatDoorNOwn
import Derived.Test.YtnfjpngmadoflaaGreatDoorNBSBase
import Derived.BigQuiet
import Derived.Test.YtnfjpngmadoflaaGreatDoorNBInB
import Derived.Test.YtnfjpngmadoflaaGreatDoorNOwnN
namespace Go.Proofs.YtnfjpngmadoflaaGreatDoor
open Go.RowKit
/-- A word stands from a place up to another one, behind blanks. -/
structure WdAt (s : ByteArray) (p a n : Nat) : Prop where
  pa : p ≤ a
  an : a ≤ n
  ns : n ≤ s.size
  bl : ∀ k (h : k < s.size), p ≤ k → k < a → isBl s[k] = true
  st : ∀ h : a < s.size, isBl s[a] = false
  we : ∀ W : World, Calls Tryz.prog 54 #[.string s, .int .i64 (a : Nat)] W fun e w' => e = .returned (.int .i64 (n : Nat)) ∧ w' = W
set_option maxRecDepth 100000 in
set_option maxHeartbeats 3200000 in
theorem next_any (r : Nat) (s : ByteArray) (p a n : Nat) (fv : Value) (W : World) (hr : W.heap[r]? = some (.cells #[.string s, .int .i64 (p : Nat), fv] 60 (0, 0))) (hm : s.size ≤ 100000) (h : WdAt s p a n) :
    Calls Tryz.prog (45) #[.pointer (some ⟨r, 0, none⟩)] W fun e w' => e = .returned (.tuple #[.string (s.extract a n), .int .i64 (a : Nat)]) ∧ Below W.heap.size W w' := by
  obtain ⟨c0, c1, c2⟩ := row_three hr
  have HH : Hid _ := h
  obtain ⟨hpa, han, hns, _, _, _⟩ := h
  clear hr
  go_enter Tryz.func45, Tryz.ntmps45
  go_wp2_with fail
  go_loop [3] (fun x => ∃ k : Nat, p ≤ k ∧ k ≤ a ∧ x = .int .i64 k) (fun x => a - (intOf x).toNat)
  case atStart => exact ⟨p, Nat.le_refl _, hpa, rfl⟩
  case round =>
    obtain ⟨k, hk, hka, rfl⟩ := hrel
    by_cases hlt : k < a
    · have hks : k < s.size := by omega
      have HB : Hid (isBl s[k] = true) := HH.out.bl k hks hk hlt
      have q7 : decide ((k : Int) < (s.size : Int)) = true := by rw [decide_eq_true_iff]; omega
      go_wp2_with fail
      refine (isBlank_any s[k] W).mono ?_
      rw [HB.out]
      rintro e w1 ⟨rfl, hw⟩
      obtain rfl := hw.symm
      go_wp2
      go_round
      case rel => exact ⟨k + 1, by omega, by omega, by go_num⟩
      case measure => simp [intOf]; omega
    · obtain rfl : k = a := by omega
      clear hlt hka
      by_cases hks : k < s.size
      · have HB : Hid (isBl s[k] = false) := HH.out.st hks
        have q7 : decide ((k : Int) < (s.size : Int)) = true := by rw [decide_eq_true_iff]; omega
        go_wp2_with fail
        refine (isBlank_any s[k] W).mono ?_
        rw [HB.out]
        rintro e w1 ⟨rfl, hw⟩
        obtain rfl := hw.symm
        have q8 : (0 : Int) ≤ (k : Int) := by omega
        have q9 : (k : Int) ≤ (n : Int) := by omega
        have q10 : (n : Int) ≤ (s.size : Int) := by omega
        go_wp2_with fail
        go_quiet ((go_at_call 54; exact Calls.quiet_of_same (HH.out.we _)))
        go_wp2
        go_ret2
        exact ⟨rfl, below_dN (Below.refl _ _) _⟩
      · have q7 : decide ((k : Int) < (s.size : Int)) = false := by rw [decide_eq_false_iff_not]; omega
        have q8 : (0 : Int) ≤ (k : Int) := by omega
        have q9 : (k : Int) ≤ (n : Int) := by omega
        have q10 : (n : Int) ≤ (s.size : Int) := by omega
        go_wp2_with fail
        go_quiet ((go_at_call 54; exact Calls.quiet_of_same (HH.out.we _)))
        go_wp2
        go_ret2
        exact ⟨rfl, below_dN (Below.refl _ _) _⟩
end Go.Proofs.YtnfjpngmadoflaaGreatDoor

namespace Go.Proofs.YtnfjpngmadoflaaGreatDoor
open Go.RowKit
/-- A reader that has read up to a place. -/
def RdAt (r : Nat) (s : ByteArray) (p : Nat) (W : World) : Prop := W.heap[r]? = some (.cells #[.string s, .int .i64 (p : Nat), .nilIface] 60 (0, 0))
theorem row_threeF {w : World} {g e : Nat} {x0 x1 x2 : Value} (h : w.heap[g]? = some (.cells #[x0, x1, x2] e (0, 0))) : w.frozen? ⟨g, 0, none⟩ = false ∧ w.frozen? ⟨g, 1, none⟩ = false ∧ w.frozen? ⟨g, 2, none⟩ = false := by
  refine ⟨?_, ?_, ?_⟩ <;> simp [World.frozen?, h]
theorem ext_size {s : ByteArray} {a n : Nat} (han : a ≤ n) (hns : n ≤ s.size) : (s.extract a n).size = n - a := by
  rw [ByteArray.size_extract]; omega
set_option maxRecDepth 100000 in
set_option maxHeartbeats 1600000 in
theorem isLetters_any (s : ByteArray) (h0 : 0 < s.size) (hl : isLt s[0] = true) (W : World) : Calls Tryz.prog 59 #[.string s] W fun e w' => e = .returned (.bool true) ∧ w' = W := by
  have q1 : s.toList.isEmpty = false := by
    rw [List.isEmpty_eq_false_iff]
    intro e
    rw [Lib.toList_data] at e
    have : s.size = 0 := by
      have h2 : s.data.toList.length = s.size := by simp
      rw [e] at h2
      simpa using h2.symm
    omega
  go_enter Tryz.func59, Tryz.ntmps59
  go_wp2_with fail
  refine (isLetter_any s[0] W).mono ?_
  rw [hl]
  rintro e w1 ⟨rfl, hw⟩
  obtain rfl := hw.symm
  go_wp2
  go_ret
  exact ⟨rfl, rfl⟩
set_option maxRecDepth 100000 in
set_option maxHeartbeats 3200000 in
theorem take_letters (r : Nat) (s : ByteArray) (p a n : Nat) (W : World) (hr : RdAt r s p W) (hm : s.size ≤ 100000) (h : WdAt s p a n) (han : a < n) (hl : ∀ h : 0 < (s.extract a n).size, isLt (s.extract a n)[0] = true) :
    Calls Tryz.prog (58) #[.pointer (some ⟨r, 0, none⟩), .func (.func 59) #[] #[]] W fun e w' => e = .returned (.string (s.extract a n)) ∧ RdAt r s n w' ∧ RFr r W w' := by
  have HR : Hid _ := hr
  have hns := h.ns
  have hz : (s.extract a n).size = n - a := ext_size (by omega) hns
  have HL : Hid (0 < (s.extract a n).size) := (by show _ < _; omega)
  have HLL : Hid _ := hl
  have HW : Hid _ := h
  clear hr hl h
  obtain ⟨x, HX⟩ : ∃ x, Hid (s.extract a n = x) := ⟨_, rfl⟩
  go_enter Tryz.func58, Tryz.ntmps58
  go_wp2_with fail
  refine (next_any r s p a n _ W HR.out hm HW.out).mono ?_
  rintro e w1 ⟨rfl, hb1⟩
  have HB1 : Hid _ := hb1
  have HR1 : Hid (w1.heap[r]? = some (.cells #[.string s, .int .i64 (p : Nat), .nilIface] 60 (0, 0))) := blk_keep hb1 HR.out
  clear hb1
  have HIs : Hid _ := isLetters_any (s.extract a n) HL.out (HLL.out HL.out) w1
  rw [HX.out] at hz HIs ⊢
  obtain ⟨c0, c1, c2⟩ := row_three HR1.out
  obtain ⟨f0, f1, f2⟩ := row_threeF HR1.out
  have HV : Hid ((a : Int) + ((n - a : Nat) : Int) = ((n : Nat) : Int)) := (by show _ = _; omega)
  go_wp2_with fail
  refine Calls.mono HIs.out ?_
  rintro e w2 ⟨rfl, hw⟩
  obtain rfl := hw.symm
  go_wp2
  go_ret
  refine ⟨by rw [HX.out]; rfl, ?_, (RFr.of_below HB1.out).set⟩
  exact (row_setC HR1.out).trans (by show some (Obj.cells #[.string s, .int .i64 ((a : Int) + ((n - a : Nat) : Int)), .nilIface] 60 (0, 0)) = _; rw [HV.out])
end Go.Proofs.YtnfjpngmadoflaaGreatDoor
