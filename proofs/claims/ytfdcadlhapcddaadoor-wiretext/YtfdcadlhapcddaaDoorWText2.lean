/-
  The walk of the law WireText.
-/
import Derived.Test.YtfdcadlhapcddaaDoorWText
import Derived.Test.YtfdcadlhapcddaaDoorWReads
namespace Go.Proofs.YtfdcadlhapcddaaDoor
open Go.RowKit
set_option maxHeartbeats 2000000 in
set_option maxRecDepth 100000 in
theorem text_hit (a s : ByteArray) (w : World) (A : Nat → Addr) (h : Errs w A) (ha : a.size ≤ 2000) (hs : s.size ≤ 2000) (n k : Nat) (hr : Um.rdv s.data.toList 0 0 = (n, k)) (hk : 0 < k) (hf : k + n ≤ s.size) :
    Calls Tryd.prog 6 #[.string a, .string s] w fun e w' => e = .returned (.bool true) ∧ Below w.heap.size w w' := by
  have hd1 : decide (2000 < (a.size : Int)) = false := by simp; omega
  have hd2 : decide (2000 < (s.size : Int)) = false := by simp; omega
  have hk0 : ((k : Int) + (n : Int) == 0) = false := by simp; omega
  have HA : Hid (Errs w A) := h
  have HR : Hid (Um.rdv s.data.toList 0 0 = (n, k)) := hr
  clear h hr
  go_enter Tryd.func6, Tryd.ntmps6
  go_wp2_with fail
  refine (three_any _).mono ?_
  rintro e w1 ⟨rfl, hb1⟩
  go_wp2_with fail
  refine (readT_hit s _ _ n k (by omega) ((HA.out.keep hb1).at_ 0 (by omega)).var HR.out hk (by omega) hf).mono ?_
  rintro e w2 ⟨rfl, hb2⟩
  have k2 := hb1.trans (hb2.mono hb1.size)
  go_wp2_with fail
  refine (readLong_hit s _ n k hs HR.out hk hf).mono ?_
  rintro e w3 ⟨rfl, hw⟩
  subst hw
  clear hb1 hb2
  go_wp2_with fail
  refine (text_any a _ (by omega)).mono ?_
  rintro e w4 ⟨rfl, hb4⟩
  have k4 := k2.trans (hb4.mono k2.size)
  go_wp2_with fail
  refine (long_any a _ (by omega)).mono ?_
  rintro e w5 ⟨rfl, hb5⟩
  have k5 := k4.trans (hb5.mono k4.size)
  clear hb4 hb5 k2 k4
  go_wp2
  go_ret
  exact ⟨rfl, k5⟩
set_option maxHeartbeats 2000000 in
set_option maxRecDepth 100000 in
theorem text_miss (a s : ByteArray) (w : World) (A : Nat → Addr) (h : Errs w A) (ha : a.size ≤ 2000) (hs : s.size ≤ 2000) (n k : Nat) (hr : Um.rdv s.data.toList 0 0 = (n, k)) (hf : k = 0 ∨ s.size < k + n) :
    Calls Tryd.prog 6 #[.string a, .string s] w fun e w' => e = .returned (.bool true) ∧ Below w.heap.size w w' := by
  have hd1 : decide (2000 < (a.size : Int)) = false := by simp; omega
  have hd2 : decide (2000 < (s.size : Int)) = false := by simp; omega
  have HA : Hid (Errs w A) := h
  have HR : Hid (Um.rdv s.data.toList 0 0 = (n, k)) := hr
  have HT : Hid (∀ W : World, Errs W A → Calls Tryd.prog 20 #[.string s] W fun e w' => e = .returned (.tuple #[.string ⟨#[]⟩, .int .i64 0, errV (A 0)]) ∧ Below W.heap.size W w') := fun W hW => by
    by_cases hk : k = 0
    · have hz := rdv_zero s.data.toList 0 0 (by rw [hr]; exact hk)
      exact readT_none s W _ _ (by unfold maxLen; omega) (hW.at_ 0 (by omega)).var hz
    · exact readT_long s W _ n k hs (hW.at_ 0 (by omega)).var hr (by omega) (by omega)
  have HF : Hid (k = 0 ∨ s.size < k + n) := hf
  clear h hr hf
  go_enter Tryd.func6, Tryd.ntmps6
  go_wp2_with fail
  refine (three_any _).mono ?_
  rintro e w1 ⟨rfl, hb1⟩
  go_wp2_with fail
  refine (HT.out _ (HA.out.keep hb1)).mono ?_
  rintro e w2 ⟨rfl, hb2⟩
  have k2 := hb1.trans (hb2.mono hb1.size)
  go_wp2_with fail
  refine (readLong_miss s _ n k hs HR.out HF.out).mono ?_
  rintro e w3 ⟨rfl, hw⟩
  subst hw
  clear hb1 hb2
  go_wp2_with fail
  refine (text_any a _ (by omega)).mono ?_
  rintro e w4 ⟨rfl, hb4⟩
  have k4 := k2.trans (hb4.mono k2.size)
  go_wp2_with fail
  refine (long_any a _ (by omega)).mono ?_
  rintro e w5 ⟨rfl, hb5⟩
  have k5 := k4.trans (hb5.mono k4.size)
  clear hb4 hb5 k2 k4
  go_wp2_with fail
  refine (coded_sent _ A (HA.out.keep k5) 0 (by omega) 1 true rfl).mono ?_
  rintro e w6 ⟨rfl, hb6⟩
  have k6 := k5.trans (hb6.mono k5.size)
  clear hb6 k5
  go_wp2
  go_ret
  exact ⟨rfl, k6⟩
set_option maxHeartbeats 1000000 in
theorem text_none (a s : ByteArray) (w : World) (ha : a.size ≤ maxLen) (hs : s.size ≤ maxLen) (h : 2000 < a.size ∨ 2000 < s.size) :
    Calls Tryd.prog 6 #[.string a, .string s] w fun e w' => e = .returned (.bool true) ∧ Below w.heap.size w w' := by
  unfold maxLen at hs ha
  by_cases h1 : 2000 < a.size
  · have hd1 : decide (2000 < (a.size : Int)) = true := by simp; omega
    clear h
    go_enter Tryd.func6, Tryd.ntmps6
    go_wp2_with (go_at_call 11; refine (three_any _).mono ?_; rintro e w1 ⟨rfl, hb1⟩)
    go_ret
    exact ⟨rfl, hb1⟩
  · have hd1 : decide (2000 < (a.size : Int)) = false := by simp; omega
    have hd2 : decide (2000 < (s.size : Int)) = true := by simp; omega
    clear h
    go_enter Tryd.func6, Tryd.ntmps6
    go_wp2_with (go_at_call 11; refine (three_any _).mono ?_; rintro e w1 ⟨rfl, hb1⟩)
    go_ret
    exact ⟨rfl, hb1⟩
theorem wireText_walk (a s : ByteArray) (w : World) (ha : a.size ≤ maxLen) (hs : s.size ≤ maxLen) (hL : laidMetH Tryd.prog Rows.wireTextRow.laid w) :
    Calls Tryd.prog 6 #[.string a, .string s] w fun e w' => e = .returned (.bool true) ∧ Below w.heap.size w w' := by
  by_cases h : 2000 < a.size ∨ 2000 < s.size
  · exact text_none a s w ha hs h
  · obtain ⟨A, hA⟩ := errs_of hL
    by_cases hf : (Um.rdv s.data.toList 0 0).2 = 0 ∨ s.size < (Um.rdv s.data.toList 0 0).2 + (Um.rdv s.data.toList 0 0).1
    · exact text_miss a s w A hA (by omega) (by omega) _ _ rfl hf
    · exact text_hit a s w A hA (by omega) (by omega) _ _ rfl (by omega) (by omega)
end Go.Proofs.YtfdcadlhapcddaaDoor
