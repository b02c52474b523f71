/-
  The walk of the law WireReads.
-/
import Derived.Test.YtfdcadlhapcddaaDoorRefRd
import Derived.Test.YtfdcadlhapcddaaDoorLaid8
namespace Go.Proofs.YtfdcadlhapcddaaDoor
open Go.RowKit
set_option maxHeartbeats 2000000 in
set_option maxRecDepth 100000 in
theorem reads_hit (s : ByteArray) (w : World) (A : Nat → Addr) (h : Errs w A) (hs : s.size ≤ 1000) (n k : Nat) (hr : Um.rdv s.data.toList 0 0 = (n, k)) (hk : 0 < k) :
    Calls Tryd.prog 4 #[.string s] w fun e w' => e = .returned (.bool true) ∧ Below w.heap.size w w' := by
  have hd1 : decide (1000 < (s.size : Int)) = false := by simp; omega
  have hm : s.size ≤ maxLen := by unfold maxLen; omega
  have hk0 : ((k : Int) == 0) = false := by simp; omega
  have HA : Hid (Errs w A) := h
  have HR : Hid (Um.rdv s.data.toList 0 0 = (n, k)) := hr
  clear h hr
  go_enter Tryd.func4, Tryd.ntmps4
  go_wp2_with fail
  refine (three_any _).mono ?_
  rintro e w1 ⟨rfl, hb1⟩
  go_wp2_with fail
  refine (readU_hit s _ _ n k hm ((HA.out.keep hb1).at_ 0 (by omega)).var HR.out hk).mono ?_
  rintro e w2 ⟨rfl, hb2⟩
  have k2 := hb1.trans (hb2.mono hb1.size)
  go_wp2_with fail
  refine (readV_hit s _ _ n k hm ((HA.out.keep k2).at_ 0 (by omega)).var HR.out hk).mono ?_
  rintro e w3 ⟨rfl, hb3⟩
  have k3 := k2.trans (hb3.mono k2.size)
  clear hb1 hb2 hb3 k2
  go_wp2_with fail
  refine (readSeven_any s _ hm).mono ?_
  rw [HR.out]
  rintro e w4 ⟨rfl, hw⟩
  subst hw
  go_wp2_with fail
  refine (readSigned_any s _ n k hm HR.out).mono ?_
  rintro e w5 ⟨rfl, hw⟩
  subst hw
  go_wp2
  go_ret
  exact ⟨rfl, k3⟩
set_option maxHeartbeats 2000000 in
set_option maxRecDepth 100000 in
theorem reads_miss (s : ByteArray) (w : World) (A : Nat → Addr) (h : Errs w A) (hs : s.size ≤ 1000) (hr : Um.rdv s.data.toList 0 0 = (0, 0)) :
    Calls Tryd.prog 4 #[.string s] w fun e w' => e = .returned (.bool true) ∧ Below w.heap.size w w' := by
  have hd1 : decide (1000 < (s.size : Int)) = false := by simp; omega
  have hm : s.size ≤ maxLen := by unfold maxLen; omega
  have HA : Hid (Errs w A) := h
  have HR : Hid (Um.rdv s.data.toList 0 0 = (0, 0)) := hr
  clear h hr
  go_enter Tryd.func4, Tryd.ntmps4
  go_wp2_with fail
  refine (three_any _).mono ?_
  rintro e w1 ⟨rfl, hb1⟩
  go_wp2_with fail
  refine (readU_miss s _ _ hm ((HA.out.keep hb1).at_ 0 (by omega)).var HR.out).mono ?_
  rintro e w2 ⟨rfl, hb2⟩
  have k2 := hb1.trans (hb2.mono hb1.size)
  go_wp2_with fail
  refine (readV_miss s _ _ _ hm ((HA.out.keep k2).at_ 0 (by omega)).var HR.out).mono ?_
  rintro e w3 ⟨rfl, hb3⟩
  have k3 := k2.trans (hb3.mono k2.size)
  clear hb1 hb2 hb3 k2
  go_wp2_with fail
  refine (readSeven_any s _ hm).mono ?_
  rw [HR.out]
  rintro e w4 ⟨rfl, hw⟩
  subst hw
  go_wp2_with fail
  refine (readSigned_any s _ 0 0 hm HR.out).mono ?_
  rintro e w5 ⟨rfl, hw⟩
  subst hw
  go_wp2_with fail
  refine (coded_sent _ A (HA.out.keep k3) 0 (by omega) 1 true rfl).mono ?_
  rintro e w6 ⟨rfl, hb6⟩
  have k6 := k3.trans (hb6.mono k3.size)
  go_wp2_with fail
  refine (coded_sent _ A (HA.out.keep k6) 0 (by omega) 1 true rfl).mono ?_
  rintro e w7 ⟨rfl, hb7⟩
  have k7 := k6.trans (hb7.mono k6.size)
  clear hb6 hb7 k6
  go_wp2
  go_ret
  exact ⟨rfl, k7⟩
set_option maxHeartbeats 1000000 in
theorem reads_none (s : ByteArray) (w : World) (hs : s.size ≤ maxLen) (h : 1000 < s.size) :
    Calls Tryd.prog 4 #[.string s] w fun e w' => e = .returned (.bool true) ∧ Below w.heap.size w w' := by
  unfold maxLen at hs
  have hd1 : decide (1000 < (s.size : Int)) = true := by simp; omega
  go_enter Tryd.func4, Tryd.ntmps4
  go_wp2_with (go_at_call 11; refine (three_any _).mono ?_; rintro e w1 ⟨rfl, hb1⟩)
  go_ret
  exact ⟨rfl, hb1⟩
/-- A reading of no bytes is of no number. -/
theorem rdv_zero (l : List UInt8) : ∀ (i n : Nat), (Um.rdv l i n).2 = 0 → Um.rdv l i n = (0, 0) := by
  induction l with
  | nil => intro i n _; rfl
  | cons b r ih =>
    intro i n h
    by_cases hi : 10 ≤ i
    · exact Um.rdv_ten _ _ hi
    · by_cases hb : b.toNat < 128
      · by_cases hw : (b.toNat = 0 ∧ 0 < i) ∨ (i = 9 ∧ 1 < b.toNat)
        · exact Um.rdv_bad hb hw
        · rw [Um.rdv_end (by omega) hb hw] at h
          simp at h
      · rw [Um.rdv_more (by omega) hb] at h ⊢
        exact ih _ _ h
theorem wireReads_walk (s : ByteArray) (w : World) (hs : s.size ≤ maxLen) (hL : laidMetH Tryd.prog Rows.wireReadsRow.laid w) :
    Calls Tryd.prog 4 #[.string s] w fun e w' => e = .returned (.bool true) ∧ Below w.heap.size w w' := by
  by_cases h : 1000 < s.size
  · exact reads_none s w hs h
  · obtain ⟨A, hA⟩ := errs_of hL
    by_cases hk : (Um.rdv s.data.toList 0 0).2 = 0
    · exact reads_miss s w A hA (by omega) (rdv_zero _ _ _ hk)
    · exact reads_hit s w A hA (by omega) _ _ rfl (by omega)
end Go.Proofs.YtfdcadlhapcddaaDoor
