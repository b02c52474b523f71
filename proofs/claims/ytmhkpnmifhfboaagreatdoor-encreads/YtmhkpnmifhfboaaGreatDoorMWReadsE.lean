/-
  The walk of the law EncReads.
-/
import Derived.Test.YtmhkpnmifhfboaaGreatDoorMBPrefVals
import Derived.Test.YtmhkpnmifhfboaaGreatDoorMBRefVals
namespace Go.Proofs.YtmhkpnmifhfboaaGreatDoor
open Go.RowKit
theorem isBs_len {kd code : Int} {l : List UInt8} {n : Nat} {vs : List Vl} (h : IsBs kd code l n vs) : vs.length = n := by
  unfold IsBs at h
  split at h
  · exact h.1
  · split at h
    · obtain ⟨us, e, ps, _, h2, h3⟩ := h
      rw [← h3.len.1]
      exact Um.runs_length h2
    · split at h
      · obtain ⟨xs, _, h2, h3, _⟩ := h
        rw [h3, kvs_len, h2]
      · obtain ⟨ss, h1, h2⟩ := h
        rw [h2, pvs_len]
        exact (Um.rdp_some _ _ _ _ h1).1
set_option maxRecDepth 100000 in
set_option maxHeartbeats 1600000 in
/-- A kind or a count that is none. -/
theorem encReads_none (kd code : Int) (s : ByteArray) (n : Int) (w : World) (A : Nat → Addr) (hE : Errs w A) (hs : s.size ≤ 1000) (hn : n ≤ 300 ∨ 20000 < n) (h : ¬ ((1 ≤ kd ∧ kd ≤ 5) ∧ 0 ≤ n ∧ n ≤ 20000)) :
    Calls Tryz.prog 3 #[.int .i64 kd, .int .i64 code, .string s, .int .i64 n] w fun e w' => e = .returned (.bool true) ∧ Below w.heap.size w w' := by
  have HA : Hid (Errs w A) := hE
  have HN : Hid (¬ ((1 ≤ kd ∧ kd ≤ 5) ∧ 0 ≤ n ∧ n ≤ 20000)) := h
  have hs2 : decide (1000 < (s.size : Int)) = false := by simp; omega
  have hcn : decide (300 < n) = false ∨ (decide (300 < n) = true ∧ decide (n ≤ 20000) = false) := by
    rcases hn with h | h
    · left; simp; omega
    · right; exact ⟨by simp; omega, by simp; omega⟩
  have hmc : (manyC kd n = 2 ∧ (1 ≤ kd ∧ kd ≤ 5)) ∨ (manyC kd n = 4 ∧ ¬ (1 ≤ kd ∧ kd ≤ 5)) := by
    unfold manyC
    by_cases hk : 1 ≤ kd ∧ kd ≤ 5
    · left
      rw [if_pos hk, if_neg (fun h2 => h ⟨hk, h2⟩)]
      exact ⟨rfl, hk⟩
    · right
      rw [if_neg hk]
      exact ⟨rfl, hk⟩
  obtain ⟨mc, HMC⟩ : ∃ mc, Hid (mc = manyC kd n) := ⟨_, rfl⟩
  rw [← HMC.out] at hmc
  clear hE h hn
  rcases hcn with q1 | ⟨q1, q2⟩
  all_goals
    go_enter Tryz.func3, Tryz.ntmps3
    go_wp2_with fail
    refine (four_any _ _ _ _ _ (ec HA.out 3 (by omega)) (ec HA.out 2 (by omega))).mono ?_
    rintro e w1 ⟨rfl, hb1⟩
    go_wp2_with fail
    refine (manyError_any kd n w1).mono ?_
    rintro e w2 ⟨rfl, hb2⟩
    rw [← HMC.out]
    have hb12 := hb1.trans (hb2.mono hb1.size)
    have hb13 : Below w.heap.size w (w2.alloc (.cells (rfl2 mc (-1)) 24)) := hb12.alloc hb12.size _
    have HE3 : Hid (Errs (w2.alloc (.cells (rfl2 mc (-1)) 24)) A) := HA.out.keep hb13
    have HRow : Hid ((w2.alloc (.cells (rfl2 mc (-1)) 24)).heap[w2.heap.size]? = some (.cells (rfl2 mc (-1)) 24 (0, 0))) := heap_alloc_new w2 _
    obtain ⟨⟨r0, r1⟩, _, _⟩ := row_two HRow.out
    go_wp2_with fail
    refine (readBestX_none kd code s n _ _ _ _ _ (ec HE3.out 3 (by omega)) (ec HE3.out 1 (by omega)) HN.out).mono ?_
    rcases hmc with ⟨rfl, hk⟩ | ⟨rfl, hk⟩
    · rw [if_pos hk]
      rintro e w4 ⟨rfl, hw⟩
      obtain rfl := hw.symm
      go_wp2_with fail
      refine (faulted_sent _ A HE3.out 1 (by omega) 2 (by omega)).mono ?_
      rintro e w5 ⟨rfl, hb5⟩
      go_wp2_with fail
      go_ret
      exact ⟨rfl, hb13.trans (hb5.mono hb13.size)⟩
    · rw [if_neg hk]
      rintro e w4 ⟨rfl, hw⟩
      obtain rfl := hw.symm
      go_wp2_with fail
      refine (faulted_sent _ A HE3.out 3 (by omega) 4 (by omega)).mono ?_
      rintro e w5 ⟨rfl, hb5⟩
      go_wp2_with fail
      go_ret
      exact ⟨rfl, hb13.trans (hb5.mono hb13.size)⟩
set_option maxRecDepth 100000 in
set_option maxHeartbeats 1600000 in
/-- A right kind and count. -/
theorem encReads_fine (kd code : Int) (s : ByteArray) (n : Nat) (w : World) (A : Nat → Addr) (hE : Errs w A) (hs : s.size ≤ 1000) (hn : n ≤ 300) (hk1 : 1 ≤ kd) (hk5 : kd ≤ 5) :
    Calls Tryz.prog 3 #[.int .i64 kd, .int .i64 code, .string s, .int .i64 (n : Nat)] w fun e w' => e = .returned (.bool true) ∧ Below w.heap.size w w' := by
  have HA : Hid (Errs w A) := hE
  have hs2 : decide (1000 < (s.size : Int)) = false := by simp; omega
  have hn2 : decide ((300 : Int) < (n : Int)) = false := by simp; omega
  have hn3 : ¬ 300 < n := by omega
  have HMC : Hid (manyC kd n = 0) := by
    show _ = _
    unfold manyC
    rw [if_pos ⟨hk1, hk5⟩, if_pos (by omega)]
  clear hE
  go_enter Tryz.func3, Tryz.ntmps3
  go_wp2_with fail
  refine (four_any _ _ _ _ _ (ec HA.out 3 (by omega)) (ec HA.out 2 (by omega))).mono ?_
  rintro e w1 ⟨rfl, hb1⟩
  go_wp2_with fail
  refine (manyError_any kd n w1).mono ?_
  rintro e w2 ⟨rfl, hb2⟩
  rw [HMC.out]
  have hb12 := hb1.trans (hb2.mono hb1.size)
  have hb13 : Below w.heap.size w (w2.alloc (.cells (rfl2 0 (-1)) 24)) := hb12.alloc hb12.size _
  have HE3 : Hid (Errs (w2.alloc (.cells (rfl2 0 (-1)) 24)) A) := HA.out.keep hb13
  have HRow : Hid ((w2.alloc (.cells (rfl2 0 (-1)) 24)).heap[w2.heap.size]? = some (.cells (rfl2 0 (-1)) 24 (0, 0))) := heap_alloc_new w2 _
  by_cases hc : HasC kd code
  · have HC : Hid (HasC kd code) := hc
    clear hc
    go_wp2_with fail
    refine (readBestX_hit kd code s n _ _ _ _ _ (ec HE3.out 0 (by omega)) (ec HE3.out 3 (by omega)) (by omega) (by omega) hk1 hk5 HC.out).mono ?_
    rintro e w4 ⟨⟨vs, a, c, hI, rfl, hl⟩ | ⟨hI, rfl⟩, hb4⟩
    · have HI : Hid (IsBs kd code s.data.toList n vs) := hI
      have HL : Hid (LiesV w4 a vs) := hl
      have hb14 := hb13.trans (hb4.mono hb13.size)
      obtain ⟨⟨r0, r1⟩, _, _⟩ := row_two (blk_keep hb4 HRow.out)
      clear hI hl
      go_wp2_with fail
      refine (bsOf_any kd code s n w4 hs (by omega) hk1 hk5).mono ?_
      rintro e w5 ⟨⟨_, us, a5, c5, hI5, rfl, hl5⟩ | ⟨_, hI5, rfl⟩ | ⟨hI5, rfl⟩, hb5⟩
      · obtain rfl := isBs_fn hI5 HI.out
        have HL5 : Hid (LiesV w5 a5 us) := hl5
        have HLa : Hid (LiesV w5 a us) := LiesV.keep HL.out hb5
        have hul : us.length = n := isBs_len HI.out
        have HUL : Hid (us.length = n) := hul
        have hb15 := hb14.trans (hb5.mono hb14.size)
        clear hI5 hl5 hul
        have hsv := sameVs_any w5 a a5 c c5 us us (by rw [HUL.out]; unfold maxLen; omega) HLa.out HL5.out
        rw [HUL.out] at hsv ⊢
        go_wp2_with fail
        refine hsv.mono ?_
        clear hsv
        rintro e w6 ⟨⟨b, rfl, hbt⟩, hb6⟩
        obtain rfl : b = true := by first | exact hbt.2 rfl | exact hbt.2 trivial
        clear hbt
        go_wp2_with fail
        go_ret
        exact ⟨rfl, hb15.trans (hb6.mono hb15.size)⟩
      · exact absurd ⟨vs, HI.out⟩ hI5
      · exact absurd HC.out hI5
    · have HI : Hid (¬ ∃ vs, IsBs kd code s.data.toList n vs) := hI
      have hb14 := hb13.trans (hb4.mono hb13.size)
      have HE4 : Hid (Errs w4 A) := HE3.out.keep hb4
      obtain ⟨⟨r0, r1⟩, _, _⟩ := row_two (blk_keep hb4 HRow.out)
      clear hI
      go_wp2_with fail
      refine (bsOf_any kd code s n w4 hs (by omega) hk1 hk5).mono ?_
      rintro e w5 ⟨⟨_, us, a5, c5, hI5, rfl, hl5⟩ | ⟨_, hI5, rfl⟩ | ⟨hI5, rfl⟩, hb5⟩
      · exact absurd ⟨us, hI5⟩ HI.out
      · have hb15 := hb14.trans (hb5.mono hb14.size)
        clear hI5
        go_wp2_with fail
        refine (coded_sent w5 A (HE4.out.keep hb5) 0 (by omega) 1 true (by decide)).mono ?_
        rintro e w6 ⟨rfl, hb6⟩
        go_wp2_with fail
        go_ret
        exact ⟨rfl, hb15.trans (hb6.mono hb15.size)⟩
      · exact absurd HC.out hI5
  · have HC : Hid (¬ HasC kd code) := hc
    clear hc
    go_wp2_with fail
    refine (readBestX_shape kd code s n _ _ _ (ec HE3.out 2 (by omega)) (by omega) hk1 hk5 HC.out).mono ?_
    rintro e w4 ⟨rfl, hb4⟩
    have hb14 := hb13.trans (hb4.mono hb13.size)
    have HE4 : Hid (Errs w4 A) := HE3.out.keep hb4
    obtain ⟨⟨r0, r1⟩, _, _⟩ := row_two (blk_keep hb4 HRow.out)
    go_wp2_with fail
    refine (bsOf_any kd code s n w4 hs (by omega) hk1 hk5).mono ?_
    rintro e w5 ⟨⟨hI5, _⟩ | ⟨hI5, _⟩ | ⟨_, rfl⟩, hb5⟩
    · exact absurd hI5 HC.out
    · exact absurd hI5 HC.out
    · have hb15 := hb14.trans (hb5.mono hb14.size)
      go_wp2_with fail
      refine (coded_sent w5 A (HE4.out.keep hb5) 2 (by omega) 3 true (by decide)).mono ?_
      rintro e w6 ⟨rfl, hb6⟩
      go_wp2_with fail
      go_ret
      exact ⟨rfl, hb15.trans (hb6.mono hb15.size)⟩
set_option maxRecDepth 100000 in
set_option maxHeartbeats 1600000 in
/-- Where the law says nothing. -/
theorem encReads_over (kd code : Int) (s : ByteArray) (n : Int) (w : World) (A : Nat → Addr) (hE : Errs w A) (_hm : s.size ≤ maxLen) (h : 1000 < s.size ∨ 300 < n ∧ n ≤ 20000) :
    Calls Tryz.prog 3 #[.int .i64 kd, .int .i64 code, .string s, .int .i64 n] w fun e w' => e = .returned (.bool true) ∧ Below w.heap.size w w' := by
  have HA : Hid (Errs w A) := hE
  have hcase : decide (1000 < (s.size : Int)) = true ∨ (decide (1000 < (s.size : Int)) = false ∧ decide (300 < n) = true ∧ decide (n ≤ 20000) = true) := by
    by_cases h1 : 1000 < s.size
    · left; simp; omega
    · right; exact ⟨by simp; omega, by simp; omega, by simp; omega⟩
  clear hE h
  rcases hcase with q1 | ⟨q1, q2, q3⟩
  all_goals
    go_enter Tryz.func3, Tryz.ntmps3
    go_wp2_with fail
    refine (four_any _ _ _ _ _ (ec HA.out 3 (by omega)) (ec HA.out 2 (by omega))).mono ?_
    rintro e w1 ⟨rfl, hb1⟩
    go_wp2
    go_ret
    exact ⟨rfl, hb1⟩
theorem encReads_top (kd code : Int) (s : ByteArray) (n : Int) (w : World) (hm : s.size ≤ maxLen) (hL : laidMetH Tryz.prog Rows.encReadsRow.laid w) :
    Calls Tryz.prog 3 #[.int .i64 kd, .int .i64 code, .string s, .int .i64 n] w fun e w' => e = .returned (.bool true) ∧ Below w.heap.size w w' := by
  obtain ⟨A, hE⟩ := errs_of hL
  by_cases h : 1000 < s.size ∨ 300 < n ∧ n ≤ 20000
  · exact encReads_over kd code s n w A hE hm h
  · by_cases h2 : (1 ≤ kd ∧ kd ≤ 5) ∧ 0 ≤ n ∧ n ≤ 20000
    · obtain ⟨m, rfl⟩ : ∃ m : Nat, n = (m : Int) := ⟨n.toNat, by omega⟩
      exact encReads_fine kd code s m w A hE (by omega) (by omega) h2.1.1 h2.1.2
    · exact encReads_none kd code s n w A hE (by omega) (by omega) h2
end Go.Proofs.YtmhkpnmifhfboaaGreatDoor
