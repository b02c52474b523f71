/-
  The walk of the law BitsTwice.
-/
import Derived.Test.YtgmglgepmdmmeaaDoorRuns
import Derived.Test.YtgmglgepmdmmeaaDoorTwiceRuns
import Derived.Test.YtgmglgepmdmmeaaDoorWRuns
import Derived.Test.YtgmglgepmdmmeaaDoorWBReads
namespace Go.Proofs.YtgmglgepmdmmeaaDoor
open Go.RowKit
set_option linter.unusedVariables false
theorem nats_back {k : Nat} {xs : List Int} (hr : ∀ j (h : j < xs.length), Room k xs[j]) : (nats xs).map (fun n : Nat => (n : Int)) = xs := by
  apply List.ext_getElem
  · simp [nats]
  · intro i h1 h2
    simp only [nats, List.getElem_map]
    exact Int.toNat_of_nonneg (hr i h2).1
theorem cat_bytes (l : List UInt8) (s : ByteArray) : ((⟨l.toArray⟩ : ByteArray) ++ s).data.toList = l ++ s.data.toList := by simp [ByteArray.data_append]
theorem cat_size (l : List UInt8) (s : ByteArray) : ((⟨l.toArray⟩ : ByteArray) ++ s).size = l.length + s.size := by
  rw [ByteArray.size_append]
  show l.toArray.size + s.size = _
  rw [List.size_toArray]
theorem wrs_len (k : Nat) (hk : k ≤ 32) : ∀ (m : Nat) (p r : List Int), r.length ≤ m → p.length + r.length ≤ 400 → (Um.wrs k p r).length ≤ 2000 * (m + 1) := by
  intro m
  induction m with
  | zero =>
    intro p r hm hl
    obtain rfl : r = [] := List.eq_nil_of_length_eq_zero (by omega)
    have := flush_len k p (by simpa using hl) hk
    rw [Um.wrs_nil]; omega
  | succ m ih =>
    intro p r hm hl
    by_cases h0 : r.length = 0
    · obtain rfl : r = [] := List.eq_nil_of_length_eq_zero h0
      have := flush_len k p (by simpa using hl) hk
      rw [Um.wrs_nil]; omega
    · by_cases h8 : Um.lead r < 8
      · rw [Um.wrs_short k p r (by omega) h8]
        have := ih (p ++ r.take 8) (r.drop 8) (by rw [List.length_drop]; omega) (by simp; omega)
        omega
      · have hlp := Um.lead_le r
        have h1 := flush_len k p (by omega) hk
        have h2 := Um.uv_ten (n := 2 * Um.lead r) (by omega)
        have h3 := ih [] (r.drop (Um.lead r)) (by rw [List.length_drop]; omega) (by simp; omega)
        rw [Um.wrs_long k p r h8, List.length_append, List.length_append, List.length_append, Um.lit_len]
        omega
set_option maxRecDepth 100000 in
set_option maxHeartbeats 1600000 in
theorem bitsTwice_none (a : Option Addr) (n c : Nat) (k : Int) (s : ByteArray) (w : World) (st : TypeId) (sp : Value) (hg : w.cell? ⟨2, 0, none⟩ = some (.iface st sp)) (hn : n ≤ maxLen) (hs : s.size ≤ maxLen) (h4 : 400 < n ∨ n ≤ 400 ∧ 100 < s.size) :
    Calls Tryd.prog 7 #[.slice a n c, .int .i64 k, .string s] w fun e w' => e = .returned (.bool true) ∧ Below w.heap.size w w' := by
  unfold maxLen at hn hs
  have HG : Hid (w.cell? ⟨2, 0, none⟩ = some (.iface st sp)) := hg
  clear hg
  rcases h4 with h4 | ⟨h4, h5⟩
  all_goals
    go_enter Tryd.func7, Tryd.ntmps7
    go_wp2_with (go_at_call 9; refine (nine_any _ _ _ HG.out).mono ?_; rintro e w1 ⟨rfl, hb1⟩)
    go_ret
    exact ⟨rfl, hb1⟩
set_option maxRecDepth 100000 in
set_option maxHeartbeats 1600000 in
theorem bitsTwice_bound (a : Option Addr) (c : Nat) (xs : List Int) (k : Int) (s : ByteArray) (w : World) (st sb : TypeId) (sp bp : Value) (hg : w.cell? ⟨2, 0, none⟩ = some (.iface st sp)) (hgb : w.cell? ⟨0, 0, none⟩ = some (.iface sb bp)) (h4 : xs.length ≤ 400) (hs : s.size ≤ 100) (hl : Lies w a (i64s xs)) (hk : ¬ (0 ≤ k ∧ k ≤ 32)) :
    Calls Tryd.prog 7 #[.slice a xs.length c, .int .i64 k, .string s] w fun e w' => e = .returned (.bool true) ∧ Below w.heap.size w w' := by
  have HG : Hid (w.cell? ⟨2, 0, none⟩ = some (.iface st sp)) := hg
  have HGB : Hid (w.cell? ⟨0, 0, none⟩ = some (.iface sb bp)) := hgb
  have HL : Hid (Lies w a (i64s xs)) := hl
  have HK : Hid (¬ (0 ≤ k ∧ k ≤ 32)) := hk
  clear hg hgb hl hk
  go_enter Tryd.func7, Tryd.ntmps7
  go_wp2_with fail
  refine (nine_any _ _ _ HG.out).mono ?_
  rintro e w1 ⟨rfl, hb1⟩
  go_wp2_with fail
  refine (ints_cap a c xs _ (by omega) (HL.out.keep hb1)).mono ?_
  rintro e w2 ⟨⟨a2, c2, hcap2, rfl, hl2⟩, hb2⟩
  have hb12 := hb1.trans (hb2.mono hb1.size)
  go_wp2_with fail
  refine (packF_bound a2 xs.length c2 k w2 _ _ (by unfold maxLen; omega) ((hb12.cell (World.block_lt_of_cell? w _ HGB.out)).trans HGB.out) (Or.inl (decide_eq_false HK.out))).mono ?_
  rintro e w3 ⟨rfl, hw⟩
  obtain rfl := hw.symm
  go_wp2_with fail
  refine (ints_cap a c xs _ (by omega) (HL.out.keep hb12)).mono ?_
  rintro e w4 ⟨⟨a4, c4, hcap4, rfl, hl4⟩, hb4⟩
  have hb14 := hb12.trans (hb4.mono hb12.size)
  go_wp2_with fail
  refine (runsF_bound a4 xs.length c4 k w4 _ _ (by unfold maxLen; omega) ((hb14.cell (World.block_lt_of_cell? w _ HGB.out)).trans HGB.out) (Or.inl (decide_eq_false HK.out))).mono ?_
  rintro e w5 ⟨rfl, hb5⟩
  have hb15 := hb14.trans (hb5.mono hb14.size)
  go_wp2_with fail
  go_region
  all_goals (try go_wp2_with fail)
  all_goals go_ret
  all_goals exact ⟨rfl, hb15.drew⟩
set_option maxRecDepth 100000 in
set_option maxHeartbeats 1600000 in
theorem bitsTwice_right (a : Option Addr) (c : Nat) (xs : List Int) (k : Nat) (s : ByteArray) (w : World) (st tt : TypeId) (sp tp : Value) (hg : w.cell? ⟨2, 0, none⟩ = some (.iface st sp)) (hgt : w.cell? ⟨1, 0, none⟩ = some (.iface tt tp)) (h4 : xs.length ≤ 400) (hs : s.size ≤ 100) (hl : Lies w a (i64s xs)) (hk : k ≤ 32)
    (hx : ∀ j (h : j < xs.length), -9223372036854775808 ≤ xs[j] ∧ xs[j] ≤ 9223372036854775807) :
    Calls Tryd.prog 7 #[.slice a xs.length c, .int .i64 k, .string s] w fun e w' => e = .returned (.bool true) ∧ Below w.heap.size w w' := by
  have HG : Hid (w.cell? ⟨2, 0, none⟩ = some (.iface st sp)) := hg
  have HGT : Hid (w.cell? ⟨1, 0, none⟩ = some (.iface tt tp)) := hgt
  have HL : Hid (Lies w a (i64s xs)) := hl
  have HX : Hid (∀ j (h : j < xs.length), -9223372036854775808 ≤ xs[j] ∧ xs[j] ≤ 9223372036854775807) := hx
  have hmul : k * xs.length ≤ 32 * 400 := Nat.mul_le_mul hk h4
  have hwl : (Um.wrs k [] xs).length ≤ 900000 := by have := wrs_len k hk xs.length [] xs (Nat.le_refl _) (by simp; omega); omega
  clear hg hgt hl hx
  go_enter Tryd.func7, Tryd.ntmps7
  go_wp2_with fail
  refine (nine_any _ _ _ HG.out).mono ?_
  rintro e w1 ⟨rfl, hb1⟩
  go_wp2_with fail
  refine (ints_cap a c xs _ (by omega) (HL.out.keep hb1)).mono ?_
  rintro e w2 ⟨⟨a2, c2, hcap2, rfl, hl2⟩, hb2⟩
  have hb12 := hb1.trans (hb2.mono hb1.size)
  go_wp2_with fail
  refine (packF_any a2 xs c2 k w2 _ _ (by omega) hk ((hb12.cell (World.block_lt_of_cell? w _ HG.out)).trans HG.out) HX.out (lies_ints hl2)).mono ?_
  rintro e w3 ⟨⟨rfl, hR⟩ | ⟨i, p, hi, rfl, _, hN, _, _⟩, hb3⟩
  · have HR : Hid (∀ j (h : j < xs.length), Room k xs[j]) := hR
    clear hR
    have hb13 := hb12.trans (hb3.mono hb12.size)
    go_wp2_with fail
    refine (ints_cap a c xs _ (by omega) (HL.out.keep hb13)).mono ?_
    rintro e w4 ⟨⟨a4, c4, hcap4, rfl, hl4⟩, hb4⟩
    have hb14 := hb13.trans (hb4.mono hb13.size)
    go_wp2_with fail
    refine (runsF_any a4 xs c4 k w4 _ _ (by omega) hcap4 hk ((hb14.cell (World.block_lt_of_cell? w _ HG.out)).trans HG.out) HX.out hl4).mono ?_
    rintro e w5 ⟨⟨rfl, _⟩ | ⟨i, p, hi, rfl, _, hN, _, _⟩, hb5⟩
    · have hb15 := hb14.trans (hb5.mono hb14.size)
      have hpl : (packed k xs).length ≤ 1601 := by unfold packed; rw [Um.lit_len]; omega
      have HPl : Hid ((packed k xs).length = (k * xs.length + 7) / 8) := by show _ = _; unfold packed; rw [Um.lit_len]
      have HUn : Hid (Um.unp (packed k xs ++ s.data.toList) k xs.length = nats xs) := by
        have h := Um.unp_packed k (nats xs) ((k * xs.length + 7) / 8) s.data.toList (nats_lt HR.out) (by rw [nats_len]; omega)
        rw [nats_len] at h
        exact h
      have HRn : Hid (Um.runs (Um.wrs k [] xs ++ s.data.toList) k xs.length = some (nats xs, (Um.wrs k [] xs).length)) := by
        have h := Um.wrs_read k xs.length [] xs s.data.toList (Nat.le_refl _) (Or.inr rfl) (by intro x hx; simp [nats] at hx) (nats_lt HR.out) (by simp; omega)
        rw [List.length_nil, Nat.zero_add, List.nil_append] at h
        exact h
      generalize hpk : packed k xs = pk at hpl HPl HUn
      generalize hwk : Um.wrs k [] xs = wk at hwl HRn
      clear hpk hwk
      have HSz1 : Hid (((⟨pk.toArray⟩ : ByteArray) ++ s).size = pk.length + s.size) := cat_size pk s
      have HSz2 : Hid (((⟨wk.toArray⟩ : ByteArray) ++ s).size = wk.length + s.size) := cat_size wk s
      go_wp2_with fail
      refine (unpackF_ok ((⟨pk.toArray⟩ : ByteArray) ++ s) k xs.length w5 (by rw [HSz1.out]; omega) hk (by omega) (by rw [HSz1.out, HPl.out]; omega)).mono ?_
      rintro e w6 ⟨⟨g, hgg, rfl, hc6⟩, hb6⟩
      have hb16 := hb15.trans (hb6.mono hb15.size)
      have HL6 : Hid (Lies w6 (some ⟨g, 0, none⟩) (i64s xs)) := fun j hj => by
        rw [i64s_len] at hj
        refine ⟨g, 0, rfl, ?_⟩
        rw [Nat.zero_add, hc6 j hj, cat_bytes, ← Um.unp_get _ _ xs.length j hj]
        have e : (Um.unp (pk ++ s.data.toList) k xs.length)[j]'(by rw [Um.unp_len]; exact hj) = (nats xs)[j]'(by rw [nats_len]; exact hj) := by
          congr 1
        rw [e, nats_get xs j hj, Int.toNat_of_nonneg (HR.out j hj).1]
        simp [i64s]
      clear hc6
      go_wp2_with fail
      refine (readRuns_any ((⟨wk.toArray⟩ : ByteArray) ++ s) k xs.length w6 _ _ (by rw [HSz2.out]; omega) hk (by omega) ((hb16.cell (World.block_lt_of_cell? w _ HGT.out)).trans HGT.out)).mono ?_
      rw [cat_bytes, HRn.out]
      rintro e w7 ⟨⟨a7, c7, rfl, hl7⟩, hb7⟩
      have hb17 := hb16.trans (hb7.mono hb16.size)
      rw [nats_back HR.out] at hl7
      have HL7 : Hid (Lies w7 a7 (i64s xs)) := hl7
      have HL67 : Hid (Lies w7 (some ⟨g, 0, none⟩) (i64s xs)) := HL6.out.keep hb7
      rw [nats_len]
      clear hl7
      go_wp2_with fail
      refine (sameInts_lies w7 (some ⟨g, 0, none⟩) a xs.length c xs xs.length xs.length rfl rfl (by unfold maxLen; omega) HL67.out (HL.out.keep hb17)).mono ?_
      rintro e w8 ⟨rfl, hb8⟩
      have hb18 := hb17.trans (hb8.mono hb17.size)
      go_wp2_with fail
      refine (sameInts_lies w8 a7 a c7 c xs xs.length xs.length rfl rfl (by unfold maxLen; omega) (HL7.out.keep hb8) (HL.out.keep hb18)).mono ?_
      rintro e w9 ⟨rfl, hb9⟩
      go_wp2_with fail
      go_ret
      exact ⟨by simp, hb18.trans (hb9.mono hb18.size)⟩
    · exact absurd (HR.out i hi) hN
  · have HN : Hid (¬ Room k xs[i]) := hN
    clear hN
    have hb13 := hb12.trans (hb3.mono hb12.size)
    go_wp2_with fail
    refine (ints_cap a c xs _ (by omega) (HL.out.keep hb13)).mono ?_
    rintro e w4 ⟨⟨a4, c4, hcap4, rfl, hl4⟩, hb4⟩
    have hb14 := hb13.trans (hb4.mono hb13.size)
    go_wp2_with fail
    refine (runsF_any a4 xs c4 k w4 _ _ (by omega) hcap4 hk ((hb14.cell (World.block_lt_of_cell? w _ HG.out)).trans HG.out) HX.out hl4).mono ?_
    rintro e w5 ⟨⟨rfl, hall⟩ | ⟨i2, p2, hi2, rfl, _, _, _, _⟩, hb5⟩
    · exact absurd (hall i hi) HN.out
    · have hb15 := hb14.trans (hb5.mono hb14.size)
      go_wp2_with fail
      go_region
      all_goals (try go_wp2_with fail)
      all_goals go_ret
      all_goals exact ⟨rfl, hb15.drew⟩
end Go.Proofs.YtgmglgepmdmmeaaDoor
