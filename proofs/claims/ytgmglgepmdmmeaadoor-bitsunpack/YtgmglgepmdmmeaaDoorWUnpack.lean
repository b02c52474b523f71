/-
  The walk of the law BitsUnpack.
-/
import Derived.Test.YtgmglgepmdmmeaaDoorUnpackF
import Derived.Test.YtgmglgepmdmmeaaDoorRefErr
import Derived.Test.YtgmglgepmdmmeaaDoorLaid8
import Derived.OpenShut
namespace Go.Proofs.YtgmglgepmdmmeaaDoor
open Go.RowKit
theorem err_cell {w : World} {A : Nat → Addr} (h : Errs w A) (i : Nat) (hi : i < 8) : w.cell? ⟨errG i, 0, none⟩ = some (errV (A i)) := (h.at_ i hi).var
set_option maxRecDepth 100000 in
set_option maxHeartbeats 1600000 in
theorem bitsUnpack_none (s : ByteArray) (k n : Int) (w : World) (A : Nat → Addr) (h : Errs w A) (hs : s.size ≤ maxLen) (h4 : 1000 < s.size ∨ s.size ≤ 1000 ∧ 400 < n ∧ n ≤ 20000) :
    Calls Tryd.prog 5 #[.string s, .int .i64 k, .int .i64 n] w fun e w' => e = .returned (.bool true) ∧ Below w.heap.size w w' := by
  unfold maxLen at hs
  have HA : Hid (Errs w A) := h
  clear h
  rcases h4 with h4 | ⟨h4, h5, h6⟩
  all_goals
    go_enter Tryd.func5, Tryd.ntmps5
    go_wp2_with (go_at_call 9; refine (nine_any _ _ _ (err_cell HA.out 2 (by omega))).mono ?_; rintro e w1 ⟨rfl, hb1⟩)
    go_ret
    exact ⟨rfl, hb1⟩
set_option maxRecDepth 100000 in
set_option maxHeartbeats 1600000 in
theorem bitsUnpack_bound (s : ByteArray) (k n : Int) (w : World) (A : Nat → Addr) (h : Errs w A) (hs : s.size ≤ 1000) (hn : ¬ (400 < n ∧ n ≤ 20000)) (hk : ¬ (0 ≤ k ∧ k ≤ 32) ∨ (0 ≤ k ∧ k ≤ 32) ∧ ¬ (0 ≤ n ∧ n ≤ 20000)) :
    Calls Tryd.prog 5 #[.string s, .int .i64 k, .int .i64 n] w fun e w' => e = .returned (.bool true) ∧ Below w.heap.size w w' := by
  have HA : Hid (Errs w A) := h
  have HK : Hid (decide (0 ≤ k ∧ k ≤ 32) = false ∨ decide (0 ≤ k ∧ k ≤ 32) = true ∧ decide (0 ≤ n ∧ n ≤ 20000) = false) := by
    rcases hk with h | ⟨h, h'⟩
    · exact Or.inl (decide_eq_false h)
    · exact Or.inr ⟨decide_eq_true h, decide_eq_false h'⟩
  have hs1 : (decide ((1000 : Int) < s.size)) = false := by simp; omega
  have hc1 : decide (400 < n) = false ∨ decide (400 < n) = true ∧ decide (n ≤ 20000) = false := by
    by_cases h : 400 < n
    · exact Or.inr ⟨decide_eq_true h, decide_eq_false (by omega)⟩
    · exact Or.inl (decide_eq_false h)
  have hc2 : decide (k < 0) = true ∨ (decide (k < 0) = false ∧ decide (32 < k) = true) ∨ (decide (k < 0) = false ∧ decide (32 < k) = false ∧ decide (n < 0) = true) ∨ (decide (k < 0) = false ∧ decide (32 < k) = false ∧ decide (n < 0) = false ∧ decide (20000 < n) = true) := by
    by_cases h1 : k < 0
    · exact Or.inl (decide_eq_true h1)
    · by_cases h2 : 32 < k
      · exact Or.inr (Or.inl ⟨decide_eq_false h1, decide_eq_true h2⟩)
      · by_cases h3 : n < 0
        · exact Or.inr (Or.inr (Or.inl ⟨decide_eq_false h1, decide_eq_false h2, decide_eq_true h3⟩))
        · exact Or.inr (Or.inr (Or.inr ⟨decide_eq_false h1, decide_eq_false h2, decide_eq_false h3, decide_eq_true (by omega)⟩))
  clear h hk hn hs
  go_enter Tryd.func5, Tryd.ntmps5
  go_wp2_with fail
  refine (nine_any _ _ _ (err_cell HA.out 2 (by omega))).mono ?_
  rintro e w1 ⟨rfl, hb1⟩
  have hE1 := HA.out.keep hb1
  rcases hc1 with q | ⟨q, q'⟩
  all_goals
    go_wp2_with fail
    refine (unpackF_bound s k n w1 _ _ (err_cell hE1 1 (by omega)) HK.out).mono ?_
    rintro e w2 ⟨rfl, hb2⟩
    have hb12 := hb1.trans (hb2.mono hb1.size)
    have hE2 := hE1.keep hb2
    rcases hc2 with r1 | ⟨r1, r2⟩ | ⟨r1, r2, r3⟩ | ⟨r1, r2, r3, r4⟩
    all_goals
      go_wp2_with fail
      refine (coded_sent w2 A hE2 1 (by omega) 2 true (by decide)).mono ?_
      rintro e w3 ⟨rfl, hb3⟩
      go_wp2_with fail
      go_ret
      exact ⟨rfl, hb12.trans (hb3.mono hb12.size)⟩
set_option maxRecDepth 100000 in
set_option maxHeartbeats 1600000 in
theorem bitsUnpack_right (s : ByteArray) (k n : Nat) (w : World) (A : Nat → Addr) (h : Errs w A) (hs : s.size ≤ 1000) (hk : k ≤ 32) (hn : n ≤ 400) :
    Calls Tryd.prog 5 #[.string s, .int .i64 k, .int .i64 n] w fun e w' => e = .returned (.bool true) ∧ Below w.heap.size w w' := by
  have HA : Hid (Errs w A) := h
  clear h
  go_enter Tryd.func5, Tryd.ntmps5
  go_wp2_with fail
  refine (nine_any _ _ _ (err_cell HA.out 2 (by omega))).mono ?_
  rintro e w1 ⟨rfl, hb1⟩
  have hE1 := HA.out.keep hb1
  go_wp2_with fail
  by_cases hsh : 8 * s.size < k * n
  · have HS : Hid (8 * s.size < k * n) := hsh
    clear hsh
    refine (unpackF_short s k n w1 _ _ (by omega) hk (by omega) (err_cell hE1 0 (by omega)) HS.out).mono ?_
    rintro e w2 ⟨rfl, hb2⟩
    have hb12 := hb1.trans (hb2.mono hb1.size)
    have hE2 := hE1.keep hb2
    go_wp2_with fail
    refine (unpackOf_any s k n w2 (by omega) hk (by omega)).mono ?_
    rintro e w3 ⟨⟨hx, _⟩ | ⟨_, rfl⟩, hb3⟩
    · exact absurd HS.out (by omega)
    have hb13 := hb12.trans (hb3.mono hb12.size)
    have hE3 := hE2.keep hb3
    go_wp2_with fail
    refine (coded_sent w3 A hE3 0 (by omega) 1 true (by decide)).mono ?_
    rintro e w4 ⟨rfl, hb4⟩
    go_wp2_with fail
    go_ret
    exact ⟨rfl, hb13.trans (hb4.mono hb13.size)⟩
  · have HS : Hid (¬ 8 * s.size < k * n) := hsh
    clear hsh
    refine (unpackF_ok s k n w1 (by omega) hk (by omega) (by have := HS.out; omega)).mono ?_
    rintro e w2 ⟨⟨g, hg, rfl, hc⟩, hb2⟩
    have hb12 := hb1.trans (hb2.mono hb1.size)
    have HC : Hid (∀ j, j < n → w2.cell? ⟨g, j, none⟩ = some (.int .i64 ((Um.lev s.data.toList / 2 ^ (k * j) % 2 ^ k : Nat) : Int))) := hc
    clear hc
    go_wp2_with fail
    refine (unpackOf_any s k n w2 (by omega) hk (by omega)).mono ?_
    rintro e w3 ⟨⟨_, a3, c3, rfl, hl3⟩ | ⟨hx, _⟩, hb3⟩
    rotate_left
    · exact absurd hx HS.out
    have hb13 := hb12.trans (hb3.mono hb12.size)
    have HL : Hid (∀ j, j < n → ∃ b o, a3 = some ⟨b, o, none⟩ ∧ w3.cell? ⟨b, o + j, none⟩ = some (.int .u64 ((Um.lev s.data.toList / 2 ^ (k * j) % 2 ^ k : Nat) : Int))) := fun j hj => by
      obtain ⟨b, o, e, hc⟩ := hl3 j (by rw [u64s_len, Um.unp_len]; exact hj)
      refine ⟨b, o, e, ?_⟩
      rw [hc]
      simp only [u64s, List.getElem_map]
      rw [Um.unp_get _ _ _ _ hj]
    clear hl3
    go_wp2_with fail
    go_loopw [12] (fun x wr => ∃ i : Nat, i ≤ n ∧ x = .int .i64 i ∧ Below w3.heap.size w3 wr) (fun x _ => n - (intOf x).toNat)
    case atStart => exact ⟨0, Nat.zero_le _, rfl, Below.refl _ _⟩
    case round =>
      obtain ⟨i, hin, rfl, hb⟩ := hrel
      by_cases hlt : i < n
      · have d1 := HC.out i hlt
        have d1 := (hb3.cell (World.block_lt_of_cell? w2 _ d1)).trans d1
        have d1 := (hb.cell (World.block_lt_of_cell? w3 _ d1)).trans d1
        obtain ⟨b, o, rfl, d2⟩ := HL.out i hlt
        have d2 := (hb.cell (World.block_lt_of_cell? w3 _ d2)).trans d2
        have hml : Um.lev s.data.toList / 2 ^ (k * i) % 2 ^ k < 4294967296 := Nat.lt_of_lt_of_le (Nat.mod_lt _ (Nat.two_pow_pos _)) (Nat.le_trans (Nat.pow_le_pow_right (n := 2) (by omega) hk) (by decide))
        generalize Um.lev s.data.toList / 2 ^ (k * i) % 2 ^ k = v at d1 d2 hml
        go_wp2_with fail
        go_region
        all_goals (try go_wp2_with fail)
        all_goals go_roundw
        all_goals first
          | (exact ⟨i + 1, by omega, by go_num, hb.drew⟩)
          | (simp [intOf]; omega)
      · go_wp2_with fail
        go_ret
        exact ⟨rfl, hb13.trans (hb.mono hb13.size)⟩
theorem bitsUnpack_top (s : ByteArray) (k n : Int) (w : World) (hs : s.size ≤ maxLen) (hL : laidMetH Tryd.prog Rows.bitsUnpackRow.laid w) :
    Calls Tryd.prog 5 #[.string s, .int .i64 k, .int .i64 n] w fun e w' => e = .returned (.bool true) ∧ Below w.heap.size w w' := by
  obtain ⟨A, hE⟩ := errs_of hL
  by_cases h4 : 1000 < s.size ∨ s.size ≤ 1000 ∧ 400 < n ∧ n ≤ 20000
  · exact bitsUnpack_none s k n w A hE hs h4
  · by_cases hk : 0 ≤ k ∧ k ≤ 32
    · by_cases hn : 0 ≤ n ∧ n ≤ 20000
      · obtain ⟨k', rfl⟩ : ∃ m : Nat, k = m := ⟨k.toNat, by omega⟩
        obtain ⟨n', rfl⟩ : ∃ m : Nat, n = m := ⟨n.toNat, by omega⟩
        exact bitsUnpack_right s k' n' w A hE (by omega) (by omega) (by omega)
      · exact bitsUnpack_bound s k n w A hE (by omega) (by omega) (Or.inr ⟨hk, hn⟩)
    · exact bitsUnpack_bound s k n w A hE (by omega) (by omega) (Or.inl hk)
end Go.Proofs.YtgmglgepmdmmeaaDoor
