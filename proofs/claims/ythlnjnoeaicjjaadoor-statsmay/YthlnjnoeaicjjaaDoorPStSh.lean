/-
  stats.shortFrom, leastFrom, greatestTo, walked.
-/
import Derived.Test.YthlnjnoeaicjjaaDoorPStLf
import Derived.Test.YthlnjnoeaicjjaaDoorPBBase
import Derived.BigRegion
import Derived.RegionTactic
import Derived.Deep.QuietTactic
import Derived.BigQuiet
namespace Go.Proofs.YthlnjnoeaicjjaaDoor
open Go.RowKit
set_option maxRecDepth 100000 in
set_option maxHeartbeats 1600000 in
theorem shortFrom_any (s : ByteArray) (W : World) (hs : s.size ≤ maxLen) : Calls Tryd.prog 34 #[.string s] W fun e w' => (∃ r, e = .returned (.string r) ∧ (s.size ≤ 100 → r = s)) ∧ Below W.heap.size W w' := by
  unfold maxLen at hs
  go_enter Tryd.func34, Tryd.ntmps34
  rcases Decidable.em (s.size ≤ 100) with h | h
  · have q : decide ((s.size : Int) ≤ 100) = true := by rw [decide_eq_true_iff]; omega
    go_wp2
    go_ret
    exact ⟨⟨s, rfl, fun _ => rfl⟩, Below.refl _ _⟩
  · have q : decide ((s.size : Int) ≤ 100) = false := by rw [decide_eq_false_iff_not]; omega
    have HN : Hid (¬ s.size ≤ 100) := h
    go_wp2
    go_loop [3] (fun x => ∃ n : Nat, n ≤ 100 ∧ x = .int .i64 n) (fun x => (intOf x).toNat)
    case atStart => exact ⟨100, Nat.le_refl _, rfl⟩
    case round =>
      obtain ⟨n, hn, rfl⟩ := hrel
      rcases Nat.eq_zero_or_pos n with h0 | h0
      · subst h0
        go_wp2
        go_ret
        exact ⟨⟨s, rfl⟩, Below.refl _ _⟩
      · have hlt : n - 1 < s.size := by omega
        obtain ⟨m, rfl⟩ : ∃ m, n = m + 1 := ⟨n - 1, by omega⟩
        have hw : IntKind.i64.wrap (((m + 1 : Nat) : Int) - 1) = (m : Int) := by rw [IntKind.wrap_i64]; omega
        go_wp2_with fail
        · have hcv : ∀ n, (convert 90 9 (.slice (some ⟨W.heap.size, 0, none⟩) 1 1)).run Tryd.prog (W.alloc (.cells #[.int .u8 n] 5)).drew = .ok (.string ⟨#[Um.bt n]⟩) (W.alloc (.cells #[.int .u8 n] 5)).drew := fun n => byte_conv W.drew n
          go_region
          all_goals
            go_wp2
            go_ret
            exact ⟨⟨_, rfl, fun h => absurd h HN.out⟩, ((Below.refl _ _).alloc (Nat.le_refl _) _).drew⟩
        · go_round
          case rel => exact ⟨m, by omega, rfl⟩
          case measure => simp [intOf]
theorem ok_empty {v : Vl} (h : okV v.k v.k v.n v.s.size = true) (h4 : v.k ≠ 4) : (⟨v.k, v.n, ⟨#[]⟩⟩ : Vl) = v := by
  have h2 := okV_iff.1 h
  have hz : v.s.size = 0 := by unfold OkV at h2; omega
  obtain ⟨k, n, s⟩ := v
  obtain ⟨d⟩ := s
  have : d.size = 0 := hz
  have e : d = #[] := Array.eq_empty_of_size_eq_zero this
  subst e
  rfl
theorem bl_nil (x : List UInt8) : Op.bytesLess x [] = false := by cases x <;> rfl
theorem fst_ok {v : Vl} (hl : v.Low) (h : okV v.k v.k v.n v.s.size = true) : lss v (fstV v.k) = false := by
  have h2 := okV_iff.1 h
  unfold OkV at h2
  unfold Vl.Low at hl
  obtain ⟨k, n, s⟩ := v
  simp only at h2 hl ⊢
  unfold lss vless fstV tot
  rcases h2 with ⟨_, ⟨rfl, _, h3⟩ | ⟨rfl, _, h3⟩ | ⟨rfl | rfl, _⟩ | ⟨rfl, _⟩⟩
  · simp; omega
  · simp; omega
  · simp; omega
  · simp; split <;> omega
  · simp [bl_nil]
theorem fstV_low (k : Int) : (fstV k).Low := by unfold Vl.Low fstV; simp only; split <;> (try split) <;> (try split) <;> omega
set_option maxRecDepth 100000 in
set_option maxHeartbeats 3200000 in
theorem leastFrom_any (v : Vl) (W : World) (hl : v.Low) (hs : v.s.size ≤ maxLen) : Calls Tryd.prog 22 #[.agg #[.int .i64 v.k, .int .i64 v.n, .string v.s]] W fun e w' => (∃ x : Vl, e = .returned (.agg #[.int .i64 x.k, .int .i64 x.n, .string x.s]) ∧ x.Low ∧ (okV v.k v.k v.n v.s.size = true → x = v)) ∧ Below W.heap.size W w' := by
  obtain ⟨w0, HW0, HX, HY, HB⟩ := two_boxes W #[.int .i64 v.k, .int .i64 v.n, .string v.s] #[.int .i64 0, .int .i64 0, .string ⟨#[]⟩] 23 23
  obtain ⟨x0, x1, x2⟩ := row_three HX.out
  go_enter Tryd.func22, Tryd.ntmps22
  go_wp2_with fail
  rw [HW0.out]
  refine (firstOf_any v.k w0).mono ?_
  rintro e w1 ⟨rfl, hb1⟩
  obtain ⟨f, HF⟩ : ∃ f, Hid (fstV v.k = f) := ⟨_, rfl⟩
  rw [HF.out]
  have hfl : f.Low := by rw [← HF.out]; exact fstV_low _
  have HB2 : Hid (Below w0.heap.size w0 (w1.alloc (.cells #[.int .i64 f.k, .int .i64 f.n, .string f.s] 23))) := hb1.alloc hb1.size _
  have HF2 : Hid _ := heap_alloc_new w1 (.cells #[.int .i64 f.k, .int .i64 f.n, .string f.s] 23)
  have HX2 : Hid _ := blk_keep HB2.out HX.out
  have HY2 : Hid _ := blk_keep HB2.out HY.out
  have HB3 : Hid (Below W.heap.size W _) := HB.out.trans (HB2.out.mono HB.out.size)
  clear x0 x1 x2 HX HY HB HW0 hb1
  obtain ⟨x0, x1, x2⟩ := row_three HX2.out
  go_wp2_with fail
  refine (less_any v.k v.n v.s f.k f.n f.s _ hl hfl).mono ?_
  obtain ⟨r, HR⟩ : ∃ r, Hid (vless v.k v.n v.s f.k f.n f.s = r) := ⟨_, rfl⟩
  rw [HR.out]
  rintro e w3 ⟨rfl, hb3⟩
  have HX3 : Hid _ := blk_keep hb3 HX2.out
  have HRR : Hid _ := blk_keep hb3 HY2.out
  have HF3 : Hid _ := blk_keep hb3 HF2.out
  have HBB : Hid (Below W.heap.size W w3) := HB3.out.trans (hb3.mono HB3.out.size)
  clear x0 x1 x2 HX2 HY2 HB2 HB3 HF2 hb3
  obtain ⟨x0, x1, x2⟩ := row_three HX3.out
  obtain ⟨f0, f1, f2⟩ := row_three HF3.out
  obtain ⟨y0, y1, y2⟩ := row_three HRR.out
  obtain ⟨y3, y4, y5⟩ := row_threeF HRR.out
  cases r
  · rcases Decidable.em (v.k = 4) with h4 | h4
    · have q4 : (v.k == 4) = true := by simp [h4]
      have HS4 : Hid (okV v.k v.k v.n v.s.size = true → v.n = 0 ∧ v.s.size ≤ 100) := fun h => (by have h2 := okV_iff.1 h; unfold OkV at h2; omega)
      have HK4 : Hid _ := h4
      clear h4
      go_wp2_with fail
      refine (shortFrom_any v.s w3 hs).mono ?_
      rintro e w4 ⟨⟨r, rfl, hr⟩, hb4⟩
      have HRR4 : Hid _ := blk_keep hb4 HRR.out
      have HBB4 : Hid (Below W.heap.size W w4) := HBB.out.trans (hb4.mono HBB.out.size)
      have HRq : Hid _ := hr
      clear x0 x1 x2 f0 f1 f2 y0 y1 y2 y3 y4 y5 HRR HBB hb4 hr
      rename Hid (w4.heap[_]? = _) => HRR
      rename Hid (Below _ _ w4) => HBB
      obtain ⟨y0, y1, y2⟩ := row_three HRR.out
      obtain ⟨y3, y4, y5⟩ := row_threeF HRR.out
      go_wp2
      have hz : ∀ h : okV v.k v.k v.n v.s.size = true, (⟨4, 0, r⟩ : Vl) = v := fun h => by
        obtain ⟨h1, h2⟩ := HS4.out h
        have h3 := HRq.out h2
        have h4 := HK4.out
        obtain ⟨k, n, s⟩ := v
        simp only at h1 h3 h4
        rw [h1, h3, h4]
      exact bodyPost_ret (v := .agg #[.int .i64 4, .int .i64 0, .string r]) (results_cell_row Tryd.results22 _ _ (W.heap.size + 1) 23 #[.int .i64 4, .int .i64 0, .string r] (0, 0) _ rfl (set3_row HRR.out _ _ _) Tryd.underlying23 rfl (by kernel_rfl)) rfl ⟨⟨⟨4, 0, r⟩, rfl, by show (_ : Int) ≤ 0; omega, hz⟩, set3_below HBB.out (by omega) _ _ _⟩
    · have q4 : (v.k == 4) = false := by simp [h4]
      have HK4 : Hid _ := h4
      clear h4
      go_wp2
      exact bodyPost_ret (v := .agg #[.int .i64 v.k, .int .i64 v.n, .string ⟨#[]⟩]) (results_cell_row Tryd.results22 _ _ (W.heap.size + 1) 23 #[.int .i64 v.k, .int .i64 v.n, .string ⟨#[]⟩] (0, 0) _ rfl (set3_row HRR.out _ _ _) Tryd.underlying23 rfl (by kernel_rfl)) rfl ⟨⟨⟨v.k, v.n, ⟨#[]⟩⟩, rfl, hl, fun h => ok_empty h HK4.out⟩, set3_below HBB.out (by omega) _ _ _⟩
  · go_wp2
    have hz : ∀ h : okV v.k v.k v.n v.s.size = true, f = v := fun h => by
      have h1 := fst_ok hl h
      unfold lss at h1
      rw [HF.out, HR.out] at h1
      cases h1
    exact bodyPost_ret (v := .agg #[.int .i64 f.k, .int .i64 f.n, .string f.s]) (results_cell_row Tryd.results22 _ _ (W.heap.size + 1) 23 #[.int .i64 f.k, .int .i64 f.n, .string f.s] (0, 0) _ rfl (set3_row HRR.out _ _ _) Tryd.underlying23 rfl (by kernel_rfl)) rfl ⟨⟨f, rfl, hfl, hz⟩, set3_below HBB.out (by omega) _ _ _⟩
end Go.Proofs.YthlnjnoeaicjjaaDoor
