/-
  stats.greatestTo, walked.
-/
import Derived.Test.YthlnjnoeaicjjaaDoorQStSh
import Derived.Test.YthlnjnoeaicjjaaDoorQBStEn
namespace Go.Proofs.YthlnjnoeaicjjaaDoor
open Go.RowKit
theorem bl_ff : ∀ (n : Nat) (y : List UInt8), y.length ≤ n → Op.bytesLess (Lib.repeatL [255] n) y = false
  | _, [], _ => by cases (Lib.repeatL [255] _) <;> rfl
  | 0, b :: y, h => by simp at h
  | n + 1, b :: y, h => by
    have ih := bl_ff n y (by simpa using h)
    show Op.bytesLess (255 :: Lib.repeatL [255] n) (b :: y) = false
    unfold Op.bytesLess
    rw [ih, Bool.and_false, Bool.or_false]
    have hb : b.toNat < 256 := b.toNat_lt
    rw [decide_eq_false_iff_not, UInt8.lt_iff_toNat_lt]
    have h255 : (255 : UInt8).toNat = 255 := rfl
    omega
theorem tl_mk (l : List UInt8) : (⟨l.toArray⟩ : ByteArray).toList = l := by simp [ByteArray.toList_eq]
theorem tl_len (s : ByteArray) : s.toList.length = s.size := by rw [ByteArray.toList_eq]; simp
theorem lst_ok {k : Int} {v : Vl} (hl : v.Low) (hh : v.n ≤ 9223372036854775807) (h : okV k v.k v.n v.s.size = true) : lss (lstV k) v = false := by
  have h2 := okV_iff.1 h
  unfold OkV at h2
  obtain ⟨vk, n, s⟩ := v
  unfold Vl.Low at hl
  simp only at h2 hh hl ⊢
  unfold lss vless lstV tot
  rcases h2 with ⟨rfl, ⟨rfl, _, h3⟩ | ⟨rfl, _, h3⟩ | ⟨rfl | rfl, _⟩ | ⟨rfl, _, h3⟩⟩
  · simp; omega
  · simp; omega
  · simp; omega
  · simp; split <;> omega
  · simp only [if_true]
    unfold ffS
    rw [tl_mk]
    exact bl_ff 100 _ (by rw [tl_len]; exact h3)
theorem lstV_low (k : Int) : (lstV k).Low := by unfold Vl.Low lstV; simp only; split <;> (try split) <;> (try split) <;> omega
set_option maxRecDepth 100000 in
set_option maxHeartbeats 3200000 in
theorem greatestTo_any (v : Vl) (k : Int) (W : World) (hl : v.Low) (hh : v.n ≤ 9223372036854775807) (hs : v.s.size ≤ maxLen) : Calls Tryd.prog 23 #[.agg #[.int .i64 v.k, .int .i64 v.n, .string v.s], .int .i64 k] W fun e w' => (∃ x : Vl, e = .returned (.agg #[.int .i64 x.k, .int .i64 x.n, .string x.s]) ∧ x.Low ∧ (okV k v.k v.n v.s.size = true → x = v)) ∧ Below W.heap.size W w' := by
  unfold maxLen at hs
  obtain ⟨w0, HW0, HX, HY, HB⟩ := two_boxes W #[.int .i64 v.k, .int .i64 v.n, .string v.s] #[.int .i64 0, .int .i64 0, .string ⟨#[]⟩] 23 23
  obtain ⟨x0, x1, x2⟩ := row_three HX.out
  go_enter Tryd.func23, Tryd.ntmps23
  go_wp2_with fail
  rw [HW0.out]
  refine (lastOf_any k w0).mono ?_
  rintro e w1 ⟨rfl, hb1⟩
  obtain ⟨f, HF⟩ : ∃ f, Hid (lstV k = f) := ⟨_, rfl⟩
  rw [HF.out]
  have hfl : f.Low := by rw [← HF.out]; exact lstV_low _
  have HB2 : Hid (Below w0.heap.size w0 (w1.alloc (.cells #[.int .i64 f.k, .int .i64 f.n, .string f.s] 23))) := hb1.alloc hb1.size _
  have HF2 : Hid _ := heap_alloc_new w1 (.cells #[.int .i64 f.k, .int .i64 f.n, .string f.s] 23)
  have HX2 : Hid _ := blk_keep HB2.out HX.out
  have HY2 : Hid _ := blk_keep HB2.out HY.out
  have HB3 : Hid (Below W.heap.size W _) := HB.out.trans (HB2.out.mono HB.out.size)
  clear x0 x1 x2 HX HY HB HW0 hb1
  obtain ⟨x0, x1, x2⟩ := row_three HX2.out
  go_wp2_with fail
  refine (less_any f.k f.n f.s v.k v.n v.s _ hfl hl).mono ?_
  obtain ⟨r, HR⟩ : ∃ r, Hid (vless f.k f.n f.s v.k v.n v.s = r) := ⟨_, rfl⟩
  rw [HR.out]
  rintro e w3 ⟨rfl, hb3⟩
  have HX3 : Hid _ := blk_keep hb3 HX2.out
  have HRR : Hid _ := blk_keep hb3 HY2.out
  have HF3 : Hid _ := blk_keep hb3 HF2.out
  have HBB : Hid (Below W.heap.size W w3) := HB3.out.trans (hb3.mono HB3.out.size)
  clear x0 x1 x2 HX2 HY2 HB2 HB3 HF2 hb3
  obtain ⟨x0, x1, x2⟩ := row_three HX3.out
  obtain ⟨f0, f1, f2⟩ := row_three HF3.out
  obtain ⟨y0, y1, y2⟩ := row_three HRR.out
  obtain ⟨y3, y4, y5⟩ := row_threeF HRR.out
  have HHH : Hid _ := hh
  clear hh
  cases r
  · rcases Decidable.em (v.k = 4) with h4 | h4
    · have q4 : (v.k == 4) = true := by simp [h4]
      have HS4 : Hid (okV k v.k v.n v.s.size = true → v.n = 0 ∧ v.s.size ≤ 100) := fun h => (by have h2 := okV_iff.1 h; unfold OkV at h2; omega)
      have HK4 : Hid _ := h4
      clear h4
      obtain ⟨m, HM⟩ : ∃ m : Nat, Hid (m = min v.s.size 100) := ⟨_, rfl⟩
      have hmn : min (v.s.size : Int) 100 = (m : Int) := by rw [HM.out]; omega
      have hm1 : m ≤ v.s.size := by rw [HM.out]; omega
      go_wp2
      have hz : ∀ h : okV k v.k v.n v.s.size = true, (⟨4, 0, v.s.extract 0 m⟩ : Vl) = v := fun h => by
        obtain ⟨h1, h2⟩ := HS4.out h
        have h4 := HK4.out
        have h5 : m = v.s.size := by rw [HM.out]; omega
        rw [h5, ByteArray.extract_zero_size]
        obtain ⟨k, n, s⟩ := v
        simp only at h1 h4
        rw [h1, h4]
      exact bodyPost_ret (v := .agg #[.int .i64 4, .int .i64 0, .string (v.s.extract 0 m)]) (results_cell_row Tryd.results23 _ _ (W.heap.size + 1) 23 #[.int .i64 4, .int .i64 0, .string (v.s.extract 0 m)] (0, 0) _ rfl (set3_row HRR.out _ _ _) Tryd.underlying23 rfl (by kernel_rfl)) rfl ⟨⟨⟨4, 0, v.s.extract 0 m⟩, rfl, by show (_ : Int) ≤ 0; omega, hz⟩, set3_below HBB.out (by omega) _ _ _⟩
    · have q4 : (v.k == 4) = false := by simp [h4]
      have HK4 : Hid _ := h4
      clear h4
      go_wp2
      exact bodyPost_ret (v := .agg #[.int .i64 v.k, .int .i64 v.n, .string ⟨#[]⟩]) (results_cell_row Tryd.results23 _ _ (W.heap.size + 1) 23 #[.int .i64 v.k, .int .i64 v.n, .string ⟨#[]⟩] (0, 0) _ rfl (set3_row HRR.out _ _ _) Tryd.underlying23 rfl (by kernel_rfl)) rfl ⟨⟨⟨v.k, v.n, ⟨#[]⟩⟩, rfl, hl, fun h => by have e := okV_kind h; rw [← e] at h; exact ok_empty h HK4.out⟩, set3_below HBB.out (by omega) _ _ _⟩
  · go_wp2
    have hz : ∀ h : okV k v.k v.n v.s.size = true, f = v := fun h => by
      have h1 := lst_ok hl HHH.out h
      unfold lss at h1
      rw [HF.out, HR.out] at h1
      cases h1
    exact bodyPost_ret (v := .agg #[.int .i64 f.k, .int .i64 f.n, .string f.s]) (results_cell_row Tryd.results23 _ _ (W.heap.size + 1) 23 #[.int .i64 f.k, .int .i64 f.n, .string f.s] (0, 0) _ rfl (set3_row HRR.out _ _ _) Tryd.underlying23 rfl (by kernel_rfl)) rfl ⟨⟨f, rfl, hfl, hz⟩, set3_below HBB.out (by omega) _ _ _⟩
end Go.Proofs.YthlnjnoeaicjjaaDoor
