/-
  The reader of a record's text: numbers, values.
-/
import Derived.Test.YtmfijliladancaaGreatDoorXBDwS
import Derived.Test.YtmfijliladancaaGreatDoorXDwN
import Derived.Test.YtmfijliladancaaGreatDoorXBDwB
namespace Go.Proofs.YtmfijliladancaaGreatDoor
open Go.RowKit
/-- The table of powers of ten stands, whatever the reader does. -/
def TabR (r : Nat) (W : World) : Prop := ∀ X, RFr r W X → Lib.TabIs Tryz.prog X "internal/strconv.uint64pow10" .u64 Lib.pow10Tab
theorem TabR.on {r : Nat} {W w : World} (h : TabR r W) (hf : RFr r W w) : TabR r w := fun X hX => h X (hf.trans hX)
theorem ext_wo {s : ByteArray} {p : Nat} {u : List UInt8} (h : Wo s p u) (hp : p + u.length ≤ s.size) : s.extract p (p + u.length) = ⟨u.toArray⟩ := by
  have e : ∀ x : ByteArray, x = ⟨x.data.toList.toArray⟩ := fun x => by simp
  rw [e (s.extract _ _)]
  congr 2
  apply List.ext_getElem
  · rw [Array.length_toList]
    have : (s.extract p (p + u.length)).data.size = (s.extract p (p + u.length)).size := rfl
    rw [this, ByteArray.size_extract]
    omega
  · intro j h1 h2
    obtain ⟨h3, h4⟩ := h.at_ j h2
    rw [← h4]
    simp [ByteArray.data_extract]
    rfl
set_option maxRecDepth 100000 in
set_option maxHeartbeats 1600000 in
theorem isDigitD_any (c : UInt8) (W : World) : Calls Tryz.prog 73 #[.int .u8 c.toNat] W fun e w' => e = .returned (.bool (dgB c)) ∧ w' = W := by
  obtain ⟨b, HB⟩ := hid_name (dgB c)
  have HI : Hid (b = decide (48 ≤ c.toNat ∧ c.toNat ≤ 57)) := HB.out.symm
  rw [HB.out]
  go_enter Tryz.func73, Tryz.ntmps73
  go_wp2
  all_goals go_ret
  all_goals
    refine ⟨?_, rfl⟩
    rw [HI.out]
    show Ending.returned (Value.bool _) = Ending.returned (Value.bool _)
    congr 2
    rw [Bool.eq_iff_iff]
    simp
    try omega
set_option maxRecDepth 100000 in
set_option maxHeartbeats 1600000 in
theorem boolean_any (r : Nat) (s : ByteArray) (p : Nat) (n : Int) (hn : n = 0 ∨ n = 1) (W : World) (hr : Rdd r s p W) (hs : s.size ≤ 100000) (hw : Wo s p (boolB n)) (hp : p ≤ s.size) :
    Calls Tryz.prog (67) #[.pointer (some ⟨r, 0, none⟩)] W fun e w' => e = .returned (.int .i64 n) ∧ Rdd r s (p + (boolB n).length) w' ∧ RFr r W w' := by
  have HR : Hid (Rdd r s p W) := hr
  have HN : Hid (∀ v, nx s p = v → ∀ k, Calls Tryz.prog (31) #[.pointer (some ⟨r, 0, none⟩)] (W.drewN k) fun e w' => e = .returned (.int .u8 v.toNat) ∧ ∃ m, w' = (W.drewN k).drewN m) := fun v hv k => by
    have h := dnext_any r s p (W.drewN k) (hr.drew k) hp
    rw [hv] at h
    exact h
  rcases hn with rfl | rfl
  · have HC : Hid _ := HN.out 102 (Wo.nx (u := [97, 108, 115, 101]) hw)
    have HT : Hid (∀ X, Rdd r s p X → Calls Tryz.prog (32) #[.pointer (some ⟨r, 0, none⟩), .string ⟨#[102, 97, 108, 115, 101]⟩] X fun e w' => e = .returned (.tuple #[]) ∧ Rdd r s (p + 5) w' ∧ RFr r X w') := fun X hX => dtake_any r s ⟨#[102, 97, 108, 115, 101]⟩ p X hX hs hw hp
    clear hr hw HN
    go_enter Tryz.func67, Tryz.ntmps67
    go_wp2_with fail
    go_quiet ((go_at_call 31; exact Calls.quiet_of (HC.out _)))
    go_wp2_with fail
    refine Calls.mono (HT.out _ (HR.out.drew _)) ?_
    rintro e w1 ⟨rfl, hr1, hf1⟩
    have HR1 : Hid _ := hr1
    have HF1 : Hid (RFr r W w1) := (rfr_drew (RFr.refl r W) _).trans hf1
    clear hr1 hf1
    go_wp2
    go_ret
    exact ⟨rfl, HR1.out, HF1.out⟩
  · have HC : Hid _ := HN.out 116 (Wo.nx (u := [114, 117, 101]) hw)
    have HT : Hid (∀ X, Rdd r s p X → Calls Tryz.prog (32) #[.pointer (some ⟨r, 0, none⟩), .string ⟨#[116, 114, 117, 101]⟩] X fun e w' => e = .returned (.tuple #[]) ∧ Rdd r s (p + 4) w' ∧ RFr r X w') := fun X hX => dtake_any r s ⟨#[116, 114, 117, 101]⟩ p X hX hs hw hp
    clear hr hw HN
    go_enter Tryz.func67, Tryz.ntmps67
    go_wp2_with fail
    go_quiet ((go_at_call 31; exact Calls.quiet_of (HC.out _)))
    go_wp2_with fail
    refine Calls.mono (HT.out _ (HR.out.drew _)) ?_
    rintro e w1 ⟨rfl, hr1, hf1⟩
    have HR1 : Hid _ := hr1
    have HF1 : Hid (RFr r W w1) := (rfr_drew (RFr.refl r W) _).trans hf1
    clear hr1 hf1
    go_wp2
    go_ret
    exact ⟨rfl, HR1.out, HF1.out⟩
def rdPos (r : Nat) (w : World) : Nat := match w.cell? ⟨r, 1, none⟩ with
  | some v => (intOf v).toNat
  | none => 0
theorem rdPos_eq {r : Nat} {s : ByteArray} {p : Nat} {w : World} (h : Rdd r s p w) : rdPos r w = p := by
  unfold rdPos
  rw [(row_twoD h).2.1]
  simp [intOf]
set_option maxRecDepth 100000 in
set_option maxHeartbeats 6400000 in
theorem number_any (r : Nat) (s : ByteArray) (p : Nat) (n : Int) (B : Nat) (hB : B = 32 ∨ B = 64) (h0 : -((2 ^ (B - 1) : Nat) : Int) ≤ n) (h1 : n < ((2 ^ (B - 1) : Nat) : Int)) (W : World) (hr : Rdd r s p W) (hs : s.size ≤ 100000) (hw : Wo s p (Lib.itoa n)) (hp : p ≤ s.size) (hnd : dgB (nx s (p + (Lib.itoa n).length)) = false) (htab : TabR r W) :
    Calls Tryz.prog (68) #[.pointer (some ⟨r, 0, none⟩), .int .i64 (B : Nat)] W fun e w' => e = .returned (.int .i64 n) ∧ Rdd r s (p + (Lib.itoa n).length) w' ∧ RFr r W w' := by
  have HR : Hid (Rdd r s p W) := hr
  have HW : Hid (Wo s p (Lib.itoa n)) := hw
  have HND : Hid _ := hnd
  have HTab : Hid _ := htab
  obtain ⟨g, hg1, hgl, hdg, hg45, hgn⟩ := itoa_shape n
  have HDg : Hid _ := hdg
  have hws := hw.le (by omega)
  have HTx : Hid (s.extract p (p + (Lib.itoa n).length) = ⟨(Lib.itoa n).toArray⟩) := ext_wo hw hws
  have hn64 : -9223372036854775808 ≤ n ∧ n ≤ 9223372036854775807 := by
    rcases hB with rfl | rfl
    · simp at h0 h1; omega
    · simp at h0 h1; omega
  have HT : Hid (Calls Tryz.prog (52) #[.pointer (some ⟨r, 0, none⟩), .int .u8 45] W fun e w' => ∃ b, e = .returned (.bool b) ∧ Rdd r s (p + g) w' ∧ RFr r W w') := (by
    refine (takeIf_any r s p 45 W hr hs hp (fun _ => by omega)).mono ?_
    rintro e w' ⟨b, h2, h3, h4, h5⟩
    refine ⟨b, h2, ?_, h5⟩
    have hn0 : nx s p = (Lib.itoa n)[0]'(by omega) := nx_rest hw 0 (by omega)
    rcases Nat.lt_or_ge g 1 with hg0 | hg0
    · have hne : ¬ nx s p = 45 := by rw [hn0]; exact hgn (by omega) _
      have hb : b = false := by
        cases b
        · rfl
        · exact absurd (h3.1 rfl) hne
      rw [hb] at h4
      rw [show g = 0 by omega]
      exact h4
    · have he : nx s p = 45 := by
        rw [hn0]
        have := hg45 (by omega)
        rw [List.getElem?_eq_getElem (by omega)] at this
        simpa using this
      have hb : b = true := h3.2 he
      rw [hb] at h4
      rw [show g = 1 by omega]
      exact h4)
  have HP : Hid (∀ X, Calls Tryz.prog 74 #[.string ⟨(Lib.itoa n).toArray⟩, .int .i64 10, .int .i64 (B : Nat)] X fun e w' => e = .returned (.tuple #[.int .i64 n, .nilIface]) ∧ Below X.heap.size X w') := (by
    intro X
    have hpi := parse_itoa B hB n h0 h1
    have hb : ∀ w', (w' = X ∨ ∃ t, w' = Lib.bytesWorld X 5 t) → Below X.heap.size X w' := fun w' h => by
      rcases h with rfl | ⟨t, rfl⟩
      · exact Below.refl _ _
      · exact Lib.bytesWorld_below _ _ _
    have hmx : (⟨(Lib.itoa n).toArray⟩ : ByteArray).size ≤ 9223372036854775806 := by
      show (Lib.itoa n).toArray.size ≤ _
      rw [List.size_toArray]
      omega
    rcases hB with rfl | rfl
    · refine (Tryz.strconv_ParseInt_10_at32_ok ⟨(Lib.itoa n).toArray⟩ hmx n hpi X).mono ?_
      rintro e w' ⟨rfl, h⟩
      exact ⟨rfl, hb w' h⟩
    · refine (Tryz.strconv_ParseInt_10_at64_ok ⟨(Lib.itoa n).toArray⟩ hmx n hpi X).mono ?_
      rintro e w' ⟨rfl, h⟩
      exact ⟨rfl, hb w' h⟩)
  have HFm : Hid (∀ X, RFr r W X → Calls Tryz.prog 75 #[.int .i64 n, .int .i64 10] X fun e w' => e = .returned (.string ⟨(Lib.itoa n).toArray⟩) ∧ Below X.heap.size X w') := (by
    intro X hX
    refine (Tryz.strconv_FormatInt_10 n hn64.1 hn64.2 X (htab X hX)).mono ?_
    rintro e w' ⟨rfl, k, os, rfl⟩
    refine ⟨rfl, rfl, rfl, rfl, ?_, fun j hj => ?_⟩
    · show X.heap.size ≤ (X.heap ++ os).size
      rw [Array.size_append]
      omega
    · show (X.heap ++ os)[j]? = X.heap[j]?
      rw [Array.getElem?_append_left hj])
  obtain ⟨tx, HTn⟩ := hid_name (⟨(Lib.itoa n).toArray⟩ : ByteArray)
  rw [HTn.out] at HTx HP HFm
  obtain ⟨L, HL⟩ := hid_name (Lib.itoa n).length
  rw [HL.out] at hgl hws HTx HND ⊢
  obtain ⟨c0, c1, f1⟩ := row_twoD hr
  clear hr hw hnd htab hdg hg45 hgn h0 h1
  go_enter Tryz.func68, Tryz.ntmps68
  go_wp2_with fail
  refine Calls.mono HT.out ?_
  rintro e w1 ⟨b, rfl, hr1, hf1⟩
  have HR1 : Hid (Rdd r s (p + g) w1) := hr1
  have HF1 : Hid (RFr r W w1) := hf1
  have HN1 : Hid (Calls Tryz.prog (31) #[.pointer (some ⟨r, 0, none⟩)] w1 fun e w' => e = .returned (.int .u8 (nx s (p + g)).toNat) ∧ ∃ m, w' = w1.drewN m) := dnext_any r s (p + g) w1 hr1 (by omega)
  have HD1 : Hid (dgB (nx s (p + g)) = true) := (by
    show dgB _ = _
    rw [nx_rest HW.out g (by rw [HL.out]; omega)]
    exact HDg.out g _ (Nat.le_refl _))
  have HI1 : Hid (∀ X, Calls Tryz.prog 73 #[.int .u8 (nx s (p + g)).toNat] X fun e w' => e = .returned (.bool true) ∧ w' = X) := fun X => by rw [← HD1.out]; exact isDigitD_any _ X
  clear hr1 hf1 c0 c1 f1
  go_wp2_with fail
  refine Calls.mono HN1.out ?_
  rintro e w2 ⟨rfl, k, rfl⟩
  go_wp2_with fail
  refine Calls.mono (HI1.out _) ?_
  rintro e w3 ⟨rfl, hw3⟩
  obtain rfl := hw3.symm
  go_wp2_with fail
  go_loopw [] (fun wr => ∃ j : Nat, g ≤ j ∧ j ≤ L ∧ Hid (Rdd r s (p + j) wr) ∧ Hid (RFr r W wr)) (fun wr => p + L - rdPos r wr)
  case atStart => exact ⟨g, Nat.le_refl _, by omega, HR1.out.drew k, rfr_drew HF1.out k⟩
  case round =>
    clear HR1 HF1 HN1 HD1 HI1 HT
    obtain ⟨j, hgj, hjL, HR, HF⟩ := hrel
    have HPo : Hid (rdPos r wr = p + j) := rdPos_eq HR.out
    have HN : Hid (Calls Tryz.prog (31) #[.pointer (some ⟨r, 0, none⟩)] wr fun e w' => e = .returned (.int .u8 (nx s (p + j)).toNat) ∧ ∃ m, w' = wr.drewN m) := dnext_any r s (p + j) wr HR.out (by omega)
    by_cases hlt : j < L
    · have HI : Hid (∀ X, Calls Tryz.prog 73 #[.int .u8 (nx s (p + j)).toNat] X fun e w' => e = .returned (.bool true) ∧ w' = X) := fun X => by
        have hd : dgB (nx s (p + j)) = true := by
          rw [nx_rest HW.out j (by rw [HL.out]; omega)]
          exact HDg.out j _ hgj
        rw [← hd]
        exact isDigitD_any _ X
      go_wp2_with fail
      refine Calls.mono HN.out ?_
      rintro e w2 ⟨rfl, k2, rfl⟩
      go_wp2_with fail
      refine Calls.mono (HI.out _) ?_
      rintro e w3 ⟨rfl, hw3⟩
      obtain rfl := hw3.symm
      obtain ⟨c0, c1, f1⟩ := row_twoD (HR.out.drew k2)
      have HR2 : Hid (Rdd r s (p + (j + 1)) ((wr.drewN k2).setCell ⟨r, 1, none⟩ (.int .i64 ((p : Int) + (j : Int) + 1)))) := (HR.out.drew k2).set (by omega)
      have HF2 : Hid (RFr r W ((wr.drewN k2).setCell ⟨r, 1, none⟩ (.int .i64 ((p : Int) + (j : Int) + 1)))) := (rfr_drew HF.out k2).set
      have HP2 : Hid (rdPos r ((wr.drewN k2).setCell ⟨r, 1, none⟩ (.int .i64 ((p : Int) + (j : Int) + 1))) = p + (j + 1)) := rdPos_eq HR2.out
      go_wp2
      go_roundw
      case rel => exact ⟨j + 1, by omega, by omega, HR2, HF2⟩
      case measure => rw [HP2.out, HPo.out]; omega
    · obtain rfl : j = L := by omega
      have HI : Hid (∀ X, Calls Tryz.prog 73 #[.int .u8 (nx s (p + j)).toNat] X fun e w' => e = .returned (.bool false) ∧ w' = X) := fun X => by
        rw [← HND.out]
        exact isDigitD_any _ X
      go_wp2_with fail
      refine Calls.mono HN.out ?_
      rintro e w2 ⟨rfl, k2, rfl⟩
      go_wp2_with fail
      refine Calls.mono (HI.out _) ?_
      rintro e w3 ⟨rfl, hw3⟩
      obtain rfl := hw3.symm
      obtain ⟨c0, c1, f1⟩ := row_twoD HR.out
      have q8 : (0 : Int) ≤ (p : Int) := by omega
      have q9 : (p : Int) ≤ ((p + j : Nat) : Int) := by omega
      have q10 : ((p + j : Nat) : Int) ≤ (s.size : Int) := by omega
      have HR2 : Hid (Rdd r s (p + j) (wr.drewN k2)) := HR.out.drew k2
      have HF2 : Hid (RFr r W (wr.drewN k2)) := rfr_drew HF.out k2
      go_wp2_with fail
      go_quiet (fail)
      go_wp2_with fail
      rw [HTx.out]
      refine Calls.mono (HP.out _) ?_
      rintro e w4 ⟨rfl, hb4⟩
      have HR4 : Hid (Rdd r s (p + j) w4) := ((HR.out.drew (k2 + nq)).keep hb4)
      have HF4 : Hid (RFr r W w4) := (rfr_drew HF.out (k2 + nq)).trans (.of_below hb4)
      clear hb4 HR2 HF2 c0 c1 f1
      have HF5 : Hid _ := HFm.out w4 HF4.out
      go_wp2_with fail
      refine Calls.mono HF5.out ?_
      rintro e w5 ⟨rfl, hb5⟩
      have HR5 : Hid (Rdd r s (p + j) w5) := HR4.out.keep hb5
      have HF6 : Hid (RFr r W w5) := HF4.out.trans (.of_below hb5)
      clear hb5
      go_wp2
      go_ret
      exact ⟨rfl, HR5.out, HF6.out⟩
end Go.Proofs.YtmfijliladancaaGreatDoor
