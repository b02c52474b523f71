/-
  The reader of a schema's text: a number is taken.
-/
import Derived.Test.YtopagfjimbdbdaaGreatDoorPBSNext
import Derived.Test.YtopagfjimbdbdaaGreatDoorShelf
import Derived.Lib.AtoiErrMem
namespace Go.Proofs.YtopagfjimbdbdaaGreatDoor
open Go.RowKit
/-- The bytes of a number's word: '#' and one to four digits, no 0 ahead. -/
structure IdW (x : ByteArray) (d : List UInt8) : Prop where
  e : x.data.toList = 35 :: d
  l1 : 1 ≤ d.length
  l4 : d.length ≤ 4
  nz : ∀ h : 0 < d.length, d[0].toNat ≠ 48
theorem trim_id (d : List UInt8) : Lib.trimPrefix (35 :: d) [35] = d := by simp [Lib.trimPrefix, Lib.hasPrefix]
theorem has_id (d : List UInt8) : Lib.hasPrefix (35 :: d) [35] = true := by simp [Lib.hasPrefix]
set_option maxRecDepth 100000 in
set_option maxHeartbeats 1600000 in
theorem isID_any (x : ByteArray) (d : List UInt8) (h : IdW x d) (W : World) : Calls Tryz.prog 80 #[.string x] W fun e w' => e = .returned (.bool true) ∧ w' = W := by
  have HC : Hid _ := Tryz.strings_CutPrefix x ⟨#[35]⟩ W
  rw [h.e, show (⟨#[35]⟩ : ByteArray).data.toList = [35] from rfl, trim_id, has_id] at HC
  have hsz : (⟨d.toArray⟩ : ByteArray).size = d.length := by simp [ByteArray.size]
  have hl1 := h.l1
  have hl4 := h.l4
  have HZ : Hid (∀ h : 0 < (⟨d.toArray⟩ : ByteArray).size, (⟨d.toArray⟩ : ByteArray)[0].toNat ≠ 48) := fun h0 => (by
    have := h.nz (by omega)
    simpa [ByteArray.getElem_eq_getElem_data] using this)
  clear h
  obtain ⟨y, HY⟩ : ∃ y, Hid ((⟨d.toArray⟩ : ByteArray) = y) := ⟨_, rfl⟩
  rw [HY.out] at HC hsz HZ
  have hp0 : 0 < y.size := by omega
  have q1 : decide ((1 : Int) ≤ (y.size : Int)) = true := by rw [decide_eq_true_iff]; omega
  have q2 : decide ((y.size : Int) ≤ 4) = true := by rw [decide_eq_true_iff]; omega
  have q3 : (((y[0]).toNat : Int) != 48) = true := bne_iff_ne.2 (by have := HZ.out hp0; omega)
  have HSz : Hid _ := hsz
  clear hsz
  go_enter Tryz.func80, Tryz.ntmps80
  go_wp2_with fail
  refine Calls.mono HC.out ?_
  rintro e w1 ⟨rfl, hw⟩
  obtain rfl := hw.symm
  go_wp2
  all_goals go_ret
  all_goals exact ⟨rfl, rfl⟩
set_option maxRecDepth 100000 in
set_option maxHeartbeats 3200000 in
theorem take_id (r : Nat) (s : ByteArray) (p a n : Nat) (W : World) (hr : RdAt r s p W) (hm : s.size ≤ 100000) (h : WdAt s p a n) (han : a < n) (d : List UInt8) (hl : IdW (s.extract a n) d) :
    Calls Tryz.prog (63) #[.pointer (some ⟨r, 0, none⟩), .func (.func 80) #[] #[]] W fun e w' => e = .returned (.string (s.extract a n)) ∧ RdAt r s n w' ∧ RFr r W w' := by
  have HR : Hid _ := hr
  have hns := h.ns
  have hz : (s.extract a n).size = n - a := ext_size (by omega) hns
  have HLL : Hid _ := hl
  have HW : Hid _ := h
  clear hr hl h
  obtain ⟨x, HX⟩ : ∃ x, Hid (s.extract a n = x) := ⟨_, rfl⟩
  go_enter Tryz.func63, Tryz.ntmps63
  go_wp2_with fail
  refine (next_any r s p a n _ W HR.out hm HW.out).mono ?_
  rintro e w1 ⟨rfl, hb1⟩
  have HB1 : Hid _ := hb1
  have HR1 : Hid (w1.heap[r]? = some (.cells #[.string s, .int .i64 (p : Nat), .nilIface] 47 (0, 0))) := blk_keep hb1 HR.out
  clear hb1
  have HIs : Hid _ := isID_any (s.extract a n) d HLL.out w1
  rw [HX.out] at hz HIs ⊢
  obtain ⟨c0, c1, c2⟩ := row_three HR1.out
  obtain ⟨f0, f1, f2⟩ := row_threeF HR1.out
  have HV : Hid ((a : Int) + ((n - a : Nat) : Int) = ((n : Nat) : Int)) := (by show _ = _; omega)
  go_wp2_with fail
  refine Calls.mono HIs.out ?_
  rintro e w2 ⟨rfl, hw⟩
  obtain rfl := hw.symm
  go_wp2
  go_ret
  refine ⟨by rw [HX.out]; rfl, ?_, (RFr.of_below HB1.out).set⟩
  exact (row_setC HR1.out).trans (by show some (Obj.cells #[.string s, .int .i64 ((a : Int) + ((n - a : Nat) : Int)), .nilIface] 47 (0, 0)) = _; rw [HV.out])
set_option maxRecDepth 100000 in
set_option maxHeartbeats 3200000 in
theorem takeID_any (r : Nat) (s : ByteArray) (p a n : Nat) (W : World) (hr : RdAt r s p W) (hm : s.size ≤ 100000) (h : WdAt s p a n) (han : a < n) (d : List UInt8) (hl : IdW (s.extract a n) d) (k : Int) (hk : Lib.atoi d = some k) :
    Calls Tryz.prog (65) #[.pointer (some ⟨r, 0, none⟩)] W fun e w' => e = .returned (.int .i64 k) ∧ RdAt r s n w' ∧ RFr r W w' := by
  have HT : Hid _ := take_id r s p a n W hr hm h han d hl
  have HD : Hid _ := hl
  clear hr h hl
  have hl4 := HD.out.l4
  go_enter Tryz.func65, Tryz.ntmps65
  go_wp2_with fail
  refine Calls.mono HT.out ?_
  rintro e w1 ⟨rfl, hr1, hf1⟩
  have HR1 : Hid (w1.heap[r]? = some (.cells #[.string s, .int .i64 (n : Nat), .nilIface] 47 (0, 0))) := hr1
  have HF1 : Hid (RFr r W w1) := hf1
  clear hr1 hf1
  have HP : Hid _ := Tryz.strings_TrimPrefix (s.extract a n) ⟨#[35]⟩ w1
  rw [HD.out.e, show (⟨#[35]⟩ : ByteArray).data.toList = [35] from rfl, trim_id] at HP
  go_wp2_with fail
  refine Calls.mono HP.out ?_
  rintro e w2 ⟨rfl, hw⟩
  obtain rfl := hw.symm
  have HA : Hid _ := Tryz.strconv_Atoi ⟨d.toArray⟩ k (by have h2 : (⟨d.toArray⟩ : ByteArray).size = d.length := (by simp [ByteArray.size]); omega) (by simpa using hk) w1
  go_wp2_with fail
  refine Calls.mono HA.out ?_
  rintro e w3 ⟨rfl, t, rfl⟩
  have hb : Below w1.heap.size w1 (Lib.bytesWorld w1 5 t) := Lib.bytesWorld_below w1 5 t
  have HB : Hid _ := hb
  clear hb
  generalize Lib.bytesWorld w1 5 t = w4 at *
  go_wp2
  go_ret
  exact ⟨rfl, blk_keep HB.out HR1.out, HF1.out.trans (RFr.of_below HB.out)⟩
end Go.Proofs.YtopagfjimbdbdaaGreatDoor
