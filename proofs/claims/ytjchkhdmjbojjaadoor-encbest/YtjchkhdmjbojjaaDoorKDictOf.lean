/-
  The reference's placeWidth and DictOf: what they answer of right values.
-/
import Derived.Test.YtjchkhdmjbojjaaDoorKDict
import Derived.Test.YtjchkhdmjbojjaaDoorKPlainOf
import Derived.Test.YtjchkhdmjbojjaaDoorKRunsOf
namespace Go.Proofs.YtjchkhdmjbojjaaDoor
open Go.RowKit
set_option maxRecDepth 100000 in
theorem placeWidthR_any (n : Nat) (w : World) (hn : n ≤ 20000) :
    Calls Tryd.prog 36 #[.int .i64 n] w fun e w' => e = .returned (.int .i64 (Um.pw n : Nat)) ∧ w' = w := by
  by_cases h : n < 2
  · have e : Um.pw n = 0 := by unfold Um.pw; rw [show n - 1 = 0 by omega]; rfl
    rw [e]
    go_enter Tryd.func36, Tryd.ntmps36
    go_wp2
    go_ret
    exact ⟨rfl, rfl⟩
  · obtain ⟨m, rfl⟩ : ∃ m, n = m + 1 := ⟨n - 1, by omega⟩
    have e : Um.pw (m + 1) = Lib.bitLen m := rfl
    rw [e]
    go_enter Tryd.func36, Tryd.ntmps36
    go_wp2_with (go_at_call 75; refine (widthOf_any m _ (by omega)).mono ?_; rintro e w1 ⟨rfl, hw⟩; obtain rfl := hw.symm)
    go_ret
    exact ⟨rfl, rfl⟩
set_option maxRecDepth 100000 in
set_option maxHeartbeats 1600000 in
/-- DictOf of right values. -/
theorem dictOf_any (a : Option Addr) (vs : List Vl) (c : Nat) (kd : Int) (w : World) (hn : vs.length ≤ 300) (hl : LiesV w a vs) (hr : Right kd vs) (us : List Vl) (ps : List Nat) (hu : Uq vs us ps) :
    Calls Tryd.prog 12 #[.int .i64 kd, .slice a vs.length c] w fun e w' => e = .returned (.string ⟨(dictB kd us ps).toArray⟩) ∧ Below w.heap.size w w' := by
  have HL : Hid (LiesV w a vs) := hl
  have HU : Hid (Uq vs us ps) := hu
  have hul := hu.len.2
  have HPS : Hid (ps.length = vs.length) := hu.len.1
  have HRU : Hid (Right kd us) := right_sub hr hu.sub
  clear hl hu hr
  go_enter Tryd.func12, Tryd.ntmps12
  go_wp2_with fail
  refine (unlikeOf_any a vs c w (by omega) HL.out).mono ?_
  rintro e w1 ⟨⟨us', ps', a2, c2, a3, c3, hu', rfl, hl2, hl3⟩, hb1⟩
  obtain ⟨rfl, rfl⟩ := HU.out.fn us' ps' hu'
  have HL2 : Hid (LiesV w1 a2 us) := hl2
  have HL3 : Hid (Lies w1 a3 (i64s (pints ps))) := by
    show Lies _ _ _
    have e : i64s (pints ps) = pcells ps := by simp [i64s, pints, pcells, List.map_map]
    rw [e]; exact hl3
  clear hl2 hl3 hu'
  go_wp2_with fail
  refine (seven_any us.length _ (by omega)).mono ?_
  rintro e w2 ⟨rfl, hb2⟩
  have hb12 := hb1.trans (hb2.mono hb1.size)
  go_wp2_with fail
  refine (plainOf_any a2 us c2 kd w2 (by omega) (HL2.out.keep hb2) HRU.out).mono ?_
  rintro e w3 ⟨rfl, hb3⟩
  have hb13 := hb12.trans (hb3.mono hb12.size)
  have hpl := plainB_len HRU.out
  obtain ⟨pb, HPB⟩ : ∃ pb, Hid (pb = plainB kd us) := ⟨_, rfl⟩
  rw [← HPB.out] at hpl ⊢
  have hsz : (⟨pb.toArray⟩ : ByteArray).size = pb.length := by simp [ByteArray.size]
  go_wp2_with fail
  refine (long_any ⟨pb.toArray⟩ _ (by omega)).mono ?_
  rw [txt_arr, show (⟨pb.toArray⟩ : ByteArray).data.toList = pb from rfl]
  rintro e w4 ⟨rfl, hb4⟩
  have hb14 := hb13.trans (hb4.mono hb13.size)
  have htl := Um.txt_len pb (by omega)
  have hul2 := Um.uv_ten (n := us.length) (by omega)
  have HD : Hid (dictB kd us ps = Um.uv us.length ++ Um.txt pb ++ Um.wrs (Um.pw us.length) [] (pints ps)) := by show _ = _; rw [HPB.out]; rfl
  generalize Um.txt pb = tb at *
  generalize Um.uv us.length = ub at *
  clear hsz
  go_wp2_with fail
  refine (placeWidthR_any us.length _ (by omega)).mono ?_
  rintro e w5 ⟨rfl, hw⟩
  obtain rfl := hw.symm
  have hroom := pints_room HU.out (by omega)
  have hro := runsOf_any a3 c3 (pints ps) (Um.pw us.length) w4 (by rw [pints_len, HPS.out]; omega) (Um.pw_le (by omega)) hroom (((HL3.out.keep hb2).keep hb3).keep hb4)
  rw [pints_len] at hro
  have hwl := Um.wrs_len (Um.pw us.length) (Um.pw_le (by omega)) (pints ps) (by rw [pints_len, HPS.out]; omega)
  clear hroom
  go_wp2_with fail
  refine hro.mono ?_
  clear hro
  rintro e w6 ⟨rfl, hb6⟩
  have hb16 := hb14.trans (hb6.mono hb14.size)
  generalize Um.wrs (Um.pw us.length) [] (pints ps) = wl at *
  go_wp2
  go_ret
  exact ⟨by rw [HD.out, ← cat3]; rfl, hb16⟩
end Go.Proofs.YtjchkhdmjbojjaaDoor
