/-
  enc.placeWidth and enc.Dict: what they answer of right values.
  enc.Best: the shortest of all ways.
  enc.Best of right values, and of those that are not.
  The reference's DeltaOf: the first number, then the differences by blocks.
-/
import Derived.Test.YtjcmnngaecoddaaGreatDoorPUnlikeOf
import Derived.Test.YtjcmnngaecoddaaGreatDoorPDictMath
import Derived.Test.YtjcmnngaecoddaaGreatDoorPBWordsMath
import Derived.Test.YtjcmnngaecoddaaGreatDoorPBVal
import Derived.Test.YtjcmnngaecoddaaGreatDoorPBShut0
import Derived.Test.YtjcmnngaecoddaaGreatDoorPWidth
import Derived.Test.YtjcmnngaecoddaaGreatDoorPPrefV
import Derived.Test.YtjcmnngaecoddaaGreatDoorPDelta
import Derived.Test.YtjcmnngaecoddaaGreatDoorPBWVarint
import Derived.Test.YtjcmnngaecoddaaGreatDoorPBPack
namespace Go.Proofs.YtjcmnngaecoddaaGreatDoor
open Go.RowKit
set_option maxRecDepth 100000 in
theorem placeWidth_any (a : Option Addr) (n c : Nat) (w : World) (hn : n ≤ 20000) :
    Calls Tryz.prog 108 #[.slice a n c] w fun e w' => e = .returned (.int .i64 (Um.pw n : Nat)) ∧ w' = w := by
  by_cases h : n ≤ 1
  · have e : Um.pw n = 0 := by unfold Um.pw; rw [show n - 1 = 0 by omega]; rfl
    rw [e]
    go_enter Tryz.func108, Tryz.ntmps108
    go_wp2_with (go_at_call 36; refine (width_none _ _ (by omega)).mono ?_; rintro e w1 ⟨rfl, hw⟩; obtain rfl := hw.symm)
    go_ret
    exact ⟨rfl, rfl⟩
  · obtain ⟨m, rfl⟩ : ∃ m, n = m + 1 := ⟨n - 1, by omega⟩
    have e : Um.pw (m + 1) = Lib.bitLen m := rfl
    rw [e]
    have hm : (((m + 1 : Nat) : Int) - 1) = (m : Int) := by omega
    go_enter Tryz.func108, Tryz.ntmps108
    go_wp2_with (go_at_call 36; refine (width_any m _ (by omega) (by omega)).mono ?_; rintro e w1 ⟨rfl, hw⟩; obtain rfl := hw.symm)
    go_ret
    exact ⟨rfl, rfl⟩
theorem lies_pints {w : World} {a : Option Addr} {ps : List Nat} (h : ∀ j (h : j < ps.length), ∃ b o, a = some ⟨b, o, none⟩ ∧ w.cell? ⟨b, o + j, none⟩ = some (.int .i64 ps[j])) : Lies w a (i64s (pints ps)) := fun j hj => by
  rw [i64s_len, pints_len] at hj
  obtain ⟨b, o, e, hc⟩ := h j hj
  exact ⟨b, o, e, by rw [hc]; simp [i64s, pints]⟩
/-- Runs of places. -/
theorem runs_places (a : Option Addr) (vs us : List Vl) (ps : List Nat) (c : Nat) (w : World) (st : TypeId) (sp : Value) (h : Uq vs us ps) (hn : vs.length ≤ 700) (hcap : ps.length ≤ c) (hg : w.cell? ⟨0, 0, none⟩ = some (.iface st sp)) (hl : Lies w a (i64s (pints ps))) :
    Calls Tryz.prog 35 #[.slice a ps.length c, .int .i64 (Um.pw us.length : Nat)] w fun e w' => e = .returned (.tuple #[.string ⟨(Um.wrs (Um.pw us.length) [] (pints ps)).toArray⟩, .nilIface]) ∧ Below w.heap.size w w' := by
  have hlen := h.len
  have hroom := pints_room h (by omega)
  have hx : ∀ j (hj : j < (pints ps).length), -9223372036854775808 ≤ (pints ps)[j] ∧ (pints ps)[j] ≤ 9223372036854775807 := fun j hj => by
    rw [pints_len] at hj
    have := h.lt ps[j] (List.getElem_mem hj)
    simp only [pints, List.getElem_map]
    omega
  have hr := runsF_any a (pints ps) c (Um.pw us.length) w st sp (by rw [pints_len]; omega) (by rw [pints_len]; exact hcap) (Um.pw_le (by omega)) hg hx hl
  have hr2 : Calls Tryz.prog 35 #[.slice a (pints ps).length c, .int .i64 (Um.pw us.length : Nat)] w fun e w' => e = .returned (.tuple #[.string ⟨(Um.wrs (Um.pw us.length) [] (pints ps)).toArray⟩, .nilIface]) ∧ Below w.heap.size w w' := by
    refine hr.mono ?_
    rintro e w' ⟨⟨rfl, _⟩ | ⟨i, p, hi, rfl, _, hN, _, _⟩, hb⟩
    · exact ⟨rfl, hb⟩
    · exact absurd (hroom i hi) hN
  rw [pints_len] at hr2
  exact hr2
theorem ck' {w w' : World} {g : Nat} {v : Value} (h : w.cell? ⟨g, 0, none⟩ = some v) (hb : Below w.heap.size w w') : w'.cell? ⟨g, 0, none⟩ = some v := (hb.cell (World.block_lt_of_cell? w _ h)).trans h
theorem cat3 (a b c : List UInt8) : (⟨a.toArray⟩ : ByteArray) ++ ⟨b.toArray⟩ ++ ⟨c.toArray⟩ = ⟨(a ++ b ++ c).toArray⟩ := by rw [arr_app, arr_app]
set_option maxRecDepth 100000 in
set_option maxHeartbeats 1600000 in
/-- Dict of right values. -/
theorem dict_right (a : Option Addr) (vs : List Vl) (c : Nat) (kd : Int) (w : World) (kt st : TypeId) (kp sp : Value) (hgk : w.cell? ⟨3, 0, none⟩ = some (.iface kt kp)) (hgs : w.cell? ⟨0, 0, none⟩ = some (.iface st sp)) (hn : vs.length ≤ 700) (hl : LiesV w a vs) (hr : Right kd vs) (us : List Vl) (ps : List Nat) (hu : Uq vs us ps) :
    Calls Tryz.prog 69 #[.int .i64 kd, .slice a vs.length c] w fun e w' => e = .returned (.tuple #[.string ⟨(dictB kd us ps).toArray⟩, .nilIface]) ∧ Below w.heap.size w w' := by
  have HL : Hid (LiesV w a vs) := hl
  have HR : Hid (Right kd vs) := hr
  have HU : Hid (Uq vs us ps) := hu
  have HGK : Hid _ := hgk
  have HGS : Hid _ := hgs
  have hul := hu.len.2
  have HPS : Hid (ps.length = vs.length) := hu.len.1
  have HRU : Hid (Right kd us) := right_sub hr hu.sub
  clear hl hr hu hgk hgs
  go_enter Tryz.func69, Tryz.ntmps69
  go_wp2_with fail
  refine (checkE_any a vs c kd w kt kp (by omega) HR.out.1.1 HR.out.1.2 HGK.out HL.out).mono ?_
  rintro e w1 ⟨⟨rfl, _⟩ | ⟨i, p, hi, rfl, _, hN, _, _⟩, hb1⟩
  · go_wp2_with fail
    refine (byFirst_any a vs c w1 (by omega) (HL.out.keep hb1) (fun v hv => (HR.out.2 v hv).2)).mono ?_
    rintro e w2 ⟨⟨us', ps', a2, c2, a3, c3, hu', rfl, hcap, hl2, hl3⟩, hb2⟩
    obtain ⟨rfl, rfl⟩ := HU.out.fn us' ps' hu'
    have hb12 := hb1.trans (hb2.mono hb1.size)
    have HL2 : Hid (LiesV w2 a2 us) := hl2
    have HL3 : Hid (Lies w2 a3 (i64s (pints ps))) := lies_pints hl3
    clear hl2 hl3 hu'
    go_wp2_with fail
    refine (plain_right a2 us c2 kd w2 kt st kp sp (ck' HGK.out hb12) (ck' HGS.out hb12) (by omega) HR.out.1.1 HR.out.1.2 HL2.out (fun j h => (HRU.out.2 _ (List.getElem_mem h)).1) (fun j h => (HRU.out.2 _ (List.getElem_mem h)).2.2.1)).mono ?_
    rintro e w3 ⟨rfl, hb3⟩
    have hb13 := hb12.trans (hb3.mono hb12.size)
    go_wp2_with fail
    refine (placeWidth_any a2 us.length c2 w3 (by omega)).mono ?_
    rintro e w4 ⟨rfl, hw⟩
    obtain rfl := hw.symm
    go_wp2_with fail
    refine (runs_places a3 vs us ps c3 w3 st sp HU.out hn hcap (ck' HGS.out hb13) (HL3.out.keep hb3)).mono ?_
    rintro e w5 ⟨rfl, hb5⟩
    have hb15 := hb13.trans (hb5.mono hb13.size)
    have hwl := Um.wrs_len (Um.pw us.length) (Um.pw_le (by omega)) (pints ps) (by rw [pints_len, HPS.out]; omega)
    have hpl := plainB_len HRU.out
    obtain ⟨wl, HWL⟩ : ∃ wl, Hid (wl = Um.wrs (Um.pw us.length) [] (pints ps)) := ⟨_, rfl⟩
    obtain ⟨pb, HPB⟩ : ∃ pb, Hid (pb = plainB kd us) := ⟨_, rfl⟩
    rw [← HWL.out] at hwl ⊢
    rw [← HPB.out] at hpl ⊢
    go_wp2_with fail
    refine (uvarint_any us.length _ (by omega)).mono ?_
    rintro e w6 ⟨rfl, hb6⟩
    have hb16 := hb15.trans (hb6.mono hb15.size)
    have hsz : (⟨pb.toArray⟩ : ByteArray).size = pb.length := by simp [ByteArray.size]
    go_wp2_with fail
    refine (text_any ⟨pb.toArray⟩ _ (by omega)).mono ?_
    rw [txt_arr, show (⟨pb.toArray⟩ : ByteArray).data.toList = pb from rfl]
    rintro e w7 ⟨rfl, hb7⟩
    have hb17 := hb16.trans (hb7.mono hb16.size)
    have htl := Um.txt_len pb (by omega)
    have hul2 := Um.uv_ten (n := us.length) (by omega)
    have HD : Hid (dictB kd us ps = Um.uv us.length ++ Um.txt pb ++ wl) := by show _ = _; rw [HPB.out, HWL.out]; rfl
    generalize Um.txt pb = tb at *
    generalize Um.uv us.length = ub at *
    clear hsz
    go_wp2
    go_ret2
    exact ⟨by rw [HD.out, ← cat3]; rfl, hb17⟩
  · exact absurd ((HR.out.2 _ (List.getElem_mem hi)).1) hN
theorem Uq.ex : ∀ (n : Nat) (vs : List Vl), vs.length = n → ∃ us ps, Uq vs us ps
  | 0, vs, h => by
    obtain rfl : vs = [] := List.eq_nil_of_length_eq_zero h
    exact ⟨[], [], Uq.nil⟩
  | n + 1, vs, h => by
    have hlt : n < vs.length := by omega
    obtain ⟨us, ps, hu⟩ := Uq.ex n (vs.take n) (by rw [List.length_take]; omega)
    have e : vs = vs.take n ++ [vs[n]] := by rw [← List.take_succ_eq_append_getElem hlt, List.take_of_length_le (by omega)]
    generalize vs[n] = v at e
    generalize vs.take n = ws at e hu
    subst e
    by_cases hm : v ∈ us
    · obtain ⟨p, hp, hpe⟩ := List.getElem_of_mem hm
      exact ⟨us, ps ++ [p], Uq.old hu (by rw [← hpe]; exact List.getElem?_eq_getElem hp)⟩
    · exact ⟨us ++ [v], ps ++ [us.length], Uq.new hu hm⟩
end Go.Proofs.YtjcmnngaecoddaaGreatDoor

namespace Go.Proofs.YtjcmnngaecoddaaGreatDoor
open Go.RowKit
/-- What Best holds: its captured variables. -/
structure BI (w0 : World) (kd : Int) (v : Value) (wx : World) (code : Int) (s : ByteArray) : Prop where
  hk : wx.cell? ⟨w0.heap.size, 0, none⟩ = some (.int .i64 kd)
  hl : wx.cell? ⟨w0.heap.size + 1, 0, none⟩ = some v
  hc : wx.cell? ⟨w0.heap.size + 2, 0, none⟩ = some (.int .i64 code)
  hs : wx.cell? ⟨w0.heap.size + 3, 0, none⟩ = some (.string s)
  fc : wx.frozen? ⟨w0.heap.size + 2, 0, none⟩ = false
  fs : wx.frozen? ⟨w0.heap.size + 3, 0, none⟩ = false
  size : w0.heap.size + 4 ≤ wx.heap.size
  old : Below w0.heap.size w0 wx
theorem BI.keep {w0 : World} {kd : Int} {v : Value} {wx w' : World} {code : Int} {s : ByteArray} (h : BI w0 kd v wx code s) (hb : Below wx.heap.size wx w') : BI w0 kd v w' code s := by
  have hz := h.size
  have h0 : w0.heap.size < wx.heap.size := by omega
  have h1 : w0.heap.size + 1 < wx.heap.size := by omega
  have h2 : w0.heap.size + 2 < wx.heap.size := by omega
  have h3 : w0.heap.size + 3 < wx.heap.size := by omega
  exact ⟨(hb.cell h0).trans h.hk, (hb.cell h1).trans h.hl, (hb.cell h2).trans h.hc, (hb.cell h3).trans h.hs, (hb.frozen h2).trans h.fc, (hb.frozen h3).trans h.fs, Nat.le_trans hz hb.size, h.old.trans (hb.mono h.old.size)⟩
theorem BI.put {w0 : World} {kd : Int} {v : Value} {wx : World} {code : Int} {s : ByteArray} (h : BI w0 kd v wx code s) (c' : Int) (t : ByteArray) : BI w0 kd v ((wx.setCell ⟨w0.heap.size + 2, 0, none⟩ (.int .i64 c')).setCell ⟨w0.heap.size + 3, 0, none⟩ (.string t)) c' t := by
  have ne : ∀ (W : World) (x j : Nat) (u : Value), j ≠ x → (W.setCell ⟨x, 0, none⟩ u).cell? ⟨j, 0, none⟩ = W.cell? ⟨j, 0, none⟩ := fun W x j u hj =>
    World.cell?_setCell_other _ _ _ _ (fun e => hj (by injection e with e _; exact e.symm))
  refine ⟨?_, ?_, ?_, ?_, by simpa using h.fc, by simpa using h.fs, by simpa using h.size, (h.old.setCell (show w0.heap.size ≤ w0.heap.size + 2 by omega) _).setCell (show w0.heap.size ≤ w0.heap.size + 3 by omega) _⟩
  · rw [ne _ _ _ _ (by omega), ne _ _ _ _ (by omega)]; exact h.hk
  · rw [ne _ _ _ _ (by omega), ne _ _ _ _ (by omega)]; exact h.hl
  · rw [ne _ _ _ _ (by omega)]; exact World.cell?_setCell_same _ _ _ h.hc
  · exact World.cell?_setCell_same _ _ _ ((ne _ _ _ _ (by omega)).trans h.hs)
set_option maxRecDepth 100000 in
set_option maxHeartbeats 1600000 in
theorem best1_dict (w0 : World) (kd : Int) (v : Value) (w : World) (code nc : Int) (s t : ByteArray) (hI : BI w0 kd v w code s)
    (hF : Calls Tryz.prog 69 #[.int .i64 kd, v] w fun e W' => e = .returned (.tuple #[.string t, .nilIface]) ∧ Below w.heap.size w W') :
    Calls Tryz.prog 68 #[.int .i64 nc, .func (.func 69) #[] #[], .pointer (some ⟨w0.heap.size, 0, none⟩), .pointer (some ⟨w0.heap.size + 1, 0, none⟩), .pointer (some ⟨w0.heap.size + 3, 0, none⟩), .pointer (some ⟨w0.heap.size + 2, 0, none⟩)] w fun e w' => e = .returned (.tuple #[]) ∧ BI w0 kd v w' (if t.size < s.size then nc else code) (if t.size < s.size then t else s) := by
  have hk := hI.hk
  have hl := hI.hl
  have HI : Hid _ := hI
  have HF : Hid _ := hF
  clear hI hF
  go_enter Tryz.func68, Tryz.ntmps68
  go_wp2_with fail
  refine Calls.mono HF.out ?_
  rintro e w1 ⟨rfl, hb1⟩
  have HI1 : Hid _ := HI.out.keep hb1
  clear hk hl
  have hc := HI1.out.hc
  have hs1 := HI1.out.hs
  have fc := HI1.out.fc
  have fs := HI1.out.fs
  by_cases hlt : t.size < s.size
  · have HP : Hid _ := HI1.out.put nc t
    go_wp2
    go_end0
    exact ⟨rfl, HP.out⟩
  · go_wp2
    go_end0
    exact ⟨rfl, HI1.out⟩
set_option maxRecDepth 100000 in
set_option maxHeartbeats 1600000 in
theorem best1_delta (w0 : World) (kd : Int) (v : Value) (w : World) (code nc : Int) (s t : ByteArray) (hI : BI w0 kd v w code s)
    (hF : Calls Tryz.prog 71 #[.int .i64 kd, v] w fun e W' => e = .returned (.tuple #[.string t, .nilIface]) ∧ Below w.heap.size w W') :
    Calls Tryz.prog 68 #[.int .i64 nc, .func (.func 71) #[] #[], .pointer (some ⟨w0.heap.size, 0, none⟩), .pointer (some ⟨w0.heap.size + 1, 0, none⟩), .pointer (some ⟨w0.heap.size + 3, 0, none⟩), .pointer (some ⟨w0.heap.size + 2, 0, none⟩)] w fun e w' => e = .returned (.tuple #[]) ∧ BI w0 kd v w' (if t.size < s.size then nc else code) (if t.size < s.size then t else s) := by
  have hk := hI.hk
  have hl := hI.hl
  have HI : Hid _ := hI
  have HF : Hid _ := hF
  clear hI hF
  go_enter Tryz.func68, Tryz.ntmps68
  go_wp2_with fail
  refine Calls.mono HF.out ?_
  rintro e w1 ⟨rfl, hb1⟩
  have HI1 : Hid _ := HI.out.keep hb1
  clear hk hl
  have hc := HI1.out.hc
  have hs1 := HI1.out.hs
  have fc := HI1.out.fc
  have fs := HI1.out.fs
  by_cases hlt : t.size < s.size
  · have HP : Hid _ := HI1.out.put nc t
    go_wp2
    go_end0
    exact ⟨rfl, HP.out⟩
  · go_wp2
    go_end0
    exact ⟨rfl, HI1.out⟩
set_option maxRecDepth 100000 in
set_option maxHeartbeats 1600000 in
theorem best1_prefix (w0 : World) (kd : Int) (v : Value) (w : World) (code nc : Int) (s t : ByteArray) (hI : BI w0 kd v w code s)
    (hF : Calls Tryz.prog 73 #[.int .i64 kd, v] w fun e W' => e = .returned (.tuple #[.string t, .nilIface]) ∧ Below w.heap.size w W') :
    Calls Tryz.prog 68 #[.int .i64 nc, .func (.func 73) #[] #[], .pointer (some ⟨w0.heap.size, 0, none⟩), .pointer (some ⟨w0.heap.size + 1, 0, none⟩), .pointer (some ⟨w0.heap.size + 3, 0, none⟩), .pointer (some ⟨w0.heap.size + 2, 0, none⟩)] w fun e w' => e = .returned (.tuple #[]) ∧ BI w0 kd v w' (if t.size < s.size then nc else code) (if t.size < s.size then t else s) := by
  have hk := hI.hk
  have hl := hI.hl
  have HI : Hid _ := hI
  have HF : Hid _ := hF
  clear hI hF
  go_enter Tryz.func68, Tryz.ntmps68
  go_wp2_with fail
  refine Calls.mono HF.out ?_
  rintro e w1 ⟨rfl, hb1⟩
  have HI1 : Hid _ := HI.out.keep hb1
  clear hk hl
  have hc := HI1.out.hc
  have hs1 := HI1.out.hs
  have fc := HI1.out.fc
  have fs := HI1.out.fs
  by_cases hlt : t.size < s.size
  · have HP : Hid _ := HI1.out.put nc t
    go_wp2
    go_end0
    exact ⟨rfl, HP.out⟩
  · go_wp2
    go_end0
    exact ⟨rfl, HI1.out⟩
theorem BI.puts {w0 : World} {kd : Int} {v : Value} {wx : World} {code : Int} {s : ByteArray} (h : BI w0 kd v wx code s) (t : ByteArray) : BI w0 kd v (wx.setCell ⟨w0.heap.size + 3, 0, none⟩ (.string t)) code t := by
  have ne : ∀ (W : World) (x j : Nat) (u : Value), j ≠ x → (W.setCell ⟨x, 0, none⟩ u).cell? ⟨j, 0, none⟩ = W.cell? ⟨j, 0, none⟩ := fun W x j u hj =>
    World.cell?_setCell_other _ _ _ _ (fun e => hj (by injection e with e _; exact e.symm))
  refine ⟨?_, ?_, ?_, ?_, by simpa using h.fc, by simpa using h.fs, by simpa using h.size, h.old.setCell (show w0.heap.size ≤ w0.heap.size + 3 by omega) _⟩
  · rw [ne _ _ _ _ (by omega)]; exact h.hk
  · rw [ne _ _ _ _ (by omega)]; exact h.hl
  · rw [ne _ _ _ _ (by omega)]; exact h.hc
  · exact World.cell?_setCell_same _ _ _ h.hs
/-- What Best's variables are at first. -/
def bw (w : World) (kd : Int) (v : Value) : World := (((w.alloc (.cells #[.int .i64 kd] 3)).alloc (.cells #[v] 25)).alloc (.cells #[.int .i64 0] 3)).alloc (.cells #[.string ⟨#[]⟩] 9)
theorem bw_size (w : World) (kd : Int) (v : Value) : (bw w kd v).heap.size = w.heap.size + 4 := by simp [bw]
theorem bw_below (w : World) (kd : Int) (v : Value) : Below w.heap.size w (bw w kd v) :=
  ((((Below.refl _ _).alloc (Nat.le_refl _) _).alloc (by simp) _).alloc (by simp; omega) _).alloc (by simp; omega) _
theorem bw_BI (w : World) (kd : Int) (v : Value) : BI w kd v (bw w kd v) 0 ⟨#[]⟩ := by
  have h0 : (bw w kd v).heap[w.heap.size]? = some (.cells #[.int .i64 kd] 3 (0, 0)) := blk_alloc (blk_alloc (blk_alloc (heap_alloc_new w _)))
  have h1 : (bw w kd v).heap[w.heap.size + 1]? = some (.cells #[v] 25 (0, 0)) := by
    have := heap_alloc_new (w.alloc (.cells #[.int .i64 kd] 3)) (.cells #[v] 25)
    rw [show (w.alloc (.cells #[.int .i64 kd] 3)).heap.size = w.heap.size + 1 by simp] at this
    exact blk_alloc (blk_alloc this)
  have h2 : (bw w kd v).heap[w.heap.size + 2]? = some (.cells #[.int .i64 0] 3 (0, 0)) := by
    have := heap_alloc_new ((w.alloc (.cells #[.int .i64 kd] 3)).alloc (.cells #[v] 25)) (.cells #[.int .i64 0] 3)
    rw [show ((w.alloc (.cells #[.int .i64 kd] 3)).alloc (.cells #[v] 25)).heap.size = w.heap.size + 2 by simp] at this
    exact blk_alloc this
  have h3 : (bw w kd v).heap[w.heap.size + 3]? = some (.cells #[.string ⟨#[]⟩] 9 (0, 0)) := by
    have := heap_alloc_new (((w.alloc (.cells #[.int .i64 kd] 3)).alloc (.cells #[v] 25)).alloc (.cells #[.int .i64 0] 3)) (.cells #[.string ⟨#[]⟩] 9)
    rw [show (((w.alloc (.cells #[.int .i64 kd] 3)).alloc (.cells #[v] 25)).alloc (.cells #[.int .i64 0] 3)).heap.size = w.heap.size + 3 by simp] at this
    exact this
  exact ⟨cell_of_one h0, cell_of_one h1, cell_of_one h2, cell_of_one h3, free_of_one h2, free_of_one h3, by rw [bw_size]; omega, bw_below w kd v⟩
/-- A way is tried. -/
def bst (b : Int × ByteArray) (nc : Int) (t : ByteArray) : Int × ByteArray := (if t.size < b.2.size then nc else b.1, if t.size < b.2.size then t else b.2)
/-- The best way, and its bytes. -/
def bestP (kd : Int) (vs us : List Vl) (ps : List Nat) : Int × ByteArray :=
  if kd = 2 ∨ kd = 3 then bst (bst (0, ⟨(plainB kd vs).toArray⟩) 1 ⟨(dictB kd us ps).toArray⟩) 2 ⟨(deltaB vs).toArray⟩
  else if kd = 4 then bst (bst (0, ⟨(plainB kd vs).toArray⟩) 1 ⟨(dictB kd us ps).toArray⟩) 3 ⟨(Um.prefs [] (bys (vtx vs))).toArray⟩
  else bst (0, ⟨(plainB kd vs).toArray⟩) 1 ⟨(dictB kd us ps).toArray⟩
end Go.Proofs.YtjcmnngaecoddaaGreatDoor

namespace Go.Proofs.YtjcmnngaecoddaaGreatDoor
open Go.RowKit
theorem hasPrefix_any (kd : Int) (w : World) : Calls Tryz.prog 72 #[.int .i64 kd] w fun e w' => e = .returned (.bool (decide (kd = 4))) ∧ w' = w := by
  by_cases h4 : kd = 4
  · subst h4
    go_enter Tryz.func72, Tryz.ntmps72
    go_wp2
    go_ret
    exact ⟨rfl, rfl⟩
  · have e : decide (kd = 4) = false := by simp [h4]
    have e2 : (kd == 4) = false := by simp [h4]
    rw [e]
    go_enter Tryz.func72, Tryz.ntmps72
    go_wp2
    go_ret
    exact ⟨rfl, rfl⟩
theorem ok_bytes {kd : Int} {v : Vl} (h4 : kd = 4) (h : v.Ok kd) : v.s.size ≤ 100 := by
  subst h4
  unfold Vl.Ok OkV at h
  omega
theorem loadI {W : World} {g : Nat} {v : Value} (h : W.cell? ⟨g, 0, none⟩ = some v) : (loadVar 3 ⟨g, 0, none⟩).run Tryz.prog W = .ok v W := by go_simp
theorem loadS {W : World} {g : Nat} {v : Value} (h : W.cell? ⟨g, 0, none⟩ = some v) : (loadVar 9 ⟨g, 0, none⟩).run Tryz.prog W = .ok v W := by go_simp
theorem results_cct {P : Program} {fn : Func} {p q u : Tmp} {t1 t2 : TypeId} (h : fn.results = #[.cell p t1, .cell q t2, .tmp u]) (tmps : Array Value) (w : World) (a b : Addr) (x y : Value)
    (hp : tmps.getD p undef = .pointer (some a)) (hq : tmps.getD q undef = .pointer (some b)) (hx : (loadVar t1 a).run P w = .ok x w) (hy : (loadVar t2 b).run P w = .ok y w) :
    (results fn tmps).run P w = .ok (.tuple #[x, y, tmps.getD u undef]) w := by
  have hp' : tmps[p]?.getD undef = .pointer (some a) := by simpa using hp
  have hq' : tmps[q]?.getD undef = .pointer (some b) := by simpa using hq
  simp [results, h, hp', hq', asAddr, Sem.run_bind, Result.andThen, hx, hy]
set_option maxRecDepth 100000 in
set_option maxHeartbeats 3200000 in
/-- Best of right values. -/
theorem best_right (a : Option Addr) (vs : List Vl) (c : Nat) (kd : Int) (w : World) (kt st bt : TypeId) (kp sp bp : Value) (hgk : w.cell? ⟨3, 0, none⟩ = some (.iface kt kp)) (hgs : w.cell? ⟨0, 0, none⟩ = some (.iface st sp)) (hgb : w.cell? ⟨2, 0, none⟩ = some (.iface bt bp)) (hn : vs.length ≤ 700) (hl : LiesV w a vs) (hr : Right kd vs) (us : List Vl) (ps : List Nat) (hu : Uq vs us ps) :
    Calls Tryz.prog 37 #[.int .i64 kd, .slice a vs.length c] w fun e w' => e = .returned (.tuple #[.int .i64 (bestP kd vs us ps).1, .string (bestP kd vs us ps).2, .nilIface]) ∧ Below w.heap.size w w' := by
  have HGK : Hid _ := hgk
  have HGS : Hid _ := hgs
  have HGB : Hid _ := hgb
  have HL : Hid (LiesV w a vs) := hl
  have HR : Hid (Right kd vs) := hr
  have HU : Hid (Uq vs us ps) := hu
  clear hgk hgs hgb hl hr hu
  have hbw := bw_below w kd (.slice a vs.length c)
  have HP0 := plain_right a vs c kd (bw w kd (.slice a vs.length c)) kt st kp sp (ck' HGK.out hbw) (ck' HGS.out hbw) (by omega) HR.out.1.1 HR.out.1.2 (HL.out.keep hbw) (fun j h => (HR.out.2 _ (List.getElem_mem h)).1) (fun j h => (HR.out.2 _ (List.getElem_mem h)).2.2.1)
  have HB0 : Hid _ := bw_BI w kd (.slice a vs.length c)
  have hmf : ∀ (fn : Fn) (first cap : Array Value) (W : World), (Instr.makeFunc fn first cap).run Tryz.prog W = .ok (.func fn first cap) W := fun _ _ _ _ => rfl
  have hk0 := HB0.out.hk
  have hl0 := HB0.out.hl
  unfold bw at hk0 hl0
  obtain ⟨pb, HPB⟩ : ∃ pb : ByteArray, Hid (pb = ⟨(plainB kd vs).toArray⟩) := ⟨_, rfl⟩
  obtain ⟨db, HDB⟩ : ∃ db : ByteArray, Hid (db = ⟨(dictB kd us ps).toArray⟩) := ⟨_, rfl⟩
  rw [← HPB.out] at HP0
  have HDF : Hid (∀ W, Below w.heap.size w W → Calls Tryz.prog 69 #[.int .i64 kd, .slice a vs.length c] W fun e w' => e = .returned (.tuple #[.string db, .nilIface]) ∧ Below W.heap.size W w') := fun W hW => by
    rw [HDB.out]
    exact dict_right a vs c kd W kt st kp sp (ck' HGK.out hW) (ck' HGS.out hW) hn (HL.out.keep hW) HR.out us ps HU.out
  go_enter Tryz.func37, Tryz.ntmps37
  go_wp2_with fail
  refine HP0.mono ?_
  clear HP0 hk0 hl0
  rintro e w1 ⟨rfl, hb1⟩
  have HI1 : Hid _ := HB0.out.keep hb1
  have hs1 := HI1.out.hs
  have fs1 := HI1.out.fs
  have HI2 : Hid _ := HI1.out.puts pb
  clear HB0
  go_wp2_with fail
  refine (best1_dict w kd _ _ 0 1 pb db HI2.out (HDF.out _ HI2.out.old)).mono ?_
  rintro e w2 ⟨rfl, hI3⟩
  obtain ⟨cd, HC⟩ : ∃ cd : Int, Hid (cd = if db.size < pb.size then 1 else 0) := ⟨_, rfl⟩
  obtain ⟨sb, HSb⟩ : ∃ sb : ByteArray, Hid (sb = if db.size < pb.size then db else pb) := ⟨_, rfl⟩
  rw [← HC.out, ← HSb.out] at hI3
  have hk3 := hI3.hk
  have HI3 : Hid _ := hI3
  clear hI3 hs1 fs1
  by_cases hd : kd = 2 ∨ kd = 3
  · have hdd : decide (kd = 2 ∨ kd = 3) = true := by simp [hd]
    have hpp : decide (kd = 4) = false := by simp; omega
    obtain ⟨tb, HTB⟩ : ∃ tb : ByteArray, Hid (tb = ⟨(deltaB vs).toArray⟩) := ⟨_, rfl⟩
    have HB : Hid (bestP kd vs us ps = (if tb.size < sb.size then 2 else cd, if tb.size < sb.size then tb else sb)) := by
      show _ = _
      unfold bestP
      rw [if_pos hd, ← HPB.out, ← HDB.out, ← HTB.out, HC.out, HSb.out]
      rfl
    have hF := delta_right a vs c kd w2 kt kp (ck' HGK.out HI3.out.old) (by omega) hd (HL.out.keep HI3.out.old) (fun j h => (HR.out.2 _ (List.getElem_mem h)).1) (fun j h => (HR.out.2 _ (List.getElem_mem h)).2.2.1)
    rw [← HTB.out] at hF
    have HF : Hid _ := hF
    clear hF hd
    go_wp2_with fail
    refine (hasDelta_any kd _).mono ?_
    rw [hdd]
    rintro e w3 ⟨rfl, hw⟩
    obtain rfl := hw.symm
    clear hk3
    go_wp2_with fail
    refine (best1_delta w kd _ w2 cd 2 sb tb HI3.out HF.out).mono ?_
    rintro e w4 ⟨rfl, hI4⟩
    generalize (if tb.size < sb.size then (2 : Int) else cd) = c4 at hI4 HB
    generalize (if tb.size < sb.size then tb else sb) = s4 at hI4 HB
    have hk4 := hI4.hk
    have HI4 : Hid _ := hI4
    clear hI4
    go_wp2_with fail
    refine (hasPrefix_any kd _).mono ?_
    rw [hpp]
    rintro e w5 ⟨rfl, hw⟩
    obtain rfl := hw.symm
    have hc9 := HI4.out.hc
    have hs9 := HI4.out.hs
    have fc9 := HI4.out.fc
    have fs9 := HI4.out.fs
    clear hk4
    go_wp2
    go_region
    all_goals (try go_wp2)
    all_goals
      (try simp only [Exit.inBlock, Exit.then])
      refine bodyPost_ret (results_cct rfl _ _ ⟨w.heap.size + 2, 0, none⟩ ⟨w.heap.size + 3, 0, none⟩ (.int .i64 c4) (.string s4) rfl rfl (loadI (HI4.out.put c4 s4).hc) (loadS (HI4.out.put c4 s4).hs)) rfl ?_
      exact ⟨by rw [HB.out]; rfl, (HI4.out.put c4 s4).old.drew⟩
  · have hdd : decide (kd = 2 ∨ kd = 3) = false := by simp only [decide_eq_false_iff_not]; exact hd
    by_cases h4 : kd = 4
    · have hpp : decide (kd = 4) = true := by simp [h4]
      obtain ⟨tb, HTB⟩ : ∃ tb : ByteArray, Hid (tb = ⟨(Um.prefs [] (bys (vtx vs))).toArray⟩) := ⟨_, rfl⟩
      have HB : Hid (bestP kd vs us ps = (if tb.size < sb.size then 3 else cd, if tb.size < sb.size then tb else sb)) := by
        show _ = _
        unfold bestP
        rw [if_neg hd, if_pos h4, ← HPB.out, ← HDB.out, ← HTB.out, HC.out, HSb.out]
        rfl
      have hF := prefixValues_any a vs c kd w2 (.iface bt bp) (ck' HGB.out HI3.out.old) (by omega) (HL.out.keep HI3.out.old) (fun v hv => ok_bytes h4 (HR.out.2 v hv).1)
      rw [← HTB.out] at hF
      have HF : Hid _ := hF
      clear hF hd h4
      go_wp2_with fail
      refine (hasDelta_any kd _).mono ?_
      rw [hdd]
      rintro e w3 ⟨rfl, hw⟩
      obtain rfl := hw.symm
      go_wp2_with fail
      refine (hasPrefix_any kd _).mono ?_
      rw [hpp]
      rintro e w5 ⟨rfl, hw⟩
      obtain rfl := hw.symm
      clear hk3
      go_wp2_with fail
      refine (best1_prefix w kd _ w2 cd 3 sb tb HI3.out HF.out).mono ?_
      rintro e w4 ⟨rfl, hI4⟩
      generalize (if tb.size < sb.size then (3 : Int) else cd) = c4 at hI4 HB
      generalize (if tb.size < sb.size then tb else sb) = s4 at hI4 HB
      have HI4 : Hid _ := hI4
      clear hI4
      have hc9 := HI4.out.hc
      have hs9 := HI4.out.hs
      have fc9 := HI4.out.fc
      have fs9 := HI4.out.fs
      go_wp2
      go_region
      all_goals (try go_wp2)
      all_goals
        (try simp only [Exit.inBlock, Exit.then])
        refine bodyPost_ret (results_cct rfl _ _ ⟨w.heap.size + 2, 0, none⟩ ⟨w.heap.size + 3, 0, none⟩ (.int .i64 c4) (.string s4) rfl rfl (loadI (HI4.out.put c4 s4).hc) (loadS (HI4.out.put c4 s4).hs)) rfl ?_
        exact ⟨by rw [HB.out]; rfl, (HI4.out.put c4 s4).old.drew⟩
    · have hpp : decide (kd = 4) = false := by simp [h4]
      have HB : Hid (bestP kd vs us ps = (cd, sb)) := by
        show _ = _
        unfold bestP
        rw [if_neg hd, if_neg h4, ← HPB.out, ← HDB.out, HC.out, HSb.out]
        rfl
      clear hd h4
      go_wp2_with fail
      refine (hasDelta_any kd _).mono ?_
      rw [hdd]
      rintro e w3 ⟨rfl, hw⟩
      obtain rfl := hw.symm
      go_wp2_with fail
      refine (hasPrefix_any kd _).mono ?_
      rw [hpp]
      rintro e w5 ⟨rfl, hw⟩
      obtain rfl := hw.symm
      clear hk3
      have hc9 := HI3.out.hc
      have hs9 := HI3.out.hs
      have fc9 := HI3.out.fc
      have fs9 := HI3.out.fs
      go_wp2
      go_region
      all_goals (try go_wp2)
      all_goals
        (try simp only [Exit.inBlock, Exit.then])
        refine bodyPost_ret (results_cct rfl _ _ ⟨w.heap.size + 2, 0, none⟩ ⟨w.heap.size + 3, 0, none⟩ (.int .i64 cd) (.string sb) rfl rfl (loadI (HI3.out.put cd sb).hc) (loadS (HI3.out.put cd sb).hs)) rfl ?_
        exact ⟨by rw [HB.out]; rfl, (HI3.out.put cd sb).old.drew⟩
end Go.Proofs.YtjcmnngaecoddaaGreatDoor

namespace Go.Proofs.YtjcmnngaecoddaaGreatDoor
open Go.RowKit
theorem maxs_abv (lo : Int) : ∀ (ds : List Int) (x : Int), lo ≤ x → (∀ d ∈ ds, lo ≤ d) → (ds.map fun d => (d - lo).toNat).foldl max (x - lo).toNat = (ds.foldl max x - lo).toNat
  | [], _, _, _ => rfl
  | d :: ds, x, hx, h => by
    have hd := h d (by simp)
    simp only [List.map_cons, List.foldl_cons]
    rw [show max (x - lo).toNat (d - lo).toNat = (max x d - lo).toNat by omega]
    exact maxs_abv lo ds (max x d) (by omega) (fun y hy => h y (by simp [hy]))
theorem abv_most {ds : List Int} (h0 : 0 < ds.length) : (abv ds).foldl max 0 = (highs ds - lows ds).toNat := by
  have h := maxs_abv (lows ds) ds (lows ds) (Int.le_refl _) (fun d hd => lows_le hd)
  rw [Int.sub_self, Int.toNat_zero] at h
  unfold abv
  rw [h]
  have h1 := (maxs_ge ds (lows ds)).2 _ (highs_in h0)
  rcases maxs_in ds (lows ds) with e | e
  · have := highs_ge (lows_in h0)
    rw [e] at h1 ⊢
    rw [show highs ds = lows ds by omega]
  · have := highs_ge e
    rw [show ds.foldl max (lows ds) = highs ds by omega]
theorem take_max (us : List Nat) (q : Nat) (h : q < us.length) : (us.take (q + 1)).foldl max 0 = max ((us.take q).foldl max 0) us[q] := by
  rw [List.take_succ_eq_append_getElem h, List.foldl_append]; rfl
theorem cat4 (a b c d : List UInt8) : (⟨a.toArray⟩ : ByteArray) ++ ⟨b.toArray⟩ ++ ⟨c.toArray⟩ ++ ⟨d.toArray⟩ = ⟨(a ++ b ++ c ++ d).toArray⟩ := by rw [arr_app, arr_app, arr_app]
theorem own_lies {w : World} {B e : Nat} {v : Value} {xs : List Value} (h : w.ownsRow B e 1 v xs.length xs) (h0 : 0 < xs.length) : ∃ g c, v = .slice (some ⟨g, 0, none⟩) xs.length c ∧ Lies w (some ⟨g, 0, none⟩) xs := by
  rcases h.2 with ⟨_, hz⟩ | ⟨g, cap, cur, rfl, _, hk, _, _, hcs, ht⟩
  · omega
  · refine ⟨g, cap, rfl, fun j hj => ⟨g, 0, rfl, ?_⟩⟩
    rw [Nat.zero_add, cell_of_row _ g j cur e (0, 0) hk]
    have h1 : (cur.toList.take (xs.length * 1))[j]? = some xs[j] := by rw [ht]; exact List.getElem?_eq_getElem hj
    rw [List.getElem?_take_of_lt (by omega), Array.getElem?_toList] at h1
    exact h1
set_option maxRecDepth 100000 in
set_option maxHeartbeats 3200000 in
theorem deltaOf_any (a : Option Addr) (vs : List Vl) (c : Nat) (w : World) (hn : vs.length ≤ 20000) (hl : LiesV w a vs) (hx : ∀ j (h : j < vs.length), -9223372036854775808 ≤ vs[j].n ∧ vs[j].n ≤ 9223372036854775807) :
    Calls Tryz.prog 47 #[.slice a vs.length c] w fun e w' => e = .returned (.string ⟨(deltaB vs).toArray⟩) ∧ Below w.heap.size w w' := by
  obtain ⟨i6, hi6, hz60, hz61, hz62⟩ := info_parts Tryz.infoI64
  obtain ⟨iu, hiu, hu0, hu1, hu2⟩ := info_parts Tryz.infoU64
  have HL : Hid (LiesV w a vs) := hl
  have HX : Hid (∀ j (h : j < vs.length), -9223372036854775808 ≤ vs[j].n ∧ vs[j].n ≤ 9223372036854775807) := hx
  clear hl hx
  by_cases h0 : vs.length = 0
  · have HD : Hid (deltaB vs = []) := by show _ = _; unfold deltaB; rw [if_pos h0]
    rw [h0]
    go_enter Tryz.func47, Tryz.ntmps47
    go_wp2
    go_ret
    exact ⟨by rw [HD.out]; rfl, Below.refl _ _⟩
  · obtain ⟨b, o, rfl, hc0, hc1, hc2⟩ := HL.out 0 (by omega)
    have hx0 := HX.out 0 (by omega)
    have HD : Hid (deltaB vs = Um.uv (zig vs[0].n) ++ stepsB (difs vs) ((vs.length - 1 + 31) / 32)) := by
      show _ = _
      unfold deltaB
      rw [if_neg h0]
      simp [vns, List.getD, show 0 < vs.length by omega]
    have hpos : 0 < vs.length := by omega
    generalize vs[0] = v0 at *
    obtain ⟨k0, n0, s0⟩ := v0
    simp only [Nat.zero_mul, Nat.add_zero] at hc0 hc1 hc2 hx0 HD
    have hl0 : ((vs.length : Int) == 0) = false := by simp only [beq_eq_false_iff_ne, ne_eq]; omega
    go_enter Tryz.func47, Tryz.ntmps47
    go_wp2_with fail
    refine (signedOf_any n0 _ hx0.1 hx0.2).mono ?_
    rintro e w1 ⟨rfl, hb1⟩
    have huv := Um.uv_ten (zig_lt hx0.1 hx0.2)
    obtain ⟨m1, hm1⟩ : ∃ m1 : List UInt8, m1 = Um.uv (zig n0) := ⟨_, rfl⟩
    rw [← hm1] at huv HD ⊢
    clear hm1 hc0 hc1 hc2
    obtain ⟨n, hvn⟩ : ∃ n, vs.length = n + 1 := ⟨vs.length - 1, by omega⟩
    have hdl := difs_len vs
    have HDF : Hid (∀ r, r < n → (difs vs).getD r 0 = wrap64 ((vns vs).getD (r + 1) 0 - (vns vs).getD r 0)) := fun r hr => by
      simp [difs, List.getD, show r < vs.length - 1 by omega, dif]
    have HDO : Hid _ := difs_ok (vs := vs)
    rw [hvn, Nat.add_sub_cancel] at hdl HD
    obtain ⟨ds, HDS⟩ : ∃ ds, Hid (ds = difs vs) := ⟨_, rfl⟩
    rw [← HDS.out] at hdl HD HDF HDO
    rw [hvn]
    have HVN : Hid (vs.length = n + 1) := hvn
    have hn2 : n ≤ 20000 := by omega
    clear hvn hn hpos h0 hl0
    go_wp2
    go_loopw [3, 4] (fun o x wr => ∃ j : Nat, 32 * j < n + 32 ∧ x = .int .i64 (((32 * j : Nat) : Int) + 1) ∧ o = .string ⟨(m1 ++ stepsB ds j).toArray⟩ ∧ (m1 ++ stepsB ds j).length ≤ 10 + 300 * j ∧ Below w.heap.size w wr) (fun _ x _ => n + 33 - (intOf x).toNat)
    case atStart => exact ⟨0, by omega, rfl, by simp [stepsB], by simpa [stepsB] using huv, hb1⟩
    case round =>
      clear hb1
      obtain ⟨j, hj, rfl, rfl, hroom, hb⟩ := hrel
      by_cases hlt : 32 * j < n
      · obtain ⟨es, HE⟩ : ∃ es : List Int, Hid (es = (ds.drop (32 * j)).take 32) := ⟨_, rfl⟩
        have hel : es.length = min 32 (n - 32 * j) := by rw [HE.out, List.length_take, List.length_drop, hdl]
        have HEX : Hid (∀ d ∈ es, -9223372036854775808 ≤ d ∧ d ≤ 9223372036854775807) := fun d hd => HDO.out d (List.mem_of_mem_drop (List.mem_of_mem_take (by rw [← HE.out]; exact hd)))
        have HEG : Hid (∀ q (h : q < es.length), es[q] = ds.getD (32 * j + q) 0) := fun q h => by
          have h2 := HE.out
          subst h2
          rw [List.length_take, List.length_drop] at h
          rw [List.getElem_take, List.getElem_drop, List.getD_eq_getElem?_getD, List.getElem?_eq_getElem (by omega)]
          rfl
        have HSB : Hid (m1 ++ stepsB ds (j + 1) = m1 ++ stepsB ds j ++ blkB es) := by
          show _ = _
          rw [stepsB_succ, stepB, ← HE.out, List.append_assoc]
        have hbl := blkB_len (ds := es) (by omega) (by omega) HEX.out
        obtain ⟨p, HP⟩ : ∃ p, Hid (p = es.length) := ⟨_, rfl⟩
        rw [← HP.out] at hel
        have hp : p ≤ 32 ∧ 32 * j + p ≤ n ∧ 0 < p ∧ (p < 32 → 32 * j + p = n) := by omega
        clear hel
        obtain ⟨jj, HJ⟩ : ∃ jj, Hid (jj = 32 * j) := ⟨_, rfl⟩
        rw [← HJ.out] at hp hlt ⊢
        go_wp2
        go_loopw [5, 6] (fun d k wq => ∃ q r : Nat, q ≤ p ∧ Hid (r = jj + q) ∧ k = .int .i64 ((r : Int) + 1) ∧ Hid (wq.ownsRow w.heap.size 2 1 d (i64s (es.take q)).length (i64s (es.take q))) ∧ Below w.heap.size w wq) (fun _ k _ => jj + 40 - (intOf k).toNat)
        case atStart => exact ⟨0, jj, Nat.zero_le _, rfl, rfl, World.ownsRow_nil _ _ _ _, hb⟩
        case round =>
          clear hb
          obtain ⟨q, r, hq, HR, rfl, HO, hb⟩ := hrel
          by_cases hqp : q < p
          · have hr1 : r < jj + 32 ∧ r < n := by rw [HR.out]; omega
            obtain ⟨b1, o1, e1, _, hd1, _⟩ := (HL.out.keep hb) r (by rw [HVN.out]; omega)
            obtain ⟨rfl, rfl⟩ : b = b1 ∧ o = o1 := by simpa using e1
            obtain ⟨b2, o2, e2, _, hd2, _⟩ := (HL.out.keep hb) (r + 1) (by rw [HVN.out]; omega)
            obtain ⟨rfl, rfl⟩ : b = b2 ∧ o = o2 := by simpa using e2
            clear e1 e2
            have HQ : Hid (es.take (q + 1) = es.take q ++ [wrap64 ((vs[r + 1]'(by rw [HVN.out]; omega)).n - (vs[r]'(by rw [HVN.out]; omega)).n)]) := by
              show _ = _
              have h1 : r < vs.length := by rw [HVN.out]; omega
              have h2 : r + 1 < vs.length := by rw [HVN.out]; omega
              rw [List.take_succ_eq_append_getElem (by rw [← HP.out]; exact hqp), HEG.out q (by rw [← HP.out]; exact hqp), ← HJ.out, ← HR.out, HDF.out r (by omega)]
              simp [vns, List.getD, h1, h2]
            generalize (vs[r + 1]'(by rw [HVN.out]; omega)).n = x1 at *
            generalize (vs[r]'(by rw [HVN.out]; omega)).n = x0 at *
            have hr2 : r < 30000 := by omega
            have hr0 : (0 : Int) ≤ (r : Int) + 1 := by omega
            have hwr : IntKind.i64.wrap (r : Int) = r := by rw [IntKind.wrap_i64]; omega
            have hr3 : (r : Int) < (n : Int) + 1 := by omega
            have hql : (i64s (es.take q)).length ≤ 20000 := by rw [i64s_len, List.length_take]; omega
            obtain ⟨cs, HCS⟩ : ∃ cs, Hid (cs = i64s (es.take q)) := ⟨_, rfl⟩
            rw [← HCS.out] at HO hql
            have HQC : Hid (i64s (es.take (q + 1)) = cs ++ [.int .i64 (IntKind.i64.wrap (x1 - x0))]) := by
              show _ = _
              rw [HQ.out, HCS.out, IntKind.wrap_i64]
              simp [i64s, wrap64]
            go_wp2_with fail
            go_region_law (refine step_own_slice rfl _ _ 132 rfl w.heap.size 2 i6 (.int .i64 0) 1 8 Tryz.underlyingI64s hi6 hz60 hz61 hz62 rfl (by decide) _ cs.length cs rfl (HO.out.alloc _) ⟨wr.heap.size, 0, none⟩ 1 1 [.int .i64 (IntKind.i64.wrap (x1 - x0))] rfl rfl (show ∀ j u, _ → (wr.alloc _).cell? _ = some u from cell_one_new _ _ _) (by intro u hu; simp at hu; subst hu; rfl) (by unfold maxLen; omega) (by omega) (by have := hb.size; simp; omega) ?_; intro v' w3 hown3 hgrow3; have HO3 : Hid _ := hown3; have hb3 : Below w.heap.size w w3 := ((hb.alloc hb.size _).drew).grown hgrow3 (by have := hb.size; simp; omega) (fun k hk => (HO.out.lt k hk).1))
            all_goals
              go_wp2
              go_roundw
              case rel =>
                refine ⟨q + 1, r + 1, by omega, ?_, by go_num, ?_, hb3⟩
                · show _ = _
                  rw [HR.out]; omega
                · rw [HQC.out, List.length_append]
                  exact HO3
              case measure => simp [intOf]; omega
          · obtain rfl : q = p := by omega
            have htk : es.take q = es := List.take_of_length_le (by rw [← HP.out]; omega)
            rw [htk] at HO
            clear htk
            have hr1 : ¬ (r < jj + 32 ∧ r < n) := by rw [HR.out]; omega
            have hlq : (i64s es).length = q := by rw [i64s_len, ← HP.out]
            obtain ⟨g, cd, hsl, hld⟩ := own_lies HO.out (by rw [hlq]; omega)
            rw [hlq] at HO hsl
            subst hsl
            have HLd : Hid (∀ W : World, W.ownsRow w.heap.size 2 1 (.slice (some ⟨g, 0, none⟩) q cd) q (i64s es) → ∀ k (h : k < es.length), W.cell? ⟨g, k, none⟩ = some (.int .i64 es[k])) := fun W hW k hk => by
              obtain ⟨g', c', e', hl⟩ := own_lies (xs := i64s es) (by rw [hlq]; exact hW) (by rw [i64s_len]; omega)
              injection e' with e1 e2 e3
              injection e1 with e1
              injection e1 with e1 _ _
              subst e1
              obtain ⟨b', o', e', hc⟩ := hl k (by rw [i64s_len]; exact hk)
              injection e' with e'
              injection e' with e1 e2 _
              subst e1 e2
              rw [Nat.zero_add] at hc
              simpa [i64s] using hc
            clear hld
            have he0 := HLd.out _ HO.out 0 (by rw [← HP.out]; omega)
            have HE0 : Hid (es[0]'(by rw [← HP.out]; omega) = es.getD 0 0) := by show _ = _; simp [List.getD, show 0 < es.length by rw [← HP.out]; omega]
            rw [HE0.out] at he0
            have hcase : (r < jj + 32 ∧ ¬ r < n) ∨ ¬ r < jj + 32 := by omega
            clear hr1
            rcases hcase with ⟨hc1, hc2⟩ | hc1
            all_goals
              go_wp2
              clear he0
              go_loop [7, 8] (fun le k => ∃ m : Nat, m ≤ q ∧ k = .int .i64 m ∧ le = .int .i64 (mins (es.getD 0 0) es m)) (fun _ k => q - (intOf k).toNat)
              case atStart => exact ⟨0, Nat.zero_le _, rfl, rfl⟩
              case round =>
                obtain ⟨m, hm, rfl, rfl⟩ := hrel
                by_cases hmq : m < q
                · have hec := HLd.out _ HO.out m (by rw [← HP.out]; exact hmq)
                  have HMS : Hid (mins (es.getD 0 0) es (m + 1) = min (mins (es.getD 0 0) es m) (es[m]'(by rw [← HP.out]; exact hmq))) := mins_succ _ _ _ _
                  generalize es[m]'(by rw [← HP.out]; exact hmq) = y at *
                  generalize mins (es.getD 0 0) es m = z at *
                  by_cases hyz : y < z
                  · go_wp2
                    go_round
                    case rel => exact ⟨m + 1, by omega, by go_num, by rw [HMS.out, Int.min_eq_right (by omega)]⟩
                    case measure => simp [intOf]; omega
                  · go_wp2
                    go_round
                    case rel => exact ⟨m + 1, by omega, by go_num, by rw [HMS.out, Int.min_eq_left (by omega)]⟩
                    case measure => simp [intOf]; omega
                · obtain rfl : m = q := by omega
                  have HLO : Hid (mins (es.getD 0 0) es m = lows es) := by
                    show _ = _
                    unfold mins lows
                    rw [List.take_of_length_le (by rw [← HP.out]; omega)]
                  rw [HLO.out]
                  have hpos : 0 < es.length := by rw [← HP.out]; omega
                  have hlo := HEX.out _ (lows_in hpos)
                  have hhi := HEX.out _ (highs_in hpos)
                  have hlh := lows_le (highs_in hpos)
                  obtain ⟨ha1, ha2⟩ := abv_lt HEX.out hpos
                  have HA1 : Hid (∀ x ∈ abv es, x < 2 ^ wdt es) := ha1
                  have HBB : Hid (blkB es = Um.uv (zig (lows es)) ++ (Um.bt (wdt es : Nat) :: Um.lit (Um.num (wdt es) (abv es)) ((m * wdt es + 7) / 8))) := by show _ = _; rw [HP.out]; rfl
                  have HWD : Hid (wdt es = Lib.bitLen ((abv es).foldl max 0)) := by show _ = _; rw [abv_most hpos]; rfl
                  have hmo : (abv es).foldl max 0 < 18446744073709551616 := by rw [abv_most hpos]; omega
                  have HAB : Hid (∀ k (h : k < es.length), lows es ≤ es[k] ∧ es[k] ≤ 9223372036854775807 ∧ (abv es)[k]? = some (es[k] - lows es).toNat) := fun k h => ⟨lows_le (List.getElem_mem h), (HEX.out _ (List.getElem_mem h)).2, by simp [abv, h]⟩
                  have hal : (abv es).length = m := by rw [abv_len, ← HP.out]
                  clear ha1 HLO hpos
                  generalize abv es = us at *
                  generalize wdt es = wd at *
                  generalize lows es = lo at *
                  go_wp2
                  go_loopw [9, 10, 11] (fun u mo k wq => ∃ q : Nat, q ≤ m ∧ k = .int .i64 q ∧ mo = .int .u64 (((us.take q).foldl max 0 : Nat) : Int) ∧ Hid (wq.ownsRow w.heap.size 65 1 u (u64s (us.take q)).length (u64s (us.take q))) ∧ Hid (wq.ownsRow w.heap.size 2 1 (.slice (some ⟨g, 0, none⟩) m cd) m (i64s es)) ∧ Below w.heap.size w wq) (fun _ _ k _ => m - (intOf k).toNat)
                  case atStart => exact ⟨0, Nat.zero_le _, rfl, rfl, World.ownsRow_nil _ _ _ _, HO, hb⟩
                  case round =>
                    clear HO hb
                    obtain ⟨q, hqm, rfl, rfl, HU, HO, hb⟩ := hrel
                    by_cases hq2 : q < m
                    · have hec := HLd.out _ HO.out q (by rw [← HP.out]; exact hq2)
                      obtain ⟨hy1, hy2, hy3⟩ := HAB.out q (by rw [← HP.out]; exact hq2)
                      obtain ⟨hq3, hy4⟩ := List.getElem?_eq_some_iff.1 hy3
                      have HTM : Hid ((us.take (q + 1)).foldl max 0 = max ((us.take q).foldl max 0) us[q]) := take_max us q hq3
                      have HUQ : Hid (u64s (us.take (q + 1)) = u64s (us.take q) ++ [.int .u64 (us[q] : Nat)]) := by
                        show _ = _
                        rw [List.take_succ_eq_append_getElem hq3]
                        unfold u64s
                        rw [List.map_append]
                        rfl
                      have hul : (u64s (us.take q)).length ≤ 20000 := by rw [u64s_len, List.length_take]; omega
                      generalize es[q]'(by rw [← HP.out]; exact hq2) = y at *
                      have hx1 : ((us[q] : Nat) : Int) = y - lo := by rw [hy4]; omega
                      obtain ⟨x, hx⟩ : ∃ x, us[q] = x := ⟨_, rfl⟩
                      rw [hx] at HTM HUQ hx1
                      have HX1 : Hid ((x : Int) = y - lo) := hx1
                      rw [hx1] at HUQ
                      clear hx hy3 hy4 hx1
                      generalize (us.take q).foldl max 0 = mo at *
                      generalize u64s (us.take q) = cu at *
                      have hcv : IntKind.u64.wrap (wrap64 (y - lo)) = y - lo := by
                        rw [IntKind.wrap_u64]
                        unfold wrap64
                        omega
                      by_cases hmo2 : (mo : Int) < y - lo
                      · go_wp2_with (at_builtin; refine wpList_append_own _ rfl _ _ 96 rfl w.heap.size 65 iu (.int .u64 0) 1 8 Tryz.underlyingU64s hiu hu0 hu1 hu2 rfl (by decide) _ cu.length cu rfl (HU.out.alloc _) ⟨_, 0, none⟩ 1 1 [.int .u64 (y - lo)] rfl rfl (cell_one_new _ _ _) (by intro u hu; simp at hu; subst hu; rfl) (by unfold maxLen; omega) (by omega) (by have := hb.size; simp; omega) ?_; intro v' w3 hown3 hgrow3 _; have HO3 : Hid _ := hown3; have HD3 : Hid _ := own_two (HU.out.alloc _) (HO.out.alloc _) (by decide) hgrow3; have hb3 : Below w.heap.size w w3 := (hb.alloc hb.size _).grown hgrow3 (by have := hb.size; simp; omega) (fun k hk => (HU.out.lt k hk).1))
                        go_roundw
                        case rel => exact ⟨q + 1, by omega, by go_num, by rw [HTM.out, ← HX1.out, Nat.max_eq_right (by have := HX1.out; omega)], by rw [HUQ.out, List.length_append]; exact HO3, HD3, hb3⟩
                        case measure => simp [intOf]; omega
                      · go_wp2_with (at_builtin; refine wpList_append_own _ rfl _ _ 96 rfl w.heap.size 65 iu (.int .u64 0) 1 8 Tryz.underlyingU64s hiu hu0 hu1 hu2 rfl (by decide) _ cu.length cu rfl (HU.out.alloc _) ⟨_, 0, none⟩ 1 1 [.int .u64 (y - lo)] rfl rfl (cell_one_new _ _ _) (by intro u hu; simp at hu; subst hu; rfl) (by unfold maxLen; omega) (by omega) (by have := hb.size; simp; omega) ?_; intro v' w3 hown3 hgrow3 _; have HO3 : Hid _ := hown3; have HD3 : Hid _ := own_two (HU.out.alloc _) (HO.out.alloc _) (by decide) hgrow3; have hb3 : Below w.heap.size w w3 := (hb.alloc hb.size _).grown hgrow3 (by have := hb.size; simp; omega) (fun k hk => (HU.out.lt k hk).1))
                        go_roundw
                        case rel => exact ⟨q + 1, by omega, by go_num, by rw [HTM.out, Nat.max_eq_left (by have := HX1.out; omega)], by rw [HUQ.out, List.length_append]; exact HO3, HD3, hb3⟩
                        case measure => simp [intOf]; omega
                    · obtain rfl : q = m := by omega
                      have htk : us.take q = us := List.take_of_length_le (by omega)
                      rw [htk] at HU ⊢
                      clear htk
                      have hlu : (u64s us).length = q := by rw [u64s_len, hal]
                      obtain ⟨gu, cu, hsl, hlu2⟩ := own_lies HU.out (by rw [hlu]; omega)
                      rw [hlu] at hsl
                      subst hsl
                      have HLU : Hid (Lies wr (some ⟨gu, 0, none⟩) (u64s us)) := hlu2
                      clear hlu2 HU HO
                      have hmo2 := hmo
                      obtain ⟨mo, HMO⟩ : ∃ mo, Hid (mo = us.foldl max 0) := ⟨_, rfl⟩
                      rw [← HMO.out] at hmo2 HWD ⊢
                      clear hmo
                      go_wp2_with fail
                      refine (widthOf_any mo _ hmo2).mono ?_
                      rw [← HWD.out]
                      rintro e w2 ⟨rfl, hw⟩
                      obtain rfl := hw.symm
                      go_wp2_with fail
                      refine (signedOf_any lo _ hlo.1 hlo.2).mono ?_
                      rintro e w3 ⟨rfl, hb3⟩
                      have hbw3 := hb.trans (hb3.mono hb.size)
                      have hu1 := Um.uv_ten (zig_lt hlo.1 hlo.2)
                      have hob := hroom
                      have HFin : Hid (m1 ++ stepsB ds (j + 1) = m1 ++ stepsB ds j ++ Um.uv (zig lo) ++ [Um.bt (wd : Nat)] ++ Um.lit (Um.num wd us) ((wd * q + 7) / 8)) := by
                        show _ = _
                        rw [HSB.out, HBB.out, Nat.mul_comm wd q]
                        simp
                      have hpk := fun W h => packOf_any (some ⟨gu, 0, none⟩) cu us wd W (by omega) ha2 HA1.out h
                      rw [hal] at hpk
                      have hll : (Um.lit (Um.num wd us) ((wd * q + 7) / 8)).length ≤ 300 := by
                        rw [Um.lit_len]
                        have := Nat.mul_le_mul ha2 hp.1
                        omega
                      have hjb : j ≤ 700 := by omega
                      generalize Um.lit (Um.num wd us) ((wd * q + 7) / 8) = lt at *
                      generalize Um.uv (zig lo) = ub at *
                      have HFL : Hid ((m1 ++ stepsB ds (j + 1)).length ≤ 10 + 300 * (j + 1)) := by show _ ≤ _; rw [HSB.out, List.length_append]; omega
                      generalize m1 ++ stepsB ds j = ob at *
                      have hs1 : (⟨ob.toArray⟩ : ByteArray).size ≤ 300000 := by simp [ByteArray.size]; omega
                      have hs2 : (⟨ub.toArray⟩ : ByteArray).size ≤ 10 := by simpa [ByteArray.size] using hu1
                      have hs3 : (⟨lt.toArray⟩ : ByteArray).size ≤ 300 := by simpa [ByteArray.size] using hll
                      have HCat : Hid ((⟨ob.toArray⟩ : ByteArray) ++ ⟨ub.toArray⟩ ++ ⟨#[Um.bt (wd : Nat)]⟩ ++ ⟨lt.toArray⟩ = ⟨(m1 ++ stepsB ds (j + 1)).toArray⟩) := by
                        show _ = _
                        rw [HFin.out, ← cat4]
                      clear hroom hob hu1 hll
                      generalize (⟨ob.toArray⟩ : ByteArray) = sb at *
                      generalize (⟨ub.toArray⟩ : ByteArray) = su at *
                      generalize (⟨lt.toArray⟩ : ByteArray) = sl at *
                      have hc1 : ∀ W : World, (Op.stringOp .add sb su).run Tryz.prog W = .ok (.string (sb ++ su)) W := fun W => run_string_add_sum _ _ _ (by omega)
                      go_wp2_with fail
                      refine (byte_any (wd : Int) _ (by omega) (by omega)).mono ?_
                      rintro e w4 ⟨rfl, hb4⟩
                      have hbw4 := hbw3.trans (hb4.mono hbw3.size)
                      have hs4 : (⟨#[Um.bt (wd : Int)]⟩ : ByteArray).size = 1 := rfl
                      have HCat2 : Hid (sb ++ su ++ ⟨#[Um.bt (wd : Int)]⟩ ++ sl = ⟨(m1 ++ stepsB ds (j + 1)).toArray⟩) := HCat.out
                      generalize (⟨#[Um.bt (wd : Int)]⟩ : ByteArray) = sw at hs4 HCat2 ⊢
                      have hc2 : ∀ W : World, (Op.stringOp .add (sb ++ su) sw).run Tryz.prog W = .ok (.string (sb ++ su ++ sw)) W := fun W => run_string_add_sum _ _ _ (by rw [ByteArray.size_append]; omega)
                      have hc3 : ∀ W : World, (Op.stringOp .add (sb ++ su ++ sw) sl).run Tryz.prog W = .ok (.string (sb ++ su ++ sw ++ sl)) W := fun W => run_string_add_sum _ _ _ (by rw [ByteArray.size_append, ByteArray.size_append]; omega)
                      have HL4 : Hid _ := Lies.keep (Lies.keep HLU.out hb3) hb4
                      go_wp2_with fail
                      refine (hpk _ HL4.out).mono ?_
                      rintro e w5 ⟨rfl, hb5⟩
                      have hbw5 := hbw4.trans (hb5.mono hbw4.size)
                      go_wp2
                      go_roundw
                      case rel =>
                        refine ⟨j + 1, by have := HJ.out; omega, ?_, by rw [HCat2.out], HFL.out, hbw5⟩
                        rw [HJ.out]
                        go_num
                      case measure => simp [intOf]; omega
      · have HJ2 : Hid (j = (n + 31) / 32) := by show _ = _; omega
        have HD2 : Hid (m1 ++ stepsB ds j = deltaB vs) := by show _ = _; rw [HD.out, HJ2.out]
        rw [HD2.out]
        have hlt2 : ¬ ((32 * j : Nat) : Int) < (n : Int) := by omega
        go_wp2
        go_ret
        exact ⟨rfl, hb⟩
end Go.Proofs.YtjcmnngaecoddaaGreatDoor
