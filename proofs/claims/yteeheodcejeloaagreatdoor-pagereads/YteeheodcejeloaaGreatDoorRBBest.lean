/-
  enc.Best: the shortest of all ways.
  enc.Best of right values, and of those that are not.
  enc.ReadBest at any bytes and any code: the values, or an error.
  The reference's ReadPlainOf of numbers 0 and 1; ReadPlainOf at any kind.
  The reference's placeWidth and DictOf: what they answer of right values.
  The reference's ReadDictOf: the values that bytes are, by unlike ones and their places.
  The reference's DeltaOf: the first number, then the differences by blocks.
  The reference's ReadDeltaOf: the numbers that bytes are, by their differences.
-/
import Derived.Test.YteeheodcejeloaaGreatDoorRBRdBehind
import Derived.Test.YteeheodcejeloaaGreatDoorRBRdBlock
import Derived.Test.YteeheodcejeloaaGreatDoorRBDict
import Derived.Test.YteeheodcejeloaaGreatDoorRBWordsMath
import Derived.Test.YteeheodcejeloaaGreatDoorRDictMath
import Derived.Test.YteeheodcejeloaaGreatDoorRBPack
import Derived.Test.YteeheodcejeloaaGreatDoorRBReadPart
import Derived.Test.YteeheodcejeloaaGreatDoorRBRdSteps
import Derived.Test.YteeheodcejeloaaGreatDoorRBByFirst
import Derived.Test.YteeheodcejeloaaGreatDoorRBBase
import Derived.Deep.RegionLaw
import Derived.Test.YteeheodcejeloaaGreatDoorRBOpenVals
import Derived.Test.YteeheodcejeloaaGreatDoorRBWVarint
import Derived.Test.YteeheodcejeloaaGreatDoorRWidth
import Derived.Test.YteeheodcejeloaaGreatDoorRBShut0
import Derived.Test.YteeheodcejeloaaGreatDoorRBClone
namespace Go.Proofs.YteeheodcejeloaaGreatDoor
open Go.RowKit
/-- What Best holds: its captured variables. -/
structure BI (w0 : World) (kd : Int) (v : Value) (wx : World) (code : Int) (s : ByteArray) : Prop where
  hk : wx.cell? ⟨w0.heap.size, 0, none⟩ = some (.int .i64 kd)
  hl : wx.cell? ⟨w0.heap.size + 1, 0, none⟩ = some v
  hc : wx.cell? ⟨w0.heap.size + 2, 0, none⟩ = some (.int .i64 code)
  hs : wx.cell? ⟨w0.heap.size + 3, 0, none⟩ = some (.string s)
  fc : wx.frozen? ⟨w0.heap.size + 2, 0, none⟩ = false
  fs : wx.frozen? ⟨w0.heap.size + 3, 0, none⟩ = false
  size : w0.heap.size + 4 ≤ wx.heap.size
  old : Below w0.heap.size w0 wx
theorem BI.keep {w0 : World} {kd : Int} {v : Value} {wx w' : World} {code : Int} {s : ByteArray} (h : BI w0 kd v wx code s) (hb : Below wx.heap.size wx w') : BI w0 kd v w' code s := by
  have hz := h.size
  have h0 : w0.heap.size < wx.heap.size := by omega
  have h1 : w0.heap.size + 1 < wx.heap.size := by omega
  have h2 : w0.heap.size + 2 < wx.heap.size := by omega
  have h3 : w0.heap.size + 3 < wx.heap.size := by omega
  exact ⟨(hb.cell h0).trans h.hk, (hb.cell h1).trans h.hl, (hb.cell h2).trans h.hc, (hb.cell h3).trans h.hs, (hb.frozen h2).trans h.fc, (hb.frozen h3).trans h.fs, Nat.le_trans hz hb.size, h.old.trans (hb.mono h.old.size)⟩
theorem BI.put {w0 : World} {kd : Int} {v : Value} {wx : World} {code : Int} {s : ByteArray} (h : BI w0 kd v wx code s) (c' : Int) (t : ByteArray) : BI w0 kd v ((wx.setCell ⟨w0.heap.size + 2, 0, none⟩ (.int .i64 c')).setCell ⟨w0.heap.size + 3, 0, none⟩ (.string t)) c' t := by
  have ne : ∀ (W : World) (x j : Nat) (u : Value), j ≠ x → (W.setCell ⟨x, 0, none⟩ u).cell? ⟨j, 0, none⟩ = W.cell? ⟨j, 0, none⟩ := fun W x j u hj =>
    World.cell?_setCell_other _ _ _ _ (fun e => hj (by injection e with e _; exact e.symm))
  refine ⟨?_, ?_, ?_, ?_, by simpa using h.fc, by simpa using h.fs, by simpa using h.size, (h.old.setCell (show w0.heap.size ≤ w0.heap.size + 2 by omega) _).setCell (show w0.heap.size ≤ w0.heap.size + 3 by omega) _⟩
  · rw [ne _ _ _ _ (by omega), ne _ _ _ _ (by omega)]; exact h.hk
  · rw [ne _ _ _ _ (by omega), ne _ _ _ _ (by omega)]; exact h.hl
  · rw [ne _ _ _ _ (by omega)]; exact World.cell?_setCell_same _ _ _ h.hc
  · exact World.cell?_setCell_same _ _ _ ((ne _ _ _ _ (by omega)).trans h.hs)
set_option maxRecDepth 100000 in
set_option maxHeartbeats 1600000 in
theorem best1_dict (w0 : World) (kd : Int) (v : Value) (w : World) (code nc : Int) (s t : ByteArray) (hI : BI w0 kd v w code s)
    (hF : Calls Tryz.prog 111 #[.int .i64 kd, v] w fun e W' => e = .returned (.tuple #[.string t, .nilIface]) ∧ Below w.heap.size w W') :
    Calls Tryz.prog 110 #[.int .i64 nc, .func (.func 111) #[] #[], .pointer (some ⟨w0.heap.size, 0, none⟩), .pointer (some ⟨w0.heap.size + 1, 0, none⟩), .pointer (some ⟨w0.heap.size + 3, 0, none⟩), .pointer (some ⟨w0.heap.size + 2, 0, none⟩)] w fun e w' => e = .returned (.tuple #[]) ∧ BI w0 kd v w' (if t.size < s.size then nc else code) (if t.size < s.size then t else s) := by
  have hk := hI.hk
  have hl := hI.hl
  have HI : Hid _ := hI
  have HF : Hid _ := hF
  clear hI hF
  go_enter Tryz.func110, Tryz.ntmps110
  go_wp2_with fail
  refine Calls.mono HF.out ?_
  rintro e w1 ⟨rfl, hb1⟩
  have HI1 : Hid _ := HI.out.keep hb1
  clear hk hl
  have hc := HI1.out.hc
  have hs1 := HI1.out.hs
  have fc := HI1.out.fc
  have fs := HI1.out.fs
  by_cases hlt : t.size < s.size
  · have HP : Hid _ := HI1.out.put nc t
    go_wp2
    go_end0
    exact ⟨rfl, HP.out⟩
  · go_wp2
    go_end0
    exact ⟨rfl, HI1.out⟩
set_option maxRecDepth 100000 in
set_option maxHeartbeats 1600000 in
theorem best1_delta (w0 : World) (kd : Int) (v : Value) (w : World) (code nc : Int) (s t : ByteArray) (hI : BI w0 kd v w code s)
    (hF : Calls Tryz.prog 113 #[.int .i64 kd, v] w fun e W' => e = .returned (.tuple #[.string t, .nilIface]) ∧ Below w.heap.size w W') :
    Calls Tryz.prog 110 #[.int .i64 nc, .func (.func 113) #[] #[], .pointer (some ⟨w0.heap.size, 0, none⟩), .pointer (some ⟨w0.heap.size + 1, 0, none⟩), .pointer (some ⟨w0.heap.size + 3, 0, none⟩), .pointer (some ⟨w0.heap.size + 2, 0, none⟩)] w fun e w' => e = .returned (.tuple #[]) ∧ BI w0 kd v w' (if t.size < s.size then nc else code) (if t.size < s.size then t else s) := by
  have hk := hI.hk
  have hl := hI.hl
  have HI : Hid _ := hI
  have HF : Hid _ := hF
  clear hI hF
  go_enter Tryz.func110, Tryz.ntmps110
  go_wp2_with fail
  refine Calls.mono HF.out ?_
  rintro e w1 ⟨rfl, hb1⟩
  have HI1 : Hid _ := HI.out.keep hb1
  clear hk hl
  have hc := HI1.out.hc
  have hs1 := HI1.out.hs
  have fc := HI1.out.fc
  have fs := HI1.out.fs
  by_cases hlt : t.size < s.size
  · have HP : Hid _ := HI1.out.put nc t
    go_wp2
    go_end0
    exact ⟨rfl, HP.out⟩
  · go_wp2
    go_end0
    exact ⟨rfl, HI1.out⟩
set_option maxRecDepth 100000 in
set_option maxHeartbeats 1600000 in
theorem best1_prefix (w0 : World) (kd : Int) (v : Value) (w : World) (code nc : Int) (s t : ByteArray) (hI : BI w0 kd v w code s)
    (hF : Calls Tryz.prog 115 #[.int .i64 kd, v] w fun e W' => e = .returned (.tuple #[.string t, .nilIface]) ∧ Below w.heap.size w W') :
    Calls Tryz.prog 110 #[.int .i64 nc, .func (.func 115) #[] #[], .pointer (some ⟨w0.heap.size, 0, none⟩), .pointer (some ⟨w0.heap.size + 1, 0, none⟩), .pointer (some ⟨w0.heap.size + 3, 0, none⟩), .pointer (some ⟨w0.heap.size + 2, 0, none⟩)] w fun e w' => e = .returned (.tuple #[]) ∧ BI w0 kd v w' (if t.size < s.size then nc else code) (if t.size < s.size then t else s) := by
  have hk := hI.hk
  have hl := hI.hl
  have HI : Hid _ := hI
  have HF : Hid _ := hF
  clear hI hF
  go_enter Tryz.func110, Tryz.ntmps110
  go_wp2_with fail
  refine Calls.mono HF.out ?_
  rintro e w1 ⟨rfl, hb1⟩
  have HI1 : Hid _ := HI.out.keep hb1
  clear hk hl
  have hc := HI1.out.hc
  have hs1 := HI1.out.hs
  have fc := HI1.out.fc
  have fs := HI1.out.fs
  by_cases hlt : t.size < s.size
  · have HP : Hid _ := HI1.out.put nc t
    go_wp2
    go_end0
    exact ⟨rfl, HP.out⟩
  · go_wp2
    go_end0
    exact ⟨rfl, HI1.out⟩
theorem BI.puts {w0 : World} {kd : Int} {v : Value} {wx : World} {code : Int} {s : ByteArray} (h : BI w0 kd v wx code s) (t : ByteArray) : BI w0 kd v (wx.setCell ⟨w0.heap.size + 3, 0, none⟩ (.string t)) code t := by
  have ne : ∀ (W : World) (x j : Nat) (u : Value), j ≠ x → (W.setCell ⟨x, 0, none⟩ u).cell? ⟨j, 0, none⟩ = W.cell? ⟨j, 0, none⟩ := fun W x j u hj =>
    World.cell?_setCell_other _ _ _ _ (fun e => hj (by injection e with e _; exact e.symm))
  refine ⟨?_, ?_, ?_, ?_, by simpa using h.fc, by simpa using h.fs, by simpa using h.size, h.old.setCell (show w0.heap.size ≤ w0.heap.size + 3 by omega) _⟩
  · rw [ne _ _ _ _ (by omega)]; exact h.hk
  · rw [ne _ _ _ _ (by omega)]; exact h.hl
  · rw [ne _ _ _ _ (by omega)]; exact h.hc
  · exact World.cell?_setCell_same _ _ _ h.hs
/-- What Best's variables are at first. -/
def bw (w : World) (kd : Int) (v : Value) : World := (((w.alloc (.cells #[.int .i64 kd] 3)).alloc (.cells #[v] 27)).alloc (.cells #[.int .i64 0] 3)).alloc (.cells #[.string ⟨#[]⟩] 9)
theorem bw_size (w : World) (kd : Int) (v : Value) : (bw w kd v).heap.size = w.heap.size + 4 := by simp [bw]
theorem bw_below (w : World) (kd : Int) (v : Value) : Below w.heap.size w (bw w kd v) :=
  ((((Below.refl _ _).alloc (Nat.le_refl _) _).alloc (by simp) _).alloc (by simp; omega) _).alloc (by simp; omega) _
theorem bw_BI (w : World) (kd : Int) (v : Value) : BI w kd v (bw w kd v) 0 ⟨#[]⟩ := by
  have h0 : (bw w kd v).heap[w.heap.size]? = some (.cells #[.int .i64 kd] 3 (0, 0)) := blk_alloc (blk_alloc (blk_alloc (heap_alloc_new w _)))
  have h1 : (bw w kd v).heap[w.heap.size + 1]? = some (.cells #[v] 27 (0, 0)) := by
    have := heap_alloc_new (w.alloc (.cells #[.int .i64 kd] 3)) (.cells #[v] 27)
    rw [show (w.alloc (.cells #[.int .i64 kd] 3)).heap.size = w.heap.size + 1 by simp] at this
    exact blk_alloc (blk_alloc this)
  have h2 : (bw w kd v).heap[w.heap.size + 2]? = some (.cells #[.int .i64 0] 3 (0, 0)) := by
    have := heap_alloc_new ((w.alloc (.cells #[.int .i64 kd] 3)).alloc (.cells #[v] 27)) (.cells #[.int .i64 0] 3)
    rw [show ((w.alloc (.cells #[.int .i64 kd] 3)).alloc (.cells #[v] 27)).heap.size = w.heap.size + 2 by simp] at this
    exact blk_alloc this
  have h3 : (bw w kd v).heap[w.heap.size + 3]? = some (.cells #[.string ⟨#[]⟩] 9 (0, 0)) := by
    have := heap_alloc_new (((w.alloc (.cells #[.int .i64 kd] 3)).alloc (.cells #[v] 27)).alloc (.cells #[.int .i64 0] 3)) (.cells #[.string ⟨#[]⟩] 9)
    rw [show (((w.alloc (.cells #[.int .i64 kd] 3)).alloc (.cells #[v] 27)).alloc (.cells #[.int .i64 0] 3)).heap.size = w.heap.size + 3 by simp] at this
    exact this
  exact ⟨cell_of_one h0, cell_of_one h1, cell_of_one h2, cell_of_one h3, free_of_one h2, free_of_one h3, by rw [bw_size]; omega, bw_below w kd v⟩
/-- A way is tried. -/
def bst (b : Int × ByteArray) (nc : Int) (t : ByteArray) : Int × ByteArray := (if t.size < b.2.size then nc else b.1, if t.size < b.2.size then t else b.2)
/-- The best way, and its bytes. -/
def bestP (kd : Int) (vs us : List Vl) (ps : List Nat) : Int × ByteArray :=
  if kd = 2 ∨ kd = 3 then bst (bst (0, ⟨(plainB kd vs).toArray⟩) 1 ⟨(dictB kd us ps).toArray⟩) 2 ⟨(deltaB vs).toArray⟩
  else if kd = 4 then bst (bst (0, ⟨(plainB kd vs).toArray⟩) 1 ⟨(dictB kd us ps).toArray⟩) 3 ⟨(Um.prefs [] (bys (vtx vs))).toArray⟩
  else bst (0, ⟨(plainB kd vs).toArray⟩) 1 ⟨(dictB kd us ps).toArray⟩
end Go.Proofs.YteeheodcejeloaaGreatDoor

namespace Go.Proofs.YteeheodcejeloaaGreatDoor
open Go.RowKit
theorem hasPrefix_any (kd : Int) (w : World) : Calls Tryz.prog 114 #[.int .i64 kd] w fun e w' => e = .returned (.bool (decide (kd = 4))) ∧ w' = w := by
  by_cases h4 : kd = 4
  · subst h4
    go_enter Tryz.func114, Tryz.ntmps114
    go_wp2
    go_ret
    exact ⟨rfl, rfl⟩
  · have e : decide (kd = 4) = false := by simp [h4]
    have e2 : (kd == 4) = false := by simp [h4]
    rw [e]
    go_enter Tryz.func114, Tryz.ntmps114
    go_wp2
    go_ret
    exact ⟨rfl, rfl⟩
theorem ok_bytes {kd : Int} {v : Vl} (h4 : kd = 4) (h : v.Ok kd) : v.s.size ≤ 100 := by
  subst h4
  unfold Vl.Ok OkV at h
  omega
theorem loadI {W : World} {g : Nat} {v : Value} (h : W.cell? ⟨g, 0, none⟩ = some v) : (loadVar 3 ⟨g, 0, none⟩).run Tryz.prog W = .ok v W := by go_simp
theorem loadS {W : World} {g : Nat} {v : Value} (h : W.cell? ⟨g, 0, none⟩ = some v) : (loadVar 9 ⟨g, 0, none⟩).run Tryz.prog W = .ok v W := by go_simp
theorem results_cct {P : Program} {fn : Func} {p q u : Tmp} {t1 t2 : TypeId} (h : fn.results = #[.cell p t1, .cell q t2, .tmp u]) (tmps : Array Value) (w : World) (a b : Addr) (x y : Value)
    (hp : tmps.getD p undef = .pointer (some a)) (hq : tmps.getD q undef = .pointer (some b)) (hx : (loadVar t1 a).run P w = .ok x w) (hy : (loadVar t2 b).run P w = .ok y w) :
    (results fn tmps).run P w = .ok (.tuple #[x, y, tmps.getD u undef]) w := by
  have hp' : tmps[p]?.getD undef = .pointer (some a) := by simpa using hp
  have hq' : tmps[q]?.getD undef = .pointer (some b) := by simpa using hq
  simp [results, h, hp', hq', asAddr, Sem.run_bind, Result.andThen, hx, hy]
set_option maxRecDepth 100000 in
set_option maxHeartbeats 3200000 in
/-- Best of right values. -/
theorem best_right (a : Option Addr) (vs : List Vl) (c : Nat) (kd : Int) (w : World) (kt st bt : TypeId) (kp sp bp : Value) (hgk : w.cell? ⟨4, 0, none⟩ = some (.iface kt kp)) (hgs : w.cell? ⟨0, 0, none⟩ = some (.iface st sp)) (hgb : w.cell? ⟨3, 0, none⟩ = some (.iface bt bp)) (hn : vs.length ≤ 700) (hl : LiesV w a vs) (hr : Right kd vs) (us : List Vl) (ps : List Nat) (hu : Uq vs us ps) :
    Calls Tryz.prog 65 #[.int .i64 kd, .slice a vs.length c] w fun e w' => e = .returned (.tuple #[.int .i64 (bestP kd vs us ps).1, .string (bestP kd vs us ps).2, .nilIface]) ∧ Below w.heap.size w w' := by
  have HGK : Hid _ := hgk
  have HGS : Hid _ := hgs
  have HGB : Hid _ := hgb
  have HL : Hid (LiesV w a vs) := hl
  have HR : Hid (Right kd vs) := hr
  have HU : Hid (Uq vs us ps) := hu
  clear hgk hgs hgb hl hr hu
  have hbw := bw_below w kd (.slice a vs.length c)
  have HP0 := plain_right a vs c kd (bw w kd (.slice a vs.length c)) kt st kp sp (ck' HGK.out hbw) (ck' HGS.out hbw) (by omega) HR.out.1.1 HR.out.1.2 (HL.out.keep hbw) (fun j h => (HR.out.2 _ (List.getElem_mem h)).1) (fun j h => (HR.out.2 _ (List.getElem_mem h)).2.2.1)
  have HB0 : Hid _ := bw_BI w kd (.slice a vs.length c)
  have hmf : ∀ (fn : Fn) (first cap : Array Value) (W : World), (Instr.makeFunc fn first cap).run Tryz.prog W = .ok (.func fn first cap) W := fun _ _ _ _ => rfl
  have hk0 := HB0.out.hk
  have hl0 := HB0.out.hl
  unfold bw at hk0 hl0
  obtain ⟨pb, HPB⟩ : ∃ pb : ByteArray, Hid (pb = ⟨(plainB kd vs).toArray⟩) := ⟨_, rfl⟩
  obtain ⟨db, HDB⟩ : ∃ db : ByteArray, Hid (db = ⟨(dictB kd us ps).toArray⟩) := ⟨_, rfl⟩
  rw [← HPB.out] at HP0
  have HDF : Hid (∀ W, Below w.heap.size w W → Calls Tryz.prog 111 #[.int .i64 kd, .slice a vs.length c] W fun e w' => e = .returned (.tuple #[.string db, .nilIface]) ∧ Below W.heap.size W w') := fun W hW => by
    rw [HDB.out]
    exact dict_right a vs c kd W kt st kp sp (ck' HGK.out hW) (ck' HGS.out hW) hn (HL.out.keep hW) HR.out us ps HU.out
  go_enter Tryz.func65, Tryz.ntmps65
  go_wp2_with fail
  refine HP0.mono ?_
  clear HP0 hk0 hl0
  rintro e w1 ⟨rfl, hb1⟩
  have HI1 : Hid _ := HB0.out.keep hb1
  have hs1 := HI1.out.hs
  have fs1 := HI1.out.fs
  have HI2 : Hid _ := HI1.out.puts pb
  clear HB0
  go_wp2_with fail
  refine (best1_dict w kd _ _ 0 1 pb db HI2.out (HDF.out _ HI2.out.old)).mono ?_
  rintro e w2 ⟨rfl, hI3⟩
  obtain ⟨cd, HC⟩ : ∃ cd : Int, Hid (cd = if db.size < pb.size then 1 else 0) := ⟨_, rfl⟩
  obtain ⟨sb, HSb⟩ : ∃ sb : ByteArray, Hid (sb = if db.size < pb.size then db else pb) := ⟨_, rfl⟩
  rw [← HC.out, ← HSb.out] at hI3
  have hk3 := hI3.hk
  have HI3 : Hid _ := hI3
  clear hI3 hs1 fs1
  by_cases hd : kd = 2 ∨ kd = 3
  · have hdd : decide (kd = 2 ∨ kd = 3) = true := by simp [hd]
    have hpp : decide (kd = 4) = false := by simp; omega
    obtain ⟨tb, HTB⟩ : ∃ tb : ByteArray, Hid (tb = ⟨(deltaB vs).toArray⟩) := ⟨_, rfl⟩
    have HB : Hid (bestP kd vs us ps = (if tb.size < sb.size then 2 else cd, if tb.size < sb.size then tb else sb)) := by
      show _ = _
      unfold bestP
      rw [if_pos hd, ← HPB.out, ← HDB.out, ← HTB.out, HC.out, HSb.out]
      rfl
    have hF := delta_right a vs c kd w2 kt kp (ck' HGK.out HI3.out.old) (by omega) hd (HL.out.keep HI3.out.old) (fun j h => (HR.out.2 _ (List.getElem_mem h)).1) (fun j h => (HR.out.2 _ (List.getElem_mem h)).2.2.1)
    rw [← HTB.out] at hF
    have HF : Hid _ := hF
    clear hF hd
    go_wp2_with fail
    refine (hasDelta_any kd _).mono ?_
    rw [hdd]
    rintro e w3 ⟨rfl, hw⟩
    obtain rfl := hw.symm
    clear hk3
    go_wp2_with fail
    refine (best1_delta w kd _ w2 cd 2 sb tb HI3.out HF.out).mono ?_
    rintro e w4 ⟨rfl, hI4⟩
    generalize (if tb.size < sb.size then (2 : Int) else cd) = c4 at hI4 HB
    generalize (if tb.size < sb.size then tb else sb) = s4 at hI4 HB
    have hk4 := hI4.hk
    have HI4 : Hid _ := hI4
    clear hI4
    go_wp2_with fail
    refine (hasPrefix_any kd _).mono ?_
    rw [hpp]
    rintro e w5 ⟨rfl, hw⟩
    obtain rfl := hw.symm
    have hc9 := HI4.out.hc
    have hs9 := HI4.out.hs
    have fc9 := HI4.out.fc
    have fs9 := HI4.out.fs
    clear hk4
    go_wp2
    go_region
    all_goals (try go_wp2)
    all_goals
      (try simp only [Exit.inBlock, Exit.then])
      refine bodyPost_ret (results_cct rfl _ _ ⟨w.heap.size + 2, 0, none⟩ ⟨w.heap.size + 3, 0, none⟩ (.int .i64 c4) (.string s4) rfl rfl (loadI (HI4.out.put c4 s4).hc) (loadS (HI4.out.put c4 s4).hs)) rfl ?_
      exact ⟨by rw [HB.out]; rfl, (HI4.out.put c4 s4).old.drew⟩
  · have hdd : decide (kd = 2 ∨ kd = 3) = false := by simp only [decide_eq_false_iff_not]; exact hd
    by_cases h4 : kd = 4
    · have hpp : decide (kd = 4) = true := by simp [h4]
      obtain ⟨tb, HTB⟩ : ∃ tb : ByteArray, Hid (tb = ⟨(Um.prefs [] (bys (vtx vs))).toArray⟩) := ⟨_, rfl⟩
      have HB : Hid (bestP kd vs us ps = (if tb.size < sb.size then 3 else cd, if tb.size < sb.size then tb else sb)) := by
        show _ = _
        unfold bestP
        rw [if_neg hd, if_pos h4, ← HPB.out, ← HDB.out, ← HTB.out, HC.out, HSb.out]
        rfl
      have hF := prefixValues_any a vs c kd w2 (.iface bt bp) (ck' HGB.out HI3.out.old) (by omega) (HL.out.keep HI3.out.old) (fun v hv => ok_bytes h4 (HR.out.2 v hv).1)
      rw [← HTB.out] at hF
      have HF : Hid _ := hF
      clear hF hd h4
      go_wp2_with fail
      refine (hasDelta_any kd _).mono ?_
      rw [hdd]
      rintro e w3 ⟨rfl, hw⟩
      obtain rfl := hw.symm
      go_wp2_with fail
      refine (hasPrefix_any kd _).mono ?_
      rw [hpp]
      rintro e w5 ⟨rfl, hw⟩
      obtain rfl := hw.symm
      clear hk3
      go_wp2_with fail
      refine (best1_prefix w kd _ w2 cd 3 sb tb HI3.out HF.out).mono ?_
      rintro e w4 ⟨rfl, hI4⟩
      generalize (if tb.size < sb.size then (3 : Int) else cd) = c4 at hI4 HB
      generalize (if tb.size < sb.size then tb else sb) = s4 at hI4 HB
      have HI4 : Hid _ := hI4
      clear hI4
      have hc9 := HI4.out.hc
      have hs9 := HI4.out.hs
      have fc9 := HI4.out.fc
      have fs9 := HI4.out.fs
      go_wp2
      go_region
      all_goals (try go_wp2)
      all_goals
        (try simp only [Exit.inBlock, Exit.then])
        refine bodyPost_ret (results_cct rfl _ _ ⟨w.heap.size + 2, 0, none⟩ ⟨w.heap.size + 3, 0, none⟩ (.int .i64 c4) (.string s4) rfl rfl (loadI (HI4.out.put c4 s4).hc) (loadS (HI4.out.put c4 s4).hs)) rfl ?_
        exact ⟨by rw [HB.out]; rfl, (HI4.out.put c4 s4).old.drew⟩
    · have hpp : decide (kd = 4) = false := by simp [h4]
      have HB : Hid (bestP kd vs us ps = (cd, sb)) := by
        show _ = _
        unfold bestP
        rw [if_neg hd, if_neg h4, ← HPB.out, ← HDB.out, HC.out, HSb.out]
        rfl
      clear hd h4
      go_wp2_with fail
      refine (hasDelta_any kd _).mono ?_
      rw [hdd]
      rintro e w3 ⟨rfl, hw⟩
      obtain rfl := hw.symm
      go_wp2_with fail
      refine (hasPrefix_any kd _).mono ?_
      rw [hpp]
      rintro e w5 ⟨rfl, hw⟩
      obtain rfl := hw.symm
      clear hk3
      have hc9 := HI3.out.hc
      have hs9 := HI3.out.hs
      have fc9 := HI3.out.fc
      have fs9 := HI3.out.fs
      go_wp2
      go_region
      all_goals (try go_wp2)
      all_goals
        (try simp only [Exit.inBlock, Exit.then])
        refine bodyPost_ret (results_cct rfl _ _ ⟨w.heap.size + 2, 0, none⟩ ⟨w.heap.size + 3, 0, none⟩ (.int .i64 cd) (.string sb) rfl rfl (loadI (HI3.out.put cd sb).hc) (loadS (HI3.out.put cd sb).hs)) rfl ?_
        exact ⟨by rw [HB.out]; rfl, (HI3.out.put cd sb).old.drew⟩
end Go.Proofs.YteeheodcejeloaaGreatDoor

namespace Go.Proofs.YteeheodcejeloaaGreatDoor
open Go.RowKit
/-- The values that bytes are by a code. -/
def IsBs (kd code : Int) (l : List UInt8) (n : Nat) (vs : List Vl) : Prop :=
  if code = 0 then IsPl kd l n vs else if code = 1 then IsDc kd l n vs else if code = 2 then IsDl kd l n vs else IsPr l n vs
/-- Has the kind that code? -/
def HasC (kd code : Int) : Prop := code = 0 ∨ code = 1 ∨ code = 2 ∧ (kd = 2 ∨ kd = 3) ∨ code = 3 ∧ kd = 4
theorem isBs_fn {kd code : Int} {l : List UInt8} {n : Nat} {vs us : List Vl} (h : IsBs kd code l n vs) (h' : IsBs kd code l n us) : vs = us := by
  unfold IsBs at h h'
  split at h
  · rename_i e; rw [if_pos e] at h'; exact isPl_fn h h'
  · rename_i e
    rw [if_neg e] at h'
    split at h
    · rename_i e1; rw [if_pos e1] at h'; exact isDc_fn h h'
    · rename_i e1
      rw [if_neg e1] at h'
      split at h
      · rename_i e2
        rw [if_pos e2] at h'
        obtain ⟨xs, g1, _, g3, _⟩ := h
        obtain ⟨ys, f1, _, f3, _⟩ := h'
        rw [g1] at f1
        injection f1 with f1
        rw [g3, f3, f1]
      · rename_i e2
        rw [if_neg e2] at h'
        obtain ⟨xs, g1, g3⟩ := h
        obtain ⟨ys, f1, f3⟩ := h'
        rw [g1] at f1
        injection f1 with f1
        rw [g3, f3, f1]
set_option maxRecDepth 100000 in
set_option maxHeartbeats 1600000 in
theorem readBestX_c (kd code : Int) (s : ByteArray) (n : Nat) (w : World) (st kt : TypeId) (sp kp : Value) (hg : w.cell? ⟨1, 0, none⟩ = some (.iface st sp)) (hgk : w.cell? ⟨4, 0, none⟩ = some (.iface kt kp)) (hs : s.size ≤ 1000000) (hn : n ≤ 20000) (hk1 : 1 ≤ kd) (hk5 : kd ≤ 5) (hc : HasC kd code) :
    Calls Tryz.prog 84 #[.int .i64 kd, .int .i64 code, .string s, .int .i64 (n : Nat)] w fun e w' => RetRdC w.heap.size (IsBs kd code s.data.toList n) n (.iface st sp) e w' ∧ Below w.heap.size w w' := by
  rcases hc with rfl | rfl | ⟨rfl, hk⟩ | ⟨rfl, rfl⟩
  · have HC : Hid _ := readPlain_c kd s n w st sp hg hs hn hk1 hk5
    clear hg hgk
    go_enter Tryz.func84, Tryz.ntmps84
    go_wp2_with fail
    refine (checkCount_fine kd n w hk1 hk5 (by omega) (by omega)).mono ?_
    rintro e w1 ⟨rfl, hw⟩
    obtain rfl := hw.symm
    go_wp2_with fail
    refine Calls.mono HC.out ?_
    rintro e w1 ⟨⟨vs, a, c, hI, rfl, hl⟩ | ⟨hI, rfl⟩, hb⟩
    all_goals
      have HI : Hid _ := hI
      try have HL : Hid _ := hl
      try clear hl
      clear hI
      go_wp2
      go_ret2
      first | exact ⟨Or.inl ⟨vs, a, c, HI.out, rfl, HL.out⟩, hb⟩ | exact ⟨Or.inr ⟨HI.out, rfl⟩, hb⟩
  · have HC : Hid _ := readDict_c kd s n w st sp hg hs hn hk1 hk5
    clear hg hgk
    go_enter Tryz.func84, Tryz.ntmps84
    go_wp2_with fail
    refine (checkCount_fine kd n w hk1 hk5 (by omega) (by omega)).mono ?_
    rintro e w1 ⟨rfl, hw⟩
    obtain rfl := hw.symm
    go_wp2_with fail
    refine Calls.mono HC.out ?_
    rintro e w1 ⟨⟨vs, a, c, hI, rfl, hl⟩ | ⟨hI, rfl⟩, hb⟩
    all_goals
      have HI : Hid _ := hI
      try have HL : Hid _ := hl
      try clear hl
      clear hI
      go_wp2
      go_ret2
      first | exact ⟨Or.inl ⟨vs, a, c, HI.out, rfl, HL.out⟩, hb⟩ | exact ⟨Or.inr ⟨HI.out, rfl⟩, hb⟩
  · have HC : Hid _ := readDelta_c kd s n w st kt sp kp hg hgk hs hn hk
    have hd : decide (kd = 2 ∨ kd = 3) = true := by simp [hk]
    clear hg hgk hk
    go_enter Tryz.func84, Tryz.ntmps84
    go_wp2_with fail
    refine (checkCount_fine kd n w hk1 hk5 (by omega) (by omega)).mono ?_
    rintro e w1 ⟨rfl, hw⟩
    obtain rfl := hw.symm
    go_wp2_with fail
    refine (hasDelta_any kd _).mono ?_
    rw [hd]
    rintro e w2 ⟨rfl, hw⟩
    obtain rfl := hw.symm
    go_wp2_with fail
    refine Calls.mono HC.out ?_
    rintro e w1 ⟨⟨vs, a, c, hI, rfl, hl⟩ | ⟨hI, rfl⟩, hb⟩
    all_goals
      have HI : Hid _ := hI
      try have HL : Hid _ := hl
      try clear hl
      clear hI
      go_wp2
      go_ret2
      first | exact ⟨Or.inl ⟨vs, a, c, HI.out, rfl, HL.out⟩, hb⟩ | exact ⟨Or.inr ⟨HI.out, rfl⟩, hb⟩
  · have HC : Hid _ := readPrefixValues_c s n w st sp hg hs hn
    clear hg hgk
    go_enter Tryz.func84, Tryz.ntmps84
    go_wp2_with fail
    refine (checkCount_fine 4 n w (by omega) (by omega) (by omega) (by omega)).mono ?_
    rintro e w1 ⟨rfl, hw⟩
    obtain rfl := hw.symm
    go_wp2_with fail
    refine (hasPrefix_any 4 _).mono ?_
    rintro e w2 ⟨rfl, hw⟩
    obtain rfl := hw.symm
    go_wp2_with fail
    refine Calls.mono HC.out ?_
    rintro e w1 ⟨⟨vs, a, c, hI, rfl, hl⟩ | ⟨hI, rfl⟩, hb⟩
    all_goals
      have HI : Hid _ := hI
      try have HL : Hid _ := hl
      try clear hl
      clear hI
      go_wp2
      go_ret2
      first | exact ⟨Or.inl ⟨vs, a, c, HI.out, rfl, HL.out⟩, hb⟩ | exact ⟨Or.inr ⟨HI.out, rfl⟩, hb⟩
set_option maxRecDepth 100000 in
set_option maxHeartbeats 1600000 in
/-- A code that the kind has not. -/
theorem readBestX_shape (kd code : Int) (s : ByteArray) (n : Nat) (w : World) (ht : TypeId) (hp : Value) (hgs : w.cell? ⟨0, 0, none⟩ = some (.iface ht hp)) (hn : n ≤ 20000) (hk1 : 1 ≤ kd) (hk5 : kd ≤ 5) (hc : ¬ HasC kd code) :
    Calls Tryz.prog 84 #[.int .i64 kd, .int .i64 code, .string s, .int .i64 (n : Nat)] w fun e w' => e = .returned (.tuple #[.slice none 0 0, .iface ht hp]) ∧ Below w.heap.size w w' := by
  have c0 : (code == 0) = false := by rw [beq_eq_false_iff_ne]; exact fun h => hc (Or.inl h)
  have c1 : (code == 1) = false := by rw [beq_eq_false_iff_ne]; exact fun h => hc (Or.inr (Or.inl h))
  have hcase : ((code == 2) = true ∧ (code == 3) = false ∧ decide (kd = 2 ∨ kd = 3) = false) ∨ ((code == 2) = false ∧ (code == 3) = true ∧ decide (kd = 4) = false) ∨ ((code == 2) = false ∧ (code == 3) = false) := by
    unfold HasC at hc
    by_cases h2 : code = 2
    · left
      exact ⟨by simp [h2], by simp [h2], by rw [decide_eq_false_iff_not]; exact fun h => hc (Or.inr (Or.inr (Or.inl ⟨h2, h⟩)))⟩
    · right
      by_cases h3 : code = 3
      · left
        exact ⟨by simp [h3], by simp [h3], by rw [decide_eq_false_iff_not]; exact fun h => hc (Or.inr (Or.inr (Or.inr ⟨h3, h⟩)))⟩
      · right
        exact ⟨by rw [beq_eq_false_iff_ne]; exact h2, by rw [beq_eq_false_iff_ne]; exact h3⟩
  clear hc
  rcases hcase with ⟨c2, c3, hd⟩ | ⟨c2, c3, hd⟩ | ⟨c2, c3⟩
  all_goals
    go_enter Tryz.func84, Tryz.ntmps84
    go_wp2_with fail
    refine (checkCount_fine kd n w hk1 hk5 (by omega) (by omega)).mono ?_
    rintro e w1 ⟨rfl, hw⟩
    obtain rfl := hw.symm
    go_wp2_with (first
      | (go_at_call 112; refine (hasDelta_any kd _).mono ?_; rw [hd]; rintro e w2 ⟨rfl, hw⟩; obtain rfl := hw.symm)
      | (go_at_call 114; refine (hasPrefix_any kd _).mono ?_; rw [hd]; rintro e w2 ⟨rfl, hw⟩; obtain rfl := hw.symm))
    go_quiet (fail)
    go_wp2
    go_ret2
    exact ⟨rfl, dN (Below.refl _ _) _⟩
end Go.Proofs.YteeheodcejeloaaGreatDoor

namespace Go.Proofs.YteeheodcejeloaaGreatDoor
open Go.RowKit
theorem bvs_bit (l : List UInt8) (n i : Nat) : (Um.unp l 1 n).getD i 0 < 2 := by
  by_cases h : i < (Um.unp l 1 n).length
  · have := Um.unp_lt l 1 n (Um.unp l 1 n)[i] (List.getElem_mem h)
    simpa [List.getD, h] using this
  · simp [List.getD, h]
/-- The first so many of them. -/
def bvp (l : List UInt8) (n i : Nat) : List Vl := (List.range i).map fun i => ⟨1, ((Um.unp l 1 n).getD i 0 : Nat), ⟨#[]⟩⟩
theorem bvp_len (l : List UInt8) (n i : Nat) : (bvp l n i).length = i := by simp [bvp]
theorem bvp_snoc (l : List UInt8) (n i : Nat) : bvp l n (i + 1) = bvp l n i ++ [⟨1, ((Um.unp l 1 n).getD i 0 : Nat), ⟨#[]⟩⟩] := by
  unfold bvp
  rw [List.range_succ, List.map_append]
  rfl
theorem bvp_right (l : List UInt8) (n : Nat) : Right 1 (bvp l n n) := by
  refine ⟨by omega, fun v hm => ?_⟩
  obtain ⟨i, _, rfl⟩ := List.mem_map.1 hm
  have := bvs_bit l n i
  refine ⟨?_, ⟨by simp, by simp only; omega, Nat.zero_le _⟩⟩
  show OkV 1 1 (((Um.unp l 1 n).getD i 0 : Nat) : Int) 0
  unfold OkV
  omega
set_option maxRecDepth 100000 in
set_option maxHeartbeats 1600000 in
theorem plOf_bools (s : ByteArray) (n : Nat) (w : World) (hs : s.size ≤ 3000) (hn : n ≤ 20000) :
    Calls Tryz.prog 50 #[.int .i64 1, .string s, .int .i64 n] w fun e w' => RetOkC w.heap.size (IsPl 1 s.data.toList n) e w' ∧ Below w.heap.size w w' := by
  obtain ⟨iv, hvi, hv0, hv1, hv2⟩ := info_parts Tryz.infoV
  have HLen : Hid (s.data.toList.length = s.size) := Array.length_toList
  have h1 := unpackOf_any s 1 n w (by omega) (by omega) (by omega)
  go_enter Tryz.func50, Tryz.ntmps50
  go_wp2_with fail
  refine h1.mono ?_
  clear h1
  rintro e w1 ⟨⟨hfit, a1, c1, rfl, hl1, _⟩ | ⟨hfit, rfl⟩, hb1⟩
  rotate_left
  · have HNo : Hid (¬ ∃ vs, IsPl 1 s.data.toList n vs) := notPl_bools (Or.inl (by rw [HLen.out]; omega))
    clear hfit
    go_wp2
    go_ret2
    exact ⟨Or.inr ⟨HNo.out, _, _, _, rfl⟩, hb1⟩
  have HL : Hid (∀ j, j < n → ∃ b o, a1 = some ⟨b, o, none⟩ ∧ w1.cell? ⟨b, o + j, none⟩ = some (.int .u64 (((Um.unp s.data.toList 1 n).getD j 0 : Nat) : Int))) := fun j hj => by
    obtain ⟨b, o, e, hc⟩ := hl1 j (by rw [u64s_len, Um.unp_len]; exact hj)
    refine ⟨b, o, e, ?_⟩
    rw [hc]
    have hj2 : j < (Um.unp s.data.toList 1 n).length := by rw [Um.unp_len]; exact hj
    simp [u64s, List.getD, hj2]
  clear hl1 hfit
  go_wp2_with fail
  go_loopw [8, 11] (fun o x wr => ∃ (i : Nat), i ≤ n ∧ x = .int .i64 i ∧ Hid (VOw w1 o wr (bvp s.data.toList n i))) (fun _ x _ => n - (intOf x).toNat)
  case atStart => exact ⟨0, Nat.zero_le _, rfl, VOw.start w1⟩
  case round =>
    obtain ⟨i, hik, rfl, HV⟩ := hrel
    have hb := HV.out.old
    have hbb := hb1.trans (hb.mono hb1.size)
    by_cases hlt : i < n
    · obtain ⟨b, o, rfl, hc0⟩ := HL.out i hlt
      have hc := (hb.cell (World.block_lt_of_cell? w1 _ hc0)).trans hc0
      have HVS := bvp_snoc s.data.toList n i
      have hbit := bvs_bit s.data.toList n i
      generalize (Um.unp s.data.toList 1 n).getD i 0 = x at *
      have HVS2 : Hid _ := HVS
      have hwx : IntKind.i64.wrap (x : Int) = (x : Int) := by rw [IntKind.wrap_i64]; omega
      have HTL : Hid ((bvp s.data.toList n i).length = i) := bvp_len _ _ _
      clear hc0 HVS
      go_wp2_with (at_builtin; refine wpList_append_own _ rfl _ _ 27 rfl w1.heap.size 41 iv (.agg #[.int .i64 0, .int .i64 0, .string ⟨#[]⟩]) 3 32 Tryz.underlying27 hvi hv0 hv1 hv2 rfl (by decide) _ _ (vcells (bvp s.data.toList n i)) rfl (HV.out.row.alloc _) ⟨_, 0, none⟩ 1 1 [.int .i64 1, .int .i64 (x : Int), .string ⟨#[]⟩] rfl rfl three_cells (by intro u hu; simp at hu; rcases hu with rfl | rfl | rfl <;> rfl) (by have := HTL.out; unfold maxLen; omega) (by have := HTL.out; omega) (by have := HV.out.old.size; simp at this ⊢; omega) ?_; intro v1 w2 hown1 hgrow1 _; have HV2 : Hid (VOw w1 v1 w2 (bvp s.data.toList n i ++ [⟨1, (x : Int), ⟨#[]⟩⟩])) := HV.out.push (v := ⟨1, (x : Int), ⟨#[]⟩⟩) hown1 hgrow1)
      go_roundw
      case rel => exact ⟨i + 1, by omega, by go_num, by rw [HVS2.out]; exact HV2⟩
      case measure => simp [intOf]; omega
    · obtain rfl : i = n := by omega
      obtain ⟨a2, c2, rfl, hl2⟩ := liesV_own HV.out.row
      have HFs : Hid (Fsh w.heap.size a2) := (own_capS HV.out.row _ _ _ rfl).2.low hb1.size
      have HL2 : Hid (LiesV wr a2 (bvp s.data.toList i i)) := hl2
      clear hl2
      have hpl := plainOf_any a2 (bvp s.data.toList i i) c2 1 wr (by rw [bvp_len]; exact hn) HL2.out (bvp_right _ _)
      obtain ⟨pb, HPB⟩ : ∃ pb, Hid (pb = plainB 1 (bvp s.data.toList i i)) := ⟨_, rfl⟩
      rw [← HPB.out] at hpl
      go_wp2_with fail
      refine hpl.mono ?_
      clear hpl
      rintro e w3 ⟨rfl, hb3⟩
      have HL3 : Hid (LiesV w3 a2 (bvp s.data.toList i i)) := LiesV.keep HL2.out hb3
      have hb13 := hbb.trans (hb3.mono hbb.size)
      by_cases hq : (⟨pb.toArray⟩ : ByteArray) = s
      · have HY : Hid (IsPl 1 s.data.toList i (bvp s.data.toList i i)) := ⟨bvp_len _ _ _, bvp_right _ _, by rw [← HPB.out]; exact bytes_back s _ hq⟩
        rw [hq]
        clear hq
        go_wp2
        go_ret2
        exact ⟨Or.inl ⟨_, a2, c2, HY.out, rfl, HL3.out, HFs.out⟩, hb13⟩
      · have HNo : Hid (¬ ∃ vs, IsPl 1 s.data.toList i vs) := fun ⟨vs, hI⟩ => hq (bytes_to s _ (by
          rw [HPB.out]
          by_cases hc : s.data.toList.length = (i + 7) / 8 ∧ Um.lev s.data.toList < 2 ^ i
          · exact (isPl_bools hc.1 hc.2).2.2
          · refine absurd ⟨vs, hI⟩ (notPl_bools ?_)
            by_cases h : s.data.toList.length = (i + 7) / 8
            · exact Or.inr fun h2 => hc ⟨h, h2⟩
            · exact Or.inl h))
        have hq2 : ((⟨pb.toArray⟩ : ByteArray).toList == s.toList) = false := by simp only [beq_eq_false_iff_ne, ne_eq]; exact fun h => hq (str_ext h)
        clear hq
        generalize (⟨pb.toArray⟩ : ByteArray) = t at *
        go_wp2
        go_ret2
        exact ⟨Or.inr ⟨HNo.out, _, _, _, rfl⟩, hb13⟩
theorem plOf_c (kd : Int) (s : ByteArray) (n : Nat) (w : World) (hs : s.size ≤ 3000) (hn : n ≤ 20000) (hk1 : 1 ≤ kd) (hk5 : kd ≤ 5) :
    Calls Tryz.prog 50 #[.int .i64 kd, .string s, .int .i64 n] w fun e w' => RetOkC w.heap.size (IsPl kd s.data.toList n) e w' ∧ Below w.heap.size w w' := by
  by_cases h1 : kd = 1
  · subst h1
    exact plOf_bools s n w hs hn
  · by_cases h4 : kd = 4
    · subst h4
      exact plOf_texts s n w hs hn
    · exact plOf_nums kd s n w hs hn (by omega)
theorem plOf_any (kd : Int) (s : ByteArray) (n : Nat) (w : World) (hs : s.size ≤ 3000) (hn : n ≤ 20000) (hk1 : 1 ≤ kd) (hk5 : kd ≤ 5) :
    Calls Tryz.prog 50 #[.int .i64 kd, .string s, .int .i64 n] w fun e w' => RetOk (IsPl kd s.data.toList n) e w' ∧ Below w.heap.size w w' :=
  (plOf_c kd s n w hs hn hk1 hk5).mono fun _ _ h => ⟨h.1.old, h.2⟩
end Go.Proofs.YteeheodcejeloaaGreatDoor

namespace Go.Proofs.YteeheodcejeloaaGreatDoor
open Go.RowKit
set_option maxRecDepth 100000 in
theorem placeWidthR_any (n : Nat) (w : World) (hn : n ≤ 20000) :
    Calls Tryz.prog 88 #[.int .i64 n] w fun e w' => e = .returned (.int .i64 (Um.pw n : Nat)) ∧ w' = w := by
  by_cases h : n < 2
  · have e : Um.pw n = 0 := by unfold Um.pw; rw [show n - 1 = 0 by omega]; rfl
    rw [e]
    go_enter Tryz.func88, Tryz.ntmps88
    go_wp2
    go_ret
    exact ⟨rfl, rfl⟩
  · obtain ⟨m, rfl⟩ : ∃ m, n = m + 1 := ⟨n - 1, by omega⟩
    have e : Um.pw (m + 1) = Lib.bitLen m := rfl
    rw [e]
    go_enter Tryz.func88, Tryz.ntmps88
    go_wp2_with (go_at_call 53; refine (widthOf_any m _ (by omega)).mono ?_; rintro e w1 ⟨rfl, hw⟩; obtain rfl := hw.symm)
    go_ret
    exact ⟨rfl, rfl⟩
end Go.Proofs.YteeheodcejeloaaGreatDoor

namespace Go.Proofs.YteeheodcejeloaaGreatDoor
open Go.RowKit
theorem atp_snoc (us : List Vl) (ps : List Nat) (i : Nat) (hi : i < ps.length) (hp : ps[i] < us.length) : atp us (ps.take (i + 1)) = atp us (ps.take i) ++ [us[ps[i]]] := by
  rw [List.take_succ_eq_append_getElem hi]
  unfold atp
  rw [List.map_append]
  congr 1
  simp [List.getD, hp]
theorem atp_take_len (us : List Vl) (ps : List Nat) (i : Nat) (hi : i ≤ ps.length) : (atp us (ps.take i)).length = i := by rw [atp_len, List.length_take]; omega
/-- How a dictionary's bytes are none. -/
theorem notDc {kd : Int} {l : List UInt8} {n : Nat} (h : ∀ us e, ¬ IsUn kd l n us e) : ¬ ∃ vs, IsDc kd l n vs := fun ⟨_, us, e, _, h1, _⟩ => h us e h1
set_option maxRecDepth 100000 in
set_option maxHeartbeats 3200000 in
theorem dcOf_c (kd : Int) (s : ByteArray) (n : Nat) (w : World) (hs : s.size ≤ 3000) (hn : n ≤ 20000) (hk1 : 1 ≤ kd) (hk5 : kd ≤ 5) :
    Calls Tryz.prog 54 #[.int .i64 kd, .string s, .int .i64 n] w fun e w' => RetOkC w.heap.size (IsDc kd s.data.toList n) e w' ∧ Below w.heap.size w w' := by
  obtain ⟨iv, hvi, hv0, hv1, hv2⟩ := info_parts Tryz.infoV
  have HLen : Hid (s.data.toList.length = s.size) := Array.length_toList
  generalize hp : Um.rdv s.data.toList 0 0 = p
  obtain ⟨m, k⟩ := p
  have HP : Hid (Um.rdv s.data.toList 0 0 = (m, k)) := hp
  have hroom := Um.rdv_room s.data.toList 0 0 (by simp)
  rw [hp, HLen.out] at hroom
  obtain ⟨hm64, hk10, hkl⟩ := hroom
  simp only at hm64 hk10 hkl
  clear hp
  have hs7 := readSeven_any s w (by unfold maxLen; omega)
  rw [HP.out] at hs7
  have hwn : IntKind.u64.wrap (n : Int) = n := by rw [IntKind.wrap_u64]; omega
  go_enter Tryz.func54, Tryz.ntmps54
  go_wp2_with fail
  refine hs7.mono ?_
  clear hs7
  rintro e w1 ⟨rfl, hw⟩
  obtain rfl := hw.symm
  by_cases hgo : 0 < k ∧ m ≤ n
  rotate_left
  · have HNo : Hid (¬ ∃ vs, IsDc kd s.data.toList n vs) := notDc fun us u ⟨m', k', z', j', q1, q2, q3, _⟩ => by
      rw [HP.out] at q1
      obtain ⟨rfl, rfl⟩ := Prod.mk.injEq .. ▸ q1
      exact hgo ⟨q2, q3⟩
    have hcase : ((k : Int) == 0) = true ∨ (((k : Int) == 0) = false ∧ n < m) := by
      by_cases h1 : k = 0
      · left; simp; omega
      · right; exact ⟨by simp; omega, by omega⟩
    clear hgo
    rcases hcase with q1 | ⟨q1, q2⟩
    all_goals go_wp2
    all_goals go_ret2
    all_goals exact ⟨Or.inr ⟨HNo.out, _, _, _, rfl⟩, Below.refl _ _⟩
  obtain ⟨hk0, hmn⟩ := hgo
  have q1 : ((k : Int) == 0) = false := by simp; omega
  have q2 : ¬ n < m := by omega
  generalize hp : Um.rdv (s.data.toList.drop k) 0 0 = p
  obtain ⟨z, j⟩ := p
  have HQ : Hid (Um.rdv (s.data.toList.drop k) 0 0 = (z, j)) := hp
  have hroom := Um.rdv_room (s.data.toList.drop k) 0 0 (by simp)
  rw [hp, List.length_drop, HLen.out] at hroom
  obtain ⟨hz64, hj10, hjl⟩ := hroom
  simp only at hz64 hj10 hjl
  clear hp
  have hks : k ≤ s.size := by omega
  obtain ⟨s1, hs1e⟩ : ∃ s1, s.extract k s.size = s1 := ⟨_, rfl⟩
  have HS1 : Hid (s1.data.toList = s.data.toList.drop k) := by show _ = _; rw [← hs1e]; exact drop_ext s k
  have HZ1 : Hid (s1.size = s.size - k) := by show _ = _; rw [← hs1e, ByteArray.size_extract]; omega
  have HQ1 : Hid (Um.rdv s1.data.toList 0 0 = (z, j)) := by show _ = _; rw [HS1.out]; exact HQ.out
  by_cases hfit : 0 < j ∧ j + z ≤ s1.size
  rotate_left
  · have HNo : Hid (¬ ∃ vs, IsDc kd s.data.toList n vs) := notDc fun us u ⟨m', k', z', j', q1, q2, q3, q4, q5, q6, _⟩ => by
      rw [HP.out] at q1
      obtain ⟨rfl, rfl⟩ := Prod.mk.injEq .. ▸ q1
      rw [HQ.out] at q4
      obtain ⟨rfl, rfl⟩ := Prod.mk.injEq .. ▸ q4
      rw [HLen.out] at q6
      exact hfit ⟨q5, by rw [HZ1.out]; omega⟩
    have hlong := readLong_miss s1 w z j (by rw [HZ1.out]; omega) HQ1.out (by omega)
    clear hfit
    go_wp2_with fail
    refine hlong.mono ?_
    clear hlong
    rintro e w1 ⟨rfl, hw⟩
    obtain rfl := hw.symm
    go_wp2
    go_ret2
    exact ⟨Or.inr ⟨HNo.out, _, _, _, rfl⟩, Below.refl _ _⟩
  obtain ⟨hj0, hfit⟩ := hfit
  have hlong := readLong_hit s1 w z j (by rw [HZ1.out]; omega) HQ1.out hj0 hfit
  obtain ⟨t, hte⟩ : ∃ t, s1.extract j (j + z) = t := ⟨_, rfl⟩
  have HTL : Hid (t.data.toList = (s.data.toList.drop (k + j)).take z) := by show _ = _; rw [← hte, ext_take, HS1.out, List.drop_drop]
  have HTZ : Hid (t.size ≤ 3000) := by show _ ≤ _; rw [← hte, ByteArray.size_extract, HZ1.out]; omega
  rw [hte] at hlong
  have hwm : IntKind.i64.wrap (m : Int) = (m : Int) := by rw [IntKind.wrap_i64]; omega
  obtain ⟨y, HY⟩ : ∃ y, Hid (y = j + z) := ⟨_, rfl⟩
  have hyi : (j : Int) + (z : Int) = (y : Int) := by rw [HY.out]; omega
  have q3 : ((y : Int) == 0) = false := by simp; have := HY.out; omega
  rw [hyi] at hlong
  clear hte
  go_wp2_with fail
  refine hlong.mono ?_
  clear hlong
  rintro e w1 ⟨rfl, hw⟩
  obtain rfl := hw.symm
  have hpl := plOf_any kd t m w HTZ.out (by omega) hk1 hk5
  rw [HTL.out] at hpl
  go_wp2_with fail
  refine hpl.mono ?_
  clear hpl
  rintro e w1 ⟨⟨us, a1, c1, hI, rfl, hl1⟩ | ⟨hI, a1, n1, c1, rfl⟩, hb1⟩
  rotate_left
  · have HNo : Hid (¬ ∃ vs, IsDc kd s.data.toList n vs) := notDc fun us u ⟨m', k', z', j', q1, q2, q3, q4, q5, q6, q7, _⟩ => by
      rw [HP.out] at q1
      obtain ⟨rfl, rfl⟩ := Prod.mk.injEq .. ▸ q1
      rw [HQ.out] at q4
      obtain ⟨rfl, rfl⟩ := Prod.mk.injEq .. ▸ q4
      exact hI ⟨us, q7⟩
    clear hI
    go_wp2
    go_ret2
    exact ⟨Or.inr ⟨HNo.out, _, _, _, rfl⟩, hb1⟩
  have HUL : Hid (us.length = m) := hI.1
  have HI : Hid (IsUn kd s.data.toList n us (k + y)) := ⟨m, k, z, j, HP.out, hk0, hmn, HQ.out, hj0, by rw [HLen.out]; have := HZ1.out; omega, hI, by rw [HY.out]; omega⟩
  have HL1 : Hid (LiesV w1 a1 us) := hl1
  clear hI hl1
  have hul : us.length ≤ 20000 := by rw [HUL.out]; omega
  have hky : k + y ≤ s.size := by have := HZ1.out; have := HY.out; omega
  obtain ⟨f, HF⟩ : ∃ f, Hid (f = k + y) := ⟨_, rfl⟩
  have hfi : (k : Int) + (y : Int) = (f : Int) := by rw [HF.out]; omega
  have hfs : f ≤ s.size := by rw [HF.out]; exact hky
  obtain ⟨s2, hs2e⟩ : ∃ s2, s.extract f s.size = s2 := ⟨_, rfl⟩
  have HS2 : Hid (s2.data.toList = s.data.toList.drop (k + y)) := by show _ = _; rw [← hs2e, drop_ext, HF.out]
  have hs2z : s2.size ≤ 3000 := by rw [← hs2e, ByteArray.size_extract]; omega
  have HPW : Hid (∀ W : World, Calls Tryz.prog 88 #[.int .i64 (m : Nat)] W fun e w' => e = .returned (.int .i64 (Um.pw us.length : Nat)) ∧ w' = W) := by
    rw [HUL.out]
    exact fun W => placeWidthR_any m W (by omega)
  have HRR : Hid (∀ W : World, Calls Tryz.prog 52 #[.string s2, .int .i64 (Um.pw us.length : Nat), .int .i64 (n : Nat)] W fun e w' => RetOf (Um.runs (s.data.toList.drop (k + y)) (Um.pw us.length) n) e w' ∧ Below W.heap.size W w') := fun W => by
    have h := readRunsOf_any s2 (Um.pw us.length) n W hs2z (Um.pw_le hul) hn
    rw [HS2.out] at h
    exact h
  have HSZ : Hid ((s.data.toList.drop (k + y)).length = s2.size) := by show _ = _; rw [← HS2.out]; exact Array.length_toList
  go_wp2_with fail
  refine (HPW.out _).mono ?_
  rintro e w2 ⟨rfl, hw⟩
  obtain rfl := hw.symm
  go_wp2_with fail
  obtain ⟨R, HR⟩ : ∃ R, Hid (R = Um.runs (s.data.toList.drop (k + y)) (Um.pw us.length) n) := ⟨_, rfl⟩
  rw [← HR.out] at HRR
  refine (HRR.out _).mono ?_
  clear HRR HPW
  cases R with
  | none =>
    have HNo : Hid (¬ ∃ vs, IsDc kd s.data.toList n vs) := fun ⟨vs, us', u', ps', h, h2, h3⟩ => by
      obtain ⟨rfl, rfl⟩ := isUn_fn HI.out h
      rw [← HR.out] at h2
      cases h2
    rintro e w3 ⟨rfl, hb3⟩
    have hne : ((-1 : Int) != (s2.size : Int)) = true := by simp
    go_wp2
    go_ret2
    exact ⟨Or.inr ⟨HNo.out, _, _, _, rfl⟩, hb1.trans (hb3.mono hb1.size)⟩
  | some rr =>
    obtain ⟨ps, u⟩ := rr
    have HRE : Hid (∀ vs us' u' ps', IsUn kd s.data.toList n us' u' → Um.runs (s.data.toList.drop u') (Um.pw us'.length) n = some (ps', (s.data.toList.drop u').length) → Uq vs us' ps' → us' = us ∧ ps' = ps ∧ u = s2.size) := fun vs us' u' ps' h h2 h3 => by
      obtain ⟨rfl, rfl⟩ := isUn_fn HI.out h
      rw [← HR.out] at h2
      simp only [Option.some.injEq, Prod.mk.injEq] at h2
      refine ⟨rfl, h2.1.symm, ?_⟩
      rw [h2.2, HSZ.out]
    have HPL : Hid (ps.length = n) := Um.runs_length HR.out.symm
    rintro e w3 ⟨⟨a3, c3, rfl, hl3⟩, hb3⟩
    have hb13 := hb1.trans (hb3.mono hb1.size)
    have HL3 : Hid (∀ j (h : j < ps.length), ∃ b o, a3 = some ⟨b, o, none⟩ ∧ w3.cell? ⟨b, o + j, none⟩ = some (.int .i64 (ps[j] : Nat))) := fun j h => by
      obtain ⟨b, o, e, hc⟩ := hl3 j (by rw [nvals_len]; exact h)
      refine ⟨b, o, e, ?_⟩
      rw [hc]
      simp [nvals, i64s]
    have HLU : Hid (LiesV w3 a1 us) := LiesV.keep HL1.out hb3
    clear hl3
    by_cases hu : u = s2.size
    rotate_left
    · have hne : ((u : Int) != (s2.size : Int)) = true := by simp; omega
      have HNo : Hid (¬ ∃ vs, IsDc kd s.data.toList n vs) := fun ⟨vs, us', u', ps', h, h2, h3⟩ => hu (HRE.out vs us' u' ps' h h2 h3).2.2
      clear hu
      go_wp2
      go_ret2
      exact ⟨Or.inr ⟨HNo.out, _, _, _, rfl⟩, hb13⟩
    have hne : ((u : Int) != (s2.size : Int)) = false := by simp; omega
    have HU : Hid (u = s2.size) := hu
    have hpl2 : ps.length ≤ 20000 := by rw [HPL.out]; exact hn
    clear hu
    go_wp2_with fail
    go_loopw [17, 18] (fun o x wr => ∃ i : Nat, i ≤ ps.length ∧ x = .int .i64 i ∧ Hid (∀ j (h : j < ps.length), j < i → ps[j] < us.length) ∧ Hid (VOw w3 o wr (atp us (ps.take i)))) (fun _ x _ => ps.length - (intOf x).toNat)
    case atStart => exact ⟨0, Nat.zero_le _, rfl, fun j _ h => absurd h (Nat.not_lt_zero _), VOw.start w3⟩
    case round =>
      obtain ⟨i, hik, rfl, HA, HV⟩ := hrel
      have hb := HV.out.old
      have hbb := hb13.trans (hb.mono hb13.size)
      by_cases hlt : i < ps.length
      · obtain ⟨b2, o2, rfl, hc0⟩ := HL3.out i hlt
        have hc := (hb.cell (World.block_lt_of_cell? w3 _ hc0)).trans hc0
        have HP2 : Hid (∀ h : i < ps.length, ps[i] = ps[i]'hlt) := fun _ => rfl
        have HSn : Hid (∀ h : ps[i] < us.length, atp us (ps.take (i + 1)) = atp us (ps.take i) ++ [us[ps[i]]]) := fun h => atp_snoc us ps i hlt h
        have HTL2 : Hid ((atp us (ps.take i)).length = i) := atp_take_len us ps i hik
        clear hc0
        generalize ps[i]'hlt = p at *
        by_cases hpu : p < us.length
        · obtain ⟨b1, o1, rfl, d0, d1, d2⟩ := (LiesV.keep HLU.out hb) p hpu
          have HSn2 : Hid _ := HSn.out hpu
          have HA2 : Hid (∀ j (h : j < ps.length), j < i + 1 → ps[j] < us.length) := fun j h hj => by
            by_cases e : j = i
            · subst e; rw [HP2.out h]; exact hpu
            · exact HA.out j h (by omega)
          have hpu3 : ¬ us.length ≤ p := by omega
          generalize us[p] = v at *
          generalize atp us (ps.take i) = vs at *
          go_wp2_with (at_builtin; refine wpList_append_own _ rfl _ _ 27 rfl w3.heap.size 41 iv (.agg #[.int .i64 0, .int .i64 0, .string ⟨#[]⟩]) 3 32 Tryz.underlying27 hvi hv0 hv1 hv2 rfl (by decide) _ vs.length (vcells vs) rfl (HV.out.row.alloc _) ⟨_, 0, none⟩ 1 1 [.int .i64 v.k, .int .i64 v.n, .string v.s] rfl rfl three_cells (by intro u hu; simp at hu; rcases hu with rfl | rfl | rfl <;> rfl) (by have := HTL2.out; unfold maxLen; omega) (by have := HTL2.out; omega) (by have := HV.out.old.size; simp at this ⊢; omega) ?_; intro v1 w6 hown1 hgrow1 _; have HV2 : Hid (VOw w3 v1 w6 (vs ++ [v])) := HV.out.push hown1 hgrow1)
          go_roundw
          case rel => exact ⟨i + 1, by omega, by go_num, HA2, by rw [HSn2.out]; exact HV2⟩
          case measure => simp [intOf]; omega
        · have HNo : Hid (¬ ∃ vs, IsDc kd s.data.toList n vs) := fun ⟨vs, us', u', ps', h, h2, h3⟩ => hpu (by
            obtain ⟨rfl, rfl, _⟩ := HRE.out vs us' u' ps' h h2 h3
            have h4 := h3.lt (ps'[i]'hlt) (List.getElem_mem hlt)
            rw [HP2.out hlt] at h4
            exact h4)
          have hpu3 : us.length ≤ p := by omega
          go_wp2
          go_ret2
          exact ⟨Or.inr ⟨HNo.out, _, _, _, rfl⟩, hbb⟩
      · obtain rfl : i = ps.length := by omega
        rw [List.take_length] at HV
        have HPB : Hid (∀ p ∈ ps, p < us.length) := fun p hp => by
          obtain ⟨j, hj, rfl⟩ := List.getElem_of_mem hp
          exact HA.out j hj hj
        obtain ⟨a4, c4, rfl, hl4⟩ := liesV_own HV.out.row
        have HFs : Hid (Fsh w.heap.size a4) := (own_capS HV.out.row _ _ _ rfl).2.low hb13.size
        have HL4 : Hid (LiesV wr a4 (atp us ps)) := hl4
        clear hl4
        have hun := unlikeOf_any a4 (atp us ps) c4 wr (by rw [atp_len]; exact hpl2) HL4.out
        go_wp2_with fail
        refine hun.mono ?_
        clear hun
        rintro e w7 ⟨⟨us', ps', a8, c8, a9, c9, hUq, rfl, hl8, _⟩, hb7⟩
        have HUq : Hid (Uq (atp us ps) us' ps') := hUq
        have hul8 : us'.length ≤ 20000 := by have := hUq.len.2; rw [atp_len] at this; omega
        have HL8 : Hid (LiesV w7 a8 us') := hl8
        have HL47 : Hid (LiesV w7 a4 (atp us ps)) := LiesV.keep HL4.out hb7
        have hb17 := hbb.trans (hb7.mono hbb.size)
        clear hUq hl8
        go_wp2_with fail
        refine (sameVs_any w7 a8 a1 c8 c1 us' us (by unfold maxLen; omega) HL8.out (LiesV.keep (LiesV.keep HLU.out hb) hb7)).mono ?_
        rintro e w8 ⟨⟨b, rfl, hbt⟩, hb8⟩
        have hb18 := hb17.trans (hb8.mono hb17.size)
        have HL48 : Hid (LiesV w8 a4 (atp us ps)) := LiesV.keep HL47.out hb8
        cases b with
        | true =>
          obtain rfl : us' = us := hbt.1 rfl
          obtain rfl := HUq.out.places HPB.out
          have HY2 : Hid (IsDc kd s.data.toList n (atp us' ps')) := ⟨us', k + y, ps', HI.out, by rw [HSZ.out, ← HU.out]; exact HR.out.symm, HUq.out⟩
          clear hbt
          go_wp2
          go_ret2
          exact ⟨Or.inl ⟨_, a4, c4, HY2.out, rfl, HL48.out, HFs.out⟩, hb18⟩
        | false =>
          have HNo : Hid (¬ ∃ vs, IsDc kd s.data.toList n vs) := fun ⟨vs, us2, u2, ps2, h, h2, h3⟩ => by
            obtain ⟨rfl, rfl, _⟩ := HRE.out vs us2 u2 ps2 h h2 h3
            have h4 := h3
            rw [h3.atp] at h4
            exact absurd (hbt.2 (HUq.out.fn _ _ h4).1) (by simp)
          clear hbt
          go_wp2
          go_ret2
          exact ⟨Or.inr ⟨HNo.out, _, _, _, rfl⟩, hb18⟩
end Go.Proofs.YteeheodcejeloaaGreatDoor

namespace Go.Proofs.YteeheodcejeloaaGreatDoor
open Go.RowKit
theorem maxs_abv (lo : Int) : ∀ (ds : List Int) (x : Int), lo ≤ x → (∀ d ∈ ds, lo ≤ d) → (ds.map fun d => (d - lo).toNat).foldl max (x - lo).toNat = (ds.foldl max x - lo).toNat
  | [], _, _, _ => rfl
  | d :: ds, x, hx, h => by
    have hd := h d (by simp)
    simp only [List.map_cons, List.foldl_cons]
    rw [show max (x - lo).toNat (d - lo).toNat = (max x d - lo).toNat by omega]
    exact maxs_abv lo ds (max x d) (by omega) (fun y hy => h y (by simp [hy]))
theorem abv_most {ds : List Int} (h0 : 0 < ds.length) : (abv ds).foldl max 0 = (highs ds - lows ds).toNat := by
  have h := maxs_abv (lows ds) ds (lows ds) (Int.le_refl _) (fun d hd => lows_le hd)
  rw [Int.sub_self, Int.toNat_zero] at h
  unfold abv
  rw [h]
  have h1 := (maxs_ge ds (lows ds)).2 _ (highs_in h0)
  rcases maxs_in ds (lows ds) with e | e
  · have := highs_ge (lows_in h0)
    rw [e] at h1 ⊢
    rw [show highs ds = lows ds by omega]
  · have := highs_ge e
    rw [show ds.foldl max (lows ds) = highs ds by omega]
theorem take_max (us : List Nat) (q : Nat) (h : q < us.length) : (us.take (q + 1)).foldl max 0 = max ((us.take q).foldl max 0) us[q] := by
  rw [List.take_succ_eq_append_getElem h, List.foldl_append]; rfl
theorem cat4 (a b c d : List UInt8) : (⟨a.toArray⟩ : ByteArray) ++ ⟨b.toArray⟩ ++ ⟨c.toArray⟩ ++ ⟨d.toArray⟩ = ⟨(a ++ b ++ c ++ d).toArray⟩ := by rw [arr_app, arr_app, arr_app]
theorem own_lies {w : World} {B e : Nat} {v : Value} {xs : List Value} (h : w.ownsRow B e 1 v xs.length xs) (h0 : 0 < xs.length) : ∃ g c, v = .slice (some ⟨g, 0, none⟩) xs.length c ∧ Lies w (some ⟨g, 0, none⟩) xs := by
  rcases h.2 with ⟨_, hz⟩ | ⟨g, cap, cur, rfl, _, hk, _, _, hcs, ht⟩
  · omega
  · refine ⟨g, cap, rfl, fun j hj => ⟨g, 0, rfl, ?_⟩⟩
    rw [Nat.zero_add, cell_of_row _ g j cur e (0, 0) hk]
    have h1 : (cur.toList.take (xs.length * 1))[j]? = some xs[j] := by rw [ht]; exact List.getElem?_eq_getElem hj
    rw [List.getElem?_take_of_lt (by omega), Array.getElem?_toList] at h1
    exact h1
set_option maxRecDepth 100000 in
set_option maxHeartbeats 3200000 in
theorem deltaOf_any (a : Option Addr) (vs : List Vl) (c : Nat) (w : World) (hn : vs.length ≤ 20000) (hl : LiesV w a vs) (hx : ∀ j (h : j < vs.length), -9223372036854775808 ≤ vs[j].n ∧ vs[j].n ≤ 9223372036854775807) :
    Calls Tryz.prog 91 #[.slice a vs.length c] w fun e w' => e = .returned (.string ⟨(deltaB vs).toArray⟩) ∧ Below w.heap.size w w' := by
  obtain ⟨i6, hi6, hz60, hz61, hz62⟩ := info_parts Tryz.infoI64
  obtain ⟨iu, hiu, hu0, hu1, hu2⟩ := info_parts Tryz.infoU64
  have HL : Hid (LiesV w a vs) := hl
  have HX : Hid (∀ j (h : j < vs.length), -9223372036854775808 ≤ vs[j].n ∧ vs[j].n ≤ 9223372036854775807) := hx
  clear hl hx
  by_cases h0 : vs.length = 0
  · have HD : Hid (deltaB vs = []) := by show _ = _; unfold deltaB; rw [if_pos h0]
    rw [h0]
    go_enter Tryz.func91, Tryz.ntmps91
    go_wp2
    go_ret
    exact ⟨by rw [HD.out]; rfl, Below.refl _ _⟩
  · obtain ⟨b, o, rfl, hc0, hc1, hc2⟩ := HL.out 0 (by omega)
    have hx0 := HX.out 0 (by omega)
    have HD : Hid (deltaB vs = Um.uv (zig vs[0].n) ++ stepsB (difs vs) ((vs.length - 1 + 31) / 32)) := by
      show _ = _
      unfold deltaB
      rw [if_neg h0]
      simp [vns, List.getD, show 0 < vs.length by omega]
    have hpos : 0 < vs.length := by omega
    generalize vs[0] = v0 at *
    obtain ⟨k0, n0, s0⟩ := v0
    simp only [Nat.zero_mul, Nat.add_zero] at hc0 hc1 hc2 hx0 HD
    have hl0 : ((vs.length : Int) == 0) = false := by simp only [beq_eq_false_iff_ne, ne_eq]; omega
    go_enter Tryz.func91, Tryz.ntmps91
    go_wp2_with fail
    refine (signedOf_any n0 _ hx0.1 hx0.2).mono ?_
    rintro e w1 ⟨rfl, hb1⟩
    have huv := Um.uv_ten (zig_lt hx0.1 hx0.2)
    obtain ⟨m1, hm1⟩ : ∃ m1 : List UInt8, m1 = Um.uv (zig n0) := ⟨_, rfl⟩
    rw [← hm1] at huv HD ⊢
    clear hm1 hc0 hc1 hc2
    obtain ⟨n, hvn⟩ : ∃ n, vs.length = n + 1 := ⟨vs.length - 1, by omega⟩
    have hdl := difs_len vs
    have HDF : Hid (∀ r, r < n → (difs vs).getD r 0 = wrap64 ((vns vs).getD (r + 1) 0 - (vns vs).getD r 0)) := fun r hr => by
      simp [difs, List.getD, show r < vs.length - 1 by omega, dif]
    have HDO : Hid _ := difs_ok (vs := vs)
    rw [hvn, Nat.add_sub_cancel] at hdl HD
    obtain ⟨ds, HDS⟩ : ∃ ds, Hid (ds = difs vs) := ⟨_, rfl⟩
    rw [← HDS.out] at hdl HD HDF HDO
    rw [hvn]
    have HVN : Hid (vs.length = n + 1) := hvn
    have hn2 : n ≤ 20000 := by omega
    clear hvn hn hpos h0 hl0
    go_wp2
    go_loopw [3, 4] (fun o x wr => ∃ j : Nat, 32 * j < n + 32 ∧ x = .int .i64 (((32 * j : Nat) : Int) + 1) ∧ o = .string ⟨(m1 ++ stepsB ds j).toArray⟩ ∧ (m1 ++ stepsB ds j).length ≤ 10 + 300 * j ∧ Below w.heap.size w wr) (fun _ x _ => n + 33 - (intOf x).toNat)
    case atStart => exact ⟨0, by omega, rfl, by simp [stepsB], by simpa [stepsB] using huv, hb1⟩
    case round =>
      clear hb1
      obtain ⟨j, hj, rfl, rfl, hroom, hb⟩ := hrel
      by_cases hlt : 32 * j < n
      · obtain ⟨es, HE⟩ : ∃ es : List Int, Hid (es = (ds.drop (32 * j)).take 32) := ⟨_, rfl⟩
        have hel : es.length = min 32 (n - 32 * j) := by rw [HE.out, List.length_take, List.length_drop, hdl]
        have HEX : Hid (∀ d ∈ es, -9223372036854775808 ≤ d ∧ d ≤ 9223372036854775807) := fun d hd => HDO.out d (List.mem_of_mem_drop (List.mem_of_mem_take (by rw [← HE.out]; exact hd)))
        have HEG : Hid (∀ q (h : q < es.length), es[q] = ds.getD (32 * j + q) 0) := fun q h => by
          have h2 := HE.out
          subst h2
          rw [List.length_take, List.length_drop] at h
          rw [List.getElem_take, List.getElem_drop, List.getD_eq_getElem?_getD, List.getElem?_eq_getElem (by omega)]
          rfl
        have HSB : Hid (m1 ++ stepsB ds (j + 1) = m1 ++ stepsB ds j ++ blkB es) := by
          show _ = _
          rw [stepsB_succ, stepB, ← HE.out, List.append_assoc]
        have hbl := blkB_len (ds := es) (by omega) (by omega) HEX.out
        obtain ⟨p, HP⟩ : ∃ p, Hid (p = es.length) := ⟨_, rfl⟩
        rw [← HP.out] at hel
        have hp : p ≤ 32 ∧ 32 * j + p ≤ n ∧ 0 < p ∧ (p < 32 → 32 * j + p = n) := by omega
        clear hel
        obtain ⟨jj, HJ⟩ : ∃ jj, Hid (jj = 32 * j) := ⟨_, rfl⟩
        rw [← HJ.out] at hp hlt ⊢
        go_wp2
        go_loopw [5, 6] (fun d k wq => ∃ q r : Nat, q ≤ p ∧ Hid (r = jj + q) ∧ k = .int .i64 ((r : Int) + 1) ∧ Hid (wq.ownsRow w.heap.size 2 1 d (i64s (es.take q)).length (i64s (es.take q))) ∧ Below w.heap.size w wq) (fun _ k _ => jj + 40 - (intOf k).toNat)
        case atStart => exact ⟨0, jj, Nat.zero_le _, rfl, rfl, World.ownsRow_nil _ _ _ _, hb⟩
        case round =>
          clear hb
          obtain ⟨q, r, hq, HR, rfl, HO, hb⟩ := hrel
          by_cases hqp : q < p
          · have hr1 : r < jj + 32 ∧ r < n := by rw [HR.out]; omega
            obtain ⟨b1, o1, e1, _, hd1, _⟩ := (HL.out.keep hb) r (by rw [HVN.out]; omega)
            obtain ⟨rfl, rfl⟩ : b = b1 ∧ o = o1 := by simpa using e1
            obtain ⟨b2, o2, e2, _, hd2, _⟩ := (HL.out.keep hb) (r + 1) (by rw [HVN.out]; omega)
            obtain ⟨rfl, rfl⟩ : b = b2 ∧ o = o2 := by simpa using e2
            clear e1 e2
            have HQ : Hid (es.take (q + 1) = es.take q ++ [wrap64 ((vs[r + 1]'(by rw [HVN.out]; omega)).n - (vs[r]'(by rw [HVN.out]; omega)).n)]) := by
              show _ = _
              have h1 : r < vs.length := by rw [HVN.out]; omega
              have h2 : r + 1 < vs.length := by rw [HVN.out]; omega
              rw [List.take_succ_eq_append_getElem (by rw [← HP.out]; exact hqp), HEG.out q (by rw [← HP.out]; exact hqp), ← HJ.out, ← HR.out, HDF.out r (by omega)]
              simp [vns, List.getD, h1, h2]
            generalize (vs[r + 1]'(by rw [HVN.out]; omega)).n = x1 at *
            generalize (vs[r]'(by rw [HVN.out]; omega)).n = x0 at *
            have hr2 : r < 30000 := by omega
            have hr0 : (0 : Int) ≤ (r : Int) + 1 := by omega
            have hwr : IntKind.i64.wrap (r : Int) = r := by rw [IntKind.wrap_i64]; omega
            have hr3 : (r : Int) < (n : Int) + 1 := by omega
            have hql : (i64s (es.take q)).length ≤ 20000 := by rw [i64s_len, List.length_take]; omega
            obtain ⟨cs, HCS⟩ : ∃ cs, Hid (cs = i64s (es.take q)) := ⟨_, rfl⟩
            rw [← HCS.out] at HO hql
            have HQC : Hid (i64s (es.take (q + 1)) = cs ++ [.int .i64 (IntKind.i64.wrap (x1 - x0))]) := by
              show _ = _
              rw [HQ.out, HCS.out, IntKind.wrap_i64]
              simp [i64s, wrap64]
            go_wp2_with fail
            go_region_law (refine step_own_slice rfl _ _ 196 rfl w.heap.size 2 i6 (.int .i64 0) 1 8 Tryz.underlyingI64s hi6 hz60 hz61 hz62 rfl (by decide) _ cs.length cs rfl (HO.out.alloc _) ⟨wr.heap.size, 0, none⟩ 1 1 [.int .i64 (IntKind.i64.wrap (x1 - x0))] rfl rfl (show ∀ j u, _ → (wr.alloc _).cell? _ = some u from cell_one_new _ _ _) (by intro u hu; simp at hu; subst hu; rfl) (by unfold maxLen; omega) (by omega) (by have := hb.size; simp; omega) ?_; intro v' w3 hown3 hgrow3; have HO3 : Hid _ := hown3; have hb3 : Below w.heap.size w w3 := ((hb.alloc hb.size _).drew).grown hgrow3 (by have := hb.size; simp; omega) (fun k hk => (HO.out.lt k hk).1))
            all_goals
              go_wp2
              go_roundw
              case rel =>
                refine ⟨q + 1, r + 1, by omega, ?_, by go_num, ?_, hb3⟩
                · show _ = _
                  rw [HR.out]; omega
                · rw [HQC.out, List.length_append]
                  exact HO3
              case measure => simp [intOf]; omega
          · obtain rfl : q = p := by omega
            have htk : es.take q = es := List.take_of_length_le (by rw [← HP.out]; omega)
            rw [htk] at HO
            clear htk
            have hr1 : ¬ (r < jj + 32 ∧ r < n) := by rw [HR.out]; omega
            have hlq : (i64s es).length = q := by rw [i64s_len, ← HP.out]
            obtain ⟨g, cd, hsl, hld⟩ := own_lies HO.out (by rw [hlq]; omega)
            rw [hlq] at HO hsl
            subst hsl
            have HLd : Hid (∀ W : World, W.ownsRow w.heap.size 2 1 (.slice (some ⟨g, 0, none⟩) q cd) q (i64s es) → ∀ k (h : k < es.length), W.cell? ⟨g, k, none⟩ = some (.int .i64 es[k])) := fun W hW k hk => by
              obtain ⟨g', c', e', hl⟩ := own_lies (xs := i64s es) (by rw [hlq]; exact hW) (by rw [i64s_len]; omega)
              injection e' with e1 e2 e3
              injection e1 with e1
              injection e1 with e1 _ _
              subst e1
              obtain ⟨b', o', e', hc⟩ := hl k (by rw [i64s_len]; exact hk)
              injection e' with e'
              injection e' with e1 e2 _
              subst e1 e2
              rw [Nat.zero_add] at hc
              simpa [i64s] using hc
            clear hld
            have he0 := HLd.out _ HO.out 0 (by rw [← HP.out]; omega)
            have HE0 : Hid (es[0]'(by rw [← HP.out]; omega) = es.getD 0 0) := by show _ = _; simp [List.getD, show 0 < es.length by rw [← HP.out]; omega]
            rw [HE0.out] at he0
            have hcase : (r < jj + 32 ∧ ¬ r < n) ∨ ¬ r < jj + 32 := by omega
            clear hr1
            rcases hcase with ⟨hc1, hc2⟩ | hc1
            all_goals
              go_wp2
              clear he0
              go_loop [7, 8] (fun le k => ∃ m : Nat, m ≤ q ∧ k = .int .i64 m ∧ le = .int .i64 (mins (es.getD 0 0) es m)) (fun _ k => q - (intOf k).toNat)
              case atStart => exact ⟨0, Nat.zero_le _, rfl, rfl⟩
              case round =>
                obtain ⟨m, hm, rfl, rfl⟩ := hrel
                by_cases hmq : m < q
                · have hec := HLd.out _ HO.out m (by rw [← HP.out]; exact hmq)
                  have HMS : Hid (mins (es.getD 0 0) es (m + 1) = min (mins (es.getD 0 0) es m) (es[m]'(by rw [← HP.out]; exact hmq))) := mins_succ _ _ _ _
                  generalize es[m]'(by rw [← HP.out]; exact hmq) = y at *
                  generalize mins (es.getD 0 0) es m = z at *
                  by_cases hyz : y < z
                  · go_wp2
                    go_round
                    case rel => exact ⟨m + 1, by omega, by go_num, by rw [HMS.out, Int.min_eq_right (by omega)]⟩
                    case measure => simp [intOf]; omega
                  · go_wp2
                    go_round
                    case rel => exact ⟨m + 1, by omega, by go_num, by rw [HMS.out, Int.min_eq_left (by omega)]⟩
                    case measure => simp [intOf]; omega
                · obtain rfl : m = q := by omega
                  have HLO : Hid (mins (es.getD 0 0) es m = lows es) := by
                    show _ = _
                    unfold mins lows
                    rw [List.take_of_length_le (by rw [← HP.out]; omega)]
                  rw [HLO.out]
                  have hpos : 0 < es.length := by rw [← HP.out]; omega
                  have hlo := HEX.out _ (lows_in hpos)
                  have hhi := HEX.out _ (highs_in hpos)
                  have hlh := lows_le (highs_in hpos)
                  obtain ⟨ha1, ha2⟩ := abv_lt HEX.out hpos
                  have HA1 : Hid (∀ x ∈ abv es, x < 2 ^ wdt es) := ha1
                  have HBB : Hid (blkB es = Um.uv (zig (lows es)) ++ (Um.bt (wdt es : Nat) :: Um.lit (Um.num (wdt es) (abv es)) ((m * wdt es + 7) / 8))) := by show _ = _; rw [HP.out]; rfl
                  have HWD : Hid (wdt es = Lib.bitLen ((abv es).foldl max 0)) := by show _ = _; rw [abv_most hpos]; rfl
                  have hmo : (abv es).foldl max 0 < 18446744073709551616 := by rw [abv_most hpos]; omega
                  have HAB : Hid (∀ k (h : k < es.length), lows es ≤ es[k] ∧ es[k] ≤ 9223372036854775807 ∧ (abv es)[k]? = some (es[k] - lows es).toNat) := fun k h => ⟨lows_le (List.getElem_mem h), (HEX.out _ (List.getElem_mem h)).2, by simp [abv, h]⟩
                  have hal : (abv es).length = m := by rw [abv_len, ← HP.out]
                  clear ha1 HLO hpos
                  generalize abv es = us at *
                  generalize wdt es = wd at *
                  generalize lows es = lo at *
                  go_wp2
                  go_loopw [9, 10, 11] (fun u mo k wq => ∃ q : Nat, q ≤ m ∧ k = .int .i64 q ∧ mo = .int .u64 (((us.take q).foldl max 0 : Nat) : Int) ∧ Hid (wq.ownsRow w.heap.size 89 1 u (u64s (us.take q)).length (u64s (us.take q))) ∧ Hid (wq.ownsRow w.heap.size 2 1 (.slice (some ⟨g, 0, none⟩) m cd) m (i64s es)) ∧ Below w.heap.size w wq) (fun _ _ k _ => m - (intOf k).toNat)
                  case atStart => exact ⟨0, Nat.zero_le _, rfl, rfl, World.ownsRow_nil _ _ _ _, HO, hb⟩
                  case round =>
                    clear HO hb
                    obtain ⟨q, hqm, rfl, rfl, HU, HO, hb⟩ := hrel
                    by_cases hq2 : q < m
                    · have hec := HLd.out _ HO.out q (by rw [← HP.out]; exact hq2)
                      obtain ⟨hy1, hy2, hy3⟩ := HAB.out q (by rw [← HP.out]; exact hq2)
                      obtain ⟨hq3, hy4⟩ := List.getElem?_eq_some_iff.1 hy3
                      have HTM : Hid ((us.take (q + 1)).foldl max 0 = max ((us.take q).foldl max 0) us[q]) := take_max us q hq3
                      have HUQ : Hid (u64s (us.take (q + 1)) = u64s (us.take q) ++ [.int .u64 (us[q] : Nat)]) := by
                        show _ = _
                        rw [List.take_succ_eq_append_getElem hq3]
                        unfold u64s
                        rw [List.map_append]
                        rfl
                      have hul : (u64s (us.take q)).length ≤ 20000 := by rw [u64s_len, List.length_take]; omega
                      generalize es[q]'(by rw [← HP.out]; exact hq2) = y at *
                      have hx1 : ((us[q] : Nat) : Int) = y - lo := by rw [hy4]; omega
                      obtain ⟨x, hx⟩ : ∃ x, us[q] = x := ⟨_, rfl⟩
                      rw [hx] at HTM HUQ hx1
                      have HX1 : Hid ((x : Int) = y - lo) := hx1
                      rw [hx1] at HUQ
                      clear hx hy3 hy4 hx1
                      generalize (us.take q).foldl max 0 = mo at *
                      generalize u64s (us.take q) = cu at *
                      have hcv : IntKind.u64.wrap (wrap64 (y - lo)) = y - lo := by
                        rw [IntKind.wrap_u64]
                        unfold wrap64
                        omega
                      by_cases hmo2 : (mo : Int) < y - lo
                      · go_wp2_with (at_builtin; refine wpList_append_own _ rfl _ _ 148 rfl w.heap.size 89 iu (.int .u64 0) 1 8 Tryz.underlyingU64s hiu hu0 hu1 hu2 rfl (by decide) _ cu.length cu rfl (HU.out.alloc _) ⟨_, 0, none⟩ 1 1 [.int .u64 (y - lo)] rfl rfl (cell_one_new _ _ _) (by intro u hu; simp at hu; subst hu; rfl) (by unfold maxLen; omega) (by omega) (by have := hb.size; simp; omega) ?_; intro v' w3 hown3 hgrow3 _; have HO3 : Hid _ := hown3; have HD3 : Hid _ := own_two (HU.out.alloc _) (HO.out.alloc _) (by decide) hgrow3; have hb3 : Below w.heap.size w w3 := (hb.alloc hb.size _).grown hgrow3 (by have := hb.size; simp; omega) (fun k hk => (HU.out.lt k hk).1))
                        go_roundw
                        case rel => exact ⟨q + 1, by omega, by go_num, by rw [HTM.out, ← HX1.out, Nat.max_eq_right (by have := HX1.out; omega)], by rw [HUQ.out, List.length_append]; exact HO3, HD3, hb3⟩
                        case measure => simp [intOf]; omega
                      · go_wp2_with (at_builtin; refine wpList_append_own _ rfl _ _ 148 rfl w.heap.size 89 iu (.int .u64 0) 1 8 Tryz.underlyingU64s hiu hu0 hu1 hu2 rfl (by decide) _ cu.length cu rfl (HU.out.alloc _) ⟨_, 0, none⟩ 1 1 [.int .u64 (y - lo)] rfl rfl (cell_one_new _ _ _) (by intro u hu; simp at hu; subst hu; rfl) (by unfold maxLen; omega) (by omega) (by have := hb.size; simp; omega) ?_; intro v' w3 hown3 hgrow3 _; have HO3 : Hid _ := hown3; have HD3 : Hid _ := own_two (HU.out.alloc _) (HO.out.alloc _) (by decide) hgrow3; have hb3 : Below w.heap.size w w3 := (hb.alloc hb.size _).grown hgrow3 (by have := hb.size; simp; omega) (fun k hk => (HU.out.lt k hk).1))
                        go_roundw
                        case rel => exact ⟨q + 1, by omega, by go_num, by rw [HTM.out, Nat.max_eq_left (by have := HX1.out; omega)], by rw [HUQ.out, List.length_append]; exact HO3, HD3, hb3⟩
                        case measure => simp [intOf]; omega
                    · obtain rfl : q = m := by omega
                      have htk : us.take q = us := List.take_of_length_le (by omega)
                      rw [htk] at HU ⊢
                      clear htk
                      have hlu : (u64s us).length = q := by rw [u64s_len, hal]
                      obtain ⟨gu, cu, hsl, hlu2⟩ := own_lies HU.out (by rw [hlu]; omega)
                      rw [hlu] at hsl
                      subst hsl
                      have HLU : Hid (Lies wr (some ⟨gu, 0, none⟩) (u64s us)) := hlu2
                      clear hlu2 HU HO
                      have hmo2 := hmo
                      obtain ⟨mo, HMO⟩ : ∃ mo, Hid (mo = us.foldl max 0) := ⟨_, rfl⟩
                      rw [← HMO.out] at hmo2 HWD ⊢
                      clear hmo
                      go_wp2_with fail
                      refine (widthOf_any mo _ hmo2).mono ?_
                      rw [← HWD.out]
                      rintro e w2 ⟨rfl, hw⟩
                      obtain rfl := hw.symm
                      go_wp2_with fail
                      refine (signedOf_any lo _ hlo.1 hlo.2).mono ?_
                      rintro e w3 ⟨rfl, hb3⟩
                      have hbw3 := hb.trans (hb3.mono hb.size)
                      have hu1 := Um.uv_ten (zig_lt hlo.1 hlo.2)
                      have hob := hroom
                      have HFin : Hid (m1 ++ stepsB ds (j + 1) = m1 ++ stepsB ds j ++ Um.uv (zig lo) ++ [Um.bt (wd : Nat)] ++ Um.lit (Um.num wd us) ((wd * q + 7) / 8)) := by
                        show _ = _
                        rw [HSB.out, HBB.out, Nat.mul_comm wd q]
                        simp
                      have hpk := fun W h => packOf_any (some ⟨gu, 0, none⟩) cu us wd W (by omega) ha2 HA1.out h
                      rw [hal] at hpk
                      have hll : (Um.lit (Um.num wd us) ((wd * q + 7) / 8)).length ≤ 300 := by
                        rw [Um.lit_len]
                        have := Nat.mul_le_mul ha2 hp.1
                        omega
                      have hjb : j ≤ 700 := by omega
                      generalize Um.lit (Um.num wd us) ((wd * q + 7) / 8) = lt at *
                      generalize Um.uv (zig lo) = ub at *
                      have HFL : Hid ((m1 ++ stepsB ds (j + 1)).length ≤ 10 + 300 * (j + 1)) := by show _ ≤ _; rw [HSB.out, List.length_append]; omega
                      generalize m1 ++ stepsB ds j = ob at *
                      have hs1 : (⟨ob.toArray⟩ : ByteArray).size ≤ 300000 := by simp [ByteArray.size]; omega
                      have hs2 : (⟨ub.toArray⟩ : ByteArray).size ≤ 10 := by simpa [ByteArray.size] using hu1
                      have hs3 : (⟨lt.toArray⟩ : ByteArray).size ≤ 300 := by simpa [ByteArray.size] using hll
                      have HCat : Hid ((⟨ob.toArray⟩ : ByteArray) ++ ⟨ub.toArray⟩ ++ ⟨#[Um.bt (wd : Nat)]⟩ ++ ⟨lt.toArray⟩ = ⟨(m1 ++ stepsB ds (j + 1)).toArray⟩) := by
                        show _ = _
                        rw [HFin.out, ← cat4]
                      clear hroom hob hu1 hll
                      generalize (⟨ob.toArray⟩ : ByteArray) = sb at *
                      generalize (⟨ub.toArray⟩ : ByteArray) = su at *
                      generalize (⟨lt.toArray⟩ : ByteArray) = sl at *
                      have hc1 : ∀ W : World, (Op.stringOp .add sb su).run Tryz.prog W = .ok (.string (sb ++ su)) W := fun W => run_string_add_sum _ _ _ (by omega)
                      go_wp2_with fail
                      refine (byte_any (wd : Int) _ (by omega) (by omega)).mono ?_
                      rintro e w4 ⟨rfl, hb4⟩
                      have hbw4 := hbw3.trans (hb4.mono hbw3.size)
                      have hs4 : (⟨#[Um.bt (wd : Int)]⟩ : ByteArray).size = 1 := rfl
                      have HCat2 : Hid (sb ++ su ++ ⟨#[Um.bt (wd : Int)]⟩ ++ sl = ⟨(m1 ++ stepsB ds (j + 1)).toArray⟩) := HCat.out
                      generalize (⟨#[Um.bt (wd : Int)]⟩ : ByteArray) = sw at hs4 HCat2 ⊢
                      have hc2 : ∀ W : World, (Op.stringOp .add (sb ++ su) sw).run Tryz.prog W = .ok (.string (sb ++ su ++ sw)) W := fun W => run_string_add_sum _ _ _ (by rw [ByteArray.size_append]; omega)
                      have hc3 : ∀ W : World, (Op.stringOp .add (sb ++ su ++ sw) sl).run Tryz.prog W = .ok (.string (sb ++ su ++ sw ++ sl)) W := fun W => run_string_add_sum _ _ _ (by rw [ByteArray.size_append, ByteArray.size_append]; omega)
                      have HL4 : Hid _ := Lies.keep (Lies.keep HLU.out hb3) hb4
                      go_wp2_with fail
                      refine (hpk _ HL4.out).mono ?_
                      rintro e w5 ⟨rfl, hb5⟩
                      have hbw5 := hbw4.trans (hb5.mono hbw4.size)
                      go_wp2
                      go_roundw
                      case rel =>
                        refine ⟨j + 1, by have := HJ.out; omega, ?_, by rw [HCat2.out], HFL.out, hbw5⟩
                        rw [HJ.out]
                        go_num
                      case measure => simp [intOf]; omega
      · have HJ2 : Hid (j = (n + 31) / 32) := by show _ = _; omega
        have HD2 : Hid (m1 ++ stepsB ds j = deltaB vs) := by show _ = _; rw [HD.out, HJ2.out]
        rw [HD2.out]
        have hlt2 : ¬ ((32 * j : Nat) : Int) < (n : Int) := by omega
        go_wp2
        go_ret
        exact ⟨rfl, hb⟩
end Go.Proofs.YteeheodcejeloaaGreatDoor

namespace Go.Proofs.YteeheodcejeloaaGreatDoor
open Go.RowKit
theorem SRow.start (kd : Int) (w : World) : SRow kd w (.slice none 0 0) w [] := ⟨World.ownsRow_nil _ _ _ _, Below.refl _ _⟩
/-- What is checked of the numbers. -/
theorem isDl_of {kd : Int} {s : ByteArray} {n : Nat} {xs : List Int} (h : rdSteps s.data.toList n = some xs) (hn : xs.length = n) (hx : ∀ x ∈ xs, -9223372036854775808 ≤ x ∧ x ≤ 9223372036854775807) (ho : ∀ j (h : j < (kvs kd xs).length), (kvs kd xs)[j].Ok kd) (hd : deltaB (kvs kd xs) = s.data.toList) : IsDl kd s.data.toList n (kvs kd xs) := ⟨xs, h, hn, rfl, hx, ho, hd⟩
theorem notDl_none {kd : Int} {s : ByteArray} {n : Nat} (h : rdSteps s.data.toList n = none) : ¬ ∃ vs, IsDl kd s.data.toList n vs := fun ⟨vs, xs, h1, _⟩ => by rw [h] at h1; cases h1
theorem notDl_ok {kd : Int} {s : ByteArray} {n : Nat} {xs : List Int} (h : rdSteps s.data.toList n = some xs) {j : Nat} (hj : j < (kvs kd xs).length) (ho : ¬ (kvs kd xs)[j].Ok kd) : ¬ ∃ vs, IsDl kd s.data.toList n vs := fun ⟨vs, ys, h1, _, h3, _, h5, _⟩ => by
  rw [h] at h1
  injection h1 with h1
  subst h1 h3
  exact ho (h5 j hj)
theorem notDl_bytes {kd : Int} {s : ByteArray} {n : Nat} {xs : List Int} (h : rdSteps s.data.toList n = some xs) (hd : deltaB (kvs kd xs) ≠ s.data.toList) : ¬ ∃ vs, IsDl kd s.data.toList n vs := fun ⟨vs, ys, h1, _, h3, _, _, h6⟩ => by
  rw [h] at h1
  injection h1 with h1
  subst h1 h3
  exact hd h6
set_option maxRecDepth 100000 in
set_option maxHeartbeats 3200000 in
theorem dlOf_c (kd : Int) (s : ByteArray) (n : Nat) (w : World) (hs : s.size ≤ 3000) (hn : n ≤ 20000) :
    Calls Tryz.prog 55 #[.int .i64 kd, .string s, .int .i64 n] w fun e w' => RetOkC w.heap.size (IsDl kd s.data.toList n) e w' ∧ Below w.heap.size w w' := by
  obtain ⟨iv, hvi, hv0, hv1, hv2⟩ := info_parts Tryz.infoV
  go_enter Tryz.func55, Tryz.ntmps55
  go_wp2
  go_loopw [8, 9] (fun o y wr => ∃ (xs : List Int) (r : ByteArray), y = .string r ∧ r.size ≤ 3000 ∧ xs.length ≤ n ∧ Hid (SRow kd w o wr xs) ∧ Hid (RAt s n xs r)) (fun o _ _ => n - slLen o)
  case atStart => exact ⟨[], s, rfl, hs, Nat.zero_le _, SRow.start kd w, Or.inl ⟨rfl, rfl⟩⟩
  case round =>
    obtain ⟨xs, r, rfl, hr, hxn, HR, HA⟩ := hrel
    have hb := HR.out.old
    obtain ⟨a2, c2, rfl, hl2⟩ := liesV_own HR.out.row
    have HFs : Hid (Fsh w.heap.size a2) := (own_capS HR.out.row _ _ _ rfl).2
    rw [kvs_len] at *
    have HL2 : Hid (LiesV wr a2 (kvs kd xs)) := hl2
    clear hl2
    by_cases hlt : xs.length < n
    · generalize hp : Um.rdv r.data.toList 0 0 = p
      obtain ⟨m, i⟩ := p
      have HP : Hid (Um.rdv r.data.toList 0 0 = (m, i)) := hp
      have hroom := Um.rdv_room r.data.toList 0 0 (by simp)
      rw [hp, Array.length_toList] at hroom
      obtain ⟨hm64, hi10, hil⟩ := hroom
      simp only at hm64 hi10 hil
      have HM64 : Hid (m < 18446744073709551616) := hm64
      have hil2 : i ≤ r.size := by have : r.size = r.data.size := rfl; omega
      clear hp hil hm64
      go_wp2_with fail
      refine (readSigned_any r wr m i (by unfold maxLen; omega) HP.out).mono ?_
      rintro e w1 ⟨rfl, hw⟩
      obtain rfl := hw.symm
      by_cases hi : i = 0
      · have HNo : Hid (rdSteps s.data.toList n = none) := HA.out.bad0 hlt (by rw [HP.out, hi])
        have hi0 : ((i : Int) == 0) = true := by simp; omega
        go_wp2
        go_ret2
        exact ⟨Or.inr ⟨notDl_none HNo.out, _, _, _, rfl⟩, hb⟩
      · have hi0 : ((i : Int) == 0) = false := by simp; omega
        by_cases hx0 : xs.length = 0
        · have he : xs = [] := List.length_eq_zero_iff.1 hx0
          subst he
          have HA2 : Hid (RAt s n [unz m] (r.extract i r.size)) := HA.out.first (by simpa using hlt) (by omega) HP.out HM64.out
          have hrx : (r.extract i r.size).size ≤ 3000 := by rw [ByteArray.size_extract]; omega
          generalize unz m = z at *
          clear hx0
          go_wp2_with (at_builtin; refine wpList_append_own _ rfl _ _ 27 rfl w.heap.size 41 iv (.agg #[.int .i64 0, .int .i64 0, .string ⟨#[]⟩]) 3 32 Tryz.underlying27 hvi hv0 hv1 hv2 rfl (by decide) _ 0 (vcells (kvs kd [])) rfl (HR.out.row.alloc _) ⟨_, 0, none⟩ 1 1 [.int .i64 kd, .int .i64 z, .string ⟨#[]⟩] rfl rfl three_cells (by intro u hu; simp at hu; rcases hu with rfl | rfl | rfl <;> rfl) (by unfold maxLen; omega) (by omega) (by have := HR.out.old.size; simp at this ⊢; omega) ?_; intro v1 w2 hown1 hgrow1 _; have HR1 : Hid (SRow kd w v1 w2 [z]) := HR.out.push hown1 hgrow1)
          obtain ⟨a3, c3, rfl, _⟩ := liesV_own HR1.out.row
          go_roundw
          case rel => exact ⟨[z], r.extract i r.size, rfl, hrx, by simp; omega, HR1, HA2⟩
          case measure => simp [slLen, kvs]; simp at hlt; omega
        · have hx1 : ((xs.length : Int) == 0) = false := by rw [beq_eq_false_iff_ne]; omega
          have hx0' : 0 < xs.length := by omega
          obtain ⟨p, HPn⟩ : ∃ p, Hid (p = min 32 (n - xs.length)) := ⟨_, rfl⟩
          have hp32 : p ≤ 32 := by rw [HPn.out]; omega
          have hpn : xs.length + p ≤ n ∧ 0 < p := by rw [HPn.out]; omega
          have hpc : (decide ((32 : Int) < (n : Int) - (xs.length : Int)) = true ∧ Hid ((32 : Int) = (p : Int))) ∨ (decide ((32 : Int) < (n : Int) - (xs.length : Int)) = false ∧ (n : Int) - (xs.length : Int) = (p : Int)) := by
            have := HPn.out
            by_cases h : 32 < n - xs.length
            · left; exact ⟨by rw [decide_eq_true_iff]; omega, by show _ = _; omega⟩
            · right; exact ⟨by rw [decide_eq_false_iff_not]; omega, by omega⟩
          obtain ⟨r1, hr1e⟩ : ∃ r1, r.extract i r.size = r1 := ⟨_, rfl⟩
          have HR1 : Hid (r1.data.toList = r.data.toList.drop i) := by show _ = _; rw [← hr1e]; exact drop_ext r i
          have HZ1 : Hid (r1.size = r.size - i) := by show _ = _; rw [← hr1e, ByteArray.size_extract]; omega
          have hr1 : r1.size ≤ 3000 := by rw [HZ1.out]; omega
          by_cases hr0 : r1.size = 0
          · have HNo : Hid (rdSteps s.data.toList n = none) := HA.out.bad hlt hx0' HPn.out HP.out (by have := HZ1.out; omega)
            have hrt := (toList_nil r1).2 hr0
            clear hr0
            rcases hpc with ⟨hd, hq⟩ | ⟨hd, hq⟩
            all_goals go_wp2
            all_goals go_ret2
            all_goals exact ⟨Or.inr ⟨notDl_none HNo.out, _, _, _, rfl⟩, hb⟩
          · have hrt : r1.toList.isEmpty = false := by rw [toList_isEmpty]; simp [hr0]
            have hr0' : 0 < r1.size := by omega
            obtain ⟨wd, hwd⟩ : ∃ wd, r1[0].toNat = wd := ⟨_, rfl⟩
            have HWD : Hid (r1[0].toNat = wd) := hwd
            clear hwd
            have hwdi : (r1[0].toNat : Int) = (wd : Int) := by rw [HWD.out]
            have HGD : Hid ((r.data.toList.getD i 0).toNat = wd) := by
              show _ = _
              have h1 : (r.data.toList.drop i)[0]? = some r1[0] := by
                rw [← HR1.out, List.getElem?_eq_getElem (by rw [Array.length_toList]; exact hr0')]
                rfl
              rw [List.getElem?_drop, Nat.add_zero] at h1
              rw [List.getD_eq_getElem?_getD, h1, ← HWD.out]
              rfl
            clear hr0
            by_cases hw64 : wd ≤ 64
            · have hw2 : decide (64 < (wd : Int)) = false := by simp; omega
              have hw3 : ¬ 64 < wd := by omega
              have hwr : IntKind.i64.wrap (wd : Int) = (wd : Int) := by rw [IntKind.wrap_i64]; omega
              have HUN : Hid (Calls Tryz.prog 86 #[.string (r1.extract 1 r1.size), .int .i64 wd, .int .i64 p] wr fun e w' => UnpOf (r1.extract 1 r1.size) wd p e w' ∧ Below wr.heap.size wr w') := unpackOf_wide (r1.extract 1 r1.size) wd p wr (by rw [ByteArray.size_extract]; omega) hw64 (by omega)
              have HX1 : Hid ((r1.extract 1 r1.size).data.toList = r.data.toList.drop (i + 1)) := by show _ = _; rw [drop_ext, HR1.out, List.drop_drop]
              have HZ2 : Hid ((r1.extract 1 r1.size).size = r.size - (i + 1)) := by show _ = _; rw [ByteArray.size_extract, HZ1.out]; omega
              have hrs : i + 1 ≤ r.size := by have := HZ1.out; omega
              have hmm : p * wd ≤ 32 * 64 := Nat.mul_le_mul hp32 hw64
              obtain ⟨t, HT⟩ : ∃ t, Hid (t = p * wd) := ⟨_, rfl⟩
              have hti : (p : Int) * (wd : Int) = (t : Int) := by rw [HT.out]; simp
              have htb : t ≤ 2048 := by rw [HT.out]; exact hmm
              obtain ⟨z, HZ⟩ : ∃ z, Hid (z = (t + 7) / 8) := ⟨_, rfl⟩
              have hzt : ((t : Int) + 7).tdiv 8 = (z : Int) := by rw [Int.tdiv_eq_ediv_of_nonneg (by omega), HZ.out]; omega
              obtain ⟨f, HF⟩ : ∃ f, Hid (f = 1 + z) := ⟨_, rfl⟩
              have hfi : (1 : Int) + (z : Int) = (f : Int) := by rw [HF.out]; omega
              have hzb : z ≤ 300 := by rw [HZ.out]; omega
              clear hmm
              rcases hpc with ⟨hd, hq⟩ | ⟨hd, hq⟩
              all_goals
                go_wp2_with fail
                first | rw [hq.out] | skip
                refine HUN.out.mono ?_
                clear HUN hd hq
                rintro e w5 ⟨⟨hfit, a5, c5, rfl, hl5, B5, hown5⟩ | ⟨hfit, rfl⟩, hb5⟩
                · rw [HZ2.out, Nat.mul_comm wd p, ← HT.out] at hfit
                  have hfs : i + 1 + z ≤ r.size := by have := HZ.out; omega
                  clear hfit
                  obtain ⟨lx, hlast, hat⟩ := HA.out.some hlt hx0' HPn.out HP.out (by omega) HGD.out ⟨by omega, hw64, by rw [← HT.out, ← HZ.out]; exact hfs⟩
                  rw [← HT.out, ← HZ.out] at hat
                  rw [HX1.out] at hl5 hown5
                  have hul : (Um.unp (r.data.toList.drop (i + 1)) wd p).length = p := Um.unp_len _ _ _
                  generalize Um.unp (r.data.toList.drop (i + 1)) wd p = us at *
                  have HUL : Hid (us.length = p) := hul
                  obtain ⟨ls, HLS⟩ : ∃ ls, Hid (ls = unz m) := ⟨_, rfl⟩
                  rw [← HLS.out] at hat ⊢
                  obtain ⟨ds, HDS⟩ : ∃ ds, Hid (ds = us.map fun x : Nat => wrap64 (ls + wrap64 (x : Int))) := ⟨_, rfl⟩
                  rw [← HDS.out] at hat
                  have HDL : Hid (ds.length = p) := by show _ = _; rw [HDS.out, List.length_map, HUL.out]
                  have HLast : Hid (xs.getLast? = some lx) := hlast
                  have HAt : Hid (RAt s n (xs ++ accD lx ds) (r1.extract f r1.size)) := hat.congr (by rw [drop_ext, HR1.out, List.drop_drop, drop_ext, HF.out, ← Nat.add_assoc])
                  have HOwn : Hid (w5.ownsRow B5 89 1 (.slice a5 p c5) p (u64s us)) := hown5
                  have HR5 : Hid (SRow kd w (.slice a2 xs.length c2) w5 (xs ++ accD lx (ds.take 0))) := by
                    show SRow _ _ _ _ _
                    rw [show xs ++ accD lx (ds.take 0) = xs by simp [accD]]
                    exact ⟨ow_kept HR.out.row hb5, hb.trans (hb5.mono hb.size)⟩
                  have hfr : f ≤ r1.size := by rw [HZ1.out, HF.out]; omega
                  have hr2 : (r1.extract f r1.size).size ≤ 3000 := by rw [ByteArray.size_extract]; omega
                  clear hl5 hown5 hat hlast hul HR HA HL2
                  go_wp2
                  go_loopw [8, 16] (fun o x wq => ∃ q : Nat, q ≤ p ∧ x = .int .i64 q ∧ Hid (SRow kd w o wq (xs ++ accD lx (ds.take q))) ∧ Hid (wq.ownsRow B5 89 1 (.slice a5 p c5) p (u64s us))) (fun _ x _ => p - (intOf x).toNat)
                  case atStart => exact ⟨0, Nat.zero_le _, rfl, HR5, HOwn⟩
                  case round =>
                    clear HR5 HOwn
                    obtain ⟨q, hqp, rfl, HRq, HOq⟩ := hrel
                    by_cases hq : q < p
                    · have hqu : q < us.length := by rw [HUL.out]; exact hq
                      have hqd : q < ds.length := by rw [HDL.out]; exact hq
                      have HTK : Hid (ds.take (q + 1) = ds.take q ++ [wrap64 (ls + wrap64 (us[q] : Nat))]) := by
                        show _ = _
                        rw [List.take_succ_eq_append_getElem hqd]
                        simp [HDS.out]
                      have hl6 : Lies wr a5 (u64s us) := by
                        obtain ⟨a6, c6, he6, hl6⟩ := lies_own HOq.out
                        injection he6 with e6 _ _
                        rw [e6]
                        exact hl6
                      obtain ⟨b6, o6, rfl, hc6⟩ := hl6 q (by rw [u64s_len]; exact hqu)
                      simp only [u64s, List.getElem_map] at hc6
                      have hub : us[q] < 18446744073709551616 ∨ True := Or.inr trivial
                      generalize us[q] = u at *
                      have HY2 : Hid (xs ++ accD lx (ds.take (q + 1)) = xs ++ accD lx (ds.take q) ++ [wrap64 (lastOf lx (ds.take q) + wrap64 (ls + wrap64 (u : Int)))]) := by show _ = _; rw [HTK.out, accD_app, List.append_assoc]; rfl
                      have hlq := last_acc (ds.take q) xs lx HLast.out
                      have hql : (xs ++ accD lx (ds.take q)).length ≤ 20000 := by rw [List.length_append, accD_len, List.length_take]; omega
                      generalize lastOf lx (ds.take q) = y at *
                      generalize xs ++ accD lx (ds.take q) = ys at *
                      obtain ⟨a7, c7, rfl, hl7⟩ := liesV_own HRq.out.row
                      rw [kvs_len] at *
                      obtain ⟨hy1, hy2⟩ := last_get hlq
                      obtain ⟨l1, HL1⟩ : ∃ l1, Hid (l1 = ys.length - 1) := ⟨_, rfl⟩
                      have hlm : (ys.length : Int) - 1 = (l1 : Int) := by rw [HL1.out]; omega
                      have hl1 : l1 < ys.length := by rw [HL1.out]; exact hy1
                      obtain ⟨b7, o7, rfl, _, hc7, _⟩ := hl7 l1 (by rw [kvs_len]; exact hl1)
                      have hyv : ((kvs kd ys)[l1]'(by rw [kvs_len]; exact hl1)).n = y := by
                        simp only [kvs, List.getElem_map]
                        have e := HL1.out
                        subst e
                        exact hy2
                      rw [hyv] at hc7
                      obtain ⟨V1, hq1⟩ : ∃ V1, IntKind.i64.wrap (y + ls) = V1 := ⟨_, rfl⟩
                      obtain ⟨V2, hq2⟩ : ∃ V2, IntKind.i64.wrap (u : Int) = V2 := ⟨_, rfl⟩
                      obtain ⟨V, HV⟩ : ∃ V, Hid (V = wrap64 (y + wrap64 (ls + wrap64 (u : Int)))) := ⟨_, rfl⟩
                      have hq3 : IntKind.i64.wrap (V1 + V2) = V := by rw [← hq1, ← hq2, HV.out]; exact wrap_three y ls u
                      rw [← HV.out] at HY2
                      clear hyv hy2 hy1 hlq hl6 hl7 hub
                      go_wp2_with (at_builtin; refine wpList_append_own _ rfl _ _ 27 rfl w.heap.size 41 iv (.agg #[.int .i64 0, .int .i64 0, .string ⟨#[]⟩]) 3 32 Tryz.underlying27 hvi hv0 hv1 hv2 rfl (by decide) _ ys.length (vcells (kvs kd ys)) rfl (HRq.out.row.alloc _) ⟨_, 0, none⟩ 1 1 [.int .i64 kd, .int .i64 V, .string ⟨#[]⟩] rfl rfl three_cells (by intro u hu; simp at hu; rcases hu with rfl | rfl | rfl <;> rfl) (by unfold maxLen; omega) (by omega) (by have := HRq.out.old.size; simp at this ⊢; omega) ?_; intro v1 w6 hown1 hgrow1 _; have HR6 : Hid (SRow kd w v1 w6 (ys ++ [V])) := HRq.out.push hown1 hgrow1; have HO6 : Hid _ := own_two (HRq.out.row.alloc _) (HOq.out.alloc _) (by decide) hgrow1)
                      go_roundw
                      case rel => first | exact ⟨q + 1, by omega, by go_num, by rw [HY2.out]; exact HR6, HO6⟩ | ((repeat apply Exists.intro); refine ⟨?_, rfl⟩; exact ⟨q + 1, by omega, by go_num, by rw [HY2.out]; exact HR6, HO6⟩)
                      case measure => simp [intOf]; omega
                    · obtain rfl : q = p := by omega
                      have htk : ds.take q = ds := List.take_of_length_le (by rw [HDL.out]; exact Nat.le_refl _)
                      rw [htk] at HRq
                      obtain ⟨a3, c3, rfl, _⟩ := liesV_own HRq.out.row
                      have HLf : Hid ((xs ++ accD lx ds).length = xs.length + q) := by show _ = _; rw [List.length_append, accD_len, HDL.out]
                      rw [kvs_len] at *
                      clear htk
                      go_wp2
                      go_roundw
                      case rel => exact ⟨xs ++ accD lx ds, r1.extract f r1.size, rfl, hr2, by rw [HLf.out]; omega, HRq, HAt⟩
                      case measure => simp only [slLen, HLf.out]; omega
                · have HNo : Hid (rdSteps s.data.toList n = none) := HA.out.bad hlt hx0' HPn.out HP.out (by
                    rw [HGD.out, ← HT.out, ← HZ.out]
                    rw [HZ2.out, Nat.mul_comm wd p, ← HT.out] at hfit
                    have := HZ.out
                    omega)
                  clear hfit
                  go_wp2
                  go_ret2
                  exact ⟨Or.inr ⟨notDl_none HNo.out, _, _, _, rfl⟩, hb.trans (hb5.mono hb.size)⟩
            · have hw2 : decide (64 < (wd : Int)) = true := by simp; omega
              have hw3 : 64 < wd := by omega
              have HNo : Hid (rdSteps s.data.toList n = none) := HA.out.bad hlt hx0' HPn.out HP.out (by rw [HGD.out]; omega)
              rcases hpc with ⟨hd, hq⟩ | ⟨hd, hq⟩
              all_goals go_wp2
              all_goals go_ret2
              all_goals exact ⟨Or.inr ⟨notDl_none HNo.out, _, _, _, rfl⟩, hb⟩
    · obtain rfl : xs.length = n := by omega
      obtain ⟨hfin, hins⟩ := HA.out.fin rfl
      have HFin : Hid (rdSteps s.data.toList xs.length = some xs) := hfin
      have HIns : Hid (∀ x ∈ xs, -9223372036854775808 ≤ x ∧ x ≤ 9223372036854775807) := hins
      clear hfin hins HA
      go_wp2_with fail
      go_loopw [18] (fun x wq => ∃ j : Nat, j ≤ xs.length ∧ x = .int .i64 j ∧ Hid (∀ i (h : i < (kvs kd xs).length), i < j → (kvs kd xs)[i].Ok kd) ∧ Below wr.heap.size wr wq) (fun x _ => xs.length - (intOf x).toNat)
      case atStart => exact ⟨0, Nat.zero_le _, rfl, fun i _ h => absurd h (Nat.not_lt_zero _), Below.refl _ _⟩
      case round =>
        obtain ⟨j, hj, rfl, HOk, hbq⟩ := hrel
        have hbb := hb.trans (hbq.mono hb.size)
        by_cases hjl : j < xs.length
        · have hjk : j < (kvs kd xs).length := by rw [kvs_len]; exact hjl
          obtain ⟨b7, o7, rfl, d0, d1, d2⟩ := (LiesV.keep HL2.out hbq) j hjk
          have HE : Hid ((kvs kd xs)[j].Ok kd ↔ OkV kd (kvs kd xs)[j].k (kvs kd xs)[j].n (kvs kd xs)[j].s.size) := Iff.rfl
          have HNOk : Hid (¬ (kvs kd xs)[j].Ok kd → ¬ ∃ vs, IsDl kd s.data.toList xs.length vs) := fun h => notDl_ok HFin.out hjk h
          have HStep : Hid ((kvs kd xs)[j].Ok kd → ∀ i (h : i < (kvs kd xs).length), i < j + 1 → (kvs kd xs)[i].Ok kd) := fun ho i h hi => by
            by_cases e : i = j
            · subst e; exact ho
            · exact HOk.out i h (by omega)
          generalize (kvs kd xs)[j] = v at *
          go_wp2_with fail
          refine (isValueR_any kd v.k v.n v.s wr).mono ?_
          rintro e w7 ⟨rfl, hb7⟩
          have hbq7 := hbq.trans (hb7.mono hbq.size)
          by_cases hok : OkV kd v.k v.n v.s.size
          · rw [okV_iff.2 hok]
            have HN : Hid _ := HStep.out (HE.out.2 hok)
            clear hok
            go_wp2
            go_roundw
            case rel => exact ⟨j + 1, by omega, by go_num, HN, hbq7⟩
            case measure => simp [intOf]; omega
          · rw [okV_no hok]
            have HN : Hid _ := HNOk.out (fun h => hok (HE.out.1 h))
            clear hok
            go_wp2
            go_ret2
            exact ⟨Or.inr ⟨HN.out, _, _, _, rfl⟩, hb.trans (hbq7.mono hb.size)⟩
        · obtain rfl : j = xs.length := by omega
          have HOk2 : Hid (∀ i (h : i < (kvs kd xs).length), (kvs kd xs)[i].Ok kd) := fun i h => HOk.out i h (by rw [kvs_len] at h; exact h)
          have hpl := deltaOf_any a2 (kvs kd xs) c2 wr (by rw [kvs_len]; exact hn) (LiesV.keep HL2.out hbq) (fun j h => by simp only [kvs, List.getElem_map]; exact HIns.out _ (List.getElem_mem _))
          rw [kvs_len] at hpl
          obtain ⟨pb, HPB⟩ : ∃ pb, Hid (pb = deltaB (kvs kd xs)) := ⟨_, rfl⟩
          rw [← HPB.out] at hpl
          go_wp2_with fail
          refine hpl.mono ?_
          clear hpl
          rintro e w3 ⟨rfl, hb3⟩
          have HL3 : Hid (LiesV w3 a2 (kvs kd xs)) := LiesV.keep (LiesV.keep HL2.out hbq) hb3
          have hb13 := hbb.trans (hb3.mono hbb.size)
          by_cases hq : (⟨pb.toArray⟩ : ByteArray) = s
          · have HY : Hid (IsDl kd s.data.toList xs.length (kvs kd xs)) := isDl_of HFin.out rfl HIns.out HOk2.out (by rw [← HPB.out]; exact bytes_back s _ hq)
            rw [hq]
            clear hq
            go_wp2
            go_ret2
            exact ⟨Or.inl ⟨_, a2, c2, HY.out, by rw [kvs_len]; rfl, HL3.out, HFs.out⟩, hb13⟩
          · have HNo : Hid (¬ ∃ vs, IsDl kd s.data.toList xs.length vs) := notDl_bytes HFin.out (fun h => hq (bytes_to s _ (by rw [HPB.out]; exact h)))
            have hq2 : ((⟨pb.toArray⟩ : ByteArray).toList == s.toList) = false := by simp only [beq_eq_false_iff_ne, ne_eq]; exact fun h => hq (str_ext h)
            clear hq
            generalize (⟨pb.toArray⟩ : ByteArray) = t at *
            go_wp2
            go_ret2
            exact ⟨Or.inr ⟨HNo.out, _, _, _, rfl⟩, hb13⟩
end Go.Proofs.YteeheodcejeloaaGreatDoor
