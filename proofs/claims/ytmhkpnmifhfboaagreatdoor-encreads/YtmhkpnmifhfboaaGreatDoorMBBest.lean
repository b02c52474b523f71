/-
  enc.Best: the shortest of all ways.
  enc.Best of right values, and of those that are not.
  enc.ReadBest of what Best writes.
  enc.ReadBest at any bytes and any code: the values, or an error.
-/
import Derived.Test.YtmhkpnmifhfboaaGreatDoorMBRdBehind
import Derived.Test.YtmhkpnmifhfboaaGreatDoorMBRdBlock
import Derived.Test.YtmhkpnmifhfboaaGreatDoorMBDict
import Derived.Test.YtmhkpnmifhfboaaGreatDoorMBRdDict
import Derived.Test.YtmhkpnmifhfboaaGreatDoorMBRdDelta
namespace Go.Proofs.YtmhkpnmifhfboaaGreatDoor
open Go.RowKit
/-- What Best holds: its captured variables. -/
structure BI (w0 : World) (kd : Int) (v : Value) (wx : World) (code : Int) (s : ByteArray) : Prop where
  hk : wx.cell? ⟨w0.heap.size, 0, none⟩ = some (.int .i64 kd)
  hl : wx.cell? ⟨w0.heap.size + 1, 0, none⟩ = some v
  hc : wx.cell? ⟨w0.heap.size + 2, 0, none⟩ = some (.int .i64 code)
  hs : wx.cell? ⟨w0.heap.size + 3, 0, none⟩ = some (.string s)
  fc : wx.frozen? ⟨w0.heap.size + 2, 0, none⟩ = false
  fs : wx.frozen? ⟨w0.heap.size + 3, 0, none⟩ = false
  size : w0.heap.size + 4 ≤ wx.heap.size
  old : Below w0.heap.size w0 wx
theorem BI.keep {w0 : World} {kd : Int} {v : Value} {wx w' : World} {code : Int} {s : ByteArray} (h : BI w0 kd v wx code s) (hb : Below wx.heap.size wx w') : BI w0 kd v w' code s := by
  have hz := h.size
  have h0 : w0.heap.size < wx.heap.size := by omega
  have h1 : w0.heap.size + 1 < wx.heap.size := by omega
  have h2 : w0.heap.size + 2 < wx.heap.size := by omega
  have h3 : w0.heap.size + 3 < wx.heap.size := by omega
  exact ⟨(hb.cell h0).trans h.hk, (hb.cell h1).trans h.hl, (hb.cell h2).trans h.hc, (hb.cell h3).trans h.hs, (hb.frozen h2).trans h.fc, (hb.frozen h3).trans h.fs, Nat.le_trans hz hb.size, h.old.trans (hb.mono h.old.size)⟩
theorem BI.put {w0 : World} {kd : Int} {v : Value} {wx : World} {code : Int} {s : ByteArray} (h : BI w0 kd v wx code s) (c' : Int) (t : ByteArray) : BI w0 kd v ((wx.setCell ⟨w0.heap.size + 2, 0, none⟩ (.int .i64 c')).setCell ⟨w0.heap.size + 3, 0, none⟩ (.string t)) c' t := by
  have ne : ∀ (W : World) (x j : Nat) (u : Value), j ≠ x → (W.setCell ⟨x, 0, none⟩ u).cell? ⟨j, 0, none⟩ = W.cell? ⟨j, 0, none⟩ := fun W x j u hj =>
    World.cell?_setCell_other _ _ _ _ (fun e => hj (by injection e with e _; exact e.symm))
  refine ⟨?_, ?_, ?_, ?_, by simpa using h.fc, by simpa using h.fs, by simpa using h.size, (h.old.setCell (show w0.heap.size ≤ w0.heap.size + 2 by omega) _).setCell (show w0.heap.size ≤ w0.heap.size + 3 by omega) _⟩
  · rw [ne _ _ _ _ (by omega), ne _ _ _ _ (by omega)]; exact h.hk
  · rw [ne _ _ _ _ (by omega), ne _ _ _ _ (by omega)]; exact h.hl
  · rw [ne _ _ _ _ (by omega)]; exact World.cell?_setCell_same _ _ _ h.hc
  · exact World.cell?_setCell_same _ _ _ ((ne _ _ _ _ (by omega)).trans h.hs)
theorem BI.puts {w0 : World} {kd : Int} {v : Value} {wx : World} {code : Int} {s : ByteArray} (h : BI w0 kd v wx code s) (t : ByteArray) : BI w0 kd v (wx.setCell ⟨w0.heap.size + 3, 0, none⟩ (.string t)) code t := by
  have ne : ∀ (W : World) (x j : Nat) (u : Value), j ≠ x → (W.setCell ⟨x, 0, none⟩ u).cell? ⟨j, 0, none⟩ = W.cell? ⟨j, 0, none⟩ := fun W x j u hj =>
    World.cell?_setCell_other _ _ _ _ (fun e => hj (by injection e with e _; exact e.symm))
  refine ⟨?_, ?_, ?_, ?_, by simpa using h.fc, by simpa using h.fs, by simpa using h.size, h.old.setCell (show w0.heap.size ≤ w0.heap.size + 3 by omega) _⟩
  · rw [ne _ _ _ _ (by omega)]; exact h.hk
  · rw [ne _ _ _ _ (by omega)]; exact h.hl
  · rw [ne _ _ _ _ (by omega)]; exact h.hc
  · exact World.cell?_setCell_same _ _ _ h.hs
/-- What Best's variables are at first. -/
def bw (w : World) (kd : Int) (v : Value) : World := (((w.alloc (.cells #[.int .i64 kd] 3)).alloc (.cells #[v] 26)).alloc (.cells #[.int .i64 0] 3)).alloc (.cells #[.string ⟨#[]⟩] 9)
theorem bw_size (w : World) (kd : Int) (v : Value) : (bw w kd v).heap.size = w.heap.size + 4 := by simp [bw]
theorem bw_below (w : World) (kd : Int) (v : Value) : Below w.heap.size w (bw w kd v) :=
  ((((Below.refl _ _).alloc (Nat.le_refl _) _).alloc (by simp) _).alloc (by simp; omega) _).alloc (by simp; omega) _
theorem bw_BI (w : World) (kd : Int) (v : Value) : BI w kd v (bw w kd v) 0 ⟨#[]⟩ := by
  have h0 : (bw w kd v).heap[w.heap.size]? = some (.cells #[.int .i64 kd] 3 (0, 0)) := blk_alloc (blk_alloc (blk_alloc (heap_alloc_new w _)))
  have h1 : (bw w kd v).heap[w.heap.size + 1]? = some (.cells #[v] 26 (0, 0)) := by
    have := heap_alloc_new (w.alloc (.cells #[.int .i64 kd] 3)) (.cells #[v] 26)
    rw [show (w.alloc (.cells #[.int .i64 kd] 3)).heap.size = w.heap.size + 1 by simp] at this
    exact blk_alloc (blk_alloc this)
  have h2 : (bw w kd v).heap[w.heap.size + 2]? = some (.cells #[.int .i64 0] 3 (0, 0)) := by
    have := heap_alloc_new ((w.alloc (.cells #[.int .i64 kd] 3)).alloc (.cells #[v] 26)) (.cells #[.int .i64 0] 3)
    rw [show ((w.alloc (.cells #[.int .i64 kd] 3)).alloc (.cells #[v] 26)).heap.size = w.heap.size + 2 by simp] at this
    exact blk_alloc this
  have h3 : (bw w kd v).heap[w.heap.size + 3]? = some (.cells #[.string ⟨#[]⟩] 9 (0, 0)) := by
    have := heap_alloc_new (((w.alloc (.cells #[.int .i64 kd] 3)).alloc (.cells #[v] 26)).alloc (.cells #[.int .i64 0] 3)) (.cells #[.string ⟨#[]⟩] 9)
    rw [show (((w.alloc (.cells #[.int .i64 kd] 3)).alloc (.cells #[v] 26)).alloc (.cells #[.int .i64 0] 3)).heap.size = w.heap.size + 3 by simp] at this
    exact this
  exact ⟨cell_of_one h0, cell_of_one h1, cell_of_one h2, cell_of_one h3, free_of_one h2, free_of_one h3, by rw [bw_size]; omega, bw_below w kd v⟩
/-- A way is tried. -/
def bst (b : Int × ByteArray) (nc : Int) (t : ByteArray) : Int × ByteArray := (if t.size < b.2.size then nc else b.1, if t.size < b.2.size then t else b.2)
/-- The best way, and its bytes. -/
def bestP (kd : Int) (vs us : List Vl) (ps : List Nat) : Int × ByteArray :=
  if kd = 2 ∨ kd = 3 then bst (bst (0, ⟨(plainB kd vs).toArray⟩) 1 ⟨(dictB kd us ps).toArray⟩) 2 ⟨(deltaB vs).toArray⟩
  else if kd = 4 then bst (bst (0, ⟨(plainB kd vs).toArray⟩) 1 ⟨(dictB kd us ps).toArray⟩) 3 ⟨(Um.prefs [] (bys (vtx vs))).toArray⟩
  else bst (0, ⟨(plainB kd vs).toArray⟩) 1 ⟨(dictB kd us ps).toArray⟩
end Go.Proofs.YtmhkpnmifhfboaaGreatDoor

namespace Go.Proofs.YtmhkpnmifhfboaaGreatDoor
open Go.RowKit
theorem hasPrefix_any (kd : Int) (w : World) : Calls Tryz.prog 19 #[.int .i64 kd] w fun e w' => e = .returned (.bool (decide (kd = 4))) ∧ w' = w := by
  by_cases h4 : kd = 4
  · subst h4
    go_enter Tryz.func19, Tryz.ntmps19
    go_wp2
    go_ret
    exact ⟨rfl, rfl⟩
  · have e : decide (kd = 4) = false := by simp [h4]
    have e2 : (kd == 4) = false := by simp [h4]
    rw [e]
    go_enter Tryz.func19, Tryz.ntmps19
    go_wp2
    go_ret
    exact ⟨rfl, rfl⟩
theorem ok_bytes {kd : Int} {v : Vl} (h4 : kd = 4) (h : v.Ok kd) : v.s.size ≤ 100 := by
  subst h4
  unfold Vl.Ok OkV at h
  omega
theorem loadI {W : World} {g : Nat} {v : Value} (h : W.cell? ⟨g, 0, none⟩ = some v) : (loadVar 3 ⟨g, 0, none⟩).run Tryz.prog W = .ok v W := by go_simp
theorem loadS {W : World} {g : Nat} {v : Value} (h : W.cell? ⟨g, 0, none⟩ = some v) : (loadVar 9 ⟨g, 0, none⟩).run Tryz.prog W = .ok v W := by go_simp
theorem results_cct {P : Program} {fn : Func} {p q u : Tmp} {t1 t2 : TypeId} (h : fn.results = #[.cell p t1, .cell q t2, .tmp u]) (tmps : Array Value) (w : World) (a b : Addr) (x y : Value)
    (hp : tmps.getD p undef = .pointer (some a)) (hq : tmps.getD q undef = .pointer (some b)) (hx : (loadVar t1 a).run P w = .ok x w) (hy : (loadVar t2 b).run P w = .ok y w) :
    (results fn tmps).run P w = .ok (.tuple #[x, y, tmps.getD u undef]) w := by
  have hp' : tmps[p]?.getD undef = .pointer (some a) := by simpa using hp
  have hq' : tmps[q]?.getD undef = .pointer (some b) := by simpa using hq
  simp [results, h, hp', hq', asAddr, Sem.run_bind, Result.andThen, hx, hy]
end Go.Proofs.YtmhkpnmifhfboaaGreatDoor

namespace Go.Proofs.YtmhkpnmifhfboaaGreatDoor
open Go.RowKit
/-- The values are given. -/
def RetVl (vs : List Vl) (e : Ending) (w' : World) : Prop := ∃ a c, e = .returned (.tuple #[.slice a vs.length c, .nilIface]) ∧ LiesV w' a vs
theorem readPlain_right (kd : Int) (s : ByteArray) (vs : List Vl) (w : World) (st : TypeId) (sp : Value) (hg : w.cell? ⟨3, 0, none⟩ = some (.iface st sp)) (hs : s.size ≤ 1000000) (hn : vs.length ≤ 300) (hR : Right kd vs) (he : s.data.toList = plainB kd vs) :
    Calls Tryz.prog 15 #[.int .i64 kd, .string s, .int .i64 (vs.length : Nat)] w fun e w' => RetVl vs e w' ∧ Below w.heap.size w w' := by
  refine (readPlain_any kd s vs.length w st sp hg hs (by omega) hR.1.1 hR.1.2).mono ?_
  rw [he]
  rintro e w1 ⟨⟨us, a, c, hI, rfl, hl⟩ | ⟨hI, rfl⟩, hb⟩
  · obtain rfl : us = vs := isPl_fn hI ⟨rfl, hR, rfl⟩
    exact ⟨⟨a, c, rfl, hl⟩, hb⟩
  · exact absurd ⟨vs, rfl, hR, rfl⟩ hI
theorem readDelta_right (kd : Int) (s : ByteArray) (vs : List Vl) (w : World) (st kt : TypeId) (sp kp : Value) (hg : w.cell? ⟨3, 0, none⟩ = some (.iface st sp)) (hgk : w.cell? ⟨1, 0, none⟩ = some (.iface kt kp)) (hs : s.size ≤ 1000000) (hn : vs.length ≤ 300) (hk : kd = 2 ∨ kd = 3) (hR : Right kd vs) (he : s.data.toList = deltaB vs) :
    Calls Tryz.prog 18 #[.int .i64 kd, .string s, .int .i64 (vs.length : Nat)] w fun e w' => RetVl vs e w' ∧ Below w.heap.size w w' := by
  have hd := isDl_delta hk hR
  refine (readDelta_any kd s vs.length w st kt sp kp hg hgk hs (by omega) hk).mono ?_
  rw [he]
  rintro e w1 ⟨⟨us, a, c, hI, rfl, hl⟩ | ⟨hI, rfl⟩, hb⟩
  · obtain rfl : us = vs := by
      obtain ⟨xs, h1, _, h3, _⟩ := hI
      obtain ⟨ys, g1, _, g3, _⟩ := hd
      rw [h1] at g1
      injection g1 with g1
      rw [h3, g3, g1]
    exact ⟨⟨a, c, rfl, hl⟩, hb⟩
  · exact absurd ⟨vs, hd⟩ hI
theorem pvs_back {vs : List Vl} (hR : Right 4 vs) : pvs (bys (vtx vs)) = vs := by
  unfold pvs bys vtx
  rw [List.map_map, List.map_map]
  refine (List.map_congr_left (fun v hv => ?_)).trans (List.map_id _)
  have ho := (hR.2 v hv).1
  unfold Vl.Ok OkV at ho
  obtain ⟨k, n, s⟩ := v
  simp only [Function.comp_apply, id_eq] at ho ⊢
  rw [mk_bytes]
  obtain ⟨h1, h2⟩ := ho
  have h3 : n = 0 := by omega
  rw [h1, h3]
theorem readPV_right (s : ByteArray) (vs : List Vl) (w : World) (st : TypeId) (sp : Value) (hg : w.cell? ⟨3, 0, none⟩ = some (.iface st sp)) (hs : s.size ≤ 1000000) (hn : vs.length ≤ 300) (hR : Right 4 vs) (he : s.data.toList = Um.prefs [] (bys (vtx vs))) :
    Calls Tryz.prog 20 #[.string s, .int .i64 (vs.length : Nat)] w fun e w' => RetVl vs e w' ∧ Below w.heap.size w w' := by
  have hrd : Um.rdp vs.length [] (Um.prefs [] (bys (vtx vs))) = some (bys (vtx vs)) := by
    have h := Um.rdp_back (bys (vtx vs)) [] (by simp) (fun t ht => by
      obtain ⟨b, hb, rfl⟩ := List.mem_map.1 ht
      obtain ⟨v, hv, rfl⟩ := List.mem_map.1 hb
      rw [Array.length_toList]
      exact ok_bytes rfl (hR.2 v hv).1)
    rw [bys_len, vtx_len] at h
    exact h
  refine (readPrefixValues_any s vs.length w st sp hg hs (by omega)).mono ?_
  rw [he]
  rintro e w1 ⟨⟨us, a, c, ⟨ss, h1, rfl⟩, rfl, hl⟩ | ⟨hI, rfl⟩, hb⟩
  · rw [hrd] at h1
    injection h1 with h1
    subst h1
    rw [pvs_back hR] at hl
    exact ⟨⟨a, c, rfl, hl⟩, hb⟩
  · exact absurd ⟨_, _, hrd, rfl⟩ hI
set_option maxRecDepth 100000 in
set_option maxHeartbeats 1600000 in
theorem readBest_plain (kd : Int) (s : ByteArray) (vs : List Vl) (w : World) (st : TypeId) (sp : Value) (hg : w.cell? ⟨3, 0, none⟩ = some (.iface st sp)) (hs : s.size ≤ 1000000) (hn : vs.length ≤ 300) (hR : Right kd vs) (he : s.data.toList = plainB kd vs) :
    Calls Tryz.prog 6 #[.int .i64 kd, .int .i64 0, .string s, .int .i64 (vs.length : Nat)] w fun e w' => RetVl vs e w' ∧ Below w.heap.size w w' := by
  have HR : Hid (Right kd vs) := hR
  have HC : Hid _ := readPlain_right kd s vs w st sp hg hs hn hR he
  clear hR hg he
  go_enter Tryz.func6, Tryz.ntmps6
  go_wp2_with fail
  refine (checkCount_fine kd vs.length w HR.out.1.1 HR.out.1.2 (by omega) (by omega)).mono ?_
  rintro e w1 ⟨rfl, hw⟩
  obtain rfl := hw.symm
  go_wp2_with fail
  refine Calls.mono HC.out ?_
  rintro e w1 ⟨⟨a, c, rfl, hl⟩, hb⟩
  have HL : Hid _ := hl
  clear hl
  go_wp2
  go_ret2
  exact ⟨⟨a, c, rfl, HL.out⟩, hb⟩
set_option maxRecDepth 100000 in
set_option maxHeartbeats 1600000 in
theorem readBest_dict (kd : Int) (s : ByteArray) (vs us : List Vl) (ps : List Nat) (w : World) (st : TypeId) (sp : Value) (hg : w.cell? ⟨3, 0, none⟩ = some (.iface st sp)) (hs : s.size ≤ 1000000) (hn : vs.length ≤ 300) (hu : Uq vs us ps) (hR : Right kd vs) (he : s.data.toList = dictB kd us ps) :
    Calls Tryz.prog 6 #[.int .i64 kd, .int .i64 1, .string s, .int .i64 (vs.length : Nat)] w fun e w' => RetVl vs e w' ∧ Below w.heap.size w w' := by
  have HR : Hid (Right kd vs) := hR
  have HC : Hid _ := readDict_right kd s vs us ps w st sp hg hs hn hu hR he
  clear hR hg he hu
  go_enter Tryz.func6, Tryz.ntmps6
  go_wp2_with fail
  refine (checkCount_fine kd vs.length w HR.out.1.1 HR.out.1.2 (by omega) (by omega)).mono ?_
  rintro e w1 ⟨rfl, hw⟩
  obtain rfl := hw.symm
  go_wp2_with fail
  refine Calls.mono HC.out ?_
  rintro e w1 ⟨⟨a, c, rfl, hl⟩, hb⟩
  have HL : Hid _ := hl
  clear hl
  go_wp2
  go_ret2
  exact ⟨⟨a, c, rfl, HL.out⟩, hb⟩
set_option maxRecDepth 100000 in
set_option maxHeartbeats 1600000 in
theorem readBest_delta (kd : Int) (s : ByteArray) (vs : List Vl) (w : World) (st kt : TypeId) (sp kp : Value) (hg : w.cell? ⟨3, 0, none⟩ = some (.iface st sp)) (hgk : w.cell? ⟨1, 0, none⟩ = some (.iface kt kp)) (hs : s.size ≤ 1000000) (hn : vs.length ≤ 300) (hk : kd = 2 ∨ kd = 3) (hR : Right kd vs) (he : s.data.toList = deltaB vs) :
    Calls Tryz.prog 6 #[.int .i64 kd, .int .i64 2, .string s, .int .i64 (vs.length : Nat)] w fun e w' => RetVl vs e w' ∧ Below w.heap.size w w' := by
  have HR : Hid (Right kd vs) := hR
  have HC : Hid _ := readDelta_right kd s vs w st kt sp kp hg hgk hs hn hk hR he
  have hd : decide (kd = 2 ∨ kd = 3) = true := by simp [hk]
  clear hR hg he hgk hk
  go_enter Tryz.func6, Tryz.ntmps6
  go_wp2_with fail
  refine (checkCount_fine kd vs.length w HR.out.1.1 HR.out.1.2 (by omega) (by omega)).mono ?_
  rintro e w1 ⟨rfl, hw⟩
  obtain rfl := hw.symm
  go_wp2_with fail
  refine (hasDelta_any kd _).mono ?_
  rw [hd]
  rintro e w2 ⟨rfl, hw⟩
  obtain rfl := hw.symm
  go_wp2_with fail
  refine Calls.mono HC.out ?_
  rintro e w1 ⟨⟨a, c, rfl, hl⟩, hb⟩
  have HL : Hid _ := hl
  clear hl
  go_wp2
  go_ret2
  exact ⟨⟨a, c, rfl, HL.out⟩, hb⟩
set_option maxRecDepth 100000 in
set_option maxHeartbeats 1600000 in
theorem readBest_prefix (s : ByteArray) (vs : List Vl) (w : World) (st : TypeId) (sp : Value) (hg : w.cell? ⟨3, 0, none⟩ = some (.iface st sp)) (hs : s.size ≤ 1000000) (hn : vs.length ≤ 300) (hR : Right 4 vs) (he : s.data.toList = Um.prefs [] (bys (vtx vs))) :
    Calls Tryz.prog 6 #[.int .i64 4, .int .i64 3, .string s, .int .i64 (vs.length : Nat)] w fun e w' => RetVl vs e w' ∧ Below w.heap.size w w' := by
  have HC : Hid _ := readPV_right s vs w st sp hg hs hn hR he
  clear hR hg he
  go_enter Tryz.func6, Tryz.ntmps6
  go_wp2_with fail
  refine (checkCount_fine 4 vs.length w (by omega) (by omega) (by omega) (by omega)).mono ?_
  rintro e w1 ⟨rfl, hw⟩
  obtain rfl := hw.symm
  go_wp2_with fail
  refine (hasPrefix_any 4 _).mono ?_
  rintro e w2 ⟨rfl, hw⟩
  obtain rfl := hw.symm
  go_wp2_with fail
  refine Calls.mono HC.out ?_
  rintro e w1 ⟨⟨a, c, rfl, hl⟩, hb⟩
  have HL : Hid _ := hl
  clear hl
  go_wp2
  go_ret2
  exact ⟨⟨a, c, rfl, HL.out⟩, hb⟩
end Go.Proofs.YtmhkpnmifhfboaaGreatDoor

namespace Go.Proofs.YtmhkpnmifhfboaaGreatDoor
open Go.RowKit
/-- The values that bytes are by a code. -/
def IsBs (kd code : Int) (l : List UInt8) (n : Nat) (vs : List Vl) : Prop :=
  if code = 0 then IsPl kd l n vs else if code = 1 then IsDc kd l n vs else if code = 2 then IsDl kd l n vs else IsPr l n vs
/-- Has the kind that code? -/
def HasC (kd code : Int) : Prop := code = 0 ∨ code = 1 ∨ code = 2 ∧ (kd = 2 ∨ kd = 3) ∨ code = 3 ∧ kd = 4
theorem isBs_fn {kd code : Int} {l : List UInt8} {n : Nat} {vs us : List Vl} (h : IsBs kd code l n vs) (h' : IsBs kd code l n us) : vs = us := by
  unfold IsBs at h h'
  split at h
  · rename_i e; rw [if_pos e] at h'; exact isPl_fn h h'
  · rename_i e
    rw [if_neg e] at h'
    split at h
    · rename_i e1; rw [if_pos e1] at h'; exact isDc_fn h h'
    · rename_i e1
      rw [if_neg e1] at h'
      split at h
      · rename_i e2
        rw [if_pos e2] at h'
        obtain ⟨xs, g1, _, g3, _⟩ := h
        obtain ⟨ys, f1, _, f3, _⟩ := h'
        rw [g1] at f1
        injection f1 with f1
        rw [g3, f3, f1]
      · rename_i e2
        rw [if_neg e2] at h'
        obtain ⟨xs, g1, g3⟩ := h
        obtain ⟨ys, f1, f3⟩ := h'
        rw [g1] at f1
        injection f1 with f1
        rw [g3, f3, f1]
set_option maxRecDepth 100000 in
set_option maxHeartbeats 1600000 in
theorem readBestX_hit (kd code : Int) (s : ByteArray) (n : Nat) (w : World) (st kt : TypeId) (sp kp : Value) (hg : w.cell? ⟨3, 0, none⟩ = some (.iface st sp)) (hgk : w.cell? ⟨1, 0, none⟩ = some (.iface kt kp)) (hs : s.size ≤ 1000000) (hn : n ≤ 20000) (hk1 : 1 ≤ kd) (hk5 : kd ≤ 5) (hc : HasC kd code) :
    Calls Tryz.prog 6 #[.int .i64 kd, .int .i64 code, .string s, .int .i64 (n : Nat)] w fun e w' => RetRd (IsBs kd code s.data.toList n) n (.iface st sp) e w' ∧ Below w.heap.size w w' := by
  rcases hc with rfl | rfl | ⟨rfl, hk⟩ | ⟨rfl, rfl⟩
  · have HC : Hid _ := readPlain_any kd s n w st sp hg hs hn hk1 hk5
    clear hg hgk
    go_enter Tryz.func6, Tryz.ntmps6
    go_wp2_with fail
    refine (checkCount_fine kd n w hk1 hk5 (by omega) (by omega)).mono ?_
    rintro e w1 ⟨rfl, hw⟩
    obtain rfl := hw.symm
    go_wp2_with fail
    refine Calls.mono HC.out ?_
    rintro e w1 ⟨⟨vs, a, c, hI, rfl, hl⟩ | ⟨hI, rfl⟩, hb⟩
    all_goals
      have HI : Hid _ := hI
      try have HL : Hid _ := hl
      try clear hl
      clear hI
      go_wp2
      go_ret2
      first | exact ⟨Or.inl ⟨vs, a, c, HI.out, rfl, HL.out⟩, hb⟩ | exact ⟨Or.inr ⟨HI.out, rfl⟩, hb⟩
  · have HC : Hid _ := readDict_any kd s n w st sp hg hs hn hk1 hk5
    clear hg hgk
    go_enter Tryz.func6, Tryz.ntmps6
    go_wp2_with fail
    refine (checkCount_fine kd n w hk1 hk5 (by omega) (by omega)).mono ?_
    rintro e w1 ⟨rfl, hw⟩
    obtain rfl := hw.symm
    go_wp2_with fail
    refine Calls.mono HC.out ?_
    rintro e w1 ⟨⟨vs, a, c, hI, rfl, hl⟩ | ⟨hI, rfl⟩, hb⟩
    all_goals
      have HI : Hid _ := hI
      try have HL : Hid _ := hl
      try clear hl
      clear hI
      go_wp2
      go_ret2
      first | exact ⟨Or.inl ⟨vs, a, c, HI.out, rfl, HL.out⟩, hb⟩ | exact ⟨Or.inr ⟨HI.out, rfl⟩, hb⟩
  · have HC : Hid _ := readDelta_any kd s n w st kt sp kp hg hgk hs hn hk
    have hd : decide (kd = 2 ∨ kd = 3) = true := by simp [hk]
    clear hg hgk hk
    go_enter Tryz.func6, Tryz.ntmps6
    go_wp2_with fail
    refine (checkCount_fine kd n w hk1 hk5 (by omega) (by omega)).mono ?_
    rintro e w1 ⟨rfl, hw⟩
    obtain rfl := hw.symm
    go_wp2_with fail
    refine (hasDelta_any kd _).mono ?_
    rw [hd]
    rintro e w2 ⟨rfl, hw⟩
    obtain rfl := hw.symm
    go_wp2_with fail
    refine Calls.mono HC.out ?_
    rintro e w1 ⟨⟨vs, a, c, hI, rfl, hl⟩ | ⟨hI, rfl⟩, hb⟩
    all_goals
      have HI : Hid _ := hI
      try have HL : Hid _ := hl
      try clear hl
      clear hI
      go_wp2
      go_ret2
      first | exact ⟨Or.inl ⟨vs, a, c, HI.out, rfl, HL.out⟩, hb⟩ | exact ⟨Or.inr ⟨HI.out, rfl⟩, hb⟩
  · have HC : Hid _ := readPrefixValues_any s n w st sp hg hs hn
    clear hg hgk
    go_enter Tryz.func6, Tryz.ntmps6
    go_wp2_with fail
    refine (checkCount_fine 4 n w (by omega) (by omega) (by omega) (by omega)).mono ?_
    rintro e w1 ⟨rfl, hw⟩
    obtain rfl := hw.symm
    go_wp2_with fail
    refine (hasPrefix_any 4 _).mono ?_
    rintro e w2 ⟨rfl, hw⟩
    obtain rfl := hw.symm
    go_wp2_with fail
    refine Calls.mono HC.out ?_
    rintro e w1 ⟨⟨vs, a, c, hI, rfl, hl⟩ | ⟨hI, rfl⟩, hb⟩
    all_goals
      have HI : Hid _ := hI
      try have HL : Hid _ := hl
      try clear hl
      clear hI
      go_wp2
      go_ret2
      first | exact ⟨Or.inl ⟨vs, a, c, HI.out, rfl, HL.out⟩, hb⟩ | exact ⟨Or.inr ⟨HI.out, rfl⟩, hb⟩
set_option maxRecDepth 100000 in
set_option maxHeartbeats 1600000 in
/-- A code that the kind has not. -/
theorem readBestX_shape (kd code : Int) (s : ByteArray) (n : Nat) (w : World) (ht : TypeId) (hp : Value) (hgs : w.cell? ⟨0, 0, none⟩ = some (.iface ht hp)) (hn : n ≤ 20000) (hk1 : 1 ≤ kd) (hk5 : kd ≤ 5) (hc : ¬ HasC kd code) :
    Calls Tryz.prog 6 #[.int .i64 kd, .int .i64 code, .string s, .int .i64 (n : Nat)] w fun e w' => e = .returned (.tuple #[.slice none 0 0, .iface ht hp]) ∧ Below w.heap.size w w' := by
  have c0 : (code == 0) = false := by rw [beq_eq_false_iff_ne]; exact fun h => hc (Or.inl h)
  have c1 : (code == 1) = false := by rw [beq_eq_false_iff_ne]; exact fun h => hc (Or.inr (Or.inl h))
  have hcase : ((code == 2) = true ∧ (code == 3) = false ∧ decide (kd = 2 ∨ kd = 3) = false) ∨ ((code == 2) = false ∧ (code == 3) = true ∧ decide (kd = 4) = false) ∨ ((code == 2) = false ∧ (code == 3) = false) := by
    unfold HasC at hc
    by_cases h2 : code = 2
    · left
      exact ⟨by simp [h2], by simp [h2], by rw [decide_eq_false_iff_not]; exact fun h => hc (Or.inr (Or.inr (Or.inl ⟨h2, h⟩)))⟩
    · right
      by_cases h3 : code = 3
      · left
        exact ⟨by simp [h3], by simp [h3], by rw [decide_eq_false_iff_not]; exact fun h => hc (Or.inr (Or.inr (Or.inr ⟨h3, h⟩)))⟩
      · right
        exact ⟨by rw [beq_eq_false_iff_ne]; exact h2, by rw [beq_eq_false_iff_ne]; exact h3⟩
  clear hc
  rcases hcase with ⟨c2, c3, hd⟩ | ⟨c2, c3, hd⟩ | ⟨c2, c3⟩
  all_goals
    go_enter Tryz.func6, Tryz.ntmps6
    go_wp2_with fail
    refine (checkCount_fine kd n w hk1 hk5 (by omega) (by omega)).mono ?_
    rintro e w1 ⟨rfl, hw⟩
    obtain rfl := hw.symm
    go_wp2_with (first
      | (go_at_call 17; refine (hasDelta_any kd _).mono ?_; rw [hd]; rintro e w2 ⟨rfl, hw⟩; obtain rfl := hw.symm)
      | (go_at_call 19; refine (hasPrefix_any kd _).mono ?_; rw [hd]; rintro e w2 ⟨rfl, hw⟩; obtain rfl := hw.symm))
    go_quiet (fail)
    go_wp2
    go_ret2
    exact ⟨rfl, dN (Below.refl _ _) _⟩
set_option maxRecDepth 100000 in
set_option maxHeartbeats 1600000 in
/-- A kind or a count that is none. -/
theorem readBestX_none (kd code : Int) (s : ByteArray) (n : Int) (w : World) (kt bt : TypeId) (kp bp : Value) (hgk : w.cell? ⟨1, 0, none⟩ = some (.iface kt kp)) (hgb : w.cell? ⟨2, 0, none⟩ = some (.iface bt bp)) (h : ¬ ((1 ≤ kd ∧ kd ≤ 5) ∧ 0 ≤ n ∧ n ≤ 20000)) :
    Calls Tryz.prog 6 #[.int .i64 kd, .int .i64 code, .string s, .int .i64 n] w fun e w' => e = .returned (.tuple #[.slice none 0 0, if 1 ≤ kd ∧ kd ≤ 5 then .iface bt bp else .iface kt kp]) ∧ w' = w := by
  have HGK : Hid _ := hgk
  have HGB : Hid _ := hgb
  have HN : Hid (¬ ((1 ≤ kd ∧ kd ≤ 5) ∧ 0 ≤ n ∧ n ≤ 20000)) := h
  clear hgk hgb h
  by_cases hk : 1 ≤ kd ∧ kd ≤ 5
  · rw [if_pos hk]
    have HK : Hid (1 ≤ kd ∧ kd ≤ 5) := hk
    clear hk
    go_enter Tryz.func6, Tryz.ntmps6
    go_wp2_with fail
    refine (checkCount_bound kd n w _ HGB.out HK.out.1 HK.out.2 (fun h => HN.out ⟨HK.out, h⟩)).mono ?_
    rintro e w1 ⟨rfl, hw⟩
    obtain rfl := hw.symm
    go_wp2
    go_ret2
    exact ⟨rfl, rfl⟩
  · rw [if_neg hk]
    have HK : Hid (¬ (1 ≤ kd ∧ kd ≤ 5)) := hk
    clear hk
    go_enter Tryz.func6, Tryz.ntmps6
    go_wp2_with fail
    refine (checkCount_kind kd n w _ HGK.out HK.out).mono ?_
    rintro e w1 ⟨rfl, hw⟩
    obtain rfl := hw.symm
    go_wp2
    go_ret2
    exact ⟨rfl, rfl⟩
end Go.Proofs.YtmhkpnmifhfboaaGreatDoor
