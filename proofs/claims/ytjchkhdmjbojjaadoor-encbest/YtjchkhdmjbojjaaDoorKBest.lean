/-
  enc.Best: the shortest of all ways.
-/
import Derived.Test.YtjchkhdmjbojjaaDoorKPrefV
import Derived.Test.YtjchkhdmjbojjaaDoorKDelta
import Derived.Test.YtjchkhdmjbojjaaDoorKDict
namespace Go.Proofs.YtjchkhdmjbojjaaDoor
open Go.RowKit
/-- What Best holds: its captured variables. -/
structure BI (w0 : World) (kd : Int) (v : Value) (wx : World) (code : Int) (s : ByteArray) : Prop where
  hk : wx.cell? ⟨w0.heap.size, 0, none⟩ = some (.int .i64 kd)
  hl : wx.cell? ⟨w0.heap.size + 1, 0, none⟩ = some v
  hc : wx.cell? ⟨w0.heap.size + 2, 0, none⟩ = some (.int .i64 code)
  hs : wx.cell? ⟨w0.heap.size + 3, 0, none⟩ = some (.string s)
  fc : wx.frozen? ⟨w0.heap.size + 2, 0, none⟩ = false
  fs : wx.frozen? ⟨w0.heap.size + 3, 0, none⟩ = false
  size : w0.heap.size + 4 ≤ wx.heap.size
  old : Below w0.heap.size w0 wx
theorem BI.keep {w0 : World} {kd : Int} {v : Value} {wx w' : World} {code : Int} {s : ByteArray} (h : BI w0 kd v wx code s) (hb : Below wx.heap.size wx w') : BI w0 kd v w' code s := by
  have hz := h.size
  have h0 : w0.heap.size < wx.heap.size := by omega
  have h1 : w0.heap.size + 1 < wx.heap.size := by omega
  have h2 : w0.heap.size + 2 < wx.heap.size := by omega
  have h3 : w0.heap.size + 3 < wx.heap.size := by omega
  exact ⟨(hb.cell h0).trans h.hk, (hb.cell h1).trans h.hl, (hb.cell h2).trans h.hc, (hb.cell h3).trans h.hs, (hb.frozen h2).trans h.fc, (hb.frozen h3).trans h.fs, Nat.le_trans hz hb.size, h.old.trans (hb.mono h.old.size)⟩
theorem BI.put {w0 : World} {kd : Int} {v : Value} {wx : World} {code : Int} {s : ByteArray} (h : BI w0 kd v wx code s) (c' : Int) (t : ByteArray) : BI w0 kd v ((wx.setCell ⟨w0.heap.size + 2, 0, none⟩ (.int .i64 c')).setCell ⟨w0.heap.size + 3, 0, none⟩ (.string t)) c' t := by
  have ne : ∀ (W : World) (x j : Nat) (u : Value), j ≠ x → (W.setCell ⟨x, 0, none⟩ u).cell? ⟨j, 0, none⟩ = W.cell? ⟨j, 0, none⟩ := fun W x j u hj =>
    World.cell?_setCell_other _ _ _ _ (fun e => hj (by injection e with e _; exact e.symm))
  refine ⟨?_, ?_, ?_, ?_, by simpa using h.fc, by simpa using h.fs, by simpa using h.size, (h.old.setCell (show w0.heap.size ≤ w0.heap.size + 2 by omega) _).setCell (show w0.heap.size ≤ w0.heap.size + 3 by omega) _⟩
  · rw [ne _ _ _ _ (by omega), ne _ _ _ _ (by omega)]; exact h.hk
  · rw [ne _ _ _ _ (by omega), ne _ _ _ _ (by omega)]; exact h.hl
  · rw [ne _ _ _ _ (by omega)]; exact World.cell?_setCell_same _ _ _ h.hc
  · exact World.cell?_setCell_same _ _ _ ((ne _ _ _ _ (by omega)).trans h.hs)
set_option maxRecDepth 100000 in
set_option maxHeartbeats 1600000 in
theorem best1_dict (w0 : World) (kd : Int) (v : Value) (w : World) (code nc : Int) (s t : ByteArray) (hI : BI w0 kd v w code s)
    (hF : Calls Tryd.prog 9 #[.int .i64 kd, v] w fun e W' => e = .returned (.tuple #[.string t, .nilIface]) ∧ Below w.heap.size w W') :
    Calls Tryd.prog 37 #[.int .i64 nc, .func (.func 9) #[] #[], .pointer (some ⟨w0.heap.size, 0, none⟩), .pointer (some ⟨w0.heap.size + 1, 0, none⟩), .pointer (some ⟨w0.heap.size + 3, 0, none⟩), .pointer (some ⟨w0.heap.size + 2, 0, none⟩)] w fun e w' => e = .returned (.tuple #[]) ∧ BI w0 kd v w' (if t.size < s.size then nc else code) (if t.size < s.size then t else s) := by
  have hk := hI.hk
  have hl := hI.hl
  have HI : Hid _ := hI
  have HF : Hid _ := hF
  clear hI hF
  go_enter Tryd.func37, Tryd.ntmps37
  go_wp2_with fail
  refine Calls.mono HF.out ?_
  rintro e w1 ⟨rfl, hb1⟩
  have HI1 : Hid _ := HI.out.keep hb1
  clear hk hl
  have hc := HI1.out.hc
  have hs1 := HI1.out.hs
  have fc := HI1.out.fc
  have fs := HI1.out.fs
  by_cases hlt : t.size < s.size
  · have HP : Hid _ := HI1.out.put nc t
    go_wp2
    go_end0
    exact ⟨rfl, HP.out⟩
  · go_wp2
    go_end0
    exact ⟨rfl, HI1.out⟩
set_option maxRecDepth 100000 in
set_option maxHeartbeats 1600000 in
theorem best1_delta (w0 : World) (kd : Int) (v : Value) (w : World) (code nc : Int) (s t : ByteArray) (hI : BI w0 kd v w code s)
    (hF : Calls Tryd.prog 20 #[.int .i64 kd, v] w fun e W' => e = .returned (.tuple #[.string t, .nilIface]) ∧ Below w.heap.size w W') :
    Calls Tryd.prog 37 #[.int .i64 nc, .func (.func 20) #[] #[], .pointer (some ⟨w0.heap.size, 0, none⟩), .pointer (some ⟨w0.heap.size + 1, 0, none⟩), .pointer (some ⟨w0.heap.size + 3, 0, none⟩), .pointer (some ⟨w0.heap.size + 2, 0, none⟩)] w fun e w' => e = .returned (.tuple #[]) ∧ BI w0 kd v w' (if t.size < s.size then nc else code) (if t.size < s.size then t else s) := by
  have hk := hI.hk
  have hl := hI.hl
  have HI : Hid _ := hI
  have HF : Hid _ := hF
  clear hI hF
  go_enter Tryd.func37, Tryd.ntmps37
  go_wp2_with fail
  refine Calls.mono HF.out ?_
  rintro e w1 ⟨rfl, hb1⟩
  have HI1 : Hid _ := HI.out.keep hb1
  clear hk hl
  have hc := HI1.out.hc
  have hs1 := HI1.out.hs
  have fc := HI1.out.fc
  have fs := HI1.out.fs
  by_cases hlt : t.size < s.size
  · have HP : Hid _ := HI1.out.put nc t
    go_wp2
    go_end0
    exact ⟨rfl, HP.out⟩
  · go_wp2
    go_end0
    exact ⟨rfl, HI1.out⟩
set_option maxRecDepth 100000 in
set_option maxHeartbeats 1600000 in
theorem best1_prefix (w0 : World) (kd : Int) (v : Value) (w : World) (code nc : Int) (s t : ByteArray) (hI : BI w0 kd v w code s)
    (hF : Calls Tryd.prog 40 #[.int .i64 kd, v] w fun e W' => e = .returned (.tuple #[.string t, .nilIface]) ∧ Below w.heap.size w W') :
    Calls Tryd.prog 37 #[.int .i64 nc, .func (.func 40) #[] #[], .pointer (some ⟨w0.heap.size, 0, none⟩), .pointer (some ⟨w0.heap.size + 1, 0, none⟩), .pointer (some ⟨w0.heap.size + 3, 0, none⟩), .pointer (some ⟨w0.heap.size + 2, 0, none⟩)] w fun e w' => e = .returned (.tuple #[]) ∧ BI w0 kd v w' (if t.size < s.size then nc else code) (if t.size < s.size then t else s) := by
  have hk := hI.hk
  have hl := hI.hl
  have HI : Hid _ := hI
  have HF : Hid _ := hF
  clear hI hF
  go_enter Tryd.func37, Tryd.ntmps37
  go_wp2_with fail
  refine Calls.mono HF.out ?_
  rintro e w1 ⟨rfl, hb1⟩
  have HI1 : Hid _ := HI.out.keep hb1
  clear hk hl
  have hc := HI1.out.hc
  have hs1 := HI1.out.hs
  have fc := HI1.out.fc
  have fs := HI1.out.fs
  by_cases hlt : t.size < s.size
  · have HP : Hid _ := HI1.out.put nc t
    go_wp2
    go_end0
    exact ⟨rfl, HP.out⟩
  · go_wp2
    go_end0
    exact ⟨rfl, HI1.out⟩
theorem BI.puts {w0 : World} {kd : Int} {v : Value} {wx : World} {code : Int} {s : ByteArray} (h : BI w0 kd v wx code s) (t : ByteArray) : BI w0 kd v (wx.setCell ⟨w0.heap.size + 3, 0, none⟩ (.string t)) code t := by
  have ne : ∀ (W : World) (x j : Nat) (u : Value), j ≠ x → (W.setCell ⟨x, 0, none⟩ u).cell? ⟨j, 0, none⟩ = W.cell? ⟨j, 0, none⟩ := fun W x j u hj =>
    World.cell?_setCell_other _ _ _ _ (fun e => hj (by injection e with e _; exact e.symm))
  refine ⟨?_, ?_, ?_, ?_, by simpa using h.fc, by simpa using h.fs, by simpa using h.size, h.old.setCell (show w0.heap.size ≤ w0.heap.size + 3 by omega) _⟩
  · rw [ne _ _ _ _ (by omega)]; exact h.hk
  · rw [ne _ _ _ _ (by omega)]; exact h.hl
  · rw [ne _ _ _ _ (by omega)]; exact h.hc
  · exact World.cell?_setCell_same _ _ _ h.hs
/-- What Best's variables are at first. -/
def bw (w : World) (kd : Int) (v : Value) : World := (((w.alloc (.cells #[.int .i64 kd] 3)).alloc (.cells #[v] 22)).alloc (.cells #[.int .i64 0] 3)).alloc (.cells #[.string ⟨#[]⟩] 9)
theorem bw_size (w : World) (kd : Int) (v : Value) : (bw w kd v).heap.size = w.heap.size + 4 := by simp [bw]
theorem bw_below (w : World) (kd : Int) (v : Value) : Below w.heap.size w (bw w kd v) :=
  ((((Below.refl _ _).alloc (Nat.le_refl _) _).alloc (by simp) _).alloc (by simp; omega) _).alloc (by simp; omega) _
theorem bw_BI (w : World) (kd : Int) (v : Value) : BI w kd v (bw w kd v) 0 ⟨#[]⟩ := by
  have h0 : (bw w kd v).heap[w.heap.size]? = some (.cells #[.int .i64 kd] 3 (0, 0)) := blk_alloc (blk_alloc (blk_alloc (heap_alloc_new w _)))
  have h1 : (bw w kd v).heap[w.heap.size + 1]? = some (.cells #[v] 22 (0, 0)) := by
    have := heap_alloc_new (w.alloc (.cells #[.int .i64 kd] 3)) (.cells #[v] 22)
    rw [show (w.alloc (.cells #[.int .i64 kd] 3)).heap.size = w.heap.size + 1 by simp] at this
    exact blk_alloc (blk_alloc this)
  have h2 : (bw w kd v).heap[w.heap.size + 2]? = some (.cells #[.int .i64 0] 3 (0, 0)) := by
    have := heap_alloc_new ((w.alloc (.cells #[.int .i64 kd] 3)).alloc (.cells #[v] 22)) (.cells #[.int .i64 0] 3)
    rw [show ((w.alloc (.cells #[.int .i64 kd] 3)).alloc (.cells #[v] 22)).heap.size = w.heap.size + 2 by simp] at this
    exact blk_alloc this
  have h3 : (bw w kd v).heap[w.heap.size + 3]? = some (.cells #[.string ⟨#[]⟩] 9 (0, 0)) := by
    have := heap_alloc_new (((w.alloc (.cells #[.int .i64 kd] 3)).alloc (.cells #[v] 22)).alloc (.cells #[.int .i64 0] 3)) (.cells #[.string ⟨#[]⟩] 9)
    rw [show (((w.alloc (.cells #[.int .i64 kd] 3)).alloc (.cells #[v] 22)).alloc (.cells #[.int .i64 0] 3)).heap.size = w.heap.size + 3 by simp] at this
    exact this
  exact ⟨cell_of_one h0, cell_of_one h1, cell_of_one h2, cell_of_one h3, free_of_one h2, free_of_one h3, by rw [bw_size]; omega, bw_below w kd v⟩
/-- A way is tried. -/
def bst (b : Int × ByteArray) (nc : Int) (t : ByteArray) : Int × ByteArray := (if t.size < b.2.size then nc else b.1, if t.size < b.2.size then t else b.2)
/-- The best way, and its bytes. -/
def bestP (kd : Int) (vs us : List Vl) (ps : List Nat) : Int × ByteArray :=
  if kd = 2 ∨ kd = 3 then bst (bst (0, ⟨(plainB kd vs).toArray⟩) 1 ⟨(dictB kd us ps).toArray⟩) 2 ⟨(deltaB vs).toArray⟩
  else if kd = 4 then bst (bst (0, ⟨(plainB kd vs).toArray⟩) 1 ⟨(dictB kd us ps).toArray⟩) 3 ⟨(Um.prefs [] (bys (vtx vs))).toArray⟩
  else bst (0, ⟨(plainB kd vs).toArray⟩) 1 ⟨(dictB kd us ps).toArray⟩
end Go.Proofs.YtjchkhdmjbojjaaDoor
