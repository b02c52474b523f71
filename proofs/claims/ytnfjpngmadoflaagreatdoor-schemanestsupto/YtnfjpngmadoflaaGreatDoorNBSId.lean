/-
  The reader of a schema's text: a number is taken.
  The reader of a schema's text: one of some words is taken.
  The reader of a schema's text: takeOne.
  The reader of a schema's text: the words of a node; a leaf.
  The reader of a schema's text: a leaf is read.
-/
import Derived.Test.YtnfjpngmadoflaaGreatDoorNBSNext
import Derived.Test.YtnfjpngmadoflaaGreatDoorShelf
import Derived.Lib.AtoiErrMem
namespace Go.Proofs.YtnfjpngmadoflaaGreatDoor
open Go.RowKit
/-- The bytes of a number's word: '#' and one to four digits, no 0 ahead. -/
structure IdW (x : ByteArray) (d : List UInt8) : Prop where
  e : x.data.toList = 35 :: d
  l1 : 1 ≤ d.length
  l4 : d.length ≤ 4
  nz : ∀ h : 0 < d.length, d[0].toNat ≠ 48
theorem trim_id (d : List UInt8) : Lib.trimPrefix (35 :: d) [35] = d := by simp [Lib.trimPrefix, Lib.hasPrefix]
theorem has_id (d : List UInt8) : Lib.hasPrefix (35 :: d) [35] = true := by simp [Lib.hasPrefix]
set_option maxRecDepth 100000 in
set_option maxHeartbeats 1600000 in
theorem isID_any (x : ByteArray) (d : List UInt8) (h : IdW x d) (W : World) : Calls Tryz.prog 73 #[.string x] W fun e w' => e = .returned (.bool true) ∧ w' = W := by
  have HC : Hid _ := Tryz.strings_CutPrefix x ⟨#[35]⟩ W
  rw [h.e, show (⟨#[35]⟩ : ByteArray).data.toList = [35] from rfl, trim_id, has_id] at HC
  have hsz : (⟨d.toArray⟩ : ByteArray).size = d.length := by simp [ByteArray.size]
  have hl1 := h.l1
  have hl4 := h.l4
  have HZ : Hid (∀ h : 0 < (⟨d.toArray⟩ : ByteArray).size, (⟨d.toArray⟩ : ByteArray)[0].toNat ≠ 48) := fun h0 => (by
    have := h.nz (by omega)
    simpa [ByteArray.getElem_eq_getElem_data] using this)
  clear h
  obtain ⟨y, HY⟩ : ∃ y, Hid ((⟨d.toArray⟩ : ByteArray) = y) := ⟨_, rfl⟩
  rw [HY.out] at HC hsz HZ
  have hp0 : 0 < y.size := by omega
  have q1 : decide ((1 : Int) ≤ (y.size : Int)) = true := by rw [decide_eq_true_iff]; omega
  have q2 : decide ((y.size : Int) ≤ 4) = true := by rw [decide_eq_true_iff]; omega
  have q3 : (((y[0]).toNat : Int) != 48) = true := bne_iff_ne.2 (by have := HZ.out hp0; omega)
  have HSz : Hid _ := hsz
  clear hsz
  go_enter Tryz.func73, Tryz.ntmps73
  go_wp2_with fail
  refine Calls.mono HC.out ?_
  rintro e w1 ⟨rfl, hw⟩
  obtain rfl := hw.symm
  go_wp2
  all_goals go_ret
  all_goals exact ⟨rfl, rfl⟩
set_option maxRecDepth 100000 in
set_option maxHeartbeats 3200000 in
theorem take_id (r : Nat) (s : ByteArray) (p a n : Nat) (W : World) (hr : RdAt r s p W) (hm : s.size ≤ 100000) (h : WdAt s p a n) (han : a < n) (d : List UInt8) (hl : IdW (s.extract a n) d) :
    Calls Tryz.prog (58) #[.pointer (some ⟨r, 0, none⟩), .func (.func 73) #[] #[]] W fun e w' => e = .returned (.string (s.extract a n)) ∧ RdAt r s n w' ∧ RFr r W w' := by
  have HR : Hid _ := hr
  have hns := h.ns
  have hz : (s.extract a n).size = n - a := ext_size (by omega) hns
  have HLL : Hid _ := hl
  have HW : Hid _ := h
  clear hr hl h
  obtain ⟨x, HX⟩ : ∃ x, Hid (s.extract a n = x) := ⟨_, rfl⟩
  go_enter Tryz.func58, Tryz.ntmps58
  go_wp2_with fail
  refine (next_any r s p a n _ W HR.out hm HW.out).mono ?_
  rintro e w1 ⟨rfl, hb1⟩
  have HB1 : Hid _ := hb1
  have HR1 : Hid (w1.heap[r]? = some (.cells #[.string s, .int .i64 (p : Nat), .nilIface] 60 (0, 0))) := blk_keep hb1 HR.out
  clear hb1
  have HIs : Hid _ := isID_any (s.extract a n) d HLL.out w1
  rw [HX.out] at hz HIs ⊢
  obtain ⟨c0, c1, c2⟩ := row_three HR1.out
  obtain ⟨f0, f1, f2⟩ := row_threeF HR1.out
  have HV : Hid ((a : Int) + ((n - a : Nat) : Int) = ((n : Nat) : Int)) := (by show _ = _; omega)
  go_wp2_with fail
  refine Calls.mono HIs.out ?_
  rintro e w2 ⟨rfl, hw⟩
  obtain rfl := hw.symm
  go_wp2
  go_ret
  refine ⟨by rw [HX.out]; rfl, ?_, (RFr.of_below HB1.out).set⟩
  exact (row_setC HR1.out).trans (by show some (Obj.cells #[.string s, .int .i64 ((a : Int) + ((n - a : Nat) : Int)), .nilIface] 60 (0, 0)) = _; rw [HV.out])
set_option maxRecDepth 100000 in
set_option maxHeartbeats 3200000 in
theorem takeID_any (r : Nat) (s : ByteArray) (p a n : Nat) (W : World) (hr : RdAt r s p W) (hm : s.size ≤ 100000) (h : WdAt s p a n) (han : a < n) (d : List UInt8) (hl : IdW (s.extract a n) d) (k : Int) (hk : Lib.atoi d = some k) :
    Calls Tryz.prog (60) #[.pointer (some ⟨r, 0, none⟩)] W fun e w' => e = .returned (.int .i64 k) ∧ RdAt r s n w' ∧ RFr r W w' := by
  have HT : Hid _ := take_id r s p a n W hr hm h han d hl
  have HD : Hid _ := hl
  clear hr h hl
  have hl4 := HD.out.l4
  go_enter Tryz.func60, Tryz.ntmps60
  go_wp2_with fail
  refine Calls.mono HT.out ?_
  rintro e w1 ⟨rfl, hr1, hf1⟩
  have HR1 : Hid (w1.heap[r]? = some (.cells #[.string s, .int .i64 (n : Nat), .nilIface] 60 (0, 0))) := hr1
  have HF1 : Hid (RFr r W w1) := hf1
  clear hr1 hf1
  have HP : Hid _ := Tryz.strings_TrimPrefix (s.extract a n) ⟨#[35]⟩ w1
  rw [HD.out.e, show (⟨#[35]⟩ : ByteArray).data.toList = [35] from rfl, trim_id] at HP
  go_wp2_with fail
  refine Calls.mono HP.out ?_
  rintro e w2 ⟨rfl, hw⟩
  obtain rfl := hw.symm
  have HA : Hid _ := Tryz.strconv_Atoi ⟨d.toArray⟩ k (by have h2 : (⟨d.toArray⟩ : ByteArray).size = d.length := (by simp [ByteArray.size]); omega) (by simpa using hk) w1
  go_wp2_with fail
  refine Calls.mono HA.out ?_
  rintro e w3 ⟨rfl, t, rfl⟩
  have hb : Below w1.heap.size w1 (Lib.bytesWorld w1 5 t) := Lib.bytesWorld_below w1 5 t
  have HB : Hid _ := hb
  clear hb
  generalize Lib.bytesWorld w1 5 t = w4 at *
  go_wp2
  go_ret
  exact ⟨rfl, blk_keep HB.out HR1.out, HF1.out.trans (RFr.of_below HB.out)⟩
end Go.Proofs.YtnfjpngmadoflaaGreatDoor

namespace Go.Proofs.YtnfjpngmadoflaaGreatDoor
open Go.RowKit
/-- Where a slice of words lies. -/
def StrsAt (W : World) (b off : Nat) (zs : List ByteArray) : Prop := ∀ j, j < zs.length → W.cell? ⟨b, off + j, none⟩ = some (.string (zs.getD j ByteArray.empty))
theorem StrsAt.keep {W w' : World} {b off : Nat} {zs : List ByteArray} (h : StrsAt W b off zs) (hb : Below W.heap.size W w') : StrsAt w' b off zs := fun j hj => (hb.cell (World.block_lt_of_cell? W _ (h j hj))).trans (h j hj)
set_option maxRecDepth 100000 in
set_option maxHeartbeats 1600000 in
theorem takeOneC_any (b off c : Nat) (zs : List ByteArray) (x : ByteArray) (k : Nat) (hk : Lib.idxOfS zs x = (k : Int)) (hz : zs.length ≤ 100) (g1 g2 : Nat) (v : Value) (W : World) (h1 : W.heap[g1]? = some (.cells #[.slice (some ⟨b, off, none⟩) zs.length c] 87 (0, 0))) (h2 : W.heap[g2]? = some (.cells #[v] 3 (0, 0))) (hc : StrsAt W b off zs) :
    Calls Tryz.prog (68) #[.string x, .pointer (some ⟨g1, 0, none⟩), .pointer (some ⟨g2, 0, none⟩)] W fun e w' => e = .returned (.bool true) ∧ w' = W.setCell ⟨g2, 0, none⟩ (.int .i64 (k : Nat)) := by
  obtain ⟨c1, _⟩ := row_one h1
  obtain ⟨c2, f2⟩ := row_one h2
  obtain ⟨c3, _⟩ := row_one (row_setC (j := 0) (v := .int .i64 (k : Nat)) h2)
  have HI : Hid _ := Tryz.slices_Index_string b off zs.length c zs x W (Nat.le_refl _) (by omega) hc
  rw [List.take_length, hk] at HI
  clear h1 h2 hc hk
  go_enter Tryz.func68, Tryz.ntmps68
  go_wp2_with fail
  refine Calls.mono HI.out ?_
  rintro e w1 ⟨rfl, hw⟩
  obtain rfl := hw.symm
  go_wp2
  go_ret
  refine ⟨?_, rfl⟩
  simp
set_option maxRecDepth 100000 in
set_option maxHeartbeats 3200000 in
theorem take_one (b off c : Nat) (zs : List ByteArray) (k : Nat) (hz : zs.length ≤ 100) (g1 g2 : Nat) (r : Nat) (s : ByteArray) (p a n : Nat) (W : World) (hr : RdAt r s p W) (hm : s.size ≤ 100000) (h : WdAt s p a n) (han : a < n) (hk : Lib.idxOfS zs (s.extract a n) = (k : Int)) (v : Value) (h1 : W.heap[g1]? = some (.cells #[.slice (some ⟨b, off, none⟩) zs.length c] 87 (0, 0))) (h2 : W.heap[g2]? = some (.cells #[v] 3 (0, 0))) (hc : StrsAt W b off zs) (hg : g2 ≠ r) :
    Calls Tryz.prog (58) #[.pointer (some ⟨r, 0, none⟩), .func (.func 68) #[] #[.pointer (some ⟨g1, 0, none⟩), .pointer (some ⟨g2, 0, none⟩)]] W fun e w' => e = .returned (.string (s.extract a n)) ∧ RdAt r s n w' ∧ w'.heap[g2]? = some (.cells #[.int .i64 (k : Nat)] 3 (0, 0)) ∧ W.heap.size ≤ w'.heap.size ∧ (w'.os = W.os ∧ w'.tape = W.tape ∧ w'.output = W.output) ∧ ∀ j, j < W.heap.size → j ≠ r → j ≠ g2 → w'.heap[j]? = W.heap[j]? := by
  have HR : Hid _ := hr
  have hns := h.ns
  have hsz : (s.extract a n).size = n - a := ext_size (by omega) hns
  have HK : Hid _ := hk
  have H1 : Hid _ := h1
  have H2 : Hid _ := h2
  have HC : Hid (StrsAt W b off zs) := hc
  have HW : Hid _ := h
  clear hr h hk h1 h2 hc
  obtain ⟨x, HX⟩ : ∃ x, Hid (s.extract a n = x) := ⟨_, rfl⟩
  go_enter Tryz.func58, Tryz.ntmps58
  go_wp2_with fail
  refine (next_any r s p a n _ W HR.out hm HW.out).mono ?_
  rintro e w1 ⟨rfl, hb1⟩
  have HB1 : Hid _ := hb1
  have HR1 : Hid (w1.heap[r]? = some (.cells #[.string s, .int .i64 (p : Nat), .nilIface] 60 (0, 0))) := blk_keep hb1 HR.out
  clear hb1
  have H21 : Hid (w1.heap[g2]? = some (.cells #[v] 3 (0, 0))) := blk_keep HB1.out H2.out
  have HIs : Hid _ := takeOneC_any b off c zs (s.extract a n) k HK.out hz g1 g2 v w1 (blk_keep HB1.out H1.out) H21.out (HC.out.keep HB1.out)
  rw [HX.out] at hsz HIs ⊢
  have HR2 : Hid ((w1.setCell ⟨g2, 0, none⟩ (.int .i64 (k : Nat))).heap[r]? = some (.cells #[.string s, .int .i64 (p : Nat), .nilIface] 60 (0, 0))) := (Below.heap_setCell w1 ⟨g2, 0, none⟩ _ r (fun e => hg e.symm)).trans HR1.out
  have HV : Hid ((a : Int) + ((n - a : Nat) : Int) = ((n : Nat) : Int)) := (by show _ = _; omega)
  go_wp2_with fail
  refine Calls.mono HIs.out ?_
  rintro e w2 ⟨rfl, hw⟩
  have HW2 : Hid (w2 = w1.setCell ⟨g2, 0, none⟩ (.int .i64 (k : Nat))) := hw
  clear hw
  rw [← HW2.out] at HR2
  obtain ⟨c0, c1, c2⟩ := row_three HR2.out
  obtain ⟨f0, f1, f2⟩ := row_threeF HR2.out
  go_wp2
  go_ret
  refine ⟨by rw [HX.out]; rfl, ?_, ?_, ?_, ?_, ?_⟩
  · exact (row_setC HR2.out).trans (by show some (Obj.cells #[.string s, .int .i64 ((a : Int) + ((n - a : Nat) : Int)), .nilIface] 60 (0, 0)) = _; rw [HV.out])
  · rw [Below.heap_setCell w2 ⟨r, 1, none⟩ _ g2 hg, HW2.out]
    exact (row_setC H21.out).trans rfl
  · rw [HW2.out]; simpa using HB1.out.size
  · rw [HW2.out]; exact ⟨HB1.out.os, HB1.out.tape, HB1.out.output⟩
  · intro j hj hjr hj2
    rw [Below.heap_setCell w2 ⟨r, 1, none⟩ _ j hjr, HW2.out, Below.heap_setCell w1 ⟨g2, 0, none⟩ _ j hj2, HB1.out.block j hj]
end Go.Proofs.YtnfjpngmadoflaaGreatDoor

namespace Go.Proofs.YtnfjpngmadoflaaGreatDoor
open Go.RowKit
set_option maxRecDepth 100000 in
set_option maxHeartbeats 3200000 in
theorem takeOne_any (b off c : Nat) (zs : List ByteArray) (k : Nat) (hz : zs.length ≤ 100) (r : Nat) (s : ByteArray) (p a n : Nat) (W : World) (hr : RdAt r s p W) (hm : s.size ≤ 100000) (h : WdAt s p a n) (han : a < n) (hk : Lib.idxOfS zs (s.extract a n) = (k : Int)) (hc : StrsAt W b off zs) :
    Calls Tryz.prog (55) #[.pointer (some ⟨r, 0, none⟩), .slice (some ⟨b, off, none⟩) zs.length c] W fun e w' => e = .returned (.int .i64 (k : Nat)) ∧ RdAt r s n w' ∧ RFr r W w' := by
  have hmf : ∀ (fn : Fn) (first cap : Array Value) (W : World), (Instr.makeFunc fn first cap).run Tryz.prog W = .ok (.func fn first cap) W := fun _ _ _ _ => rfl
  have hrw : r < W.heap.size := lt_of_block hr
  obtain ⟨w0, HW0, HX, HY, HB⟩ := two_boxesS W #[.slice (some ⟨b, off, none⟩) zs.length c] #[.int .i64 0] 87 3
  have HT : Hid _ := take_one b off c zs k hz W.heap.size (W.heap.size + 1) r s p a n w0 (blk_keep HB.out hr) hm h han hk (.int .i64 0) HX.out HY.out (hc.keep HB.out) (by omega)
  have HR : Hid (r < W.heap.size) := hrw
  clear hr h hk hc hrw
  go_enter Tryz.func55, Tryz.ntmps55
  go_wp2_with fail
  rw [HW0.out]
  refine Calls.mono HT.out ?_
  rintro e w1 ⟨rfl, hr1, h2, hsz, ⟨ho, ht, hu⟩, hkeep⟩
  have HR1 : Hid (RdAt r s n w1) := hr1
  have HF : Hid (RFr r W w1) := ⟨ho.trans HB.out.os, ht.trans HB.out.tape, hu.trans HB.out.output, Nat.le_trans HB.out.size hsz, fun j hj hne => (hkeep j (Nat.lt_of_lt_of_le hj HB.out.size) hne (by omega)).trans (HB.out.block j hj)⟩
  obtain ⟨c1, _⟩ := row_one h2
  clear hr1 h2 hsz ho ht hu hkeep
  go_wp2
  go_ret
  exact ⟨rfl, HR1.out, HF.out⟩
end Go.Proofs.YtnfjpngmadoflaaGreatDoor

namespace Go.Proofs.YtnfjpngmadoflaaGreatDoor
open Go.RowKit
def repW : List ByteArray := [⟨#[114, 101, 113, 117, 105, 114, 101, 100]⟩, ⟨#[111, 112, 116, 105, 111, 110, 97, 108]⟩, ⟨#[114, 101, 112, 101, 97, 116, 101, 100]⟩]
def kindW : List ByteArray := [⟨#[103, 114, 111, 117, 112]⟩, ⟨#[98, 111, 111, 108]⟩, ⟨#[105, 110, 116]⟩, ⟨#[108, 111, 110, 103]⟩, ⟨#[98, 121, 116, 101, 115]⟩, ⟨#[100, 111, 117, 98, 108, 101]⟩]
def semiW : List ByteArray := [⟨#[59]⟩]
theorem strs_row {W : World} {g e : Nat} {zs : List ByteArray} {cs : Array Value} (h : W.heap[g]? = some (.cells cs e (0, 0))) (hc : ∀ j, j < zs.length → cs[j]? = some (.string (zs.getD j ByteArray.empty))) : StrsAt W g 0 zs := fun j hj => by
  rw [Nat.zero_add, cell_of_row _ g j _ e (0, 0) h]
  exact hc j hj
set_option maxRecDepth 100000 in
set_option maxHeartbeats 1600000 in
theorem repWords_any (W : World) : Calls Tryz.prog 56 #[] W fun e w' => e = .returned (.slice (some ⟨W.heap.size, 0, none⟩) 3 3) ∧ StrsAt w' W.heap.size 0 repW ∧ Below W.heap.size W w' := by
  go_enter Tryz.func56, Tryz.ntmps56
  go_wp2
  go_ret
  refine ⟨rfl, strs_row (heap_alloc_new _ _) fun j hj => ?_, (Below.refl _ _).alloc (Nat.le_refl _) _⟩
  have hj3 : j = 0 ∨ j = 1 ∨ j = 2 := by simp [repW] at hj; omega
  rcases hj3 with rfl | rfl | rfl <;> rfl
set_option maxRecDepth 100000 in
set_option maxHeartbeats 1600000 in
theorem kindWords_any (W : World) : Calls Tryz.prog 57 #[] W fun e w' => e = .returned (.slice (some ⟨W.heap.size, 0, none⟩) 6 6) ∧ StrsAt w' W.heap.size 0 kindW ∧ Below W.heap.size W w' := by
  go_enter Tryz.func57, Tryz.ntmps57
  go_wp2
  go_ret
  refine ⟨rfl, strs_row (heap_alloc_new _ _) fun j hj => ?_, (Below.refl _ _).alloc (Nat.le_refl _) _⟩
  have hj3 : j = 0 ∨ j = 1 ∨ j = 2 ∨ j = 3 ∨ j = 4 ∨ j = 5 := by simp [kindW] at hj; omega
  rcases hj3 with rfl | rfl | rfl | rfl | rfl | rfl <;> rfl
end Go.Proofs.YtnfjpngmadoflaaGreatDoor

namespace Go.Proofs.YtnfjpngmadoflaaGreatDoor
open Go.RowKit
/-- What a node's reading holds: the reader, the result's box, the node so far. -/
structure NdI (W : World) (r : Nat) (s : ByteArray) (q : Nat) (x0 x1 x2 x3 x4 : Value) (X : World) : Prop where
  rd : RdAt r s q X
  re : X.heap[W.heap.size]? = some (.cells #[.int .i64 0, .string ⟨#[]⟩, .int .i64 0, .int .i64 0, .slice none 0 0] 24 (0, 0))
  nd : X.heap[W.heap.size + 1]? = some (.cells #[x0, x1, x2, x3, x4] 24 (0, 0))
  fr : RFr r W X
  lt : r < W.heap.size
theorem NdI.step {W : World} {r : Nat} {s : ByteArray} {q q2 : Nat} {x0 x1 x2 x3 x4 : Value} {X w' : World} (h : NdI W r s q x0 x1 x2 x3 x4 X) (hr : RdAt r s q2 w') (hf : RFr r X w') : NdI W r s q2 x0 x1 x2 x3 x4 w' :=
  ⟨hr, hf.box h.re (by have := h.lt; omega), hf.box h.nd (by have := h.lt; omega), h.fr.trans hf, h.lt⟩
theorem NdI.keep {W : World} {r : Nat} {s : ByteArray} {q : Nat} {x0 x1 x2 x3 x4 : Value} {X w' : World} (h : NdI W r s q x0 x1 x2 x3 x4 X) (hb : Below X.heap.size X w') : NdI W r s q x0 x1 x2 x3 x4 w' :=
  ⟨blk_keep hb h.rd, blk_keep hb h.re, blk_keep hb h.nd, h.fr.trans (.of_below hb), h.lt⟩
theorem RFr.setNew {r g j : Nat} {W X : World} {v : Value} (h : RFr r W X) (hg : W.heap.size ≤ g) : RFr r W (X.setCell ⟨g, j, none⟩ v) := ⟨h.os, h.tape, h.output, by simpa using h.size, fun k hk hne => (Below.heap_setCell X ⟨g, j, none⟩ v k (by show k ≠ g; omega)).trans (h.keep k hk hne)⟩
theorem NdI.set {W : World} {r : Nat} {s : ByteArray} {q : Nat} {x0 x1 x2 x3 x4 y0 y1 y2 y3 y4 : Value} {X : World} (h : NdI W r s q x0 x1 x2 x3 x4 X) (j : Nat) (v : Value) (he : (#[x0, x1, x2, x3, x4] : Array Value).setIfInBounds j v = #[y0, y1, y2, y3, y4]) : NdI W r s q y0 y1 y2 y3 y4 (X.setCell ⟨W.heap.size + 1, j, none⟩ v) :=
  ⟨(Below.heap_setCell X ⟨W.heap.size + 1, j, none⟩ v r (by have := h.lt; show r ≠ W.heap.size + 1; omega)).trans h.rd, (Below.heap_setCell X ⟨W.heap.size + 1, j, none⟩ v W.heap.size (by show W.heap.size ≠ W.heap.size + 1; omega)).trans h.re, (row_setC h.nd).trans (by rw [he]), h.fr.setNew (by omega), h.lt⟩
/-- The words ahead of a node's end: where each stands, and what it tells. -/
structure HdAt (s : ByteArray) (p q : Nat) (id : Int) (nm : ByteArray) (rep kind : Nat) : Prop where
  ex : ∃ a1 n1 a2 n2 a3 n3 a4 d, (WdAt s p a1 n1 ∧ a1 < n1 ∧ Lib.idxOfS repW (s.extract a1 n1) = (rep : Int)) ∧ (WdAt s n1 a2 n2 ∧ a2 < n2 ∧ Lib.idxOfS kindW (s.extract a2 n2) = (kind : Int)) ∧ (WdAt s n2 a3 n3 ∧ a3 < n3 ∧ nm = s.extract a3 n3 ∧ ∀ h : 0 < (s.extract a3 n3).size, isLt (s.extract a3 n3)[0] = true) ∧ (WdAt s n3 a4 q ∧ a4 < q ∧ IdW (s.extract a4 q) d ∧ Lib.atoi d = some id)
set_option maxRecDepth 100000 in
set_option maxHeartbeats 6400000 in
theorem node_leaf (r : Nat) (s : ByteArray) (p q5 q : Nat) (id : Int) (nm : ByteArray) (rep kind : Nat) (deep : Int) (W : World) (hr : RdAt r s p W) (hm : s.size ≤ 100000) (hh : HdAt s p q5 id nm rep kind) (hrep : rep ≤ 100) (hkind : kind ≤ 100) (hk0 : kind ≠ 0) (a5 : Nat) (h5 : WdAt s q5 a5 q) (h5n : a5 < q) (h5w : Lib.idxOfS semiW (s.extract a5 q) = 0) :
    Calls Tryz.prog (46) #[.pointer (some ⟨r, 0, none⟩), .int .i64 deep] W fun e w' => e = .returned (.agg #[.int .i64 id, .string nm, .int .i64 (rep + 1 : Nat), .int .i64 (kind : Nat), .slice none 0 0]) ∧ RdAt r s q w' ∧ RFr r W w' := by
  obtain ⟨a1, n1, a2, n2, a3, n3, a4, d, ⟨u1, v1, x1⟩, ⟨u2, v2, x2⟩, ⟨u3, v3, rfl, x3⟩, ⟨u4, v4, x4, y4⟩⟩ := hh.ex
  have hrw : r < W.heap.size := lt_of_block hr
  obtain ⟨w0, HW0, HX, HY, HB⟩ := two_boxesS W #[.int .i64 0, .string ⟨#[]⟩, .int .i64 0, .int .i64 0, .slice none 0 0] #[.int .i64 0, .string ⟨#[]⟩, .int .i64 0, .int .i64 0, .slice none 0 0] 24 24
  have HI0 : Hid (NdI W r s p (.int .i64 0) (.string ⟨#[]⟩) (.int .i64 0) (.int .i64 0) (.slice none 0 0) w0) := ⟨blk_keep HB.out hr, HX.out, HY.out, .of_below HB.out, hrw⟩
  have U1 : Hid _ := And.intro u1 (And.intro v1 x1)
  have U2 : Hid _ := And.intro u2 (And.intro v2 x2)
  have U3 : Hid _ := And.intro u3 (And.intro v3 x3)
  have U4 : Hid _ := And.intro u4 (And.intro v4 (And.intro x4 y4))
  have U5 : Hid _ := And.intro h5 (And.intro h5n h5w)
  clear u1 v1 x1 u2 v2 x2 u3 v3 x3 u4 v4 x4 y4 h5 h5n h5w hr hh HX HY HB hrw
  obtain ⟨z, HZ⟩ : ∃ z, Hid (s.extract a3 n3 = z) := ⟨_, rfl⟩
  go_enter Tryz.func46, Tryz.ntmps46
  go_wp2_with fail
  rw [HW0.out]
  refine (repWords_any w0).mono ?_
  rintro e w1 ⟨rfl, hst, hb1⟩
  have HI1 : Hid _ := HI0.out.keep hb1
  have HST : Hid _ := hst
  clear hst hb1 HI0
  go_wp2_with fail
  refine (takeOne_any w0.heap.size 0 3 repW rep (by decide) r s p a1 n1 w1 HI1.out.rd hm U1.out.1 U1.out.2.1 U1.out.2.2 HST.out).mono ?_
  rintro e w2 ⟨rfl, hr2, hf2⟩
  have HI2 : Hid _ := HI1.out.step hr2 hf2
  clear hr2 hf2 HI1 HST
  obtain ⟨⟨p0, p1, p2, p3, p4⟩, f0, f1, f2, f3, f4⟩ := row_five HI2.out.nd
  have HI3 : Hid (NdI W r s n1 (.int .i64 0) (.string ⟨#[]⟩) (.int .i64 (1 + (rep : Nat))) (.int .i64 0) (.slice none 0 0) (w2.setCell ⟨W.heap.size + 1, 2, none⟩ (.int .i64 (1 + (rep : Nat))))) := HI2.out.set 2 _ rfl
  go_wp2_with fail
  refine (kindWords_any _).mono ?_
  rintro e w3 ⟨rfl, hst, hb3⟩
  have HI4 : Hid _ := HI3.out.keep hb3
  have HST : Hid (StrsAt w3 w2.heap.size 0 kindW) := (by show StrsAt _ _ _ _; simpa using hst)
  clear hst hb3 HI3 HI2 p0 p1 p2 p3 p4 f0 f1 f2 f3 f4
  go_wp2_with fail
  refine (takeOne_any w2.heap.size 0 6 kindW kind (by decide) r s n1 a2 n2 w3 HI4.out.rd hm U2.out.1 U2.out.2.1 U2.out.2.2 HST.out).mono ?_
  rintro e w4 ⟨rfl, hr4, hf4⟩
  have HI5 : Hid _ := HI4.out.step hr4 hf4
  clear hr4 hf4 HI4 HST
  obtain ⟨⟨p0, p1, p2, p3, p4⟩, f0, f1, f2, f3, f4⟩ := row_five HI5.out.nd
  have HI6 : Hid (NdI W r s n2 (.int .i64 0) (.string ⟨#[]⟩) (.int .i64 (1 + (rep : Nat))) (.int .i64 (kind : Nat)) (.slice none 0 0) (w4.setCell ⟨W.heap.size + 1, 3, none⟩ (.int .i64 (kind : Nat)))) := HI5.out.set 3 _ rfl
  go_wp2_with fail
  refine (take_letters r s n2 a3 n3 _ HI6.out.rd hm U3.out.1 U3.out.2.1 U3.out.2.2).mono ?_
  rw [HZ.out]
  rintro e w5 ⟨rfl, hr5, hf5⟩
  have HI7 : Hid _ := HI6.out.step hr5 hf5
  clear hr5 hf5 HI6 HI5 p0 p1 p2 p3 p4 f0 f1 f2 f3 f4
  obtain ⟨⟨p0, p1, p2, p3, p4⟩, f0, f1, f2, f3, f4⟩ := row_five HI7.out.nd
  have HI8 : Hid (NdI W r s n3 (.int .i64 0) (.string z) (.int .i64 (1 + (rep : Nat))) (.int .i64 (kind : Nat)) (.slice none 0 0) (w5.setCell ⟨W.heap.size + 1, 1, none⟩ (.string z))) := HI7.out.set 1 _ rfl
  go_wp2_with fail
  refine (takeID_any r s n3 a4 q5 _ HI8.out.rd hm U4.out.1 U4.out.2.1 d U4.out.2.2.1 id U4.out.2.2.2).mono ?_
  rintro e w6 ⟨rfl, hr6, hf6⟩
  have HI9 : Hid _ := HI8.out.step hr6 hf6
  clear hr6 hf6 HI8 HI7 p0 p1 p2 p3 p4 f0 f1 f2 f3 f4
  obtain ⟨⟨p0, p1, p2, p3, p4⟩, f0, f1, f2, f3, f4⟩ := row_five HI9.out.nd
  have HI10 : Hid (NdI W r s q5 (.int .i64 id) (.string z) (.int .i64 (1 + (rep : Nat))) (.int .i64 (kind : Nat)) (.slice none 0 0) (w6.setCell ⟨W.heap.size + 1, 0, none⟩ (.int .i64 id))) := HI9.out.set 0 _ rfl
  have qk : ((kind : Int) == 0) = false := beq_eq_false_iff_ne.2 (by omega)
  obtain ⟨w7, HW7⟩ : ∃ w7, Hid ((w6.setCell ⟨W.heap.size + 1, 0, none⟩ (.int .i64 id)).alloc (.cells #[.string ⟨#[59]⟩] 9) = w7) := ⟨_, rfl⟩
  have HST : Hid (StrsAt w7 w6.heap.size 0 semiW) := (by
    rw [← HW7.out]
    have h := heap_alloc_new (w6.setCell ⟨W.heap.size + 1, 0, none⟩ (.int .i64 id)) (.cells #[.string ⟨#[59]⟩] 9)
    rw [show (w6.setCell ⟨W.heap.size + 1, 0, none⟩ (.int .i64 id)).heap.size = w6.heap.size by simp] at h
    exact strs_row h fun j hj => (by obtain rfl : j = 0 := by simp [semiW] at hj; omega
                                     rfl))
  have HI11 : Hid (NdI W r s q5 (.int .i64 id) (.string z) (.int .i64 (1 + (rep : Nat))) (.int .i64 (kind : Nat)) (.slice none 0 0) w7) := (by
    rw [← HW7.out]
    exact HI10.out.keep ((Below.refl _ _).alloc (Nat.le_refl _) _))
  go_wp2_with fail
  rw [HW7.out]
  refine (takeOne_any w6.heap.size 0 1 semiW 0 (by decide) r s q5 a5 q w7 HI11.out.rd hm U5.out.1 U5.out.2.1 U5.out.2.2 HST.out).mono ?_
  rintro e w8 ⟨rfl, hr8, hf8⟩
  have HI12 : Hid _ := HI11.out.step hr8 hf8
  clear hr8 hf8 HI11 HI10 HI9 p0 p1 p2 p3 p4 f0 f1 f2 f3 f4 HST
  obtain ⟨⟨p0, p1, p2, p3, p4⟩, _⟩ := row_five HI12.out.nd
  obtain ⟨⟨z0, z1, z2, z3, z4⟩, f0, f1, f2, f3, f4⟩ := row_five HI12.out.re
  go_wp2
  have hE : (1 + ((rep : Nat) : Int)) = ((rep + 1 : Nat) : Int) := by omega
  have hlt := HI12.out.lt
  exact bodyPost_ret (v := .agg #[.int .i64 id, .string z, .int .i64 (1 + ((rep : Nat) : Int)), .int .i64 (kind : Nat), .slice none 0 0]) (results_cell_row Tryz.results46 _ _ W.heap.size 24 #[.int .i64 id, .string z, .int .i64 (1 + ((rep : Nat) : Int)), .int .i64 (kind : Nat), .slice none 0 0] (0, 0) _ rfl (row_setC (row_setC (row_setC (row_setC (row_setC HI12.out.re))))) Tryz.underlying24 rfl (by kernel_rfl)) rfl ⟨by rw [hE, HZ.out], (Below.heap_setCell _ ⟨W.heap.size, 4, none⟩ _ r (by show r ≠ W.heap.size; omega)).trans ((Below.heap_setCell _ ⟨W.heap.size, 3, none⟩ _ r (by show r ≠ W.heap.size; omega)).trans ((Below.heap_setCell _ ⟨W.heap.size, 2, none⟩ _ r (by show r ≠ W.heap.size; omega)).trans ((Below.heap_setCell _ ⟨W.heap.size, 1, none⟩ _ r (by show r ≠ W.heap.size; omega)).trans ((Below.heap_setCell _ ⟨W.heap.size, 0, none⟩ _ r (by show r ≠ W.heap.size; omega)).trans HI12.out.rd)))), ((((HI12.out.fr.setNew (Nat.le_refl _)).setNew (Nat.le_refl _)).setNew (Nat.le_refl _)).setNew (Nat.le_refl _)).setNew (Nat.le_refl _)⟩
end Go.Proofs.YtnfjpngmadoflaaGreatDoor
