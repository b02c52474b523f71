/-
  The reader of a schema's text: a number is taken.
  The reader of a schema's text: one of some words is taken.
  The reader of a schema's text: takeOne.
  The reader of a schema's text: the words of a node; a leaf.
-/
import Derived.Test.YtajaoglnembkpaaGreatDoorPBSWord
import Derived.Test.YtajaoglnembkpaaGreatDoorShelf
import Derived.Lib.AtoiErrMem
namespace Go.Proofs.YtajaoglnembkpaaGreatDoor
open Go.RowKit
/-- The bytes of a number's word: '#' and one to four digits, no 0 ahead. -/
structure IdW (x : ByteArray) (d : List UInt8) : Prop where
  e : x.data.toList = 35 :: d
  l1 : 1 ≤ d.length
  l4 : d.length ≤ 4
  nz : ∀ h : 0 < d.length, d[0].toNat ≠ 48
theorem trim_id (d : List UInt8) : Lib.trimPrefix (35 :: d) [35] = d := by simp [Lib.trimPrefix, Lib.hasPrefix]
theorem has_id (d : List UInt8) : Lib.hasPrefix (35 :: d) [35] = true := by simp [Lib.hasPrefix]
set_option maxRecDepth 100000 in
set_option maxHeartbeats 1600000 in
theorem isID_any (x : ByteArray) (d : List UInt8) (h : IdW x d) (W : World) : Calls Tryz.prog 81 #[.string x] W fun e w' => e = .returned (.bool true) ∧ w' = W := by
  have HC : Hid _ := Tryz.strings_CutPrefix x ⟨#[35]⟩ W
  rw [h.e, show (⟨#[35]⟩ : ByteArray).data.toList = [35] from rfl, trim_id, has_id] at HC
  have hsz : (⟨d.toArray⟩ : ByteArray).size = d.length := by simp [ByteArray.size]
  have hl1 := h.l1
  have hl4 := h.l4
  have HZ : Hid (∀ h : 0 < (⟨d.toArray⟩ : ByteArray).size, (⟨d.toArray⟩ : ByteArray)[0].toNat ≠ 48) := fun h0 => (by
    have := h.nz (by omega)
    simpa [ByteArray.getElem_eq_getElem_data] using this)
  clear h
  obtain ⟨y, HY⟩ : ∃ y, Hid ((⟨d.toArray⟩ : ByteArray) = y) := ⟨_, rfl⟩
  rw [HY.out] at HC hsz HZ
  have hp0 : 0 < y.size := by omega
  have q1 : decide ((1 : Int) ≤ (y.size : Int)) = true := by rw [decide_eq_true_iff]; omega
  have q2 : decide ((y.size : Int) ≤ 4) = true := by rw [decide_eq_true_iff]; omega
  have q3 : (((y[0]).toNat : Int) != 48) = true := bne_iff_ne.2 (by have := HZ.out hp0; omega)
  have HSz : Hid _ := hsz
  clear hsz
  go_enter Tryz.func81, Tryz.ntmps81
  go_wp2_with fail
  refine Calls.mono HC.out ?_
  rintro e w1 ⟨rfl, hw⟩
  obtain rfl := hw.symm
  go_wp2
  all_goals go_ret
  all_goals exact ⟨rfl, rfl⟩
set_option maxRecDepth 100000 in
set_option maxHeartbeats 3200000 in
theorem take_id (r : Nat) (s : ByteArray) (p a n : Nat) (W : World) (hr : RdAt r s p W) (hm : s.size ≤ 100000) (h : WdAt s p a n) (han : a < n) (d : List UInt8) (hl : IdW (s.extract a n) d) :
    Calls Tryz.prog (62) #[.pointer (some ⟨r, 0, none⟩), .func (.func 81) #[] #[]] W fun e w' => e = .returned (.string (s.extract a n)) ∧ RdAt r s n w' ∧ RFr r W w' := by
  have HR : Hid _ := hr
  have hns := h.ns
  have hz : (s.extract a n).size = n - a := ext_size (by omega) hns
  have HLL : Hid _ := hl
  have HW : Hid _ := h
  clear hr hl h
  obtain ⟨x, HX⟩ : ∃ x, Hid (s.extract a n = x) := ⟨_, rfl⟩
  go_enter Tryz.func62, Tryz.ntmps62
  go_wp2_with fail
  refine (next_any r s p a n _ W HR.out hm HW.out).mono ?_
  rintro e w1 ⟨rfl, hb1⟩
  have HB1 : Hid _ := hb1
  have HR1 : Hid (w1.heap[r]? = some (.cells #[.string s, .int .i64 (p : Nat), .nilIface] 59 (0, 0))) := blk_keep hb1 HR.out
  clear hb1
  have HIs : Hid _ := isID_any (s.extract a n) d HLL.out w1
  rw [HX.out] at hz HIs ⊢
  obtain ⟨c0, c1, c2⟩ := row_three HR1.out
  obtain ⟨f0, f1, f2⟩ := row_threeF HR1.out
  have HV : Hid ((a : Int) + ((n - a : Nat) : Int) = ((n : Nat) : Int)) := (by show _ = _; omega)
  go_wp2_with fail
  refine Calls.mono HIs.out ?_
  rintro e w2 ⟨rfl, hw⟩
  obtain rfl := hw.symm
  go_wp2
  go_ret
  refine ⟨by rw [HX.out]; rfl, ?_, (RFr.of_below HB1.out).set⟩
  exact (row_setC HR1.out).trans (by show some (Obj.cells #[.string s, .int .i64 ((a : Int) + ((n - a : Nat) : Int)), .nilIface] 59 (0, 0)) = _; rw [HV.out])
set_option maxRecDepth 100000 in
set_option maxHeartbeats 3200000 in
theorem takeID_any (r : Nat) (s : ByteArray) (p a n : Nat) (W : World) (hr : RdAt r s p W) (hm : s.size ≤ 100000) (h : WdAt s p a n) (han : a < n) (d : List UInt8) (hl : IdW (s.extract a n) d) (k : Int) (hk : Lib.atoi d = some k) :
    Calls Tryz.prog (64) #[.pointer (some ⟨r, 0, none⟩)] W fun e w' => e = .returned (.int .i64 k) ∧ RdAt r s n w' ∧ RFr r W w' := by
  have HT : Hid _ := take_id r s p a n W hr hm h han d hl
  have HD : Hid _ := hl
  clear hr h hl
  have hl4 := HD.out.l4
  go_enter Tryz.func64, Tryz.ntmps64
  go_wp2_with fail
  refine Calls.mono HT.out ?_
  rintro e w1 ⟨rfl, hr1, hf1⟩
  have HR1 : Hid (w1.heap[r]? = some (.cells #[.string s, .int .i64 (n : Nat), .nilIface] 59 (0, 0))) := hr1
  have HF1 : Hid (RFr r W w1) := hf1
  clear hr1 hf1
  have HP : Hid _ := Tryz.strings_TrimPrefix (s.extract a n) ⟨#[35]⟩ w1
  rw [HD.out.e, show (⟨#[35]⟩ : ByteArray).data.toList = [35] from rfl, trim_id] at HP
  go_wp2_with fail
  refine Calls.mono HP.out ?_
  rintro e w2 ⟨rfl, hw⟩
  obtain rfl := hw.symm
  have HA : Hid _ := Tryz.strconv_Atoi ⟨d.toArray⟩ k (by have h2 : (⟨d.toArray⟩ : ByteArray).size = d.length := (by simp [ByteArray.size]); omega) (by simpa using hk) w1
  go_wp2_with fail
  refine Calls.mono HA.out ?_
  rintro e w3 ⟨rfl, t, rfl⟩
  have hb : Below w1.heap.size w1 (Lib.bytesWorld w1 5 t) := Lib.bytesWorld_below w1 5 t
  have HB : Hid _ := hb
  clear hb
  generalize Lib.bytesWorld w1 5 t = w4 at *
  go_wp2
  go_ret
  exact ⟨rfl, blk_keep HB.out HR1.out, HF1.out.trans (RFr.of_below HB.out)⟩
end Go.Proofs.YtajaoglnembkpaaGreatDoor

namespace Go.Proofs.YtajaoglnembkpaaGreatDoor
open Go.RowKit
/-- Where a slice of words lies. -/
def StrsAt (W : World) (b off : Nat) (zs : List ByteArray) : Prop := ∀ j, j < zs.length → W.cell? ⟨b, off + j, none⟩ = some (.string (zs.getD j ByteArray.empty))
theorem StrsAt.keep {W w' : World} {b off : Nat} {zs : List ByteArray} (h : StrsAt W b off zs) (hb : Below W.heap.size W w') : StrsAt w' b off zs := fun j hj => (hb.cell (World.block_lt_of_cell? W _ (h j hj))).trans (h j hj)
set_option maxRecDepth 100000 in
set_option maxHeartbeats 1600000 in
theorem takeOneC_any (b off c : Nat) (zs : List ByteArray) (x : ByteArray) (k : Nat) (hk : Lib.idxOfS zs x = (k : Int)) (hz : zs.length ≤ 100) (g1 g2 : Nat) (v : Value) (W : World) (h1 : W.heap[g1]? = some (.cells #[.slice (some ⟨b, off, none⟩) zs.length c] 107 (0, 0))) (h2 : W.heap[g2]? = some (.cells #[v] 3 (0, 0))) (hc : StrsAt W b off zs) :
    Calls Tryz.prog (76) #[.string x, .pointer (some ⟨g1, 0, none⟩), .pointer (some ⟨g2, 0, none⟩)] W fun e w' => e = .returned (.bool true) ∧ w' = W.setCell ⟨g2, 0, none⟩ (.int .i64 (k : Nat)) := by
  obtain ⟨c1, _⟩ := row_one h1
  obtain ⟨c2, f2⟩ := row_one h2
  obtain ⟨c3, _⟩ := row_one (row_setC (j := 0) (v := .int .i64 (k : Nat)) h2)
  have HI : Hid _ := Tryz.slices_Index_string b off zs.length c zs x W (Nat.le_refl _) (by omega) hc
  rw [List.take_length, hk] at HI
  clear h1 h2 hc hk
  go_enter Tryz.func76, Tryz.ntmps76
  go_wp2_with fail
  refine Calls.mono HI.out ?_
  rintro e w1 ⟨rfl, hw⟩
  obtain rfl := hw.symm
  go_wp2
  go_ret
  refine ⟨?_, rfl⟩
  simp
set_option maxRecDepth 100000 in
set_option maxHeartbeats 3200000 in
theorem take_one (b off c : Nat) (zs : List ByteArray) (k : Nat) (hz : zs.length ≤ 100) (g1 g2 : Nat) (r : Nat) (s : ByteArray) (p a n : Nat) (W : World) (hr : RdAt r s p W) (hm : s.size ≤ 100000) (h : WdAt s p a n) (han : a < n) (hk : Lib.idxOfS zs (s.extract a n) = (k : Int)) (v : Value) (h1 : W.heap[g1]? = some (.cells #[.slice (some ⟨b, off, none⟩) zs.length c] 107 (0, 0))) (h2 : W.heap[g2]? = some (.cells #[v] 3 (0, 0))) (hc : StrsAt W b off zs) (hg : g2 ≠ r) :
    Calls Tryz.prog (62) #[.pointer (some ⟨r, 0, none⟩), .func (.func 76) #[] #[.pointer (some ⟨g1, 0, none⟩), .pointer (some ⟨g2, 0, none⟩)]] W fun e w' => e = .returned (.string (s.extract a n)) ∧ RdAt r s n w' ∧ w'.heap[g2]? = some (.cells #[.int .i64 (k : Nat)] 3 (0, 0)) ∧ W.heap.size ≤ w'.heap.size ∧ (w'.os = W.os ∧ w'.tape = W.tape ∧ w'.output = W.output) ∧ ∀ j, j < W.heap.size → j ≠ r → j ≠ g2 → w'.heap[j]? = W.heap[j]? := by
  have HR : Hid _ := hr
  have hns := h.ns
  have hsz : (s.extract a n).size = n - a := ext_size (by omega) hns
  have HK : Hid _ := hk
  have H1 : Hid _ := h1
  have H2 : Hid _ := h2
  have HC : Hid (StrsAt W b off zs) := hc
  have HW : Hid _ := h
  clear hr h hk h1 h2 hc
  obtain ⟨x, HX⟩ : ∃ x, Hid (s.extract a n = x) := ⟨_, rfl⟩
  go_enter Tryz.func62, Tryz.ntmps62
  go_wp2_with fail
  refine (next_any r s p a n _ W HR.out hm HW.out).mono ?_
  rintro e w1 ⟨rfl, hb1⟩
  have HB1 : Hid _ := hb1
  have HR1 : Hid (w1.heap[r]? = some (.cells #[.string s, .int .i64 (p : Nat), .nilIface] 59 (0, 0))) := blk_keep hb1 HR.out
  clear hb1
  have H21 : Hid (w1.heap[g2]? = some (.cells #[v] 3 (0, 0))) := blk_keep HB1.out H2.out
  have HIs : Hid _ := takeOneC_any b off c zs (s.extract a n) k HK.out hz g1 g2 v w1 (blk_keep HB1.out H1.out) H21.out (HC.out.keep HB1.out)
  rw [HX.out] at hsz HIs ⊢
  have HR2 : Hid ((w1.setCell ⟨g2, 0, none⟩ (.int .i64 (k : Nat))).heap[r]? = some (.cells #[.string s, .int .i64 (p : Nat), .nilIface] 59 (0, 0))) := (Below.heap_setCell w1 ⟨g2, 0, none⟩ _ r (fun e => hg e.symm)).trans HR1.out
  have HV : Hid ((a : Int) + ((n - a : Nat) : Int) = ((n : Nat) : Int)) := (by show _ = _; omega)
  go_wp2_with fail
  refine Calls.mono HIs.out ?_
  rintro e w2 ⟨rfl, hw⟩
  have HW2 : Hid (w2 = w1.setCell ⟨g2, 0, none⟩ (.int .i64 (k : Nat))) := hw
  clear hw
  rw [← HW2.out] at HR2
  obtain ⟨c0, c1, c2⟩ := row_three HR2.out
  obtain ⟨f0, f1, f2⟩ := row_threeF HR2.out
  go_wp2
  go_ret
  refine ⟨by rw [HX.out]; rfl, ?_, ?_, ?_, ?_, ?_⟩
  · exact (row_setC HR2.out).trans (by show some (Obj.cells #[.string s, .int .i64 ((a : Int) + ((n - a : Nat) : Int)), .nilIface] 59 (0, 0)) = _; rw [HV.out])
  · rw [Below.heap_setCell w2 ⟨r, 1, none⟩ _ g2 hg, HW2.out]
    exact (row_setC H21.out).trans rfl
  · rw [HW2.out]; simpa using HB1.out.size
  · rw [HW2.out]; exact ⟨HB1.out.os, HB1.out.tape, HB1.out.output⟩
  · intro j hj hjr hj2
    rw [Below.heap_setCell w2 ⟨r, 1, none⟩ _ j hjr, HW2.out, Below.heap_setCell w1 ⟨g2, 0, none⟩ _ j hj2, HB1.out.block j hj]
end Go.Proofs.YtajaoglnembkpaaGreatDoor

namespace Go.Proofs.YtajaoglnembkpaaGreatDoor
open Go.RowKit
theorem two_boxesS (W : World) (c1 c2 : Array Value) (t1 t2 : TypeId) : ∃ w0, Hid ((W.alloc (.cells c1 t1)).alloc (.cells c2 t2) = w0) ∧ Hid (w0.heap[W.heap.size]? = some (.cells c1 t1 (0, 0))) ∧ Hid (w0.heap[W.heap.size + 1]? = some (.cells c2 t2 (0, 0))) ∧ Hid (Below W.heap.size W w0) := by
  refine ⟨_, rfl, blk_alloc (heap_alloc_new W _), ?_, ((Below.refl _ _).alloc (Nat.le_refl _) _).alloc (by simp) _⟩
  have h := heap_alloc_new (W.alloc (.cells c1 t1)) (.cells c2 t2)
  rw [show (W.alloc (.cells c1 t1)).heap.size = W.heap.size + 1 by simp] at h
  exact h
set_option maxRecDepth 100000 in
set_option maxHeartbeats 3200000 in
theorem takeOne_any (b off c : Nat) (zs : List ByteArray) (k : Nat) (hz : zs.length ≤ 100) (r : Nat) (s : ByteArray) (p a n : Nat) (W : World) (hr : RdAt r s p W) (hm : s.size ≤ 100000) (h : WdAt s p a n) (han : a < n) (hk : Lib.idxOfS zs (s.extract a n) = (k : Int)) (hc : StrsAt W b off zs) :
    Calls Tryz.prog (59) #[.pointer (some ⟨r, 0, none⟩), .slice (some ⟨b, off, none⟩) zs.length c] W fun e w' => e = .returned (.int .i64 (k : Nat)) ∧ RdAt r s n w' ∧ RFr r W w' := by
  have hmf : ∀ (fn : Fn) (first cap : Array Value) (W : World), (Instr.makeFunc fn first cap).run Tryz.prog W = .ok (.func fn first cap) W := fun _ _ _ _ => rfl
  have hrw : r < W.heap.size := lt_of_block hr
  obtain ⟨w0, HW0, HX, HY, HB⟩ := two_boxesS W #[.slice (some ⟨b, off, none⟩) zs.length c] #[.int .i64 0] 107 3
  have HT : Hid _ := take_one b off c zs k hz W.heap.size (W.heap.size + 1) r s p a n w0 (blk_keep HB.out hr) hm h han hk (.int .i64 0) HX.out HY.out (hc.keep HB.out) (by omega)
  have HR : Hid (r < W.heap.size) := hrw
  clear hr h hk hc hrw
  go_enter Tryz.func59, Tryz.ntmps59
  go_wp2_with fail
  rw [HW0.out]
  refine Calls.mono HT.out ?_
  rintro e w1 ⟨rfl, hr1, h2, hsz, ⟨ho, ht, hu⟩, hkeep⟩
  have HR1 : Hid (RdAt r s n w1) := hr1
  have HF : Hid (RFr r W w1) := ⟨ho.trans HB.out.os, ht.trans HB.out.tape, hu.trans HB.out.output, Nat.le_trans HB.out.size hsz, fun j hj hne => (hkeep j (Nat.lt_of_lt_of_le hj HB.out.size) hne (by omega)).trans (HB.out.block j hj)⟩
  obtain ⟨c1, _⟩ := row_one h2
  clear hr1 h2 hsz ho ht hu hkeep
  go_wp2
  go_ret
  exact ⟨rfl, HR1.out, HF.out⟩
end Go.Proofs.YtajaoglnembkpaaGreatDoor

namespace Go.Proofs.YtajaoglnembkpaaGreatDoor
open Go.RowKit
def repW : List ByteArray := [⟨#[114, 101, 113, 117, 105, 114, 101, 100]⟩, ⟨#[111, 112, 116, 105, 111, 110, 97, 108]⟩, ⟨#[114, 101, 112, 101, 97, 116, 101, 100]⟩]
def kindW : List ByteArray := [⟨#[103, 114, 111, 117, 112]⟩, ⟨#[98, 111, 111, 108]⟩, ⟨#[105, 110, 116]⟩, ⟨#[108, 111, 110, 103]⟩, ⟨#[98, 121, 116, 101, 115]⟩, ⟨#[100, 111, 117, 98, 108, 101]⟩]
def semiW : List ByteArray := [⟨#[59]⟩]
theorem strs_row {W : World} {g e : Nat} {zs : List ByteArray} {cs : Array Value} (h : W.heap[g]? = some (.cells cs e (0, 0))) (hc : ∀ j, j < zs.length → cs[j]? = some (.string (zs.getD j ByteArray.empty))) : StrsAt W g 0 zs := fun j hj => by
  rw [Nat.zero_add, cell_of_row _ g j _ e (0, 0) h]
  exact hc j hj
set_option maxRecDepth 100000 in
set_option maxHeartbeats 1600000 in
theorem repWords_any (W : World) : Calls Tryz.prog 60 #[] W fun e w' => e = .returned (.slice (some ⟨W.heap.size, 0, none⟩) 3 3) ∧ StrsAt w' W.heap.size 0 repW ∧ Below W.heap.size W w' := by
  go_enter Tryz.func60, Tryz.ntmps60
  go_wp2
  go_ret
  refine ⟨rfl, strs_row (heap_alloc_new _ _) fun j hj => ?_, (Below.refl _ _).alloc (Nat.le_refl _) _⟩
  have hj3 : j = 0 ∨ j = 1 ∨ j = 2 := by simp [repW] at hj; omega
  rcases hj3 with rfl | rfl | rfl <;> rfl
set_option maxRecDepth 100000 in
set_option maxHeartbeats 1600000 in
theorem kindWords_any (W : World) : Calls Tryz.prog 61 #[] W fun e w' => e = .returned (.slice (some ⟨W.heap.size, 0, none⟩) 6 6) ∧ StrsAt w' W.heap.size 0 kindW ∧ Below W.heap.size W w' := by
  go_enter Tryz.func61, Tryz.ntmps61
  go_wp2
  go_ret
  refine ⟨rfl, strs_row (heap_alloc_new _ _) fun j hj => ?_, (Below.refl _ _).alloc (Nat.le_refl _) _⟩
  have hj3 : j = 0 ∨ j = 1 ∨ j = 2 ∨ j = 3 ∨ j = 4 ∨ j = 5 := by simp [kindW] at hj; omega
  rcases hj3 with rfl | rfl | rfl | rfl | rfl | rfl <;> rfl
end Go.Proofs.YtajaoglnembkpaaGreatDoor
