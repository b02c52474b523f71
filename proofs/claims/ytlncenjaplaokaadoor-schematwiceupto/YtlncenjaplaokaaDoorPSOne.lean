/-
  The reader of a schema's text: one of some words is taken.
-/
import Derived.Test.YtlncenjaplaokaaDoorPSId
namespace Go.Proofs.YtlncenjaplaokaaDoor
open Go.RowKit
/-- Where a slice of words lies. -/
def StrsAt (W : World) (b off : Nat) (zs : List ByteArray) : Prop := ∀ j, j < zs.length → W.cell? ⟨b, off + j, none⟩ = some (.string (zs.getD j ByteArray.empty))
theorem StrsAt.keep {W w' : World} {b off : Nat} {zs : List ByteArray} (h : StrsAt W b off zs) (hb : Below W.heap.size W w') : StrsAt w' b off zs := fun j hj => (hb.cell (World.block_lt_of_cell? W _ (h j hj))).trans (h j hj)
set_option maxRecDepth 100000 in
set_option maxHeartbeats 1600000 in
theorem takeOneC_any (b off c : Nat) (zs : List ByteArray) (x : ByteArray) (k : Nat) (hk : Lib.idxOfS zs x = (k : Int)) (hz : zs.length ≤ 100) (g1 g2 : Nat) (v : Value) (W : World) (h1 : W.heap[g1]? = some (.cells #[.slice (some ⟨b, off, none⟩) zs.length c] 65 (0, 0))) (h2 : W.heap[g2]? = some (.cells #[v] 3 (0, 0))) (hc : StrsAt W b off zs) :
    Calls Tryd.prog (55) #[.string x, .pointer (some ⟨g1, 0, none⟩), .pointer (some ⟨g2, 0, none⟩)] W fun e w' => e = .returned (.bool true) ∧ w' = W.setCell ⟨g2, 0, none⟩ (.int .i64 (k : Nat)) := by
  obtain ⟨c1, _⟩ := row_one h1
  obtain ⟨c2, f2⟩ := row_one h2
  obtain ⟨c3, _⟩ := row_one (row_setC (j := 0) (v := .int .i64 (k : Nat)) h2)
  have HI : Hid _ := Tryd.slices_Index_string b off zs.length c zs x W (Nat.le_refl _) (by omega) hc
  rw [List.take_length, hk] at HI
  clear h1 h2 hc hk
  go_enter Tryd.func55, Tryd.ntmps55
  go_wp2_with fail
  refine Calls.mono HI.out ?_
  rintro e w1 ⟨rfl, hw⟩
  obtain rfl := hw.symm
  go_wp2
  go_ret
  refine ⟨?_, rfl⟩
  simp
set_option maxRecDepth 100000 in
set_option maxHeartbeats 3200000 in
theorem take_one (b off c : Nat) (zs : List ByteArray) (k : Nat) (hz : zs.length ≤ 100) (g1 g2 : Nat) (r : Nat) (s : ByteArray) (p a n : Nat) (W : World) (hr : RdAt r s p W) (hm : s.size ≤ 100000) (h : WdAt s p a n) (han : a < n) (hk : Lib.idxOfS zs (s.extract a n) = (k : Int)) (v : Value) (h1 : W.heap[g1]? = some (.cells #[.slice (some ⟨b, off, none⟩) zs.length c] 65 (0, 0))) (h2 : W.heap[g2]? = some (.cells #[v] 3 (0, 0))) (hc : StrsAt W b off zs) (hg : g2 ≠ r) :
    Calls Tryd.prog (44) #[.pointer (some ⟨r, 0, none⟩), .func (.func 55) #[] #[.pointer (some ⟨g1, 0, none⟩), .pointer (some ⟨g2, 0, none⟩)]] W fun e w' => e = .returned (.string (s.extract a n)) ∧ RdAt r s n w' ∧ w'.heap[g2]? = some (.cells #[.int .i64 (k : Nat)] 3 (0, 0)) ∧ W.heap.size ≤ w'.heap.size ∧ (w'.os = W.os ∧ w'.tape = W.tape ∧ w'.output = W.output) ∧ ∀ j, j < W.heap.size → j ≠ r → j ≠ g2 → w'.heap[j]? = W.heap[j]? := by
  have HR : Hid _ := hr
  have hns := h.ns
  have hsz : (s.extract a n).size = n - a := ext_size (by omega) hns
  have HK : Hid _ := hk
  have H1 : Hid _ := h1
  have H2 : Hid _ := h2
  have HC : Hid (StrsAt W b off zs) := hc
  have HW : Hid _ := h
  clear hr h hk h1 h2 hc
  obtain ⟨x, HX⟩ : ∃ x, Hid (s.extract a n = x) := ⟨_, rfl⟩
  go_enter Tryd.func44, Tryd.ntmps44
  go_wp2_with fail
  refine (next_any r s p a n _ W HR.out hm HW.out).mono ?_
  rintro e w1 ⟨rfl, hb1⟩
  have HB1 : Hid _ := hb1
  have HR1 : Hid (w1.heap[r]? = some (.cells #[.string s, .int .i64 (p : Nat), .nilIface] 42 (0, 0))) := blk_keep hb1 HR.out
  clear hb1
  have H21 : Hid (w1.heap[g2]? = some (.cells #[v] 3 (0, 0))) := blk_keep HB1.out H2.out
  have HIs : Hid _ := takeOneC_any b off c zs (s.extract a n) k HK.out hz g1 g2 v w1 (blk_keep HB1.out H1.out) H21.out (HC.out.keep HB1.out)
  rw [HX.out] at hsz HIs ⊢
  have HR2 : Hid ((w1.setCell ⟨g2, 0, none⟩ (.int .i64 (k : Nat))).heap[r]? = some (.cells #[.string s, .int .i64 (p : Nat), .nilIface] 42 (0, 0))) := (Below.heap_setCell w1 ⟨g2, 0, none⟩ _ r (fun e => hg e.symm)).trans HR1.out
  have HV : Hid ((a : Int) + ((n - a : Nat) : Int) = ((n : Nat) : Int)) := (by show _ = _; omega)
  go_wp2_with fail
  refine Calls.mono HIs.out ?_
  rintro e w2 ⟨rfl, hw⟩
  have HW2 : Hid (w2 = w1.setCell ⟨g2, 0, none⟩ (.int .i64 (k : Nat))) := hw
  clear hw
  rw [← HW2.out] at HR2
  obtain ⟨c0, c1, c2⟩ := row_three HR2.out
  obtain ⟨f0, f1, f2⟩ := row_threeF HR2.out
  go_wp2
  go_ret
  refine ⟨by rw [HX.out]; rfl, ?_, ?_, ?_, ?_, ?_⟩
  · exact (row_setC HR2.out).trans (by show some (Obj.cells #[.string s, .int .i64 ((a : Int) + ((n - a : Nat) : Int)), .nilIface] 42 (0, 0)) = _; rw [HV.out])
  · rw [Below.heap_setCell w2 ⟨r, 1, none⟩ _ g2 hg, HW2.out]
    exact (row_setC H21.out).trans rfl
  · rw [HW2.out]; simpa using HB1.out.size
  · rw [HW2.out]; exact ⟨HB1.out.os, HB1.out.tape, HB1.out.output⟩
  · intro j hj hjr hj2
    rw [Below.heap_setCell w2 ⟨r, 1, none⟩ _ j hjr, HW2.out, Below.heap_setCell w1 ⟨g2, 0, none⟩ _ j hj2, HB1.out.block j hj]
end Go.Proofs.YtlncenjaplaokaaDoor
