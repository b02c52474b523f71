/-
  The reader of a schema's text: takeOne.
-/
import Derived.Test.YtlncenjaplaokaaDoorPSOne
namespace Go.Proofs.YtlncenjaplaokaaDoor
open Go.RowKit
theorem two_boxesS (W : World) (c1 c2 : Array Value) (t1 t2 : TypeId) : ∃ w0, Hid ((W.alloc (.cells c1 t1)).alloc (.cells c2 t2) = w0) ∧ Hid (w0.heap[W.heap.size]? = some (.cells c1 t1 (0, 0))) ∧ Hid (w0.heap[W.heap.size + 1]? = some (.cells c2 t2 (0, 0))) ∧ Hid (Below W.heap.size W w0) := by
  refine ⟨_, rfl, blk_alloc (heap_alloc_new W _), ?_, ((Below.refl _ _).alloc (Nat.le_refl _) _).alloc (by simp) _⟩
  have h := heap_alloc_new (W.alloc (.cells c1 t1)) (.cells c2 t2)
  rw [show (W.alloc (.cells c1 t1)).heap.size = W.heap.size + 1 by simp] at h
  exact h
set_option maxRecDepth 100000 in
set_option maxHeartbeats 3200000 in
theorem takeOne_any (b off c : Nat) (zs : List ByteArray) (k : Nat) (hz : zs.length ≤ 100) (r : Nat) (s : ByteArray) (p a n : Nat) (W : World) (hr : RdAt r s p W) (hm : s.size ≤ 100000) (h : WdAt s p a n) (han : a < n) (hk : Lib.idxOfS zs (s.extract a n) = (k : Int)) (hc : StrsAt W b off zs) :
    Calls Tryd.prog (43) #[.pointer (some ⟨r, 0, none⟩), .slice (some ⟨b, off, none⟩) zs.length c] W fun e w' => e = .returned (.int .i64 (k : Nat)) ∧ RdAt r s n w' ∧ RFr r W w' := by
  have hmf : ∀ (fn : Fn) (first cap : Array Value) (W : World), (Instr.makeFunc fn first cap).run Tryd.prog W = .ok (.func fn first cap) W := fun _ _ _ _ => rfl
  have hrw : r < W.heap.size := lt_of_block hr
  obtain ⟨w0, HW0, HX, HY, HB⟩ := two_boxesS W #[.slice (some ⟨b, off, none⟩) zs.length c] #[.int .i64 0] 65 3
  have HT : Hid _ := take_one b off c zs k hz W.heap.size (W.heap.size + 1) r s p a n w0 (blk_keep HB.out hr) hm h han hk (.int .i64 0) HX.out HY.out (hc.keep HB.out) (by omega)
  have HR : Hid (r < W.heap.size) := hrw
  clear hr h hk hc hrw
  go_enter Tryd.func43, Tryd.ntmps43
  go_wp2_with fail
  rw [HW0.out]
  refine Calls.mono HT.out ?_
  rintro e w1 ⟨rfl, hr1, h2, hsz, ⟨ho, ht, hu⟩, hkeep⟩
  have HR1 : Hid (RdAt r s n w1) := hr1
  have HF : Hid (RFr r W w1) := ⟨ho.trans HB.out.os, ht.trans HB.out.tape, hu.trans HB.out.output, Nat.le_trans HB.out.size hsz, fun j hj hne => (hkeep j (Nat.lt_of_lt_of_le hj HB.out.size) hne (by omega)).trans (HB.out.block j hj)⟩
  obtain ⟨c1, _⟩ := row_one h2
  clear hr1 h2 hsz ho ht hu hkeep
  go_wp2
  go_ret
  exact ⟨rfl, HR1.out, HF.out⟩
end Go.Proofs.YtlncenjaplaokaaDoor
