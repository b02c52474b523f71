/-
  A slice of ints that came in: what it holds; that it reads behind the call as it did before.
-/
import Derived.Test.YteonbmaokphleaaGreatDoorHBPackF
import Derived.ChangeSlices
import Derived.Carry
import Derived.OpenShut
import Derived.ProofKit
namespace Go.Proofs.YteonbmaokphleaaGreatDoor
open Go.ChangeShapes Go.WideShapes Go.ChangeAt Go.RowKit
theorem Tryz.cells3 : Tryz.prog.cellsOf 3 = 1 := by kernel_rfl
theorem Tryz.laid_ : laidOutB Tryz.prog = true := by kernel_rfl
set_option maxRecDepth 100000 in
theorem open_intsl {H : Type} {enc : TypeId × Value → H} {W : World} {base : Nat} {v : Value} {d : DataW H} {ps : List MemPlace} (hv : Value.okWide Tryz.prog W .any base 25 v) (h : DataW.Trod enc Tryz.prog W 0 (fun _ => true) true 25 v d ps) :
    ∃ a n c xs, v = .slice a n c ∧ List.length xs = n ∧ n ≤ maxLen ∧ Lies W a (i64s xs) ∧ ∀ j (h : j < xs.length), -9223372036854775808 ≤ xs[j] ∧ xs[j] ≤ 9223372036854775807 := by
 obtain ⟨a0, len, cap, rfl⟩ := okWide_slice Tryz.underlying25 hv
 obtain ⟨fuel, hf⟩ := h
 rcases open_ints Tryz.underlying25 Tryz.underlying3 Tryz.cells3 hf with ⟨hcs, _⟩ | ⟨a, len', cap', zs, hcs, _, hl, hm, hz, _, hcell, hwz⟩
 · simp [Value.cells] at hcs
   obtain ⟨rfl, rfl, rfl⟩ := hcs
   exact ⟨none, 0, 0, [], rfl, rfl, Nat.zero_le _, fun j hj => absurd hj (by simp [i64s]), fun j hj => absurd hj (by simp)⟩
 · simp [Value.cells] at hcs
   obtain ⟨rfl, rfl, rfl⟩ := hcs
   simp only [if_true] at hz
   have hlz : (zs.take len).length = len := by simp; omega
   refine ⟨some a, len, cap, zs.take len, rfl, hlz, by omega, fun j hj => ?_, fun j hj => ?_⟩
   · rw [i64s_len, hlz] at hj
     have hc := hcell j (by omega)
     obtain ⟨b, off, spot⟩ := a
     have hspot : spot = none := by simpa [Addr.add] using World.cell?_spot (hcell 0 (by omega))
     subst hspot
     refine ⟨b, off, rfl, ?_⟩
     rw [addr_add] at hc
     rw [hc]
     have hjz : j < zs.length := by omega
     simp [i64s, List.getD, hjz]
   · rw [hlz] at hj
     have hjz : j < zs.length := by omega
     have hw := hwz zs[j] (List.getElem_mem hjz)
     have := bounds_i64 hw
     simpa using this
set_option maxRecDepth 100000 in
theorem shut_intsl {H : Type} {enc : TypeId × Value → H} {W W' : World} {v : Value} {d : DataW H} {ps : List MemPlace} (h : DataW.Trod enc Tryz.prog W 0 (fun _ => true) true 25 v d ps) (hb : Below W.heap.size W W') (hlt : ∀ x ∈ ps, x.block < W.heap.size) :
    DataW.Trod enc Tryz.prog W' 0 (fun b => decide (b < W.heap.size)) true 25 v d ps :=
 Below.trod Tryz.laid_ (by kernel_rfl) (of_decide_eq_true (by kernel_rfl)) h hb hlt
end Go.Proofs.YteonbmaokphleaaGreatDoor
