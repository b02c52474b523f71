/-
  The part of BitsRuns' law that does not call bitrun.Runs' right way: widths that are none, and too many numbers.
-/
import Derived.Test.YtgmglgepmdmmeaaDoorRunsOf
import Derived.Test.YtgmglgepmdmmeaaDoorRefErr
import Derived.Test.YtgmglgepmdmmeaaDoorLaid8
import Derived.OpenShut
namespace Go.Proofs.YtgmglgepmdmmeaaDoor
open Go.RowKit
set_option linter.unusedVariables false
theorem err_of {w : World} {A : Nat → Addr} (h : Errs w A) (i : Nat) (hi : i < 8) : w.cell? ⟨errG i, 0, none⟩ = some (errV (A i)) := (h.at_ i hi).var
set_option maxRecDepth 100000 in
set_option maxHeartbeats 800000 in
/-- Runs, of a width that is none. -/
theorem runsF_bound (a : Option Addr) (n c : Nat) (k : Int) (w : World) (st : TypeId) (sp : Value) (hn : n ≤ maxLen) (hg : w.cell? ⟨0, 0, none⟩ = some (.iface st sp)) (hk : decide (0 ≤ k ∧ k ≤ 32) = false ∨ decide (0 ≤ k ∧ k ≤ 32) = true ∧ decide ((n : Int) ≤ 20000) = false) :
    Calls Tryd.prog 16 #[.slice a n c, .int .i64 k] w fun e w' => e = .returned (.tuple #[.string ⟨#[]⟩, .iface st sp]) ∧ Below w.heap.size w w' := by
  have hb0 : Below w.heap.size w ((w.alloc (.cells #[.slice a n c] 22)).alloc (.cells #[.int .i64 k] 3)) := ((Below.refl _ _).alloc (Nat.le_refl _) _).alloc (by simp) _
  have HG : Hid (((w.alloc (.cells #[.slice a n c] 22)).alloc (.cells #[.int .i64 k] 3)).cell? ⟨0, 0, none⟩ = some (.iface st sp)) := (hb0.cell (World.block_lt_of_cell? w _ hg)).trans hg
  clear hg
  go_enter Tryd.func16, Tryd.ntmps16
  go_wp2_with fail
  refine (check_bound a n c k _ _ hn HG.out hk).mono ?_
  rintro e w1 ⟨rfl, hw⟩
  obtain rfl := hw.symm
  go_wp2_with fail
  go_ret2
  exact ⟨rfl, hb0⟩
end Go.Proofs.YtgmglgepmdmmeaaDoor
