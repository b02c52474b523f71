/-
  The reference's ManyError and ValuesError: what they answer.
  The walk of the law EncPlain.
-/
import Derived.Test.YtmhkpnmifhfboaaGreatDoorMRefErr
import Derived.Test.YtmhkpnmifhfboaaGreatDoorMBSmall
import Derived.Test.YtmhkpnmifhfboaaGreatDoorMBWordsMath
import Derived.Test.YtmhkpnmifhfboaaGreatDoorMBRdBools
import Derived.Test.YtmhkpnmifhfboaaGreatDoorMBPBools
import Derived.Test.YtmhkpnmifhfboaaGreatDoorMBCode
namespace Go.Proofs.YtmhkpnmifhfboaaGreatDoor
open Go.RowKit
/-- The number of the error of a kind and a count: 0, none. -/
def manyC (kd n : Int) : Int := if 1 ≤ kd ∧ kd ≤ 5 then (if 0 ≤ n ∧ n ≤ 20000 then 0 else 2) else 4
set_option maxRecDepth 100000 in
set_option maxHeartbeats 800000 in
theorem manyError_any (kd n : Int) (w : World) :
    Calls Tryz.prog 5 #[.int .i64 kd, .int .i64 n] w fun e w' => e = .returned (.agg (rfl2 (manyC kd n) (-1))) ∧ Below w.heap.size w w' := by
  have hcase : (manyC kd n = 4 ∧ kd < 1) ∨ (manyC kd n = 4 ∧ ¬ kd < 1 ∧ 5 < kd) ∨ (manyC kd n = 2 ∧ ¬ kd < 1 ∧ ¬ 5 < kd ∧ n < 0) ∨ (manyC kd n = 2 ∧ ¬ kd < 1 ∧ ¬ 5 < kd ∧ ¬ n < 0 ∧ 20000 < n) ∨ (manyC kd n = 0 ∧ ¬ kd < 1 ∧ ¬ 5 < kd ∧ ¬ n < 0 ∧ ¬ 20000 < n) := by
    unfold manyC; split <;> (try split) <;> omega
  rcases hcase with ⟨e, h⟩ | ⟨e, h, h'⟩ | ⟨e, h, h', h''⟩ | ⟨e, h, h', h'', h3⟩ | ⟨e, h, h', h'', h3⟩
  all_goals
    rw [e]
    clear e
    go_enter Tryz.func5, Tryz.ntmps5
    go_wp2_with (first | (go_at_call 12; refine (bare_any _ _).mono ?_; rintro e w1 ⟨rfl, rfl⟩) | (go_at_call 13; refine (fine_any _).mono ?_; rintro e w1 ⟨rfl, rfl⟩))
    exact bodyPost_ret (v := .agg (rfl2 _ (-1))) (results_cell_row Tryz.results5 _ _ w.heap.size 24 (rfl2 _ (-1)) (0, 0) _ rfl (heap_alloc2_old w _ _) Tryz.underlying24 rfl (by kernel_rfl)) rfl ⟨rfl, ((Below.refl _ _).alloc (Nat.le_refl _) _).alloc (by simp) _⟩
/-- What ValuesError says of the values up to a place. -/
def VE (kd : Int) (vs : List Vl) (i : Nat) (c at_ : Int) : Prop :=
  (c = 0 ∧ at_ = -1 ∧ (1 ≤ kd ∧ kd ≤ 5) ∧ ∀ j (h : j < vs.length), j < i → vs[j].Ok kd) ∨ (c = 4 ∧ at_ = -1 ∧ ¬ (1 ≤ kd ∧ kd ≤ 5)) ∨
  (∃ p : Nat, ∃ hp : p < vs.length, c = 4 ∧ at_ = p ∧ (1 ≤ kd ∧ kd ≤ 5) ∧ ¬ vs[p].Ok kd ∧ ∀ j (h : j < vs.length), j < p → vs[j].Ok kd)
def RetVE (kd : Int) (vs : List Vl) (e : Ending) : Prop := ∃ c at_, e = .returned (.agg (rfl2 c at_)) ∧ VE kd vs vs.length c at_
/-- What the loop keeps. -/
structure VL (kd : Int) (vs : List Vl) (w : World) (g : Nat) (i : Nat) (c at_ : Int) (wr : World) : Prop where
  res : wr.heap[w.heap.size]? = some (.cells (rfl2 0 0) 24 (0, 0))
  f : wr.heap[g]? = some (.cells (rfl2 c at_) 24 (0, 0))
  ve : VE kd vs i c at_
  old : Below w.heap.size w wr
theorem VL.keep {kd : Int} {vs : List Vl} {w : World} {g i j : Nat} {c at_ : Int} {wr w' : World} (h : VL kd vs w g i c at_ wr) (hb : Below wr.heap.size wr w') (hve : VE kd vs j c at_) : VL kd vs w g j c at_ w' :=
  ⟨blk_keep hb h.res, blk_keep hb h.f, hve, h.old.trans (hb.mono h.old.size)⟩
theorem blk_other {w : World} {g k j : Nat} {o : Obj} (h : w.heap[g]? = some o) (hne : g ≠ k) (v : Value) : (w.setCell ⟨k, j, none⟩ v).heap[g]? = some o := by
  rw [Below.heap_setCell _ _ _ _ hne]; exact h
end Go.Proofs.YtmhkpnmifhfboaaGreatDoor

namespace Go.Proofs.YtmhkpnmifhfboaaGreatDoor
open Go.RowKit
theorem ec {w : World} {A : Nat → Addr} (h : Errs w A) (i : Nat) (hi : i < 8) : w.cell? ⟨errG i, 0, none⟩ = some (errV (A i)) := (h.at_ i hi).var
theorem ve_right {kd : Int} {vs : List Vl} {c at_ : Int} (h : VE kd vs vs.length c at_) (hin : ∀ v ∈ vs, v.In) (hc : c = 0) : Right kd vs := by
  rcases h with ⟨_, _, h3, h4⟩ | ⟨h, _⟩ | ⟨p, hp, h, _⟩
  · refine ⟨h3, fun v hv => ?_⟩
    obtain ⟨j, hj, rfl⟩ := List.getElem_of_mem hv
    exact ⟨h4 j hj hj, hin _ hv⟩
  · omega
  · omega
end Go.Proofs.YtmhkpnmifhfboaaGreatDoor
