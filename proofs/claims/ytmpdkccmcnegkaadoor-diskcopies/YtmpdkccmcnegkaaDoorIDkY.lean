/-
  A new disk.
-/
import Derived.Test.YtmpdkccmcnegkaaDoorIDkV
import Derived.Carry
namespace Go.Proofs.YtmpdkccmcnegkaaDoor
open Go.RowKit Go.Maps
/-- What is new since a world. -/
abbrev NewP (W w' : World) (k : Nat) : Prop := W.heap.size ≤ k ∧ k < w'.heap.size
set_option maxRecDepth 100000 in
set_option maxHeartbeats 1600000 in
theorem new_bad (q : Int) (hq : q < 0 ∨ 500000 < q) (be : Value) (W : World) (hb : W.cell? ⟨0, 0, none⟩ = some be) :
    Calls Tryd.prog 6 #[.int .i64 q] W fun e w' => e = .returned (.tuple #[.pointer none, be]) ∧ Below W.heap.size W w' := by
  by_cases h0 : q < 0
  · go_enter Tryd.func6, Tryd.ntmps6
    go_wp2
    go_quiet (fail)
    go_wp2
    go_ret2
    exact ⟨rfl, below_dW (Below.refl _ _) _⟩
  · have h1 : 500000 < q := by omega
    go_enter Tryd.func6, Tryd.ntmps6
    go_wp2
    go_quiet (fail)
    go_wp2
    go_ret2
    exact ⟨rfl, below_dW (Below.refl _ _) _⟩
set_option maxRecDepth 100000 in
set_option maxHeartbeats 1600000 in
theorem new_ok (q : Nat) (hq : q ≤ 500000) (W : World) :
    Calls Tryd.prog 6 #[.int .i64 q] W fun e w' => (∃ db, e = .returned (.tuple #[.pointer (some ⟨db, 0, none⟩), .nilIface]) ∧ DkAt w' (NewP W w') db ⟨[], 0, false, 0, q⟩) ∧ Below W.heap.size W w' := by
  have hmm := @run_makeMap Tryd.prog
  go_enter Tryd.func6, Tryd.ntmps6
  go_wp2
  go_ret2
  have hm : ((W.alloc (.map #[] 0)).alloc (.cells (dkBox 0 false 0 q W.heap.size) 51)).ownsMap Tryd.prog 9 RF W.heap.size 0 (.map []) := (World.ownsMap_made W Tryd.prog 9 RF).alloc _
  have hb := heap_alloc_new (W.alloc (.map #[] 0)) (.cells (dkBox 0 false 0 q W.heap.size) 51)
  rw [show (W.alloc (.map #[] 0)).heap.size = W.heap.size + 1 by simp] at hb
  refine ⟨⟨W.heap.size + 1, rfl, ⟨W.heap.size, 0, hb, fun h => (by cases h), .map [], fun _ => .nilIface, FM.empty hm ⟨Nat.le_refl _, by simp; omega⟩ _⟩, ⟨by omega, by simp⟩, fun k hk => hk.2, ⟨List.Pairwise.nil, Nat.zero_le _, fun p hp => absurd hp (by simp), Nat.zero_le _, hq, Nat.zero_le _⟩⟩, ((Below.refl _ _).alloc (Nat.le_refl _) _).alloc (by simp) _⟩
end Go.Proofs.YtmpdkccmcnegkaaDoor
