/-
  wire.ReadText's refusals.
-/
import Derived.Test.YtalphknhkkcpgaaDoorHRd2
import Derived.RegionTactic
namespace Go.Proofs.YtalphknhkkcpgaaDoor
open Go.RowKit
set_option maxHeartbeats 800000 in
theorem readT_none (s : ByteArray) (w : World) (t : TypeId) (x : Value) (hs : s.size ≤ maxLen) (hg : w.cell? ⟨0, 0, none⟩ = some (.iface t x)) (hr : Um.rdv s.data.toList 0 0 = (0, 0)) :
    Calls Tryd.prog 77 #[.string s] w fun e w' => e = .returned (.tuple #[.string ⟨#[]⟩, .int .i64 0, .iface t x]) ∧ Below w.heap.size w w' := by
  have HR : Hid (Um.rdv s.data.toList 0 0 = (0, 0)) := hr
  clear hr
  go_enter Tryd.func77, Tryd.ntmps77
  go_wp2_with fail
  refine (readU_miss s _ (.iface t x) hs hg HR.out).mono ?_
  rintro e w1 ⟨rfl, hb1⟩
  go_wp2
  go_ret3
  exact ⟨rfl, hb1⟩
set_option maxHeartbeats 800000 in
theorem readT_long (s : ByteArray) (w : World) (ev : Value) (n k : Nat) (hs : s.size ≤ 1000000) (hg : w.cell? ⟨0, 0, none⟩ = some ev) (hr : Um.rdv s.data.toList 0 0 = (n, k)) (hk : 0 < k) (hf : s.size < k + n ∨ 200000 < n) :
    Calls Tryd.prog 77 #[.string s] w fun e w' => e = .returned (.tuple #[.string ⟨#[]⟩, .int .i64 0, ev]) ∧ Below w.heap.size w w' := by
  have hm : s.size ≤ maxLen := by unfold maxLen; omega
  have hk10 : k ≤ 10 := by have := (Um.rdv_room s.data.toList 0 0 (by simp)).2.1; rw [hr] at this; exact this
  have hkl : k ≤ s.size := by have := (Um.rdv_room s.data.toList 0 0 (by simp)).2.2; rw [hr] at this; simpa using this
  have HR : Hid (Um.rdv s.data.toList 0 0 = (n, k)) := hr
  clear hr
  by_cases hn : n ≤ 200000
  · have hd1 : decide (200000 < (n : Int)) = false := by simp; omega
    have hd2 : decide ((s.size : Int) - (k : Int) < (n : Int)) = true := by simp; omega
    go_enter Tryd.func77, Tryd.ntmps77
    go_wp2_with fail
    refine (readU_hit s _ ev n k hm hg HR.out hk).mono ?_
    rintro e w1 ⟨rfl, hb1⟩
    have hg1 := (hb1.cell (World.block_lt_of_cell? w _ hg)).trans hg
    go_wp2
    go_region
    all_goals (try go_wp2)
    all_goals go_ret3
    all_goals exact ⟨rfl, hb1.drew⟩
  · have hd1 : decide (200000 < (n : Int)) = true := by simp; omega
    go_enter Tryd.func77, Tryd.ntmps77
    go_wp2_with fail
    refine (readU_hit s _ ev n k hm hg HR.out hk).mono ?_
    rintro e w1 ⟨rfl, hb1⟩
    have hg1 := (hb1.cell (World.block_lt_of_cell? w _ hg)).trans hg
    go_wp2
    go_region
    all_goals (try go_wp2)
    all_goals go_ret3
    all_goals exact ⟨rfl, hb1.drew⟩
end Go.Proofs.YtalphknhkkcpgaaDoor
