/-
  wire.ReadText's refusals, the reference's Long and ReadLong; the walk of the law WireText.
-/
import Derived.Test.YtfdcadlhapcddaaDoorRefRd
import Derived.Test.YtfdcadlhapcddaaDoorSeven
import Derived.Test.YtfdcadlhapcddaaDoorLaid8
import Derived.RegionTactic
namespace Go.Proofs.YtfdcadlhapcddaaDoor
open Go.RowKit
set_option maxHeartbeats 800000 in
theorem readT_none (s : ByteArray) (w : World) (t : TypeId) (x : Value) (hs : s.size ≤ maxLen) (hg : w.cell? ⟨0, 0, none⟩ = some (.iface t x)) (hr : Um.rdv s.data.toList 0 0 = (0, 0)) :
    Calls Tryd.prog 20 #[.string s] w fun e w' => e = .returned (.tuple #[.string ⟨#[]⟩, .int .i64 0, .iface t x]) ∧ Below w.heap.size w w' := by
  have HR : Hid (Um.rdv s.data.toList 0 0 = (0, 0)) := hr
  clear hr
  go_enter Tryd.func20, Tryd.ntmps20
  go_wp2_with fail
  refine (readU_miss s _ (.iface t x) hs hg HR.out).mono ?_
  rintro e w1 ⟨rfl, hb1⟩
  go_wp2
  go_ret3
  exact ⟨rfl, hb1⟩
set_option maxHeartbeats 800000 in
theorem readT_long (s : ByteArray) (w : World) (ev : Value) (n k : Nat) (hs : s.size ≤ 2000) (hg : w.cell? ⟨0, 0, none⟩ = some ev) (hr : Um.rdv s.data.toList 0 0 = (n, k)) (hk : 0 < k) (hf : s.size < k + n) :
    Calls Tryd.prog 20 #[.string s] w fun e w' => e = .returned (.tuple #[.string ⟨#[]⟩, .int .i64 0, ev]) ∧ Below w.heap.size w w' := by
  have hm : s.size ≤ maxLen := by unfold maxLen; omega
  have hk10 : k ≤ 10 := by have := (Um.rdv_room s.data.toList 0 0 (by simp)).2.1; rw [hr] at this; exact this
  have hkl : k ≤ s.size := by have := (Um.rdv_room s.data.toList 0 0 (by simp)).2.2; rw [hr] at this; simpa using this
  have HR : Hid (Um.rdv s.data.toList 0 0 = (n, k)) := hr
  clear hr
  by_cases hn : n ≤ 200000
  · have hd1 : decide (200000 < (n : Int)) = false := by simp; omega
    have hd2 : decide ((s.size : Int) - (k : Int) < (n : Int)) = true := by simp; omega
    go_enter Tryd.func20, Tryd.ntmps20
    go_wp2_with fail
    refine (readU_hit s _ ev n k hm hg HR.out hk).mono ?_
    rintro e w1 ⟨rfl, hb1⟩
    have hg1 := (hb1.cell (World.block_lt_of_cell? w _ hg)).trans hg
    go_wp2
    go_region
    all_goals (try go_wp2)
    all_goals go_ret3
    all_goals exact ⟨rfl, hb1.drew⟩
  · have hd1 : decide (200000 < (n : Int)) = true := by simp; omega
    go_enter Tryd.func20, Tryd.ntmps20
    go_wp2_with fail
    refine (readU_hit s _ ev n k hm hg HR.out hk).mono ?_
    rintro e w1 ⟨rfl, hb1⟩
    have hg1 := (hb1.cell (World.block_lt_of_cell? w _ hg)).trans hg
    go_wp2
    go_region
    all_goals (try go_wp2)
    all_goals go_ret3
    all_goals exact ⟨rfl, hb1.drew⟩
set_option maxHeartbeats 800000 in
theorem readLong_hit (s : ByteArray) (w : World) (n k : Nat) (hs : s.size ≤ 2000) (hr : Um.rdv s.data.toList 0 0 = (n, k)) (hk : 0 < k) (hf : k + n ≤ s.size) :
    Calls Tryd.prog 21 #[.string s] w fun e w' => e = .returned (.tuple #[.string (s.extract k (k + n)), .int .i64 ((k : Int) + n)]) ∧ w' = w := by
  have hm : s.size ≤ maxLen := by unfold maxLen; omega
  have HR : Hid (Um.rdv s.data.toList 0 0 = (n, k)) := hr
  clear hr
  have hd0 : ((k : Int) == 0) = false := by simp; omega
  have hd1 : decide (200000 < (n : Int)) = false := by simp; omega
  have hd2 : decide ((s.size : Int) - (k : Int) < (n : Int)) = false := by simp; omega
  go_enter Tryd.func21, Tryd.ntmps21
  go_wp2_with fail
  refine (readSeven_any s _ hm).mono ?_
  rw [HR.out]
  rintro e w1 ⟨rfl, hw⟩
  subst hw
  go_wp2
  go_ret2
  exact ⟨rfl, rfl⟩
set_option maxHeartbeats 800000 in
theorem readLong_miss (s : ByteArray) (w : World) (n k : Nat) (hs : s.size ≤ 2000) (hr : Um.rdv s.data.toList 0 0 = (n, k)) (hf : k = 0 ∨ s.size < k + n) :
    Calls Tryd.prog 21 #[.string s] w fun e w' => e = .returned (.tuple #[.string ⟨#[]⟩, .int .i64 0]) ∧ w' = w := by
  have hm : s.size ≤ maxLen := by unfold maxLen; omega
  have hn : n < 18446744073709551616 := by have := (Um.rdv_room s.data.toList 0 0 (by simp)).1; rw [hr] at this; exact this
  have hk10 : k ≤ 10 := by have := (Um.rdv_room s.data.toList 0 0 (by simp)).2.1; rw [hr] at this; exact this
  have hkl : k ≤ s.size := by have := (Um.rdv_room s.data.toList 0 0 (by simp)).2.2; rw [hr] at this; simpa using this
  have HR : Hid (Um.rdv s.data.toList 0 0 = (n, k)) := hr
  clear hr
  have hcase : ((k : Int) == 0) = true ∨ (((k : Int) == 0) = false ∧ decide (200000 < (n : Int)) = true) ∨ (((k : Int) == 0) = false ∧ decide (200000 < (n : Int)) = false ∧ n ≤ 200000 ∧ decide ((s.size : Int) - (k : Int) < (n : Int)) = true) := by
    by_cases h0 : k = 0
    · left; simp; omega
    · right
      by_cases h1 : n ≤ 200000
      · right; refine ⟨?_, ?_, h1, ?_⟩ <;> (simp; omega)
      · left; refine ⟨?_, ?_⟩ <;> (simp; omega)
  clear hf
  rcases hcase with hd0 | ⟨hd0, hd1⟩ | ⟨hd0, hd1, hn2, hd2⟩
  all_goals
    go_enter Tryd.func21, Tryd.ntmps21
    go_wp2_with fail
    refine (readSeven_any s _ hm).mono ?_
    rw [HR.out]
    rintro e w1 ⟨rfl, hw⟩
    subst hw
    go_wp2
    go_ret2
    exact ⟨rfl, rfl⟩
set_option maxHeartbeats 400000 in
theorem long_any (s : ByteArray) (w : World) (hs : s.size ≤ 140737488351232) :
    Calls Tryd.prog 23 #[.string s] w fun e w' => e = .returned (.string (⟨(Um.uv s.size).toArray⟩ ++ s)) ∧ Below w.heap.size w w' := by
  have hl := Um.uv_ten (n := s.size) (by omega)
  go_enter Tryd.func23, Tryd.ntmps23
  go_wp2_with fail
  refine (seven_any s.size _ (by omega)).mono ?_
  rintro e w1 ⟨rfl, hb1⟩
  go_wp2
  go_ret
  exact ⟨rfl, hb1⟩
end Go.Proofs.YtfdcadlhapcddaaDoor
