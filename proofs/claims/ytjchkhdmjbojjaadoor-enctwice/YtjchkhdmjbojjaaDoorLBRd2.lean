/-
  wire.ReadVarint, wire.Text and wire.ReadText: what they answer, by cases, for every text.
  wire.ReadText's refusals.
-/
import Derived.Test.YtjchkhdmjbojjaaDoorLRd
import Derived.Test.YtjchkhdmjbojjaaDoorLClone
import Derived.Test.YtjchkhdmjbojjaaDoorLBMath
import Derived.Laws.DeepNot64
import Derived.RegionTactic
namespace Go.Proofs.YtjchkhdmjbojjaaDoor
open Go.RowKit
theorem readU_hit (s : ByteArray) (w : World) (ev : Value) (n k : Nat) (hs : s.size ≤ maxLen) (hg : w.cell? ⟨0, 0, none⟩ = some ev) (hr : Um.rdv s.data.toList 0 0 = (n, k)) (hk : 0 < k) :
    Calls Tryd.prog 84 #[.string s] w fun e w' => e = .returned (.tuple #[.int .u64 n, .int .i64 k, .nilIface]) ∧ Below w.heap.size w w' := by
  refine (readUvarint_any s w ev hs hg).mono ?_
  rintro e w' ⟨rfl, hb⟩
  rw [hr]
  exact ⟨by simp [errOf]; omega, hb⟩
theorem readU_miss (s : ByteArray) (w : World) (ev : Value) (hs : s.size ≤ maxLen) (hg : w.cell? ⟨0, 0, none⟩ = some ev) (hr : Um.rdv s.data.toList 0 0 = (0, 0)) :
    Calls Tryd.prog 84 #[.string s] w fun e w' => e = .returned (.tuple #[.int .u64 0, .int .i64 0, ev]) ∧ Below w.heap.size w w' := by
  refine (readUvarint_any s w ev hs hg).mono ?_
  rintro e w' ⟨rfl, hb⟩
  rw [hr]
  exact ⟨by simp [errOf], hb⟩
theorem and1_u64 (n : Nat) (h : n < 18446744073709551616) : bits .and .u64 (n : Int) 1 = ((n % 2 : Nat) : Int) := by
  have := u64_and_nat n 1 h (by omega)
  rw [Nat.and_one_is_mod] at this
  exact this
theorem ret_v {a b : Int} {c : Int} {x : Value} (h : a = b) : Ending.returned (.tuple #[.int .i64 a, .int .i64 c, x]) = .returned (.tuple #[.int .i64 b, .int .i64 c, x]) := by rw [h]
set_option maxHeartbeats 400000 in
theorem readV_hit (s : ByteArray) (w : World) (ev : Value) (n k : Nat) (hs : s.size ≤ maxLen) (hg : w.cell? ⟨0, 0, none⟩ = some ev) (hr : Um.rdv s.data.toList 0 0 = (n, k)) (hk : 0 < k) :
    Calls Tryd.prog 94 #[.string s] w fun e w' => e = .returned (.tuple #[.int .i64 (unz n), .int .i64 k, .nilIface]) ∧ Below w.heap.size w w' := by
  have hn : n < 18446744073709551616 := by have := (Um.rdv_room s.data.toList 0 0 (by simp)).1; rw [hr] at this; exact this
  have ha := and1_u64 n hn
  have HR : Hid (Um.rdv s.data.toList 0 0 = (n, k)) := hr
  clear hr
  by_cases ho : n % 2 = 1
  · have hd : (((n : Int) % 2) == 1) = true := by simp; omega
    have hx : bits .xor .i64 (-1) ((n : Int) / 2) = -1 - ((n / 2 : Nat) : Int) := i64_not (n / 2) (by omega)
    go_enter Tryd.func94, Tryd.ntmps94
    go_wp2_with fail
    refine (readU_hit s _ ev n k hs hg HR.out hk).mono ?_
    rintro e w1 ⟨rfl, hb1⟩
    go_wp2
    go_ret3
    exact ⟨ret_v (by unfold unz; rw [if_pos ho]; omega), hb1⟩
  · have hd : (((n : Int) % 2) == 1) = false := by simp; omega
    go_enter Tryd.func94, Tryd.ntmps94
    go_wp2_with fail
    refine (readU_hit s _ ev n k hs hg HR.out hk).mono ?_
    rintro e w1 ⟨rfl, hb1⟩
    go_wp2
    go_ret3
    exact ⟨ret_v (by unfold unz; rw [if_neg ho]; omega), hb1⟩
set_option maxHeartbeats 400000 in
theorem readV_miss (s : ByteArray) (w : World) (t : TypeId) (x : Value) (hs : s.size ≤ maxLen) (hg : w.cell? ⟨0, 0, none⟩ = some (.iface t x)) (hr : Um.rdv s.data.toList 0 0 = (0, 0)) :
    Calls Tryd.prog 94 #[.string s] w fun e w' => e = .returned (.tuple #[.int .i64 0, .int .i64 0, .iface t x]) ∧ Below w.heap.size w w' := by
  have HR : Hid (Um.rdv s.data.toList 0 0 = (0, 0)) := hr
  clear hr
  go_enter Tryd.func94, Tryd.ntmps94
  go_wp2_with fail
  refine (readU_miss s _ (.iface t x) hs hg HR.out).mono ?_
  rintro e w1 ⟨rfl, hb1⟩
  go_wp2
  go_ret3
  exact ⟨rfl, hb1⟩
set_option maxHeartbeats 400000 in
theorem text_any (s : ByteArray) (w : World) (hs : s.size ≤ 140737488351232) :
    Calls Tryd.prog 29 #[.string s] w fun e w' => e = .returned (.string (⟨(Um.uv s.size).toArray⟩ ++ s)) ∧ Below w.heap.size w w' := by
  have hl := Um.uv_ten (n := s.size) (by omega)
  go_enter Tryd.func29, Tryd.ntmps29
  go_wp2_with fail
  refine (uvarint_any s.size _ (by omega)).mono ?_
  rintro e w1 ⟨rfl, hb1⟩
  go_wp2
  go_ret
  exact ⟨rfl, hb1⟩
set_option maxHeartbeats 400000 in
theorem readT_hit (s : ByteArray) (w : World) (ev : Value) (n k : Nat) (hs : s.size ≤ 140737488351232) (hg : w.cell? ⟨0, 0, none⟩ = some ev) (hr : Um.rdv s.data.toList 0 0 = (n, k)) (hk : 0 < k) (hn : n ≤ 200000) (hf : k + n ≤ s.size) :
    Calls Tryd.prog 81 #[.string s] w fun e w' => e = .returned (.tuple #[.string (s.extract k (k + n)), .int .i64 ((k : Int) + n), .nilIface]) ∧ Below w.heap.size w w' := by
  have HR : Hid (Um.rdv s.data.toList 0 0 = (n, k)) := hr
  clear hr
  have hd1 : decide (200000 < (n : Int)) = false := by simp; omega
  have hd2 : decide ((s.size : Int) - (k : Int) < (n : Int)) = false := by simp; omega
  have hsz : (s.extract k (k + n)).size ≤ 281474976710656 := by rw [ByteArray.size_extract]; omega
  go_enter Tryd.func81, Tryd.ntmps81
  go_wp2_with fail
  refine (readU_hit s _ ev n k (by unfold maxLen; omega) hg HR.out hk).mono ?_
  rintro e w1 ⟨rfl, hb1⟩
  go_wp2_with fail
  refine (clone_any _ _ hsz).mono ?_
  rintro e w2 ⟨rfl, hb2⟩
  go_wp2
  go_ret3
  exact ⟨rfl, hb1.trans (hb2.mono hb1.size)⟩
end Go.Proofs.YtjchkhdmjbojjaaDoor

namespace Go.Proofs.YtjchkhdmjbojjaaDoor
open Go.RowKit
set_option maxHeartbeats 800000 in
theorem readT_none (s : ByteArray) (w : World) (t : TypeId) (x : Value) (hs : s.size ≤ maxLen) (hg : w.cell? ⟨0, 0, none⟩ = some (.iface t x)) (hr : Um.rdv s.data.toList 0 0 = (0, 0)) :
    Calls Tryd.prog 81 #[.string s] w fun e w' => e = .returned (.tuple #[.string ⟨#[]⟩, .int .i64 0, .iface t x]) ∧ Below w.heap.size w w' := by
  have HR : Hid (Um.rdv s.data.toList 0 0 = (0, 0)) := hr
  clear hr
  go_enter Tryd.func81, Tryd.ntmps81
  go_wp2_with fail
  refine (readU_miss s _ (.iface t x) hs hg HR.out).mono ?_
  rintro e w1 ⟨rfl, hb1⟩
  go_wp2
  go_ret3
  exact ⟨rfl, hb1⟩
set_option maxHeartbeats 800000 in
theorem readT_long (s : ByteArray) (w : World) (ev : Value) (n k : Nat) (hs : s.size ≤ 1000000) (hg : w.cell? ⟨0, 0, none⟩ = some ev) (hr : Um.rdv s.data.toList 0 0 = (n, k)) (hk : 0 < k) (hf : s.size < k + n ∨ 200000 < n) :
    Calls Tryd.prog 81 #[.string s] w fun e w' => e = .returned (.tuple #[.string ⟨#[]⟩, .int .i64 0, ev]) ∧ Below w.heap.size w w' := by
  have hm : s.size ≤ maxLen := by unfold maxLen; omega
  have hk10 : k ≤ 10 := by have := (Um.rdv_room s.data.toList 0 0 (by simp)).2.1; rw [hr] at this; exact this
  have hkl : k ≤ s.size := by have := (Um.rdv_room s.data.toList 0 0 (by simp)).2.2; rw [hr] at this; simpa using this
  have HR : Hid (Um.rdv s.data.toList 0 0 = (n, k)) := hr
  clear hr
  by_cases hn : n ≤ 200000
  · have hd1 : decide (200000 < (n : Int)) = false := by simp; omega
    have hd2 : decide ((s.size : Int) - (k : Int) < (n : Int)) = true := by simp; omega
    go_enter Tryd.func81, Tryd.ntmps81
    go_wp2_with fail
    refine (readU_hit s _ ev n k hm hg HR.out hk).mono ?_
    rintro e w1 ⟨rfl, hb1⟩
    have hg1 := (hb1.cell (World.block_lt_of_cell? w _ hg)).trans hg
    go_wp2
    go_region
    all_goals (try go_wp2)
    all_goals go_ret3
    all_goals exact ⟨rfl, hb1.drew⟩
  · have hd1 : decide (200000 < (n : Int)) = true := by simp; omega
    go_enter Tryd.func81, Tryd.ntmps81
    go_wp2_with fail
    refine (readU_hit s _ ev n k hm hg HR.out hk).mono ?_
    rintro e w1 ⟨rfl, hb1⟩
    have hg1 := (hb1.cell (World.block_lt_of_cell? w _ hg)).trans hg
    go_wp2
    go_region
    all_goals (try go_wp2)
    all_goals go_ret3
    all_goals exact ⟨rfl, hb1.drew⟩
end Go.Proofs.YtjchkhdmjbojjaaDoor
