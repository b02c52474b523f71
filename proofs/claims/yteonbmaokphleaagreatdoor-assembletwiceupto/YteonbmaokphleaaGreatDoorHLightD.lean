/-
  The law's light: not many records, not heavy.
-/
import Derived.Test.YteonbmaokphleaaGreatDoorHWeightD
import Derived.BigQuiet
namespace Go.Proofs.YteonbmaokphleaaGreatDoor
open Go.RowKit
theorem Dt.Sm.lens {d : Dt} (h : d.Sm) : d.l.length ≤ 1048576 ∧ d.f.length ≤ 1048576 := by cases h with | mk no v l f hs hl hf el ef => exact ⟨hl, hf⟩
theorem wt_mem : ∀ (ds : List Dt) (j : Nat) (h : j < ds.length), wt ds[j] ≤ wtL ds := fun ds j h => by
 have t1 := wtL_take ds j h
 have t2 := wtL_part ds (j + 1)
 omega
set_option maxRecDepth 100000 in
set_option maxHeartbeats 1600000 in
theorem light_any (ds : List Dt) (hlen : ds.length ≤ 1048576) (hwt : wtL ds ≤ 1048576) (hsm : ∀ j (h : j < ds.length), ds[j].Sm) (P : Nat → Prop) (a : Option Addr) (c : Nat) (W : World) (hl : LiesD W P a ds) :
    Calls Tryz.prog 6 #[.slice a ds.length c] W fun e w' => e = .returned (.bool (decide (ds.length ≤ 150) && decide (wtL ds ≤ 3000))) ∧ Below W.heap.size W w' := by
 have HL : Hid (LiesD W P a ds) := hl
 have HS : Hid (∀ j (h : j < ds.length), ds[j].Sm) := hsm
 have HW : Hid (wtL ds ≤ 1048576) := hwt
 clear hl hsm hwt
 go_enter Tryz.func6, Tryz.ntmps6
 go_wp2_with fail
 go_loopw [3, 4] (fun y x wr => ∃ i m : Nat, i ≤ ds.length ∧ x = .int .i64 i ∧ y = .int .i64 (m : Nat) ∧ m ≤ 1048576 ∧ Hid (m = wtL (ds.take i)) ∧ Below W.heap.size W wr) (fun _ x _ => ds.length - (intOf x).toNat)
 case atStart => exact ⟨0, 0, Nat.zero_le _, rfl, rfl, by omega, by show _ = _; simp [wtL], Below.refl _ _⟩
 case round =>
  obtain ⟨i, m, hik, rfl, rfl, hm, HM, hb⟩ := hrel
  by_cases hlt : i < ds.length
  · obtain ⟨b, o, a1, c1, a2, c2, rfl, ⟨d0, e1, d2, d3, d4, d5⟩, hl1, hl2⟩ := (HL.out.keep hb).at_ i hlt
    have hs := HS.out i hlt
    have hw1 := wt_mem ds i hlt
    have hw2 := HW.out
    have HC : Hid _ := weight_any _ ds[i] (Nat.lt_succ_self _) (by omega) hs.lens.1 hs.lens.2 hs P a1 c1 a2 c2 wr hl1 hl2
    have t1 := wtL_take ds i hlt
    have t2 := wtL_part ds (i + 1)
    have HN : Hid (m + wt ds[i] = wtL (ds.take (i + 1))) := by show _ = _; have := HM.out; omega
    have hnb : m + wt ds[i] ≤ 1048576 := by have := HN.out; omega
    clear hl1 hl2 t1 t2 hw1 hw2 hs
    go_wp2_with fail
    refine Calls.mono HC.out ?_
    rintro e w1 ⟨rfl, hb1⟩
    have hbb := hb.trans (hb1.mono hb.size)
    generalize wt ds[i] = q at *
    go_wp2
    go_roundw
    case rel => exact ⟨i + 1, m + q, by omega, by go_num, by go_num, hnb, HN, hbb⟩
    case measure => simp [intOf]; omega
  · obtain rfl : i = ds.length := by omega
    have HM2 : Hid (m = wtL ds) := by show _ = _; rw [HM.out, List.take_length]
    clear HM
    by_cases h1 : ds.length ≤ 150
    · have q1 : decide ((ds.length : Int) ≤ 150) = true := by rw [decide_eq_true_iff]; omega
      have q2 : decide (ds.length ≤ 150) = true := by rw [decide_eq_true_iff]; omega
      go_wp2
      go_ret
      refine ⟨?_, hb⟩
      rw [← HM2.out]
      simp [h1]
      omega
    · have q1 : decide ((ds.length : Int) ≤ 150) = false := by rw [decide_eq_false_iff_not]; omega
      have q2 : decide (ds.length ≤ 150) = false := by rw [decide_eq_false_iff_not]; omega
      go_wp2
      go_ret
      refine ⟨?_, hb⟩
      simp [h1]
end Go.Proofs.YteonbmaokphleaaGreatDoor
