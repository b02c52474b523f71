/-
  The reference's text of a schema: exact.
-/
import Derived.Test.YtopagfjimbdbdaaGreatDoorPBSErr
import Derived.Test.YtopagfjimbdbdaaGreatDoorPBBase
namespace Go.Proofs.YtopagfjimbdbdaaGreatDoor
open Go.RowKit
set_option maxRecDepth 100000 in
set_option maxHeartbeats 1600000 in
theorem repWord_any (r : Int) (h : 1 ≤ r ∧ r ≤ 3) (W : World) : Calls Tryz.prog 42 #[.int .i64 r] W fun e w' => e = .returned (.string ⟨(repB r).toArray⟩) ∧ w' = W := by
  have : r = 1 ∨ r = 2 ∨ r = 3 := by omega
  rcases this with rfl | rfl | rfl
  all_goals
    go_enter Tryz.func42, Tryz.ntmps42
    go_wp2
    go_ret
    exact ⟨rfl, rfl⟩
set_option maxRecDepth 100000 in
set_option maxHeartbeats 1600000 in
theorem kindWord_any (k : Int) (h : 0 ≤ k ∧ k ≤ 5) (W : World) : Calls Tryz.prog 43 #[.int .i64 k] W fun e w' => e = .returned (.string ⟨(kindB k).toArray⟩) ∧ w' = W := by
  have : k = 0 ∨ k = 1 ∨ k = 2 ∨ k = 3 ∨ k = 4 ∨ k = 5 := by omega
  rcases this with rfl | rfl | rfl | rfl | rfl | rfl
  all_goals
    go_enter Tryz.func43, Tryz.ntmps43
    go_wp2
    go_ret
    exact ⟨rfl, rfl⟩
set_option maxRecDepth 100000 in
set_option maxHeartbeats 1600000 in
theorem below_any : ∀ (n u : Nat), u < n → u ≤ 1000000 → ∀ (z : Int), z = -(u : Int) → ∀ W : World, Calls Tryz.prog 59 #[.int .i64 z] W fun e w' => e = .returned (.string ⟨(Lib.decDigits u).toArray⟩) ∧ Below W.heap.size W w'
  | 0, u, h => absurd h (Nat.not_lt_zero _)
  | n + 1, u, hu => fun hm z hz W => by
    by_cases h10 : u < 10
    · have HD : Hid (Lib.decDigits u = [UInt8.ofNat (48 + u)]) := Lib.decDigits_one h10
      have HC : Hid _ := byte_any (48 - z) W (by omega) (by omega)
      have HE : Hid (Um.bt (48 - z) = UInt8.ofNat (48 + u)) := (by show _ = _; rw [Um.bt, show (48 - z).toNat = 48 + u by omega])
      have q1 : decide (-10 < z) = true := by simp; omega
      have q2 : z ≤ 0 := by omega
      have q3 : -10 < z := by omega
      clear hz
      go_enter Tryz.func59, Tryz.ntmps59
      go_wp2_with fail
      obtain ⟨x0, HX0⟩ := hid_name (⟨#[UInt8.ofNat (48 + u)]⟩ : ByteArray)
      refine Calls.mono HC.out ?_
      rw [HE.out, HX0.out]
      rintro e w1 ⟨rfl, hb⟩
      have HB : Hid _ := hb
      clear hb
      go_wp2
      go_ret
      exact ⟨by rw [HD.out, ← HX0.out]; rfl, HB.out⟩
    · have HD : Hid (Lib.decDigits u = Lib.decDigits (u / 10) ++ [UInt8.ofNat (48 + u % 10)]) := (by show _ = _; rw [Lib.decDigits, dif_neg h10])
      have ht : z.tdiv 10 = -((u / 10 : Nat) : Int) := by rw [hz, Int.neg_tdiv]; congr 1
      have hr : z.tmod 10 = -((u % 10 : Nat) : Int) := by rw [hz, Int.neg_tmod]; congr 1
      have HIH : Hid (Calls Tryz.prog 59 #[.int .i64 (z.tdiv 10)] W fun e w' => e = .returned (.string ⟨(Lib.decDigits (u / 10)).toArray⟩) ∧ Below W.heap.size W w') := below_any n (u / 10) (by omega) (by omega) (z.tdiv 10) ht W
      have HC : Hid (∀ w, Calls Tryz.prog 71 #[.int .i64 (48 - z.tmod 10)] w fun e w' => e = .returned (.string ⟨#[UInt8.ofNat (48 + u % 10)]⟩) ∧ Below w.heap.size w w') := fun w => (by
        have h := byte_any (48 - z.tmod 10) w (by omega) (by omega)
        rw [Um.bt, show (48 - z.tmod 10).toNat = 48 + u % 10 by omega] at h
        exact h)
      have q1 : decide (-10 < z) = false := by simp; omega
      have q2 : z ≤ -10 := by omega
      have q4 : -1000000 ≤ z := by omega
      have q5 : -9 ≤ z.tmod 10 := by omega
      have q6 : z.tmod 10 ≤ 0 := by omega
      obtain ⟨zd, HZd⟩ := hid_name (z.tdiv 10)
      obtain ⟨zr, HZr⟩ := hid_name (z.tmod 10)
      have q7 : -1000000 ≤ zd := by rw [← HZd.out]; omega
      have q8 : zd ≤ 0 := by rw [← HZd.out]; omega
      rw [HZr.out] at q5 q6 HC
      rw [HZd.out] at HIH
      have hzd : z.tdiv 10 = zd := HZd.out
      have hzr : z.tmod 10 = zr := HZr.out
      clear hz ht hr
      obtain ⟨x1, HX1⟩ := hid_name (⟨(Lib.decDigits (u / 10)).toArray⟩ : ByteArray)
      obtain ⟨x2, HX2⟩ := hid_name (⟨#[UInt8.ofNat (48 + u % 10)]⟩ : ByteArray)
      obtain ⟨x3, HX3⟩ := hid_name (⟨(Lib.decDigits (u / 10) ++ [UInt8.ofNat (48 + u % 10)]).toArray⟩ : ByteArray)
      have hc : ∀ W : World, (Op.stringOp .add x1 x2).run Tryz.prog W = .ok (.string x3) W := fun W => by
        rw [← HX1.out, ← HX2.out, ← HX3.out]
        exact cat_l (Lib.decDigits (u / 10)) [UInt8.ofNat (48 + u % 10)] (by
          have : (Lib.decDigits (u / 10)).length ≤ 100 := by
            rw [Lib.decDigits_length]
            have hp : ∀ k, Lib.nDigits k ≤ k + 1 := fun k => by
              induction k using Nat.strongRecOn with
              | ind k ih =>
                by_cases hk : k < 10
                · rw [Lib.nDigits_small hk]; omega
                · rw [Lib.nDigits_big hk]
                  have := ih (k / 10) (by omega)
                  omega
            have h1 := hp (u / 10 / 10 / 10 / 10 / 10)
            by_cases a1 : u / 10 < 10
            · rw [Lib.nDigits_small a1]; omega
            · rw [Lib.nDigits_big a1]
              by_cases a2 : u / 10 / 10 < 10
              · rw [Lib.nDigits_small a2]; omega
              · rw [Lib.nDigits_big a2]
                by_cases a3 : u / 10 / 10 / 10 < 10
                · rw [Lib.nDigits_small a3]; omega
                · rw [Lib.nDigits_big a3]
                  by_cases a4 : u / 10 / 10 / 10 / 10 < 10
                  · rw [Lib.nDigits_small a4]; omega
                  · rw [Lib.nDigits_big a4]
                    omega
          simp only [List.length_cons, List.length_nil]
          omega) W
      rw [HX1.out] at HIH
      rw [HX2.out] at HC
      go_enter Tryz.func59, Tryz.ntmps59
      go_wp2_with fail
      refine Calls.mono HIH.out ?_
      rintro e w1 ⟨rfl, hb1⟩
      have HB1 : Hid (Below W.heap.size W w1) := hb1
      clear hb1
      go_wp2_with fail
      refine Calls.mono (HC.out w1) ?_
      rintro e w2 ⟨rfl, hb2⟩
      have HB2 : Hid (Below W.heap.size W w2) := HB1.out.trans (hb2.mono HB1.out.size)
      clear hb2
      go_wp2
      go_ret
      exact ⟨by rw [HD.out, HX3.out]; rfl, HB2.out⟩
set_option maxRecDepth 100000 in
set_option maxHeartbeats 1600000 in
theorem decimal_any (id : Int) (hi : 1 ≤ id ∧ id ≤ 1000) (W : World) : Calls Tryz.prog 44 #[.int .i64 id] W fun e w' => e = .returned (.string ⟨(Lib.itoa id).toArray⟩) ∧ Below W.heap.size W w' := by
  have HC : Hid (Calls Tryz.prog 59 #[.int .i64 (-id)] W fun e w' => e = .returned (.string ⟨(Lib.decDigits id.toNat).toArray⟩) ∧ Below W.heap.size W w') := below_any _ id.toNat (Nat.lt_succ_self _) (by omega) (-id) (by omega) W
  have HE : Hid (Lib.itoa id = Lib.decDigits id.toNat) := (by show _ = _; unfold Lib.itoa; rw [if_neg (by omega)])
  obtain ⟨x1, HX1⟩ := hid_name (⟨(Lib.decDigits id.toNat).toArray⟩ : ByteArray)
  rw [HX1.out] at HC
  have q1 : decide (id < 0) = false := by simp; omega
  go_enter Tryz.func44, Tryz.ntmps44
  go_wp2_with fail
  refine Calls.mono HC.out ?_
  rintro e w1 ⟨rfl, hb1⟩
  have HB1 : Hid _ := hb1
  clear hb1
  go_wp2
  go_ret
  exact ⟨by rw [HE.out, HX1.out]; rfl, HB1.out⟩
end Go.Proofs.YtopagfjimbdbdaaGreatDoor
