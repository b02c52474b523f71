/-
  bitrun.Width, math/bits' Len and Len64, and the reference's WidthOf: how many bits a number takes.
  bitrun.readSame: a part of the first kind behind its head.
-/
import Derived.Test.YtalphknhkkcpgaaDoorKPackF
import Derived.Test.YtalphknhkkcpgaaDoorKLen
import Derived.Test.YtalphknhkkcpgaaDoorKUnpackF
import Derived.Test.YtalphknhkkcpgaaDoorKBMath
namespace Go.Proofs.YtalphknhkkcpgaaDoor
open Go.RowKit
set_option maxRecDepth 100000 in
set_option maxHeartbeats 800000 in
theorem widthOf_any (n : Nat) (w : World) (h1 : n < 18446744073709551616) :
    Calls Tryd.prog 72 #[.int .u64 n] w fun e w' => e = .returned (.int .i64 (Lib.bitLen n : Nat)) ∧ w' = w := by
  have hw := bitLen_64 n
  go_enter Tryd.func72, Tryd.ntmps72
  go_wp2
  go_loop [0, 3] (fun x v => ∃ m k : Nat, m < 18446744073709551616 ∧ x = .int .u64 m ∧ v = .int .i64 k ∧ Hid (k + Lib.bitLen m = Lib.bitLen n)) (fun x _ => (intOf x).toNat)
  case atStart => exact ⟨n, 0, h1, rfl, rfl, Nat.zero_add _⟩
  case round =>
    obtain ⟨m, k, hm, rfl, rfl, HK⟩ := hrel
    have hk := HK.out
    by_cases h0 : 0 < m
    · have hh := Lib.bitLen_half m (by omega) (by omega)
      have hkl : k < 64 := by omega
      have HK' : Hid (k + 1 + Lib.bitLen (m / 2) = Lib.bitLen n) := by show _ = _; omega
      clear hk hh
      go_wp2
      go_round
      case rel => exact ⟨m / 2, k + 1, by omega, by go_num, by go_num, HK'⟩
      case measure => simp [intOf]; omega
    · obtain rfl : m = 0 := by omega
      have e : Lib.bitLen 0 = 0 := rfl
      have HE : Hid (k = Lib.bitLen n) := by show _ = _; omega
      clear hk e
      go_wp2
      go_ret
      exact ⟨by rw [HE.out]; rfl, rfl⟩
set_option maxRecDepth 100000 in
theorem len_any (n : Nat) (w : World) (h1 : n < 18446744073709551616) :
    Calls Tryd.prog 109 #[.int .u64 n] w fun e w' => e = .returned (.int .i64 (Lib.bitLen n : Nat)) ∧ w' = w := by
  go_enter Tryd.func109, Tryd.ntmps109
  go_wp2_with (go_at_call 93; refine (len64_any n _ h1).mono ?_; rintro e w1 ⟨rfl, hw⟩; obtain rfl := hw.symm)
  go_ret
  exact ⟨rfl, rfl⟩
set_option maxRecDepth 100000 in
theorem width_any (n : Nat) (w : World) (h0 : 0 < n) (h1 : n < 9223372036854775808) :
    Calls Tryd.prog 85 #[.int .i64 n] w fun e w' => e = .returned (.int .i64 (Lib.bitLen n : Nat)) ∧ w' = w := by
  go_enter Tryd.func85, Tryd.ntmps85
  go_wp2_with (go_at_call 109; refine (len_any n _ (by omega)).mono ?_; rintro e w1 ⟨rfl, hw⟩; obtain rfl := hw.symm)
  go_ret
  exact ⟨rfl, rfl⟩
theorem width_none (n : Int) (w : World) (h0 : n ≤ 0) :
    Calls Tryd.prog 85 #[.int .i64 n] w fun e w' => e = .returned (.int .i64 0) ∧ w' = w := by
  go_enter Tryd.func85, Tryd.ntmps85
  go_wp2
  go_ret
  exact ⟨rfl, rfl⟩
end Go.Proofs.YtalphknhkkcpgaaDoor

namespace Go.Proofs.YtalphknhkkcpgaaDoor
open Go.RowKit
set_option linter.unusedVariables false
/-- What is read of a part: numbers and bytes, or an error. -/
def RetPart (r : Option (List Nat × Nat)) (ev : Value) (e : Ending) (w' : World) : Prop :=
  match r with
  | none => e = .returned (.tuple #[.slice none 0 0, .int .i64 0, ev])
  | some (p, u) => ∃ a c, e = .returned (.tuple #[.slice a p.length c, .int .i64 u, .nilIface]) ∧ Lies w' a (i64s (p.map fun n : Nat => (n : Int)))
theorem or3 {a b c : Bool} (h : (a || b || c) = true) : a = true ∨ (a = false ∧ b = true) ∨ (a = false ∧ b = false ∧ c = true) := by
  cases a <;> cases b <;> cases c <;> simp_all
set_option maxRecDepth 100000 in
set_option maxHeartbeats 1600000 in
theorem readSame_bad (s : ByteArray) (wd m left : Nat) (w : World) (st : TypeId) (sp : Value) (hs : s.size ≤ 1000000) (hwd : wd ≤ 32) (hm : m < 18446744073709551616) (hleft : left ≤ 20000) (hg : w.cell? ⟨0, 0, none⟩ = some (.iface st sp))
    (hbad : m = 0 ∨ (m ≠ 0 ∧ left < m) ∨ (m ≠ 0 ∧ ¬ left < m ∧ s.size < (wd + 7) / 8)) :
    Calls Tryd.prog 111 #[.string s, .int .i64 wd, .int .u64 m, .int .i64 left] w fun e w' => e = .returned (.tuple #[.slice none 0 0, .int .i64 0, .iface st sp]) ∧ Below w.heap.size w w' := by
  obtain ⟨z, HZ⟩ : ∃ z, Hid (z = (wd + 7) / 8) := ⟨_, rfl⟩
  rw [← HZ.out] at hbad
  have hbad : ((m : Int) == 0) = true ∨ (((m : Int) == 0) = false ∧ left < m) ∨ (((m : Int) == 0) = false ∧ ¬ left < m ∧ s.size < z) := by
    rcases hbad with h | ⟨h, h'⟩ | ⟨h, h', h''⟩
    · left; simp; omega
    · right; left; exact ⟨by simp; omega, h'⟩
    · right; right; exact ⟨by simp; omega, h', h''⟩
  rcases hbad with h | ⟨h, h'⟩ | ⟨h, h', h''⟩
  · go_enter Tryd.func111, Tryd.ntmps111
    go_wp2_with fail
    refine (eights_any wd _ (by omega)).mono ?_
    rw [← HZ.out]
    rintro e w2 ⟨rfl, hw⟩
    obtain rfl := hw.symm
    go_wp2_with fail
    go_region
    all_goals (try go_wp2)
    all_goals go_ret3
    all_goals exact ⟨rfl, (Below.refl _ _).drew⟩
  · go_enter Tryd.func111, Tryd.ntmps111
    go_wp2_with fail
    refine (eights_any wd _ (by omega)).mono ?_
    rw [← HZ.out]
    rintro e w2 ⟨rfl, hw⟩
    obtain rfl := hw.symm
    go_wp2_with fail
    go_region
    all_goals (try go_wp2)
    all_goals go_ret3
    all_goals exact ⟨rfl, (Below.refl _ _).drew⟩
  · go_enter Tryd.func111, Tryd.ntmps111
    go_wp2_with fail
    refine (eights_any wd _ (by omega)).mono ?_
    rw [← HZ.out]
    rintro e w2 ⟨rfl, hw⟩
    obtain rfl := hw.symm
    go_wp2_with fail
    go_region
    all_goals (try go_wp2)
    all_goals go_ret3
    all_goals exact ⟨rfl, (Below.refl _ _).drew⟩
theorem lev_first (l : List UInt8) (z : Nat) (hz : z ≤ l.length) : Um.lev l / 2 ^ (8 * z * 0) % 2 ^ (8 * z) = Um.lev (l.take z) := by
  have h := Um.lev_cut l z 0 (8 * z) hz (by omega)
  simp only [Nat.mul_zero]
  rw [← h, Nat.pow_zero, Nat.div_one, Nat.mod_eq_of_lt (Um.lev_take_lt l z hz)]
set_option maxRecDepth 100000 in
set_option maxHeartbeats 1600000 in
theorem readSame_main (s : ByteArray) (wd m left : Nat) (w : World) (st : TypeId) (sp : Value) (hs : s.size ≤ 1000000) (hwd : wd ≤ 32) (hleft : left ≤ 20000) (hg : w.cell? ⟨0, 0, none⟩ = some (.iface st sp))
    (h0 : m ≠ 0) (h1 : ¬ left < m) (h2 : ¬ s.size < (wd + 7) / 8) :
    Calls Tryd.prog 111 #[.string s, .int .i64 wd, .int .u64 m, .int .i64 left] w fun e w' => RetPart (Um.same s.data.toList wd m left) (.iface st sp) e w' ∧ Below w.heap.size w w' := by
  obtain ⟨z, HZ⟩ : ∃ z, Hid (z = (wd + 7) / 8) := ⟨_, rfl⟩
  rw [← HZ.out] at h2
  have hz4 : z ≤ 4 := by rw [HZ.out]; omega
  obtain ⟨y, HY⟩ : ∃ y, Hid (y = 8 * z) := ⟨_, rfl⟩
  have hy : (8 : Int) * (z : Int) = (y : Int) := by rw [HY.out]; simp
  have hm0 : ((m : Int) == 0) = false := by simp; omega
  have HG : Hid (w.cell? ⟨0, 0, none⟩ = some (.iface st sp)) := hg
  have hx : Um.lev s.data.toList / 2 ^ (y * 0) % 2 ^ y = Um.lev (s.data.toList.take z) := by rw [HY.out]; exact lev_first _ _ (by simp; omega)
  have hxl : Um.lev (s.data.toList.take z) < 4294967296 := Nat.lt_of_lt_of_le (Um.lev_take_lt _ z (by simp; omega)) (Nat.le_trans (Nat.pow_le_pow_right (n := 2) (by omega) (show 8 * z ≤ 32 by omega)) (by decide))
  have HSame : Hid (Um.same s.data.toList wd m left = if Um.lev (s.data.toList.take z) < 2 ^ wd then some (List.replicate m (Um.lev (s.data.toList.take z)), z) else none) := by
    show _ = _
    unfold Um.same
    rw [← HZ.out]
    by_cases hc : Um.lev (s.data.toList.take z) < 2 ^ wd
    · rw [if_pos ⟨⟨by omega, by omega⟩, by simp; omega, hc⟩, if_pos hc]
    · rw [if_neg (fun h => hc h.2.2), if_neg hc]
  have HX : Hid (Um.lev s.data.toList / 2 ^ (y * 0) % 2 ^ y = Um.lev (s.data.toList.take z)) := hx
  clear hg hx
  go_enter Tryd.func111, Tryd.ntmps111
  go_wp2_with fail
  refine (eights_any wd _ (by omega)).mono ?_
  rw [← HZ.out]
  rintro e w2 ⟨rfl, hw⟩
  obtain rfl := hw.symm
  go_wp2_with fail
  refine (unpack_any s y 1 w hs (by omega) (by rw [HY.out]; omega) (by rw [HY.out]; omega)).mono ?_
  rintro e w3 ⟨⟨rfl, hc⟩, hb3⟩
  have hc0 := hc 0 (by omega)
  rw [HX.out] at hc0
  have hg3 := (hb3.cell (World.block_lt_of_cell? w _ HG.out)).trans HG.out
  generalize Um.lev (s.data.toList.take z) = x at hc0 hxl HSame
  clear hc HX
  go_wp2_with fail
  refine (fits_any _ _ _ (by omega) (by omega) hwd).mono ?_
  by_cases hf : x < 2 ^ wd
  · have hd : decide (0 ≤ (x : Int) ∧ (x : Int) < 2 ^ wd) = true := by
      have e : ((2 ^ wd : Nat) : Int) = (2 : Int) ^ wd := by simp
      rw [decide_eq_true_iff, ← e]; omega
    have HS2 := HSame.out
    rw [if_pos hf] at HS2
    have HS3 : Hid (Um.same s.data.toList wd m left = some (List.replicate m x, z)) := HS2
    rw [hd]
    clear HS2 HSame hf hd
    rintro e w4 ⟨rfl, hw⟩
    obtain rfl := hw.symm
    obtain ⟨i0, hi, hz0, hz1, hz2⟩ := info_parts Tryd.info3
    obtain ⟨M, hM⟩ : ∃ M, M = madeCells (Value.int .i64 0).cells (((m : Nat) : Int).toNat * i0.size) := ⟨_, rfl⟩
    have hMs : M.size = m := by rw [hM, size_madeCells, hz1]; simp
    have hmk : ∀ W : World, (Instr.makeSlice 66 (.int .u64 (m : Int)) (.int .u64 (m : Int))).run Tryd.prog W = .ok (.slice (some ⟨W.heap.size, 0, none⟩) m m) (W.alloc (.cells M 3)) := fun W => by
      have h := run_make (P := Tryd.prog) W 66 3 i0 (.int .i64 0) Tryd.underlying66 hi hz0 .u64 .u64 (m : Int) (m : Int) (by omega) (by omega) (by rw [hz2]; omega) (by omega)
      rw [← hM] at h
      simpa using h
    have HR0 : Hid (GRow (fun _ => .int .i64 (x : Int)) m w3.heap.size w3 (w3.alloc (.cells M 3)) 0) := GRow.start _ m 3 w3 M hMs
    clear hM hMs hi hz0 hz1 hz2
    go_wp2_with fail
    clear hmk
    go_loopw [45] (fun c wr => ∃ i : Nat, i ≤ m ∧ c = .int .i64 i ∧ Hid (GRow (fun _ => .int .i64 (x : Int)) m w3.heap.size w3 wr i)) (fun c _ => m - (intOf c).toNat)
    case atStart => exact ⟨0, Nat.zero_le _, rfl, HR0⟩
    case round =>
      obtain ⟨i, him, rfl, HR⟩ := hrel
      by_cases hlt : i < m
      · obtain ⟨v, hv⟩ := HR.out.any i hlt
        have hfz := HR.out.froz i hlt
        go_wp2_with fail
        go_roundw
        case rel => exact ⟨i + 1, by omega, by go_num, HR.out.next (Nat.le_refl _) hlt rfl⟩
        case measure => simp [intOf]; omega
      · obtain rfl : i = m := by omega
        go_wp2_with fail
        go_ret3
        refine ⟨?_, hb3.trans (HR.out.old.mono hb3.size)⟩
        rw [HS3.out]
        refine ⟨some ⟨w3.heap.size, 0, none⟩, i, by simp, fun j hj => ⟨w3.heap.size, 0, rfl, ?_⟩⟩
        have hj' : j < i := by simpa [i64s] using hj
        rw [Nat.zero_add, HR.out.done j hj']
        simp [i64s]
  · have hd : decide (0 ≤ (x : Int) ∧ (x : Int) < 2 ^ wd) = false := by
      have e : ((2 ^ wd : Nat) : Int) = (2 : Int) ^ wd := by simp
      rw [decide_eq_false_iff_not, ← e]; omega
    have HS2 := HSame.out
    rw [if_neg hf] at HS2
    have HS3 : Hid (Um.same s.data.toList wd m left = none) := HS2
    rw [hd]
    clear HS2 HSame hf hd
    rintro e w4 ⟨rfl, hw⟩
    obtain rfl := hw.symm
    go_wp2_with fail
    go_region
    all_goals (try go_wp2_with fail)
    all_goals go_ret3
    all_goals (refine ⟨?_, hb3.drew⟩; rw [HS3.out]; rfl)
theorem readSame_any (s : ByteArray) (wd m left : Nat) (w : World) (st : TypeId) (sp : Value) (hs : s.size ≤ 1000000) (hwd : wd ≤ 32) (hm : m < 18446744073709551616) (hleft : left ≤ 20000) (hg : w.cell? ⟨0, 0, none⟩ = some (.iface st sp)) :
    Calls Tryd.prog 111 #[.string s, .int .i64 wd, .int .u64 m, .int .i64 left] w fun e w' => RetPart (Um.same s.data.toList wd m left) (.iface st sp) e w' ∧ Below w.heap.size w w' := by
  by_cases h : m = 0 ∨ (m ≠ 0 ∧ left < m) ∨ (m ≠ 0 ∧ ¬ left < m ∧ s.size < (wd + 7) / 8)
  · have e : Um.same s.data.toList wd m left = none := by
      unfold Um.same
      rw [if_neg]
      intro hc
      have : s.data.toList.length = s.size := by simp
      omega
    rw [e]
    exact readSame_bad s wd m left w st sp hs hwd hm hleft hg h
  · exact readSame_main s wd m left w st sp hs hwd hleft hg (by omega) (by omega) (by omega)
end Go.Proofs.YtalphknhkkcpgaaDoor
