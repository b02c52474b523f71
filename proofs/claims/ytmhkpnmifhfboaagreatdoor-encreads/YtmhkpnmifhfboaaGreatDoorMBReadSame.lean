/-
  bitrun.readSame: a part of the first kind behind its head.
  bitrun.readGroups: a part of the second kind behind its head.
  bitrun.readPart: a part of whatever kind.
  bitrun.ReadRuns: what it answers.
-/
import Derived.Test.YtmhkpnmifhfboaaGreatDoorMBUnpackF
import Derived.Test.YtmhkpnmifhfboaaGreatDoorMBMath
import Derived.Test.YtmhkpnmifhfboaaGreatDoorMBRd
namespace Go.Proofs.YtmhkpnmifhfboaaGreatDoor
open Go.RowKit
set_option linter.unusedVariables false
/-- What is read of a part: numbers and bytes, or an error. -/
def RetPart (r : Option (List Nat × Nat)) (ev : Value) (e : Ending) (w' : World) : Prop :=
  match r with
  | none => e = .returned (.tuple #[.slice none 0 0, .int .i64 0, ev])
  | some (p, u) => ∃ a c, e = .returned (.tuple #[.slice a p.length c, .int .i64 u, .nilIface]) ∧ Lies w' a (i64s (p.map fun n : Nat => (n : Int)))
theorem or3 {a b c : Bool} (h : (a || b || c) = true) : a = true ∨ (a = false ∧ b = true) ∨ (a = false ∧ b = false ∧ c = true) := by
  cases a <;> cases b <;> cases c <;> simp_all
set_option maxRecDepth 100000 in
set_option maxHeartbeats 1600000 in
theorem readSame_bad (s : ByteArray) (wd m left : Nat) (w : World) (st : TypeId) (sp : Value) (hs : s.size ≤ 1000000) (hwd : wd ≤ 32) (hm : m < 18446744073709551616) (hleft : left ≤ 20000) (hg : w.cell? ⟨3, 0, none⟩ = some (.iface st sp))
    (hbad : m = 0 ∨ (m ≠ 0 ∧ left < m) ∨ (m ≠ 0 ∧ ¬ left < m ∧ s.size < (wd + 7) / 8)) :
    Calls Tryz.prog 97 #[.string s, .int .i64 wd, .int .u64 m, .int .i64 left] w fun e w' => e = .returned (.tuple #[.slice none 0 0, .int .i64 0, .iface st sp]) ∧ Below w.heap.size w w' := by
  obtain ⟨z, HZ⟩ : ∃ z, Hid (z = (wd + 7) / 8) := ⟨_, rfl⟩
  rw [← HZ.out] at hbad
  have hbad : ((m : Int) == 0) = true ∨ (((m : Int) == 0) = false ∧ left < m) ∨ (((m : Int) == 0) = false ∧ ¬ left < m ∧ s.size < z) := by
    rcases hbad with h | ⟨h, h'⟩ | ⟨h, h', h''⟩
    · left; simp; omega
    · right; left; exact ⟨by simp; omega, h'⟩
    · right; right; exact ⟨by simp; omega, h', h''⟩
  rcases hbad with h | ⟨h, h'⟩ | ⟨h, h', h''⟩
  · go_enter Tryz.func97, Tryz.ntmps97
    go_wp2_with fail
    refine (eights_any wd _ (by omega)).mono ?_
    rw [← HZ.out]
    rintro e w2 ⟨rfl, hw⟩
    obtain rfl := hw.symm
    go_wp2_with fail
    go_region
    all_goals (try go_wp2)
    all_goals go_ret3
    all_goals exact ⟨rfl, (Below.refl _ _).drew⟩
  · go_enter Tryz.func97, Tryz.ntmps97
    go_wp2_with fail
    refine (eights_any wd _ (by omega)).mono ?_
    rw [← HZ.out]
    rintro e w2 ⟨rfl, hw⟩
    obtain rfl := hw.symm
    go_wp2_with fail
    go_region
    all_goals (try go_wp2)
    all_goals go_ret3
    all_goals exact ⟨rfl, (Below.refl _ _).drew⟩
  · go_enter Tryz.func97, Tryz.ntmps97
    go_wp2_with fail
    refine (eights_any wd _ (by omega)).mono ?_
    rw [← HZ.out]
    rintro e w2 ⟨rfl, hw⟩
    obtain rfl := hw.symm
    go_wp2_with fail
    go_region
    all_goals (try go_wp2)
    all_goals go_ret3
    all_goals exact ⟨rfl, (Below.refl _ _).drew⟩
theorem lev_first (l : List UInt8) (z : Nat) (hz : z ≤ l.length) : Um.lev l / 2 ^ (8 * z * 0) % 2 ^ (8 * z) = Um.lev (l.take z) := by
  have h := Um.lev_cut l z 0 (8 * z) hz (by omega)
  simp only [Nat.mul_zero]
  rw [← h, Nat.pow_zero, Nat.div_one, Nat.mod_eq_of_lt (Um.lev_take_lt l z hz)]
set_option maxRecDepth 100000 in
set_option maxHeartbeats 1600000 in
theorem readSame_main (s : ByteArray) (wd m left : Nat) (w : World) (st : TypeId) (sp : Value) (hs : s.size ≤ 1000000) (hwd : wd ≤ 32) (hleft : left ≤ 20000) (hg : w.cell? ⟨3, 0, none⟩ = some (.iface st sp))
    (h0 : m ≠ 0) (h1 : ¬ left < m) (h2 : ¬ s.size < (wd + 7) / 8) :
    Calls Tryz.prog 97 #[.string s, .int .i64 wd, .int .u64 m, .int .i64 left] w fun e w' => RetPart (Um.same s.data.toList wd m left) (.iface st sp) e w' ∧ Below w.heap.size w w' := by
  obtain ⟨z, HZ⟩ : ∃ z, Hid (z = (wd + 7) / 8) := ⟨_, rfl⟩
  rw [← HZ.out] at h2
  have hz4 : z ≤ 4 := by rw [HZ.out]; omega
  obtain ⟨y, HY⟩ : ∃ y, Hid (y = 8 * z) := ⟨_, rfl⟩
  have hy : (8 : Int) * (z : Int) = (y : Int) := by rw [HY.out]; simp
  have hm0 : ((m : Int) == 0) = false := by simp; omega
  have HG : Hid (w.cell? ⟨3, 0, none⟩ = some (.iface st sp)) := hg
  have hx : Um.lev s.data.toList / 2 ^ (y * 0) % 2 ^ y = Um.lev (s.data.toList.take z) := by rw [HY.out]; exact lev_first _ _ (by simp; omega)
  have hxl : Um.lev (s.data.toList.take z) < 4294967296 := Nat.lt_of_lt_of_le (Um.lev_take_lt _ z (by simp; omega)) (Nat.le_trans (Nat.pow_le_pow_right (n := 2) (by omega) (show 8 * z ≤ 32 by omega)) (by decide))
  have HSame : Hid (Um.same s.data.toList wd m left = if Um.lev (s.data.toList.take z) < 2 ^ wd then some (List.replicate m (Um.lev (s.data.toList.take z)), z) else none) := by
    show _ = _
    unfold Um.same
    rw [← HZ.out]
    by_cases hc : Um.lev (s.data.toList.take z) < 2 ^ wd
    · rw [if_pos ⟨⟨by omega, by omega⟩, by simp; omega, hc⟩, if_pos hc]
    · rw [if_neg (fun h => hc h.2.2), if_neg hc]
  have HX : Hid (Um.lev s.data.toList / 2 ^ (y * 0) % 2 ^ y = Um.lev (s.data.toList.take z)) := hx
  clear hg hx
  go_enter Tryz.func97, Tryz.ntmps97
  go_wp2_with fail
  refine (eights_any wd _ (by omega)).mono ?_
  rw [← HZ.out]
  rintro e w2 ⟨rfl, hw⟩
  obtain rfl := hw.symm
  go_wp2_with fail
  refine (unpack_any s y 1 w hs (by omega) (by rw [HY.out]; omega) (by rw [HY.out]; omega)).mono ?_
  rintro e w3 ⟨⟨rfl, hc⟩, hb3⟩
  have hc0 := hc 0 (by omega)
  rw [HX.out] at hc0
  have hg3 := (hb3.cell (World.block_lt_of_cell? w _ HG.out)).trans HG.out
  generalize Um.lev (s.data.toList.take z) = x at hc0 hxl HSame
  clear hc HX
  go_wp2_with fail
  refine (fits_any _ _ _ (by omega) (by omega) hwd).mono ?_
  by_cases hf : x < 2 ^ wd
  · have hd : decide (0 ≤ (x : Int) ∧ (x : Int) < 2 ^ wd) = true := by
      have e : ((2 ^ wd : Nat) : Int) = (2 : Int) ^ wd := by simp
      rw [decide_eq_true_iff, ← e]; omega
    have HS2 := HSame.out
    rw [if_pos hf] at HS2
    have HS3 : Hid (Um.same s.data.toList wd m left = some (List.replicate m x, z)) := HS2
    rw [hd]
    clear HS2 HSame hf hd
    rintro e w4 ⟨rfl, hw⟩
    obtain rfl := hw.symm
    obtain ⟨i0, hi, hz0, hz1, hz2⟩ := info_parts Tryz.info3
    obtain ⟨M, hM⟩ : ∃ M, M = madeCells (Value.int .i64 0).cells (((m : Nat) : Int).toNat * i0.size) := ⟨_, rfl⟩
    have hMs : M.size = m := by rw [hM, size_madeCells, hz1]; simp
    have hmk : ∀ W : World, (Instr.makeSlice 61 (.int .u64 (m : Int)) (.int .u64 (m : Int))).run Tryz.prog W = .ok (.slice (some ⟨W.heap.size, 0, none⟩) m m) (W.alloc (.cells M 3)) := fun W => by
      have h := run_make (P := Tryz.prog) W 61 3 i0 (.int .i64 0) Tryz.underlying61 hi hz0 .u64 .u64 (m : Int) (m : Int) (by omega) (by omega) (by rw [hz2]; omega) (by omega)
      rw [← hM] at h
      simpa using h
    have HR0 : Hid (GRow (fun _ => .int .i64 (x : Int)) m w3.heap.size w3 (w3.alloc (.cells M 3)) 0) := GRow.start _ m 3 w3 M hMs
    clear hM hMs hi hz0 hz1 hz2
    go_wp2_with fail
    clear hmk
    go_loopw [45] (fun c wr => ∃ i : Nat, i ≤ m ∧ c = .int .i64 i ∧ Hid (GRow (fun _ => .int .i64 (x : Int)) m w3.heap.size w3 wr i)) (fun c _ => m - (intOf c).toNat)
    case atStart => exact ⟨0, Nat.zero_le _, rfl, HR0⟩
    case round =>
      obtain ⟨i, him, rfl, HR⟩ := hrel
      by_cases hlt : i < m
      · obtain ⟨v, hv⟩ := HR.out.any i hlt
        have hfz := HR.out.froz i hlt
        go_wp2_with fail
        go_roundw
        case rel => exact ⟨i + 1, by omega, by go_num, HR.out.next (Nat.le_refl _) hlt rfl⟩
        case measure => simp [intOf]; omega
      · obtain rfl : i = m := by omega
        go_wp2_with fail
        go_ret3
        refine ⟨?_, hb3.trans (HR.out.old.mono hb3.size)⟩
        rw [HS3.out]
        refine ⟨some ⟨w3.heap.size, 0, none⟩, i, by simp, fun j hj => ⟨w3.heap.size, 0, rfl, ?_⟩⟩
        have hj' : j < i := by simpa [i64s] using hj
        rw [Nat.zero_add, HR.out.done j hj']
        simp [i64s]
  · have hd : decide (0 ≤ (x : Int) ∧ (x : Int) < 2 ^ wd) = false := by
      have e : ((2 ^ wd : Nat) : Int) = (2 : Int) ^ wd := by simp
      rw [decide_eq_false_iff_not, ← e]; omega
    have HS2 := HSame.out
    rw [if_neg hf] at HS2
    have HS3 : Hid (Um.same s.data.toList wd m left = none) := HS2
    rw [hd]
    clear HS2 HSame hf hd
    rintro e w4 ⟨rfl, hw⟩
    obtain rfl := hw.symm
    go_wp2_with fail
    go_region
    all_goals (try go_wp2_with fail)
    all_goals go_ret3
    all_goals (refine ⟨?_, hb3.drew⟩; rw [HS3.out]; rfl)
theorem readSame_any (s : ByteArray) (wd m left : Nat) (w : World) (st : TypeId) (sp : Value) (hs : s.size ≤ 1000000) (hwd : wd ≤ 32) (hm : m < 18446744073709551616) (hleft : left ≤ 20000) (hg : w.cell? ⟨3, 0, none⟩ = some (.iface st sp)) :
    Calls Tryz.prog 97 #[.string s, .int .i64 wd, .int .u64 m, .int .i64 left] w fun e w' => RetPart (Um.same s.data.toList wd m left) (.iface st sp) e w' ∧ Below w.heap.size w w' := by
  by_cases h : m = 0 ∨ (m ≠ 0 ∧ left < m) ∨ (m ≠ 0 ∧ ¬ left < m ∧ s.size < (wd + 7) / 8)
  · have e : Um.same s.data.toList wd m left = none := by
      unfold Um.same
      rw [if_neg]
      intro hc
      have : s.data.toList.length = s.size := by simp
      omega
    rw [e]
    exact readSame_bad s wd m left w st sp hs hwd hm hleft hg h
  · exact readSame_main s wd m left w st sp hs hwd hleft hg (by omega) (by omega) (by omega)
end Go.Proofs.YtmhkpnmifhfboaaGreatDoor

namespace Go.Proofs.YtmhkpnmifhfboaaGreatDoor
open Go.RowKit
set_option linter.unusedVariables false
set_option maxRecDepth 100000 in
set_option maxHeartbeats 1600000 in
theorem readGroups_bad (s : ByteArray) (wd m left : Nat) (w : World) (st : TypeId) (sp : Value) (hs : s.size ≤ 1000000) (hwd : wd ≤ 32) (hm : m < 18446744073709551616) (hleft : left ≤ 20000) (hg : w.cell? ⟨3, 0, none⟩ = some (.iface st sp))
    (hbad : m = 0 ∨ (m ≠ 0 ∧ (left + 7) / 8 < m) ∨ (m ≠ 0 ∧ ¬ (left + 7) / 8 < m ∧ s.size < m * wd)) :
    Calls Tryz.prog 98 #[.string s, .int .i64 wd, .int .u64 m, .int .i64 left] w fun e w' => e = .returned (.tuple #[.slice none 0 0, .int .i64 0, .iface st sp]) ∧ Below w.heap.size w w' := by
  obtain ⟨z, HZ⟩ : ∃ z, Hid (z = (left + 7) / 8) := ⟨_, rfl⟩
  have hz : z ≤ 2500 := by rw [HZ.out]; omega
  rw [← HZ.out] at hbad
  obtain ⟨y, HY⟩ : ∃ y, Hid (y = m * wd) := ⟨_, rfl⟩
  have hy : (m : Int) * (wd : Int) = (y : Int) := by rw [HY.out]; simp
  rw [← HY.out] at hbad
  have hbad : ((m : Int) == 0) = true ∨ (((m : Int) == 0) = false ∧ z < m) ∨ (((m : Int) == 0) = false ∧ ¬ z < m ∧ s.size < y) := by
    rcases hbad with h | ⟨h, h'⟩ | ⟨h, h', h''⟩
    · left; simp; omega
    · right; left; exact ⟨by simp; omega, h'⟩
    · right; right; exact ⟨by simp; omega, h', h''⟩
  rcases hbad with h | ⟨h, h'⟩ | ⟨h, h', h''⟩
  · go_enter Tryz.func98, Tryz.ntmps98
    go_wp2_with fail
    go_region
    all_goals (try go_wp2)
    all_goals go_ret3
    all_goals exact ⟨rfl, (Below.refl _ _).drew⟩
  · go_enter Tryz.func98, Tryz.ntmps98
    go_wp2_with fail
    refine (eights_any left _ (by omega)).mono ?_
    rw [← HZ.out]
    rintro e w2 ⟨rfl, hw⟩
    obtain rfl := hw.symm
    go_wp2_with fail
    go_region
    all_goals (try go_wp2)
    all_goals go_ret3
    all_goals exact ⟨rfl, (Below.refl _ _).drew⟩
  · have hyb : y ≤ 2500 * 32 := by rw [HY.out]; exact Nat.mul_le_mul (by omega) hwd
    go_enter Tryz.func98, Tryz.ntmps98
    go_wp2_with fail
    refine (eights_any left _ (by omega)).mono ?_
    rw [← HZ.out]
    rintro e w2 ⟨rfl, hw⟩
    obtain rfl := hw.symm
    go_wp2_with fail
    go_region
    all_goals (try go_wp2)
    all_goals go_ret3
    all_goals exact ⟨rfl, (Below.refl _ _).drew⟩
set_option maxRecDepth 100000 in
set_option maxHeartbeats 1600000 in
theorem readGroups_main (s : ByteArray) (wd m left : Nat) (w : World) (st : TypeId) (sp : Value) (hs : s.size ≤ 1000000) (hwd : wd ≤ 32) (hleft : left ≤ 20000) (hg : w.cell? ⟨3, 0, none⟩ = some (.iface st sp))
    (h0 : m ≠ 0) (h1 : ¬ (left + 7) / 8 < m) (h2 : ¬ s.size < m * wd) :
    Calls Tryz.prog 98 #[.string s, .int .i64 wd, .int .u64 m, .int .i64 left] w fun e w' => RetPart (Um.grps s.data.toList wd m left) (.iface st sp) e w' ∧ Below w.heap.size w w' := by
  obtain ⟨z, HZ⟩ : ∃ z, Hid (z = (left + 7) / 8) := ⟨_, rfl⟩
  have hz : z ≤ 2500 := by rw [HZ.out]; omega
  have h81 : 8 * m < left + 8 := by omega
  rw [← HZ.out] at h1
  obtain ⟨y, HY⟩ : ∃ y, Hid (y = m * wd) := ⟨_, rfl⟩
  have hy : (m : Int) * (wd : Int) = (y : Int) := by rw [HY.out]; simp
  have hyb : y ≤ 2500 * 32 := by rw [HY.out]; exact Nat.mul_le_mul (by omega) hwd
  rw [← HY.out] at h2
  obtain ⟨q, HQ⟩ : ∃ q, Hid (q = 8 * m) := ⟨_, rfl⟩
  have hq : (8 : Int) * (m : Int) = (q : Int) := by rw [HQ.out]; simp
  have hq8 : q < left + 8 := by rw [HQ.out]; omega
  have hq0 : 0 < q := by rw [HQ.out]; omega
  have hm0 : ((m : Int) == 0) = false := by simp; omega
  have HG : Hid (w.cell? ⟨3, 0, none⟩ = some (.iface st sp)) := hg
  have HGr : Hid (Um.grps s.data.toList wd m left = if (∀ x ∈ (Um.unp s.data.toList wd q).drop left, x = 0) then some ((Um.unp s.data.toList wd q).take left, y) else none) := by
    show _ = _
    unfold Um.grps
    rw [← HQ.out, ← HY.out, ← HZ.out]
    by_cases hc : ∀ x ∈ (Um.unp s.data.toList wd q).drop left, x = 0
    · rw [if_pos ⟨⟨by omega, by omega⟩, by simp; omega, hc⟩, if_pos hc]
    · rw [if_neg (fun h => hc h.2.2), if_neg hc]
  have HF : Hid (wd * q ≤ 8 * s.size) := by
    show _ ≤ _
    have : wd * q = 8 * y := by rw [HQ.out, HY.out, Nat.mul_left_comm, Nat.mul_comm wd]
    omega
  clear hg h81
  go_enter Tryz.func98, Tryz.ntmps98
  go_wp2_with fail
  refine (eights_any left _ (by omega)).mono ?_
  rw [← HZ.out]
  rintro e w2 ⟨rfl, hw⟩
  obtain rfl := hw.symm
  go_wp2_with fail
  refine (unpack_any s wd q w hs (by omega) hwd HF.out).mono ?_
  rintro e w3 ⟨⟨rfl, hc⟩, hb3⟩
  have HC : Hid (∀ j, j < q → w3.cell? ⟨w.heap.size, j, none⟩ = some (.int .i64 ((Um.lev s.data.toList / 2 ^ (wd * j) % 2 ^ wd : Nat) : Int))) := hc
  have hg3 := (hb3.cell (World.block_lt_of_cell? w _ HG.out)).trans HG.out
  clear hc
  by_cases hlq : left < q
  · have hne : ¬ q = left := by omega
    have HU : Hid (∀ j, j < q - left → (j < ((Um.unp s.data.toList wd q).drop left).length) ∧ ∀ h, ((Um.unp s.data.toList wd q).drop left)[j]'h = Um.lev s.data.toList / 2 ^ (wd * (left + j)) % 2 ^ wd) := fun j hj => ⟨by simp [Um.unp_len]; omega, fun h => by
      rw [List.getElem_drop, Um.unp_get _ _ _ _ (by omega)]⟩
    go_wp2_with fail
    go_loopw [8, 47] (fun p8 x wr => ∃ j : Nat, p8 = .slice (some ⟨w.heap.size, 0, none⟩) q q ∧ j ≤ q - left ∧ x = .int .i64 j ∧ wr = w3 ∧ Hid (∀ i, i < j → Um.lev s.data.toList / 2 ^ (wd * (left + i)) % 2 ^ wd = 0)) (fun _ x _ => q - left - (intOf x).toNat)
    case atStart => exact ⟨0, rfl, Nat.zero_le _, rfl, rfl, fun i h => absurd h (Nat.not_lt_zero _)⟩
    case round =>
      obtain ⟨j, rfl, hj, rfl, hwr, HP⟩ := hrel
      obtain rfl := hwr.symm
      by_cases hlt : j < q - left
      · have hcj := HC.out (left + j) (by omega)
        have HPJ : Hid (∀ i, i < j + 1 → (i = j ∧ Um.lev s.data.toList / 2 ^ (wd * (left + i)) % 2 ^ wd = Um.lev s.data.toList / 2 ^ (wd * (left + j)) % 2 ^ wd) ∨ Um.lev s.data.toList / 2 ^ (wd * (left + i)) % 2 ^ wd = 0) := fun i hi => by
          by_cases e : i = j
          · subst e; exact Or.inl ⟨rfl, rfl⟩
          · exact Or.inr (HP.out i (by omega))
        have HV : Hid (∃ h, ((Um.unp s.data.toList wd q).drop left)[j]'h = Um.lev s.data.toList / 2 ^ (wd * (left + j)) % 2 ^ wd) := ⟨(HU.out j hlt).1, (HU.out j hlt).2 _⟩
        generalize Um.lev s.data.toList / 2 ^ (wd * (left + j)) % 2 ^ wd = v at hcj HPJ HV
        by_cases hv : v = 0
        · subst hv
          go_wp2_with fail
          go_roundw
          case rel => exact ⟨j + 1, rfl, by omega, by go_num, trivial, fun i hi => by rcases HPJ.out i hi with ⟨_, h⟩ | h <;> exact h⟩
          case measure => simp [intOf]; omega
        · have hvb : ((v : Int) != 0) = true := by simp; omega
          have HN : Hid (Um.grps s.data.toList wd m left = none) := by
            show _ = _
            rw [HGr.out, if_neg]
            intro hall
            obtain ⟨h, e⟩ := HV.out
            exact hv (by rw [← e]; exact hall _ (List.getElem_mem h))
          clear hv
          go_wp2_with fail
          go_region
          all_goals (try go_wp2_with fail)
          all_goals go_ret3
          all_goals (refine ⟨?_, hb3.drew⟩; rw [HN.out]; rfl)
      · obtain rfl : j = q - left := by omega
        have HN : Hid (Um.grps s.data.toList wd m left = some ((Um.unp s.data.toList wd q).take left, y)) := by
          show _ = _
          rw [HGr.out, if_pos]
          intro x hx
          obtain ⟨i, hi, rfl⟩ := List.getElem_of_mem hx
          have hi' : i < q - left := by simpa [Um.unp_len] using hi
          rw [(HU.out i hi').2 hi]
          exact HP.out i hi'
        go_wp2_with fail
        go_ret3
        refine ⟨?_, hb3⟩
        rw [HN.out]
        have hll : ((Um.unp s.data.toList wd q).take left).length = left := by simp [Um.unp_len]; omega
        refine ⟨some ⟨w.heap.size, 0, none⟩, q, by rw [hll]; rfl, fun j hj => ⟨w.heap.size, 0, rfl, ?_⟩⟩
        have hj' : j < left := by rw [i64s_len, List.length_map, hll] at hj; exact hj
        rw [Nat.zero_add, HC.out j (by omega)]
        simp only [i64s, List.getElem_map, List.getElem_take]
        rw [Um.unp_get _ _ _ _ (by omega)]
  · have HN : Hid (Um.grps s.data.toList wd m left = some (Um.unp s.data.toList wd q, y)) := by
      show _ = _
      rw [HGr.out, List.drop_of_length_le (by rw [Um.unp_len]; omega), List.take_of_length_le (by rw [Um.unp_len]; omega), if_pos (fun x hx => by cases hx)]
    have hle : q ≤ left := by omega
    go_wp2_with fail
    all_goals
      refine wp_loop_rounds 1 ?_
      rw [rounds_succ]
      go_wp2_with fail
      go_ret3
      refine ⟨?_, hb3⟩
      rw [HN.out]
      have hll : (Um.unp s.data.toList wd q).length = q := Um.unp_len _ _ _
      refine ⟨some ⟨w.heap.size, 0, none⟩, q, by rw [hll]; first | rfl | (congr 1; simp; omega), fun j hj => ⟨w.heap.size, 0, rfl, ?_⟩⟩
      have hj' : j < q := by rw [i64s_len, List.length_map, hll] at hj; exact hj
      rw [Nat.zero_add, HC.out j hj']
      simp only [i64s, List.getElem_map]
      rw [Um.unp_get _ _ _ _ hj']
theorem readGroups_any (s : ByteArray) (wd m left : Nat) (w : World) (st : TypeId) (sp : Value) (hs : s.size ≤ 1000000) (hwd : wd ≤ 32) (hm : m < 18446744073709551616) (hleft : left ≤ 20000) (hg : w.cell? ⟨3, 0, none⟩ = some (.iface st sp)) :
    Calls Tryz.prog 98 #[.string s, .int .i64 wd, .int .u64 m, .int .i64 left] w fun e w' => RetPart (Um.grps s.data.toList wd m left) (.iface st sp) e w' ∧ Below w.heap.size w w' := by
  by_cases h : m = 0 ∨ (m ≠ 0 ∧ (left + 7) / 8 < m) ∨ (m ≠ 0 ∧ ¬ (left + 7) / 8 < m ∧ s.size < m * wd)
  · have e : Um.grps s.data.toList wd m left = none := by
      unfold Um.grps
      rw [if_neg]
      intro hc
      have : s.data.toList.length = s.size := by simp
      omega
    rw [e]
    exact readGroups_bad s wd m left w st sp hs hwd hm hleft hg h
  · exact readGroups_main s wd m left w st sp hs hwd hleft hg (by omega) (by omega) (by omega)
end Go.Proofs.YtmhkpnmifhfboaaGreatDoor

namespace Go.Proofs.YtmhkpnmifhfboaaGreatDoor
open Go.RowKit
set_option linter.unusedVariables false
theorem cut_list (s : ByteArray) (k : Nat) : (s.extract k s.size).data.toList = s.data.toList.drop k := by
  rw [ByteArray.data_extract, Array.toList_extract]
  simp only [List.extract_eq_take_drop]
  exact List.take_of_length_le (by simp)
theorem cut_size (s : ByteArray) (k : Nat) : (s.extract k s.size).size ≤ s.size := by rw [ByteArray.size_extract]; omega
theorem retPart_map {r : Option (List Nat × Nat)} {ev : Value} {e : Ending} {w' : World} (h : RetPart r ev e w') : (r = none ∧ e = .returned (.tuple #[.slice none 0 0, .int .i64 0, ev])) ∨ ∃ p u a c, r = some (p, u) ∧ e = .returned (.tuple #[.slice a (List.length p) c, .int .i64 (u : Nat), .nilIface]) ∧ Lies w' a (i64s (p.map fun n : Nat => (n : Int))) := by
  cases r with
  | none => exact Or.inl ⟨rfl, h⟩
  | some x =>
    obtain ⟨p, u⟩ := x
    obtain ⟨a, c, he, hl⟩ := h
    exact Or.inr ⟨p, u, a, c, rfl, he, hl⟩
set_option maxRecDepth 100000 in
set_option maxHeartbeats 1600000 in
theorem readPart_any (s : ByteArray) (wd left : Nat) (w : World) (st : TypeId) (sp : Value) (hs : s.size ≤ 1000000) (hwd : wd ≤ 32) (hleft : left ≤ 20000) (hl0 : 0 < left) (hg : w.cell? ⟨3, 0, none⟩ = some (.iface st sp)) :
    Calls Tryz.prog 66 #[.string s, .int .i64 wd, .int .i64 left] w fun e w' => RetPart (Um.part s.data.toList wd left) (.iface st sp) e w' ∧ Below w.heap.size w w' := by
  have HG : Hid (w.cell? ⟨3, 0, none⟩ = some (.iface st sp)) := hg
  obtain ⟨hr1, hr2, hr3⟩ := Um.rdv_room s.data.toList 0 0 (by simp)
  have hr3 : (Um.rdv s.data.toList 0 0).2 ≤ s.size := by simpa using hr3
  have HP : Hid (Um.part s.data.toList wd left = if (Um.rdv s.data.toList 0 0).2 = 0 then none else (if (Um.rdv s.data.toList 0 0).1 % 2 = 0 then Um.same (s.data.toList.drop (Um.rdv s.data.toList 0 0).2) wd ((Um.rdv s.data.toList 0 0).1 / 2) left else Um.grps (s.data.toList.drop (Um.rdv s.data.toList 0 0).2) wd ((Um.rdv s.data.toList 0 0).1 / 2) left).map fun p => (p.1, (Um.rdv s.data.toList 0 0).2 + p.2)) := rfl
  clear hg
  go_enter Tryz.func66, Tryz.ntmps66
  go_wp2_with fail
  refine (readUvarint_any s w _ (by unfold maxLen; omega) HG.out).mono ?_
  generalize (Um.rdv s.data.toList 0 0).1 = h at hr1 HP
  generalize (Um.rdv s.data.toList 0 0).2 = k at hr2 hr3 HP
  rintro e w1 ⟨rfl, hb1⟩
  by_cases hk : k = 0
  · subst hk
    have HN := HP.out
    rw [if_pos rfl] at HN
    have HN2 : Hid (Um.part s.data.toList wd left = none) := HN
    clear HN
    have he : errOf (.iface st sp) 0 = .iface st sp := rfl
    rw [he]
    clear he
    go_wp2_with fail
    go_ret3
    refine ⟨?_, hb1⟩
    rw [HN2.out]
    rfl
  · have HN := HP.out
    rw [if_neg hk] at HN
    have he : errOf (.iface st sp) k = .nilIface := by unfold errOf; rw [if_neg hk]
    rw [he]
    have hg1 := (hb1.cell (World.block_lt_of_cell? w _ HG.out)).trans HG.out
    have HG1 : Hid (w1.cell? ⟨3, 0, none⟩ = some (.iface st sp)) := hg1
    clear hg1 he
    by_cases hpar : h % 2 = 0
    · have hd : (((h : Int) % 2) == 0) = true := by simp; omega
      rw [if_pos hpar] at HN
      have HN2 : Hid (Um.part s.data.toList wd left = (Um.same (s.data.toList.drop k) wd (h / 2) left).map fun p => (p.1, k + p.2)) := HN
      clear HN
      obtain ⟨m2, HM⟩ : ∃ m2, Hid (m2 = h / 2) := ⟨_, rfl⟩
      have hm2 : (h : Int) / 2 = (m2 : Int) := by rw [HM.out]; omega
      have hm3 : m2 < 18446744073709551616 := by rw [HM.out]; omega
      have HS : Hid ((s.extract k s.size).size ≤ 1000000) := Nat.le_trans (cut_size s k) hs
      go_wp2_with fail
      refine (readSame_any (s.extract k s.size) wd m2 left w1 st sp HS.out hwd hm3 hleft HG1.out).mono ?_
      rw [cut_list, HM.out]
      rintro e w2 ⟨hret, hb2⟩
      have hb12 := hb1.trans (hb2.mono hb1.size)
      rcases retPart_map hret with ⟨hn, rfl⟩ | ⟨p, u, a, c, hn, rfl, hl⟩
      · rw [hn] at HN2
        have HN3 : Hid (Um.part s.data.toList wd left = none) := HN2
        clear hn HN2 hret
        go_wp2_with fail
        go_ret3
        refine ⟨?_, hb12⟩
        rw [HN3.out]
        rfl
      · have hu : u ≤ s.size := by
          have := (Um.same_len hn).2
          rw [List.length_drop] at this
          simp at this
          omega
        rw [hn] at HN2
        have HN3 : Hid (Um.part s.data.toList wd left = some (p, k + u)) := HN2
        have HLs : Hid (Lies w2 a (i64s (p.map fun n : Nat => (n : Int)))) := hl
        clear hn HN2 hret hl
        go_wp2_with fail
        go_ret3
        refine ⟨?_, hb12⟩
        rw [HN3.out]
        exact ⟨a, c, by simp, HLs.out⟩
    · have hd : (((h : Int) % 2) == 0) = false := by simp; omega
      rw [if_neg hpar] at HN
      have HN2 : Hid (Um.part s.data.toList wd left = (Um.grps (s.data.toList.drop k) wd (h / 2) left).map fun p => (p.1, k + p.2)) := HN
      clear HN
      obtain ⟨m2, HM⟩ : ∃ m2, Hid (m2 = h / 2) := ⟨_, rfl⟩
      have hm2 : (h : Int) / 2 = (m2 : Int) := by rw [HM.out]; omega
      have hm3 : m2 < 18446744073709551616 := by rw [HM.out]; omega
      have HS : Hid ((s.extract k s.size).size ≤ 1000000) := Nat.le_trans (cut_size s k) hs
      go_wp2_with fail
      refine (readGroups_any (s.extract k s.size) wd m2 left w1 st sp HS.out hwd hm3 hleft HG1.out).mono ?_
      rw [cut_list, HM.out]
      rintro e w2 ⟨hret, hb2⟩
      have hb12 := hb1.trans (hb2.mono hb1.size)
      rcases retPart_map hret with ⟨hn, rfl⟩ | ⟨p, u, a, c, hn, rfl, hl⟩
      · rw [hn] at HN2
        have HN3 : Hid (Um.part s.data.toList wd left = none) := HN2
        clear hn HN2 hret
        go_wp2_with fail
        go_ret3
        refine ⟨?_, hb12⟩
        rw [HN3.out]
        rfl
      · have hu : u ≤ s.size := by
          have := (Um.grps_len hl0 hn).2
          rw [List.length_drop] at this
          simp at this
          omega
        rw [hn] at HN2
        have HN3 : Hid (Um.part s.data.toList wd left = some (p, k + u)) := HN2
        have HLs : Hid (Lies w2 a (i64s (p.map fun n : Nat => (n : Int)))) := hl
        clear hn HN2 hret hl
        go_wp2_with fail
        go_ret3
        refine ⟨?_, hb12⟩
        rw [HN3.out]
        exact ⟨a, c, by simp, HLs.out⟩
end Go.Proofs.YtmhkpnmifhfboaaGreatDoor

namespace Go.Proofs.YtmhkpnmifhfboaaGreatDoor
open Go.RowKit
set_option linter.unusedVariables false
set_option maxRecDepth 100000 in
set_option maxHeartbeats 800000 in
theorem readRuns_bound (s : ByteArray) (k n : Int) (w : World) (st : TypeId) (sp : Value) (hg : w.cell? ⟨2, 0, none⟩ = some (.iface st sp)) (hk : decide (0 ≤ k ∧ k ≤ 32) = false ∨ decide (0 ≤ k ∧ k ≤ 32) = true ∧ decide (0 ≤ n ∧ n ≤ 20000) = false) :
    Calls Tryz.prog 36 #[.string s, .int .i64 k, .int .i64 n] w fun e w' => e = .returned (.tuple #[.slice none 0 0, .int .i64 0, .iface st sp]) ∧ Below w.heap.size w w' := by
  rcases hk with h | ⟨h, h'⟩
  all_goals
    go_enter Tryz.func36, Tryz.ntmps36
    go_wp2_with (first | (go_at_call 64; refine (isWidth_any _ _).mono ?_; rw [h]; rintro e w1 ⟨rfl, hw⟩; obtain rfl := hw.symm) | (go_at_call 65; refine (isCount_any _ _).mono ?_; rw [h']; rintro e w1 ⟨rfl, hw⟩; obtain rfl := hw.symm))
    go_region
    all_goals (try go_wp2)
    all_goals go_ret3
    all_goals exact ⟨rfl, (Below.refl _ _).drew⟩
/-- Numbers as ints' cells. -/
def nvals (l : List Nat) : List Value := i64s (l.map fun n : Nat => (n : Int))
theorem nvals_len (l : List Nat) : (nvals l).length = l.length := by simp [nvals, i64s]
theorem nvals_app (a b : List Nat) : nvals (a ++ b) = nvals a ++ nvals b := by simp [nvals, i64s]
theorem nvals_one (l : List Nat) : ∀ u ∈ nvals l, u.oneCell' = true := by
  intro u hu
  obtain ⟨x, _, rfl⟩ := List.mem_map.1 hu
  rfl
theorem lies_src {w : World} {a : Option Addr} {cs : List Value} (h : Lies w a cs) : ∀ ad, a = some ad → ∀ j u, cs[j]? = some u → w.cell? (ad.add j) = some u := by
  intro ad had j u hu
  obtain ⟨hj, rfl⟩ := List.getElem?_eq_some_iff.1 hu
  obtain ⟨b, o, e, hc⟩ := h j hj
  obtain rfl := Option.some.inj (had.symm.trans e)
  rw [addr_add]; exact hc
theorem lies_none {w : World} {cs : List Value} (h : Lies w none cs) : cs.length = 0 := by
  by_cases h0 : 0 < cs.length
  · obtain ⟨b, o, e, _⟩ := h 0 h0
    cases e
  · omega
theorem own_below {w w' : World} {base e size n : Nat} {v : Value} {xs : List Value} (h : w.ownsRow base e size v n xs) (hb : Below w.heap.size w w') : w'.ownsRow base e size v n xs := by
  refine ⟨h.1, ?_⟩
  rcases h.2 with hn | ⟨g, cap, cur, rfl, hbg, hgg, rest⟩
  · exact .inl hn
  · exact .inr ⟨g, cap, cur, rfl, hbg, (hb.block g (Array.getElem?_eq_some_iff.1 hgg).1).trans hgg, rest⟩
/-- A slice's length. -/
def rrLen : Value → Nat | .slice _ k _ => k | _ => 0
/-- What the loop keeps. -/
structure RR (s : ByteArray) (wd n : Nat) (w : World) (l u : Value) (wr : World) (acc : List Nat) (at_ : Nat) : Prop where
  hl : l = .slice (some ⟨w.heap.size, 0, none⟩) acc.length n
  hu : u = .int .i64 at_
  le : acc.length ≤ n
  hs : at_ ≤ s.size
  so : Um.Sofar s.data.toList wd n acc at_
  own : wr.ownsRow w.heap.size 3 1 (.slice (some ⟨w.heap.size, 0, none⟩) acc.length n) acc.length (nvals acc)
  old : Below w.heap.size w wr
set_option maxRecDepth 100000 in
set_option maxHeartbeats 1600000 in
theorem readRuns_any (s : ByteArray) (wd n : Nat) (w : World) (st : TypeId) (sp : Value) (hs : s.size ≤ 1000000) (hwd : wd ≤ 32) (hn : n ≤ 20000) (hg : w.cell? ⟨3, 0, none⟩ = some (.iface st sp)) :
    Calls Tryz.prog 36 #[.string s, .int .i64 wd, .int .i64 n] w fun e w' => RetPart (Um.runs s.data.toList wd n) (.iface st sp) e w' ∧ Below w.heap.size w w' := by
  have hd1 : decide (0 ≤ (wd : Int) ∧ (wd : Int) ≤ 32) = true := by simp; omega
  have hd2 : decide (0 ≤ (n : Int) ∧ (n : Int) ≤ 20000) = true := by simp; omega
  have HG : Hid (w.cell? ⟨3, 0, none⟩ = some (.iface st sp)) := hg
  obtain ⟨i0, hi, hz0, hz1, hz2⟩ := info_parts Tryz.info3
  obtain ⟨M, hM⟩ : ∃ M, M = madeCells (Value.int .i64 0).cells (((n : Nat) : Int).toNat * i0.size) := ⟨_, rfl⟩
  have hMs : M.size = n := by rw [hM, size_madeCells, hz1]; simp
  have hmk : ∀ W : World, (Instr.makeSlice 61 (.int .i64 0) (.int .i64 (n : Int))).run Tryz.prog W = .ok (.slice (some ⟨W.heap.size, 0, none⟩) 0 n) (W.alloc (.cells M 3)) := fun W => by
    have h := run_make (P := Tryz.prog) W 61 3 i0 (.int .i64 0) Tryz.underlying61 hi hz0 .i64 .i64 0 (n : Int) (by omega) (by omega) (by rw [hz2]; omega) (by omega)
    rw [← hM] at h
    simpa using h
  have HS : Hid ((w.alloc (.cells M 3)).ownsRow w.heap.size 3 1 (.slice (some ⟨w.heap.size, 0, none⟩) 0 n) 0 []) := World.ownsRow_made w M n (Nat.le_refl _) (by unfold maxLen; omega) (by omega)
  clear hg hM hMs
  go_enter Tryz.func36, Tryz.ntmps36
  go_wp2_with (first | (go_at_call 64; refine (isWidth_any _ _).mono ?_; rw [hd1]; rintro e w1 ⟨rfl, hw⟩; obtain rfl := hw.symm) | (go_at_call 65; refine (isCount_any _ _).mono ?_; rw [hd2]; rintro e w1 ⟨rfl, hw⟩; obtain rfl := hw.symm))
  clear hmk
  go_loopw [6, 7] (fun l u wr => ∃ (acc : List Nat) (at_ : Nat), Hid (RR s wd n w l u wr acc at_)) (fun l _ _ => n - rrLen l)
  case atStart => exact ⟨[], 0, ⟨rfl, rfl, Nat.zero_le _, Nat.zero_le _, Um.sofar_zero _ _ _, HS, (Below.refl _ _).alloc (Nat.le_refl _) _⟩⟩
  case round =>
    obtain ⟨acc, at_, HR⟩ := hrel
    obtain ⟨rfl, rfl, hle, has, hso, hown, hb⟩ := HR.out
    have HSo : Hid (Um.Sofar s.data.toList wd n acc at_) := hso
    clear hso
    by_cases hlt : acc.length < n
    · obtain ⟨m, HM⟩ : ∃ m, Hid (m = n - acc.length) := ⟨_, rfl⟩
      have hm : (n : Int) - (acc.length : Int) = (m : Int) := by rw [HM.out]; omega
      have hg1 := (hb.cell (World.block_lt_of_cell? w _ HG.out)).trans HG.out
      have HG1 : Hid (wr.cell? ⟨3, 0, none⟩ = some (.iface st sp)) := hg1
      have HSz : Hid ((s.extract at_ s.size).size ≤ 1000000) := Nat.le_trans (cut_size s at_) hs
      clear hg1
      go_wp2_with fail
      refine (readPart_any (s.extract at_ s.size) wd m wr st sp HSz.out hwd (by rw [HM.out]; omega) (by rw [HM.out]; omega) HG1.out).mono ?_
      rw [cut_list, HM.out]
      rintro e w2 ⟨hret, hb2⟩
      have hb12 := hb.trans (hb2.mono hb.size)
      rcases retPart_map hret with ⟨hpn, rfl⟩ | ⟨p, u, a, c, hpn, rfl, hl⟩
      · have HN : Hid (Um.runs s.data.toList wd n = none) := Um.sofar_none HSo.out hlt hpn
        clear hpn hret
        go_wp2_with fail
        go_ret3
        refine ⟨?_, hb12⟩
        rw [HN.out]
        rfl
      · have hpl := Um.part_len (by omega) hpn
        rw [List.length_drop] at hpl
        simp only at hpl
        have hsl : s.data.toList.length = s.size := by simp
        have HN : Hid (Um.Sofar s.data.toList wd n (acc ++ p) (at_ + u)) := Um.sofar_step HSo.out hlt hpn
        have hp1 : 0 < p.length := hpl.1.1
        have hp2 : acc.length + p.length ≤ n := by have := hpl.1.2; omega
        have hu2 : at_ + u ≤ s.size := by have := hpl.2; omega
        have hown2 : w2.ownsRow w.heap.size 3 1 (.slice (some ⟨w.heap.size, 0, none⟩) acc.length n) acc.length (nvals acc) := own_below hown hb2
        have HL2 : Hid (Lies w2 a (nvals p)) := hl
        clear hpn hret hpl hsl hl
        go_wp2_with (at_builtin; refine wpList_append_fits_any _ rfl _ _ 61 rfl w.heap.size 3 i0 1 Tryz.underlying61 hi hz1 w.heap.size acc.length n (nvals acc) rfl hown2 a p.length c (nvals p) rfl (by rw [nvals_len, Nat.mul_one]) (fun e => by subst e; have := lies_none HL2.out; rw [nvals_len] at this; omega) (lies_src HL2.out) (nvals_one p) hp2 ?_; intro w3 hown3 hgrow)
        have hb3 : Below w.heap.size w w3 := hb12.grown hgrow hb12.size (fun k hk => by simp at hk; omega)
        rw [← nvals_app] at hown3
        go_roundw
        case rel => exact ⟨acc ++ p, at_ + u, ⟨by simp, by go_num, by simp; omega, hu2, HN.out, by rw [List.length_append]; exact hown3, hb3⟩⟩
        case measure => simp [rrLen]; omega
    · have HN : Hid (Um.runs s.data.toList wd n = some (acc, at_)) := Um.sofar_end HSo.out (by omega)
      go_wp2_with fail
      go_ret3
      refine ⟨?_, hb⟩
      rw [HN.out]
      obtain ⟨a', c', hav, hl⟩ := lies_own hown
      exact ⟨some ⟨w.heap.size, 0, none⟩, n, rfl, by injection hav with h1 _ _; subst h1; exact hl⟩
end Go.Proofs.YtmhkpnmifhfboaaGreatDoor
