/-
  bitrun.readSame: a part of the first kind behind its head.
  bitrun.readGroups: a part of the second kind behind its head.
-/
import Derived.Test.YtjchkhdmjbojjaaDoorLUnpackF
import Derived.Test.YtjchkhdmjbojjaaDoorLBMath
namespace Go.Proofs.YtjchkhdmjbojjaaDoor
open Go.RowKit
set_option linter.unusedVariables false
/-- What is read of a part: numbers and bytes, or an error. -/
def RetPart (r : Option (List Nat × Nat)) (ev : Value) (e : Ending) (w' : World) : Prop :=
  match r with
  | none => e = .returned (.tuple #[.slice none 0 0, .int .i64 0, ev])
  | some (p, u) => ∃ a c, e = .returned (.tuple #[.slice a p.length c, .int .i64 u, .nilIface]) ∧ Lies w' a (i64s (p.map fun n : Nat => (n : Int)))
theorem or3 {a b c : Bool} (h : (a || b || c) = true) : a = true ∨ (a = false ∧ b = true) ∨ (a = false ∧ b = false ∧ c = true) := by
  cases a <;> cases b <;> cases c <;> simp_all
set_option maxRecDepth 100000 in
set_option maxHeartbeats 1600000 in
theorem readSame_bad (s : ByteArray) (wd m left : Nat) (w : World) (st : TypeId) (sp : Value) (hs : s.size ≤ 1000000) (hwd : wd ≤ 32) (hm : m < 18446744073709551616) (hleft : left ≤ 20000) (hg : w.cell? ⟨0, 0, none⟩ = some (.iface st sp))
    (hbad : m = 0 ∨ (m ≠ 0 ∧ left < m) ∨ (m ≠ 0 ∧ ¬ left < m ∧ s.size < (wd + 7) / 8)) :
    Calls Tryd.prog 110 #[.string s, .int .i64 wd, .int .u64 m, .int .i64 left] w fun e w' => e = .returned (.tuple #[.slice none 0 0, .int .i64 0, .iface st sp]) ∧ Below w.heap.size w w' := by
  obtain ⟨z, HZ⟩ : ∃ z, Hid (z = (wd + 7) / 8) := ⟨_, rfl⟩
  rw [← HZ.out] at hbad
  have hbad : ((m : Int) == 0) = true ∨ (((m : Int) == 0) = false ∧ left < m) ∨ (((m : Int) == 0) = false ∧ ¬ left < m ∧ s.size < z) := by
    rcases hbad with h | ⟨h, h'⟩ | ⟨h, h', h''⟩
    · left; simp; omega
    · right; left; exact ⟨by simp; omega, h'⟩
    · right; right; exact ⟨by simp; omega, h', h''⟩
  rcases hbad with h | ⟨h, h'⟩ | ⟨h, h', h''⟩
  · go_enter Tryd.func110, Tryd.ntmps110
    go_wp2_with fail
    refine (eights_any wd _ (by omega)).mono ?_
    rw [← HZ.out]
    rintro e w2 ⟨rfl, hw⟩
    obtain rfl := hw.symm
    go_wp2_with fail
    go_region
    all_goals (try go_wp2)
    all_goals go_ret3
    all_goals exact ⟨rfl, (Below.refl _ _).drew⟩
  · go_enter Tryd.func110, Tryd.ntmps110
    go_wp2_with fail
    refine (eights_any wd _ (by omega)).mono ?_
    rw [← HZ.out]
    rintro e w2 ⟨rfl, hw⟩
    obtain rfl := hw.symm
    go_wp2_with fail
    go_region
    all_goals (try go_wp2)
    all_goals go_ret3
    all_goals exact ⟨rfl, (Below.refl _ _).drew⟩
  · go_enter Tryd.func110, Tryd.ntmps110
    go_wp2_with fail
    refine (eights_any wd _ (by omega)).mono ?_
    rw [← HZ.out]
    rintro e w2 ⟨rfl, hw⟩
    obtain rfl := hw.symm
    go_wp2_with fail
    go_region
    all_goals (try go_wp2)
    all_goals go_ret3
    all_goals exact ⟨rfl, (Below.refl _ _).drew⟩
theorem lev_first (l : List UInt8) (z : Nat) (hz : z ≤ l.length) : Um.lev l / 2 ^ (8 * z * 0) % 2 ^ (8 * z) = Um.lev (l.take z) := by
  have h := Um.lev_cut l z 0 (8 * z) hz (by omega)
  simp only [Nat.mul_zero]
  rw [← h, Nat.pow_zero, Nat.div_one, Nat.mod_eq_of_lt (Um.lev_take_lt l z hz)]
set_option maxRecDepth 100000 in
set_option maxHeartbeats 1600000 in
theorem readSame_main (s : ByteArray) (wd m left : Nat) (w : World) (st : TypeId) (sp : Value) (hs : s.size ≤ 1000000) (hwd : wd ≤ 32) (hleft : left ≤ 20000) (hg : w.cell? ⟨0, 0, none⟩ = some (.iface st sp))
    (h0 : m ≠ 0) (h1 : ¬ left < m) (h2 : ¬ s.size < (wd + 7) / 8) :
    Calls Tryd.prog 110 #[.string s, .int .i64 wd, .int .u64 m, .int .i64 left] w fun e w' => RetPart (Um.same s.data.toList wd m left) (.iface st sp) e w' ∧ Below w.heap.size w w' := by
  obtain ⟨z, HZ⟩ : ∃ z, Hid (z = (wd + 7) / 8) := ⟨_, rfl⟩
  rw [← HZ.out] at h2
  have hz4 : z ≤ 4 := by rw [HZ.out]; omega
  obtain ⟨y, HY⟩ : ∃ y, Hid (y = 8 * z) := ⟨_, rfl⟩
  have hy : (8 : Int) * (z : Int) = (y : Int) := by rw [HY.out]; simp
  have hm0 : ((m : Int) == 0) = false := by simp; omega
  have HG : Hid (w.cell? ⟨0, 0, none⟩ = some (.iface st sp)) := hg
  have hx : Um.lev s.data.toList / 2 ^ (y * 0) % 2 ^ y = Um.lev (s.data.toList.take z) := by rw [HY.out]; exact lev_first _ _ (by simp; omega)
  have hxl : Um.lev (s.data.toList.take z) < 4294967296 := Nat.lt_of_lt_of_le (Um.lev_take_lt _ z (by simp; omega)) (Nat.le_trans (Nat.pow_le_pow_right (n := 2) (by omega) (show 8 * z ≤ 32 by omega)) (by decide))
  have HSame : Hid (Um.same s.data.toList wd m left = if Um.lev (s.data.toList.take z) < 2 ^ wd then some (List.replicate m (Um.lev (s.data.toList.take z)), z) else none) := by
    show _ = _
    unfold Um.same
    rw [← HZ.out]
    by_cases hc : Um.lev (s.data.toList.take z) < 2 ^ wd
    · rw [if_pos ⟨⟨by omega, by omega⟩, by simp; omega, hc⟩, if_pos hc]
    · rw [if_neg (fun h => hc h.2.2), if_neg hc]
  have HX : Hid (Um.lev s.data.toList / 2 ^ (y * 0) % 2 ^ y = Um.lev (s.data.toList.take z)) := hx
  clear hg hx
  go_enter Tryd.func110, Tryd.ntmps110
  go_wp2_with fail
  refine (eights_any wd _ (by omega)).mono ?_
  rw [← HZ.out]
  rintro e w2 ⟨rfl, hw⟩
  obtain rfl := hw.symm
  go_wp2_with fail
  refine (unpack_any s y 1 w hs (by omega) (by rw [HY.out]; omega) (by rw [HY.out]; omega)).mono ?_
  rintro e w3 ⟨⟨rfl, hc⟩, hb3⟩
  have hc0 := hc 0 (by omega)
  rw [HX.out] at hc0
  have hg3 := (hb3.cell (World.block_lt_of_cell? w _ HG.out)).trans HG.out
  generalize Um.lev (s.data.toList.take z) = x at hc0 hxl HSame
  clear hc HX
  go_wp2_with fail
  refine (fits_any _ _ _ (by omega) (by omega) hwd).mono ?_
  by_cases hf : x < 2 ^ wd
  · have hd : decide (0 ≤ (x : Int) ∧ (x : Int) < 2 ^ wd) = true := by
      have e : ((2 ^ wd : Nat) : Int) = (2 : Int) ^ wd := by simp
      rw [decide_eq_true_iff, ← e]; omega
    have HS2 := HSame.out
    rw [if_pos hf] at HS2
    have HS3 : Hid (Um.same s.data.toList wd m left = some (List.replicate m x, z)) := HS2
    rw [hd]
    clear HS2 HSame hf hd
    rintro e w4 ⟨rfl, hw⟩
    obtain rfl := hw.symm
    obtain ⟨i0, hi, hz0, hz1, hz2⟩ := info_parts Tryd.info3
    obtain ⟨M, hM⟩ : ∃ M, M = madeCells (Value.int .i64 0).cells (((m : Nat) : Int).toNat * i0.size) := ⟨_, rfl⟩
    have hMs : M.size = m := by rw [hM, size_madeCells, hz1]; simp
    have hmk : ∀ W : World, (Instr.makeSlice 49 (.int .u64 (m : Int)) (.int .u64 (m : Int))).run Tryd.prog W = .ok (.slice (some ⟨W.heap.size, 0, none⟩) m m) (W.alloc (.cells M 3)) := fun W => by
      have h := run_make (P := Tryd.prog) W 49 3 i0 (.int .i64 0) Tryd.underlying49 hi hz0 .u64 .u64 (m : Int) (m : Int) (by omega) (by omega) (by rw [hz2]; omega) (by omega)
      rw [← hM] at h
      simpa using h
    have HR0 : Hid (GRow (fun _ => .int .i64 (x : Int)) m w3.heap.size w3 (w3.alloc (.cells M 3)) 0) := GRow.start _ m 3 w3 M hMs
    clear hM hMs hi hz0 hz1 hz2
    go_wp2_with fail
    clear hmk
    go_loopw [45] (fun c wr => ∃ i : Nat, i ≤ m ∧ c = .int .i64 i ∧ Hid (GRow (fun _ => .int .i64 (x : Int)) m w3.heap.size w3 wr i)) (fun c _ => m - (intOf c).toNat)
    case atStart => exact ⟨0, Nat.zero_le _, rfl, HR0⟩
    case round =>
      obtain ⟨i, him, rfl, HR⟩ := hrel
      by_cases hlt : i < m
      · obtain ⟨v, hv⟩ := HR.out.any i hlt
        have hfz := HR.out.froz i hlt
        go_wp2_with fail
        go_roundw
        case rel => exact ⟨i + 1, by omega, by go_num, HR.out.next (Nat.le_refl _) hlt rfl⟩
        case measure => simp [intOf]; omega
      · obtain rfl : i = m := by omega
        go_wp2_with fail
        go_ret3
        refine ⟨?_, hb3.trans (HR.out.old.mono hb3.size)⟩
        rw [HS3.out]
        refine ⟨some ⟨w3.heap.size, 0, none⟩, i, by simp, fun j hj => ⟨w3.heap.size, 0, rfl, ?_⟩⟩
        have hj' : j < i := by simpa [i64s] using hj
        rw [Nat.zero_add, HR.out.done j hj']
        simp [i64s]
  · have hd : decide (0 ≤ (x : Int) ∧ (x : Int) < 2 ^ wd) = false := by
      have e : ((2 ^ wd : Nat) : Int) = (2 : Int) ^ wd := by simp
      rw [decide_eq_false_iff_not, ← e]; omega
    have HS2 := HSame.out
    rw [if_neg hf] at HS2
    have HS3 : Hid (Um.same s.data.toList wd m left = none) := HS2
    rw [hd]
    clear HS2 HSame hf hd
    rintro e w4 ⟨rfl, hw⟩
    obtain rfl := hw.symm
    go_wp2_with fail
    go_region
    all_goals (try go_wp2_with fail)
    all_goals go_ret3
    all_goals (refine ⟨?_, hb3.drew⟩; rw [HS3.out]; rfl)
theorem readSame_any (s : ByteArray) (wd m left : Nat) (w : World) (st : TypeId) (sp : Value) (hs : s.size ≤ 1000000) (hwd : wd ≤ 32) (hm : m < 18446744073709551616) (hleft : left ≤ 20000) (hg : w.cell? ⟨0, 0, none⟩ = some (.iface st sp)) :
    Calls Tryd.prog 110 #[.string s, .int .i64 wd, .int .u64 m, .int .i64 left] w fun e w' => RetPart (Um.same s.data.toList wd m left) (.iface st sp) e w' ∧ Below w.heap.size w w' := by
  by_cases h : m = 0 ∨ (m ≠ 0 ∧ left < m) ∨ (m ≠ 0 ∧ ¬ left < m ∧ s.size < (wd + 7) / 8)
  · have e : Um.same s.data.toList wd m left = none := by
      unfold Um.same
      rw [if_neg]
      intro hc
      have : s.data.toList.length = s.size := by simp
      omega
    rw [e]
    exact readSame_bad s wd m left w st sp hs hwd hm hleft hg h
  · exact readSame_main s wd m left w st sp hs hwd hleft hg (by omega) (by omega) (by omega)
end Go.Proofs.YtjchkhdmjbojjaaDoor

namespace Go.Proofs.YtjchkhdmjbojjaaDoor
open Go.RowKit
set_option linter.unusedVariables false
set_option maxRecDepth 100000 in
set_option maxHeartbeats 1600000 in
theorem readGroups_bad (s : ByteArray) (wd m left : Nat) (w : World) (st : TypeId) (sp : Value) (hs : s.size ≤ 1000000) (hwd : wd ≤ 32) (hm : m < 18446744073709551616) (hleft : left ≤ 20000) (hg : w.cell? ⟨0, 0, none⟩ = some (.iface st sp))
    (hbad : m = 0 ∨ (m ≠ 0 ∧ (left + 7) / 8 < m) ∨ (m ≠ 0 ∧ ¬ (left + 7) / 8 < m ∧ s.size < m * wd)) :
    Calls Tryd.prog 111 #[.string s, .int .i64 wd, .int .u64 m, .int .i64 left] w fun e w' => e = .returned (.tuple #[.slice none 0 0, .int .i64 0, .iface st sp]) ∧ Below w.heap.size w w' := by
  obtain ⟨z, HZ⟩ : ∃ z, Hid (z = (left + 7) / 8) := ⟨_, rfl⟩
  have hz : z ≤ 2500 := by rw [HZ.out]; omega
  rw [← HZ.out] at hbad
  obtain ⟨y, HY⟩ : ∃ y, Hid (y = m * wd) := ⟨_, rfl⟩
  have hy : (m : Int) * (wd : Int) = (y : Int) := by rw [HY.out]; simp
  rw [← HY.out] at hbad
  have hbad : ((m : Int) == 0) = true ∨ (((m : Int) == 0) = false ∧ z < m) ∨ (((m : Int) == 0) = false ∧ ¬ z < m ∧ s.size < y) := by
    rcases hbad with h | ⟨h, h'⟩ | ⟨h, h', h''⟩
    · left; simp; omega
    · right; left; exact ⟨by simp; omega, h'⟩
    · right; right; exact ⟨by simp; omega, h', h''⟩
  rcases hbad with h | ⟨h, h'⟩ | ⟨h, h', h''⟩
  · go_enter Tryd.func111, Tryd.ntmps111
    go_wp2_with fail
    go_region
    all_goals (try go_wp2)
    all_goals go_ret3
    all_goals exact ⟨rfl, (Below.refl _ _).drew⟩
  · go_enter Tryd.func111, Tryd.ntmps111
    go_wp2_with fail
    refine (eights_any left _ (by omega)).mono ?_
    rw [← HZ.out]
    rintro e w2 ⟨rfl, hw⟩
    obtain rfl := hw.symm
    go_wp2_with fail
    go_region
    all_goals (try go_wp2)
    all_goals go_ret3
    all_goals exact ⟨rfl, (Below.refl _ _).drew⟩
  · have hyb : y ≤ 2500 * 32 := by rw [HY.out]; exact Nat.mul_le_mul (by omega) hwd
    go_enter Tryd.func111, Tryd.ntmps111
    go_wp2_with fail
    refine (eights_any left _ (by omega)).mono ?_
    rw [← HZ.out]
    rintro e w2 ⟨rfl, hw⟩
    obtain rfl := hw.symm
    go_wp2_with fail
    go_region
    all_goals (try go_wp2)
    all_goals go_ret3
    all_goals exact ⟨rfl, (Below.refl _ _).drew⟩
set_option maxRecDepth 100000 in
set_option maxHeartbeats 1600000 in
theorem readGroups_main (s : ByteArray) (wd m left : Nat) (w : World) (st : TypeId) (sp : Value) (hs : s.size ≤ 1000000) (hwd : wd ≤ 32) (hleft : left ≤ 20000) (hg : w.cell? ⟨0, 0, none⟩ = some (.iface st sp))
    (h0 : m ≠ 0) (h1 : ¬ (left + 7) / 8 < m) (h2 : ¬ s.size < m * wd) :
    Calls Tryd.prog 111 #[.string s, .int .i64 wd, .int .u64 m, .int .i64 left] w fun e w' => RetPart (Um.grps s.data.toList wd m left) (.iface st sp) e w' ∧ Below w.heap.size w w' := by
  obtain ⟨z, HZ⟩ : ∃ z, Hid (z = (left + 7) / 8) := ⟨_, rfl⟩
  have hz : z ≤ 2500 := by rw [HZ.out]; omega
  have h81 : 8 * m < left + 8 := by omega
  rw [← HZ.out] at h1
  obtain ⟨y, HY⟩ : ∃ y, Hid (y = m * wd) := ⟨_, rfl⟩
  have hy : (m : Int) * (wd : Int) = (y : Int) := by rw [HY.out]; simp
  have hyb : y ≤ 2500 * 32 := by rw [HY.out]; exact Nat.mul_le_mul (by omega) hwd
  rw [← HY.out] at h2
  obtain ⟨q, HQ⟩ : ∃ q, Hid (q = 8 * m) := ⟨_, rfl⟩
  have hq : (8 : Int) * (m : Int) = (q : Int) := by rw [HQ.out]; simp
  have hq8 : q < left + 8 := by rw [HQ.out]; omega
  have hq0 : 0 < q := by rw [HQ.out]; omega
  have hm0 : ((m : Int) == 0) = false := by simp; omega
  have HG : Hid (w.cell? ⟨0, 0, none⟩ = some (.iface st sp)) := hg
  have HGr : Hid (Um.grps s.data.toList wd m left = if (∀ x ∈ (Um.unp s.data.toList wd q).drop left, x = 0) then some ((Um.unp s.data.toList wd q).take left, y) else none) := by
    show _ = _
    unfold Um.grps
    rw [← HQ.out, ← HY.out, ← HZ.out]
    by_cases hc : ∀ x ∈ (Um.unp s.data.toList wd q).drop left, x = 0
    · rw [if_pos ⟨⟨by omega, by omega⟩, by simp; omega, hc⟩, if_pos hc]
    · rw [if_neg (fun h => hc h.2.2), if_neg hc]
  have HF : Hid (wd * q ≤ 8 * s.size) := by
    show _ ≤ _
    have : wd * q = 8 * y := by rw [HQ.out, HY.out, Nat.mul_left_comm, Nat.mul_comm wd]
    omega
  clear hg h81
  go_enter Tryd.func111, Tryd.ntmps111
  go_wp2_with fail
  refine (eights_any left _ (by omega)).mono ?_
  rw [← HZ.out]
  rintro e w2 ⟨rfl, hw⟩
  obtain rfl := hw.symm
  go_wp2_with fail
  refine (unpack_any s wd q w hs (by omega) hwd HF.out).mono ?_
  rintro e w3 ⟨⟨rfl, hc⟩, hb3⟩
  have HC : Hid (∀ j, j < q → w3.cell? ⟨w.heap.size, j, none⟩ = some (.int .i64 ((Um.lev s.data.toList / 2 ^ (wd * j) % 2 ^ wd : Nat) : Int))) := hc
  have hg3 := (hb3.cell (World.block_lt_of_cell? w _ HG.out)).trans HG.out
  clear hc
  by_cases hlq : left < q
  · have hne : ¬ q = left := by omega
    have HU : Hid (∀ j, j < q - left → (j < ((Um.unp s.data.toList wd q).drop left).length) ∧ ∀ h, ((Um.unp s.data.toList wd q).drop left)[j]'h = Um.lev s.data.toList / 2 ^ (wd * (left + j)) % 2 ^ wd) := fun j hj => ⟨by simp [Um.unp_len]; omega, fun h => by
      rw [List.getElem_drop, Um.unp_get _ _ _ _ (by omega)]⟩
    go_wp2_with fail
    go_loopw [8, 47] (fun p8 x wr => ∃ j : Nat, p8 = .slice (some ⟨w.heap.size, 0, none⟩) q q ∧ j ≤ q - left ∧ x = .int .i64 j ∧ wr = w3 ∧ Hid (∀ i, i < j → Um.lev s.data.toList / 2 ^ (wd * (left + i)) % 2 ^ wd = 0)) (fun _ x _ => q - left - (intOf x).toNat)
    case atStart => exact ⟨0, rfl, Nat.zero_le _, rfl, rfl, fun i h => absurd h (Nat.not_lt_zero _)⟩
    case round =>
      obtain ⟨j, rfl, hj, rfl, hwr, HP⟩ := hrel
      obtain rfl := hwr.symm
      by_cases hlt : j < q - left
      · have hcj := HC.out (left + j) (by omega)
        have HPJ : Hid (∀ i, i < j + 1 → (i = j ∧ Um.lev s.data.toList / 2 ^ (wd * (left + i)) % 2 ^ wd = Um.lev s.data.toList / 2 ^ (wd * (left + j)) % 2 ^ wd) ∨ Um.lev s.data.toList / 2 ^ (wd * (left + i)) % 2 ^ wd = 0) := fun i hi => by
          by_cases e : i = j
          · subst e; exact Or.inl ⟨rfl, rfl⟩
          · exact Or.inr (HP.out i (by omega))
        have HV : Hid (∃ h, ((Um.unp s.data.toList wd q).drop left)[j]'h = Um.lev s.data.toList / 2 ^ (wd * (left + j)) % 2 ^ wd) := ⟨(HU.out j hlt).1, (HU.out j hlt).2 _⟩
        generalize Um.lev s.data.toList / 2 ^ (wd * (left + j)) % 2 ^ wd = v at hcj HPJ HV
        by_cases hv : v = 0
        · subst hv
          go_wp2_with fail
          go_roundw
          case rel => exact ⟨j + 1, rfl, by omega, by go_num, trivial, fun i hi => by rcases HPJ.out i hi with ⟨_, h⟩ | h <;> exact h⟩
          case measure => simp [intOf]; omega
        · have hvb : ((v : Int) != 0) = true := by simp; omega
          have HN : Hid (Um.grps s.data.toList wd m left = none) := by
            show _ = _
            rw [HGr.out, if_neg]
            intro hall
            obtain ⟨h, e⟩ := HV.out
            exact hv (by rw [← e]; exact hall _ (List.getElem_mem h))
          clear hv
          go_wp2_with fail
          go_region
          all_goals (try go_wp2_with fail)
          all_goals go_ret3
          all_goals (refine ⟨?_, hb3.drew⟩; rw [HN.out]; rfl)
      · obtain rfl : j = q - left := by omega
        have HN : Hid (Um.grps s.data.toList wd m left = some ((Um.unp s.data.toList wd q).take left, y)) := by
          show _ = _
          rw [HGr.out, if_pos]
          intro x hx
          obtain ⟨i, hi, rfl⟩ := List.getElem_of_mem hx
          have hi' : i < q - left := by simpa [Um.unp_len] using hi
          rw [(HU.out i hi').2 hi]
          exact HP.out i hi'
        go_wp2_with fail
        go_ret3
        refine ⟨?_, hb3⟩
        rw [HN.out]
        have hll : ((Um.unp s.data.toList wd q).take left).length = left := by simp [Um.unp_len]; omega
        refine ⟨some ⟨w.heap.size, 0, none⟩, q, by rw [hll]; rfl, fun j hj => ⟨w.heap.size, 0, rfl, ?_⟩⟩
        have hj' : j < left := by rw [i64s_len, List.length_map, hll] at hj; exact hj
        rw [Nat.zero_add, HC.out j (by omega)]
        simp only [i64s, List.getElem_map, List.getElem_take]
        rw [Um.unp_get _ _ _ _ (by omega)]
  · have HN : Hid (Um.grps s.data.toList wd m left = some (Um.unp s.data.toList wd q, y)) := by
      show _ = _
      rw [HGr.out, List.drop_of_length_le (by rw [Um.unp_len]; omega), List.take_of_length_le (by rw [Um.unp_len]; omega), if_pos (fun x hx => by cases hx)]
    have hle : q ≤ left := by omega
    go_wp2_with fail
    all_goals
      refine wp_loop_rounds 1 ?_
      rw [rounds_succ]
      go_wp2_with fail
      go_ret3
      refine ⟨?_, hb3⟩
      rw [HN.out]
      have hll : (Um.unp s.data.toList wd q).length = q := Um.unp_len _ _ _
      refine ⟨some ⟨w.heap.size, 0, none⟩, q, by rw [hll]; first | rfl | (congr 1; simp; omega), fun j hj => ⟨w.heap.size, 0, rfl, ?_⟩⟩
      have hj' : j < q := by rw [i64s_len, List.length_map, hll] at hj; exact hj
      rw [Nat.zero_add, HC.out j hj']
      simp only [i64s, List.getElem_map]
      rw [Um.unp_get _ _ _ _ hj']
theorem readGroups_any (s : ByteArray) (wd m left : Nat) (w : World) (st : TypeId) (sp : Value) (hs : s.size ≤ 1000000) (hwd : wd ≤ 32) (hm : m < 18446744073709551616) (hleft : left ≤ 20000) (hg : w.cell? ⟨0, 0, none⟩ = some (.iface st sp)) :
    Calls Tryd.prog 111 #[.string s, .int .i64 wd, .int .u64 m, .int .i64 left] w fun e w' => RetPart (Um.grps s.data.toList wd m left) (.iface st sp) e w' ∧ Below w.heap.size w w' := by
  by_cases h : m = 0 ∨ (m ≠ 0 ∧ (left + 7) / 8 < m) ∨ (m ≠ 0 ∧ ¬ (left + 7) / 8 < m ∧ s.size < m * wd)
  · have e : Um.grps s.data.toList wd m left = none := by
      unfold Um.grps
      rw [if_neg]
      intro hc
      have : s.data.toList.length = s.size := by simp
      omega
    rw [e]
    exact readGroups_bad s wd m left w st sp hs hwd hm hleft hg h
  · exact readGroups_main s wd m left w st sp hs hwd hleft hg (by omega) (by omega) (by omega)
end Go.Proofs.YtjchkhdmjbojjaaDoor
