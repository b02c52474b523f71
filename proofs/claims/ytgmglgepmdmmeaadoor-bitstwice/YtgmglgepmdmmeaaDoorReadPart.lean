/-
  bitrun.readPart: a part of whatever kind.
-/
import Derived.Test.YtgmglgepmdmmeaaDoorReadGrps
import Derived.Test.YtgmglgepmdmmeaaDoorRd
namespace Go.Proofs.YtgmglgepmdmmeaaDoor
open Go.RowKit
set_option linter.unusedVariables false
theorem cut_list (s : ByteArray) (k : Nat) : (s.extract k s.size).data.toList = s.data.toList.drop k := by
  rw [ByteArray.data_extract, Array.toList_extract]
  simp only [List.extract_eq_take_drop]
  exact List.take_of_length_le (by simp)
theorem cut_size (s : ByteArray) (k : Nat) : (s.extract k s.size).size ≤ s.size := by rw [ByteArray.size_extract]; omega
theorem retPart_map {r : Option (List Nat × Nat)} {ev : Value} {e : Ending} {w' : World} (h : RetPart r ev e w') : (r = none ∧ e = .returned (.tuple #[.slice none 0 0, .int .i64 0, ev])) ∨ ∃ p u a c, r = some (p, u) ∧ e = .returned (.tuple #[.slice a (List.length p) c, .int .i64 (u : Nat), .nilIface]) ∧ Lies w' a (i64s (p.map fun n : Nat => (n : Int))) := by
  cases r with
  | none => exact Or.inl ⟨rfl, h⟩
  | some x =>
    obtain ⟨p, u⟩ := x
    obtain ⟨a, c, he, hl⟩ := h
    exact Or.inr ⟨p, u, a, c, rfl, he, hl⟩
set_option maxRecDepth 100000 in
set_option maxHeartbeats 1600000 in
theorem readPart_any (s : ByteArray) (wd left : Nat) (w : World) (st : TypeId) (sp : Value) (hs : s.size ≤ 1000000) (hwd : wd ≤ 32) (hleft : left ≤ 20000) (hl0 : 0 < left) (hg : w.cell? ⟨1, 0, none⟩ = some (.iface st sp)) :
    Calls Tryd.prog 42 #[.string s, .int .i64 wd, .int .i64 left] w fun e w' => RetPart (Um.part s.data.toList wd left) (.iface st sp) e w' ∧ Below w.heap.size w w' := by
  have HG : Hid (w.cell? ⟨1, 0, none⟩ = some (.iface st sp)) := hg
  obtain ⟨hr1, hr2, hr3⟩ := Um.rdv_room s.data.toList 0 0 (by simp)
  have hr3 : (Um.rdv s.data.toList 0 0).2 ≤ s.size := by simpa using hr3
  have HP : Hid (Um.part s.data.toList wd left = if (Um.rdv s.data.toList 0 0).2 = 0 then none else (if (Um.rdv s.data.toList 0 0).1 % 2 = 0 then Um.same (s.data.toList.drop (Um.rdv s.data.toList 0 0).2) wd ((Um.rdv s.data.toList 0 0).1 / 2) left else Um.grps (s.data.toList.drop (Um.rdv s.data.toList 0 0).2) wd ((Um.rdv s.data.toList 0 0).1 / 2) left).map fun p => (p.1, (Um.rdv s.data.toList 0 0).2 + p.2)) := rfl
  clear hg
  go_enter Tryd.func42, Tryd.ntmps42
  go_wp2_with fail
  refine (readUvarint_any s w _ (by unfold maxLen; omega) HG.out).mono ?_
  generalize (Um.rdv s.data.toList 0 0).1 = h at hr1 HP
  generalize (Um.rdv s.data.toList 0 0).2 = k at hr2 hr3 HP
  rintro e w1 ⟨rfl, hb1⟩
  by_cases hk : k = 0
  · subst hk
    have HN := HP.out
    rw [if_pos rfl] at HN
    have HN2 : Hid (Um.part s.data.toList wd left = none) := HN
    clear HN
    have he : errOf (.iface st sp) 0 = .iface st sp := rfl
    rw [he]
    clear he
    go_wp2_with fail
    go_ret3
    refine ⟨?_, hb1⟩
    rw [HN2.out]
    rfl
  · have HN := HP.out
    rw [if_neg hk] at HN
    have he : errOf (.iface st sp) k = .nilIface := by unfold errOf; rw [if_neg hk]
    rw [he]
    have hg1 := (hb1.cell (World.block_lt_of_cell? w _ HG.out)).trans HG.out
    have HG1 : Hid (w1.cell? ⟨1, 0, none⟩ = some (.iface st sp)) := hg1
    clear hg1 he
    by_cases hpar : h % 2 = 0
    · have hd : (((h : Int) % 2) == 0) = true := by simp; omega
      rw [if_pos hpar] at HN
      have HN2 : Hid (Um.part s.data.toList wd left = (Um.same (s.data.toList.drop k) wd (h / 2) left).map fun p => (p.1, k + p.2)) := HN
      clear HN
      obtain ⟨m2, HM⟩ : ∃ m2, Hid (m2 = h / 2) := ⟨_, rfl⟩
      have hm2 : (h : Int) / 2 = (m2 : Int) := by rw [HM.out]; omega
      have hm3 : m2 < 18446744073709551616 := by rw [HM.out]; omega
      have HS : Hid ((s.extract k s.size).size ≤ 1000000) := Nat.le_trans (cut_size s k) hs
      go_wp2_with fail
      refine (readSame_any (s.extract k s.size) wd m2 left w1 st sp HS.out hwd hm3 hleft HG1.out).mono ?_
      rw [cut_list, HM.out]
      rintro e w2 ⟨hret, hb2⟩
      have hb12 := hb1.trans (hb2.mono hb1.size)
      rcases retPart_map hret with ⟨hn, rfl⟩ | ⟨p, u, a, c, hn, rfl, hl⟩
      · rw [hn] at HN2
        have HN3 : Hid (Um.part s.data.toList wd left = none) := HN2
        clear hn HN2 hret
        go_wp2_with fail
        go_ret3
        refine ⟨?_, hb12⟩
        rw [HN3.out]
        rfl
      · have hu : u ≤ s.size := by
          have := (Um.same_len hn).2
          rw [List.length_drop] at this
          simp at this
          omega
        rw [hn] at HN2
        have HN3 : Hid (Um.part s.data.toList wd left = some (p, k + u)) := HN2
        have HLs : Hid (Lies w2 a (i64s (p.map fun n : Nat => (n : Int)))) := hl
        clear hn HN2 hret hl
        go_wp2_with fail
        go_ret3
        refine ⟨?_, hb12⟩
        rw [HN3.out]
        exact ⟨a, c, by simp, HLs.out⟩
    · have hd : (((h : Int) % 2) == 0) = false := by simp; omega
      rw [if_neg hpar] at HN
      have HN2 : Hid (Um.part s.data.toList wd left = (Um.grps (s.data.toList.drop k) wd (h / 2) left).map fun p => (p.1, k + p.2)) := HN
      clear HN
      obtain ⟨m2, HM⟩ : ∃ m2, Hid (m2 = h / 2) := ⟨_, rfl⟩
      have hm2 : (h : Int) / 2 = (m2 : Int) := by rw [HM.out]; omega
      have hm3 : m2 < 18446744073709551616 := by rw [HM.out]; omega
      have HS : Hid ((s.extract k s.size).size ≤ 1000000) := Nat.le_trans (cut_size s k) hs
      go_wp2_with fail
      refine (readGroups_any (s.extract k s.size) wd m2 left w1 st sp HS.out hwd hm3 hleft HG1.out).mono ?_
      rw [cut_list, HM.out]
      rintro e w2 ⟨hret, hb2⟩
      have hb12 := hb1.trans (hb2.mono hb1.size)
      rcases retPart_map hret with ⟨hn, rfl⟩ | ⟨p, u, a, c, hn, rfl, hl⟩
      · rw [hn] at HN2
        have HN3 : Hid (Um.part s.data.toList wd left = none) := HN2
        clear hn HN2 hret
        go_wp2_with fail
        go_ret3
        refine ⟨?_, hb12⟩
        rw [HN3.out]
        rfl
      · have hu : u ≤ s.size := by
          have := (Um.grps_len hl0 hn).2
          rw [List.length_drop] at this
          simp at this
          omega
        rw [hn] at HN2
        have HN3 : Hid (Um.part s.data.toList wd left = some (p, k + u)) := HN2
        have HLs : Hid (Lies w2 a (i64s (p.map fun n : Nat => (n : Int)))) := hl
        clear hn HN2 hret hl
        go_wp2_with fail
        go_ret3
        refine ⟨?_, hb12⟩
        rw [HN3.out]
        exact ⟨a, c, by simp, HLs.out⟩
end Go.Proofs.YtgmglgepmdmmeaaDoor
