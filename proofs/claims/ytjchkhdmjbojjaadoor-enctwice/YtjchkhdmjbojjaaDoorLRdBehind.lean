/-
  enc.readBehind: a text read behind the one ahead.
-/
import Derived.Test.YtjchkhdmjbojjaaDoorLBRdMathT
import Derived.Test.YtjchkhdmjbojjaaDoorLRdTexts
import Derived.Test.YtjchkhdmjbojjaaDoorLBPref
namespace Go.Proofs.YtjchkhdmjbojjaaDoor
open Go.RowKit
/-- What readBehind answers. -/
def ansB (o : Option (List UInt8 × Nat)) (ev : Value) : Value :=
  match o with
  | some p => .tuple #[.string (mk p.1), .int .i64 p.2, .nilIface]
  | none => .tuple #[.string ⟨#[]⟩, .int .i64 0, ev]
theorem ansB_none {o : Option (List UInt8 × Nat)} {ev : Value} (h : o = none) : Ending.returned (.tuple #[.string ⟨#[]⟩, .int .i64 0, ev]) = .returned (ansB o ev) := by rw [h]; rfl
set_option maxRecDepth 100000 in
set_option maxHeartbeats 1600000 in
theorem readBehind_any (a s : ByteArray) (w : World) (st : TypeId) (sp : Value) (hg : w.cell? ⟨0, 0, none⟩ = some (.iface st sp)) (ha : a.size ≤ 100) (hs : s.size ≤ 1000000) :
    Calls Tryd.prog 112 #[.string a, .string s] w fun e w' => e = .returned (ansB (Um.rdb a.data.toList s.data.toList) (.iface st sp)) ∧ Below w.heap.size w w' := by
  have hm : s.size ≤ maxLen := by unfold maxLen; omega
  generalize hp : Um.rdv s.data.toList 0 0 = p
  obtain ⟨m, i⟩ := p
  have hroom := Um.rdv_room s.data.toList 0 0 (by simp)
  rw [hp] at hroom
  have hm64 : m < 18446744073709551616 := hroom.1
  have hi10 : i ≤ 10 := hroom.2.1
  have hil : i ≤ s.size := by have := hroom.2.2; simpa using this
  clear hroom
  generalize hq : Um.rdv (s.data.toList.drop i) 0 0 = q
  obtain ⟨m2, j⟩ := q
  have HRB : Hid (Um.rdb a.data.toList s.data.toList = if 0 < i ∧ m ≤ a.size ∧ 0 < j ∧ i + j + m2 ≤ s.size ∧ (a.data.toList.take m ++ ((s.data.toList.drop (i + j)).take m2)).length ≤ 100 ∧ Um.lcp a.data.toList (a.data.toList.take m ++ ((s.data.toList.drop (i + j)).take m2)) = m then some (a.data.toList.take m ++ ((s.data.toList.drop (i + j)).take m2), i + j + m2) else none) := by
    show _ = _
    unfold Um.rdb
    simp only [hp, hq]
    rfl
  have HP : Hid (Um.rdv s.data.toList 0 0 = (m, i)) := hp
  have HQ : Hid (Um.rdv (s.data.toList.drop i) 0 0 = (m2, j)) := hq
  clear hp hq
  by_cases hi : 0 < i
  · by_cases hma : m ≤ a.size
    · have hsx : (s.extract i s.size).size ≤ 1000000 := by rw [ByteArray.size_extract]; omega
      have HX : Hid (Um.rdv (s.extract i s.size).data.toList 0 0 = (m2, j)) := by
        show _ = _
        rw [drop_ext s i]; exact HQ.out
      go_enter Tryd.func112, Tryd.ntmps112
      go_wp2_with fail
      refine (readU_hit s _ _ m i hm hg HP.out hi).mono ?_
      rintro e w1 ⟨rfl, hb1⟩
      have hg1 := (hb1.cell (World.block_lt_of_cell? w _ hg)).trans hg
      go_wp2_with fail
      by_cases hj : 0 < j
      · by_cases hf : j + m2 ≤ (s.extract i s.size).size ∧ m2 ≤ 200000
        · obtain ⟨hf, h2⟩ := hf
          refine (readT_hit (s.extract i s.size) _ _ m2 j (by omega) hg1 HX.out hj h2 hf).mono ?_
          rintro e w2 ⟨rfl, hb2⟩
          have hg2 := (hb2.cell (World.block_lt_of_cell? w1 _ hg1)).trans hg1
          have hb : Below w.heap.size w w2 := hb1.trans (hb2.mono hb1.size)
          have hxz : ((s.extract i s.size).extract j (j + m2)).size = m2 := by rw [ByteArray.size_extract]; omega
          have HXL : Hid (((s.extract i s.size).extract j (j + m2)).data.toList = (s.data.toList.drop (i + j)).take m2) := by
            show _ = _
            rw [ext_take, drop_ext, List.drop_drop]
          have hsi : i + j + m2 ≤ s.size := by rw [ByteArray.size_extract] at hf; omega
          generalize (s.extract i s.size).extract j (j + m2) = x at *
          rw [← HXL.out] at HRB
          clear HXL
          have HT : Hid ((a.extract 0 m ++ x).data.toList = a.data.toList.take m ++ x.data.toList) := by
            show _ = _
            rw [ByteArray.data_append, Array.toList_append]
            congr 1
            have h := ext_take a 0 m
            rwa [Nat.zero_add, List.drop_zero] at h
          have htz : (a.extract 0 m ++ x).size = m + m2 := by rw [ByteArray.size_append, ByteArray.size_extract, hxz]; omega
          have HTL : Hid ((a.data.toList.take m ++ x.data.toList).length = m + m2) := by
            show _ = _
            rw [← HT.out, Array.length_toList]; exact htz
          by_cases h100 : m + m2 ≤ 100
          · have hd : decide (100 < (m : Int) + (m2 : Int)) = false := by simp; omega
            obtain ⟨c, HC⟩ : ∃ c, Hid (c = Um.lcp a.data.toList (a.extract 0 m ++ x).data.toList) := ⟨_, rfl⟩
            have hc100 : c ≤ 100 := by
              rw [HC.out]
              refine Nat.le_trans (Um.lcp_le _ _).1 ?_
              rw [Array.length_toList]; exact ha
            by_cases hcm : c = m
            · subst hcm
              have HY : Hid (Um.rdb a.data.toList s.data.toList = some ((a.extract 0 c ++ x).data.toList, i + j + m2)) := by
                show _ = _
                rw [HRB.out, if_pos ⟨hi, hma, hj, hsi, by rw [HTL.out]; exact h100, by rw [← HT.out]; exact HC.out.symm⟩, HT.out]
              go_wp2_with (first | (go_at_call 105; refine (inCommon_any a (a.extract 0 c ++ x) _ ha (by omega)).mono ?_; rw [← HC.out]; rintro e w3 ⟨rfl, hb3⟩) | fail)
              go_ret3
              refine ⟨?_, hb.trans (hb3.mono hb.size)⟩
              rw [HY.out]
              show Ending.returned _ = Ending.returned (.tuple #[.string (mk (a.extract 0 c ++ x).data.toList), .int .i64 ((i + j + m2 : Nat) : Int), .nilIface])
              rw [mk_bytes, show ((i + j + m2 : Nat) : Int) = (i : Int) + ((j : Int) + (m2 : Int)) by omega]
              rfl
            · have HNo : Hid (Um.rdb a.data.toList s.data.toList = none) := by
                show _ = _
                rw [HRB.out, if_neg]
                rintro ⟨c1, c2, c3, c4, c5, c6⟩
                rw [← HT.out] at c6
                exact hcm (HC.out.trans c6)
              go_wp2_with (first | (go_at_call 105; refine (inCommon_any a (a.extract 0 m ++ x) _ ha (by omega)).mono ?_; rw [← HC.out]; rintro e w3 ⟨rfl, hb3⟩; have hg3 := (hb3.cell (World.block_lt_of_cell? w2 _ hg2)).trans hg2) | fail)
              go_region
              all_goals (try go_wp2)
              all_goals go_ret3
              all_goals exact ⟨ansB_none HNo.out, (hb.trans (hb3.mono hb.size)).drew⟩
          · have HNo : Hid (Um.rdb a.data.toList s.data.toList = none) := by
              show _ = _
              rw [HRB.out, if_neg]
              rintro ⟨c1, c2, c3, c4, c5, c6⟩
              rw [HTL.out] at c5
              exact h100 c5
            have hd : decide (100 < (m : Int) + (m2 : Int)) = true := by simp; omega
            go_wp2_with fail
            go_region
            all_goals (try go_wp2)
            all_goals go_ret3
            all_goals exact ⟨ansB_none HNo.out, hb.drew⟩
        · have HNo : Hid (Um.rdb a.data.toList s.data.toList = none) := by
            show _ = _
            rw [HRB.out, if_neg]
            rintro ⟨c1, c2, c3, c4, c5, c6⟩
            rw [List.length_append, List.length_take, List.length_take, List.length_drop, Array.length_toList, Array.length_toList] at c5
            rw [ByteArray.size_extract] at hf
            have e1 : a.data.size = a.size := rfl
            have e2 : s.data.size = s.size := rfl
            omega
          refine (readT_long (s.extract i s.size) _ _ m2 j hsx hg1 HX.out hj (by omega)).mono ?_
          rintro e w2 ⟨rfl, hb2⟩
          go_wp2
          go_ret3
          exact ⟨ansB_none HNo.out, hb1.trans (hb2.mono hb1.size)⟩
      · obtain rfl : j = 0 := by omega
        have HNo : Hid (Um.rdb a.data.toList s.data.toList = none) := by show _ = _; rw [HRB.out, if_neg (by omega)]
        have HX0 : Hid (Um.rdv (s.extract i s.size).data.toList 0 0 = (0, 0)) := by
          show _ = _
          rw [HX.out, Um.rdv_zero HX.out]
        refine (readT_none (s.extract i s.size) _ st sp (by unfold maxLen; omega) hg1 HX0.out).mono ?_
        rintro e w2 ⟨rfl, hb2⟩
        go_wp2
        go_ret3
        exact ⟨ansB_none HNo.out, hb1.trans (hb2.mono hb1.size)⟩
    · go_enter Tryd.func112, Tryd.ntmps112
      have HNo : Hid (Um.rdb a.data.toList s.data.toList = none) := by show _ = _; rw [HRB.out, if_neg (by omega)]
      go_wp2_with fail
      refine (readU_hit s _ _ m i hm hg HP.out hi).mono ?_
      rintro e w1 ⟨rfl, hb1⟩
      have hg1 := (hb1.cell (World.block_lt_of_cell? w _ hg)).trans hg
      go_wp2_with fail
      go_region
      all_goals (try go_wp2)
      all_goals go_ret3
      all_goals exact ⟨ansB_none HNo.out, hb1.drew⟩
  · obtain rfl : i = 0 := by omega
    have HNo : Hid (Um.rdb a.data.toList s.data.toList = none) := by show _ = _; rw [HRB.out, if_neg (by omega)]
    have HP0 : Hid (Um.rdv s.data.toList 0 0 = (0, 0)) := by
      show _ = _
      rw [HP.out, Um.rdv_zero HP.out]
    go_enter Tryd.func112, Tryd.ntmps112
    go_wp2_with fail
    refine (readU_miss s _ (.iface st sp) hm hg HP0.out).mono ?_
    rintro e w1 ⟨rfl, hb1⟩
    go_wp2
    go_ret3
    exact ⟨ansB_none HNo.out, hb1⟩
end Go.Proofs.YtjchkhdmjbojjaaDoor
