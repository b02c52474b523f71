/-
  enc.readTexts: the texts that bytes are.
-/
import Derived.Test.YtjchkhdmjbojjaaDoorLBRdMathT
import Derived.Test.YtjchkhdmjbojjaaDoorLRdNums
import Derived.Test.YtjchkhdmjbojjaaDoorLBRd2
namespace Go.Proofs.YtjchkhdmjbojjaaDoor
open Go.RowKit
theorem VRow.congr {f f' : Nat → Vl} {n g : Nat} {w wr : World} {i : Nat} (h : VRow f n g w wr i) (he : ∀ j, j < i → f j = f' j) : VRow f' n g w wr i :=
  ⟨fun j hj => by rw [← he j hj]; exact h.done j hj, h.any, h.froz, h.old⟩
/-- A text as a value. -/
def tv (l : List UInt8) : Vl := ⟨4, 0, ⟨l.toArray⟩⟩
theorem ext_take (s : ByteArray) (k m : Nat) : (s.extract k (k + m)).data.toList = (s.data.toList.drop k).take m := by
  rw [ByteArray.data_extract, Array.toList_extract, List.extract_eq_take_drop]
  congr 1; omega
theorem ba_mk (s : ByteArray) : (⟨s.data.toList.toArray⟩ : ByteArray) = s := by cases s; simp
set_option maxRecDepth 100000 in
set_option maxHeartbeats 1600000 in
theorem readTexts_any (s : ByteArray) (n : Nat) (w : World) (st : TypeId) (sp : Value) (hg : w.cell? ⟨0, 0, none⟩ = some (.iface st sp)) (hs : s.size ≤ 1000000) (hn : n ≤ 20000) :
    Calls Tryd.prog 50 #[.string s, .int .i64 n] w fun e w' => RetRd (IsPl 4 s.data.toList n) n (.iface st sp) e w' ∧ Below w.heap.size w w' := by
  obtain ⟨iv, hvi, hv0, hv1, hv2⟩ := info_parts Tryd.infoV
  obtain ⟨M, hM⟩ : ∃ M, M = madeCells (Value.agg #[.int .i64 0, .int .i64 0, .string ⟨#[]⟩]).cells (((n : Nat) : Int).toNat * iv.size) := ⟨_, rfl⟩
  have hMs : M.size = n * 3 := by rw [hM, size_madeCells, hv1]; simp
  have hmk : ∀ W : World, (Instr.makeSlice 22 (.int .i64 (n : Int)) (.int .i64 (n : Int))).run Tryd.prog W = .ok (.slice (some ⟨W.heap.size, 0, none⟩) n n) (W.alloc (.cells M 45)) := fun W => by
    have h := run_make (P := Tryd.prog) W 22 45 iv (.agg #[.int .i64 0, .int .i64 0, .string ⟨#[]⟩]) Tryd.underlying22 hvi hv0 .i64 .i64 (n : Int) (n : Int) (by omega) (by omega) (by rw [hv2]; omega) (by omega)
    rw [← hM] at h
    simpa using h
  have HS : Hid (VRow (fun j => tv (([] : List (List UInt8)).getD j [])) n w.heap.size w (w.alloc (.cells M 45)) 0) := VRow.start _ _ _ _ _ hMs
  have HG : Hid _ := hg
  clear hM hMs hg
  go_enter Tryd.func50, Tryd.ntmps50
  go_wp2
  clear hmk
  go_loopw [0, 15] (fun y x wr => ∃ (i : Nat) (r : ByteArray) (ss : List (List UInt8)), i ≤ n ∧ x = .int .i64 i ∧ y = .string r ∧ r.size ≤ s.size ∧ w.heap.size < wr.heap.size ∧ Hid (ss.length = i) ∧ Hid (Um.rdt n s.data.toList = (Um.rdt (n - i) r.data.toList).map fun q => ss ++ q) ∧ Hid (VRow (fun j => tv (ss.getD j [])) n w.heap.size w wr i)) (fun _ x _ => n - (intOf x).toNat)
  case atStart => exact ⟨0, s, [], Nat.zero_le _, rfl, rfl, Nat.le_refl _, by simp, rfl, by show _ = _; simp, HS⟩
  case round =>
    clear HS
    obtain ⟨i, r, ss, hik, rfl, rfl, hrs, hsl, HSL, HRD, HV⟩ := hrel
    have hb := HV.out.old
    have hgr := (hb.cell (World.block_lt_of_cell? w _ HG.out)).trans HG.out
    by_cases hlt : i < n
    · generalize hp : Um.rdv r.data.toList 0 0 = p
      obtain ⟨m, k⟩ := p
      have HP : Hid (Um.rdv r.data.toList 0 0 = (m, k)) := hp
      clear hp
      have hroom := Um.rdv_room r.data.toList 0 0 (by simp)
      rw [HP.out] at hroom
      have hk10 : k ≤ 10 := hroom.2.1
      have HSt : Hid (Um.rdt (n - i) r.data.toList = if 0 < k ∧ m ≤ 100 ∧ k + m ≤ r.size then (Um.rdt (n - (i + 1)) (r.data.toList.drop (k + m))).map (fun q => (r.data.toList.drop k).take m :: q) else none) := by
        show _ = _
        rw [show n - i = (n - (i + 1)) + 1 by omega, Um.rdt, HP.out]
        rfl
      clear hroom
      by_cases hk : 0 < k
      · by_cases hf : k + m ≤ r.size
        · have hxt : (r.extract k (k + m)).size = m := by rw [ByteArray.size_extract]; omega
          have HX : Hid ((r.extract k (k + m)).data.toList = (r.data.toList.drop k).take m) := ext_take r k m
          by_cases hm : m ≤ 100
          · go_wp2_with fail
            refine (readT_hit r _ _ m k (by omega) hgr HP.out hk (by omega) hf).mono ?_
            rintro e w1 ⟨rfl, hb1⟩
            have HV1 : Hid _ := HV.out.keep hsl hb1
            obtain ⟨y0, g0⟩ := HV1.out.any (i * 3) (by omega)
            obtain ⟨y1, g1⟩ := HV1.out.any (i * 3 + 1) (by omega)
            obtain ⟨y2, g2⟩ := HV1.out.any (i * 3 + 2) (by omega)
            have f0 := HV1.out.froz (i * 3) (by omega)
            have f1 := HV1.out.froz (i * 3 + 1) (by omega)
            have f2 := HV1.out.froz (i * 3 + 2) (by omega)
            have HV2 : Hid (VRow (fun j => tv ((ss ++ [(r.data.toList.drop k).take m]).getD j [])) n w.heap.size w (((w1.setCell ⟨w.heap.size, i * 3, none⟩ (.int .i64 4)).setCell ⟨w.heap.size, i * 3 + 1, none⟩ (.int .i64 0)).setCell ⟨w.heap.size, i * 3 + 2, none⟩ (.string (r.extract k (k + m)))) (i + 1)) := by
              have hc : VRow (fun j => tv ((ss ++ [(r.data.toList.drop k).take m]).getD j [])) n w.heap.size w w1 i := HV1.out.congr fun j hj => by
                have hj' : j < ss.length := by rw [HSL.out]; exact hj
                simp [List.getD, List.getElem?_append_left hj']
              have h := hc.next (Nat.le_refl _) hlt
              have e : (ss ++ [(r.data.toList.drop k).take m]).getD i [] = (r.data.toList.drop k).take m := by
                rw [← HSL.out]; simp [List.getD]
              simp only [e] at h
              have e2 : (tv ((r.data.toList.drop k).take m)).s = r.extract k (k + m) := by
                unfold tv
                simp only
                rw [← HX.out, ba_mk]
              rw [e2] at h
              exact h
            generalize r.extract k (k + m) = x at *
            obtain ⟨q, HQ⟩ : ∃ q, Hid (q = k + m) := ⟨_, rfl⟩
            have hqr : q ≤ r.size := by rw [HQ.out]; exact hf
            have hrx : (r.extract q r.size).size ≤ s.size := by rw [ByteArray.size_extract]; omega
            have HRX : Hid ((r.extract q r.size).data.toList = r.data.toList.drop (k + m)) := by show _ = _; rw [← HQ.out]; exact drop_ext r q
            have hsl1 : w.heap.size < w1.heap.size := Nat.lt_of_lt_of_le hsl hb1.size
            have hci : (k : Int) + (m : Int) = (q : Int) := by rw [HQ.out]; omega
            go_wp2
            go_roundw
            case rel =>
              refine ⟨i + 1, r.extract q r.size, ss ++ [(r.data.toList.drop k).take m], by omega, by go_num, rfl, hrx, by simpa using hsl1, by show _ = _; rw [List.length_append, HSL.out]; rfl, ?_, HV2⟩
              show _ = _
              rw [HRD.out, HSt.out, if_pos ⟨hk, hm, hf⟩, HRX.out, Option.map_map]
              congr 1
              funext q
              simp
            case measure => simp [intOf]; omega
          · have h2 : m ≤ 200000 ∨ ¬ m ≤ 200000 := by omega
            go_wp2_with fail
            rcases h2 with h2 | h2
            · refine (readT_hit r _ _ m k (by omega) hgr HP.out hk h2 hf).mono ?_
              rintro e w1 ⟨rfl, hb1⟩
              have hg1 := (hb1.cell (World.block_lt_of_cell? wr _ hgr)).trans hgr
              generalize r.extract k (k + m) = x at *
              have HNo : Hid (Um.rdt n s.data.toList = none) := by
                show _ = _
                rw [HRD.out, HSt.out, if_neg (by omega)]; rfl
              go_wp2
              go_region
              all_goals (try go_wp2)
              all_goals go_ret2
              all_goals exact ⟨Or.inr ⟨notPl_texts HNo.out, rfl⟩, (hb.trans (hb1.mono hb.size)).drew⟩
            · refine (readT_long r _ _ m k (by omega) hgr HP.out hk (Or.inr (by omega))).mono ?_
              rintro e w1 ⟨rfl, hb1⟩
              have HNo : Hid (Um.rdt n s.data.toList = none) := by
                show _ = _
                rw [HRD.out, HSt.out, if_neg (by omega)]; rfl
              go_wp2
              go_ret2
              exact ⟨Or.inr ⟨notPl_texts HNo.out, rfl⟩, hb.trans (hb1.mono hb.size)⟩
        · have HNo : Hid (Um.rdt n s.data.toList = none) := by
            show _ = _
            rw [HRD.out, HSt.out, if_neg (by omega)]; rfl
          go_wp2_with fail
          refine (readT_long r _ _ m k (by omega) hgr HP.out hk (Or.inl (by omega))).mono ?_
          rintro e w1 ⟨rfl, hb1⟩
          go_wp2
          go_ret2
          exact ⟨Or.inr ⟨notPl_texts HNo.out, rfl⟩, hb.trans (hb1.mono hb.size)⟩
      · have HNo : Hid (Um.rdt n s.data.toList = none) := by
          show _ = _
          rw [HRD.out, HSt.out, if_neg (by omega)]; rfl
        obtain rfl : k = 0 := by omega
        have HP0 : Hid (Um.rdv r.data.toList 0 0 = (0, 0)) := by
          show _ = _
          rw [HP.out, Um.rdv_zero HP.out]
        go_wp2_with fail
        refine (readT_none r _ _ _ (by unfold maxLen; omega) hgr HP0.out).mono ?_
        rintro e w1 ⟨rfl, hb1⟩
        go_wp2
        go_ret2
        exact ⟨Or.inr ⟨notPl_texts HNo.out, rfl⟩, hb.trans (hb1.mono hb.size)⟩
    · obtain rfl : i = n := by omega
      have hrd := HRD.out
      rw [Nat.sub_self, Um.rdt] at hrd
      by_cases he : r.data.toList = []
      · have HI : Hid (IsPl 4 s.data.toList i (tvs ss)) := isPl_texts (by rw [hrd, if_pos he]; simp)
        have hz : r.toList = [] := by rw [Lib.toList_data]; exact he
        have HLV : Hid (LiesV wr (some ⟨w.heap.size, 0, none⟩) (tvs ss)) := by
          have h := HV.out.lies
          have e : (List.range i).map (fun j => tv (ss.getD j [])) = tvs ss := by
            refine List.ext_getElem (by simp [tvs, HSL.out]) fun j h1 h2 => ?_
            simp [tvs] at h2
            simp [tvs, tv, List.getD, h2]
          rw [e] at h
          exact h
        clear hrd he
        go_wp2
        go_ret2
        exact ⟨Or.inl ⟨tvs ss, _, _, HI.out, rfl, HLV.out⟩, hb⟩
      · have HNo : Hid (Um.rdt i s.data.toList = none) := by show _ = _; rw [hrd, if_neg he]; rfl
        have hz : r.toList.isEmpty = false := by rw [Lib.toList_data, List.isEmpty_eq_false_iff]; exact he
        clear hrd he
        go_wp2
        go_region
        all_goals (try go_wp2)
        all_goals go_ret2
        all_goals exact ⟨Or.inr ⟨notPl_texts HNo.out, rfl⟩, hb.drew⟩
end Go.Proofs.YtjchkhdmjbojjaaDoor
