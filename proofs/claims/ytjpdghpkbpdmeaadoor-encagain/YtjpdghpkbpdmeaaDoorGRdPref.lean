/-
  enc.ReadPrefix: the texts that bytes are, each behind the one ahead.
-/
import Derived.Test.YtjpdghpkbpdmeaaDoorGInfoS
import Derived.Test.YtjpdghpkbpdmeaaDoorGRdBehind
import Derived.Test.YtjpdghpkbpdmeaaDoorGPBools
namespace Go.Proofs.YtjpdghpkbpdmeaaDoor
open Go.RowKit
theorem Tryd.underlyingSS : Tryd.prog.underlying 44 = some (.slice 9) := by kernel_rfl
theorem GRow.congr {f f' : Nat → Value} {n g : Nat} {w wr : World} {i : Nat} (h : GRow f n g w wr i) (he : ∀ j, j < i → f j = f' j) : GRow f' n g w wr i :=
  ⟨fun j hj => by rw [← he j hj]; exact h.done j hj, h.any, h.froz, h.old⟩
/-- What a reader of texts gives. -/
def RetSs (o : Option (List (List UInt8))) (n : Nat) (ev : Value) (e : Ending) (w' : World) : Prop :=
  (∃ ss a c, o = some ss ∧ e = .returned (.tuple #[.slice a n c, .nilIface]) ∧ LiesS w' a (ss.map mk)) ∨ (o = none ∧ e = .returned (.tuple #[.slice none 0 0, ev]))
set_option maxRecDepth 100000 in
set_option maxHeartbeats 1600000 in
theorem readPrefix_any (s : ByteArray) (n : Nat) (w : World) (st : TypeId) (sp : Value) (hg : w.cell? ⟨0, 0, none⟩ = some (.iface st sp)) (hs : s.size ≤ 1000000) (hn : n ≤ 20000) :
    Calls Tryd.prog 29 #[.string s, .int .i64 n] w fun e w' => RetSs (Um.rdp n [] s.data.toList) n (.iface st sp) e w' ∧ Below w.heap.size w w' := by
  obtain ⟨iv, hvi, hv0, hv1, hv2⟩ := info_parts Tryd.infoS
  obtain ⟨M, hM⟩ : ∃ M, M = madeCells (Value.string ⟨#[]⟩).cells (((n : Nat) : Int).toNat * iv.size) := ⟨_, rfl⟩
  have hMs : M.size = n := by rw [hM, size_madeCells, hv1]; simp
  have hmk : ∀ W : World, (Instr.makeSlice 44 (.int .i64 (n : Int)) (.int .i64 (n : Int))).run Tryd.prog W = .ok (.slice (some ⟨W.heap.size, 0, none⟩) n n) (W.alloc (.cells M 9)) := fun W => by
    have h := run_make (P := Tryd.prog) W 44 9 iv (.string ⟨#[]⟩) Tryd.underlyingSS hvi hv0 .i64 .i64 (n : Int) (n : Int) (by omega) (by omega) (by rw [hv2]; omega) (by omega)
    rw [← hM] at h
    simpa using h
  have HS : Hid (GRow (fun j => .string (mk (([] : List (List UInt8)).getD j []))) n w.heap.size w (w.alloc (.cells M 9)) 0) := GRow.start _ _ _ _ _ hMs
  have HG : Hid _ := hg
  have hd : decide (0 ≤ (n : Int) ∧ (n : Int) ≤ 20000) = true := by simp; omega
  clear hM hMs hg
  go_enter Tryd.func29, Tryd.ntmps29
  go_wp2_with (go_at_call 68; refine (isCountE_any _ _).mono ?_; rw [hd]; rintro e w1 ⟨rfl, hw⟩; obtain rfl := hw.symm)
  clear hmk
  go_loopw [0, 7, 20] (fun y h x wr => ∃ (i : Nat) (r a : ByteArray) (ss : List (List UInt8)), i ≤ n ∧ x = .int .i64 i ∧ y = .string r ∧ h = .string a ∧ r.size ≤ s.size ∧ a.size ≤ 100 ∧ w.heap.size < wr.heap.size ∧ Hid (ss.length = i) ∧ Hid (Um.rdp n [] s.data.toList = (Um.rdp (n - i) a.data.toList r.data.toList).map fun q => ss ++ q) ∧ Hid (GRow (fun j => .string (mk (ss.getD j []))) n w.heap.size w wr i)) (fun _ _ x _ => n - (intOf x).toNat)
  case atStart => exact ⟨0, s, ⟨#[]⟩, [], Nat.zero_le _, rfl, rfl, rfl, Nat.le_refl _, by decide, by simp, rfl, by show _ = _; simp, HS⟩
  case round =>
    clear HS
    obtain ⟨i, r, a, ss, hik, rfl, rfl, rfl, hrs, has, hsl, HSL, HRD, HV⟩ := hrel
    have hb := HV.out.old
    have hgr := (hb.cell (World.block_lt_of_cell? w _ HG.out)).trans HG.out
    by_cases hlt : i < n
    · have HSt : Hid (Um.rdp (n - i) a.data.toList r.data.toList = (Um.rdb a.data.toList r.data.toList).bind fun p => (Um.rdp (n - (i + 1)) p.1 (r.data.toList.drop p.2)).map fun r => p.1 :: r) := by
        show _ = _
        rw [show n - i = (n - (i + 1)) + 1 by omega, Um.rdp]
      go_wp2_with fail
      refine (readBehind_any a r _ st sp hgr has (by omega)).mono ?_
      rintro e w1 ⟨rfl, hb1⟩
      generalize ho : Um.rdb a.data.toList r.data.toList = o at *
      have HO : Hid (Um.rdb a.data.toList r.data.toList = o) := ho
      clear ho
      cases o with
      | none =>
        have HNo : Hid (Um.rdp n [] s.data.toList = none) := by
          show _ = _
          rw [HRD.out, HSt.out]; rfl
        show _
        unfold ansB
        go_wp2
        go_ret2
        exact ⟨Or.inr ⟨HNo.out, rfl⟩, hb.trans (hb1.mono hb.size)⟩
      | some p =>
        obtain ⟨t, k⟩ := p
        obtain ⟨ht, hkr, _⟩ := Um.rdb_some HO.out
        rw [Array.length_toList] at hkr
        have hkr : k ≤ r.size := hkr
        have HV1 : Hid _ := HV.out.keep hsl hb1
        obtain ⟨y0, g0⟩ := HV1.out.any i hlt
        have f0 := HV1.out.froz i hlt
        have HV2 : Hid (GRow (fun j => .string (mk ((ss ++ [t]).getD j []))) n w.heap.size w (w1.setCell ⟨w.heap.size, i, none⟩ (.string (mk t))) (i + 1)) := by
          have hc : GRow (fun j => .string (mk ((ss ++ [t]).getD j []))) n w.heap.size w w1 i := HV1.out.congr fun j hj => by
            have hj' : j < ss.length := by rw [HSL.out]; exact hj
            simp [List.getD, List.getElem?_append_left hj']
          refine hc.next (Nat.le_refl _) hlt ?_
          rw [← HSL.out]; simp [List.getD]
        have hrx : (r.extract k r.size).size ≤ s.size := by rw [ByteArray.size_extract]; omega
        have HRX : Hid ((r.extract k r.size).data.toList = r.data.toList.drop k) := drop_ext r k
        have hsl1 : w.heap.size < w1.heap.size := Nat.lt_of_lt_of_le hsl hb1.size
        have htz : (mk t).size ≤ 100 := by rw [mk_size]; exact ht
        have HTL : Hid ((mk t).data.toList = t) := mk_list t
        unfold ansB
        simp only
        generalize mk t = T at *
        go_wp2
        go_roundw
        case rel =>
          refine ⟨i + 1, r.extract k r.size, T, ss ++ [t], by omega, by go_num, rfl, rfl, hrx, htz, by simpa using hsl1, by show _ = _; rw [List.length_append, HSL.out]; rfl, ?_, HV2⟩
          show _ = _
          rw [HRD.out, HSt.out, HRX.out, HTL.out]
          show Option.map _ (Option.map _ _) = _
          rw [Option.map_map]
          congr 1
          funext q
          simp
        case measure => simp [intOf]; omega
    · obtain rfl : i = n := by omega
      have hrd := HRD.out
      rw [Nat.sub_self, Um.rdp] at hrd
      by_cases he : r.data.toList = []
      · have HI : Hid (Um.rdp i [] s.data.toList = some ss) := by show _ = _; rw [hrd, if_pos he]; simp
        have hz : r.toList = [] := by rw [Lib.toList_data]; exact he
        have HLV : Hid (LiesS wr (some ⟨w.heap.size, 0, none⟩) (ss.map mk)) := fun j hj => by
          rw [List.length_map] at hj
          refine ⟨w.heap.size, 0, rfl, ?_⟩
          rw [Nat.zero_add, HV.out.done j (by rw [← HSL.out]; exact hj)]
          simp [List.getD, hj]
        clear hrd he
        go_wp2
        go_ret2
        exact ⟨Or.inl ⟨ss, _, _, HI.out, rfl, HLV.out⟩, hb⟩
      · have HNo : Hid (Um.rdp i [] s.data.toList = none) := by show _ = _; rw [hrd, if_neg he]; rfl
        have hz : r.toList.isEmpty = false := by rw [Lib.toList_data, List.isEmpty_eq_false_iff]; exact he
        clear hrd he
        go_wp2
        go_region
        all_goals (try go_wp2)
        all_goals go_ret2
        all_goals exact ⟨Or.inr ⟨HNo.out, rfl⟩, hb.drew⟩
theorem readPrefix_none (s : ByteArray) (n : Int) (w : World) (bt : TypeId) (bp : Value) (hgb : w.cell? ⟨3, 0, none⟩ = some (.iface bt bp)) (h : ¬ (0 ≤ n ∧ n ≤ 20000)) :
    Calls Tryd.prog 29 #[.string s, .int .i64 n] w fun e w' => e = .returned (.tuple #[.slice none 0 0, .iface bt bp]) ∧ Below w.heap.size w w' := by
  have hd : decide (0 ≤ n ∧ n ≤ 20000) = false := by simp only [decide_eq_false_iff_not]; exact h
  have HN : Hid _ := h
  clear h
  go_enter Tryd.func29, Tryd.ntmps29
  go_wp2_with (go_at_call 68; refine (isCountE_any _ _).mono ?_; rw [hd]; rintro e w1 ⟨rfl, hw⟩; obtain rfl := hw.symm)
  all_goals (try go_region)
  all_goals (try go_wp2)
  all_goals go_ret2
  all_goals exact ⟨rfl, by first | exact Below.refl _ _ | exact (Below.refl _ _).drew⟩
end Go.Proofs.YtjpdghpkbpdmeaaDoor
