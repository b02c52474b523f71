/-
  enc.readBlock: a block of differences read.
-/
import Derived.Test.YtjchkhdmjbojjaaDoorLUnpWide
import Derived.Test.YtjchkhdmjbojjaaDoorLBPBools
import Derived.Test.YtjchkhdmjbojjaaDoorLRdTexts
namespace Go.Proofs.YtjchkhdmjbojjaaDoor
open Go.RowKit
/-- The differences that a block's bytes say. -/
def bkd (least : Int) (s : List UInt8) (wd n : Nat) : List Int := (unw s wd n).map fun x : Nat => wrap64 (least + wrap64 (x : Int))
theorem bkd_len (least : Int) (s : List UInt8) (wd n : Nat) : (bkd least s wd n).length = n := by simp [bkd, unw_len]
/-- A block that is read, and how many bytes it took. -/
def rdBk (s : List UInt8) (n : Nat) : Option (List Int × Nat) :=
  let p := Um.rdv s 0 0
  let wd := (s.getD p.2 0).toNat
  if 0 < p.2 ∧ p.2 < s.length ∧ wd ≤ 64 ∧ p.2 + 1 + (n * wd + 7) / 8 ≤ s.length then
    some (bkd (unz p.1) ((s.drop (p.2 + 1)).take ((n * wd + 7) / 8)) wd n, p.2 + 1 + (n * wd + 7) / 8)
  else none
theorem Typed.apart {g g' ty ty' : Nat} {w : World} (h : Typed g ty w) (h' : Typed g' ty' w) (hne : ty ≠ ty') : g ≠ g' := by
  rintro rfl
  obtain ⟨cs, z, e⟩ := h
  obtain ⟨cs', z', e'⟩ := h'
  rw [e] at e'
  injection e' with e'
  injection e' with _ e' _
  exact hne e'
theorem Lies.set {w : World} {g g' i o : Nat} {cs : List Value} (h : Lies w (some ⟨g, o, none⟩) cs) (hne : g ≠ g') (v : Value) : Lies (w.setCell ⟨g', i, none⟩ v) (some ⟨g, o, none⟩) cs := fun j hj => by
  obtain ⟨b, o', e, hc⟩ := h j hj
  refine ⟨b, o', e, ?_⟩
  injection e with e
  injection e with e1 e2 _
  subst e1
  rw [World.cell?_setCell_other _ _ _ _ (fun e' => hne (by injection e' with e' _; exact e'.symm))]
  exact hc
/-- What readBlock gives. -/
def RetBk (o : Option (List Int × Nat)) (n : Nat) (ev : Value) (e : Ending) (w' : World) : Prop :=
  (∃ ds k g, o = some (ds, k) ∧ e = .returned (.tuple #[.slice (some ⟨g, 0, none⟩) n n, .int .i64 (k : Nat), .nilIface]) ∧ Lies w' (some ⟨g, 0, none⟩) (i64s ds) ∧ Typed g 2 w') ∨ (o = none ∧ e = .returned (.tuple #[.slice none 0 0, .int .i64 0, ev]))
set_option maxRecDepth 100000 in
set_option maxHeartbeats 1600000 in
theorem readBlock_any (s : ByteArray) (n : Nat) (w : World) (st : TypeId) (sp : Value) (hg : w.cell? ⟨0, 0, none⟩ = some (.iface st sp)) (hs : s.size ≤ 1000000) (hn : n ≤ 32) :
    Calls Tryd.prog 95 #[.string s, .int .i64 n] w fun e w' => RetBk (rdBk s.data.toList n) n (.iface st sp) e w' ∧ Below w.heap.size w w' := by
  have hm : s.size ≤ maxLen := by unfold maxLen; omega
  generalize hp : Um.rdv s.data.toList 0 0 = p
  obtain ⟨m, i⟩ := p
  have HP : Hid (Um.rdv s.data.toList 0 0 = (m, i)) := hp
  have hroom := Um.rdv_room s.data.toList 0 0 (by simp)
  rw [hp] at hroom
  have hi10 : i ≤ 10 := hroom.2.1
  have hil : i ≤ s.size := by have := hroom.2.2; simpa using this
  have hz : s.data.toList.length = s.size := Array.length_toList
  have HRB : Hid (rdBk s.data.toList n = if 0 < i ∧ i < s.size ∧ (s.data.toList.getD i 0).toNat ≤ 64 ∧ i + 1 + (n * (s.data.toList.getD i 0).toNat + 7) / 8 ≤ s.size then some (bkd (unz m) ((s.data.toList.drop (i + 1)).take ((n * (s.data.toList.getD i 0).toNat + 7) / 8)) (s.data.toList.getD i 0).toNat n, i + 1 + (n * (s.data.toList.getD i 0).toNat + 7) / 8) else none) := by
    show _ = _
    unfold rdBk
    simp only [hp, hz]
  clear hp hroom hz
  by_cases hi : 0 < i
  · by_cases his : i < s.size
    · have hgd : (s.data.toList.getD i 0).toNat = s[i].toNat := by
        have h1 : i < s.data.toList.length := by rw [Array.length_toList]; exact his
        rw [List.getD_eq_getElem?_getD, List.getElem?_eq_getElem h1]
        rfl
      rw [hgd] at HRB
      clear hgd
      obtain ⟨wd, hwd⟩ : ∃ wd, s[i].toNat = wd := ⟨_, rfl⟩
      have HWD : Hid (s[i].toNat = wd) := hwd
      clear hwd
      have hne : ((i : Int) == (s.size : Int)) = false := by simp; omega
      have hwdi : (s[i].toNat : Int) = (wd : Int) := by rw [HWD.out]
      rw [HWD.out] at HRB
      by_cases hw64 : wd ≤ 64
      · have hw2 : decide (64 < (wd : Int)) = false := by simp; omega
        go_enter Tryd.func95, Tryd.ntmps95
        go_wp2_with fail
        refine (readV_hit s _ _ m i hm hg HP.out hi).mono ?_
        rintro e w1 ⟨rfl, hb1⟩
        have hg1 := (hb1.cell (World.block_lt_of_cell? w _ hg)).trans hg
        go_wp2_with fail
        refine (bytesOf_any n wd _ (by omega) hw64).mono ?_
        rintro e w2 ⟨rfl, hw⟩
        obtain rfl := hw.symm
        have hnm := Nat.mul_le_mul hn hw64
        obtain ⟨k, HK⟩ : ∃ k, Hid (k = (n * wd + 7) / 8) := ⟨_, rfl⟩
        have hk300 : k ≤ 300 := by rw [HK.out]; omega
        have HKS : Hid (n * wd ≤ 8 * k) := by show _ ≤ _; rw [HK.out]; omega
        rw [← HK.out] at HRB ⊢
        clear hnm
        by_cases hf : i + 1 + k ≤ s.size
        · obtain ⟨f, HF⟩ : ∃ f, Hid (f = i + 1 + k) := ⟨_, rfl⟩
          have hfi : (i : Int) + 1 + (k : Int) = (f : Int) := by rw [HF.out]; omega
          obtain ⟨iv, hvi, hv0, hv1, hv2⟩ := info_parts Tryd.infoI64
          obtain ⟨M, hM⟩ : ∃ M, M = madeCells (Value.int .i64 0).cells (((n : Nat) : Int).toNat * iv.size) := ⟨_, rfl⟩
          have hMs : M.size = n := by rw [hM, size_madeCells, hv1]; simp
          have hmk : ∀ W : World, (Instr.makeSlice 78 (.int .i64 (n : Int)) (.int .i64 (n : Int))).run Tryd.prog W = .ok (.slice (some ⟨W.heap.size, 0, none⟩) n n) (W.alloc (.cells M 2)) := fun W => by
            have h := run_make (P := Tryd.prog) W 78 2 iv (.int .i64 0) Tryd.underlyingI64s hvi hv0 .i64 .i64 (n : Int) (n : Int) (by omega) (by omega) (by rw [hv2]; omega) (by omega)
            rw [← hM] at h
            simpa using h
          have hfs : f ≤ s.size := by rw [HF.out]; exact hf
          have hif : i + 1 ≤ f := by rw [HF.out]; omega
          have hxz : (s.extract (i + 1) f).size = k := by rw [ByteArray.size_extract, HF.out]; omega
          have HXL : Hid ((s.extract (i + 1) f).data.toList = (s.data.toList.drop (i + 1)).take k) := by
            show _ = _
            rw [HF.out, ext_take]
          have HY : Hid (rdBk s.data.toList n = some (bkd (unz m) (s.extract (i + 1) f).data.toList wd n, f)) := by
            show _ = _
            rw [HRB.out, if_pos ⟨hi, his, hw64, hf⟩, HXL.out, HF.out]
          obtain ⟨g, hg0⟩ : ∃ g, g = w1.heap.size := ⟨_, rfl⟩
          have HS : Hid (GRow (fun j => .int .i64 ((bkd (unz m) (s.extract (i + 1) f).data.toList wd n).getD j 0)) n w1.heap.size w1 (w1.alloc (.cells M 2)) 0) := GRow.start _ _ _ _ _ hMs
          clear hM hMs hg0
          go_wp2_with fail
          refine (unpackWide_any (s.extract (i + 1) f) wd n _ hw64 (by omega) (by rw [hxz]; exact HKS.out) (by omega)).mono ?_
          rintro e w2 ⟨⟨g2, rfl, hl2, hT2⟩, hb2⟩
          have HS2 : Hid _ := HS.out.keep (by simp) hb2
          have HL2 : Hid _ := hl2
          have HT2 : Hid (Typed w1.heap.size 2 w2) := Typed.keep (Typed.new w1 M 2) hb2
          have hap : g2 ≠ w1.heap.size := Typed.apart hT2 (Typed.keep (Typed.new w1 M 2) hb2) (by decide)
          have hsl2 : w1.heap.size < w2.heap.size := Nat.lt_of_lt_of_le (by simp) hb2.size
          have HBK : Hid (∀ j (h : j < (unw (s.extract (i + 1) f).data.toList wd n).length), (bkd (unz m) (s.extract (i + 1) f).data.toList wd n).getD j 0 = wrap64 (unz m + wrap64 ((unw (s.extract (i + 1) f).data.toList wd n)[j] : Nat))) := fun j h => by
            unfold bkd
            rw [List.getD_eq_getElem?_getD, List.getElem?_map, List.getElem?_eq_getElem h]
            rfl
          have hul := unw_len (s.extract (i + 1) f).data.toList wd n
          have hbl := bkd_len (unz m) (s.extract (i + 1) f).data.toList wd n
          have HBL : Hid _ := hbl
          clear HS hmk hl2 hT2 hbl
          generalize bkd (unz m) (s.extract (i + 1) f).data.toList wd n = bs at *
          generalize unw (s.extract (i + 1) f).data.toList wd n = us at *
          go_wp2_with fail
          go_loopw [58] (fun x wr => ∃ q : Nat, q ≤ n ∧ x = .int .i64 q ∧ w1.heap.size < wr.heap.size ∧ Hid (GRow (fun j => .int .i64 (bs.getD j 0)) n w1.heap.size w1 wr q) ∧ Hid (Lies wr (some ⟨g2, 0, none⟩) (u64s us)) ∧ Hid (Typed w1.heap.size 2 wr)) (fun x _ => n - (intOf x).toNat)
          case atStart => exact ⟨0, Nat.zero_le _, rfl, hsl2, HS2, HL2, HT2⟩
          case round =>
            clear HS2 HL2 HT2 hsl2
            obtain ⟨q, hqn, rfl, hsl, HV, HU, HTy⟩ := hrel
            have hb := HV.out.old
            by_cases hlt : q < n
            · obtain ⟨b', o', e', hc⟩ := lies_u64s HU.out q (by omega)
              obtain ⟨rfl, rfl⟩ : g2 = b' ∧ 0 = o' := by simpa using e'
              clear e'
              rw [Nat.zero_add] at hc
              have HE := HBK.out q (by omega)
              generalize us[q]'(by omega) = u at *
              have HE2 : Hid _ := HE
              clear HE
              obtain ⟨y0, q0⟩ := HV.out.any q hlt
              have f0 := HV.out.froz q hlt
              go_wp2
              refine ⟨⟨q + 1, by omega, by go_num, by simpa using hsl, ?_, ?_, HTy.out.set _ _⟩, by simp [intOf]; omega⟩
              · exact HV.out.next (Nat.le_refl _) hlt (by rw [HE2.out])
              · exact Lies.set HU.out hap _
            · obtain rfl : q = n := by omega
              have HLV : Hid (Lies wr (some ⟨w1.heap.size, 0, none⟩) (i64s bs)) := fun j hj => by
                rw [i64s_len, HBL.out] at hj
                refine ⟨w1.heap.size, 0, rfl, ?_⟩
                have hj' : j < bs.length := by rw [HBL.out]; exact hj
                rw [Nat.zero_add, HV.out.done j hj]
                simp [i64s, List.getD, hj']
              go_wp2
              go_ret3
              exact ⟨Or.inl ⟨bs, f, _, HY.out, rfl, HLV.out, HTy.out⟩, hb1.trans (hb.mono hb1.size)⟩
        · have HNo : Hid (rdBk s.data.toList n = none) := by show _ = _; rw [HRB.out, if_neg (by omega)]
          go_wp2
          go_region
          all_goals (try go_wp2)
          all_goals go_ret3
          all_goals exact ⟨Or.inr ⟨HNo.out, rfl⟩, hb1.drew⟩
      · have HNo : Hid (rdBk s.data.toList n = none) := by show _ = _; rw [HRB.out, if_neg (by omega)]
        have hw2 : decide (64 < (wd : Int)) = true := by simp; omega
        go_enter Tryd.func95, Tryd.ntmps95
        go_wp2_with fail
        refine (readV_hit s _ _ m i hm hg HP.out hi).mono ?_
        rintro e w1 ⟨rfl, hb1⟩
        have hg1 := (hb1.cell (World.block_lt_of_cell? w _ hg)).trans hg
        go_wp2
        go_region
        all_goals (try go_wp2)
        all_goals go_ret3
        all_goals exact ⟨Or.inr ⟨HNo.out, rfl⟩, hb1.drew⟩
    · have HNo : Hid (rdBk s.data.toList n = none) := by show _ = _; rw [HRB.out, if_neg (by omega)]
      obtain rfl : i = s.size := by omega
      go_enter Tryd.func95, Tryd.ntmps95
      go_wp2_with fail
      refine (readV_hit s _ _ m s.size hm hg HP.out hi).mono ?_
      rintro e w1 ⟨rfl, hb1⟩
      have hg1 := (hb1.cell (World.block_lt_of_cell? w _ hg)).trans hg
      go_wp2
      go_region
      all_goals (try go_wp2)
      all_goals go_ret3
      all_goals exact ⟨Or.inr ⟨HNo.out, rfl⟩, hb1.drew⟩
  · obtain rfl : i = 0 := by omega
    have HNo : Hid (rdBk s.data.toList n = none) := by show _ = _; rw [HRB.out, if_neg (by omega)]
    have HP0 : Hid (Um.rdv s.data.toList 0 0 = (0, 0)) := by
      show _ = _
      rw [HP.out, Um.rdv_zero HP.out]
    go_enter Tryd.func95, Tryd.ntmps95
    go_wp2_with fail
    refine (readV_miss s _ st sp hm hg HP0.out).mono ?_
    rintro e w1 ⟨rfl, hb1⟩
    go_wp2
    go_ret3
    exact ⟨Or.inr ⟨HNo.out, rfl⟩, hb1⟩
end Go.Proofs.YtjchkhdmjbojjaaDoor
