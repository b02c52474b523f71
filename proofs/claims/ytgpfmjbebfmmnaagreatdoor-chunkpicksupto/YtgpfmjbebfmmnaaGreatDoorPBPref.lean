/-
  enc.inCommon: how many bytes two texts begin with.
  What the program knows of the type string.
-/
import Derived.Test.YtgpfmjbebfmmnaaGreatDoorPBMath
import Derived.Test.YtgpfmjbebfmmnaaGreatDoorPOwn
import Derived.Test.YtgpfmjbebfmmnaaGreatDoorPBClone
import Derived.Test.YtgpfmjbebfmmnaaGreatDoorPBVal
import Derived.Deep.QuietTactic
import Derived.BigQuiet
import Derived.Lib.AppendZeros
namespace Go.Proofs.YtgpfmjbebfmmnaaGreatDoor
open Go.RowKit
theorem below_dN {B : Nat} {a w : World} (h : Below B a w) (n : Nat) : Below B a (w.drewN n) := h.trans ⟨rfl, rfl, rfl, Nat.le_refl _, fun _ _ => rfl⟩
set_option maxRecDepth 100000 in
set_option maxHeartbeats 1600000 in
theorem inCommon_any (s t : ByteArray) (w : World) (hs : s.size ≤ 100) (ht : t.size ≤ 100) :
    Calls Tryz.prog 172 #[.string s, .string t] w fun e w' => e = .returned (.int .i64 (Um.lcp s.data.toList t.data.toList : Nat)) ∧ Below w.heap.size w w' := by
 go_enter Tryz.func172, Tryz.ntmps172
 go_wp2
 go_loopw [5] (fun x wr => ∃ k : Nat, k ≤ s.size ∧ k ≤ t.size ∧ x = .int .i64 k ∧ Hid (s.data.toList.take k = t.data.toList.take k) ∧ Below w.heap.size w wr) (fun x _ => s.size - (intOf x).toNat)
 case atStart => exact ⟨0, Nat.zero_le _, Nat.zero_le _, rfl, rfl, Below.refl _ _⟩
 case round =>
  obtain ⟨k, h1, h2, rfl, HT, hb⟩ := hrel
  by_cases hlt : k < s.size ∧ k < t.size
  · obtain ⟨hk1, hk2⟩ := hlt
    have g1 : s.data.toList[k]? = some s[k] := by rw [Array.getElem?_toList]; exact Array.getElem?_eq_getElem hk1
    have g2 : t.data.toList[k]? = some t[k] := by rw [Array.getElem?_toList]; exact Array.getElem?_eq_getElem hk2
    by_cases he : s[k].toNat = t[k].toNat
    · have HT2 : Hid (s.data.toList.take (k + 1) = t.data.toList.take (k + 1)) := by
        show _ = _
        rw [List.take_add_one, List.take_add_one, HT.out, g1, g2, UInt8.toNat_inj.1 he]
      clear g1 g2
      by_cases hts : t.size < s.size
      all_goals
       go_wp2
       go_quiet (fail)
       go_wp2
       go_roundw
       case rel => exact ⟨k + 1, by omega, by omega, by go_num, HT2, below_dN hb _⟩
       case measure => simp [intOf]; omega
    · have HE : Hid (Um.lcp s.data.toList t.data.toList = k) := Um.lcp_eq _ _ k (by rw [Array.length_toList]; exact h1) (by rw [Array.length_toList]; exact h2) HT.out (Or.inr (Or.inr (by
        rw [g1, g2]
        intro h
        exact he (by rw [Option.some.inj h]))))
      clear g1 g2
      by_cases hts : t.size < s.size
      all_goals
       go_wp2
       go_quiet (fail)
       go_wp2
       go_ret
       exact ⟨by rw [HE.out]; rfl, below_dN hb _⟩
  · have HE : Hid (Um.lcp s.data.toList t.data.toList = k) := Um.lcp_eq _ _ k (by rw [Array.length_toList]; exact h1) (by rw [Array.length_toList]; exact h2) HT.out (by
        rw [Array.length_toList, Array.length_toList]
        change k = s.size ∨ k = t.size ∨ _
        omega)
    by_cases hts : t.size < s.size
    · obtain rfl : k = t.size := by omega
      go_wp2
      go_quiet (fail)
      go_wp2
      go_ret
      exact ⟨by rw [HE.out]; rfl, below_dN hb _⟩
    · obtain rfl : k = s.size := by omega
      go_wp2
      go_quiet (fail)
      go_wp2
      go_ret
      exact ⟨by rw [HE.out]; rfl, below_dN hb _⟩
def LiesS (w : World) (a : Option Addr) (ts : List ByteArray) : Prop := ∀ j (h : j < ts.length), ∃ b o, a = some ⟨b, o, none⟩ ∧ w.cell? ⟨b, o + j, none⟩ = some (.string ts[j])
theorem LiesS.keep {w w' : World} {a : Option Addr} {ts : List ByteArray} (h : LiesS w a ts) (hb : Below w.heap.size w w') : LiesS w' a ts := fun j hj => by
 obtain ⟨b, o, e, hc⟩ := h j hj
 exact ⟨b, o, e, (hb.cell (World.block_lt_of_cell? w _ hc)).trans hc⟩
def bys (ts : List ByteArray) : List (List UInt8) := ts.map fun t => t.data.toList
theorem bys_len (ts : List ByteArray) : (bys ts).length = ts.length := by simp [bys]
theorem bys_at (ts : List ByteArray) (i : Nat) (h : i < ts.length) : (bys ts)[i]'(by rw [bys_len]; exact h) = ts[i].data.toList := by simp [bys]
theorem ext_toList (t : ByteArray) (k : Nat) : (t.extract k t.size).data.toList = t.data.toList.drop k := by
 rw [ByteArray.data_extract, Array.toList_extract, List.extract_eq_take_drop, List.take_of_length_le]
 rw [List.length_drop, Array.length_toList]
 exact Nat.le_refl _
def mk (l : List UInt8) : ByteArray := ⟨l.toArray⟩
theorem mk_bytes (t : ByteArray) : mk t.data.toList = t := by cases t; simp [mk]
theorem mk_list (l : List UInt8) : (mk l).data.toList = l := by simp [mk]
theorem mk_size (l : List UInt8) : (mk l).size = l.length := by simp [mk, ByteArray.size]
theorem tail_bytes (t : ByteArray) (m : Nat) : ((⟨(Um.uv (t.extract m t.size).size).toArray⟩ : ByteArray) ++ t.extract m t.size).data.toList = Um.txt (t.data.toList.drop m) := by
 rw [ByteArray.data_append, Array.toList_append, ext_toList]
 unfold Um.txt
 rw [← ext_toList t m, Array.length_toList]
 rfl
theorem bys_take_le {ts : List ByteArray} {p i : Nat} (h : ∀ j (h : j < ts.length), j < p → ts[j].size ≤ 100) (hi : i ≤ p) : ∀ s ∈ (bys ts).take i, s.length ≤ 100 := fun s hs => by
 obtain ⟨j, hj, rfl⟩ := List.getElem_of_mem hs
 rw [List.length_take, bys_len] at hj
 rw [List.getElem_take, bys_at ts j (by omega), Array.length_toList]
 exact h j (by omega) (by omega)
set_option maxRecDepth 100000 in
set_option maxHeartbeats 1600000 in
theorem prefix_gen (a : Option Addr) (ts : List ByteArray) (c p : Nat) (w : World) (ev : Value) (hg : w.cell? ⟨1, 0, none⟩ = some ev) (hn : ts.length ≤ 20000) (hmx : ∀ t ∈ ts, t.size ≤ maxLen) (hl : LiesS w a ts) (hp : p ≤ ts.length) (hx : ∀ j (h : j < ts.length), j < p → ts[j].size ≤ 100) (hlong : ∀ h : p < ts.length, 100 < ts[p].size) :
    Calls Tryz.prog 157 #[.slice a ts.length c] w fun e w' => e = .returned (if p = ts.length then .tuple #[.string ⟨(Um.prefs [] (bys ts)).toArray⟩, .nilIface] else .tuple #[.string ⟨#[]⟩, ev]) ∧ Below w.heap.size w w' := by
 obtain ⟨i0, hi, hz0, hz1, hz2⟩ := info_parts Tryz.info5
 have HL : Hid (LiesS w a ts) := hl
 have HX : Hid (∀ j (h : j < ts.length), j < p → ts[j].size ≤ 100) := hx
 have HLO : Hid (∀ h : p < ts.length, 100 < ts[p].size) := hlong
 have HMX : Hid (∀ t ∈ ts, t.size ≤ maxLen) := hmx
 have HG : Hid _ := hg
 have hd : decide (0 ≤ (ts.length : Int) ∧ (ts.length : Int) ≤ 20000) = true := by simp; omega
 clear hl hx hlong hmx hg
 go_enter Tryz.func157, Tryz.ntmps157
 go_wp2_with (go_at_call 171; refine (isCountE_any _ _).mono ?_; rw [hd]; rintro e w1 ⟨rfl, hw⟩; obtain rfl := hw.symm)
 go_loopw [4, 5, 16] (fun b h x wr => ∃ i : Nat, i ≤ p ∧ x = .int .i64 i ∧ h = .string (mk (Um.ahd (bys ts) i)) ∧ (Um.ahd (bys ts) i).length ≤ 100 ∧ Hid (wr.ownsRow w.heap.size 5 1 b (Um.prefs [] ((bys ts).take i)).length (cellsOf (Um.prefs [] ((bys ts).take i)))) ∧ Below w.heap.size w wr) (fun _ _ x _ => ts.length - (intOf x).toNat)
 case atStart => exact ⟨0, Nat.zero_le _, rfl, by rw [Um.ahd_zero]; rfl, by rw [Um.ahd_zero]; simp, World.ownsRow_nil w w.heap.size 5 1, Below.refl _ _⟩
 case round =>
  obtain ⟨i, hik, rfl, rfl, hah, HO, hb⟩ := hrel
  by_cases hip : i < p
  · have hlt : i < ts.length := by omega
    obtain ⟨b, o, rfl, hc⟩ := (HL.out.keep hb) i hlt
    have hsl := HX.out i hlt hip
    have HN : Hid (Um.prefs [] ((bys ts).take (i + 1)) = Um.prefs [] ((bys ts).take i) ++ Um.one (Um.ahd (bys ts) i) ts[i].data.toList) := by
     show _ = _
     rw [Um.prefs_take (bys ts) i (by rw [bys_len]; exact hlt), bys_at ts i hlt]
    have HA : Hid (Um.ahd (bys ts) (i + 1) = ts[i].data.toList) := by
     show _ = _
     rw [Um.ahd_succ (bys ts) i (by rw [bys_len]; exact hlt), bys_at ts i hlt]
    have hnl : (Um.prefs [] ((bys ts).take i)).length ≤ 120 * 20000 := by
     refine Nat.le_trans (Um.prefs_len _ [] (by simp) (fun s hs => bys_take_le HX.out hik s hs)) (Nat.mul_le_mul_left _ ?_)
     rw [List.length_take]; omega
    generalize Um.prefs [] ((bys ts).take i) = l at *
    generalize Um.ahd (bys ts) i = ah at *
    generalize ts[i] = t at *
    go_wp2_with fail
    refine (inCommon_any (mk ah) t _ (by rw [mk_size]; exact hah) hsl).mono ?_
    rw [mk_list]
    rintro e w1 ⟨rfl, hb1⟩
    have hlc := Um.lcp_le ah t.data.toList
    rw [Array.length_toList] at hlc
    change _ ∧ _ ≤ t.size at hlc
    obtain ⟨m, HM⟩ : ∃ m, Hid (m = Um.lcp ah t.data.toList) := ⟨_, rfl⟩
    rw [← HM.out] at hlc ⊢
    have hm : m ≤ 100 := by omega
    have hmt : m ≤ t.size := hlc.2
    clear hlc
    have hb01 := hb.trans (hb1.mono hb.size)
    go_wp2_with fail
    refine (uvarint_any m _ (by omega)).mono ?_
    rintro e w2 ⟨rfl, hb2⟩
    have hb02 := hb01.trans (hb2.mono hb01.size)
    have hown := ow_kept (ow_kept HO.out hb1) hb2
    have hul := Um.uv_ten (n := m) (by omega)
    have hub : (⟨(Um.uv m).toArray⟩ : ByteArray).data.toList = Um.uv m := rfl
    generalize (⟨(Um.uv m).toArray⟩ : ByteArray) = u at hub ⊢
    have hus : u.size = (Um.uv m).length := by rw [← hub, Array.length_toList]; rfl
    obtain ⟨v3, w3, hr3, hown3, hgrow3, _⟩ := Lib.run_append_own_string (P := Tryz.prog) w2 w.heap.size 67 9 67 5 i0 Tryz.underlying67 Tryz.underlying9 hi hz0 hz1 hz2 _ _ _ hown u (by unfold maxLen; omega) (by omega) hb02.size
    have hown3' := ow_str hown3
    have hb03 := below_grown hb02 (Nat.le_refl _) hown hgrow3
    rw [hub] at hown3'
    clear hown hown3 hgrow3 hub
    go_wp2_with (at_builtin; refine Lib.wpList_append_run _ rfl _ _ 67 9 rfl _ _ rfl rfl _ _ hr3 ?_)
    have hxs : (t.extract m t.size).size ≤ 100 := by rw [ByteArray.size_extract]; omega
    refine (text_any _ _ (by omega)).mono ?_
    rintro e w4 ⟨rfl, hb4⟩
    have hb04 := hb03.trans (hb4.mono hb03.size)
    have hown4 := ow_kept hown3' hb4
    have htb := tail_bytes t m
    generalize (⟨(Um.uv (t.extract m t.size).size).toArray⟩ : ByteArray) ++ t.extract m t.size = x at htb ⊢
    have htl := Um.txt_len (t.data.toList.drop m) (by rw [List.length_drop, Array.length_toList]; change t.size - m < _; omega)
    rw [← htb, Array.length_toList, List.length_drop, Array.length_toList] at htl
    change x.size ≤ t.size - m + 10 at htl
    obtain ⟨v5, w5, hr5, hown5, hgrow5, _⟩ := Lib.run_append_own_string (P := Tryz.prog) w4 w.heap.size 67 9 67 5 i0 Tryz.underlying67 Tryz.underlying9 hi hz0 hz1 hz2 _ _ _ hown4 x (by rw [List.length_append]; unfold maxLen; omega) (by rw [List.length_append]; omega) hb04.size
    have hown5' := ow_str hown5
    have hb05 := below_grown hb04 (Nat.le_refl _) hown4 hgrow5
    have HQ : Hid (l ++ Um.uv m ++ x.data.toList = Um.prefs [] ((bys ts).take (i + 1))) := by
     show _ = _
     rw [htb, HN.out, Um.one, ← HM.out, List.append_assoc]
    rw [HQ.out] at hown5'
    clear hown4 hown5 hgrow5 htb
    go_wp2_with (at_builtin; refine Lib.wpList_append_run _ rfl _ _ 67 9 rfl _ _ rfl rfl _ _ hr5 ?_)
    go_roundw
    case rel => exact ⟨i + 1, by omega, by go_num, by rw [HA.out, mk_bytes], by rw [HA.out, Array.length_toList]; exact hsl, hown5', hb05⟩
    case measure => simp [intOf]; omega
  · obtain rfl : i = p := by omega
    by_cases hlt : i < ts.length
    · obtain ⟨b, o, rfl, hc⟩ := (HL.out.keep hb) i hlt
      have hlo := HLO.out hlt
      have hmm := HMX.out _ (List.getElem_mem hlt)
      unfold maxLen at hmm
      have hge : w.cell? ⟨1, 0, none⟩ = some ev := HG.out
      have hgr := (hb.cell (World.block_lt_of_cell? w _ hge)).trans hge
      clear hge
      have HI : Hid (¬ i = ts.length) := by show ¬ _; omega
      generalize ts[i] = t at *
      go_wp2
      go_region
      all_goals (try go_wp2)
      all_goals go_ret2
      all_goals exact ⟨rfl, hb.drew⟩
    · obtain rfl : i = ts.length := by omega
      have ho := HO.out
      rw [← bys_len, List.take_length] at ho
      have hcv := ow_conv rfl ho
      go_wp2
      go_ret2
      exact ⟨rfl, hb⟩
theorem prefix_right (a : Option Addr) (ts : List ByteArray) (c : Nat) (w : World) (ev : Value) (hg : w.cell? ⟨1, 0, none⟩ = some ev) (hn : ts.length ≤ 20000) (hl : LiesS w a ts) (hx : ∀ t ∈ ts, t.size ≤ 100) :
    Calls Tryz.prog 157 #[.slice a ts.length c] w fun e w' => e = .returned (.tuple #[.string ⟨(Um.prefs [] (bys ts)).toArray⟩, .nilIface]) ∧ Below w.heap.size w w' := by
 have h := prefix_gen a ts c ts.length w ev hg hn (fun t ht => Nat.le_trans (hx t ht) (by decide)) hl (Nat.le_refl _) (fun j h _ => hx _ (List.getElem_mem h)) (fun h => absurd h (Nat.lt_irrefl _))
 rw [if_pos rfl] at h
 exact h
end Go.Proofs.YtgpfmjbebfmmnaaGreatDoor
namespace Go.Proofs.YtgpfmjbebfmmnaaGreatDoor
theorem Tryz.infoS : (Tryz.prog.info? 9).map (fun i => (i.zero, i.size, i.bytes)) = some (some (.string ⟨#[]⟩), 1, 16) := by kernel_rfl
end Go.Proofs.YtgpfmjbebfmmnaaGreatDoor
