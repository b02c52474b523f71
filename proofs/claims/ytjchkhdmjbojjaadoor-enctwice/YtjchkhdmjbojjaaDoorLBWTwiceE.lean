/-
  The walk of the law EncTwice.
  The walk of the law EncTwice.
  EncTwice, for whatever kind and slice of values.
-/
import Derived.Test.YtjchkhdmjbojjaaDoorLBRdBest
import Derived.Test.YtjchkhdmjbojjaaDoorLBLaid4
import Derived.Test.YtjchkhdmjbojjaaDoorLBPBools
import Derived.Test.YtjchkhdmjbojjaaDoorLBSmall
import Derived.Test.YtjchkhdmjbojjaaDoorLBWordsMath
import Derived.Test.YtjchkhdmjbojjaaDoorLBOpenVals
namespace Go.Proofs.YtjchkhdmjbojjaaDoor
open Go.RowKit
theorem bst_le (b : Int × ByteArray) (nc : Int) (t : ByteArray) : (bst b nc t).2.size ≤ b.2.size ∧ (bst b nc t).2.size ≤ t.size := by
  unfold bst
  by_cases h : t.size < b.2.size
  · simp only [if_pos h]; omega
  · simp only [if_neg h]; omega
theorem bestP_le (kd : Int) (vs us : List Vl) (ps : List Nat) : (bestP kd vs us ps).2.size ≤ (plainB kd vs).length ∧ (bestP kd vs us ps).2.size ≤ (dictB kd us ps).length ∧ ((kd = 2 ∨ kd = 3) → (bestP kd vs us ps).2.size ≤ (deltaB vs).length) := by
  have h1 := bst_le (0, ⟨(plainB kd vs).toArray⟩) 1 ⟨(dictB kd us ps).toArray⟩
  have e1 : (⟨(plainB kd vs).toArray⟩ : ByteArray).size = (plainB kd vs).length := mk_size _
  have e2 : (⟨(dictB kd us ps).toArray⟩ : ByteArray).size = (dictB kd us ps).length := mk_size _
  have e3 : (⟨(deltaB vs).toArray⟩ : ByteArray).size = (deltaB vs).length := mk_size _
  rw [e2] at h1
  have h1' : (bst (0, ⟨(plainB kd vs).toArray⟩) 1 ⟨(dictB kd us ps).toArray⟩).2.size ≤ (plainB kd vs).length := by rw [← e1]; exact h1.1
  unfold bestP
  by_cases hk : kd = 2 ∨ kd = 3
  · rw [if_pos hk]
    have h2 := bst_le (bst (0, ⟨(plainB kd vs).toArray⟩) 1 ⟨(dictB kd us ps).toArray⟩) 2 ⟨(deltaB vs).toArray⟩
    rw [e3] at h2
    exact ⟨Nat.le_trans h2.1 h1', Nat.le_trans h2.1 h1.2, fun _ => h2.2⟩
  · rw [if_neg hk]
    by_cases h4 : kd = 4
    · rw [if_pos h4]
      have h2 := bst_le (bst (0, ⟨(plainB kd vs).toArray⟩) 1 ⟨(dictB kd us ps).toArray⟩) 3 ⟨(Um.prefs [] (bys (vtx vs))).toArray⟩
      exact ⟨Nat.le_trans h2.1 h1', Nat.le_trans h2.1 h1.2, fun h => absurd h hk⟩
    · rw [if_neg h4]
      exact ⟨h1', h1.2, fun h => absurd h hk⟩
theorem bst_cases (b : Int × ByteArray) (nc : Int) (t : ByteArray) : bst b nc t = (nc, t) ∨ bst b nc t = b := by
  unfold bst
  by_cases h : t.size < b.2.size
  · left; simp only [if_pos h]
  · right; simp only [if_neg h]
theorem mk_of (s : ByteArray) (l : List UInt8) (h : s = ⟨l.toArray⟩) : s.data.toList = l := by
  subst h
  simp
/-- ReadBest of what Best writes. -/
theorem readBest_best (kd : Int) (vs us : List Vl) (ps : List Nat) (w : World) (st kt : TypeId) (sp kp : Value) (hg : w.cell? ⟨0, 0, none⟩ = some (.iface st sp)) (hgk : w.cell? ⟨2, 0, none⟩ = some (.iface kt kp)) (hn : vs.length ≤ 300) (hu : Uq vs us ps) (hR : Right kd vs) :
    Calls Tryd.prog 19 #[.int .i64 kd, .int .i64 (bestP kd vs us ps).1, .string (bestP kd vs us ps).2, .int .i64 (vs.length : Nat)] w fun e w' => RetVl vs e w' ∧ Below w.heap.size w w' := by
  have hle := (bestP_le kd vs us ps).1
  have hpl := plainB_len hR
  have hsz : (bestP kd vs us ps).2.size ≤ 1000000 := by omega
  have hP : bestP kd vs us ps = (0, ⟨(plainB kd vs).toArray⟩) ∨ bestP kd vs us ps = (1, ⟨(dictB kd us ps).toArray⟩) ∨ ((kd = 2 ∨ kd = 3) ∧ bestP kd vs us ps = (2, ⟨(deltaB vs).toArray⟩)) ∨ (kd = 4 ∧ bestP kd vs us ps = (3, ⟨(Um.prefs [] (bys (vtx vs))).toArray⟩)) := by
    unfold bestP
    have h1 := bst_cases (0, ⟨(plainB kd vs).toArray⟩) 1 ⟨(dictB kd us ps).toArray⟩
    by_cases hk : kd = 2 ∨ kd = 3
    · rw [if_pos hk]
      rcases bst_cases (bst (0, ⟨(plainB kd vs).toArray⟩) 1 ⟨(dictB kd us ps).toArray⟩) 2 ⟨(deltaB vs).toArray⟩ with h | h
      · exact Or.inr (Or.inr (Or.inl ⟨hk, h⟩))
      · rw [h]
        rcases h1 with h | h
        · exact Or.inr (Or.inl h)
        · exact Or.inl h
    · rw [if_neg hk]
      by_cases h4 : kd = 4
      · rw [if_pos h4]
        rcases bst_cases (bst (0, ⟨(plainB kd vs).toArray⟩) 1 ⟨(dictB kd us ps).toArray⟩) 3 ⟨(Um.prefs [] (bys (vtx vs))).toArray⟩ with h | h
        · exact Or.inr (Or.inr (Or.inr ⟨h4, h⟩))
        · rw [h]
          rcases h1 with h | h
          · exact Or.inr (Or.inl h)
          · exact Or.inl h
      · rw [if_neg h4]
        rcases h1 with h | h
        · exact Or.inr (Or.inl h)
        · exact Or.inl h
  rcases hP with h | h | ⟨hk, h⟩ | ⟨hk, h⟩
  · rw [h] at hsz ⊢
    exact readBest_plain kd _ vs w st sp hg hsz hn hR (mk_of _ _ rfl)
  · rw [h] at hsz ⊢
    exact readBest_dict kd _ vs us ps w st sp hg hsz hn hu hR (mk_of _ _ rfl)
  · rw [h] at hsz ⊢
    exact readBest_delta kd _ vs w st kt sp kp hg hgk hsz hn hk hR (mk_of _ _ rfl)
  · subst hk
    rw [h] at hsz ⊢
    exact readBest_prefix _ vs w st sp hg hsz hn hR (mk_of _ _ rfl)
theorem dictB_len {kd : Int} {vs us : List Vl} {ps : List Nat} (hu : Uq vs us ps) (hn : vs.length ≤ 300) (hR : Right kd vs) : (dictB kd us ps).length ≤ 1000000 := by
  have hl := hu.len
  have h1 := Um.wrs_len (Um.pw us.length) (Um.pw_le (by omega)) (pints ps) (by rw [pints_len]; omega)
  have h2 := plainB_len (right_sub hR hu.sub)
  have h3 := Um.txt_len (plainB kd us) (by omega)
  have h4 := Um.uv_ten (n := us.length) (by omega)
  unfold dictB
  rw [List.length_append, List.length_append]
  omega
theorem stepsB_len (ds : List Int) (hx : ∀ d ∈ ds, -9223372036854775808 ≤ d ∧ d ≤ 9223372036854775807) : ∀ j, 32 * j < ds.length + 32 → (stepsB ds j).length ≤ 300 * j
  | 0, _ => by simp [stepsB]
  | j + 1, h => by
    have ih := stepsB_len ds hx j (by omega)
    have hb := blkB_len (ds := (ds.drop (32 * j)).take 32) (by rw [List.length_take, List.length_drop]; omega) (by rw [List.length_take]; omega) (fun d hd => hx d (List.mem_of_mem_drop (List.mem_of_mem_take hd)))
    rw [stepsB_succ, stepB, List.length_append]
    omega
theorem deltaB_len {vs : List Vl} (hn : vs.length ≤ 300) (hx : ∀ v ∈ vs, v.In) : (deltaB vs).length ≤ 1000000 := by
  unfold deltaB
  split
  · simp
  · rename_i h0
    have h1 := stepsB_len (difs vs) difs_ok ((vs.length - 1 + 31) / 32) (by rw [difs_len]; omega)
    have hv := (hx _ (List.getElem_mem (show 0 < vs.length by omega))).2.1
    have h2 := Um.uv_ten (zig_lt hv.1 hv.2)
    have e : (vns vs).getD 0 0 = (vs[0]'(by omega)).n := by simp [vns, List.getD, show 0 < vs.length by omega]
    rw [List.length_append, e]
    omega
end Go.Proofs.YtjchkhdmjbojjaaDoor

namespace Go.Proofs.YtjchkhdmjbojjaaDoor
open Go.RowKit
set_option maxRecDepth 100000 in
set_option maxHeartbeats 6400000 in
theorem encTwice_walk (kd : Int) (a : Option Addr) (c : Nat) (vs : List Vl) (w : World) (tt bt st kt : TypeId) (tp bp sp kp : Value) (hE : Four4 w tt bt st kt tp bp sp kp) (hm : vs.length ≤ maxLen) (hl : LiesV w a vs) (hin : ∀ v ∈ vs, v.In) :
    Calls Tryd.prog 5 #[.int .i64 kd, .slice a vs.length c] w fun e w' => e = .returned (.bool true) ∧ Below w.heap.size w w' := by
  have HE : Hid _ := hE
  have HL : Hid (LiesV w a vs) := hl
  have HI : Hid (∀ v ∈ vs, v.In) := hin
  have HM : Hid (vs.length ≤ maxLen) := hm
  unfold maxLen at hm
  clear hE hl hin
  go_enter Tryd.func5, Tryd.ntmps5
  go_wp2_with fail
  refine (four_any _ kt st kp sp HE.out.kind HE.out.shape).mono ?_
  rintro e w1 ⟨rfl, hb1⟩
  go_wp2_with fail
  refine (small_any a vs c w1 HM.out (HL.out.keep hb1)).mono ?_
  rintro e w2 ⟨⟨b, rfl, hsm⟩, hw⟩
  obtain rfl := hw.symm
  cases b with
  | false =>
    go_wp2_with fail
    go_ret
    exact ⟨rfl, hb1⟩
  | true =>
    have hs1 := hsm rfl
    clear hsm
    go_wp2_with fail
    refine (values_any a c vs w1 (by omega) (HL.out.keep hb1)).mono ?_
    rintro e w3 ⟨⟨a3, c3, rfl, hl3⟩, hb3⟩
    have hb13 := hb1.trans (hb3.mono hb1.size)
    have HL3 : Hid (LiesV w3 a3 vs) := hl3
    have HE3 : Hid _ := HE.out.keep hb13
    clear hl3
    go_wp2_with fail
    refine (plain_any a3 vs c3 kd w3 kt st kp sp HE3.out.kind HE3.out.shape (by omega) HL3.out HI.out).mono ?_
    rintro e w4 ⟨hP, hb4⟩
    have hb14 := hb13.trans (hb4.mono hb13.size)
    rcases hP with ⟨hR, rfl⟩ | ⟨_, t, p, rfl⟩
    · obtain ⟨us, ps, hu⟩ := Uq.ex _ vs rfl
      have HU : Hid (Uq vs us ps) := hu
      have HR : Hid (Right kd vs) := hR
      have hpz := plainB_len hR
      have hdz := dictB_len hu hs1 hR
      have hbp := bestP_le kd vs us ps
      obtain ⟨pb, HPB⟩ : ∃ pb : ByteArray, Hid (pb = ⟨(plainB kd vs).toArray⟩) := ⟨_, rfl⟩
      obtain ⟨db, HDB⟩ : ∃ db : ByteArray, Hid (db = ⟨(dictB kd us ps).toArray⟩) := ⟨_, rfl⟩
      have epb : pb.size = (plainB kd vs).length := by rw [HPB.out]; exact mk_size _
      have edb : db.size = (dictB kd us ps).length := by rw [HDB.out]; exact mk_size _
      obtain ⟨cb, HCB⟩ : ∃ cb : Int, Hid (cb = (bestP kd vs us ps).1) := ⟨_, rfl⟩
      obtain ⟨sb, HSB⟩ : ∃ sb : ByteArray, Hid (sb = (bestP kd vs us ps).2) := ⟨_, rfl⟩
      rw [← HSB.out, ← epb, ← edb] at hbp
      have HDL : Hid ((kd = 2 ∨ kd = 3) → sb.size ≤ (deltaB vs).length) := hbp.2.2
      have hle1 : sb.size ≤ pb.size := hbp.1
      have hle2 : sb.size ≤ db.size := hbp.2.1
      have hps : pb.size ≤ 1000000 := by omega
      have hds : db.size ≤ 1000000 := by omega
      have hg1 : decide ((pb.size : Int) < (sb.size : Int)) = false := by simp; omega
      have hg2 : decide ((db.size : Int) < (sb.size : Int)) = false := by simp; omega
      clear hpz hdz hbp epb edb hu hR
      rw [← HPB.out]
      have HE4 : Hid _ := HE3.out.keep hb4
      have hsame : ∀ (W : World) (a' : Option Addr) (c' : Nat), Below w.heap.size w W → LiesV W a' vs → Calls Tryd.prog 18 #[.slice a' vs.length c', .slice a vs.length c] W fun e w' => e = .returned (.bool true) ∧ Below W.heap.size W w' := fun W a' c' hW hl' => by
        refine (sameVs_any W a' a c' c vs vs HM.out hl' (HL.out.keep hW)).mono ?_
        rintro e w' ⟨⟨b, rfl, hbt⟩, hb'⟩
        obtain rfl : b = true := hbt.2 rfl
        exact ⟨rfl, hb'⟩
      have HSame : Hid _ := hsame
      clear hsame
      go_wp2_with fail
      refine (readPlain_right kd pb vs w4 tt tp HE4.out.text hps hs1 HR.out (mk_of _ _ HPB.out)).mono ?_
      rintro e w5 ⟨⟨a5, c5, rfl, hl5⟩, hb5⟩
      have hb15 := hb14.trans (hb5.mono hb14.size)
      have HL5 : Hid (LiesV w5 a5 vs) := hl5
      have HE5 : Hid _ := HE4.out.keep hb5
      clear hl5
      go_wp2_with fail
      refine (values_any a c vs w5 (by omega) (HL.out.keep hb15)).mono ?_
      rintro e w6 ⟨⟨a6, c6, rfl, hl6⟩, hb6⟩
      have hb16 := hb15.trans (hb6.mono hb15.size)
      have HL6 : Hid (LiesV w6 a6 vs) := hl6
      have HE6 : Hid _ := HE5.out.keep hb6
      clear hl6
      have hdd := dict_right a6 vs c6 kd w6 kt st kp sp HE6.out.kind HE6.out.shape hs1 HL6.out HR.out us ps HU.out
      rw [← HDB.out] at hdd
      go_wp2_with fail
      refine hdd.mono ?_
      clear hdd
      rintro e w7 ⟨rfl, hb7⟩
      have hb17 := hb16.trans (hb7.mono hb16.size)
      have HE7 : Hid _ := HE6.out.keep hb7
      go_wp2_with fail
      refine (readDict_right kd db vs us ps w7 tt tp HE7.out.text hds hs1 HU.out HR.out (mk_of _ _ HDB.out)).mono ?_
      rintro e w8 ⟨⟨a8, c8, rfl, hl8⟩, hb8⟩
      have hb18 := hb17.trans (hb8.mono hb17.size)
      have HL8 : Hid (LiesV w8 a8 vs) := hl8
      have HE8 : Hid _ := HE7.out.keep hb8
      clear hl8
      go_wp2_with fail
      refine (HSame.out w8 a5 c5 hb18 (((HL5.out.keep hb6).keep hb7).keep hb8)).mono ?_
      rintro e w9 ⟨rfl, hb9⟩
      have hb19 := hb18.trans (hb9.mono hb18.size)
      have HE9 : Hid _ := HE8.out.keep hb9
      go_wp2_with fail
      refine (HSame.out w9 a8 c8 hb19 (HL8.out.keep hb9)).mono ?_
      rintro e w10 ⟨rfl, hb10⟩
      have hb110 := hb19.trans (hb10.mono hb19.size)
      have HE10 : Hid _ := HE9.out.keep hb10
      go_wp2_with fail
      refine (values_any a c vs w10 (by omega) (HL.out.keep hb110)).mono ?_
      rintro e w11 ⟨⟨a11, c11, rfl, hl11⟩, hb11⟩
      have hb111 := hb110.trans (hb11.mono hb110.size)
      have HL11 : Hid (LiesV w11 a11 vs) := hl11
      have HE11 : Hid _ := HE10.out.keep hb11
      clear hl11
      have hbb := best_right a11 vs c11 kd w11 kt st bt kp sp bp HE11.out.kind HE11.out.shape HE11.out.bound hs1 HL11.out HR.out us ps HU.out
      rw [← HCB.out, ← HSB.out] at hbb
      go_wp2_with fail
      refine hbb.mono ?_
      clear hbb
      rintro e w12 ⟨rfl, hb12⟩
      have hb112 := hb111.trans (hb12.mono hb111.size)
      have HE12 : Hid _ := HE11.out.keep hb12
      have hrb := readBest_best kd vs us ps w12 tt kt tp kp HE12.out.text HE12.out.kind hs1 HU.out HR.out
      rw [← HCB.out, ← HSB.out] at hrb
      go_wp2_with fail
      refine hrb.mono ?_
      clear hrb
      rintro e w13 ⟨⟨a13, c13, rfl, hl13⟩, hb13'⟩
      have hb113 := hb112.trans (hb13'.mono hb112.size)
      have HL13 : Hid (LiesV w13 a13 vs) := hl13
      have HE13 : Hid _ := HE12.out.keep hb13'
      clear hl13
      go_wp2_with fail
      refine (HSame.out w13 a13 c13 hb113 HL13.out).mono ?_
      rintro e w14 ⟨rfl, hb14'⟩
      have hb114 := hb113.trans (hb14'.mono hb113.size)
      have HE14 : Hid _ := HE13.out.keep hb14'
      by_cases hk : kd = 2 ∨ kd = 3
      · have hle3 := HDL.out hk
        have hdz := deltaB_len hs1 HI.out
        obtain ⟨tb, HTB⟩ : ∃ tb : ByteArray, Hid (tb = ⟨(deltaB vs).toArray⟩) := ⟨_, rfl⟩
        have etb : tb.size = (deltaB vs).length := by rw [HTB.out]; exact mk_size _
        rw [← etb] at hle3 hdz
        clear etb
        have HK : Hid (kd = 2 ∨ kd = 3) := hk
        have hle4 : decide ((sb.size : Int) ≤ (tb.size : Int)) = true := by simp; omega
        have hkk : (kd != 2 && kd != 3) = false := by rcases hk with h | h <;> simp [h]
        have hkc : (kd != 2) = false ∨ ((kd != 2) = true ∧ (kd != 3) = false) := by rcases hk with h | h <;> simp [h]
        clear hk
        rcases hkc with hk2 | ⟨hk2, hk3⟩
        all_goals
          go_wp2_with fail
          refine (values_any a c vs w14 (by omega) (HL.out.keep hb114)).mono ?_
          rintro e w15 ⟨⟨a15, c15, rfl, hl15⟩, hb15'⟩
          have hb115 := hb114.trans (hb15'.mono hb114.size)
          have HL15 : Hid (LiesV w15 a15 vs) := hl15
          have HE15 : Hid _ := HE14.out.keep hb15'
          clear hl15
          have hde := delta_right a15 vs c15 kd w15 kt kp HE15.out.kind (by omega) HK.out HL15.out (fun j h => (HR.out.2 _ (List.getElem_mem h)).1) (fun j h => (HR.out.2 _ (List.getElem_mem h)).2.2.1)
          rw [← HTB.out] at hde
          go_wp2_with fail
          refine hde.mono ?_
          clear hde
          rintro e w16 ⟨rfl, hb16'⟩
          have hb116 := hb115.trans (hb16'.mono hb115.size)
          have HE16 : Hid _ := HE15.out.keep hb16'
          go_wp2_with fail
          refine (readDelta_right kd tb vs w16 tt kt tp kp HE16.out.text HE16.out.kind hdz hs1 HK.out HR.out (mk_of _ _ HTB.out)).mono ?_
          rintro e w17 ⟨⟨a17, c17, rfl, hl17⟩, hb17'⟩
          have hb117 := hb116.trans (hb17'.mono hb116.size)
          have HL17 : Hid (LiesV w17 a17 vs) := hl17
          clear hl17
          go_wp2_with fail
          refine (HSame.out w17 a17 c17 hb117 HL17.out).mono ?_
          rintro e w18 ⟨rfl, hb18'⟩
          have hb118 := hb117.trans (hb18'.mono hb117.size)
          go_wp2
          go_ret
          exact ⟨by first | rfl | exact ret_b hle4 | simp [hle4], hb118⟩
      · have hk2 : (kd != 2) = true := by simp; omega
        have hk3 : (kd != 3) = true := by simp; omega
        clear hk
        go_wp2
        go_ret
        exact ⟨rfl, hb114⟩
    · go_wp2
      go_ret
      exact ⟨rfl, hb14⟩
end Go.Proofs.YtjchkhdmjbojjaaDoor

namespace Go.Proofs.YtjchkhdmjbojjaaDoor
open Go.RowKit
theorem encTwice_top (kd : Int) (a : Option Addr) (n c : Nat) (vs : List Vl) (w : World) (e1 : vs.length = n) (m1 : n ≤ maxLen) (l1 : LiesV w a vs) (b1 : ∀ v ∈ vs, v.In) (hL : laidMetH Tryd.prog Rows.encTwiceRow.laid w) :
    Calls Tryd.prog 5 #[.int .i64 kd, .slice a n c] w fun e w' => e = .returned (.bool true) ∧ Below w.heap.size w w' := by
  have hL' : laidMet Tryd.prog Rows.encTwiceRow.laid w := hL
  obtain ⟨t, ht⟩ := text_of hL' (List.mem_of_getElem? (i := 0) rfl)
  obtain ⟨b, hb⟩ := bound_of hL' (List.mem_of_getElem? (i := 1) rfl)
  obtain ⟨s, hs⟩ := shape_of hL' (List.mem_of_getElem? (i := 2) rfl)
  obtain ⟨d, hd⟩ := kind_of hL' (List.mem_of_getElem? (i := 3) rfl)
  subst e1
  exact encTwice_walk kd a c vs w _ _ _ _ _ _ _ _ ⟨ht, hb, hs, hd⟩ m1 l1 b1
end Go.Proofs.YtjchkhdmjbojjaaDoor
