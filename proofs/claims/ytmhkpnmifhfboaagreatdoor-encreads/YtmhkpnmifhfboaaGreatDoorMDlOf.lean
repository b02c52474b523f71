/-
  The reference's ReadDeltaOf: the numbers that bytes are, by their differences.
-/
import Derived.Test.YtmhkpnmifhfboaaGreatDoorMBRdDelta
import Derived.Test.YtmhkpnmifhfboaaGreatDoorMBUnlikeOf
import Derived.Test.YtmhkpnmifhfboaaGreatDoorMBUnpackF
import Derived.Test.YtmhkpnmifhfboaaGreatDoorMDeltaOf
import Derived.Test.YtmhkpnmifhfboaaGreatDoorMBRd2
namespace Go.Proofs.YtmhkpnmifhfboaaGreatDoor
open Go.RowKit
theorem SRow.start (kd : Int) (w : World) : SRow kd w (.slice none 0 0) w [] := ⟨World.ownsRow_nil _ _ _ _, Below.refl _ _⟩
/-- What is checked of the numbers. -/
theorem isDl_of {kd : Int} {s : ByteArray} {n : Nat} {xs : List Int} (h : rdSteps s.data.toList n = some xs) (hn : xs.length = n) (hx : ∀ x ∈ xs, -9223372036854775808 ≤ x ∧ x ≤ 9223372036854775807) (ho : ∀ j (h : j < (kvs kd xs).length), (kvs kd xs)[j].Ok kd) (hd : deltaB (kvs kd xs) = s.data.toList) : IsDl kd s.data.toList n (kvs kd xs) := ⟨xs, h, hn, rfl, hx, ho, hd⟩
theorem notDl_none {kd : Int} {s : ByteArray} {n : Nat} (h : rdSteps s.data.toList n = none) : ¬ ∃ vs, IsDl kd s.data.toList n vs := fun ⟨vs, xs, h1, _⟩ => by rw [h] at h1; cases h1
theorem notDl_ok {kd : Int} {s : ByteArray} {n : Nat} {xs : List Int} (h : rdSteps s.data.toList n = some xs) {j : Nat} (hj : j < (kvs kd xs).length) (ho : ¬ (kvs kd xs)[j].Ok kd) : ¬ ∃ vs, IsDl kd s.data.toList n vs := fun ⟨vs, ys, h1, _, h3, _, h5, _⟩ => by
  rw [h] at h1
  injection h1 with h1
  subst h1 h3
  exact ho (h5 j hj)
theorem notDl_bytes {kd : Int} {s : ByteArray} {n : Nat} {xs : List Int} (h : rdSteps s.data.toList n = some xs) (hd : deltaB (kvs kd xs) ≠ s.data.toList) : ¬ ∃ vs, IsDl kd s.data.toList n vs := fun ⟨vs, ys, h1, _, h3, _, _, h6⟩ => by
  rw [h] at h1
  injection h1 with h1
  subst h1 h3
  exact hd h6
set_option maxRecDepth 100000 in
set_option maxHeartbeats 3200000 in
theorem dlOf_any (kd : Int) (s : ByteArray) (n : Nat) (w : World) (hs : s.size ≤ 1000) (hn : n ≤ 20000) :
    Calls Tryz.prog 24 #[.int .i64 kd, .string s, .int .i64 n] w fun e w' => RetOk (IsDl kd s.data.toList n) e w' ∧ Below w.heap.size w w' := by
  obtain ⟨iv, hvi, hv0, hv1, hv2⟩ := info_parts Tryz.infoV
  go_enter Tryz.func24, Tryz.ntmps24
  go_wp2
  go_loopw [8, 9] (fun o y wr => ∃ (xs : List Int) (r : ByteArray), y = .string r ∧ r.size ≤ 1000 ∧ xs.length ≤ n ∧ Hid (SRow kd w o wr xs) ∧ Hid (RAt s n xs r)) (fun o _ _ => n - slLen o)
  case atStart => exact ⟨[], s, rfl, hs, Nat.zero_le _, SRow.start kd w, Or.inl ⟨rfl, rfl⟩⟩
  case round =>
    obtain ⟨xs, r, rfl, hr, hxn, HR, HA⟩ := hrel
    have hb := HR.out.old
    obtain ⟨a2, c2, rfl, hl2⟩ := liesV_own HR.out.row
    rw [kvs_len] at *
    have HL2 : Hid (LiesV wr a2 (kvs kd xs)) := hl2
    clear hl2
    by_cases hlt : xs.length < n
    · generalize hp : Um.rdv r.data.toList 0 0 = p
      obtain ⟨m, i⟩ := p
      have HP : Hid (Um.rdv r.data.toList 0 0 = (m, i)) := hp
      have hroom := Um.rdv_room r.data.toList 0 0 (by simp)
      rw [hp, Array.length_toList] at hroom
      obtain ⟨hm64, hi10, hil⟩ := hroom
      simp only at hm64 hi10 hil
      have HM64 : Hid (m < 18446744073709551616) := hm64
      have hil2 : i ≤ r.size := by have : r.size = r.data.size := rfl; omega
      clear hp hil hm64
      go_wp2_with fail
      refine (readSigned_any r wr m i (by unfold maxLen; omega) HP.out).mono ?_
      rintro e w1 ⟨rfl, hw⟩
      obtain rfl := hw.symm
      by_cases hi : i = 0
      · have HNo : Hid (rdSteps s.data.toList n = none) := HA.out.bad0 hlt (by rw [HP.out, hi])
        have hi0 : ((i : Int) == 0) = true := by simp; omega
        go_wp2
        go_ret2
        exact ⟨Or.inr ⟨notDl_none HNo.out, _, _, _, rfl⟩, hb⟩
      · have hi0 : ((i : Int) == 0) = false := by simp; omega
        by_cases hx0 : xs.length = 0
        · have he : xs = [] := List.length_eq_zero_iff.1 hx0
          subst he
          have HA2 : Hid (RAt s n [unz m] (r.extract i r.size)) := HA.out.first (by simpa using hlt) (by omega) HP.out HM64.out
          have hrx : (r.extract i r.size).size ≤ 1000 := by rw [ByteArray.size_extract]; omega
          generalize unz m = z at *
          clear hx0
          go_wp2_with (at_builtin; refine wpList_append_own _ rfl _ _ 26 rfl w.heap.size 40 iv (.agg #[.int .i64 0, .int .i64 0, .string ⟨#[]⟩]) 3 32 Tryz.underlying26 hvi hv0 hv1 hv2 rfl (by decide) _ 0 (vcells (kvs kd [])) rfl (HR.out.row.alloc _) ⟨_, 0, none⟩ 1 1 [.int .i64 kd, .int .i64 z, .string ⟨#[]⟩] rfl rfl three_cells (by intro u hu; simp at hu; rcases hu with rfl | rfl | rfl <;> rfl) (by unfold maxLen; omega) (by omega) (by have := HR.out.old.size; simp at this ⊢; omega) ?_; intro v1 w2 hown1 hgrow1 _; have HR1 : Hid (SRow kd w v1 w2 [z]) := HR.out.push hown1 hgrow1)
          obtain ⟨a3, c3, rfl, _⟩ := liesV_own HR1.out.row
          go_roundw
          case rel => exact ⟨[z], r.extract i r.size, rfl, hrx, by simp; omega, HR1, HA2⟩
          case measure => simp [slLen, kvs]; simp at hlt; omega
        · have hx1 : ((xs.length : Int) == 0) = false := by rw [beq_eq_false_iff_ne]; omega
          have hx0' : 0 < xs.length := by omega
          obtain ⟨p, HPn⟩ : ∃ p, Hid (p = min 32 (n - xs.length)) := ⟨_, rfl⟩
          have hp32 : p ≤ 32 := by rw [HPn.out]; omega
          have hpn : xs.length + p ≤ n ∧ 0 < p := by rw [HPn.out]; omega
          have hpc : (decide ((32 : Int) < (n : Int) - (xs.length : Int)) = true ∧ Hid ((32 : Int) = (p : Int))) ∨ (decide ((32 : Int) < (n : Int) - (xs.length : Int)) = false ∧ (n : Int) - (xs.length : Int) = (p : Int)) := by
            have := HPn.out
            by_cases h : 32 < n - xs.length
            · left; exact ⟨by rw [decide_eq_true_iff]; omega, by show _ = _; omega⟩
            · right; exact ⟨by rw [decide_eq_false_iff_not]; omega, by omega⟩
          obtain ⟨r1, hr1e⟩ : ∃ r1, r.extract i r.size = r1 := ⟨_, rfl⟩
          have HR1 : Hid (r1.data.toList = r.data.toList.drop i) := by show _ = _; rw [← hr1e]; exact drop_ext r i
          have HZ1 : Hid (r1.size = r.size - i) := by show _ = _; rw [← hr1e, ByteArray.size_extract]; omega
          have hr1 : r1.size ≤ 1000 := by rw [HZ1.out]; omega
          by_cases hr0 : r1.size = 0
          · have HNo : Hid (rdSteps s.data.toList n = none) := HA.out.bad hlt hx0' HPn.out HP.out (by have := HZ1.out; omega)
            have hrt := (toList_nil r1).2 hr0
            clear hr0
            rcases hpc with ⟨hd, hq⟩ | ⟨hd, hq⟩
            all_goals go_wp2
            all_goals go_ret2
            all_goals exact ⟨Or.inr ⟨notDl_none HNo.out, _, _, _, rfl⟩, hb⟩
          · have hrt : r1.toList.isEmpty = false := by rw [toList_isEmpty]; simp [hr0]
            have hr0' : 0 < r1.size := by omega
            obtain ⟨wd, hwd⟩ : ∃ wd, r1[0].toNat = wd := ⟨_, rfl⟩
            have HWD : Hid (r1[0].toNat = wd) := hwd
            clear hwd
            have hwdi : (r1[0].toNat : Int) = (wd : Int) := by rw [HWD.out]
            have HGD : Hid ((r.data.toList.getD i 0).toNat = wd) := by
              show _ = _
              have h1 : (r.data.toList.drop i)[0]? = some r1[0] := by
                rw [← HR1.out, List.getElem?_eq_getElem (by rw [Array.length_toList]; exact hr0')]
                rfl
              rw [List.getElem?_drop, Nat.add_zero] at h1
              rw [List.getD_eq_getElem?_getD, h1, ← HWD.out]
              rfl
            clear hr0
            by_cases hw64 : wd ≤ 64
            · have hw2 : decide (64 < (wd : Int)) = false := by simp; omega
              have hw3 : ¬ 64 < wd := by omega
              have hwr : IntKind.i64.wrap (wd : Int) = (wd : Int) := by rw [IntKind.wrap_i64]; omega
              have HUN : Hid (Calls Tryz.prog 44 #[.string (r1.extract 1 r1.size), .int .i64 wd, .int .i64 p] wr fun e w' => UnpOf (r1.extract 1 r1.size) wd p e w' ∧ Below wr.heap.size wr w') := unpackOf_wide (r1.extract 1 r1.size) wd p wr (by rw [ByteArray.size_extract]; omega) hw64 (by omega)
              have HX1 : Hid ((r1.extract 1 r1.size).data.toList = r.data.toList.drop (i + 1)) := by show _ = _; rw [drop_ext, HR1.out, List.drop_drop]
              have HZ2 : Hid ((r1.extract 1 r1.size).size = r.size - (i + 1)) := by show _ = _; rw [ByteArray.size_extract, HZ1.out]; omega
              have hrs : i + 1 ≤ r.size := by have := HZ1.out; omega
              have hmm : p * wd ≤ 32 * 64 := Nat.mul_le_mul hp32 hw64
              obtain ⟨t, HT⟩ : ∃ t, Hid (t = p * wd) := ⟨_, rfl⟩
              have hti : (p : Int) * (wd : Int) = (t : Int) := by rw [HT.out]; simp
              have htb : t ≤ 2048 := by rw [HT.out]; exact hmm
              obtain ⟨z, HZ⟩ : ∃ z, Hid (z = (t + 7) / 8) := ⟨_, rfl⟩
              have hzt : ((t : Int) + 7).tdiv 8 = (z : Int) := by rw [Int.tdiv_eq_ediv_of_nonneg (by omega), HZ.out]; omega
              obtain ⟨f, HF⟩ : ∃ f, Hid (f = 1 + z) := ⟨_, rfl⟩
              have hfi : (1 : Int) + (z : Int) = (f : Int) := by rw [HF.out]; omega
              have hzb : z ≤ 300 := by rw [HZ.out]; omega
              clear hmm
              rcases hpc with ⟨hd, hq⟩ | ⟨hd, hq⟩
              all_goals
                go_wp2_with fail
                first | rw [hq.out] | skip
                refine HUN.out.mono ?_
                clear HUN hd hq
                rintro e w5 ⟨⟨hfit, a5, c5, rfl, hl5, B5, hown5⟩ | ⟨hfit, rfl⟩, hb5⟩
                · rw [HZ2.out, Nat.mul_comm wd p, ← HT.out] at hfit
                  have hfs : i + 1 + z ≤ r.size := by have := HZ.out; omega
                  clear hfit
                  obtain ⟨lx, hlast, hat⟩ := HA.out.some hlt hx0' HPn.out HP.out (by omega) HGD.out ⟨by omega, hw64, by rw [← HT.out, ← HZ.out]; exact hfs⟩
                  rw [← HT.out, ← HZ.out] at hat
                  rw [HX1.out] at hl5 hown5
                  have hul : (Um.unp (r.data.toList.drop (i + 1)) wd p).length = p := Um.unp_len _ _ _
                  generalize Um.unp (r.data.toList.drop (i + 1)) wd p = us at *
                  have HUL : Hid (us.length = p) := hul
                  obtain ⟨ls, HLS⟩ : ∃ ls, Hid (ls = unz m) := ⟨_, rfl⟩
                  rw [← HLS.out] at hat ⊢
                  obtain ⟨ds, HDS⟩ : ∃ ds, Hid (ds = us.map fun x : Nat => wrap64 (ls + wrap64 (x : Int))) := ⟨_, rfl⟩
                  rw [← HDS.out] at hat
                  have HDL : Hid (ds.length = p) := by show _ = _; rw [HDS.out, List.length_map, HUL.out]
                  have HLast : Hid (xs.getLast? = some lx) := hlast
                  have HAt : Hid (RAt s n (xs ++ accD lx ds) (r1.extract f r1.size)) := hat.congr (by rw [drop_ext, HR1.out, List.drop_drop, drop_ext, HF.out, ← Nat.add_assoc])
                  have HOwn : Hid (w5.ownsRow B5 78 1 (.slice a5 p c5) p (u64s us)) := hown5
                  have HR5 : Hid (SRow kd w (.slice a2 xs.length c2) w5 (xs ++ accD lx (ds.take 0))) := by
                    show SRow _ _ _ _ _
                    rw [show xs ++ accD lx (ds.take 0) = xs by simp [accD]]
                    exact ⟨ow_kept HR.out.row hb5, hb.trans (hb5.mono hb.size)⟩
                  have hfr : f ≤ r1.size := by rw [HZ1.out, HF.out]; omega
                  have hr2 : (r1.extract f r1.size).size ≤ 1000 := by rw [ByteArray.size_extract]; omega
                  clear hl5 hown5 hat hlast hul HR HA HL2
                  go_wp2
                  go_loopw [8, 16] (fun o x wq => ∃ q : Nat, q ≤ p ∧ x = .int .i64 q ∧ Hid (SRow kd w o wq (xs ++ accD lx (ds.take q))) ∧ Hid (wq.ownsRow B5 78 1 (.slice a5 p c5) p (u64s us))) (fun _ x _ => p - (intOf x).toNat)
                  case atStart => exact ⟨0, Nat.zero_le _, rfl, HR5, HOwn⟩
                  case round =>
                    clear HR5 HOwn
                    obtain ⟨q, hqp, rfl, HRq, HOq⟩ := hrel
                    by_cases hq : q < p
                    · have hqu : q < us.length := by rw [HUL.out]; exact hq
                      have hqd : q < ds.length := by rw [HDL.out]; exact hq
                      have HTK : Hid (ds.take (q + 1) = ds.take q ++ [wrap64 (ls + wrap64 (us[q] : Nat))]) := by
                        show _ = _
                        rw [List.take_succ_eq_append_getElem hqd]
                        simp [HDS.out]
                      have hl6 : Lies wr a5 (u64s us) := by
                        obtain ⟨a6, c6, he6, hl6⟩ := lies_own HOq.out
                        injection he6 with e6 _ _
                        rw [e6]
                        exact hl6
                      obtain ⟨b6, o6, rfl, hc6⟩ := hl6 q (by rw [u64s_len]; exact hqu)
                      simp only [u64s, List.getElem_map] at hc6
                      have hub : us[q] < 18446744073709551616 ∨ True := Or.inr trivial
                      generalize us[q] = u at *
                      have HY2 : Hid (xs ++ accD lx (ds.take (q + 1)) = xs ++ accD lx (ds.take q) ++ [wrap64 (lastOf lx (ds.take q) + wrap64 (ls + wrap64 (u : Int)))]) := by show _ = _; rw [HTK.out, accD_app, List.append_assoc]; rfl
                      have hlq := last_acc (ds.take q) xs lx HLast.out
                      have hql : (xs ++ accD lx (ds.take q)).length ≤ 20000 := by rw [List.length_append, accD_len, List.length_take]; omega
                      generalize lastOf lx (ds.take q) = y at *
                      generalize xs ++ accD lx (ds.take q) = ys at *
                      obtain ⟨a7, c7, rfl, hl7⟩ := liesV_own HRq.out.row
                      rw [kvs_len] at *
                      obtain ⟨hy1, hy2⟩ := last_get hlq
                      obtain ⟨l1, HL1⟩ : ∃ l1, Hid (l1 = ys.length - 1) := ⟨_, rfl⟩
                      have hlm : (ys.length : Int) - 1 = (l1 : Int) := by rw [HL1.out]; omega
                      have hl1 : l1 < ys.length := by rw [HL1.out]; exact hy1
                      obtain ⟨b7, o7, rfl, _, hc7, _⟩ := hl7 l1 (by rw [kvs_len]; exact hl1)
                      have hyv : ((kvs kd ys)[l1]'(by rw [kvs_len]; exact hl1)).n = y := by
                        simp only [kvs, List.getElem_map]
                        have e := HL1.out
                        subst e
                        exact hy2
                      rw [hyv] at hc7
                      obtain ⟨V1, hq1⟩ : ∃ V1, IntKind.i64.wrap (y + ls) = V1 := ⟨_, rfl⟩
                      obtain ⟨V2, hq2⟩ : ∃ V2, IntKind.i64.wrap (u : Int) = V2 := ⟨_, rfl⟩
                      obtain ⟨V, HV⟩ : ∃ V, Hid (V = wrap64 (y + wrap64 (ls + wrap64 (u : Int)))) := ⟨_, rfl⟩
                      have hq3 : IntKind.i64.wrap (V1 + V2) = V := by rw [← hq1, ← hq2, HV.out]; exact wrap_three y ls u
                      rw [← HV.out] at HY2
                      clear hyv hy2 hy1 hlq hl6 hl7 hub
                      go_wp2_with (at_builtin; refine wpList_append_own _ rfl _ _ 26 rfl w.heap.size 40 iv (.agg #[.int .i64 0, .int .i64 0, .string ⟨#[]⟩]) 3 32 Tryz.underlying26 hvi hv0 hv1 hv2 rfl (by decide) _ ys.length (vcells (kvs kd ys)) rfl (HRq.out.row.alloc _) ⟨_, 0, none⟩ 1 1 [.int .i64 kd, .int .i64 V, .string ⟨#[]⟩] rfl rfl three_cells (by intro u hu; simp at hu; rcases hu with rfl | rfl | rfl <;> rfl) (by unfold maxLen; omega) (by omega) (by have := HRq.out.old.size; simp at this ⊢; omega) ?_; intro v1 w6 hown1 hgrow1 _; have HR6 : Hid (SRow kd w v1 w6 (ys ++ [V])) := HRq.out.push hown1 hgrow1; have HO6 : Hid _ := own_two (HRq.out.row.alloc _) (HOq.out.alloc _) (by decide) hgrow1)
                      go_roundw
                      case rel => first | exact ⟨q + 1, by omega, by go_num, by rw [HY2.out]; exact HR6, HO6⟩ | ((repeat apply Exists.intro); refine ⟨?_, rfl⟩; exact ⟨q + 1, by omega, by go_num, by rw [HY2.out]; exact HR6, HO6⟩)
                      case measure => simp [intOf]; omega
                    · obtain rfl : q = p := by omega
                      have htk : ds.take q = ds := List.take_of_length_le (by rw [HDL.out]; exact Nat.le_refl _)
                      rw [htk] at HRq
                      obtain ⟨a3, c3, rfl, _⟩ := liesV_own HRq.out.row
                      have HLf : Hid ((xs ++ accD lx ds).length = xs.length + q) := by show _ = _; rw [List.length_append, accD_len, HDL.out]
                      rw [kvs_len] at *
                      clear htk
                      go_wp2
                      go_roundw
                      case rel => exact ⟨xs ++ accD lx ds, r1.extract f r1.size, rfl, hr2, by rw [HLf.out]; omega, HRq, HAt⟩
                      case measure => simp only [slLen, HLf.out]; omega
                · have HNo : Hid (rdSteps s.data.toList n = none) := HA.out.bad hlt hx0' HPn.out HP.out (by
                    rw [HGD.out, ← HT.out, ← HZ.out]
                    rw [HZ2.out, Nat.mul_comm wd p, ← HT.out] at hfit
                    have := HZ.out
                    omega)
                  clear hfit
                  go_wp2
                  go_ret2
                  exact ⟨Or.inr ⟨notDl_none HNo.out, _, _, _, rfl⟩, hb.trans (hb5.mono hb.size)⟩
            · have hw2 : decide (64 < (wd : Int)) = true := by simp; omega
              have hw3 : 64 < wd := by omega
              have HNo : Hid (rdSteps s.data.toList n = none) := HA.out.bad hlt hx0' HPn.out HP.out (by rw [HGD.out]; omega)
              rcases hpc with ⟨hd, hq⟩ | ⟨hd, hq⟩
              all_goals go_wp2
              all_goals go_ret2
              all_goals exact ⟨Or.inr ⟨notDl_none HNo.out, _, _, _, rfl⟩, hb⟩
    · obtain rfl : xs.length = n := by omega
      obtain ⟨hfin, hins⟩ := HA.out.fin rfl
      have HFin : Hid (rdSteps s.data.toList xs.length = some xs) := hfin
      have HIns : Hid (∀ x ∈ xs, -9223372036854775808 ≤ x ∧ x ≤ 9223372036854775807) := hins
      clear hfin hins HA
      go_wp2_with fail
      go_loopw [18] (fun x wq => ∃ j : Nat, j ≤ xs.length ∧ x = .int .i64 j ∧ Hid (∀ i (h : i < (kvs kd xs).length), i < j → (kvs kd xs)[i].Ok kd) ∧ Below wr.heap.size wr wq) (fun x _ => xs.length - (intOf x).toNat)
      case atStart => exact ⟨0, Nat.zero_le _, rfl, fun i _ h => absurd h (Nat.not_lt_zero _), Below.refl _ _⟩
      case round =>
        obtain ⟨j, hj, rfl, HOk, hbq⟩ := hrel
        have hbb := hb.trans (hbq.mono hb.size)
        by_cases hjl : j < xs.length
        · have hjk : j < (kvs kd xs).length := by rw [kvs_len]; exact hjl
          obtain ⟨b7, o7, rfl, d0, d1, d2⟩ := (LiesV.keep HL2.out hbq) j hjk
          have HE : Hid ((kvs kd xs)[j].Ok kd ↔ OkV kd (kvs kd xs)[j].k (kvs kd xs)[j].n (kvs kd xs)[j].s.size) := Iff.rfl
          have HNOk : Hid (¬ (kvs kd xs)[j].Ok kd → ¬ ∃ vs, IsDl kd s.data.toList xs.length vs) := fun h => notDl_ok HFin.out hjk h
          have HStep : Hid ((kvs kd xs)[j].Ok kd → ∀ i (h : i < (kvs kd xs).length), i < j + 1 → (kvs kd xs)[i].Ok kd) := fun ho i h hi => by
            by_cases e : i = j
            · subst e; exact ho
            · exact HOk.out i h (by omega)
          generalize (kvs kd xs)[j] = v at *
          go_wp2_with fail
          refine (isValueR_any kd v.k v.n v.s wr).mono ?_
          rintro e w7 ⟨rfl, hb7⟩
          have hbq7 := hbq.trans (hb7.mono hbq.size)
          by_cases hok : OkV kd v.k v.n v.s.size
          · rw [okV_iff.2 hok]
            have HN : Hid _ := HStep.out (HE.out.2 hok)
            clear hok
            go_wp2
            go_roundw
            case rel => exact ⟨j + 1, by omega, by go_num, HN, hbq7⟩
            case measure => simp [intOf]; omega
          · rw [okV_no hok]
            have HN : Hid _ := HNOk.out (fun h => hok (HE.out.1 h))
            clear hok
            go_wp2
            go_ret2
            exact ⟨Or.inr ⟨HN.out, _, _, _, rfl⟩, hb.trans (hbq7.mono hb.size)⟩
        · obtain rfl : j = xs.length := by omega
          have HOk2 : Hid (∀ i (h : i < (kvs kd xs).length), (kvs kd xs)[i].Ok kd) := fun i h => HOk.out i h (by rw [kvs_len] at h; exact h)
          have hpl := deltaOf_any a2 (kvs kd xs) c2 wr (by rw [kvs_len]; exact hn) (LiesV.keep HL2.out hbq) (fun j h => by simp only [kvs, List.getElem_map]; exact HIns.out _ (List.getElem_mem _))
          rw [kvs_len] at hpl
          obtain ⟨pb, HPB⟩ : ∃ pb, Hid (pb = deltaB (kvs kd xs)) := ⟨_, rfl⟩
          rw [← HPB.out] at hpl
          go_wp2_with fail
          refine hpl.mono ?_
          clear hpl
          rintro e w3 ⟨rfl, hb3⟩
          have HL3 : Hid (LiesV w3 a2 (kvs kd xs)) := LiesV.keep (LiesV.keep HL2.out hbq) hb3
          have hb13 := hbb.trans (hb3.mono hbb.size)
          by_cases hq : (⟨pb.toArray⟩ : ByteArray) = s
          · have HY : Hid (IsDl kd s.data.toList xs.length (kvs kd xs)) := isDl_of HFin.out rfl HIns.out HOk2.out (by rw [← HPB.out]; exact bytes_back s _ hq)
            rw [hq]
            clear hq
            go_wp2
            go_ret2
            exact ⟨Or.inl ⟨_, a2, c2, HY.out, by rw [kvs_len]; rfl, HL3.out⟩, hb13⟩
          · have HNo : Hid (¬ ∃ vs, IsDl kd s.data.toList xs.length vs) := notDl_bytes HFin.out (fun h => hq (bytes_to s _ (by rw [HPB.out]; exact h)))
            have hq2 : ((⟨pb.toArray⟩ : ByteArray).toList == s.toList) = false := by simp only [beq_eq_false_iff_ne, ne_eq]; exact fun h => hq (str_ext h)
            clear hq
            generalize (⟨pb.toArray⟩ : ByteArray) = t at *
            go_wp2
            go_ret2
            exact ⟨Or.inr ⟨HNo.out, _, _, _, rfl⟩, hb13⟩
end Go.Proofs.YtmhkpnmifhfboaaGreatDoor
