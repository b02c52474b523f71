/-
  The reference's ReadRunsOf: what it answers.
-/
import Derived.Test.YtmhkpnmifhfboaaGreatDoorMBReadSame
import Derived.Test.YtmhkpnmifhfboaaGreatDoorMBRd
import Derived.Test.YtmhkpnmifhfboaaGreatDoorMBBase
namespace Go.Proofs.YtmhkpnmifhfboaaGreatDoor
open Go.RowKit
set_option linter.unusedVariables false
/-- What the reference reads: numbers and bytes, or none. -/
def RetOf (r : Option (List Nat × Nat)) (e : Ending) (w' : World) : Prop :=
  match r with
  | none => e = .returned (.tuple #[.slice none 0 0, .int .i64 (-1)])
  | some (p, u) => ∃ a c, e = .returned (.tuple #[.slice a p.length c, .int .i64 u]) ∧ Lies w' a (nvals p)
theorem part_at {l : List UInt8} {w left h k : Nat} (h1 : (Um.rdv l 0 0).1 = h) (h2 : (Um.rdv l 0 0).2 = k) : Um.part l w left = if k = 0 then none else (if h % 2 = 0 then Um.same (l.drop k) w (h / 2) left else Um.grps (l.drop k) w (h / 2) left).map fun p => (p.1, k + p.2) := by
  unfold Um.part
  rw [h1, h2]
theorem part_over {l : List UInt8} {w left h k : Nat} (h1 : (Um.rdv l 0 0).1 = h) (h2 : (Um.rdv l 0 0).2 = k) (hb : k = 0 ∨ left < h / 2 ∨ h / 2 = 0) : Um.part l w left = none := by
  rw [part_at h1 h2]
  by_cases hk : k = 0
  · rw [if_pos hk]
  · rw [if_neg hk]
    have e1 : Um.same (l.drop k) w (h / 2) left = none := by unfold Um.same; rw [if_neg]; intro hc; omega
    have e2 : Um.grps (l.drop k) w (h / 2) left = none := by
      unfold Um.grps; rw [if_neg]; intro hc
      by_cases hl : left = 0
      · subst hl; omega
      · omega
    rw [e1, e2]
    split <;> rfl
theorem own_ne {w : World} {B1 B2 e1 e2 s1 s2 n1 n2 : Nat} {v1 v2 : Value} {c1 c2 : List Value} (h1 : w.ownsRow B1 e1 s1 v1 n1 c1) (h2 : w.ownsRow B2 e2 s2 v2 n2 c2) (hne : e1 ≠ e2) : v1.ownBlock = none ∨ v1.ownBlock ≠ v2.ownBlock := by
  rcases h1.2 with ⟨rfl, _⟩ | ⟨g1, _, cur1, rfl, _, hg1, _⟩
  · exact Or.inl rfl
  · right
    rcases h2.2 with ⟨rfl, _⟩ | ⟨g2, _, cur2, rfl, _, hg2, _⟩
    · simp [Value.ownBlock]
    · intro he
      simp [Value.ownBlock] at he
      subst he
      rw [hg1] at hg2
      injection hg2 with hg2
      injection hg2 with _ h _
      exact hne h
/-- What the loop keeps. -/
structure RO (s : ByteArray) (wd n : Nat) (w : World) (l u : Value) (wr : World) (acc : List Nat) (at_ : Nat) : Prop where
  hu : u = .int .i64 at_
  le : acc.length ≤ n
  hs : at_ ≤ s.size
  so : Um.Sofar s.data.toList wd n acc at_
  own : wr.ownsRow w.heap.size 3 1 l acc.length (nvals acc)
  old : Below w.heap.size w wr
set_option maxRecDepth 100000 in
set_option maxHeartbeats 3200000 in
theorem readRunsOf_any (s : ByteArray) (wd n : Nat) (w : World) (hs : s.size ≤ 1000) (hwd : wd ≤ 32) (hn : n ≤ 20000) :
    Calls Tryz.prog 49 #[.string s, .int .i64 wd, .int .i64 n] w fun e w' => RetOf (Um.runs s.data.toList wd n) e w' ∧ Below w.heap.size w w' := by
  obtain ⟨i0, hi, hz0, hz1, hz2⟩ := info_parts Tryz.info3
  go_enter Tryz.func49, Tryz.ntmps49
  go_wp2_with fail
  go_loopw [8, 9] (fun l u wr => ∃ (acc : List Nat) (at_ : Nat), Hid (RO s wd n w l u wr acc at_)) (fun l _ _ => n - rrLen l)
  case atStart => exact ⟨[], 0, ⟨rfl, Nat.zero_le _, Nat.zero_le _, Um.sofar_zero _ _ _, World.ownsRow_nil w w.heap.size 3 1, Below.refl _ _⟩⟩
  case round =>
    obtain ⟨acc, at_, HR⟩ := hrel
    obtain ⟨rfl, hle, has, hso, hown, hb⟩ := HR.out
    have HSo : Hid (Um.Sofar s.data.toList wd n acc at_) := hso
    obtain ⟨a', c', rfl, hl⟩ := lies_own hown
    rw [nvals_len] at hown
    have HOwn : Hid (wr.ownsRow w.heap.size 3 1 (.slice a' acc.length c') acc.length (nvals acc)) := hown
    have HL : Hid (Lies wr a' (nvals acc)) := hl
    rw [nvals_len]
    clear hso HR hown hl
    by_cases hlt : acc.length < n
    · obtain ⟨m, HM⟩ : ∃ m, Hid (m = n - acc.length) := ⟨_, rfl⟩
      have hm : (n : Int) - (acc.length : Int) = (m : Int) := by rw [HM.out]; omega
      have hm1 : 0 < m := by rw [HM.out]; omega
      have hmn : m ≤ 20000 := by rw [HM.out]; omega
      have hsz1 : (s.extract at_ s.size).size ≤ 1000 := Nat.le_trans (cut_size s at_) hs
      have HSz : Hid ((s.extract at_ s.size).size ≤ 1000) := hsz1
      obtain ⟨hr1, hr2, hr3⟩ := Um.rdv_room (s.data.toList.drop at_) 0 0 (by simp)
      rw [List.length_drop] at hr3
      have hsl : s.data.toList.length = s.size := by simp
      clear hsz1
      go_wp2_with fail
      refine (readSeven_any (s.extract at_ s.size) wr (by have := HSz.out; unfold maxLen; omega)).mono ?_
      rw [cut_list]
      generalize hh : (Um.rdv (s.data.toList.drop at_) 0 0).1 = h at hr1
      generalize hk : (Um.rdv (s.data.toList.drop at_) 0 0).2 = k at hr2 hr3
      have HH : Hid ((Um.rdv (s.data.toList.drop at_) 0 0).1 = h) := hh
      have HK : Hid ((Um.rdv (s.data.toList.drop at_) 0 0).2 = k) := hk
      clear hh hk
      rintro e w1 ⟨rfl, hw⟩
      obtain rfl := hw.symm
      have hks : at_ + k ≤ s.size := by omega
      clear hr3 hsl
      obtain ⟨c, HC⟩ : ∃ c, Hid (c = h / 2) := ⟨_, rfl⟩
      have hc : (h : Int) / 2 = (c : Int) := by rw [HC.out]; omega
      have hcl : c < 9223372036854775808 := by rw [HC.out]; omega
      by_cases hover : k = 0 ∨ m < c ∨ c = 0
      · have HN : Hid (Um.runs s.data.toList wd n = none) := Um.sofar_none HSo.out hlt (part_over HH.out HK.out (by rw [← HC.out, ← HM.out]; exact hover))
        have hcase : ((k : Int) == 0) = true ∨ (((k : Int) == 0) = false ∧ m < c) ∨ (((k : Int) == 0) = false ∧ ¬ m < c ∧ ((c : Int) == 0) = true) := by
          by_cases h1 : k = 0
          · left; simp; omega
          · by_cases h2 : m < c
            · right; left; exact ⟨by simp; omega, h2⟩
            · right; right; exact ⟨by simp; omega, h2, by simp; omega⟩
        clear hover
        rcases hcase with q1 | ⟨q1, q2⟩ | ⟨q1, q2, q3⟩
        all_goals
          go_wp2_with fail
          go_ret2
          refine ⟨?_, hb⟩
          rw [HN.out]
          rfl
      · have hk0 : k ≠ 0 := by omega
        have hcm : ¬ m < c := by omega
        have hc0 : c ≠ 0 := by omega
        have q1 : ((k : Int) == 0) = false := by simp; omega
        have q3 : ((c : Int) == 0) = false := by simp; omega
        have HPt := part_at (w := wd) (left := m) HH.out HK.out
        rw [if_neg hk0, ← HC.out, List.drop_drop] at HPt
        obtain ⟨a1, HA1⟩ : ∃ a1, Hid (a1 = at_ + k) := ⟨_, rfl⟩
        have ha1 : (at_ : Int) + (k : Int) = (a1 : Int) := by rw [HA1.out]; simp
        have ha1s : a1 ≤ s.size := by rw [HA1.out]; exact hks
        rw [← HA1.out] at HPt
        have HSz1 : Hid ((s.extract a1 s.size).size ≤ 1000) := Nat.le_trans (cut_size s a1) hs
        have HSe : Hid ((s.extract a1 s.size).size = s.size - a1) := by show _ = _; rw [ByteArray.size_extract]; omega
        have hsub : (s.size : Int) - (a1 : Int) = ((s.size - a1 : Nat) : Int) := by omega
        obtain ⟨r, HRr⟩ : ∃ r, Hid (r = s.size - a1) := ⟨_, rfl⟩
        rw [← HRr.out] at hsub
        have HLd : Hid ((s.data.toList.drop a1).length = r) := by show _ = _; rw [HRr.out]; simp
        clear hover
        by_cases hpar : h % 2 = 0
        · have hd : (((h : Int) % 2) == 0) = true := by simp; omega
          rw [if_pos hpar] at HPt
          obtain ⟨z, HZ⟩ : ∃ z, Hid (z = (wd + 7) / 8) := ⟨_, rfl⟩
          have hz4 : z ≤ 4 := by rw [HZ.out]; omega
          have hzi : ((wd : Int) + 7) / 8 = (z : Int) := by rw [HZ.out]; omega
          have hzt : ((wd : Int) + 7).tdiv 8 = (z : Int) := by rw [Int.tdiv_eq_ediv_of_nonneg (by omega), hzi]
          have HSm : Hid (Um.same (s.data.toList.drop a1) wd c m = if z ≤ r ∧ Um.lev ((s.data.toList.drop a1).take z) < 2 ^ wd then some (List.replicate c (Um.lev ((s.data.toList.drop a1).take z)), z) else none) := by
            show _ = _
            unfold Um.same
            rw [← HZ.out, HLd.out]
            by_cases hcc : z ≤ r ∧ Um.lev ((s.data.toList.drop a1).take z) < 2 ^ wd
            · rw [if_pos ⟨⟨by omega, by omega⟩, hcc⟩, if_pos hcc]
            · rw [if_neg (fun h => hcc h.2), if_neg hcc]
          have HPs : Hid (Um.part (s.data.toList.drop at_) wd m = (Um.same (s.data.toList.drop a1) wd c m).map fun p => (p.1, k + p.2)) := HPt
          clear HPt
          by_cases hzr : r < z
          · have HN : Hid (Um.runs s.data.toList wd n = none) := Um.sofar_none HSo.out hlt (by rw [← HM.out, HPs.out, HSm.out, if_neg (by omega)]; rfl)
            go_wp2_with fail
            go_ret2
            refine ⟨?_, hb⟩
            rw [HN.out]
            rfl
          · go_wp2_with fail
            refine (readLittle_any (s.extract a1 s.size) z wr (by omega) (by rw [HSe.out, ← HRr.out]; omega) HSz1.out).mono ?_
            rw [cut_list]
            have hxl : Um.lev ((s.data.toList.drop a1).take z) < 4294967296 := Nat.lt_of_lt_of_le (Um.lev_take_lt _ z (by rw [HLd.out]; omega)) (Nat.le_trans (Nat.pow_le_pow_right (n := 2) (by omega) (show 8 * z ≤ 32 by omega)) (by decide))
            generalize Um.lev ((s.data.toList.drop a1).take z) = x at hxl HSm
            rintro e w1 ⟨rfl, hw⟩
            obtain rfl := hw.symm
            have hmw := mask_wrap hwd
            have e2 : ((2 ^ wd : Nat) : Int) = (2 : Int) ^ wd := by simp
            by_cases hf : x < 2 ^ wd
            · have hdf : decide ((2 : Int) ^ wd ≤ (x : Int)) = false := by rw [decide_eq_false_iff_not, ← e2]; omega
              have hPn : Um.part (s.data.toList.drop at_) wd (n - acc.length) = some (List.replicate c x, k + z) := by rw [← HM.out, HPs.out, HSm.out, if_pos ⟨by omega, hf⟩]; rfl
              have HNx : Hid (Um.Sofar s.data.toList wd n (acc ++ List.replicate c x) (at_ + (k + z))) := Um.sofar_step HSo.out hlt hPn
              have hcn : acc.length + c ≤ n := by have := HM.out; omega
              clear e2 hPn hf
              go_wp2_with fail
              go_loopw [8, 16] (fun v y wq => ∃ i : Nat, i ≤ c ∧ y = .int .i64 i ∧ Hid (wq.ownsRow w.heap.size 3 1 v (acc.length + i) (nvals (acc ++ List.replicate i x))) ∧ Below w.heap.size w wq) (fun _ y _ => c - (intOf y).toNat)
              case atStart => exact ⟨0, Nat.zero_le _, rfl, by show World.ownsRow _ _ _ _ _ _ _; simpa using HOwn.out, hb⟩
              case round =>
                obtain ⟨i, hic, rfl, HO, hbq⟩ := hrel
                have hown := HO.out
                by_cases hil : i < c
                · have HT : Hid (nvals (acc ++ List.replicate (i + 1) x) = nvals (acc ++ List.replicate i x) ++ [.int .i64 (x : Int)]) := by
                    show _ = _
                    rw [List.replicate_succ', ← List.append_assoc, nvals_app]
                    rfl
                  go_wp2_with (at_builtin; refine wpList_append_own _ rfl _ _ 61 rfl w.heap.size 3 i0 (.int .i64 0) 1 8 Tryz.underlying61 hi hz0 hz1 hz2 rfl (by decide) _ _ _ rfl (hown.alloc _) ⟨_, 0, none⟩ 1 1 [.int .i64 x] rfl rfl (cell_one_new _ _ _) (by intro u hu; simp at hu; subst hu; rfl) (by unfold maxLen; omega) (by omega) (by have := hbq.size; simp; omega) ?_; intro v' wv hown' hgrow _)
                  have hb2 := below_app hbq (Nat.le_refl _) hown hgrow
                  rw [← HT.out] at hown'
                  go_roundw
                  case rel => exact ⟨i + 1, by omega, by go_num, hown', hb2⟩
                  case measure => simp [intOf]; omega
                · obtain rfl : i = c := by omega
                  have hlen : acc.length + i = (acc ++ List.replicate i x).length := by simp
                  rw [hlen] at hown
                  obtain ⟨a2, c2, rfl, _⟩ := lies_own hown
                  go_wp2_with fail
                  go_roundw
                  case rel => exact ⟨acc ++ List.replicate i x, at_ + (k + z), ⟨by have := HA1.out; go_num, by simp; omega, by have := HA1.out; have := HRr.out; omega, HNx.out, hown, hbq⟩⟩
                  case measure => simp [rrLen, nvals_len]; omega
            · have hdf : decide ((2 : Int) ^ wd ≤ (x : Int)) = true := by rw [decide_eq_true_iff, ← e2]; omega
              have HN : Hid (Um.runs s.data.toList wd n = none) := Um.sofar_none HSo.out hlt (by rw [← HM.out, HPs.out, HSm.out, if_neg (by omega)]; rfl)
              clear e2 hf
              go_wp2_with fail
              go_ret2
              refine ⟨?_, hb⟩
              rw [HN.out]
              rfl
        · have hd : (((h : Int) % 2) == 0) = false := by simp; omega
          rw [if_neg hpar] at HPt
          have HPs : Hid (Um.part (s.data.toList.drop at_) wd m = (Um.grps (s.data.toList.drop a1) wd c m).map fun p => (p.1, k + p.2)) := HPt
          clear HPt
          have hcb : c ≤ 20000 := by omega
          obtain ⟨y, HY⟩ : ∃ y, Hid (y = c * wd) := ⟨_, rfl⟩
          have hyi : (c : Int) * (wd : Int) = (y : Int) := by rw [HY.out]; simp
          have hyb : y ≤ 20000 * 32 := by rw [HY.out]; exact Nat.mul_le_mul hcb hwd
          obtain ⟨q, HQ⟩ : ∃ q, Hid (q = 8 * c) := ⟨_, rfl⟩
          have hqi : (8 : Int) * (c : Int) = (q : Int) := by rw [HQ.out]; simp
          have hqb : q ≤ 160000 := by rw [HQ.out]; omega
          have HGr : Hid (Um.grps (s.data.toList.drop a1) wd c m = if (q < m + 8 ∧ y ≤ r) ∧ (∀ x ∈ (Um.unp (s.data.toList.drop a1) wd q).drop m, x = 0) then some ((Um.unp (s.data.toList.drop a1) wd q).take m, y) else none) := by
            show _ = _
            unfold Um.grps
            rw [← HQ.out, ← HY.out, HLd.out]
            have e : c ≤ (m + 7) / 8 ↔ q < m + 8 := by rw [HQ.out]; omega
            by_cases hcc : (q < m + 8 ∧ y ≤ r) ∧ (∀ x ∈ (Um.unp (s.data.toList.drop a1) wd q).drop m, x = 0)
            · rw [if_pos ⟨⟨by omega, e.2 hcc.1.1⟩, hcc.1.2, hcc.2⟩, if_pos hcc]
            · rw [if_neg (fun h => hcc ⟨⟨e.1 h.1.2, h.2.1⟩, h.2.2⟩), if_neg hcc]
          by_cases hbad : ¬ q < m + 8 ∨ (q < m + 8 ∧ r < y)
          · have HN : Hid (Um.runs s.data.toList wd n = none) := Um.sofar_none HSo.out hlt (by rw [← HM.out, HPs.out, HGr.out, if_neg (by omega)]; rfl)
            have hcase : decide ((8 : Int) ≤ (q : Int) - (m : Int)) = true ∨ (decide ((8 : Int) ≤ (q : Int) - (m : Int)) = false ∧ r < y) := by
              by_cases hq : q < m + 8
              · right; exact ⟨by simp; omega, by omega⟩
              · left; simp; omega
            clear hbad
            rcases hcase with q5 | ⟨q5, q6⟩
            all_goals
              go_wp2_with fail
              go_ret2
              refine ⟨?_, hb⟩
              rw [HN.out]
              rfl
          · have q5 : decide ((8 : Int) ≤ (q : Int) - (m : Int)) = false := by simp; omega
            have q6 : ¬ r < y := by omega
            have hq8 : q < m + 8 := by omega
            have hq1 : 0 < q := by rw [HQ.out]; omega
            have HF : Hid (wd * q ≤ 8 * (s.extract a1 s.size).size) := by
              show _ ≤ _
              have : wd * q = 8 * y := by rw [HQ.out, HY.out, Nat.mul_left_comm, Nat.mul_comm wd]
              rw [HSe.out, ← HRr.out]
              omega
            clear hbad
            go_wp2_with fail
            refine (unpackOf_any (s.extract a1 s.size) wd q wr (by have := HSz1.out; omega) hwd (by omega)).mono ?_
            rintro e w2 ⟨⟨_, a2, c2, rfl, _, B2, hl2⟩ | ⟨hx, _⟩, hb2⟩
            rotate_left
            · exact absurd hx (by have := HF.out; omega)
            rw [cut_list] at hl2
            have HL2 : Hid (w2.ownsRow B2 78 1 (.slice a2 q c2) q (u64s (Um.unp (s.data.toList.drop a1) wd q))) := hl2
            have HO2 : Hid (w2.ownsRow w.heap.size 3 1 (.slice a' acc.length c') acc.length (nvals acc)) := own_below HOwn.out hb2
            have hbw := hb.trans (hb2.mono hb.size)
            have HUL : Hid (∀ x ∈ Um.unp (s.data.toList.drop a1) wd q, x < 2 ^ wd) := Um.unp_lt _ _ _
            have HUn : Hid ((Um.unp (s.data.toList.drop a1) wd q).length = q) := Um.unp_len _ _ _
            generalize Um.unp (s.data.toList.drop a1) wd q = us at HL2 HGr HUL HUn
            clear hl2
            go_wp2_with fail
            go_loopw [8, 19] (fun v y wq => ∃ i : Nat, i ≤ q ∧ y = .int .i64 i ∧ Hid (wq.ownsRow w.heap.size 3 1 v (acc.length + min i m) (nvals (acc ++ us.take (min i m)))) ∧ Hid (∀ j (h : j < us.length), m ≤ j → j < i → us[j] = 0) ∧ Hid (wq.ownsRow B2 78 1 (.slice a2 q c2) q (u64s us)) ∧ Below w.heap.size w wq) (fun _ y _ => q - (intOf y).toNat)
            case atStart => exact ⟨0, Nat.zero_le _, rfl, by show World.ownsRow _ _ _ _ _ _ _; simpa using HO2.out, fun j _ _ h => absurd h (Nat.not_lt_zero _), HL2, hbw⟩
            case round =>
              obtain ⟨i, hiq, rfl, HO, HZr, HUo, hbq⟩ := hrel
              have hown := HO.out
              by_cases hil : i < q
              · have hiu : i < us.length := by rw [HUn.out]; exact hil
                obtain ⟨ax, cx, hax, hlx⟩ := lies_own HUo.out
                injection hax with hax1 hax2 hax3
                subst hax1 hax3
                obtain ⟨b, o, hbo, hcc⟩ := hlx i (by rw [u64s_len]; exact hiu)
                subst hbo
                clear hlx hax2
                have hui : us[i] < 4294967296 := Nat.lt_of_lt_of_le (HUL.out _ (List.getElem_mem hiu)) (Nat.le_trans (Nat.pow_le_pow_right (n := 2) (by omega) hwd) (by decide))
                have hce : (u64s us)[i]'(by rw [u64s_len]; exact hiu) = .int .u64 ((us[i] : Nat) : Int) := by simp [u64s]
                rw [hce] at hcc
                by_cases him : i < m
                · have HT : Hid (nvals (acc ++ us.take (min (i + 1) m)) = nvals (acc ++ us.take (min i m)) ++ [.int .i64 ((us[i] : Nat) : Int)]) := by
                    show _ = _
                    rw [Nat.min_eq_left (by omega), Nat.min_eq_left (by omega), List.take_succ_eq_append_getElem hiu, ← List.append_assoc, nvals_app]
                    rfl
                  have hmin : min (i + 1) m = i + 1 := Nat.min_eq_left (by omega)
                  have hmin2 : min i m = i := Nat.min_eq_left (by omega)
                  have HZ2 : Hid (∀ j (h : j < us.length), m ≤ j → j < i + 1 → us[j] = 0) := fun j h h1 h2 => absurd h1 (by omega)
                  rw [hmin, hmin2] at HT
                  rw [hmin2] at hown
                  generalize us[i] = x at hcc hui HT
                  clear hce hmin hmin2
                  go_wp2_with (at_builtin; refine wpList_append_own _ rfl _ _ 61 rfl w.heap.size 3 i0 (.int .i64 0) 1 8 Tryz.underlying61 hi hz0 hz1 hz2 rfl (by decide) _ _ _ rfl (hown.alloc _) ⟨_, 0, none⟩ 1 1 [.int .i64 x] rfl rfl (cell_one_new _ _ _) (by intro u hu; simp at hu; subst hu; rfl) (by unfold maxLen; omega) (by omega) (by have := hbq.size; simp; omega) ?_; intro v' wv hown' hgrow _)
                  have hb2 := below_app hbq (Nat.le_refl _) hown hgrow
                  have hus := (HUo.out.alloc (.cells #[.int .i64 (x : Int)] 3)).kept hgrow (own_ne (HUo.out.alloc _) (hown.alloc (.cells #[.int .i64 (x : Int)] 3)) (by decide))
                  rw [← HT.out] at hown'
                  go_roundw
                  case rel => exact ⟨i + 1, by omega, by go_num, by rw [Nat.min_eq_left (show i + 1 ≤ m by omega)]; exact hown', HZ2, hus, hb2⟩
                  case measure => simp [intOf]; omega
                · have hmin : min (i + 1) m = min i m := by omega
                  by_cases hv : us[i] = 0
                  · have HZ2 : Hid (∀ j (h : j < us.length), m ≤ j → j < i + 1 → us[j] = 0) := fun j h h1 h2 => if e : j = i then (by subst e; exact hv) else HZr.out j h h1 (by omega)
                    have HO' := HO
                    rw [← hmin] at HO'
                    rw [hv] at hcc
                    clear hmin hce hv
                    go_wp2_with fail
                    go_roundw
                    case rel => exact ⟨i + 1, by omega, by go_num, HO', HZ2, HUo, hbq⟩
                    case measure => simp [intOf]; omega
                  · have hvb : (((us[i] : Nat) : Int) != 0) = true := by simp; omega
                    have HN : Hid (Um.runs s.data.toList wd n = none) := Um.sofar_none HSo.out hlt (by
                      rw [← HM.out, HPs.out, HGr.out, if_neg]
                      · rfl
                      · intro hcc
                        exact hv (hcc.2 _ (List.mem_drop_iff_getElem.2 ⟨i - m, by omega, by congr 1; omega⟩)))
                    clear hmin hce hv
                    go_wp2_with fail
                    go_ret2
                    refine ⟨?_, hbq⟩
                    rw [HN.out]
                    rfl
              · obtain rfl : i = q := by omega
                have hPn : Um.part (s.data.toList.drop at_) wd (n - acc.length) = some (us.take m, k + y) := by
                  rw [← HM.out, HPs.out, HGr.out, if_pos ⟨⟨hq8, by omega⟩, fun x hx => by
                    obtain ⟨j, hj, rfl⟩ := List.getElem_of_mem hx
                    rw [List.getElem_drop]
                    rw [List.length_drop] at hj
                    exact HZr.out (m + j) (by omega) (by omega) (by have := HUn.out; omega)⟩]
                  rfl
                have HNx : Hid (Um.Sofar s.data.toList wd n (acc ++ us.take m) (at_ + (k + y))) := Um.sofar_step HSo.out hlt hPn
                have htk : us.take (min i m) = us.take m := by
                  by_cases h : i ≤ m
                  · rw [Nat.min_eq_left h, List.take_of_length_le (by rw [HUn.out]; exact Nat.le_refl _), List.take_of_length_le (by rw [HUn.out]; exact h)]
                  · rw [Nat.min_eq_right (by omega)]
                have hlen : acc.length + min i m = (acc ++ us.take m).length := by simp [HUn.out]; omega
                rw [htk, hlen] at hown
                have hle2 : (acc ++ us.take m).length ≤ n := by rw [← hlen]; have := HM.out; omega
                have hlt2 : acc.length < (acc ++ us.take m).length := by rw [← hlen]; omega
                clear hPn htk hlen
                obtain ⟨a4, c4, rfl, _⟩ := lies_own hown
                go_wp2_with fail
                go_roundw
                case rel => exact ⟨acc ++ us.take m, at_ + (k + y), ⟨by have := HA1.out; go_num, hle2, by have := HA1.out; have := HRr.out; omega, HNx.out, hown, hbq⟩⟩
                case measure => simp only [rrLen, nvals_len]; omega
    · have HN : Hid (Um.runs s.data.toList wd n = some (acc, at_)) := Um.sofar_end HSo.out (by omega)
      go_wp2_with fail
      go_ret2
      refine ⟨?_, hb⟩
      rw [HN.out]
      exact ⟨a', c', rfl, HL.out⟩
end Go.Proofs.YtmhkpnmifhfboaaGreatDoor
