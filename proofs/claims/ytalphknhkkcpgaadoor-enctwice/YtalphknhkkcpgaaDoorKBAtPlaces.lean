/-
  enc.atPlaces: the value at each place.
  bitrun.readGroups: a part of the second kind behind its head.
-/
import Derived.Test.YtalphknhkkcpgaaDoorKBMapV
import Derived.Test.YtalphknhkkcpgaaDoorKRdNums
import Derived.Test.YtalphknhkkcpgaaDoorKDict
import Derived.Test.YtalphknhkkcpgaaDoorKBWidth
namespace Go.Proofs.YtalphknhkkcpgaaDoor
open Go.RowKit
theorem Uq.at_ {vs us : List Vl} {ps : List Nat} (h : Uq vs us ps) : ∀ i (hi : i < vs.length), ∃ p, ps[i]? = some p ∧ us[p]? = some vs[i] := by
  induction h with
  | nil => intro i hi; simp at hi
  | @old vs us ps v p hu hp ih =>
    intro i hi
    have hl := hu.len.1
    by_cases hlt : i < vs.length
    · obtain ⟨q, h1, h2⟩ := ih i hlt
      exact ⟨q, by rw [List.getElem?_append_left (by omega)]; exact h1, by rw [List.getElem_append_left hlt]; exact h2⟩
    · have he : i = vs.length := by simp at hi; omega
      subst he
      exact ⟨p, by rw [← hl]; simp, by simpa using hp⟩
  | @new vs us ps v hu hv ih =>
    intro i hi
    have hl := hu.len.1
    by_cases hlt : i < vs.length
    · obtain ⟨q, h1, h2⟩ := ih i hlt
      have hq := (List.getElem?_eq_some_iff.1 h2).1
      exact ⟨q, by rw [List.getElem?_append_left (by omega)]; exact h1, by rw [List.getElem_append_left hlt, List.getElem?_append_left hq]; exact h2⟩
    · have he : i = vs.length := by simp at hi; omega
      subst he
      exact ⟨us.length, by rw [← hl]; simp, by simp⟩
set_option maxRecDepth 100000 in
set_option maxHeartbeats 1600000 in
/-- atPlaces, of the unlike values and their places: the values. -/
theorem atPlaces_right (a1 a2 : Option Addr) (c1 c2 : Nat) (vs us : List Vl) (ps : List Nat) (w : World) (hn : vs.length ≤ 20000) (hu : Uq vs us ps) (hl1 : LiesV w a1 us) (hl2 : ∀ j (h : j < ps.length), ∃ b o, a2 = some ⟨b, o, none⟩ ∧ w.cell? ⟨b, o + j, none⟩ = some (.int .i64 ps[j])) (hin : ∀ v ∈ vs, v.In) :
    Calls Tryd.prog 51 #[.slice a1 us.length c1, .slice a2 ps.length c2] w fun e w' => (∃ a c, e = .returned (.tuple #[.slice a vs.length c, .nilIface]) ∧ LiesV w' a vs) ∧ Below w.heap.size w w' := by
  obtain ⟨iv, hvi, hv0, hv1, hv2⟩ := info_parts Tryd.infoV
  have HU : Hid (Uq vs us ps) := hu
  have H1 : Hid (LiesV w a1 us) := hl1
  have H2 : Hid (∀ j (h : j < ps.length), ∃ b o, a2 = some ⟨b, o, none⟩ ∧ w.cell? ⟨b, o + j, none⟩ = some (.int .i64 ps[j])) := hl2
  have HI : Hid (∀ v ∈ vs, v.In) := hin
  have hlen := hu.len
  obtain ⟨n, hvn⟩ : ∃ n, vs.length = n := ⟨_, rfl⟩
  have HVN : Hid (vs.length = n) := hvn
  have hpn : ps.length = n := hlen.1.trans hvn
  have HPN : Hid (ps.length = n) := hpn
  have hun : us.length ≤ 20000 := by omega
  rw [hpn, hvn]
  rw [hvn] at hn
  clear hu hl1 hl2 hin hlen hvn hpn
  obtain ⟨M, hM⟩ : ∃ M, M = madeCells (Value.agg #[.int .i64 0, .int .i64 0, .string ⟨#[]⟩]).cells (((n : Nat) : Int).toNat * iv.size) := ⟨_, rfl⟩
  have hMs : M.size = n * 3 := by rw [hM, size_madeCells, hv1]; simp
  have hmk : ∀ W : World, (Instr.makeSlice 22 (.int .i64 (n : Int)) (.int .i64 (n : Int))).run Tryd.prog W = .ok (.slice (some ⟨W.heap.size, 0, none⟩) n n) (W.alloc (.cells M 49)) := fun W => by
    have h := run_make (P := Tryd.prog) W 22 49 iv (.agg #[.int .i64 0, .int .i64 0, .string ⟨#[]⟩]) Tryd.underlying22 hvi hv0 .i64 .i64 (n : Int) (n : Int) (by omega) (by omega) (by rw [hv2]; omega) (by omega)
    rw [← hM] at h
    simpa using h
  have HS : Hid (VRow (fun i => vs.getD i ⟨0, 0, ⟨#[]⟩⟩) n w.heap.size w (w.alloc (.cells M 49)) 0) := VRow.start _ _ _ _ _ hMs
  clear hM hMs
  go_enter Tryd.func51, Tryd.ntmps51
  go_wp2
  clear hmk
  go_loopw [16] (fun x wr => ∃ i : Nat, i ≤ n ∧ x = .int .i64 i ∧ w.heap.size < wr.heap.size ∧ Hid (VRow (fun i => vs.getD i ⟨0, 0, ⟨#[]⟩⟩) n w.heap.size w wr i)) (fun x _ => n - (intOf x).toNat)
  case atStart => exact ⟨0, Nat.zero_le _, rfl, by simp, HS⟩
  case round =>
    clear HS
    obtain ⟨i, hik, rfl, hsz, HV⟩ := hrel
    have hb := HV.out.old
    by_cases hlt : i < n
    · obtain ⟨p, hp1, hp2⟩ := HU.out.at_ i (by rw [HVN.out]; exact hlt)
      obtain ⟨hpi, hpe⟩ := List.getElem?_eq_some_iff.1 hp1
      obtain ⟨hpu, hue⟩ := List.getElem?_eq_some_iff.1 hp2
      obtain ⟨b2, o2, rfl, hc0⟩ := H2.out i hpi
      rw [hpe] at hc0
      have hc := (hb.cell (World.block_lt_of_cell? w _ hc0)).trans hc0
      obtain ⟨b1, o1, rfl, d0, d1, d2⟩ := (LiesV.keep H1.out hb) p hpu
      rw [hue] at d0 d1 d2
      have HE : Hid (vs.getD i ⟨0, 0, ⟨#[]⟩⟩ = vs[i]'(by rw [HVN.out]; exact hlt)) := by
        show _ = _
        simp [List.getD, show i < vs.length by rw [HVN.out]; exact hlt]
      clear hp1 hp2 hpe hue hc0
      generalize vs[i]'(by rw [HVN.out]; exact hlt) = v at *
      obtain ⟨k0, n0, s0⟩ := v
      simp only at d0 d1 d2
      obtain ⟨y0, g0⟩ := HV.out.any (i * 3) (by omega)
      obtain ⟨y1, g1⟩ := HV.out.any (i * 3 + 1) (by omega)
      obtain ⟨y2, g2⟩ := HV.out.any (i * 3 + 2) (by omega)
      have f0 := HV.out.froz (i * 3) (by omega)
      have f1 := HV.out.froz (i * 3 + 1) (by omega)
      have f2 := HV.out.froz (i * 3 + 2) (by omega)
      have hN := HV.out.next (Nat.le_refl _) hlt
      rw [HE.out] at hN
      have HN : Hid _ := hN
      clear hN
      go_wp2
      go_roundw
      case rel => exact ⟨i + 1, by omega, by go_num, by simpa using hsz, HN⟩
      case measure => simp [intOf]; omega
    · obtain rfl : i = n := by omega
      have hlv := HV.out.lies
      have hmp : (List.range i).map (fun i => vs.getD i ⟨0, 0, ⟨#[]⟩⟩) = vs := by
        apply List.ext_getElem
        · rw [List.length_map, List.length_range, HVN.out]
        · intro j h1 h2
          simp [List.getD, h2]
      rw [hmp] at hlv
      have HLV : Hid (LiesV wr (some ⟨w.heap.size, 0, none⟩) vs) := hlv
      clear hlv hmp
      have hbf := byFirst_any (some ⟨w.heap.size, 0, none⟩) vs i wr (by rw [HVN.out]; exact hn) HLV.out HI.out
      rw [HVN.out] at hbf
      go_wp2_with fail
      refine hbf.mono ?_
      clear hbf
      rintro e w2 ⟨⟨us', ps', a3, c3, a4, c4, hu', rfl, hcap, hl3, hl4⟩, hb2⟩
      obtain ⟨rfl, rfl⟩ := HU.out.fn us' ps' hu'
      have HL3 : Hid (LiesV w2 a3 us) := hl3
      have hb12 := hb.trans (hb2.mono hb.size)
      clear hl3 hl4 hu' hcap
      go_wp2_with fail
      refine (equalV_any w2 a3 a1 c3 c1 us us (by unfold maxLen; omega) HL3.out (LiesV.keep H1.out hb12)).mono ?_
      rintro e w3 ⟨⟨b, rfl, hbt⟩, hb3⟩
      obtain rfl : b = true := hbt.2 rfl
      have HL4 : Hid _ := LiesV.keep (LiesV.keep HLV.out hb2) hb3
      clear hbt
      go_wp2
      go_ret2
      exact ⟨⟨_, _, rfl, HL4.out⟩, hb12.trans (hb3.mono hb12.size)⟩
end Go.Proofs.YtalphknhkkcpgaaDoor

namespace Go.Proofs.YtalphknhkkcpgaaDoor
open Go.RowKit
set_option linter.unusedVariables false
set_option maxRecDepth 100000 in
set_option maxHeartbeats 1600000 in
theorem readGroups_bad (s : ByteArray) (wd m left : Nat) (w : World) (st : TypeId) (sp : Value) (hs : s.size ≤ 1000000) (hwd : wd ≤ 32) (hm : m < 18446744073709551616) (hleft : left ≤ 20000) (hg : w.cell? ⟨0, 0, none⟩ = some (.iface st sp))
    (hbad : m = 0 ∨ (m ≠ 0 ∧ (left + 7) / 8 < m) ∨ (m ≠ 0 ∧ ¬ (left + 7) / 8 < m ∧ s.size < m * wd)) :
    Calls Tryd.prog 112 #[.string s, .int .i64 wd, .int .u64 m, .int .i64 left] w fun e w' => e = .returned (.tuple #[.slice none 0 0, .int .i64 0, .iface st sp]) ∧ Below w.heap.size w w' := by
  obtain ⟨z, HZ⟩ : ∃ z, Hid (z = (left + 7) / 8) := ⟨_, rfl⟩
  have hz : z ≤ 2500 := by rw [HZ.out]; omega
  rw [← HZ.out] at hbad
  obtain ⟨y, HY⟩ : ∃ y, Hid (y = m * wd) := ⟨_, rfl⟩
  have hy : (m : Int) * (wd : Int) = (y : Int) := by rw [HY.out]; simp
  rw [← HY.out] at hbad
  have hbad : ((m : Int) == 0) = true ∨ (((m : Int) == 0) = false ∧ z < m) ∨ (((m : Int) == 0) = false ∧ ¬ z < m ∧ s.size < y) := by
    rcases hbad with h | ⟨h, h'⟩ | ⟨h, h', h''⟩
    · left; simp; omega
    · right; left; exact ⟨by simp; omega, h'⟩
    · right; right; exact ⟨by simp; omega, h', h''⟩
  rcases hbad with h | ⟨h, h'⟩ | ⟨h, h', h''⟩
  · go_enter Tryd.func112, Tryd.ntmps112
    go_wp2_with fail
    go_region
    all_goals (try go_wp2)
    all_goals go_ret3
    all_goals exact ⟨rfl, (Below.refl _ _).drew⟩
  · go_enter Tryd.func112, Tryd.ntmps112
    go_wp2_with fail
    refine (eights_any left _ (by omega)).mono ?_
    rw [← HZ.out]
    rintro e w2 ⟨rfl, hw⟩
    obtain rfl := hw.symm
    go_wp2_with fail
    go_region
    all_goals (try go_wp2)
    all_goals go_ret3
    all_goals exact ⟨rfl, (Below.refl _ _).drew⟩
  · have hyb : y ≤ 2500 * 32 := by rw [HY.out]; exact Nat.mul_le_mul (by omega) hwd
    go_enter Tryd.func112, Tryd.ntmps112
    go_wp2_with fail
    refine (eights_any left _ (by omega)).mono ?_
    rw [← HZ.out]
    rintro e w2 ⟨rfl, hw⟩
    obtain rfl := hw.symm
    go_wp2_with fail
    go_region
    all_goals (try go_wp2)
    all_goals go_ret3
    all_goals exact ⟨rfl, (Below.refl _ _).drew⟩
set_option maxRecDepth 100000 in
set_option maxHeartbeats 1600000 in
theorem readGroups_main (s : ByteArray) (wd m left : Nat) (w : World) (st : TypeId) (sp : Value) (hs : s.size ≤ 1000000) (hwd : wd ≤ 32) (hleft : left ≤ 20000) (hg : w.cell? ⟨0, 0, none⟩ = some (.iface st sp))
    (h0 : m ≠ 0) (h1 : ¬ (left + 7) / 8 < m) (h2 : ¬ s.size < m * wd) :
    Calls Tryd.prog 112 #[.string s, .int .i64 wd, .int .u64 m, .int .i64 left] w fun e w' => RetPart (Um.grps s.data.toList wd m left) (.iface st sp) e w' ∧ Below w.heap.size w w' := by
  obtain ⟨z, HZ⟩ : ∃ z, Hid (z = (left + 7) / 8) := ⟨_, rfl⟩
  have hz : z ≤ 2500 := by rw [HZ.out]; omega
  have h81 : 8 * m < left + 8 := by omega
  rw [← HZ.out] at h1
  obtain ⟨y, HY⟩ : ∃ y, Hid (y = m * wd) := ⟨_, rfl⟩
  have hy : (m : Int) * (wd : Int) = (y : Int) := by rw [HY.out]; simp
  have hyb : y ≤ 2500 * 32 := by rw [HY.out]; exact Nat.mul_le_mul (by omega) hwd
  rw [← HY.out] at h2
  obtain ⟨q, HQ⟩ : ∃ q, Hid (q = 8 * m) := ⟨_, rfl⟩
  have hq : (8 : Int) * (m : Int) = (q : Int) := by rw [HQ.out]; simp
  have hq8 : q < left + 8 := by rw [HQ.out]; omega
  have hq0 : 0 < q := by rw [HQ.out]; omega
  have hm0 : ((m : Int) == 0) = false := by simp; omega
  have HG : Hid (w.cell? ⟨0, 0, none⟩ = some (.iface st sp)) := hg
  have HGr : Hid (Um.grps s.data.toList wd m left = if (∀ x ∈ (Um.unp s.data.toList wd q).drop left, x = 0) then some ((Um.unp s.data.toList wd q).take left, y) else none) := by
    show _ = _
    unfold Um.grps
    rw [← HQ.out, ← HY.out, ← HZ.out]
    by_cases hc : ∀ x ∈ (Um.unp s.data.toList wd q).drop left, x = 0
    · rw [if_pos ⟨⟨by omega, by omega⟩, by simp; omega, hc⟩, if_pos hc]
    · rw [if_neg (fun h => hc h.2.2), if_neg hc]
  have HF : Hid (wd * q ≤ 8 * s.size) := by
    show _ ≤ _
    have : wd * q = 8 * y := by rw [HQ.out, HY.out, Nat.mul_left_comm, Nat.mul_comm wd]
    omega
  clear hg h81
  go_enter Tryd.func112, Tryd.ntmps112
  go_wp2_with fail
  refine (eights_any left _ (by omega)).mono ?_
  rw [← HZ.out]
  rintro e w2 ⟨rfl, hw⟩
  obtain rfl := hw.symm
  go_wp2_with fail
  refine (unpack_any s wd q w hs (by omega) hwd HF.out).mono ?_
  rintro e w3 ⟨⟨rfl, hc⟩, hb3⟩
  have HC : Hid (∀ j, j < q → w3.cell? ⟨w.heap.size, j, none⟩ = some (.int .i64 ((Um.lev s.data.toList / 2 ^ (wd * j) % 2 ^ wd : Nat) : Int))) := hc
  have hg3 := (hb3.cell (World.block_lt_of_cell? w _ HG.out)).trans HG.out
  clear hc
  by_cases hlq : left < q
  · have hne : ¬ q = left := by omega
    have HU : Hid (∀ j, j < q - left → (j < ((Um.unp s.data.toList wd q).drop left).length) ∧ ∀ h, ((Um.unp s.data.toList wd q).drop left)[j]'h = Um.lev s.data.toList / 2 ^ (wd * (left + j)) % 2 ^ wd) := fun j hj => ⟨by simp [Um.unp_len]; omega, fun h => by
      rw [List.getElem_drop, Um.unp_get _ _ _ _ (by omega)]⟩
    go_wp2_with fail
    go_loopw [8, 47] (fun p8 x wr => ∃ j : Nat, p8 = .slice (some ⟨w.heap.size, 0, none⟩) q q ∧ j ≤ q - left ∧ x = .int .i64 j ∧ wr = w3 ∧ Hid (∀ i, i < j → Um.lev s.data.toList / 2 ^ (wd * (left + i)) % 2 ^ wd = 0)) (fun _ x _ => q - left - (intOf x).toNat)
    case atStart => exact ⟨0, rfl, Nat.zero_le _, rfl, rfl, fun i h => absurd h (Nat.not_lt_zero _)⟩
    case round =>
      obtain ⟨j, rfl, hj, rfl, hwr, HP⟩ := hrel
      obtain rfl := hwr.symm
      by_cases hlt : j < q - left
      · have hcj := HC.out (left + j) (by omega)
        have HPJ : Hid (∀ i, i < j + 1 → (i = j ∧ Um.lev s.data.toList / 2 ^ (wd * (left + i)) % 2 ^ wd = Um.lev s.data.toList / 2 ^ (wd * (left + j)) % 2 ^ wd) ∨ Um.lev s.data.toList / 2 ^ (wd * (left + i)) % 2 ^ wd = 0) := fun i hi => by
          by_cases e : i = j
          · subst e; exact Or.inl ⟨rfl, rfl⟩
          · exact Or.inr (HP.out i (by omega))
        have HV : Hid (∃ h, ((Um.unp s.data.toList wd q).drop left)[j]'h = Um.lev s.data.toList / 2 ^ (wd * (left + j)) % 2 ^ wd) := ⟨(HU.out j hlt).1, (HU.out j hlt).2 _⟩
        generalize Um.lev s.data.toList / 2 ^ (wd * (left + j)) % 2 ^ wd = v at hcj HPJ HV
        by_cases hv : v = 0
        · subst hv
          go_wp2_with fail
          go_roundw
          case rel => exact ⟨j + 1, rfl, by omega, by go_num, trivial, fun i hi => by rcases HPJ.out i hi with ⟨_, h⟩ | h <;> exact h⟩
          case measure => simp [intOf]; omega
        · have hvb : ((v : Int) != 0) = true := by simp; omega
          have HN : Hid (Um.grps s.data.toList wd m left = none) := by
            show _ = _
            rw [HGr.out, if_neg]
            intro hall
            obtain ⟨h, e⟩ := HV.out
            exact hv (by rw [← e]; exact hall _ (List.getElem_mem h))
          clear hv
          go_wp2_with fail
          go_region
          all_goals (try go_wp2_with fail)
          all_goals go_ret3
          all_goals (refine ⟨?_, hb3.drew⟩; rw [HN.out]; rfl)
      · obtain rfl : j = q - left := by omega
        have HN : Hid (Um.grps s.data.toList wd m left = some ((Um.unp s.data.toList wd q).take left, y)) := by
          show _ = _
          rw [HGr.out, if_pos]
          intro x hx
          obtain ⟨i, hi, rfl⟩ := List.getElem_of_mem hx
          have hi' : i < q - left := by simpa [Um.unp_len] using hi
          rw [(HU.out i hi').2 hi]
          exact HP.out i hi'
        go_wp2_with fail
        go_ret3
        refine ⟨?_, hb3⟩
        rw [HN.out]
        have hll : ((Um.unp s.data.toList wd q).take left).length = left := by simp [Um.unp_len]; omega
        refine ⟨some ⟨w.heap.size, 0, none⟩, q, by rw [hll]; rfl, fun j hj => ⟨w.heap.size, 0, rfl, ?_⟩⟩
        have hj' : j < left := by rw [i64s_len, List.length_map, hll] at hj; exact hj
        rw [Nat.zero_add, HC.out j (by omega)]
        simp only [i64s, List.getElem_map, List.getElem_take]
        rw [Um.unp_get _ _ _ _ (by omega)]
  · have HN : Hid (Um.grps s.data.toList wd m left = some (Um.unp s.data.toList wd q, y)) := by
      show _ = _
      rw [HGr.out, List.drop_of_length_le (by rw [Um.unp_len]; omega), List.take_of_length_le (by rw [Um.unp_len]; omega), if_pos (fun x hx => by cases hx)]
    have hle : q ≤ left := by omega
    go_wp2_with fail
    all_goals
      refine wp_loop_rounds 1 ?_
      rw [rounds_succ]
      go_wp2_with fail
      go_ret3
      refine ⟨?_, hb3⟩
      rw [HN.out]
      have hll : (Um.unp s.data.toList wd q).length = q := Um.unp_len _ _ _
      refine ⟨some ⟨w.heap.size, 0, none⟩, q, by rw [hll]; first | rfl | (congr 1; simp; omega), fun j hj => ⟨w.heap.size, 0, rfl, ?_⟩⟩
      have hj' : j < q := by rw [i64s_len, List.length_map, hll] at hj; exact hj
      rw [Nat.zero_add, HC.out j hj']
      simp only [i64s, List.getElem_map]
      rw [Um.unp_get _ _ _ _ hj']
theorem readGroups_any (s : ByteArray) (wd m left : Nat) (w : World) (st : TypeId) (sp : Value) (hs : s.size ≤ 1000000) (hwd : wd ≤ 32) (hm : m < 18446744073709551616) (hleft : left ≤ 20000) (hg : w.cell? ⟨0, 0, none⟩ = some (.iface st sp)) :
    Calls Tryd.prog 112 #[.string s, .int .i64 wd, .int .u64 m, .int .i64 left] w fun e w' => RetPart (Um.grps s.data.toList wd m left) (.iface st sp) e w' ∧ Below w.heap.size w w' := by
  by_cases h : m = 0 ∨ (m ≠ 0 ∧ (left + 7) / 8 < m) ∨ (m ≠ 0 ∧ ¬ (left + 7) / 8 < m ∧ s.size < m * wd)
  · have e : Um.grps s.data.toList wd m left = none := by
      unfold Um.grps
      rw [if_neg]
      intro hc
      have : s.data.toList.length = s.size := by simp
      omega
    rw [e]
    exact readGroups_bad s wd m left w st sp hs hwd hm hleft hg h
  · exact readGroups_main s wd m left w st sp hs hwd hleft hg (by omega) (by omega) (by omega)
end Go.Proofs.YtalphknhkkcpgaaDoor
