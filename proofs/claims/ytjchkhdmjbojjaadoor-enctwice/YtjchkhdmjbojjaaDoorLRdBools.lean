/-
  enc.readBools and enc.ReadPlain: what values bytes are.
-/
import Derived.Test.YtjchkhdmjbojjaaDoorLBWordsMath
import Derived.Test.YtjchkhdmjbojjaaDoorLRdTexts
import Derived.Test.YtjchkhdmjbojjaaDoorLUnpackF
namespace Go.Proofs.YtjchkhdmjbojjaaDoor
open Go.RowKit
theorem last_split (s : ByteArray) (h : 0 < s.size) : s.data.toList = s.data.toList.take (s.size - 1) ++ [s[s.size - 1]] := by
  have hl : s.size - 1 < s.data.toList.length := by rw [Array.length_toList]; show _ < s.size; omega
  have e := List.take_succ_eq_append_getElem hl
  rw [List.take_of_length_le (by rw [Array.length_toList]; show s.size ≤ _; omega)] at e
  exact e
/-- The last byte has nothing behind the last number. -/
theorem bools_end (s : ByteArray) (n : Nat) (hl : s.size = (n + 7) / 8) (h0 : 0 < s.size) (hr : 0 < n % 8) : Um.lev s.data.toList < 2 ^ n ↔ s[s.size - 1].toNat / 2 ^ (n % 8) = 0 := by
  have e := last_split s h0
  have hlen : (s.data.toList.take (s.size - 1) ++ [s[s.size - 1]]).length = (n + 7) / 8 := by rw [← e, Array.length_toList]; exact hl
  have := Um.lev_last (s.data.toList.take (s.size - 1)) n s[s.size - 1] hlen hr
  rw [← e] at this
  exact this
theorem bools_whole (s : ByteArray) (n : Nat) (hl : s.size = (n + 7) / 8) (hr : n % 8 = 0) : Um.lev s.data.toList < 2 ^ n := by
  have := Um.lev_lt s.data.toList
  rw [Array.length_toList] at this
  change _ < 2 ^ (8 * s.size) at this
  rw [hl, show 8 * ((n + 7) / 8) = n by omega] at this
  exact this
set_option maxRecDepth 100000 in
set_option maxHeartbeats 1600000 in
theorem readBools_none (s : ByteArray) (n : Nat) (w : World) (st : TypeId) (sp : Value) (hg : w.cell? ⟨0, 0, none⟩ = some (.iface st sp)) (hs : s.size ≤ 1000000) (hn : n ≤ 20000) (h : s.size ≠ (n + 7) / 8 ∨ ¬ Um.lev s.data.toList < 2 ^ n) :
    Calls Tryd.prog 49 #[.string s, .int .i64 n] w fun e w' => e = .returned (.tuple #[.slice none 0 0, .iface st sp]) ∧ Below w.heap.size w w' := by
  by_cases hl : s.size = (n + 7) / 8
  · have hlev : ¬ Um.lev s.data.toList < 2 ^ n := by rcases h with h | h; exact absurd hl h; exact h
    have hr : 0 < n % 8 := by
      by_cases h0 : n % 8 = 0
      · exact absurd (bools_whole s n hl h0) hlev
      · omega
    have h0 : 0 < s.size := by omega
    have hq : ¬ s[s.size - 1].toNat / 2 ^ (n % 8) = 0 := fun e => hlev ((bools_end s n hl h0 hr).2 e)
    have hne : ((s.size : Int) != (n + 7) / 8) = false := by simp; omega
    have hbb : s.size - 1 < s.size := by omega
    have hx : (((s[s.size - 1]'hbb).toNat : Int) / 2 ^ (n % 8) != 0) = true := by
      have e : (((s[s.size - 1]'hbb).toNat / 2 ^ (n % 8) : Nat) : Int) = ((s[s.size - 1]'hbb).toNat : Int) / 2 ^ (n % 8) := by simp
      rw [← e]
      simp only [bne_iff_ne, ne_eq]
      omega
    clear h hlev hl hq
    go_enter Tryd.func49, Tryd.ntmps49
    go_wp2_with fail
    go_region
    all_goals (try go_wp2)
    all_goals go_ret2
    all_goals exact ⟨rfl, (Below.refl _ _).drew⟩
  · have hne : ((s.size : Int) != (n + 7) / 8) = true := by simp; omega
    clear h
    go_enter Tryd.func49, Tryd.ntmps49
    go_wp2
    go_region
    all_goals (try go_wp2)
    all_goals go_ret2
    all_goals exact ⟨rfl, (Below.refl _ _).drew⟩
set_option maxRecDepth 100000 in
set_option maxHeartbeats 1600000 in
theorem readBools_some (s : ByteArray) (n : Nat) (w : World) (hs : s.size ≤ 1000000) (hn : n ≤ 20000) (hl : s.size = (n + 7) / 8) (hlev : Um.lev s.data.toList < 2 ^ n) :
    Calls Tryd.prog 49 #[.string s, .int .i64 n] w fun e w' => (∃ a c, e = .returned (.tuple #[.slice a n c, .nilIface]) ∧ LiesV w' a (bvs s.data.toList n)) ∧ Below w.heap.size w w' := by
  obtain ⟨iv, hvi, hv0, hv1, hv2⟩ := info_parts Tryd.infoV
  obtain ⟨M, hM⟩ : ∃ M, M = madeCells (Value.agg #[.int .i64 0, .int .i64 0, .string ⟨#[]⟩]).cells (((n : Nat) : Int).toNat * iv.size) := ⟨_, rfl⟩
  have hMs : M.size = n * 3 := by rw [hM, size_madeCells, hv1]; simp
  have hmk : ∀ W : World, (Instr.makeSlice 22 (.int .i64 (n : Int)) (.int .i64 (n : Int))).run Tryd.prog W = .ok (.slice (some ⟨W.heap.size, 0, none⟩) n n) (W.alloc (.cells M 45)) := fun W => by
    have h := run_make (P := Tryd.prog) W 22 45 iv (.agg #[.int .i64 0, .int .i64 0, .string ⟨#[]⟩]) Tryd.underlying22 hvi hv0 .i64 .i64 (n : Int) (n : Int) (by omega) (by omega) (by rw [hv2]; omega) (by omega)
    rw [← hM] at h
    simpa using h
  have hne : ((s.size : Int) != (n + 7) / 8) = false := by simp; omega
  have HF : Hid (1 * n ≤ 8 * s.size) := by show _ ≤ _; omega
  have hcase : n % 8 = 0 ∨ (∃ hbb : s.size - 1 < s.size, 0 < n % 8 ∧ 0 < s.size ∧ (((s[s.size - 1]'hbb).toNat : Int) / 2 ^ (n % 8) != 0) = false) := by
    by_cases h0 : n % 8 = 0
    · exact Or.inl h0
    · have hr : 0 < n % 8 := by omega
      have h1 : 0 < s.size := by omega
      refine Or.inr ⟨by omega, hr, h1, ?_⟩
      have hq := (bools_end s n hl h1 hr).1 hlev
      have e : ((s[s.size - 1].toNat / 2 ^ (n % 8) : Nat) : Int) = (s[s.size - 1].toNat : Int) / 2 ^ (n % 8) := by simp
      rw [← e, hq]; rfl
  have HM : Hid (M.size = n * 3) := hMs
  clear hl hlev hM hMs
  rcases hcase with h0 | ⟨hbb, hr, h1, hx⟩
  all_goals
    go_enter Tryd.func49, Tryd.ntmps49
    go_wp2_with fail
    refine (unpackF_ok s 1 n w hs (by omega) hn HF.out).mono ?_
    rintro e w1 ⟨⟨g, hg, rfl, hcells⟩, hb1⟩
    have HC : Hid (∀ j, j < n → w1.cell? ⟨g, j, none⟩ = some (.int .i64 ((Um.lev s.data.toList / 2 ^ (1 * j) % 2 ^ 1 : Nat) : Int))) := hcells
    clear hcells
    have HS : Hid (VRow (fun i => ⟨1, ((Um.unp s.data.toList 1 n).getD i 0 : Nat), ⟨#[]⟩⟩) n w1.heap.size w1 (w1.alloc (.cells M 45)) 0) := VRow.start _ _ _ _ _ HM.out
    go_wp2_with fail
    go_loopw [47] (fun x wr => ∃ i : Nat, i ≤ n ∧ x = .int .i64 i ∧ Hid (VRow (fun i => ⟨1, ((Um.unp s.data.toList 1 n).getD i 0 : Nat), ⟨#[]⟩⟩) n w1.heap.size w1 wr i)) (fun x _ => n - (intOf x).toNat)
    case atStart => exact ⟨0, Nat.zero_le _, rfl, HS⟩
    case round =>
      clear HS
      obtain ⟨i, hik, rfl, HV⟩ := hrel
      by_cases hlt : i < n
      · have hc := (HV.out.old.cell (World.block_lt_of_cell? w1 _ (HC.out i hlt))).trans (HC.out i hlt)
        have HE : Hid ((Um.unp s.data.toList 1 n).getD i 0 = Um.lev s.data.toList / 2 ^ (1 * i) % 2 ^ 1) := by
          show _ = _
          have h := Um.unp_get s.data.toList 1 n i hlt
          have h2 : i < (Um.unp s.data.toList 1 n).length := by rw [Um.unp_len]; exact hlt
          rw [← h]
          simp [List.getD, h2]
        rw [← HE.out] at hc
        obtain ⟨y0, g0⟩ := HV.out.any (i * 3) (by omega)
        obtain ⟨y1, g1⟩ := HV.out.any (i * 3 + 1) (by omega)
        obtain ⟨y2, g2⟩ := HV.out.any (i * 3 + 2) (by omega)
        have f0 := HV.out.froz (i * 3) (by omega)
        have f1 := HV.out.froz (i * 3 + 1) (by omega)
        have f2 := HV.out.froz (i * 3 + 2) (by omega)
        have HV2 : Hid _ := HV.out.next (Nat.le_refl _) hlt
        simp only at HV2
        clear HE
        generalize (Um.unp s.data.toList 1 n).getD i 0 = b at hc HV2
        go_wp2
        go_roundw
        case rel => exact ⟨i + 1, by omega, by go_num, HV2⟩
        case measure => simp [intOf]; omega
      · obtain rfl : i = n := by omega
        have HLV : Hid _ := HV.out.lies
        have hbb2 := hb1.trans (HV.out.old.mono hb1.size)
        go_wp2
        go_ret2
        exact ⟨⟨_, _, rfl, HLV.out⟩, hbb2⟩
set_option maxRecDepth 100000 in
set_option maxHeartbeats 800000 in
/-- ReadPlain at a right kind and count. -/
theorem readPlain_any (kd : Int) (s : ByteArray) (n : Nat) (w : World) (st : TypeId) (sp : Value) (hg : w.cell? ⟨0, 0, none⟩ = some (.iface st sp)) (hs : s.size ≤ 1000000) (hn : n ≤ 20000) (hk : 1 ≤ kd) (hk5 : kd ≤ 5) :
    Calls Tryd.prog 16 #[.int .i64 kd, .string s, .int .i64 n] w fun e w' => RetRd (IsPl kd s.data.toList n) n (.iface st sp) e w' ∧ Below w.heap.size w w' := by
  have HG : Hid _ := hg
  clear hg
  by_cases h1 : kd = 1
  · subst h1
    go_enter Tryd.func16, Tryd.ntmps16
    go_wp2_with fail
    refine (checkCount_fine 1 n w (by omega) (by omega) (by omega) (by omega)).mono ?_
    rintro e w1 ⟨rfl, hw⟩
    obtain rfl := hw.symm
    go_wp2_with fail
    have hx : s.size = s.data.toList.length := Array.length_toList.symm
    by_cases hc : s.size = (n + 7) / 8 ∧ Um.lev s.data.toList < 2 ^ n
    · have HI : Hid (IsPl 1 s.data.toList n (bvs s.data.toList n)) := isPl_bools (by rw [← hx]; exact hc.1) hc.2
      refine (readBools_some s n w hs hn hc.1 hc.2).mono ?_
      rintro e w1 ⟨⟨a, c, rfl, hl⟩, hb1⟩
      have HL : Hid _ := hl
      clear hl hc hx
      go_wp2
      go_ret2
      exact ⟨Or.inl ⟨_, a, c, HI.out, rfl, HL.out⟩, hb1⟩
    · have hc2 : s.size ≠ (n + 7) / 8 ∨ ¬ Um.lev s.data.toList < 2 ^ n := by
        by_cases h : s.size = (n + 7) / 8
        · exact Or.inr fun h2 => hc ⟨h, h2⟩
        · exact Or.inl h
      have HI : Hid (¬ ∃ vs, IsPl 1 s.data.toList n vs) := notPl_bools (by rw [← hx]; exact hc2)
      refine (readBools_none s n w st sp HG.out hs hn hc2).mono ?_
      rintro e w1 ⟨rfl, hb1⟩
      clear hc hc2 hx
      go_wp2
      go_ret2
      exact ⟨Or.inr ⟨HI.out, rfl⟩, hb1⟩
  · by_cases h4 : kd = 4
    · subst h4
      go_enter Tryd.func16, Tryd.ntmps16
      go_wp2_with fail
      refine (checkCount_fine 4 n w (by omega) (by omega) (by omega) (by omega)).mono ?_
      rintro e w1 ⟨rfl, hw⟩
      obtain rfl := hw.symm
      go_wp2_with fail
      refine (readTexts_any s n w st sp HG.out hs hn).mono ?_
      rintro e w1 ⟨⟨vs, a, c, hI, rfl, hl⟩ | ⟨hI, rfl⟩, hb1⟩
      · have HI : Hid _ := hI
        have HL : Hid _ := hl
        clear hI hl
        go_wp2
        go_ret2
        exact ⟨Or.inl ⟨vs, a, c, HI.out, rfl, HL.out⟩, hb1⟩
      · have HI : Hid _ := hI
        clear hI
        go_wp2
        go_ret2
        exact ⟨Or.inr ⟨HI.out, rfl⟩, hb1⟩
    · go_enter Tryd.func16, Tryd.ntmps16
      go_wp2_with fail
      refine (checkCount_fine kd n w hk hk5 (by omega) (by omega)).mono ?_
      rintro e w1 ⟨rfl, hw⟩
      obtain rfl := hw.symm
      go_wp2_with fail
      refine (readNumbers_any kd s n w st sp HG.out hs hn (by omega)).mono ?_
      rintro e w1 ⟨⟨vs, a, c, hI, rfl, hl⟩ | ⟨hI, rfl⟩, hb1⟩
      · have HI : Hid _ := hI
        have HL : Hid _ := hl
        clear hI hl
        go_wp2
        go_ret2
        exact ⟨Or.inl ⟨vs, a, c, HI.out, rfl, HL.out⟩, hb1⟩
      · have HI : Hid _ := hI
        clear hI
        go_wp2
        go_ret2
        exact ⟨Or.inr ⟨HI.out, rfl⟩, hb1⟩
set_option maxRecDepth 100000 in
/-- ReadPlain at a kind or a count that is none. -/
theorem readPlain_none (kd : Int) (s : ByteArray) (n : Int) (w : World) (kt bt : TypeId) (kp bp : Value) (hgk : w.cell? ⟨2, 0, none⟩ = some (.iface kt kp)) (hgb : w.cell? ⟨3, 0, none⟩ = some (.iface bt bp)) (h : ¬ ((1 ≤ kd ∧ kd ≤ 5) ∧ 0 ≤ n ∧ n ≤ 20000)) :
    Calls Tryd.prog 16 #[.int .i64 kd, .string s, .int .i64 n] w fun e w' => e = .returned (.tuple #[.slice none 0 0, if 1 ≤ kd ∧ kd ≤ 5 then .iface bt bp else .iface kt kp]) ∧ w' = w := by
  have HGK : Hid _ := hgk
  have HGB : Hid _ := hgb
  have HN : Hid (¬ ((1 ≤ kd ∧ kd ≤ 5) ∧ 0 ≤ n ∧ n ≤ 20000)) := h
  clear hgk hgb h
  by_cases hk : 1 ≤ kd ∧ kd ≤ 5
  · rw [if_pos hk]
    have HK : Hid (1 ≤ kd ∧ kd ≤ 5) := hk
    clear hk
    go_enter Tryd.func16, Tryd.ntmps16
    go_wp2_with fail
    refine (checkCount_bound kd n w _ HGB.out HK.out.1 HK.out.2 (fun h => HN.out ⟨HK.out, h⟩)).mono ?_
    rintro e w1 ⟨rfl, hw⟩
    obtain rfl := hw.symm
    go_wp2
    go_ret2
    exact ⟨rfl, rfl⟩
  · rw [if_neg hk]
    have HK : Hid (¬ (1 ≤ kd ∧ kd ≤ 5)) := hk
    clear hk
    go_enter Tryd.func16, Tryd.ntmps16
    go_wp2_with fail
    refine (checkCount_kind kd n w _ HGK.out HK.out).mono ?_
    rintro e w1 ⟨rfl, hw⟩
    obtain rfl := hw.symm
    go_wp2
    go_ret2
    exact ⟨rfl, rfl⟩
end Go.Proofs.YtjchkhdmjbojjaaDoor
