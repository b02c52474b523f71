/-
  enc.readBools and enc.ReadPlain: what values bytes are.
  The reference's PlainOf: the bytes of right values.
-/
import Derived.Test.YtmhkpnmifhfboaaGreatDoorMBWordsMath
import Derived.Test.YtmhkpnmifhfboaaGreatDoorMBRdNums
import Derived.Test.YtmhkpnmifhfboaaGreatDoorMBUnpackF
import Derived.Test.YtmhkpnmifhfboaaGreatDoorMBVal
import Derived.Test.YtmhkpnmifhfboaaGreatDoorMBBase
import Derived.Test.YtmhkpnmifhfboaaGreatDoorMBRd
namespace Go.Proofs.YtmhkpnmifhfboaaGreatDoor
open Go.RowKit
theorem last_split (s : ByteArray) (h : 0 < s.size) : s.data.toList = s.data.toList.take (s.size - 1) ++ [s[s.size - 1]] := by
  have hl : s.size - 1 < s.data.toList.length := by rw [Array.length_toList]; show _ < s.size; omega
  have e := List.take_succ_eq_append_getElem hl
  rw [List.take_of_length_le (by rw [Array.length_toList]; show s.size ≤ _; omega)] at e
  exact e
/-- The last byte has nothing behind the last number. -/
theorem bools_end (s : ByteArray) (n : Nat) (hl : s.size = (n + 7) / 8) (h0 : 0 < s.size) (hr : 0 < n % 8) : Um.lev s.data.toList < 2 ^ n ↔ s[s.size - 1].toNat / 2 ^ (n % 8) = 0 := by
  have e := last_split s h0
  have hlen : (s.data.toList.take (s.size - 1) ++ [s[s.size - 1]]).length = (n + 7) / 8 := by rw [← e, Array.length_toList]; exact hl
  have := Um.lev_last (s.data.toList.take (s.size - 1)) n s[s.size - 1] hlen hr
  rw [← e] at this
  exact this
theorem bools_whole (s : ByteArray) (n : Nat) (hl : s.size = (n + 7) / 8) (hr : n % 8 = 0) : Um.lev s.data.toList < 2 ^ n := by
  have := Um.lev_lt s.data.toList
  rw [Array.length_toList] at this
  change _ < 2 ^ (8 * s.size) at this
  rw [hl, show 8 * ((n + 7) / 8) = n by omega] at this
  exact this
set_option maxRecDepth 100000 in
set_option maxHeartbeats 1600000 in
theorem readBools_none (s : ByteArray) (n : Nat) (w : World) (st : TypeId) (sp : Value) (hg : w.cell? ⟨3, 0, none⟩ = some (.iface st sp)) (hs : s.size ≤ 1000000) (hn : n ≤ 20000) (h : s.size ≠ (n + 7) / 8 ∨ ¬ Um.lev s.data.toList < 2 ^ n) :
    Calls Tryz.prog 32 #[.string s, .int .i64 n] w fun e w' => e = .returned (.tuple #[.slice none 0 0, .iface st sp]) ∧ Below w.heap.size w w' := by
  by_cases hl : s.size = (n + 7) / 8
  · have hlev : ¬ Um.lev s.data.toList < 2 ^ n := by rcases h with h | h; exact absurd hl h; exact h
    have hr : 0 < n % 8 := by
      by_cases h0 : n % 8 = 0
      · exact absurd (bools_whole s n hl h0) hlev
      · omega
    have h0 : 0 < s.size := by omega
    have hq : ¬ s[s.size - 1].toNat / 2 ^ (n % 8) = 0 := fun e => hlev ((bools_end s n hl h0 hr).2 e)
    have hne : ((s.size : Int) != (n + 7) / 8) = false := by simp; omega
    have hbb : s.size - 1 < s.size := by omega
    have hx : (((s[s.size - 1]'hbb).toNat : Int) / 2 ^ (n % 8) != 0) = true := by
      have e : (((s[s.size - 1]'hbb).toNat / 2 ^ (n % 8) : Nat) : Int) = ((s[s.size - 1]'hbb).toNat : Int) / 2 ^ (n % 8) := by simp
      rw [← e]
      simp only [bne_iff_ne, ne_eq]
      omega
    clear h hlev hl hq
    go_enter Tryz.func32, Tryz.ntmps32
    go_wp2_with fail
    go_region
    all_goals (try go_wp2)
    all_goals go_ret2
    all_goals exact ⟨rfl, (Below.refl _ _).drew⟩
  · have hne : ((s.size : Int) != (n + 7) / 8) = true := by simp; omega
    clear h
    go_enter Tryz.func32, Tryz.ntmps32
    go_wp2
    go_region
    all_goals (try go_wp2)
    all_goals go_ret2
    all_goals exact ⟨rfl, (Below.refl _ _).drew⟩
set_option maxRecDepth 100000 in
set_option maxHeartbeats 1600000 in
theorem readBools_some (s : ByteArray) (n : Nat) (w : World) (hs : s.size ≤ 1000000) (hn : n ≤ 20000) (hl : s.size = (n + 7) / 8) (hlev : Um.lev s.data.toList < 2 ^ n) :
    Calls Tryz.prog 32 #[.string s, .int .i64 n] w fun e w' => (∃ a c, e = .returned (.tuple #[.slice a n c, .nilIface]) ∧ LiesV w' a (bvs s.data.toList n)) ∧ Below w.heap.size w w' := by
  obtain ⟨iv, hvi, hv0, hv1, hv2⟩ := info_parts Tryz.infoV
  obtain ⟨M, hM⟩ : ∃ M, M = madeCells (Value.agg #[.int .i64 0, .int .i64 0, .string ⟨#[]⟩]).cells (((n : Nat) : Int).toNat * iv.size) := ⟨_, rfl⟩
  have hMs : M.size = n * 3 := by rw [hM, size_madeCells, hv1]; simp
  have hmk : ∀ W : World, (Instr.makeSlice 26 (.int .i64 (n : Int)) (.int .i64 (n : Int))).run Tryz.prog W = .ok (.slice (some ⟨W.heap.size, 0, none⟩) n n) (W.alloc (.cells M 40)) := fun W => by
    have h := run_make (P := Tryz.prog) W 26 40 iv (.agg #[.int .i64 0, .int .i64 0, .string ⟨#[]⟩]) Tryz.underlying26 hvi hv0 .i64 .i64 (n : Int) (n : Int) (by omega) (by omega) (by rw [hv2]; omega) (by omega)
    rw [← hM] at h
    simpa using h
  have hne : ((s.size : Int) != (n + 7) / 8) = false := by simp; omega
  have HF : Hid (1 * n ≤ 8 * s.size) := by show _ ≤ _; omega
  have hcase : n % 8 = 0 ∨ (∃ hbb : s.size - 1 < s.size, 0 < n % 8 ∧ 0 < s.size ∧ (((s[s.size - 1]'hbb).toNat : Int) / 2 ^ (n % 8) != 0) = false) := by
    by_cases h0 : n % 8 = 0
    · exact Or.inl h0
    · have hr : 0 < n % 8 := by omega
      have h1 : 0 < s.size := by omega
      refine Or.inr ⟨by omega, hr, h1, ?_⟩
      have hq := (bools_end s n hl h1 hr).1 hlev
      have e : ((s[s.size - 1].toNat / 2 ^ (n % 8) : Nat) : Int) = (s[s.size - 1].toNat : Int) / 2 ^ (n % 8) := by simp
      rw [← e, hq]; rfl
  have HM : Hid (M.size = n * 3) := hMs
  clear hl hlev hM hMs
  rcases hcase with h0 | ⟨hbb, hr, h1, hx⟩
  all_goals
    go_enter Tryz.func32, Tryz.ntmps32
    go_wp2_with fail
    refine (unpackF_ok s 1 n w hs (by omega) hn HF.out).mono ?_
    rintro e w1 ⟨⟨g, hg, rfl, hcells⟩, hb1⟩
    have HC : Hid (∀ j, j < n → w1.cell? ⟨g, j, none⟩ = some (.int .i64 ((Um.lev s.data.toList / 2 ^ (1 * j) % 2 ^ 1 : Nat) : Int))) := hcells
    clear hcells
    have HS : Hid (VRow (fun i => ⟨1, ((Um.unp s.data.toList 1 n).getD i 0 : Nat), ⟨#[]⟩⟩) n w1.heap.size w1 (w1.alloc (.cells M 40)) 0) := VRow.start _ _ _ _ _ HM.out
    go_wp2_with fail
    go_loopw [47] (fun x wr => ∃ i : Nat, i ≤ n ∧ x = .int .i64 i ∧ Hid (VRow (fun i => ⟨1, ((Um.unp s.data.toList 1 n).getD i 0 : Nat), ⟨#[]⟩⟩) n w1.heap.size w1 wr i)) (fun x _ => n - (intOf x).toNat)
    case atStart => exact ⟨0, Nat.zero_le _, rfl, HS⟩
    case round =>
      clear HS
      obtain ⟨i, hik, rfl, HV⟩ := hrel
      by_cases hlt : i < n
      · have hc := (HV.out.old.cell (World.block_lt_of_cell? w1 _ (HC.out i hlt))).trans (HC.out i hlt)
        have HE : Hid ((Um.unp s.data.toList 1 n).getD i 0 = Um.lev s.data.toList / 2 ^ (1 * i) % 2 ^ 1) := by
          show _ = _
          have h := Um.unp_get s.data.toList 1 n i hlt
          have h2 : i < (Um.unp s.data.toList 1 n).length := by rw [Um.unp_len]; exact hlt
          rw [← h]
          simp [List.getD, h2]
        rw [← HE.out] at hc
        obtain ⟨y0, g0⟩ := HV.out.any (i * 3) (by omega)
        obtain ⟨y1, g1⟩ := HV.out.any (i * 3 + 1) (by omega)
        obtain ⟨y2, g2⟩ := HV.out.any (i * 3 + 2) (by omega)
        have f0 := HV.out.froz (i * 3) (by omega)
        have f1 := HV.out.froz (i * 3 + 1) (by omega)
        have f2 := HV.out.froz (i * 3 + 2) (by omega)
        have HV2 : Hid _ := HV.out.next (Nat.le_refl _) hlt
        simp only at HV2
        clear HE
        generalize (Um.unp s.data.toList 1 n).getD i 0 = b at hc HV2
        go_wp2
        go_roundw
        case rel => exact ⟨i + 1, by omega, by go_num, HV2⟩
        case measure => simp [intOf]; omega
      · obtain rfl : i = n := by omega
        have HLV : Hid _ := HV.out.lies
        have hbb2 := hb1.trans (HV.out.old.mono hb1.size)
        go_wp2
        go_ret2
        exact ⟨⟨_, _, rfl, HLV.out⟩, hbb2⟩
set_option maxRecDepth 100000 in
set_option maxHeartbeats 800000 in
/-- ReadPlain at a right kind and count. -/
theorem readPlain_any (kd : Int) (s : ByteArray) (n : Nat) (w : World) (st : TypeId) (sp : Value) (hg : w.cell? ⟨3, 0, none⟩ = some (.iface st sp)) (hs : s.size ≤ 1000000) (hn : n ≤ 20000) (hk : 1 ≤ kd) (hk5 : kd ≤ 5) :
    Calls Tryz.prog 15 #[.int .i64 kd, .string s, .int .i64 n] w fun e w' => RetRd (IsPl kd s.data.toList n) n (.iface st sp) e w' ∧ Below w.heap.size w w' := by
  have HG : Hid _ := hg
  clear hg
  by_cases h1 : kd = 1
  · subst h1
    go_enter Tryz.func15, Tryz.ntmps15
    go_wp2_with fail
    refine (checkCount_fine 1 n w (by omega) (by omega) (by omega) (by omega)).mono ?_
    rintro e w1 ⟨rfl, hw⟩
    obtain rfl := hw.symm
    go_wp2_with fail
    have hx : s.size = s.data.toList.length := Array.length_toList.symm
    by_cases hc : s.size = (n + 7) / 8 ∧ Um.lev s.data.toList < 2 ^ n
    · have HI : Hid (IsPl 1 s.data.toList n (bvs s.data.toList n)) := isPl_bools (by rw [← hx]; exact hc.1) hc.2
      refine (readBools_some s n w hs hn hc.1 hc.2).mono ?_
      rintro e w1 ⟨⟨a, c, rfl, hl⟩, hb1⟩
      have HL : Hid _ := hl
      clear hl hc hx
      go_wp2
      go_ret2
      exact ⟨Or.inl ⟨_, a, c, HI.out, rfl, HL.out⟩, hb1⟩
    · have hc2 : s.size ≠ (n + 7) / 8 ∨ ¬ Um.lev s.data.toList < 2 ^ n := by
        by_cases h : s.size = (n + 7) / 8
        · exact Or.inr fun h2 => hc ⟨h, h2⟩
        · exact Or.inl h
      have HI : Hid (¬ ∃ vs, IsPl 1 s.data.toList n vs) := notPl_bools (by rw [← hx]; exact hc2)
      refine (readBools_none s n w st sp HG.out hs hn hc2).mono ?_
      rintro e w1 ⟨rfl, hb1⟩
      clear hc hc2 hx
      go_wp2
      go_ret2
      exact ⟨Or.inr ⟨HI.out, rfl⟩, hb1⟩
  · by_cases h4 : kd = 4
    · subst h4
      go_enter Tryz.func15, Tryz.ntmps15
      go_wp2_with fail
      refine (checkCount_fine 4 n w (by omega) (by omega) (by omega) (by omega)).mono ?_
      rintro e w1 ⟨rfl, hw⟩
      obtain rfl := hw.symm
      go_wp2_with fail
      refine (readTexts_any s n w st sp HG.out hs hn).mono ?_
      rintro e w1 ⟨⟨vs, a, c, hI, rfl, hl⟩ | ⟨hI, rfl⟩, hb1⟩
      · have HI : Hid _ := hI
        have HL : Hid _ := hl
        clear hI hl
        go_wp2
        go_ret2
        exact ⟨Or.inl ⟨vs, a, c, HI.out, rfl, HL.out⟩, hb1⟩
      · have HI : Hid _ := hI
        clear hI
        go_wp2
        go_ret2
        exact ⟨Or.inr ⟨HI.out, rfl⟩, hb1⟩
    · go_enter Tryz.func15, Tryz.ntmps15
      go_wp2_with fail
      refine (checkCount_fine kd n w hk hk5 (by omega) (by omega)).mono ?_
      rintro e w1 ⟨rfl, hw⟩
      obtain rfl := hw.symm
      go_wp2_with fail
      refine (readNumbers_any kd s n w st sp HG.out hs hn (by omega)).mono ?_
      rintro e w1 ⟨⟨vs, a, c, hI, rfl, hl⟩ | ⟨hI, rfl⟩, hb1⟩
      · have HI : Hid _ := hI
        have HL : Hid _ := hl
        clear hI hl
        go_wp2
        go_ret2
        exact ⟨Or.inl ⟨vs, a, c, HI.out, rfl, HL.out⟩, hb1⟩
      · have HI : Hid _ := hI
        clear hI
        go_wp2
        go_ret2
        exact ⟨Or.inr ⟨HI.out, rfl⟩, hb1⟩
set_option maxRecDepth 100000 in
/-- ReadPlain at a kind or a count that is none. -/
theorem readPlain_none (kd : Int) (s : ByteArray) (n : Int) (w : World) (kt bt : TypeId) (kp bp : Value) (hgk : w.cell? ⟨1, 0, none⟩ = some (.iface kt kp)) (hgb : w.cell? ⟨2, 0, none⟩ = some (.iface bt bp)) (h : ¬ ((1 ≤ kd ∧ kd ≤ 5) ∧ 0 ≤ n ∧ n ≤ 20000)) :
    Calls Tryz.prog 15 #[.int .i64 kd, .string s, .int .i64 n] w fun e w' => e = .returned (.tuple #[.slice none 0 0, if 1 ≤ kd ∧ kd ≤ 5 then .iface bt bp else .iface kt kp]) ∧ w' = w := by
  have HGK : Hid _ := hgk
  have HGB : Hid _ := hgb
  have HN : Hid (¬ ((1 ≤ kd ∧ kd ≤ 5) ∧ 0 ≤ n ∧ n ≤ 20000)) := h
  clear hgk hgb h
  by_cases hk : 1 ≤ kd ∧ kd ≤ 5
  · rw [if_pos hk]
    have HK : Hid (1 ≤ kd ∧ kd ≤ 5) := hk
    clear hk
    go_enter Tryz.func15, Tryz.ntmps15
    go_wp2_with fail
    refine (checkCount_bound kd n w _ HGB.out HK.out.1 HK.out.2 (fun h => HN.out ⟨HK.out, h⟩)).mono ?_
    rintro e w1 ⟨rfl, hw⟩
    obtain rfl := hw.symm
    go_wp2
    go_ret2
    exact ⟨rfl, rfl⟩
  · rw [if_neg hk]
    have HK : Hid (¬ (1 ≤ kd ∧ kd ≤ 5)) := hk
    clear hk
    go_enter Tryz.func15, Tryz.ntmps15
    go_wp2_with fail
    refine (checkCount_kind kd n w _ HGK.out HK.out).mono ?_
    rintro e w1 ⟨rfl, hw⟩
    obtain rfl := hw.symm
    go_wp2
    go_ret2
    exact ⟨rfl, rfl⟩
end Go.Proofs.YtmhkpnmifhfboaaGreatDoor

namespace Go.Proofs.YtmhkpnmifhfboaaGreatDoor
open Go.RowKit
theorem wrap_u (n : Int) : IntKind.u64.wrap n = ((Um.u64 n : Nat) : Int) := by rw [IntKind.wrap_u64, Um.u64_int]
theorem u64_small {n : Int} (h0 : 0 ≤ n) (h1 : n ≤ 9223372036854775807) : Um.u64 n = n.toNat := by unfold Um.u64; omega
theorem pack_none (w : World) : Calls Tryz.prog 84 #[.slice none 0 0, .int .i64 1] w fun e w' => e = .returned (.string ⟨#[]⟩) ∧ Below w.heap.size w w' :=
  packOf_any none 0 [] 1 w (by simp) (by omega) (by simp) (fun j hj => absurd hj (by simp [u64s]))
set_option maxRecDepth 100000 in
set_option maxHeartbeats 1600000 in
theorem plainOf_bools (a : Option Addr) (vs : List Vl) (c : Nat) (w : World) (hn : vs.length ≤ 20000) (hl : LiesV w a vs) (hx : ∀ n ∈ vns vs, n = 0 ∨ n = 1) :
    Calls Tryz.prog 45 #[.int .i64 1, .slice a vs.length c] w fun e w' => e = .returned (.string ⟨(packed 1 (vns vs)).toArray⟩) ∧ Below w.heap.size w w' := by
  obtain ⟨i0, hi, hz0, hz1, hz2⟩ := info_parts Tryz.info78
  have HL : Hid (LiesV w a vs) := hl
  have HX : Hid (∀ n ∈ vns vs, n = 0 ∨ n = 1) := hx
  clear hl hx
  go_enter Tryz.func45, Tryz.ntmps45
  go_wp2
  go_loopw [5, 6, 7] (fun o b x wr => ∃ i : Nat, i ≤ vs.length ∧ x = .int .i64 i ∧ o = .string ⟨#[]⟩ ∧ Hid (wr.ownsRow w.heap.size 78 1 b i (u64s (nats ((vns vs).take i)))) ∧ Below w.heap.size w wr) (fun _ _ x _ => vs.length - (intOf x).toNat)
  case atStart => exact ⟨0, Nat.zero_le _, rfl, rfl, by show World.ownsRow _ _ _ _ _ _ _; simpa [u64s, nats] using World.ownsRow_nil w w.heap.size 78 1, Below.refl _ _⟩
  case round =>
    obtain ⟨i, hik, rfl, rfl, HO, hb⟩ := hrel
    by_cases hlt : i < vs.length
    · obtain ⟨b, o, rfl, hc0, hc1, hc2⟩ := (HL.out.keep hb) i hlt
      have hlv : i < (vns vs).length := by rw [vns_len]; exact hlt
      have hv := HX.out _ (List.getElem_mem hlv)
      have hvn : (vns vs)[i] = vs[i].n := by simp [vns]
      rw [hvn] at hv
      have HT : Hid (u64s (nats ((vns vs).take (i + 1))) = u64s (nats ((vns vs).take i)) ++ [.int .u64 vs[i].n]) := by
        show _ = _
        rw [List.take_succ_eq_append_getElem hlv, hvn]
        unfold u64s nats
        rw [List.map_append, List.map_append, List.map_cons, List.map_nil, List.map_cons, List.map_nil, Int.toNat_of_nonneg (by omega)]
      clear hvn hlv
      generalize vs[i] = v at *
      obtain ⟨k, n, s⟩ := v
      simp only at hc0 hc1 hc2 hv HT
      have h0 : 0 ≤ n := by omega
      have h1 : n ≤ 1 := by omega
      clear hv
      have hown := HO.out
      go_wp2_with (at_builtin; refine wpList_append_own _ rfl _ _ 75 rfl w.heap.size 78 i0 (.int .u64 0) 1 8 Tryz.underlying75 hi hz0 hz1 hz2 rfl (by decide) _ _ _ rfl (hown.alloc _) ⟨wr.heap.size, 0, none⟩ 1 1 [.int .u64 n] rfl rfl (cell_one_new _ _ _) (by intro u hu; simp at hu; subst hu; rfl) (by unfold maxLen; omega) (by omega) (by have := hb.size; simp; omega) ?_; intro v' w1 hown' hgrow _)
      have hb2 := below_app hb (Nat.le_refl _) hown hgrow
      rw [← HT.out] at hown'
      clear hown hgrow hc0 hc1 hc2
      go_wp2
      go_roundw
      case rel => exact ⟨i + 1, by omega, by go_num, rfl, hown', hb2⟩
      case measure => simp [intOf]; omega
    · obtain rfl : i = vs.length := by omega
      have ho := HO.out
      rw [← vns_len, List.take_length] at ho
      obtain ⟨a', c', rfl, hl⟩ := lies_own ho
      have hle : (u64s (nats (vns vs))).length = (nats (vns vs)).length := u64s_len _
      rw [hle]
      have HLL : Hid _ := hl
      clear hl ho hle
      go_wp2_with fail
      refine (packOf_any a' c' (nats (vns vs)) 1 _ (by rw [nats_len, vns_len]; omega) (by omega) (fun x hx => ?_) HLL.out).mono ?_
      · obtain ⟨n, hm, rfl⟩ := List.mem_map.1 hx
        have := HX.out n hm
        omega
      rintro e w1 ⟨rfl, hb1⟩
      have hll : (Um.lit (Um.num 1 (nats (vns vs))) ((1 * (nats (vns vs)).length + 7) / 8)).length ≤ 20000 := by rw [Um.lit_len, nats_len, vns_len]; omega
      generalize hq : Um.lit (Um.num 1 (nats (vns vs))) ((1 * (nats (vns vs)).length + 7) / 8) = l at hll ⊢
      have HQ : Hid (Um.lit (Um.num 1 (nats (vns vs))) ((1 * (nats (vns vs)).length + 7) / 8) = l) := hq
      clear hq
      go_wp2
      go_ret
      refine ⟨ret_str ?_, hb.trans (hb1.mono hb.size)⟩
      rw [show (⟨#[]⟩ : ByteArray) = ⟨([] : List UInt8).toArray⟩ from rfl, arr_app, ← HQ.out]
      unfold packed
      rw [nats_len]
      rfl
set_option maxRecDepth 100000 in
set_option maxHeartbeats 1600000 in
theorem plainOf_texts (a : Option Addr) (vs : List Vl) (c : Nat) (w : World) (hn : vs.length ≤ 20000) (hl : LiesV w a vs) (hx : ∀ s ∈ vss vs, s.length ≤ 100) :
    Calls Tryz.prog 45 #[.int .i64 4, .slice a vs.length c] w fun e w' => e = .returned (.string ⟨(Um.txts (vss vs)).toArray⟩) ∧ Below w.heap.size w w' := by
  have HL : Hid (LiesV w a vs) := hl
  have HX : Hid (∀ s ∈ vss vs, s.length ≤ 100) := hx
  clear hl hx
  go_enter Tryz.func45, Tryz.ntmps45
  go_wp2
  go_loopw [5, 6, 7] (fun o b x wr => ∃ i : Nat, i ≤ vs.length ∧ x = .int .i64 i ∧ b = .slice none 0 0 ∧ o = .string ⟨(Um.txts ((vss vs).take i)).toArray⟩ ∧ Below w.heap.size w wr) (fun _ _ x _ => vs.length - (intOf x).toNat)
  case atStart => exact ⟨0, Nat.zero_le _, rfl, rfl, rfl, Below.refl _ _⟩
  case round =>
    obtain ⟨i, hik, rfl, rfl, rfl, hb⟩ := hrel
    by_cases hlt : i < vs.length
    · obtain ⟨b, o, rfl, hc0, hc1, hc2⟩ := (HL.out.keep hb) i hlt
      have hlv : i < (vss vs).length := by rw [vss_len]; exact hlt
      have HN : Hid (Um.txts ((vss vs).take (i + 1)) = Um.txts ((vss vs).take i) ++ Um.txt vs[i].s.data.toList) := by
        show _ = _
        rw [Um.txts_take (vss vs) i hlv]
        simp [vss]
      have hsl : vs[i].s.size ≤ 100 := by
        have h := HX.out (vss vs)[i] (List.getElem_mem hlv)
        simpa [vss] using h
      have hnl : (Um.txts ((vss vs).take i)).length ≤ 110 * 20000 := by
        refine Nat.le_trans (Um.txts_len _ (fun s hs => HX.out s (List.mem_of_mem_take hs))) (Nat.mul_le_mul_left _ ?_)
        rw [List.length_take]; omega
      have htl := Um.txt_len vs[i].s.data.toList (by rw [Array.length_toList]; show vs[i].s.size < _; omega)
      rw [Array.length_toList] at htl
      clear hlv
      generalize Um.txts ((vss vs).take i) = l at *
      generalize vs[i] = v at *
      obtain ⟨k, n, s⟩ := v
      simp only at hc0 hc1 hc2 HN hsl htl
      change (Um.txt s.data.toList).length ≤ s.size + 10 at htl
      go_wp2_with fail
      refine (long_any s _ (by omega)).mono ?_
      rw [txt_arr]
      rintro e w1 ⟨rfl, hb1⟩
      generalize Um.txt s.data.toList = t at *
      go_wp2
      go_roundw
      case rel => exact ⟨i + 1, by omega, by go_num, rfl, by rw [arr_app, HN.out], hb.trans (hb1.mono hb.size)⟩
      case measure => simp [intOf]; omega
    · obtain rfl : i = vs.length := by omega
      have hnl : (Um.txts ((vss vs).take vs.length)).length ≤ 110 * 20000 := by
        refine Nat.le_trans (Um.txts_len _ (fun s hs => HX.out s (List.mem_of_mem_take hs))) (Nat.mul_le_mul_left _ ?_)
        rw [List.length_take]; omega
      have e : (vss vs).take vs.length = vss vs := by rw [← vss_len, List.take_length]
      rw [e] at hnl ⊢
      clear e
      generalize hq : Um.txts (vss vs) = l at *
      have HQ : Hid (Um.txts (vss vs) = l) := hq
      clear hq
      go_wp2_with fail
      refine (pack_none _).mono ?_
      rintro e w1 ⟨rfl, hb1⟩
      go_wp2
      go_ret
      exact ⟨ret_str (by rw [show (⟨#[]⟩ : ByteArray) = ⟨([] : List UInt8).toArray⟩ from rfl, arr_app, List.append_nil, HQ.out]), hb.trans (hb1.mono hb.size)⟩
set_option maxRecDepth 100000 in
set_option maxHeartbeats 1600000 in
theorem plainOf_ints (a : Option Addr) (vs : List Vl) (c : Nat) (w : World) (hn : vs.length ≤ 20000) (hl : LiesV w a vs) :
    Calls Tryz.prog 45 #[.int .i64 2, .slice a vs.length c] w fun e w' => e = .returned (.string ⟨(Um.nums 4 (vns vs)).toArray⟩) ∧ Below w.heap.size w w' := by
  have HL : Hid (LiesV w a vs) := hl
  clear hl
  go_enter Tryz.func45, Tryz.ntmps45
  go_wp2
  go_loopw [5, 6, 7] (fun o b x wr => ∃ i : Nat, i ≤ vs.length ∧ x = .int .i64 i ∧ b = .slice none 0 0 ∧ o = .string ⟨(Um.nums 4 ((vns vs).take i)).toArray⟩ ∧ Below w.heap.size w wr) (fun _ _ x _ => vs.length - (intOf x).toNat)
  case atStart => exact ⟨0, Nat.zero_le _, rfl, rfl, rfl, Below.refl _ _⟩
  case round =>
    obtain ⟨i, hik, rfl, rfl, rfl, hb⟩ := hrel
    have hnl : (Um.nums 4 ((vns vs).take i)).length ≤ 8 * 20000 := by
      rw [Um.nums_len]; refine Nat.mul_le_mul (by omega) ?_; rw [List.length_take]; omega
    by_cases hlt : i < vs.length
    · obtain ⟨b, o, rfl, hc0, hc1, hc2⟩ := (HL.out.keep hb) i hlt
      have HN : Hid (Um.nums 4 ((vns vs).take (i + 1)) = Um.nums 4 ((vns vs).take i) ++ Um.lit (Um.u64 vs[i].n) 4) := by
        show _ = _
        rw [Um.nums_take 4 (vns vs) i (by rw [vns_len]; exact hlt)]
        simp [vns]
      generalize Um.nums 4 ((vns vs).take i) = l at *
      generalize vs[i] = v at *
      obtain ⟨k, n, s⟩ := v
      simp only at hc0 hc1 hc2 HN
      have hwr := wrap_u n
      have hlt8 := Um.u64_lt n
      have hll := Um.lit_len (Um.u64 n) 4
      go_wp2_with fail
      clear hwr
      refine (little_any (Um.u64 n) 4 _ hlt8 (by omega)).mono ?_
      rintro e w1 ⟨rfl, hb1⟩
      generalize Um.lit (Um.u64 n) 4 = t at *
      go_wp2
      go_roundw
      case rel => exact ⟨i + 1, by omega, by go_num, rfl, by rw [arr_app, HN.out], hb.trans (hb1.mono hb.size)⟩
      case measure => simp [intOf]; omega
    · obtain rfl : i = vs.length := by omega
      have e : (vns vs).take vs.length = vns vs := by rw [← vns_len, List.take_length]
      rw [e] at hnl ⊢
      clear e
      generalize hq : Um.nums 4 (vns vs) = l at *
      have HQ : Hid (Um.nums 4 (vns vs) = l) := hq
      clear hq
      go_wp2_with fail
      refine (pack_none _).mono ?_
      rintro e w1 ⟨rfl, hb1⟩
      go_wp2
      go_ret
      exact ⟨ret_str (by rw [show (⟨#[]⟩ : ByteArray) = ⟨([] : List UInt8).toArray⟩ from rfl, arr_app, List.append_nil, HQ.out]), hb.trans (hb1.mono hb.size)⟩
set_option maxRecDepth 100000 in
set_option maxHeartbeats 1600000 in
theorem plainOf_longs (a : Option Addr) (vs : List Vl) (c : Nat) (kd : Int) (w : World) (hn : vs.length ≤ 20000) (hl : LiesV w a vs) (h1 : ¬ kd = 1) (h2 : ¬ kd = 2) (h4 : ¬ kd = 4) :
    Calls Tryz.prog 45 #[.int .i64 kd, .slice a vs.length c] w fun e w' => e = .returned (.string ⟨(Um.nums 8 (vns vs)).toArray⟩) ∧ Below w.heap.size w w' := by
  have HL : Hid (LiesV w a vs) := hl
  clear hl
  go_enter Tryz.func45, Tryz.ntmps45
  go_wp2
  go_loopw [5, 6, 7] (fun o b x wr => ∃ i : Nat, i ≤ vs.length ∧ x = .int .i64 i ∧ b = .slice none 0 0 ∧ o = .string ⟨(Um.nums 8 ((vns vs).take i)).toArray⟩ ∧ Below w.heap.size w wr) (fun _ _ x _ => vs.length - (intOf x).toNat)
  case atStart => exact ⟨0, Nat.zero_le _, rfl, rfl, rfl, Below.refl _ _⟩
  case round =>
    obtain ⟨i, hik, rfl, rfl, rfl, hb⟩ := hrel
    have hnl : (Um.nums 8 ((vns vs).take i)).length ≤ 8 * 20000 := by
      rw [Um.nums_len]; refine Nat.mul_le_mul (by omega) ?_; rw [List.length_take]; omega
    by_cases hlt : i < vs.length
    · obtain ⟨b, o, rfl, hc0, hc1, hc2⟩ := (HL.out.keep hb) i hlt
      have HN : Hid (Um.nums 8 ((vns vs).take (i + 1)) = Um.nums 8 ((vns vs).take i) ++ Um.lit (Um.u64 vs[i].n) 8) := by
        show _ = _
        rw [Um.nums_take 8 (vns vs) i (by rw [vns_len]; exact hlt)]
        simp [vns]
      generalize Um.nums 8 ((vns vs).take i) = l at *
      generalize vs[i] = v at *
      obtain ⟨k, n, s⟩ := v
      simp only at hc0 hc1 hc2 HN
      have hwr := wrap_u n
      have hlt8 := Um.u64_lt n
      have hll := Um.lit_len (Um.u64 n) 8
      go_wp2_with fail
      clear hwr
      refine (little_any (Um.u64 n) 8 _ hlt8 (by omega)).mono ?_
      rintro e w1 ⟨rfl, hb1⟩
      generalize Um.lit (Um.u64 n) 8 = t at *
      go_wp2
      go_roundw
      case rel => exact ⟨i + 1, by omega, by go_num, rfl, by rw [arr_app, HN.out], hb.trans (hb1.mono hb.size)⟩
      case measure => simp [intOf]; omega
    · obtain rfl : i = vs.length := by omega
      have e : (vns vs).take vs.length = vns vs := by rw [← vns_len, List.take_length]
      rw [e] at hnl ⊢
      clear e
      generalize hq : Um.nums 8 (vns vs) = l at *
      have HQ : Hid (Um.nums 8 (vns vs) = l) := hq
      clear hq
      go_wp2_with fail
      refine (pack_none _).mono ?_
      rintro e w1 ⟨rfl, hb1⟩
      go_wp2
      go_ret
      exact ⟨ret_str (by rw [show (⟨#[]⟩ : ByteArray) = ⟨([] : List UInt8).toArray⟩ from rfl, arr_app, List.append_nil, HQ.out]), hb.trans (hb1.mono hb.size)⟩
/-- PlainOf of right values. -/
theorem plainOf_any (a : Option Addr) (vs : List Vl) (c : Nat) (kd : Int) (w : World) (hn : vs.length ≤ 20000) (hl : LiesV w a vs) (hr : Right kd vs) :
    Calls Tryz.prog 45 #[.int .i64 kd, .slice a vs.length c] w fun e w' => e = .returned (.string ⟨(plainB kd vs).toArray⟩) ∧ Below w.heap.size w w' := by
  unfold plainB
  by_cases h1 : kd = 1
  · rw [if_pos h1]
    subst h1
    refine plainOf_bools a vs c w hn hl fun n hm => ?_
    obtain ⟨v, hv, rfl⟩ := List.mem_map.1 hm
    have ho := (hr.2 v hv).1
    unfold Vl.Ok OkV at ho; omega
  · rw [if_neg h1]
    by_cases h4 : kd = 4
    · rw [if_pos h4]
      subst h4
      refine plainOf_texts a vs c w hn hl fun s hm => ?_
      obtain ⟨v, hv, rfl⟩ := List.mem_map.1 hm
      have ho := (hr.2 v hv).1
      unfold Vl.Ok OkV at ho
      rw [Array.length_toList]
      show v.s.size ≤ 100
      omega
    · rw [if_neg h4]
      by_cases h2 : kd = 2
      · rw [if_pos h2]
        subst h2
        exact plainOf_ints a vs c w hn hl
      · rw [if_neg h2]
        exact plainOf_longs a vs c kd w hn hl h1 h2 h4
end Go.Proofs.YtmhkpnmifhfboaaGreatDoor
