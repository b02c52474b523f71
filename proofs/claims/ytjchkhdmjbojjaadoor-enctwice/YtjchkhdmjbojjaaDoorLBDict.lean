/-
  enc.placeWidth and enc.Dict: what they answer of right values.
  enc.atPlaces: the value at each place.
-/
import Derived.Test.YtjchkhdmjbojjaaDoorLUnlikeOf
import Derived.Test.YtjchkhdmjbojjaaDoorLBDictMath
import Derived.Test.YtjchkhdmjbojjaaDoorLBWordsMath
import Derived.Test.YtjchkhdmjbojjaaDoorLBVal
import Derived.Test.YtjchkhdmjbojjaaDoorLRuns
import Derived.Test.YtjchkhdmjbojjaaDoorLWidth
import Derived.Test.YtjchkhdmjbojjaaDoorLBSmall
import Derived.Test.YtjchkhdmjbojjaaDoorLRdNums
namespace Go.Proofs.YtjchkhdmjbojjaaDoor
open Go.RowKit
set_option maxRecDepth 100000 in
theorem placeWidth_any (a : Option Addr) (n c : Nat) (w : World) (hn : n ≤ 20000) :
    Calls Tryd.prog 27 #[.slice a n c] w fun e w' => e = .returned (.int .i64 (Um.pw n : Nat)) ∧ w' = w := by
  by_cases h : n ≤ 1
  · have e : Um.pw n = 0 := by unfold Um.pw; rw [show n - 1 = 0 by omega]; rfl
    rw [e]
    go_enter Tryd.func27, Tryd.ntmps27
    go_wp2_with (go_at_call 68; refine (width_none _ _ (by omega)).mono ?_; rintro e w1 ⟨rfl, hw⟩; obtain rfl := hw.symm)
    go_ret
    exact ⟨rfl, rfl⟩
  · obtain ⟨m, rfl⟩ : ∃ m, n = m + 1 := ⟨n - 1, by omega⟩
    have e : Um.pw (m + 1) = Lib.bitLen m := rfl
    rw [e]
    have hm : (((m + 1 : Nat) : Int) - 1) = (m : Int) := by omega
    go_enter Tryd.func27, Tryd.ntmps27
    go_wp2_with (go_at_call 68; refine (width_any m _ (by omega) (by omega)).mono ?_; rintro e w1 ⟨rfl, hw⟩; obtain rfl := hw.symm)
    go_ret
    exact ⟨rfl, rfl⟩
theorem lies_pints {w : World} {a : Option Addr} {ps : List Nat} (h : ∀ j (h : j < ps.length), ∃ b o, a = some ⟨b, o, none⟩ ∧ w.cell? ⟨b, o + j, none⟩ = some (.int .i64 ps[j])) : Lies w a (i64s (pints ps)) := fun j hj => by
  rw [i64s_len, pints_len] at hj
  obtain ⟨b, o, e, hc⟩ := h j hj
  exact ⟨b, o, e, by rw [hc]; simp [i64s, pints]⟩
/-- Runs of places. -/
theorem runs_places (a : Option Addr) (vs us : List Vl) (ps : List Nat) (c : Nat) (w : World) (st : TypeId) (sp : Value) (h : Uq vs us ps) (hn : vs.length ≤ 300) (hcap : ps.length ≤ c) (hg : w.cell? ⟨1, 0, none⟩ = some (.iface st sp)) (hl : Lies w a (i64s (pints ps))) :
    Calls Tryd.prog 26 #[.slice a ps.length c, .int .i64 (Um.pw us.length : Nat)] w fun e w' => e = .returned (.tuple #[.string ⟨(Um.wrs (Um.pw us.length) [] (pints ps)).toArray⟩, .nilIface]) ∧ Below w.heap.size w w' := by
  have hlen := h.len
  have hroom := pints_room h (by omega)
  have hx : ∀ j (hj : j < (pints ps).length), -9223372036854775808 ≤ (pints ps)[j] ∧ (pints ps)[j] ≤ 9223372036854775807 := fun j hj => by
    rw [pints_len] at hj
    have := h.lt ps[j] (List.getElem_mem hj)
    simp only [pints, List.getElem_map]
    omega
  have hr := runsF_any a (pints ps) c (Um.pw us.length) w st sp (by rw [pints_len]; omega) (by rw [pints_len]; exact hcap) (Um.pw_le (by omega)) hg hx hl
  have hr2 : Calls Tryd.prog 26 #[.slice a (pints ps).length c, .int .i64 (Um.pw us.length : Nat)] w fun e w' => e = .returned (.tuple #[.string ⟨(Um.wrs (Um.pw us.length) [] (pints ps)).toArray⟩, .nilIface]) ∧ Below w.heap.size w w' := by
    refine hr.mono ?_
    rintro e w' ⟨⟨rfl, _⟩ | ⟨i, p, hi, rfl, _, hN, _, _⟩, hb⟩
    · exact ⟨rfl, hb⟩
    · exact absurd (hroom i hi) hN
  rw [pints_len] at hr2
  exact hr2
theorem ck' {w w' : World} {g : Nat} {v : Value} (h : w.cell? ⟨g, 0, none⟩ = some v) (hb : Below w.heap.size w w') : w'.cell? ⟨g, 0, none⟩ = some v := (hb.cell (World.block_lt_of_cell? w _ h)).trans h
theorem cat3 (a b c : List UInt8) : (⟨a.toArray⟩ : ByteArray) ++ ⟨b.toArray⟩ ++ ⟨c.toArray⟩ = ⟨(a ++ b ++ c).toArray⟩ := by rw [arr_app, arr_app]
set_option maxRecDepth 100000 in
set_option maxHeartbeats 1600000 in
/-- Dict of right values. -/
theorem dict_right (a : Option Addr) (vs : List Vl) (c : Nat) (kd : Int) (w : World) (kt st : TypeId) (kp sp : Value) (hgk : w.cell? ⟨2, 0, none⟩ = some (.iface kt kp)) (hgs : w.cell? ⟨1, 0, none⟩ = some (.iface st sp)) (hn : vs.length ≤ 300) (hl : LiesV w a vs) (hr : Right kd vs) (us : List Vl) (ps : List Nat) (hu : Uq vs us ps) :
    Calls Tryd.prog 9 #[.int .i64 kd, .slice a vs.length c] w fun e w' => e = .returned (.tuple #[.string ⟨(dictB kd us ps).toArray⟩, .nilIface]) ∧ Below w.heap.size w w' := by
  have HL : Hid (LiesV w a vs) := hl
  have HR : Hid (Right kd vs) := hr
  have HU : Hid (Uq vs us ps) := hu
  have HGK : Hid _ := hgk
  have HGS : Hid _ := hgs
  have hul := hu.len.2
  have HPS : Hid (ps.length = vs.length) := hu.len.1
  have HRU : Hid (Right kd us) := right_sub hr hu.sub
  clear hl hr hu hgk hgs
  go_enter Tryd.func9, Tryd.ntmps9
  go_wp2_with fail
  refine (checkE_any a vs c kd w kt kp (by omega) HR.out.1.1 HR.out.1.2 HGK.out HL.out).mono ?_
  rintro e w1 ⟨⟨rfl, _⟩ | ⟨i, p, hi, rfl, _, hN, _, _⟩, hb1⟩
  · go_wp2_with fail
    refine (byFirst_any a vs c w1 (by omega) (HL.out.keep hb1) (fun v hv => (HR.out.2 v hv).2)).mono ?_
    rintro e w2 ⟨⟨us', ps', a2, c2, a3, c3, hu', rfl, hcap, hl2, hl3⟩, hb2⟩
    obtain ⟨rfl, rfl⟩ := HU.out.fn us' ps' hu'
    have hb12 := hb1.trans (hb2.mono hb1.size)
    have HL2 : Hid (LiesV w2 a2 us) := hl2
    have HL3 : Hid (Lies w2 a3 (i64s (pints ps))) := lies_pints hl3
    clear hl2 hl3 hu'
    go_wp2_with fail
    refine (plain_right a2 us c2 kd w2 kt st kp sp (ck' HGK.out hb12) (ck' HGS.out hb12) (by omega) HR.out.1.1 HR.out.1.2 HL2.out (fun j h => (HRU.out.2 _ (List.getElem_mem h)).1) (fun j h => (HRU.out.2 _ (List.getElem_mem h)).2.2.1)).mono ?_
    rintro e w3 ⟨rfl, hb3⟩
    have hb13 := hb12.trans (hb3.mono hb12.size)
    go_wp2_with fail
    refine (placeWidth_any a2 us.length c2 w3 (by omega)).mono ?_
    rintro e w4 ⟨rfl, hw⟩
    obtain rfl := hw.symm
    go_wp2_with fail
    refine (runs_places a3 vs us ps c3 w3 st sp HU.out hn hcap (ck' HGS.out hb13) (HL3.out.keep hb3)).mono ?_
    rintro e w5 ⟨rfl, hb5⟩
    have hb15 := hb13.trans (hb5.mono hb13.size)
    have hwl := Um.wrs_len (Um.pw us.length) (Um.pw_le (by omega)) (pints ps) (by rw [pints_len, HPS.out]; omega)
    have hpl := plainB_len HRU.out
    obtain ⟨wl, HWL⟩ : ∃ wl, Hid (wl = Um.wrs (Um.pw us.length) [] (pints ps)) := ⟨_, rfl⟩
    obtain ⟨pb, HPB⟩ : ∃ pb, Hid (pb = plainB kd us) := ⟨_, rfl⟩
    rw [← HWL.out] at hwl ⊢
    rw [← HPB.out] at hpl ⊢
    go_wp2_with fail
    refine (uvarint_any us.length _ (by omega)).mono ?_
    rintro e w6 ⟨rfl, hb6⟩
    have hb16 := hb15.trans (hb6.mono hb15.size)
    have hsz : (⟨pb.toArray⟩ : ByteArray).size = pb.length := by simp [ByteArray.size]
    go_wp2_with fail
    refine (text_any ⟨pb.toArray⟩ _ (by omega)).mono ?_
    rw [txt_arr, show (⟨pb.toArray⟩ : ByteArray).data.toList = pb from rfl]
    rintro e w7 ⟨rfl, hb7⟩
    have hb17 := hb16.trans (hb7.mono hb16.size)
    have htl := Um.txt_len pb (by omega)
    have hul2 := Um.uv_ten (n := us.length) (by omega)
    have HD : Hid (dictB kd us ps = Um.uv us.length ++ Um.txt pb ++ wl) := by show _ = _; rw [HPB.out, HWL.out]; rfl
    generalize Um.txt pb = tb at *
    generalize Um.uv us.length = ub at *
    clear hsz
    go_wp2
    go_ret2
    exact ⟨by rw [HD.out, ← cat3]; rfl, hb17⟩
  · exact absurd ((HR.out.2 _ (List.getElem_mem hi)).1) hN
theorem Uq.ex : ∀ (n : Nat) (vs : List Vl), vs.length = n → ∃ us ps, Uq vs us ps
  | 0, vs, h => by
    obtain rfl : vs = [] := List.eq_nil_of_length_eq_zero h
    exact ⟨[], [], Uq.nil⟩
  | n + 1, vs, h => by
    have hlt : n < vs.length := by omega
    obtain ⟨us, ps, hu⟩ := Uq.ex n (vs.take n) (by rw [List.length_take]; omega)
    have e : vs = vs.take n ++ [vs[n]] := by rw [← List.take_succ_eq_append_getElem hlt, List.take_of_length_le (by omega)]
    generalize vs[n] = v at e
    generalize vs.take n = ws at e hu
    subst e
    by_cases hm : v ∈ us
    · obtain ⟨p, hp, hpe⟩ := List.getElem_of_mem hm
      exact ⟨us, ps ++ [p], Uq.old hu (by rw [← hpe]; exact List.getElem?_eq_getElem hp)⟩
    · exact ⟨us ++ [v], ps ++ [us.length], Uq.new hu hm⟩
set_option maxRecDepth 100000 in
theorem dict_kind (a : Option Addr) (n c : Nat) (kd : Int) (w : World) (kt : TypeId) (kp : Value) (hn : n ≤ 20000) (hgk : w.cell? ⟨2, 0, none⟩ = some (.iface kt kp)) (hk : ¬ (1 ≤ kd ∧ kd ≤ 5)) :
    Calls Tryd.prog 9 #[.int .i64 kd, .slice a n c] w fun e w' => e = .returned (.tuple #[.string ⟨#[]⟩, .iface kt kp]) ∧ w' = w := by
  have HK : Hid _ := hgk
  have HN : Hid (¬ (1 ≤ kd ∧ kd ≤ 5)) := hk
  clear hgk hk
  go_enter Tryd.func9, Tryd.ntmps9
  go_wp2_with fail
  refine (checkE_kind a n c kd w kt kp hn HK.out HN.out).mono ?_
  rintro e w1 ⟨rfl, hw⟩
  obtain rfl := hw.symm
  go_wp2_with fail
  go_ret2
  exact ⟨rfl, rfl⟩
set_option maxRecDepth 100000 in
set_option maxHeartbeats 800000 in
/-- Dict of values that are not of the kind. -/
theorem dict_fault (a : Option Addr) (vs : List Vl) (c : Nat) (kd : Int) (w : World) (kt : TypeId) (kp : Value) (hgk : w.cell? ⟨2, 0, none⟩ = some (.iface kt kp)) (hn : vs.length ≤ 20000) (hk : 1 ≤ kd) (hk5 : kd ≤ 5) (hl : LiesV w a vs) (i : Nat) (hi : i < vs.length) (hbad : ¬ vs[i].Ok kd) (hfirst : ∀ j (h : j < vs.length), j < i → vs[j].Ok kd) :
    Calls Tryd.prog 9 #[.int .i64 kd, .slice a vs.length c] w fun e w' => (∃ p, e = .returned (.tuple #[.string ⟨#[]⟩, .iface 84 (.pointer (some ⟨p, 0, none⟩))]) ∧ w'.cell? ⟨p, 0, none⟩ = some (.int .i64 i) ∧ w'.cell? ⟨p, 1, none⟩ = some (.iface kt kp)) ∧ Below w.heap.size w w' := by
  have HL : Hid (LiesV w a vs) := hl
  have HB : Hid (¬ vs[i].Ok kd) := hbad
  have HF : Hid (∀ j (h : j < vs.length), j < i → vs[j].Ok kd) := hfirst
  have HGK : Hid _ := hgk
  clear hl hbad hfirst hgk
  go_enter Tryd.func9, Tryd.ntmps9
  go_wp2_with fail
  refine (checkE_any a vs c kd w kt kp hn hk hk5 HGK.out HL.out).mono ?_
  rintro e w1 ⟨⟨rfl, hall⟩ | ⟨i2, p, hi2, rfl, hF2, hN2, hp0, hp1⟩, hb1⟩
  · exact absurd (hall i hi) HB.out
  · have hii : i2 = i := by
      by_cases hlt : i2 < i
      · exact absurd (HF.out i2 hi2 hlt) hN2
      · by_cases hgt : i < i2
        · exact absurd (hF2 i hi hgt) HB.out
        · omega
    subst hii
    clear hF2 hN2
    have H0 : Hid _ := hp0
    have H1 : Hid _ := hp1
    clear hp0 hp1
    go_wp2_with fail
    go_ret2
    exact ⟨⟨p, rfl, H0.out, H1.out⟩, hb1⟩
end Go.Proofs.YtjchkhdmjbojjaaDoor

namespace Go.Proofs.YtjchkhdmjbojjaaDoor
open Go.RowKit
theorem Uq.at_ {vs us : List Vl} {ps : List Nat} (h : Uq vs us ps) : ∀ i (hi : i < vs.length), ∃ p, ps[i]? = some p ∧ us[p]? = some vs[i] := by
  induction h with
  | nil => intro i hi; simp at hi
  | @old vs us ps v p hu hp ih =>
    intro i hi
    have hl := hu.len.1
    by_cases hlt : i < vs.length
    · obtain ⟨q, h1, h2⟩ := ih i hlt
      exact ⟨q, by rw [List.getElem?_append_left (by omega)]; exact h1, by rw [List.getElem_append_left hlt]; exact h2⟩
    · have he : i = vs.length := by simp at hi; omega
      subst he
      exact ⟨p, by rw [← hl]; simp, by simpa using hp⟩
  | @new vs us ps v hu hv ih =>
    intro i hi
    have hl := hu.len.1
    by_cases hlt : i < vs.length
    · obtain ⟨q, h1, h2⟩ := ih i hlt
      have hq := (List.getElem?_eq_some_iff.1 h2).1
      exact ⟨q, by rw [List.getElem?_append_left (by omega)]; exact h1, by rw [List.getElem_append_left hlt, List.getElem?_append_left hq]; exact h2⟩
    · have he : i = vs.length := by simp at hi; omega
      subst he
      exact ⟨us.length, by rw [← hl]; simp, by simp⟩
set_option maxRecDepth 100000 in
set_option maxHeartbeats 1600000 in
/-- atPlaces, of the unlike values and their places: the values. -/
theorem atPlaces_right (a1 a2 : Option Addr) (c1 c2 : Nat) (vs us : List Vl) (ps : List Nat) (w : World) (hn : vs.length ≤ 20000) (hu : Uq vs us ps) (hl1 : LiesV w a1 us) (hl2 : ∀ j (h : j < ps.length), ∃ b o, a2 = some ⟨b, o, none⟩ ∧ w.cell? ⟨b, o + j, none⟩ = some (.int .i64 ps[j])) (hin : ∀ v ∈ vs, v.In) :
    Calls Tryd.prog 54 #[.slice a1 us.length c1, .slice a2 ps.length c2] w fun e w' => (∃ a c, e = .returned (.tuple #[.slice a vs.length c, .nilIface]) ∧ LiesV w' a vs) ∧ Below w.heap.size w w' := by
  obtain ⟨iv, hvi, hv0, hv1, hv2⟩ := info_parts Tryd.infoV
  have HU : Hid (Uq vs us ps) := hu
  have H1 : Hid (LiesV w a1 us) := hl1
  have H2 : Hid (∀ j (h : j < ps.length), ∃ b o, a2 = some ⟨b, o, none⟩ ∧ w.cell? ⟨b, o + j, none⟩ = some (.int .i64 ps[j])) := hl2
  have HI : Hid (∀ v ∈ vs, v.In) := hin
  have hlen := hu.len
  obtain ⟨n, hvn⟩ : ∃ n, vs.length = n := ⟨_, rfl⟩
  have HVN : Hid (vs.length = n) := hvn
  have hpn : ps.length = n := hlen.1.trans hvn
  have HPN : Hid (ps.length = n) := hpn
  have hun : us.length ≤ 20000 := by omega
  rw [hpn, hvn]
  rw [hvn] at hn
  clear hu hl1 hl2 hin hlen hvn hpn
  obtain ⟨M, hM⟩ : ∃ M, M = madeCells (Value.agg #[.int .i64 0, .int .i64 0, .string ⟨#[]⟩]).cells (((n : Nat) : Int).toNat * iv.size) := ⟨_, rfl⟩
  have hMs : M.size = n * 3 := by rw [hM, size_madeCells, hv1]; simp
  have hmk : ∀ W : World, (Instr.makeSlice 22 (.int .i64 (n : Int)) (.int .i64 (n : Int))).run Tryd.prog W = .ok (.slice (some ⟨W.heap.size, 0, none⟩) n n) (W.alloc (.cells M 45)) := fun W => by
    have h := run_make (P := Tryd.prog) W 22 45 iv (.agg #[.int .i64 0, .int .i64 0, .string ⟨#[]⟩]) Tryd.underlying22 hvi hv0 .i64 .i64 (n : Int) (n : Int) (by omega) (by omega) (by rw [hv2]; omega) (by omega)
    rw [← hM] at h
    simpa using h
  have HS : Hid (VRow (fun i => vs.getD i ⟨0, 0, ⟨#[]⟩⟩) n w.heap.size w (w.alloc (.cells M 45)) 0) := VRow.start _ _ _ _ _ hMs
  clear hM hMs
  go_enter Tryd.func54, Tryd.ntmps54
  go_wp2
  clear hmk
  go_loopw [16] (fun x wr => ∃ i : Nat, i ≤ n ∧ x = .int .i64 i ∧ w.heap.size < wr.heap.size ∧ Hid (VRow (fun i => vs.getD i ⟨0, 0, ⟨#[]⟩⟩) n w.heap.size w wr i)) (fun x _ => n - (intOf x).toNat)
  case atStart => exact ⟨0, Nat.zero_le _, rfl, by simp, HS⟩
  case round =>
    clear HS
    obtain ⟨i, hik, rfl, hsz, HV⟩ := hrel
    have hb := HV.out.old
    by_cases hlt : i < n
    · obtain ⟨p, hp1, hp2⟩ := HU.out.at_ i (by rw [HVN.out]; exact hlt)
      obtain ⟨hpi, hpe⟩ := List.getElem?_eq_some_iff.1 hp1
      obtain ⟨hpu, hue⟩ := List.getElem?_eq_some_iff.1 hp2
      obtain ⟨b2, o2, rfl, hc0⟩ := H2.out i hpi
      rw [hpe] at hc0
      have hc := (hb.cell (World.block_lt_of_cell? w _ hc0)).trans hc0
      obtain ⟨b1, o1, rfl, d0, d1, d2⟩ := (LiesV.keep H1.out hb) p hpu
      rw [hue] at d0 d1 d2
      have HE : Hid (vs.getD i ⟨0, 0, ⟨#[]⟩⟩ = vs[i]'(by rw [HVN.out]; exact hlt)) := by
        show _ = _
        simp [List.getD, show i < vs.length by rw [HVN.out]; exact hlt]
      clear hp1 hp2 hpe hue hc0
      generalize vs[i]'(by rw [HVN.out]; exact hlt) = v at *
      obtain ⟨k0, n0, s0⟩ := v
      simp only at d0 d1 d2
      obtain ⟨y0, g0⟩ := HV.out.any (i * 3) (by omega)
      obtain ⟨y1, g1⟩ := HV.out.any (i * 3 + 1) (by omega)
      obtain ⟨y2, g2⟩ := HV.out.any (i * 3 + 2) (by omega)
      have f0 := HV.out.froz (i * 3) (by omega)
      have f1 := HV.out.froz (i * 3 + 1) (by omega)
      have f2 := HV.out.froz (i * 3 + 2) (by omega)
      have hN := HV.out.next (Nat.le_refl _) hlt
      rw [HE.out] at hN
      have HN : Hid _ := hN
      clear hN
      go_wp2
      go_roundw
      case rel => exact ⟨i + 1, by omega, by go_num, by simpa using hsz, HN⟩
      case measure => simp [intOf]; omega
    · obtain rfl : i = n := by omega
      have hlv := HV.out.lies
      have hmp : (List.range i).map (fun i => vs.getD i ⟨0, 0, ⟨#[]⟩⟩) = vs := by
        apply List.ext_getElem
        · rw [List.length_map, List.length_range, HVN.out]
        · intro j h1 h2
          simp [List.getD, h2]
      rw [hmp] at hlv
      have HLV : Hid (LiesV wr (some ⟨w.heap.size, 0, none⟩) vs) := hlv
      clear hlv hmp
      have hbf := byFirst_any (some ⟨w.heap.size, 0, none⟩) vs i wr (by rw [HVN.out]; exact hn) HLV.out HI.out
      rw [HVN.out] at hbf
      go_wp2_with fail
      refine hbf.mono ?_
      clear hbf
      rintro e w2 ⟨⟨us', ps', a3, c3, a4, c4, hu', rfl, hcap, hl3, hl4⟩, hb2⟩
      obtain ⟨rfl, rfl⟩ := HU.out.fn us' ps' hu'
      have HL3 : Hid (LiesV w2 a3 us) := hl3
      have hb12 := hb.trans (hb2.mono hb.size)
      clear hl3 hl4 hu' hcap
      go_wp2_with fail
      refine (equalV_any w2 a3 a1 c3 c1 us us (by unfold maxLen; omega) HL3.out (LiesV.keep H1.out hb12)).mono ?_
      rintro e w3 ⟨⟨b, rfl, hbt⟩, hb3⟩
      obtain rfl : b = true := hbt.2 rfl
      have HL4 : Hid _ := LiesV.keep (LiesV.keep HLV.out hb2) hb3
      clear hbt
      go_wp2
      go_ret2
      exact ⟨⟨_, _, rfl, HL4.out⟩, hb12.trans (hb3.mono hb12.size)⟩
end Go.Proofs.YtjchkhdmjbojjaaDoor
