/-
  The reference's TextsOf: the texts of values.
  The reference's ReadPrefixOf: the texts that bytes are, each behind the one ahead.
  The reference's ReadBestOf: the values that bytes are by a code.
-/
import Derived.Test.YteeheodcejeloaaGreatDoorRBBest
import Derived.Test.YteeheodcejeloaaGreatDoorRBRdBehind
import Derived.Test.YteeheodcejeloaaGreatDoorRPrefOf
import Derived.Test.YteeheodcejeloaaGreatDoorRBRd
import Derived.Test.YteeheodcejeloaaGreatDoorRBRdSteps
namespace Go.Proofs.YteeheodcejeloaaGreatDoor
open Go.RowKit
def scells (ts : List ByteArray) : List Value := ts.map .string
theorem scells_len (ts : List ByteArray) : (scells ts).length = ts.length := by simp [scells]
theorem liesS_own {w : World} {B e : Nat} {v : Value} {ts : List ByteArray} (h : w.ownsRow B e 1 v (scells ts).length (scells ts)) : ∃ a c, v = .slice a ts.length c ∧ LiesS w a ts := by
  by_cases h0 : 0 < (scells ts).length
  · obtain ⟨g, c, rfl, hl⟩ := own_lies h h0
    refine ⟨_, c, by rw [scells_len], fun j hj => ?_⟩
    obtain ⟨b, o, e, hc⟩ := hl j (by rw [scells_len]; exact hj)
    exact ⟨b, o, e, by rw [hc]; simp [scells]⟩
  · rw [scells_len] at h0
    have hz : ts.length = 0 := by omega
    rw [scells_len, hz] at h
    rcases h.2 with ⟨rfl, _⟩ | ⟨g, cap, cur, rfl, _⟩
    · exact ⟨none, 0, by rw [hz], fun j hj => absurd hj (by omega)⟩
    · exact ⟨_, cap, by rw [hz], fun j hj => absurd hj (by omega)⟩
end Go.Proofs.YteeheodcejeloaaGreatDoor

namespace Go.Proofs.YteeheodcejeloaaGreatDoor
open Go.RowKit
/-- What is read is the one text that can be. -/
theorem rdp_step {n : Nat} {a l : List UInt8} {ss : List (List UInt8)} (h : Um.rdp (n + 1) a l = some ss) {m i m2 j : Nat} (hp : Um.rdv l 0 0 = (m, i)) (hq : Um.rdv (l.drop i) 0 0 = (m2, j)) :
    (0 < i ∧ m ≤ a.length ∧ 0 < j ∧ i + j + m2 ≤ l.length ∧ (a.take m ++ (l.drop (i + j)).take m2).length ≤ 100) ∧ ∃ tl, ss = (a.take m ++ (l.drop (i + j)).take m2) :: tl ∧ Um.rdp n (a.take m ++ (l.drop (i + j)).take m2) (l.drop (i + j + m2)) = some tl := by
  unfold Um.rdp at h
  obtain ⟨⟨t, k⟩, h1, h2⟩ := Option.bind_eq_some_iff.1 h
  obtain ⟨r, h3, rfl⟩ := Option.map_eq_some_iff.1 h2
  unfold Um.rdb at h1
  simp only [hp, hq] at h1
  split at h1
  · rename_i hc
    obtain ⟨c1, c2, c3, c4, c5, c6⟩ := hc
    have hh := Option.some.inj h1
    injection hh with e1 e2
    subst e1 e2
    exact ⟨⟨c1, c2, c3, c4, c5⟩, r, rfl, h3⟩
  · cases h1
/-- What a reader of texts of the reference answers. -/
def RetOkS (o : Option (List (List UInt8))) (e : Ending) (w' : World) : Prop :=
  (∃ ss a c, o = some ss ∧ e = .returned (.tuple #[.slice a ss.length c, .bool true]) ∧ LiesS w' a (ss.map mk)) ∨ (o = none ∧ ∃ ts a c, ts.length ≤ 20000 ∧ e = .returned (.tuple #[.slice a ts.length c, .bool false]) ∧ LiesS w' a ts)
theorem scells_snoc (ts : List ByteArray) (t : ByteArray) : scells (ts ++ [t]) = scells ts ++ [.string t] := by simp [scells]
theorem no_some {o : Option (List (List UInt8))} (h : ∀ ss, o ≠ some ss) : o = none := by
  cases o with
  | none => rfl
  | some ss => exact absurd rfl (h ss)
theorem bys_snoc (ts : List ByteArray) (t : ByteArray) : bys (ts ++ [t]) = bys ts ++ [t.data.toList] := by simp [bys]
theorem bys_mk (ts : List ByteArray) : (bys ts).map mk = ts := by
  unfold bys
  rw [List.map_map]
  refine (List.map_congr_left (fun x _ => ?_)).trans (List.map_id _)
  exact mk_bytes x
set_option maxRecDepth 100000 in
set_option maxHeartbeats 1600000 in
theorem prOf_any (s : ByteArray) (n : Nat) (w : World) (hs : s.size ≤ 3000) (hn : n ≤ 20000) :
    Calls Tryz.prog 56 #[.string s, .int .i64 n] w fun e w' => RetOkS (Um.rdp n [] s.data.toList) e w' ∧ Below w.heap.size w w' := by
  obtain ⟨iv, hvi, hv0, hv1, hv2⟩ := info_parts Tryz.infoS
  go_enter Tryz.func56, Tryz.ntmps56
  go_wp2
  go_loopw [6, 7, 8, 9] (fun o y z x wr => ∃ (i : Nat) (r t : ByteArray) (ts : List ByteArray), i ≤ n ∧ x = .int .i64 i ∧ y = .string r ∧ z = .string t ∧ r.size ≤ s.size ∧ t.size ≤ 100 ∧ Hid (ts.length = i) ∧ Hid (∀ u ∈ ts, u.size ≤ 100) ∧ Hid (∀ ss, Um.rdp n [] s.data.toList = some ss → ∃ tl, ss = bys ts ++ tl ∧ Um.rdp (n - i) t.data.toList r.data.toList = some tl) ∧ Hid (wr.ownsRow w.heap.size 9 1 o (scells ts).length (scells ts)) ∧ Below w.heap.size w wr) (fun _ _ _ x _ => n - (intOf x).toNat)
  case atStart => exact ⟨0, s, ⟨#[]⟩, [], Nat.zero_le _, rfl, rfl, rfl, Nat.le_refl _, by show 0 ≤ 100; omega, rfl, fun u hu => by simp at hu, fun ss h => ⟨ss, rfl, h⟩, World.ownsRow_nil _ _ _ _, Below.refl _ _⟩
  case round =>
    obtain ⟨i, r, t, ts, hik, rfl, rfl, rfl, hrs, ht100, HTL, HU, HRD, HO, hb⟩ := hrel
    by_cases hlt : i < n
    · have hni : n - i = (n - (i + 1)) + 1 := by omega
      have HNI : Hid (n - i = (n - (i + 1)) + 1) := hni
      clear hni
      generalize hp : Um.rdv r.data.toList 0 0 = p
      obtain ⟨m, k⟩ := p
      have HP : Hid (Um.rdv r.data.toList 0 0 = (m, k)) := hp
      clear hp
      generalize hp : Um.rdv (r.data.toList.drop k) 0 0 = p
      obtain ⟨m2, j⟩ := p
      have HQ : Hid (Um.rdv (r.data.toList.drop k) 0 0 = (m2, j)) := hp
      clear hp
      have HSt : Hid (∀ ss, Um.rdp n [] s.data.toList = some ss → (0 < k ∧ m ≤ t.size ∧ 0 < j ∧ k + j + m2 ≤ r.size ∧ (t.data.toList.take m ++ (r.data.toList.drop (k + j)).take m2).length ≤ 100) ∧ ∃ tl, ss = (bys ts ++ [t.data.toList.take m ++ (r.data.toList.drop (k + j)).take m2]) ++ tl ∧ Um.rdp (n - (i + 1)) (t.data.toList.take m ++ (r.data.toList.drop (k + j)).take m2) (r.data.toList.drop (k + j + m2)) = some tl) := fun ss h => by
        obtain ⟨tl, rfl, h2⟩ := HRD.out ss h
        rw [HNI.out] at h2
        obtain ⟨g1, tl2, rfl, g3⟩ := rdp_step h2 HP.out HQ.out
        rw [Array.length_toList, Array.length_toList] at g1
        exact ⟨g1, tl2, by simp, g3⟩
      have hroom := Um.rdv_room r.data.toList 0 0 (by simp)
      rw [HP.out, Array.length_toList] at hroom
      obtain ⟨hm64, hk10, hkr⟩ := hroom
      simp only at hm64 hk10 hkr
      have hkr2 : k ≤ r.size := by have : r.size = r.data.size := rfl; omega
      have hroom := Um.rdv_room (r.data.toList.drop k) 0 0 (by simp)
      rw [HQ.out, List.length_drop, Array.length_toList] at hroom
      obtain ⟨hm264, hj10, hjr⟩ := hroom
      simp only at hm264 hj10 hjr
      have hjr2 : k + j ≤ r.size := by have : r.size = r.data.size := rfl; omega
      clear hkr hjr
      have hwt : IntKind.u64.wrap (t.size : Int) = t.size := by rw [IntKind.wrap_u64]; omega
      go_wp2_with fail
      have hs7 := readSeven_any r wr (by unfold maxLen; omega)
      rw [HP.out] at hs7
      refine hs7.mono ?_
      clear hs7
      rintro e w1 ⟨rfl, hw⟩
      obtain rfl := hw.symm
      by_cases hgo : 0 < k ∧ m ≤ t.size
      · obtain ⟨hk0, hmt⟩ := hgo
        have q0 : ((k : Int) == 0) = false := by simp; omega
        have q1 : ¬ t.size < m := by omega
        have HQ2 : Hid (Um.rdv (r.extract k r.size).data.toList 0 0 = (m2, j)) := by show _ = _; rw [drop_ext]; exact HQ.out
        have hxs : (r.extract k r.size).size = r.size - k := by rw [ByteArray.size_extract]; omega
        have HXS : Hid ((r.extract k r.size).size = r.size - k) := hxs
        clear hxs
        have hwm : IntKind.i64.wrap (m : Int) = (m : Int) := by rw [IntKind.wrap_i64]; omega
        by_cases hfit : 0 < j ∧ k + j + m2 ≤ r.size
        · obtain ⟨hj0, hfit⟩ := hfit
          have hlong := readLong_hit (r.extract k r.size) wr m2 j (by rw [HXS.out]; omega) HQ2.out hj0 (by rw [HXS.out]; omega)
          have HX : Hid (((r.extract k r.size).extract j (j + m2)).data.toList = (r.data.toList.drop (k + j)).take m2) := by
            show _ = _
            rw [ext_take, drop_ext, List.drop_drop]
          have HXZ : Hid (((r.extract k r.size).extract j (j + m2)).size = m2) := by
            show _ = _
            rw [ByteArray.size_extract, HXS.out]; omega
          go_wp2_with fail
          refine hlong.mono ?_
          clear hlong
          rintro e w1 ⟨rfl, hw⟩
          obtain rfl := hw.symm
          generalize (r.extract k r.size).extract j (j + m2) = x at *
          have hxz : x.size = m2 := HXZ.out
          obtain ⟨q, HQq⟩ : ∃ q, Hid (q = j + m2) := ⟨_, rfl⟩
          have hci : (j : Int) + (m2 : Int) = (q : Int) := by rw [HQq.out]; omega
          have q2 : ((q : Int) == 0) = false := by simp; have := HQq.out; omega
          by_cases h100 : m2 + m ≤ 100
          · have HE : Hid ((t.extract 0 m ++ x).data.toList = t.data.toList.take m ++ (r.data.toList.drop (k + j)).take m2) := by
              show _ = _
              rw [ByteArray.data_append, Array.toList_append, HX.out]
              congr 1
              have := ext_take t 0 m
              rw [Nat.zero_add, List.drop_zero] at this
              exact this
            have HES : Hid ((t.extract 0 m ++ x).size ≤ 100) := by
              show _ ≤ _
              rw [ByteArray.size_append, ByteArray.size_extract, HXZ.out]; omega
            have hcl : (scells ts).length ≤ 20000 := by rw [scells_len, HTL.out]; omega
            have hqr : k + q ≤ r.size := by have := HQq.out; omega
            have HRX : Hid ((r.extract (k + q) r.size).data.toList = r.data.toList.drop (k + j + m2)) := by
              show _ = _
              rw [drop_ext, HQq.out, Nat.add_assoc]
            have hrx : (r.extract (k + q) r.size).size ≤ s.size := by rw [ByteArray.size_extract]; omega
            have q3 : ¬ 100 < m2 + m := by omega
            go_wp2_with (at_builtin; refine wpList_append_own _ rfl _ _ 108 rfl w.heap.size 9 iv (.string ⟨#[]⟩) 1 16 Tryz.underlying108 hvi hv0 hv1 hv2 rfl (by decide) _ (scells ts).length (scells ts) rfl (HO.out.alloc _) ⟨_, 0, none⟩ 1 1 [.string (t.extract 0 m ++ x)] rfl rfl (cell_one_new _ _ _) (by intro u hu; simp at hu; subst hu; rfl) (by unfold maxLen; omega) (by omega) (by have := hb.size; simp; omega) ?_; intro v' w3 hown3 hgrow3 _; have HO3 : Hid _ := hown3; have hb3 : Below w.heap.size w w3 := (hb.alloc hb.size _).grown hgrow3 (by have := hb.size; simp; omega) (fun k hk => (HO.out.lt k hk).1))
            go_roundw
            case rel =>
              refine ⟨i + 1, r.extract (k + q) r.size, t.extract 0 m ++ x, ts ++ [t.extract 0 m ++ x], by omega, by go_num, rfl, rfl, hrx, HES.out, by show _ = _; rw [List.length_append, HTL.out]; rfl, fun u hu => ?_, fun ss h => ?_, by rw [scells_snoc, List.length_append]; exact HO3, hb3⟩
              · rcases List.mem_append.1 hu with hu | hu
                · exact HU.out u hu
                · rw [List.mem_singleton.1 hu]; exact HES.out
              · obtain ⟨_, tl, h2, h3⟩ := HSt.out ss h
                exact ⟨tl, by rw [bys_snoc, HE.out]; exact h2, by rw [HE.out, HRX.out]; exact h3⟩
            case measure => simp [intOf]; omega
          · have HNo : Hid (Um.rdp n [] s.data.toList = none) := no_some fun ss h => by
              obtain ⟨⟨_, _, _, _, h5⟩, _⟩ := HSt.out ss h
              rw [List.length_append, List.length_take, List.length_take, List.length_drop, Array.length_toList, Array.length_toList] at h5
              have e1 : r.size = r.data.size := rfl
              have e2 : t.size = t.data.size := rfl
              omega
            have q3 : 100 < m2 + m := by omega
            go_wp2
            go_ret2
            exact ⟨Or.inr ⟨HNo.out, [], none, 0, Nat.zero_le _, rfl, fun j h => absurd h (Nat.not_lt_zero _)⟩, hb⟩
        · have HNo : Hid (Um.rdp n [] s.data.toList = none) := no_some fun ss h => by
            obtain ⟨⟨_, _, h3, h4, h5⟩, _⟩ := HSt.out ss h
            exact hfit ⟨h3, h4⟩
          have hlong := readLong_miss (r.extract k r.size) wr m2 j (by rw [HXS.out]; omega) HQ2.out (by rw [HXS.out]; omega)
          clear hfit
          go_wp2_with fail
          refine hlong.mono ?_
          clear hlong
          rintro e w1 ⟨rfl, hw⟩
          obtain rfl := hw.symm
          go_wp2
          go_ret2
          exact ⟨Or.inr ⟨HNo.out, [], none, 0, Nat.zero_le _, rfl, fun j h => absurd h (Nat.not_lt_zero _)⟩, hb⟩
      · have HNo : Hid (Um.rdp n [] s.data.toList = none) := no_some fun ss h => by
          obtain ⟨⟨h1, h2, _⟩, _⟩ := HSt.out ss h
          exact hgo ⟨h1, h2⟩
        have hcase : ((k : Int) == 0) = true ∨ (((k : Int) == 0) = false ∧ t.size < m) := by
          by_cases h1 : k = 0
          · left; simp; omega
          · right; exact ⟨by simp; omega, by omega⟩
        clear hgo
        rcases hcase with q1 | ⟨q1, q2⟩
        all_goals
          go_wp2
          go_ret2
          exact ⟨Or.inr ⟨HNo.out, [], none, 0, Nat.zero_le _, rfl, fun j h => absurd h (Nat.not_lt_zero _)⟩, hb⟩
    · obtain rfl : i = n := by omega
      obtain ⟨a2, c2, rfl, hl2⟩ := liesS_own HO.out
      have HL2 : Hid (LiesS wr a2 ts) := hl2
      clear hl2
      have hpl := prefixOf_any a2 ts c2 wr (by rw [HTL.out]; exact hn) HL2.out HU.out
      obtain ⟨pb, HPB⟩ : ∃ pb, Hid (pb = Um.prefs [] (bys ts)) := ⟨_, rfl⟩
      rw [← HPB.out] at hpl
      go_wp2_with fail
      refine hpl.mono ?_
      clear hpl
      rintro e w3 ⟨rfl, hb3⟩
      have HL3 : Hid (LiesS w3 a2 ts) := LiesS.keep HL2.out hb3
      have hb13 := hb.trans (hb3.mono hb.size)
      by_cases hq : mk pb = s
      · have HY : Hid (Um.rdp i [] s.data.toList = some (bys ts)) := by
          show _ = _
          have h := Um.rdp_back (bys ts) [] (by simp) (fun u hu => bys_le HU.out u hu)
          rw [bys_len, HTL.out, ← HPB.out] at h
          rw [← hq, mk_list]
          exact h
        rw [hq]
        clear hq
        go_wp2
        go_ret2
        exact ⟨Or.inl ⟨bys ts, a2, c2, HY.out, by rw [bys_len]; rfl, by rw [bys_mk]; exact HL3.out⟩, hb13⟩
      · have HNo : Hid (Um.rdp i [] s.data.toList = none) := no_some fun ss h => hq (by
          obtain ⟨tl, rfl, h2⟩ := HRD.out ss h
          rw [Nat.sub_self, Um.rdp] at h2
          have h3 := (Um.rdp_some _ _ _ _ h).2.2
          split at h2
          · obtain rfl := Option.some.inj h2
            rw [List.append_nil, ← HPB.out] at h3
            rw [h3]
            exact mk_bytes s
          · cases h2)
        have hq2 : ((mk pb).toList == s.toList) = false := by simp only [beq_eq_false_iff_ne, ne_eq]; exact fun h => hq (str_ext h)
        clear hq
        generalize mk pb = t at *
        go_wp2
        go_ret2
        exact ⟨Or.inr ⟨HNo.out, ts, a2, c2, by rw [HTL.out]; exact hn, rfl, HL3.out⟩, hb13⟩
end Go.Proofs.YteeheodcejeloaaGreatDoor

namespace Go.Proofs.YteeheodcejeloaaGreatDoor
open Go.RowKit
/-- The same, in new memory. -/
def RetBsC (N : Nat) (kd code : Int) (l : List UInt8) (n : Nat) (e : Ending) (w' : World) : Prop :=
  (HasC kd code ∧ ∃ vs a c, IsBs kd code l n vs ∧ e = .returned (.tuple #[.slice a vs.length c, .int .i64 0]) ∧ LiesV w' a vs ∧ Fsh N a) ∨ (HasC kd code ∧ (¬ ∃ vs, IsBs kd code l n vs) ∧ e = .returned (.tuple #[.slice none 0 0, .int .i64 1])) ∨ (¬ HasC kd code ∧ e = .returned (.tuple #[.slice none 0 0, .int .i64 3]))
/-- Texts as values. -/
def tvb (ts : List ByteArray) : List Vl := ts.map fun t => ⟨4, 0, t⟩
theorem tvb_len (ts : List ByteArray) : (tvb ts).length = ts.length := by simp [tvb]
theorem tvb_snoc (ts : List ByteArray) (i : Nat) (h : i < ts.length) : tvb (ts.take (i + 1)) = tvb (ts.take i) ++ [⟨4, 0, ts[i]⟩] := by
  rw [List.take_succ_eq_append_getElem h]
  unfold tvb
  rw [List.map_append]
  rfl
theorem tvb_pvs (ss : List (List UInt8)) : tvb (ss.map mk) = pvs ss := by simp [tvb, pvs]
set_option maxRecDepth 100000 in
set_option maxHeartbeats 1600000 in
theorem bsOf_three (kd : Int) (code : Int) (s : ByteArray) (n : Nat) (w : World) (hs : s.size ≤ 3000) (hn : n ≤ 20000) (hk1 : 1 ≤ kd) (hk5 : kd ≤ 5) (hc : code = 0 ∨ code = 1 ∨ code = 2 ∧ (kd = 2 ∨ kd = 3)) :
    Calls Tryz.prog 28 #[.int .i64 kd, .int .i64 code, .string s, .int .i64 n] w fun e w' => RetBsC w.heap.size kd code s.data.toList n e w' ∧ Below w.heap.size w w' := by
  have HH : Hid (HasC kd code) := by
    rcases hc with h | h | h
    · exact Or.inl h
    · exact Or.inr (Or.inl h)
    · exact Or.inr (Or.inr (Or.inl h))
  rcases hc with rfl | rfl | ⟨rfl, hk⟩
  · have HC : Hid _ := plOf_c kd s n w hs hn hk1 hk5
    go_enter Tryz.func28, Tryz.ntmps28
    go_wp2_with fail
    refine Calls.mono HC.out ?_
    rintro e w1 ⟨⟨vs, a, c, hI, rfl, hl⟩ | ⟨hI, a, m, c, rfl⟩, hb⟩
    all_goals
      have HI : Hid _ := hI
      try have HL : Hid _ := hl
      try clear hl
      clear hI
      go_wp2
      go_ret2
      first | exact ⟨Or.inl ⟨HH.out, vs, a, c, HI.out, rfl, HL.out⟩, hb⟩ | exact ⟨Or.inr (Or.inl ⟨HH.out, HI.out, rfl⟩), hb⟩
  · have HC : Hid _ := dcOf_c kd s n w hs hn hk1 hk5
    go_enter Tryz.func28, Tryz.ntmps28
    go_wp2_with fail
    refine Calls.mono HC.out ?_
    rintro e w1 ⟨⟨vs, a, c, hI, rfl, hl⟩ | ⟨hI, a, m, c, rfl⟩, hb⟩
    all_goals
      have HI : Hid _ := hI
      try have HL : Hid _ := hl
      try clear hl
      clear hI
      go_wp2
      go_ret2
      first | exact ⟨Or.inl ⟨HH.out, vs, a, c, HI.out, rfl, HL.out⟩, hb⟩ | exact ⟨Or.inr (Or.inl ⟨HH.out, HI.out, rfl⟩), hb⟩
  · have HC : Hid _ := dlOf_c kd s n w hs hn
    have hcs : (kd == 2) = true ∨ ((kd == 2) = false ∧ (kd == 3) = true) := by rcases hk with rfl | rfl <;> simp
    clear hk
    rcases hcs with q | ⟨q, q'⟩
    all_goals
      go_enter Tryz.func28, Tryz.ntmps28
      go_wp2_with fail
      refine Calls.mono HC.out ?_
      rintro e w1 ⟨⟨vs, a, c, hI, rfl, hl⟩ | ⟨hI, a, m, c, rfl⟩, hb⟩
      all_goals
        have HI : Hid _ := hI
        try have HL : Hid _ := hl
        try clear hl
        clear hI
        go_wp2
        go_ret2
        first | exact ⟨Or.inl ⟨HH.out, vs, a, c, HI.out, rfl, HL.out⟩, hb⟩ | exact ⟨Or.inr (Or.inl ⟨HH.out, HI.out, rfl⟩), hb⟩
set_option maxRecDepth 100000 in
set_option maxHeartbeats 1600000 in
theorem bsOf_four (s : ByteArray) (n : Nat) (w : World) (hs : s.size ≤ 3000) (hn : n ≤ 20000) :
    Calls Tryz.prog 28 #[.int .i64 4, .int .i64 3, .string s, .int .i64 n] w fun e w' => RetBsC w.heap.size 4 3 s.data.toList n e w' ∧ Below w.heap.size w w' := by
  obtain ⟨iv, hvi, hv0, hv1, hv2⟩ := info_parts Tryz.infoV
  have HH : Hid (HasC 4 3) := Or.inr (Or.inr (Or.inr ⟨rfl, rfl⟩))
  have HC : Hid _ := prOf_any s n w hs hn
  go_enter Tryz.func28, Tryz.ntmps28
  go_wp2_with fail
  refine Calls.mono HC.out ?_
  clear HC
  intro e w1 hret
  have key : ∃ (ts : List ByteArray) (a : Option Addr) (c : Nat) (b : Bool), e = .returned (.tuple #[.slice a ts.length c, .bool b]) ∧ ts.length ≤ 20000 ∧ LiesS w1 a ts ∧ (b = true → IsPr s.data.toList n (tvb ts)) ∧ (b = false → ¬ ∃ vs, IsPr s.data.toList n vs) := by
    rcases hret.1 with ⟨ss, a, c, ho, rfl, hl⟩ | ⟨ho, ts, a, c, h1, rfl, hl⟩
    · refine ⟨ss.map mk, a, c, true, by rw [List.length_map], ?_, hl, (fun _ => ⟨ss, ho, tvb_pvs ss⟩), (fun h => by cases h)⟩
      rw [List.length_map, (Um.rdp_some _ _ _ _ ho).1]
      exact hn
    · exact ⟨ts, a, c, false, rfl, h1, hl, (fun h => by cases h), (fun _ ⟨vs, ss, h, _⟩ => by rw [ho] at h; cases h)⟩
  have hb1 := hret.2
  clear hret
  obtain ⟨ts, a, c, b, rfl, htl, hl, hY, hN⟩ := key
  have HL : Hid (LiesS w1 a ts) := hl
  have HY : Hid (b = true → IsPr s.data.toList n (tvb ts)) := hY
  have HN : Hid (b = false → ¬ ∃ vs, IsPr s.data.toList n vs) := hN
  clear hl hY hN
  go_wp2_with fail
  go_loopw [10, 13] (fun o x wr => ∃ i : Nat, i ≤ ts.length ∧ x = .int .i64 i ∧ Hid (VOw w1 o wr (tvb (ts.take i)))) (fun _ x _ => ts.length - (intOf x).toNat)
  case atStart => exact ⟨0, Nat.zero_le _, rfl, VOw.start w1⟩
  case round =>
    obtain ⟨i, hik, rfl, HV⟩ := hrel
    have hb := HV.out.old
    have hbb := hb1.trans (hb.mono hb1.size)
    by_cases hlt : i < ts.length
    · obtain ⟨b2, o2, rfl, hc⟩ := (LiesS.keep HL.out hb) i hlt
      have HSn : Hid (tvb (ts.take (i + 1)) = tvb (ts.take i) ++ [⟨4, 0, ts[i]⟩]) := tvb_snoc ts i hlt
      have HTL : Hid ((tvb (ts.take i)).length = i) := by show _ = _; rw [tvb_len, List.length_take]; omega
      generalize ts[i] = t at *
      generalize tvb (ts.take i) = vs at *
      go_wp2_with (at_builtin; refine wpList_append_own _ rfl _ _ 27 rfl w1.heap.size 41 iv (.agg #[.int .i64 0, .int .i64 0, .string ⟨#[]⟩]) 3 32 Tryz.underlying27 hvi hv0 hv1 hv2 rfl (by decide) _ vs.length (vcells vs) rfl (HV.out.row.alloc _) ⟨_, 0, none⟩ 1 1 [.int .i64 4, .int .i64 0, .string t] rfl rfl three_cells (by intro u hu; simp at hu; rcases hu with rfl | rfl | rfl <;> rfl) (by have := HTL.out; unfold maxLen; omega) (by have := HTL.out; omega) (by have := HV.out.old.size; simp at this ⊢; omega) ?_; intro v1 w6 hown1 hgrow1 _; have HV2 : Hid (VOw w1 v1 w6 (vs ++ [⟨4, 0, t⟩])) := HV.out.push (v := ⟨4, 0, t⟩) hown1 hgrow1)
      go_roundw
      case rel => exact ⟨i + 1, by omega, by go_num, by rw [HSn.out]; exact HV2⟩
      case measure => simp [intOf]; omega
    · obtain rfl : i = ts.length := by omega
      rw [List.take_length] at HV
      obtain ⟨a4, c4, rfl, hl4⟩ := liesV_own HV.out.row
      have HFs : Hid (Fsh w.heap.size a4) := (own_capS HV.out.row _ _ _ rfl).2.low hb1.size
      have HL4 : Hid (LiesV wr a4 (tvb ts)) := hl4
      clear hl4
      cases b with
      | true =>
        have HY2 : Hid (IsPr s.data.toList n (tvb ts)) := HY.out rfl
        clear HY HN
        go_wp2
        go_ret2
        exact ⟨Or.inl ⟨HH.out, tvb ts, a4, c4, HY2.out, rfl, HL4.out, HFs.out⟩, hbb⟩
      | false =>
        have HN2 : Hid (¬ ∃ vs, IsPr s.data.toList n vs) := HN.out rfl
        clear HY HN
        go_wp2
        go_ret2
        exact ⟨Or.inr (Or.inl ⟨HH.out, HN2.out, rfl⟩), hbb⟩
set_option maxRecDepth 100000 in
set_option maxHeartbeats 1600000 in
theorem bsOf_shape (kd : Int) (code : Int) (s : ByteArray) (n : Nat) (w : World) (hc : ¬ HasC kd code) :
    Calls Tryz.prog 28 #[.int .i64 kd, .int .i64 code, .string s, .int .i64 n] w fun e w' => RetBsC w.heap.size kd code s.data.toList n e w' ∧ Below w.heap.size w w' := by
  have HH : Hid (¬ HasC kd code) := hc
  have c0 : (code == 0) = false := by rw [beq_eq_false_iff_ne]; exact fun h => hc (Or.inl h)
  have c1 : (code == 1) = false := by rw [beq_eq_false_iff_ne]; exact fun h => hc (Or.inr (Or.inl h))
  have hcase : ((code == 2) = true ∧ (code == 3) = false ∧ (kd == 2) = false ∧ (kd == 3) = false) ∨ ((code == 2) = false ∧ (code == 3) = true ∧ (kd == 4) = false) ∨ ((code == 2) = false ∧ (code == 3) = false) := by
    unfold HasC at hc
    by_cases h2 : code = 2
    · left
      exact ⟨by simp [h2], by simp [h2], by rw [beq_eq_false_iff_ne]; exact fun h => hc (Or.inr (Or.inr (Or.inl ⟨h2, Or.inl h⟩))), by rw [beq_eq_false_iff_ne]; exact fun h => hc (Or.inr (Or.inr (Or.inl ⟨h2, Or.inr h⟩)))⟩
    · right
      by_cases h3 : code = 3
      · left
        exact ⟨by simp [h3], by simp [h3], by rw [beq_eq_false_iff_ne]; exact fun h => hc (Or.inr (Or.inr (Or.inr ⟨h3, h⟩)))⟩
      · right
        exact ⟨by rw [beq_eq_false_iff_ne]; exact h2, by rw [beq_eq_false_iff_ne]; exact h3⟩
  clear hc
  rcases hcase with ⟨c2, c3, hd, hd'⟩ | ⟨c2, c3, hd⟩ | ⟨c2, c3⟩
  all_goals
    go_enter Tryz.func28, Tryz.ntmps28
    go_wp2
    go_ret2
    exact ⟨Or.inr (Or.inr ⟨HH.out, rfl⟩), Below.refl _ _⟩
theorem bsOf_c (kd : Int) (code : Int) (s : ByteArray) (n : Nat) (w : World) (hs : s.size ≤ 3000) (hn : n ≤ 20000) (hk1 : 1 ≤ kd) (hk5 : kd ≤ 5) :
    Calls Tryz.prog 28 #[.int .i64 kd, .int .i64 code, .string s, .int .i64 n] w fun e w' => RetBsC w.heap.size kd code s.data.toList n e w' ∧ Below w.heap.size w w' := by
  by_cases hc : HasC kd code
  · rcases hc with h | h | h | ⟨rfl, rfl⟩
    · exact bsOf_three kd code s n w hs hn hk1 hk5 (Or.inl h)
    · exact bsOf_three kd code s n w hs hn hk1 hk5 (Or.inr (Or.inl h))
    · exact bsOf_three kd code s n w hs hn hk1 hk5 (Or.inr (Or.inr h))
    · exact bsOf_four s n w hs hn
  · exact bsOf_shape kd code s n w hc
end Go.Proofs.YteeheodcejeloaaGreatDoor
