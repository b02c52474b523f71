/-
  The reference's ReadDictOf: the values that bytes are, by unlike ones and their places.
-/
import Derived.Test.YtmhkpnmifhfboaaGreatDoorMBRdDelta
import Derived.Test.YtmhkpnmifhfboaaGreatDoorMBDict
import Derived.Test.YtmhkpnmifhfboaaGreatDoorMRunsRd
import Derived.Test.YtmhkpnmifhfboaaGreatDoorMDictOf
import Derived.Test.YtmhkpnmifhfboaaGreatDoorMBSmall
namespace Go.Proofs.YtmhkpnmifhfboaaGreatDoor
open Go.RowKit
theorem atp_snoc (us : List Vl) (ps : List Nat) (i : Nat) (hi : i < ps.length) (hp : ps[i] < us.length) : atp us (ps.take (i + 1)) = atp us (ps.take i) ++ [us[ps[i]]] := by
  rw [List.take_succ_eq_append_getElem hi]
  unfold atp
  rw [List.map_append]
  congr 1
  simp [List.getD, hp]
theorem atp_take_len (us : List Vl) (ps : List Nat) (i : Nat) (hi : i ≤ ps.length) : (atp us (ps.take i)).length = i := by rw [atp_len, List.length_take]; omega
/-- How a dictionary's bytes are none. -/
theorem notDc {kd : Int} {l : List UInt8} {n : Nat} (h : ∀ us e, ¬ IsUn kd l n us e) : ¬ ∃ vs, IsDc kd l n vs := fun ⟨_, us, e, _, h1, _⟩ => h us e h1
set_option maxRecDepth 100000 in
set_option maxHeartbeats 3200000 in
theorem dcOf_any (kd : Int) (s : ByteArray) (n : Nat) (w : World) (hs : s.size ≤ 1000) (hn : n ≤ 20000) (hk1 : 1 ≤ kd) (hk5 : kd ≤ 5) :
    Calls Tryz.prog 23 #[.int .i64 kd, .string s, .int .i64 n] w fun e w' => RetOk (IsDc kd s.data.toList n) e w' ∧ Below w.heap.size w w' := by
  obtain ⟨iv, hvi, hv0, hv1, hv2⟩ := info_parts Tryz.infoV
  have HLen : Hid (s.data.toList.length = s.size) := Array.length_toList
  generalize hp : Um.rdv s.data.toList 0 0 = p
  obtain ⟨m, k⟩ := p
  have HP : Hid (Um.rdv s.data.toList 0 0 = (m, k)) := hp
  have hroom := Um.rdv_room s.data.toList 0 0 (by simp)
  rw [hp, HLen.out] at hroom
  obtain ⟨hm64, hk10, hkl⟩ := hroom
  simp only at hm64 hk10 hkl
  clear hp
  have hs7 := readSeven_any s w (by unfold maxLen; omega)
  rw [HP.out] at hs7
  have hwn : IntKind.u64.wrap (n : Int) = n := by rw [IntKind.wrap_u64]; omega
  go_enter Tryz.func23, Tryz.ntmps23
  go_wp2_with fail
  refine hs7.mono ?_
  clear hs7
  rintro e w1 ⟨rfl, hw⟩
  obtain rfl := hw.symm
  by_cases hgo : 0 < k ∧ m ≤ n
  rotate_left
  · have HNo : Hid (¬ ∃ vs, IsDc kd s.data.toList n vs) := notDc fun us u ⟨m', k', z', j', q1, q2, q3, _⟩ => by
      rw [HP.out] at q1
      obtain ⟨rfl, rfl⟩ := Prod.mk.injEq .. ▸ q1
      exact hgo ⟨q2, q3⟩
    have hcase : ((k : Int) == 0) = true ∨ (((k : Int) == 0) = false ∧ n < m) := by
      by_cases h1 : k = 0
      · left; simp; omega
      · right; exact ⟨by simp; omega, by omega⟩
    clear hgo
    rcases hcase with q1 | ⟨q1, q2⟩
    all_goals go_wp2
    all_goals go_ret2
    all_goals exact ⟨Or.inr ⟨HNo.out, _, _, _, rfl⟩, Below.refl _ _⟩
  obtain ⟨hk0, hmn⟩ := hgo
  have q1 : ((k : Int) == 0) = false := by simp; omega
  have q2 : ¬ n < m := by omega
  generalize hp : Um.rdv (s.data.toList.drop k) 0 0 = p
  obtain ⟨z, j⟩ := p
  have HQ : Hid (Um.rdv (s.data.toList.drop k) 0 0 = (z, j)) := hp
  have hroom := Um.rdv_room (s.data.toList.drop k) 0 0 (by simp)
  rw [hp, List.length_drop, HLen.out] at hroom
  obtain ⟨hz64, hj10, hjl⟩ := hroom
  simp only at hz64 hj10 hjl
  clear hp
  have hks : k ≤ s.size := by omega
  obtain ⟨s1, hs1e⟩ : ∃ s1, s.extract k s.size = s1 := ⟨_, rfl⟩
  have HS1 : Hid (s1.data.toList = s.data.toList.drop k) := by show _ = _; rw [← hs1e]; exact drop_ext s k
  have HZ1 : Hid (s1.size = s.size - k) := by show _ = _; rw [← hs1e, ByteArray.size_extract]; omega
  have HQ1 : Hid (Um.rdv s1.data.toList 0 0 = (z, j)) := by show _ = _; rw [HS1.out]; exact HQ.out
  by_cases hfit : 0 < j ∧ j + z ≤ s1.size
  rotate_left
  · have HNo : Hid (¬ ∃ vs, IsDc kd s.data.toList n vs) := notDc fun us u ⟨m', k', z', j', q1, q2, q3, q4, q5, q6, _⟩ => by
      rw [HP.out] at q1
      obtain ⟨rfl, rfl⟩ := Prod.mk.injEq .. ▸ q1
      rw [HQ.out] at q4
      obtain ⟨rfl, rfl⟩ := Prod.mk.injEq .. ▸ q4
      rw [HLen.out] at q6
      exact hfit ⟨q5, by rw [HZ1.out]; omega⟩
    have hlong := readLong_miss s1 w z j (by rw [HZ1.out]; omega) HQ1.out (by omega)
    clear hfit
    go_wp2_with fail
    refine hlong.mono ?_
    clear hlong
    rintro e w1 ⟨rfl, hw⟩
    obtain rfl := hw.symm
    go_wp2
    go_ret2
    exact ⟨Or.inr ⟨HNo.out, _, _, _, rfl⟩, Below.refl _ _⟩
  obtain ⟨hj0, hfit⟩ := hfit
  have hlong := readLong_hit s1 w z j (by rw [HZ1.out]; omega) HQ1.out hj0 hfit
  obtain ⟨t, hte⟩ : ∃ t, s1.extract j (j + z) = t := ⟨_, rfl⟩
  have HTL : Hid (t.data.toList = (s.data.toList.drop (k + j)).take z) := by show _ = _; rw [← hte, ext_take, HS1.out, List.drop_drop]
  have HTZ : Hid (t.size ≤ 1000) := by show _ ≤ _; rw [← hte, ByteArray.size_extract, HZ1.out]; omega
  rw [hte] at hlong
  have hwm : IntKind.i64.wrap (m : Int) = (m : Int) := by rw [IntKind.wrap_i64]; omega
  obtain ⟨y, HY⟩ : ∃ y, Hid (y = j + z) := ⟨_, rfl⟩
  have hyi : (j : Int) + (z : Int) = (y : Int) := by rw [HY.out]; omega
  have q3 : ((y : Int) == 0) = false := by simp; have := HY.out; omega
  rw [hyi] at hlong
  clear hte
  go_wp2_with fail
  refine hlong.mono ?_
  clear hlong
  rintro e w1 ⟨rfl, hw⟩
  obtain rfl := hw.symm
  have hpl := plOf_any kd t m w HTZ.out (by omega) hk1 hk5
  rw [HTL.out] at hpl
  go_wp2_with fail
  refine hpl.mono ?_
  clear hpl
  rintro e w1 ⟨⟨us, a1, c1, hI, rfl, hl1⟩ | ⟨hI, a1, n1, c1, rfl⟩, hb1⟩
  rotate_left
  · have HNo : Hid (¬ ∃ vs, IsDc kd s.data.toList n vs) := notDc fun us u ⟨m', k', z', j', q1, q2, q3, q4, q5, q6, q7, _⟩ => by
      rw [HP.out] at q1
      obtain ⟨rfl, rfl⟩ := Prod.mk.injEq .. ▸ q1
      rw [HQ.out] at q4
      obtain ⟨rfl, rfl⟩ := Prod.mk.injEq .. ▸ q4
      exact hI ⟨us, q7⟩
    clear hI
    go_wp2
    go_ret2
    exact ⟨Or.inr ⟨HNo.out, _, _, _, rfl⟩, hb1⟩
  have HUL : Hid (us.length = m) := hI.1
  have HI : Hid (IsUn kd s.data.toList n us (k + y)) := ⟨m, k, z, j, HP.out, hk0, hmn, HQ.out, hj0, by rw [HLen.out]; have := HZ1.out; omega, hI, by rw [HY.out]; omega⟩
  have HL1 : Hid (LiesV w1 a1 us) := hl1
  clear hI hl1
  have hul : us.length ≤ 20000 := by rw [HUL.out]; omega
  have hky : k + y ≤ s.size := by have := HZ1.out; have := HY.out; omega
  obtain ⟨f, HF⟩ : ∃ f, Hid (f = k + y) := ⟨_, rfl⟩
  have hfi : (k : Int) + (y : Int) = (f : Int) := by rw [HF.out]; omega
  have hfs : f ≤ s.size := by rw [HF.out]; exact hky
  obtain ⟨s2, hs2e⟩ : ∃ s2, s.extract f s.size = s2 := ⟨_, rfl⟩
  have HS2 : Hid (s2.data.toList = s.data.toList.drop (k + y)) := by show _ = _; rw [← hs2e, drop_ext, HF.out]
  have hs2z : s2.size ≤ 1000 := by rw [← hs2e, ByteArray.size_extract]; omega
  have HPW : Hid (∀ W : World, Calls Tryz.prog 50 #[.int .i64 (m : Nat)] W fun e w' => e = .returned (.int .i64 (Um.pw us.length : Nat)) ∧ w' = W) := by
    rw [HUL.out]
    exact fun W => placeWidthR_any m W (by omega)
  have HRR : Hid (∀ W : World, Calls Tryz.prog 49 #[.string s2, .int .i64 (Um.pw us.length : Nat), .int .i64 (n : Nat)] W fun e w' => RetOf (Um.runs (s.data.toList.drop (k + y)) (Um.pw us.length) n) e w' ∧ Below W.heap.size W w') := fun W => by
    have h := readRunsOf_any s2 (Um.pw us.length) n W hs2z (Um.pw_le hul) hn
    rw [HS2.out] at h
    exact h
  have HSZ : Hid ((s.data.toList.drop (k + y)).length = s2.size) := by show _ = _; rw [← HS2.out]; exact Array.length_toList
  go_wp2_with fail
  refine (HPW.out _).mono ?_
  rintro e w2 ⟨rfl, hw⟩
  obtain rfl := hw.symm
  go_wp2_with fail
  obtain ⟨R, HR⟩ : ∃ R, Hid (R = Um.runs (s.data.toList.drop (k + y)) (Um.pw us.length) n) := ⟨_, rfl⟩
  rw [← HR.out] at HRR
  refine (HRR.out _).mono ?_
  clear HRR HPW
  cases R with
  | none =>
    have HNo : Hid (¬ ∃ vs, IsDc kd s.data.toList n vs) := fun ⟨vs, us', u', ps', h, h2, h3⟩ => by
      obtain ⟨rfl, rfl⟩ := isUn_fn HI.out h
      rw [← HR.out] at h2
      cases h2
    rintro e w3 ⟨rfl, hb3⟩
    have hne : ((-1 : Int) != (s2.size : Int)) = true := by simp
    go_wp2
    go_ret2
    exact ⟨Or.inr ⟨HNo.out, _, _, _, rfl⟩, hb1.trans (hb3.mono hb1.size)⟩
  | some rr =>
    obtain ⟨ps, u⟩ := rr
    have HRE : Hid (∀ vs us' u' ps', IsUn kd s.data.toList n us' u' → Um.runs (s.data.toList.drop u') (Um.pw us'.length) n = some (ps', (s.data.toList.drop u').length) → Uq vs us' ps' → us' = us ∧ ps' = ps ∧ u = s2.size) := fun vs us' u' ps' h h2 h3 => by
      obtain ⟨rfl, rfl⟩ := isUn_fn HI.out h
      rw [← HR.out] at h2
      simp only [Option.some.injEq, Prod.mk.injEq] at h2
      refine ⟨rfl, h2.1.symm, ?_⟩
      rw [h2.2, HSZ.out]
    have HPL : Hid (ps.length = n) := Um.runs_length HR.out.symm
    rintro e w3 ⟨⟨a3, c3, rfl, hl3⟩, hb3⟩
    have hb13 := hb1.trans (hb3.mono hb1.size)
    have HL3 : Hid (∀ j (h : j < ps.length), ∃ b o, a3 = some ⟨b, o, none⟩ ∧ w3.cell? ⟨b, o + j, none⟩ = some (.int .i64 (ps[j] : Nat))) := fun j h => by
      obtain ⟨b, o, e, hc⟩ := hl3 j (by rw [nvals_len]; exact h)
      refine ⟨b, o, e, ?_⟩
      rw [hc]
      simp [nvals, i64s]
    have HLU : Hid (LiesV w3 a1 us) := LiesV.keep HL1.out hb3
    clear hl3
    by_cases hu : u = s2.size
    rotate_left
    · have hne : ((u : Int) != (s2.size : Int)) = true := by simp; omega
      have HNo : Hid (¬ ∃ vs, IsDc kd s.data.toList n vs) := fun ⟨vs, us', u', ps', h, h2, h3⟩ => hu (HRE.out vs us' u' ps' h h2 h3).2.2
      clear hu
      go_wp2
      go_ret2
      exact ⟨Or.inr ⟨HNo.out, _, _, _, rfl⟩, hb13⟩
    have hne : ((u : Int) != (s2.size : Int)) = false := by simp; omega
    have HU : Hid (u = s2.size) := hu
    have hpl2 : ps.length ≤ 20000 := by rw [HPL.out]; exact hn
    clear hu
    go_wp2_with fail
    go_loopw [17, 18] (fun o x wr => ∃ i : Nat, i ≤ ps.length ∧ x = .int .i64 i ∧ Hid (∀ j (h : j < ps.length), j < i → ps[j] < us.length) ∧ Hid (VOw w3 o wr (atp us (ps.take i)))) (fun _ x _ => ps.length - (intOf x).toNat)
    case atStart => exact ⟨0, Nat.zero_le _, rfl, fun j _ h => absurd h (Nat.not_lt_zero _), VOw.start w3⟩
    case round =>
      obtain ⟨i, hik, rfl, HA, HV⟩ := hrel
      have hb := HV.out.old
      have hbb := hb13.trans (hb.mono hb13.size)
      by_cases hlt : i < ps.length
      · obtain ⟨b2, o2, rfl, hc0⟩ := HL3.out i hlt
        have hc := (hb.cell (World.block_lt_of_cell? w3 _ hc0)).trans hc0
        have HP2 : Hid (∀ h : i < ps.length, ps[i] = ps[i]'hlt) := fun _ => rfl
        have HSn : Hid (∀ h : ps[i] < us.length, atp us (ps.take (i + 1)) = atp us (ps.take i) ++ [us[ps[i]]]) := fun h => atp_snoc us ps i hlt h
        have HTL2 : Hid ((atp us (ps.take i)).length = i) := atp_take_len us ps i hik
        clear hc0
        generalize ps[i]'hlt = p at *
        by_cases hpu : p < us.length
        · obtain ⟨b1, o1, rfl, d0, d1, d2⟩ := (LiesV.keep HLU.out hb) p hpu
          have HSn2 : Hid _ := HSn.out hpu
          have HA2 : Hid (∀ j (h : j < ps.length), j < i + 1 → ps[j] < us.length) := fun j h hj => by
            by_cases e : j = i
            · subst e; rw [HP2.out h]; exact hpu
            · exact HA.out j h (by omega)
          have hpu3 : ¬ us.length ≤ p := by omega
          generalize us[p] = v at *
          generalize atp us (ps.take i) = vs at *
          go_wp2_with (at_builtin; refine wpList_append_own _ rfl _ _ 26 rfl w3.heap.size 40 iv (.agg #[.int .i64 0, .int .i64 0, .string ⟨#[]⟩]) 3 32 Tryz.underlying26 hvi hv0 hv1 hv2 rfl (by decide) _ vs.length (vcells vs) rfl (HV.out.row.alloc _) ⟨_, 0, none⟩ 1 1 [.int .i64 v.k, .int .i64 v.n, .string v.s] rfl rfl three_cells (by intro u hu; simp at hu; rcases hu with rfl | rfl | rfl <;> rfl) (by have := HTL2.out; unfold maxLen; omega) (by have := HTL2.out; omega) (by have := HV.out.old.size; simp at this ⊢; omega) ?_; intro v1 w6 hown1 hgrow1 _; have HV2 : Hid (VOw w3 v1 w6 (vs ++ [v])) := HV.out.push hown1 hgrow1)
          go_roundw
          case rel => exact ⟨i + 1, by omega, by go_num, HA2, by rw [HSn2.out]; exact HV2⟩
          case measure => simp [intOf]; omega
        · have HNo : Hid (¬ ∃ vs, IsDc kd s.data.toList n vs) := fun ⟨vs, us', u', ps', h, h2, h3⟩ => hpu (by
            obtain ⟨rfl, rfl, _⟩ := HRE.out vs us' u' ps' h h2 h3
            have h4 := h3.lt (ps'[i]'hlt) (List.getElem_mem hlt)
            rw [HP2.out hlt] at h4
            exact h4)
          have hpu3 : us.length ≤ p := by omega
          go_wp2
          go_ret2
          exact ⟨Or.inr ⟨HNo.out, _, _, _, rfl⟩, hbb⟩
      · obtain rfl : i = ps.length := by omega
        rw [List.take_length] at HV
        have HPB : Hid (∀ p ∈ ps, p < us.length) := fun p hp => by
          obtain ⟨j, hj, rfl⟩ := List.getElem_of_mem hp
          exact HA.out j hj hj
        obtain ⟨a4, c4, rfl, hl4⟩ := liesV_own HV.out.row
        have HL4 : Hid (LiesV wr a4 (atp us ps)) := hl4
        clear hl4
        have hun := unlikeOf_any a4 (atp us ps) c4 wr (by rw [atp_len]; exact hpl2) HL4.out
        go_wp2_with fail
        refine hun.mono ?_
        clear hun
        rintro e w7 ⟨⟨us', ps', a8, c8, a9, c9, hUq, rfl, hl8, _⟩, hb7⟩
        have HUq : Hid (Uq (atp us ps) us' ps') := hUq
        have hul8 : us'.length ≤ 20000 := by have := hUq.len.2; rw [atp_len] at this; omega
        have HL8 : Hid (LiesV w7 a8 us') := hl8
        have HL47 : Hid (LiesV w7 a4 (atp us ps)) := LiesV.keep HL4.out hb7
        have hb17 := hbb.trans (hb7.mono hbb.size)
        clear hUq hl8
        go_wp2_with fail
        refine (sameVs_any w7 a8 a1 c8 c1 us' us (by unfold maxLen; omega) HL8.out (LiesV.keep (LiesV.keep HLU.out hb) hb7)).mono ?_
        rintro e w8 ⟨⟨b, rfl, hbt⟩, hb8⟩
        have hb18 := hb17.trans (hb8.mono hb17.size)
        have HL48 : Hid (LiesV w8 a4 (atp us ps)) := LiesV.keep HL47.out hb8
        cases b with
        | true =>
          obtain rfl : us' = us := hbt.1 rfl
          obtain rfl := HUq.out.places HPB.out
          have HY2 : Hid (IsDc kd s.data.toList n (atp us' ps')) := ⟨us', k + y, ps', HI.out, by rw [HSZ.out, ← HU.out]; exact HR.out.symm, HUq.out⟩
          clear hbt
          go_wp2
          go_ret2
          exact ⟨Or.inl ⟨_, a4, c4, HY2.out, rfl, HL48.out⟩, hb18⟩
        | false =>
          have HNo : Hid (¬ ∃ vs, IsDc kd s.data.toList n vs) := fun ⟨vs, us2, u2, ps2, h, h2, h3⟩ => by
            obtain ⟨rfl, rfl, _⟩ := HRE.out vs us2 u2 ps2 h h2 h3
            have h4 := h3
            rw [h3.atp] at h4
            exact absurd (hbt.2 (HUq.out.fn _ _ h4).1) (by simp)
          clear hbt
          go_wp2
          go_ret2
          exact ⟨Or.inr ⟨HNo.out, _, _, _, rfl⟩, hb18⟩
end Go.Proofs.YtmhkpnmifhfboaaGreatDoor
