/-
  The reference's SchemaError: exact.
-/
import Derived.Test.YtefgompkpjeneaaGreatDoorJBSFlI
namespace Go.Proofs.YtefgompkpjeneaaGreatDoor
open Go.RowKit
theorem chk_step {α : Type} (ok : α → Bool) (bad : α → α → Bool) (l : List α) (i : Nat) (h : i < l.length) : chk ok bad (l.take i) (l.drop i) = (ok l[i] && !((l.take i).any fun q => bad q l[i]) && chk ok bad (l.take (i + 1)) (l.drop (i + 1))) := by
  rw [List.drop_eq_getElem_cons h, chk, List.take_succ_eq_append_getElem h]
theorem any_take {α : Type} (f : α → Bool) (l : List α) (k : Nat) (h : k < l.length) : (l.take (k + 1)).any f = ((l.take k).any f || f l[k]) := by
  rw [List.take_succ_eq_append_getElem h, List.any_append]
  simp
theorem all_take {α : Type} (f : α → Bool) (l : List α) (k : Nat) (h : k < l.length) : (l.take (k + 1)).all f = ((l.take k).all f && f l[k]) := by
  rw [List.take_succ_eq_append_getElem h, List.all_append]
  simp
theorem all_false {α : Type} {f : α → Bool} {l : List α} (k : Nat) (h : k < l.length) (hf : f l[k] = false) : l.all f = false := by
  rw [List.all_eq_false]
  exact ⟨_, List.getElem_mem h, by rw [hf]; simp⟩
set_option maxRecDepth 100000 in
set_option maxHeartbeats 12800000 in
theorem schemaError_any (t : Tr) (hsm : t.Sm) (P : Nat → Prop) (a : Option Addr) (c : Nat) (W : World) (hl : LiesN W P a t.sub) :
    Calls Tryz.prog 6 #[nodeV t a c] W fun e w' => e = .returned (.int .i64 (seN t : Nat)) ∧ Below W.heap.size W w' := by
  obtain ⟨w0, HW0, HX, HB⟩ := one_box W #[.int .i64 t.id, .string t.nm, .int .i64 t.rep, .int .i64 t.kind, .slice a t.sub.length c] 24
  have HFl : Hid _ := flatF_any t hsm P a c w0 (hl.keep HB.out)
  have HIn : Hid (∀ p ∈ fl t, p.t.Sm) := flT_sm t [] 1 (-1) hsm (fun p hp => by simp at hp)
  have HLn : Hid ((fl t).length ≤ 2001) := flT_len t [] 1 (-1) (by simp)
  have hsl := hsm.len
  obtain ⟨⟨p0, p1, p2, p3, p4⟩, _⟩ := row_five HX.out
  clear hl hsm
  unfold nodeV
  go_enter Tryz.func6, Tryz.ntmps6
  go_wp2_with fail
  rw [HW0.out]
  refine Calls.mono HFl.out ?_
  rintro e w1 ⟨⟨ps, la, lc, rfl, hco, hrow⟩, hb1⟩
  have HB1 : Hid (Below W.heap.size W w1) := HB.out.trans (hb1.mono HB.out.size)
  have HX1 : Hid (w1.heap[W.heap.size]? = some (.cells #[.int .i64 t.id, .string t.nm, .int .i64 t.rep, .int .i64 t.kind, .slice a t.sub.length c] 24 (0, 0))) := blk_keep hb1 HX.out
  have hpl : ps.length ≤ 2001 := by
    have h : ps.length = (fl t).length := by rw [← hco, List.length_map]
    rw [h]
    exact HLn.out
  have hp0 : 0 < ps.length := by
    have h : ps.length = (fl t).length := by rw [← hco, List.length_map]
    rw [h]
    exact fl_pos t
  obtain ⟨g, rfl, _⟩ := pn_cell hrow 0 hp0
  have HF : Hid (FlI t ps g w1) := ⟨hco, fun X hX i hi k u hk hu => (by
    obtain ⟨g', hg', hc⟩ := pn_cell hrow i hi
    obtain rfl : g = g' := by injection hg' with h; injection h
    have h1 := hc k u hk hu
    exact (hX.cell (World.block_lt_of_cell? w1 _ h1)).trans h1)⟩
  clear hco hrow hb1 HFl p0 p1 p2 p3 p4
  by_cases h40 : 40 < ps.length
  · have q1 : decide ((40 : Int) < (ps.length : Int)) = true := by simp; omega
    have HE : Hid (seN t = 2) := (by show _ = _; unfold seN; rw [if_pos (by rw [← HF.out.len]; exact h40)])
    go_wp2
    go_ret
    exact ⟨by rw [HE.out]; rfl, HB1.out⟩
  have q1 : decide ((40 : Int) < (ps.length : Int)) = false := by simp; omega
  have HS1 : Hid (¬ 40 < (fl t).length) := (by rw [← HF.out.len]; exact h40)
  clear h40
  go_wp2_with fail
  go_loopw [4] (fun x wr => ∃ i : Nat, i ≤ ps.length ∧ x = .int .i64 i ∧ Hid (((fl t).take i).all (fun p => decide (p.deep ≤ 6)) = true) ∧ w1 = wr) (fun x _ => ps.length - (intOf x).toNat)
  case atStart => exact ⟨0, Nat.zero_le _, rfl, rfl, rfl⟩
  case round =>
    obtain ⟨i, hik, rfl, HA, rfl⟩ := hrel
    by_cases hlt : i < ps.length
    · have c5 := HF.out.cell w1 (Below.refl _ _) i hlt 5 _ (by omega) rfl
      have hfi : i < (fl t).length := by rw [← HF.out.len]; exact hlt
      have HAt : Hid ((fl t)[i].deep = ps[i].deep) := (by show _ = _; rw [HF.out.at_ i hlt]; rfl)
      obtain ⟨dp, HDp⟩ := hid_name ps[i].deep
      rw [HDp.out] at c5 HAt
      by_cases hd : dp ≤ 6
      · have q2 : decide ((6 : Int) < dp) = false := by simp; omega
        have HN : Hid (((fl t).take (i + 1)).all (fun p => decide (p.deep ≤ 6)) = true) := (by
          show _ = _
          rw [all_take _ _ i hfi, HA.out, HAt.out]
          simpa using hd)
        clear hd
        go_wp2
        go_roundw
        case rel => exact ⟨i + 1, by omega, by go_num, HN, by first | rfl | trivial⟩
        case measure => simp [intOf]; omega
      · have q2 : decide ((6 : Int) < dp) = true := by simp; omega
        have HE : Hid (seN t = 2) := (by
          show _ = _
          unfold seN
          rw [if_neg HS1.out, if_pos (all_false i hfi (by rw [HAt.out]; simpa using hd))])
        clear hd
        go_wp2
        go_ret
        exact ⟨by rw [HE.out]; rfl, HB1.out⟩
    · obtain rfl : i = ps.length := by omega
      have HS2 : Hid (¬ ((fl t).all fun p => decide (p.deep ≤ 6)) = false) := (by
        have h := HA.out
        rw [HF.out.len, List.take_length] at h
        show ¬ _
        rw [h]
        simp)
      clear HA hlt hik
      obtain ⟨⟨p0, p1, p2, p3, p4⟩, _⟩ := row_five HX1.out
      obtain ⟨tid, HT0⟩ := hid_name t.id
      obtain ⟨tnm, HT1⟩ := hid_name t.nm
      obtain ⟨trp, HT2⟩ := hid_name t.rep
      obtain ⟨tkd, HT3⟩ := hid_name t.kind
      obtain ⟨tsn, HT4⟩ := hid_name t.sub.length
      have HRo : Hid (rootOk t = decide (tid = 0 ∧ tnm.toList = [114, 111, 111, 116] ∧ trp = 1 ∧ tkd = 0 ∧ 0 < tsn)) := (by show _ = _; rw [rootOk, HT0.out, HT1.out, HT2.out, HT3.out, HT4.out])
      rw [HT0.out] at p0
      rw [HT1.out] at p1
      rw [HT2.out] at p2
      rw [HT3.out] at p3
      rw [HT4.out] at p4 hsl
      go_upto_region 9 with fail
      go_cut [53] (fun x wx => ∃ rb : Bool, x = .bool rb ∧ Hid (rb = !rootOk t) ∧ w1 = wx)
      case first =>
        by_cases h1 : tid = 0
        · have q1 : (tid != 0) = false := by simp [h1]
          by_cases h2 : tnm.toList = [114, 111, 111, 116]
          · have q2 : (tnm.toList == [114, 111, 111, 116]) = true := by simp [h2]
            by_cases h3 : trp = 1
            · have q3 : (trp != 1) = false := by simp [h3]
              by_cases h4 : tkd = 0
              · have q4 : (tkd != 0) = false := by simp [h4]
                by_cases h5 : tsn = 0
                · have q5 : ((tsn : Int) == 0) = true := by simp [h5]
                  have HE : Hid (rootOk t = false) := (by show _ = _; rw [HRo.out]; simp [h5])
                  clear h1 h2 h3 h4 h5
                  go_wp2
                  go_meet
                  exact ⟨_, rfl, (by show _ = _; rw [HE.out]; rfl), by first | rfl | trivial⟩
                · have q5 : ((tsn : Int) == 0) = false := by simp [h5]
                  have HE : Hid (rootOk t = true) := (by show _ = _; rw [HRo.out, decide_eq_true_iff]; exact ⟨h1, h2, h3, h4, by omega⟩)
                  clear h1 h2 h3 h4 h5
                  go_wp2
                  go_meet
                  exact ⟨_, rfl, (by show _ = _; rw [HE.out]; rfl), by first | rfl | trivial⟩
              · have q4 : (tkd != 0) = true := by simp [h4]
                have HE : Hid (rootOk t = false) := (by show _ = _; rw [HRo.out]; simp [h4])
                clear h1 h2 h3 h4
                go_wp2
                go_meet
                exact ⟨_, rfl, (by show _ = _; rw [HE.out]; rfl), by first | rfl | trivial⟩
            · have q3 : (trp != 1) = true := by simp [h3]
              have HE : Hid (rootOk t = false) := (by show _ = _; rw [HRo.out]; simp [h3])
              clear h1 h2 h3
              go_wp2
              go_meet
              exact ⟨_, rfl, (by show _ = _; rw [HE.out]; rfl), by first | rfl | trivial⟩
          · have q2 : (tnm.toList == [114, 111, 111, 116]) = false := by simp [h2]
            have HE : Hid (rootOk t = false) := (by show _ = _; rw [HRo.out]; simp [h2])
            clear h1 h2
            go_wp2
            go_meet
            exact ⟨_, rfl, (by show _ = _; rw [HE.out]; rfl), by first | rfl | trivial⟩
        · have q1 : (tid != 0) = true := by simp [h1]
          have HE : Hid (rootOk t = false) := (by show _ = _; rw [HRo.out]; simp [h1])
          clear h1
          go_wp2
          go_meet
          exact ⟨_, rfl, (by show _ = _; rw [HE.out]; rfl), by first | rfl | trivial⟩
      case rest =>
        obtain ⟨rb, rfl, HRb, rfl⟩ := hcut
        cases rb with
        | true =>
          have hr : rootOk t = false := by simpa using HRb.out
          have HE : Hid (seN t = 3) := (by show _ = _; unfold seN; rw [if_neg HS1.out, if_neg HS2.out, if_pos hr])
          clear hr HRo HRb
          go_wp2
          go_ret
          exact ⟨by rw [HE.out]; rfl, HB1.out⟩
        | false =>
          have hr : rootOk t = true := by simpa using HRb.out
          have HS3 : Hid (¬ rootOk t = false) := (by show ¬ _; rw [hr]; simp)
          clear hr HRo HRb p0 p1 p2 p3 p4 HT0 HT1 HT2 HT3 HT4
          go_wp2_with fail
          go_loopw [5] (fun x wx => ∃ i : Nat, 1 ≤ i ∧ i ≤ ps.length ∧ x = .int .i64 i ∧ Hid (((fl t).tail.take (i - 1)).all (fun p => shpOk p.t) = true) ∧ Hid (Below w1.heap.size w1 wx)) (fun x _ => ps.length - (intOf x).toNat)
          case atStart => exact ⟨1, Nat.le_refl _, hp0, rfl, rfl, Below.refl _ _⟩
          case round =>
            obtain ⟨i, h1i, hik, rfl, HA, HBr⟩ := hrel
            by_cases hlt : i < ps.length
            · obtain ⟨hti, htl⟩ := HF.out.tl i h1i hlt
              have c0 := HF.out.cell wr HBr.out i hlt 0 _ (by omega) rfl
              have c1 := HF.out.cell wr HBr.out i hlt 1 _ (by omega) rfl
              have c2 := HF.out.cell wr HBr.out i hlt 2 _ (by omega) rfl
              have c3 := HF.out.cell wr HBr.out i hlt 3 _ (by omega) rfl
              have c4 := HF.out.cell wr HBr.out i hlt 4 _ (by omega) rfl
              rw [Nat.add_zero] at c0
              have HAt : Hid ((fl t).tail[i - 1].t = ps[i].t) := (by show _ = _; rw [htl]; rfl)
              have HSh : Hid (shpOk ps[i].t = (decide (1 ≤ ps[i].t.rep ∧ ps[i].t.rep ≤ 3) && decide (0 ≤ ps[i].t.kind ∧ ps[i].t.kind ≤ 5) && (decide (ps[i].t.kind = 0) == decide (0 < ps[i].t.sub.length)))) := rfl
              obtain ⟨xi, hx0⟩ := hid_name ps[i].t.id
              obtain ⟨xn, hx1⟩ := hid_name ps[i].t.nm
              obtain ⟨xr, hx2⟩ := hid_name ps[i].t.rep
              obtain ⟨xk, hx3⟩ := hid_name ps[i].t.kind
              obtain ⟨xl, hx4⟩ := hid_name ps[i].t.sub.length
              obtain ⟨xa, hx5⟩ := hid_name ps[i].a
              obtain ⟨xc, hx6⟩ := hid_name ps[i].c
              have hxl : xl ≤ 1048576 := by
                rw [← hx4.out]
                have h := HIn.out _ (List.mem_of_mem_tail (List.getElem_mem hti))
                rw [HAt.out] at h
                exact h.len
              rw [hx0.out] at c0
              rw [hx1.out] at c1
              rw [hx2.out] at c2
              rw [hx3.out] at c3
              rw [hx4.out, hx5.out, hx6.out] at c4
              rw [hx2.out, hx3.out, hx4.out] at HSh
              have HBad : Hid (shpOk ps[i].t = false → seN t = 3) := (fun h => by
                unfold seN
                rw [if_neg HS1.out, if_neg HS2.out, if_neg HS3.out, if_pos (all_false (i - 1) hti (by rw [HAt.out]; exact h))])
              have HGood : Hid (shpOk ps[i].t = true → ((fl t).tail.take (i + 1 - 1)).all (fun p => shpOk p.t) = true) := (fun h => by
                rw [show i + 1 - 1 = i - 1 + 1 by omega, all_take _ _ (i - 1) hti, HA.out, HAt.out, h]
                rfl)
              obtain ⟨w2, HW2, HX2, HB2⟩ := one_box wr #[.int .i64 xi, .string xn, .int .i64 xr, .int .i64 xk, .slice xa xl xc] 24
              obtain ⟨⟨b0, b1, b2, b3, b4⟩, _⟩ := row_five HX2.out
              have HBn : Hid (Below w1.heap.size w1 w2) := HBr.out.trans (HB2.out.mono HBr.out.size)
              have HBW : Hid (Below W.heap.size W w2) := HB1.out.trans (HBn.out.mono HB1.out.size)
              clear htl hti hx0 hx1 hx2 hx3 hx4 hx5 hx6 HAt
              go_upto_region 15 with fail
              rw [HW2.out]
              clear HW2 c0 c1 c2 c3 c4
              by_cases h1 : xr < 1
              · have q2 : decide (xr < 1) = true := by simp; omega
                have HE : Hid (seN t = 3) := HBad.out (by rw [HSh.out, decide_eq_false (by omega : ¬ (1 ≤ xr ∧ xr ≤ 3))]; rfl)
                clear HBad HGood HSh
                go_wp2
                go_ret
                exact ⟨by rw [HE.out]; rfl, HBW.out⟩
              have q2 : decide (xr < 1) = false := by simp; omega
              by_cases h2 : 3 < xr
              · have q3 : decide (3 < xr) = true := by simp; omega
                have HE : Hid (seN t = 3) := HBad.out (by rw [HSh.out, decide_eq_false (by omega : ¬ (1 ≤ xr ∧ xr ≤ 3))]; rfl)
                clear HBad HGood HSh
                go_wp2
                go_ret
                exact ⟨by rw [HE.out]; rfl, HBW.out⟩
              have q3 : decide (3 < xr) = false := by simp; omega
              by_cases h3 : xk < 0
              · have q4 : decide (xk < 0) = true := by simp; omega
                have HE : Hid (seN t = 3) := HBad.out (by rw [HSh.out, decide_eq_false (by omega : ¬ (0 ≤ xk ∧ xk ≤ 5)), Bool.and_false]; rfl)
                clear HBad HGood HSh
                go_wp2
                go_ret
                exact ⟨by rw [HE.out]; rfl, HBW.out⟩
              have q4 : decide (xk < 0) = false := by simp; omega
              by_cases h4 : 5 < xk
              · have q5 : decide (5 < xk) = true := by simp; omega
                have HE : Hid (seN t = 3) := HBad.out (by rw [HSh.out, decide_eq_false (by omega : ¬ (0 ≤ xk ∧ xk ≤ 5)), Bool.and_false]; rfl)
                clear HBad HGood HSh
                go_wp2
                go_ret
                exact ⟨by rw [HE.out]; rfl, HBW.out⟩
              have q5 : decide (5 < xk) = false := by simp; omega
              have HSh2 : Hid (shpOk ps[i].t = (decide (xk = 0) == decide (0 < xl))) := (by show _ = _; rw [HSh.out, decide_eq_true (by omega : 1 ≤ xr ∧ xr ≤ 3), decide_eq_true (by omega : 0 ≤ xk ∧ xk ≤ 5)]; rfl)
              clear h1 h2 h3 h4 HSh
              by_cases hk : xk = 0
              · have q6 : (xk == 0) = true := by simp [hk]
                by_cases hn : 0 < xl
                · have q7 : decide (0 < xl) = true := by simp; omega
                  have HN := HGood.out (by rw [HSh2.out]; simp [hk]; omega)
                  have HN : Hid _ := HN
                  clear HBad HGood HSh2 hk hn
                  go_wp2
                  go_roundw
                  case rel => exact ⟨i + 1, by omega, by omega, by go_num, HN, HBn⟩
                  case measure => simp [intOf]; omega
                · have q7 : decide (0 < xl) = false := by rw [decide_eq_false_iff_not]; omega
                  have HE : Hid (seN t = 3) := HBad.out (by rw [HSh2.out]; simp [hk]; omega)
                  clear HBad HGood HSh2 hk hn
                  go_wp2
                  go_ret
                  exact ⟨by rw [HE.out]; rfl, HBW.out⟩
              · have q6 : (xk == 0) = false := by simp [hk]
                by_cases hn : 0 < xl
                · have q7 : decide (0 < xl) = true := by simp; omega
                  have HE : Hid (seN t = 3) := HBad.out (by rw [HSh2.out]; simp [hk]; omega)
                  clear HBad HGood HSh2 hk hn
                  go_wp2
                  go_ret
                  exact ⟨by rw [HE.out]; rfl, HBW.out⟩
                · have q7 : decide (0 < xl) = false := by rw [decide_eq_false_iff_not]; omega
                  have HN := HGood.out (by rw [HSh2.out]; simp [hk]; omega)
                  have HN : Hid _ := HN
                  clear HBad HGood HSh2 hk hn
                  go_wp2
                  go_roundw
                  case rel => exact ⟨i + 1, by omega, by omega, by go_num, HN, HBn⟩
                  case measure => simp [intOf]; omega
            · obtain rfl : i = ps.length := by omega
              have HS4 : Hid (¬ ((fl t).tail.all fun p => shpOk p.t) = false) := (by
                have h := HA.out
                rw [HF.out.tln, List.take_length] at h
                show ¬ _
                rw [h]
                simp)
              have HBq : Hid (Below w1.heap.size w1 wr) := HBr
              clear HA hlt hik h1i HBr
              go_wp2_with fail
              go_loopw [7] (fun x wx => ∃ i : Nat, 1 ≤ i ∧ i ≤ ps.length ∧ x = .int .i64 i ∧ Hid (chk nmOkP nmBadP [] (fl t).tail = chk nmOkP nmBadP ((fl t).tail.take (i - 1)) ((fl t).tail.drop (i - 1))) ∧ Hid (Below w1.heap.size w1 wx)) (fun x _ => ps.length - (intOf x).toNat)
              case atStart => exact ⟨1, Nat.le_refl _, hp0, rfl, rfl, HBq⟩
              case round =>
                clear HBq
                obtain ⟨i, h1i, hik, rfl, HA, HBr⟩ := hrel
                by_cases hlt : i < ps.length
                · obtain ⟨hti, htl⟩ := HF.out.tl i h1i hlt
                  have c1 := HF.out.cell wr HBr.out i hlt 1 _ (by omega) rfl
                  have HAt : Hid ((fl t).tail[i - 1] = ps[i].core) := htl
                  have hxn : ps[i].t.nm.size ≤ 1048576 := by
                    have h := HIn.out _ (List.mem_of_mem_tail (List.getElem_mem hti))
                    rw [HAt.out] at h
                    exact h.nm
                  have HStep : Hid _ := chk_step nmOkP nmBadP (fl t).tail (i - 1) hti
                  rw [HAt.out] at HStep
                  obtain ⟨nb, HNb⟩ := hid_name (nmOkP ps[i].core)
                  have HNm : Hid (∀ w : World, Calls Tryz.prog 15 #[.string ps[i].t.nm] w fun e w' => e = .returned (.bool nb) ∧ w' = w) := fun w => (by
                    have h := refName_any ps[i].t.nm hxn w
                    rw [show nameOk ps[i].t.nm = nb from HNb.out] at h
                    exact h)
                  clear htl hxn
                  go_wp2_with fail
                  refine Calls.mono (HNm.out wr) ?_
                  rintro e w2 ⟨rfl, hw⟩
                  obtain rfl := hw.symm
                  clear c1 HNm
                  go_wp2_with fail
                  go_loopw [8, 9] (fun y x wx => ∃ k : Nat, 1 ≤ k ∧ k ≤ i ∧ x = .int .i64 k ∧ y = .bool (nb && !(((fl t).tail.take (k - 1)).any fun q => nmBadP q ps[i].core)) ∧ Hid (Below w1.heap.size w1 wx)) (fun _ x _ => i - (intOf x).toNat)
                  case atStart => exact ⟨1, Nat.le_refl _, h1i, rfl, by simp, HBr⟩
                  case round =>
                    obtain ⟨k, h1k, hki, rfl, rfl, HBk⟩ := hrel
                    by_cases hkl : k < i
                    · obtain ⟨htk, htlk⟩ := HF.out.tl k h1k (by omega)
                      have hkp : k < ps.length := by omega
                      have k6 := HF.out.cell wr HBk.out k hkp 6 _ (by omega) rfl
                      have k1 := HF.out.cell wr HBk.out k hkp 1 _ (by omega) rfl
                      have i6 := HF.out.cell wr HBk.out i hlt 6 _ (by omega) rfl
                      have i1 := HF.out.cell wr HBk.out i hlt 1 _ (by omega) rfl
                      have HAny : Hid (((fl t).tail.take (k + 1 - 1)).any (fun q => nmBadP q ps[i].core) = (((fl t).tail.take (k - 1)).any (fun q => nmBadP q ps[i].core) || (decide (ps[k].around = ps[i].around) && (ps[k].t.nm.toList == ps[i].t.nm.toList)))) := (by
                        show _ = _
                        rw [show k + 1 - 1 = k - 1 + 1 by omega, any_take _ _ (k - 1) htk, htlk]
                        rfl)
                      obtain ⟨yb, HYb⟩ := hid_name (nb && !(((fl t).tail.take (k - 1)).any fun q => nmBadP q ps[i].core))
                      rw [HYb.out]
                      obtain ⟨ark, z1⟩ := hid_name ps[k].around
                      obtain ⟨ari, z2⟩ := hid_name ps[i].around
                      obtain ⟨nk, z3⟩ := hid_name ps[k].t.nm
                      obtain ⟨ni, z4⟩ := hid_name ps[i].t.nm
                      rw [z1.out, z2.out, z3.out, z4.out] at HAny
                      rw [z1.out] at k6
                      rw [z2.out] at i6
                      rw [z3.out] at k1
                      rw [z4.out] at i1
                      clear htlk z1 z2 z3 z4
                      by_cases he : ark = ari
                      · have r1 : (ark == ari) = true := by simp [he]
                        by_cases hn2 : nk.toList = ni.toList
                        · have r2 : (nk.toList == ni.toList) = true := by simp [hn2]
                          have HY : Hid (false = (nb && !(((fl t).tail.take (k + 1 - 1)).any fun q => nmBadP q ps[i].core))) := (by show _ = _; rw [HAny.out, r2, decide_eq_true he]; simp)
                          clear he hn2 HAny
                          go_upto_region 26 with fail
                          go_quiet (fail)
                          go_wp2
                          go_roundw
                          case rel => exact ⟨k + 1, by omega, by omega, by go_num, by rw [← HY.out], below_dN HBk.out _⟩
                          case measure => simp [intOf]; omega
                        · have r2 : (nk.toList == ni.toList) = false := by simp [hn2]
                          have HY : Hid (yb = (nb && !(((fl t).tail.take (k + 1 - 1)).any fun q => nmBadP q ps[i].core))) := (by show _ = _; rw [HAny.out, r2, Bool.and_false, Bool.or_false, HYb.out])
                          clear he hn2 HAny
                          go_upto_region 26 with fail
                          go_quiet (fail)
                          go_wp2
                          go_roundw
                          case rel => exact ⟨k + 1, by omega, by omega, by go_num, by rw [← HY.out], below_dN HBk.out _⟩
                          case measure => simp [intOf]; omega
                      · have r1 : (ark == ari) = false := by simp [he]
                        have HY : Hid (yb = (nb && !(((fl t).tail.take (k + 1 - 1)).any fun q => nmBadP q ps[i].core))) := (by show _ = _; rw [HAny.out, decide_eq_false he, Bool.false_and, Bool.or_false, HYb.out])
                        clear he HAny
                        go_upto_region 26 with fail
                        go_quiet (fail)
                        go_wp2
                        go_roundw
                        case rel => exact ⟨k + 1, by omega, by omega, by go_num, by rw [← HY.out], below_dN HBk.out _⟩
                        case measure => simp [intOf]; omega
                    · obtain rfl : k = i := by omega
                      obtain ⟨yb, HYb⟩ := hid_name (nb && !(((fl t).tail.take (k - 1)).any fun q => nmBadP q ps[k].core))
                      rw [HYb.out]
                      have HC1 : Hid (chk nmOkP nmBadP [] (fl t).tail = (yb && chk nmOkP nmBadP ((fl t).tail.take (k - 1 + 1)) ((fl t).tail.drop (k - 1 + 1)))) := (by show _ = _; rw [HA.out, HStep.out, HNb.out, HYb.out])
                      have HBW : Hid (Below W.heap.size W wr) := HB1.out.trans (HBk.out.mono HB1.out.size)
                      clear HStep HNb HYb HA
                      cases yb with
                      | false =>
                        have HE : Hid (seN t = 5) := (by
                          show _ = _
                          unfold seN
                          rw [if_neg HS1.out, if_neg HS2.out, if_neg HS3.out, if_neg HS4.out, if_pos (by rw [HC1.out, Bool.false_and])])
                        go_wp2
                        go_ret
                        exact ⟨by rw [HE.out]; rfl, HBW.out⟩
                      | true =>
                        have HN : Hid (chk nmOkP nmBadP [] (fl t).tail = chk nmOkP nmBadP ((fl t).tail.take (k + 1 - 1)) ((fl t).tail.drop (k + 1 - 1))) := (by show _ = _; rw [HC1.out, Bool.true_and, show k + 1 - 1 = k - 1 + 1 by omega])
                        go_wp2
                        go_roundw
                        case rel => exact ⟨k + 1, by omega, by omega, by go_num, HN, HBk⟩
                        case measure => simp [intOf]; omega
                · obtain rfl : i = ps.length := by omega
                  have HS5 : Hid (¬ chk nmOkP nmBadP [] (fl t).tail = false) := (by
                    have h := HA.out
                    rw [HF.out.tln, List.take_length, List.drop_length, chk] at h
                    show ¬ _
                    rw [h]
                    simp)
                  have HBq : Hid (Below w1.heap.size w1 wr) := HBr
                  clear HA hlt hik h1i HBr
                  go_wp2_with fail
                  go_loopw [10] (fun x wx => ∃ i : Nat, 1 ≤ i ∧ i ≤ ps.length ∧ x = .int .i64 i ∧ Hid (chk idOkP idBadP [] (fl t).tail = chk idOkP idBadP ((fl t).tail.take (i - 1)) ((fl t).tail.drop (i - 1))) ∧ Hid (Below w1.heap.size w1 wx)) (fun x _ => ps.length - (intOf x).toNat)
                  case atStart => exact ⟨1, Nat.le_refl _, hp0, rfl, rfl, HBq⟩
                  case round =>
                    clear HBq
                    obtain ⟨i, h1i, hik, rfl, HA, HBr⟩ := hrel
                    by_cases hlt : i < ps.length
                    · obtain ⟨hti, htl⟩ := HF.out.tl i h1i hlt
                      have c0 := HF.out.cell wr HBr.out i hlt 0 _ (by omega) rfl
                      rw [Nat.add_zero] at c0
                      have HAt : Hid ((fl t).tail[i - 1] = ps[i].core) := htl
                      have HStep : Hid _ := chk_step idOkP idBadP (fl t).tail (i - 1) hti
                      rw [HAt.out] at HStep
                      obtain ⟨nb, HNb⟩ := hid_name (idOkP ps[i].core)
                      obtain ⟨xi, hxi⟩ := hid_name ps[i].t.id
                      have HNb2 : Hid (nb = decide (1 ≤ xi ∧ xi ≤ 1000)) := (by show _ = _; rw [← HNb.out, idOkP, ← hxi.out]; rfl)
                      rw [hxi.out] at c0
                      clear htl
                      go_upto_region 33 with fail
                      go_cut [11] (fun x wx => x = .bool nb ∧ wr = wx)
                      case first =>
                        by_cases h1 : 1 ≤ xi
                        · have r1 : decide (1 ≤ xi) = true := by simp [h1]
                          by_cases h2 : xi ≤ 1000
                          · have r2 : decide (xi ≤ 1000) = true := by simp [h2]
                            have HE : Hid (nb = true) := (by show _ = _; rw [HNb2.out, decide_eq_true_iff]; exact ⟨h1, h2⟩)
                            clear h1 h2 HNb2
                            go_wp2
                            go_meet
                            exact ⟨by rw [HE.out], by first | rfl | trivial⟩
                          · have r2 : decide (xi ≤ 1000) = false := by simp [h2]
                            have HE : Hid (nb = false) := (by show _ = _; rw [HNb2.out, decide_eq_false_iff_not]; exact fun h => h2 h.2)
                            clear h1 h2 HNb2
                            go_wp2
                            go_meet
                            exact ⟨by rw [HE.out], by first | rfl | trivial⟩
                        · have r1 : decide (1 ≤ xi) = false := by simp [h1]
                          have HE : Hid (nb = false) := (by show _ = _; rw [HNb2.out, decide_eq_false_iff_not]; exact fun h => h1 h.1)
                          clear h1 HNb2
                          go_wp2
                          go_meet
                          exact ⟨by rw [HE.out], by first | rfl | trivial⟩
                      case rest =>
                        obtain ⟨rfl, rfl⟩ := hcut
                        clear HNb2 c0
                        go_wp2_with fail
                        go_loopw [11, 12] (fun y x wx => ∃ (k : Nat) (yb : Bool), 1 ≤ k ∧ k ≤ i ∧ x = .int .i64 k ∧ y = .bool yb ∧ Hid (yb = (nb && !(((fl t).tail.take (k - 1)).any fun q => idBadP q ps[i].core))) ∧ Hid (Below w1.heap.size w1 wx)) (fun _ x _ => i - (intOf x).toNat)
                        case atStart => exact ⟨1, nb, Nat.le_refl _, h1i, rfl, rfl, (by show _ = _; simp), HBr⟩
                        case round =>
                          obtain ⟨k, yb, h1k, hki, rfl, rfl, HYb, HBk⟩ := hrel
                          by_cases hkl : k < i
                          · obtain ⟨htk, htlk⟩ := HF.out.tl k h1k (by omega)
                            have hkp : k < ps.length := by omega
                            have k0 := HF.out.cell wr HBk.out k hkp 0 _ (by omega) rfl
                            have i0 := HF.out.cell wr HBk.out i hlt 0 _ (by omega) rfl
                            rw [Nat.add_zero] at k0 i0
                            have HAny : Hid (((fl t).tail.take (k + 1 - 1)).any (fun q => idBadP q ps[i].core) = (((fl t).tail.take (k - 1)).any (fun q => idBadP q ps[i].core) || decide (ps[k].t.id = ps[i].t.id))) := (by
                              show _ = _
                              rw [show k + 1 - 1 = k - 1 + 1 by omega, any_take _ _ (k - 1) htk, htlk]
                              rfl)
                            obtain ⟨xk, z1⟩ := hid_name ps[k].t.id
                            rw [z1.out, hxi.out] at HAny
                            rw [z1.out] at k0
                            rw [hxi.out] at i0
                            clear htlk z1
                            cases yb with
                            | false =>
                              have HY : Hid (false = (nb && !(((fl t).tail.take (k + 1 - 1)).any fun q => idBadP q ps[i].core))) := (by
                                show _ = _
                                have h := HYb.out
                                rw [HAny.out, Bool.not_or, ← Bool.and_assoc, ← h]
                                rfl)
                              clear HAny HYb
                              go_upto_region 37 with fail
                              go_quiet (fail)
                              go_wp2
                              go_roundw
                              case rel => exact ⟨k + 1, false, by omega, by omega, by go_num, rfl, HY, below_dN HBk.out _⟩
                              case measure => simp [intOf]; omega
                            | true =>
                              by_cases he : xk = xi
                              · have r1 : (xk != xi) = false := by simp [he]
                                have HY : Hid (false = (nb && !(((fl t).tail.take (k + 1 - 1)).any fun q => idBadP q ps[i].core))) := (by show _ = _; rw [HAny.out, decide_eq_true he]; simp)
                                clear HAny HYb he
                                go_upto_region 37 with fail
                                go_quiet (fail)
                                go_wp2
                                go_roundw
                                case rel => exact ⟨k + 1, false, by omega, by omega, by go_num, rfl, HY, below_dN HBk.out _⟩
                                case measure => simp [intOf]; omega
                              · have r1 : (xk != xi) = true := by simp [he]
                                have HY : Hid (true = (nb && !(((fl t).tail.take (k + 1 - 1)).any fun q => idBadP q ps[i].core))) := (by show _ = _; rw [HAny.out, decide_eq_false he, Bool.or_false]; exact HYb.out)
                                clear HAny HYb he
                                go_upto_region 37 with fail
                                go_quiet (fail)
                                go_wp2
                                go_roundw
                                case rel => exact ⟨k + 1, true, by omega, by omega, by go_num, rfl, HY, below_dN HBk.out _⟩
                                case measure => simp [intOf]; omega
                          · obtain rfl : k = i := by omega
                            have HC1 : Hid (chk idOkP idBadP [] (fl t).tail = (yb && chk idOkP idBadP ((fl t).tail.take (k - 1 + 1)) ((fl t).tail.drop (k - 1 + 1)))) := (by show _ = _; rw [HA.out, HStep.out, HNb.out, HYb.out])
                            have HBW : Hid (Below W.heap.size W wr) := HB1.out.trans (HBk.out.mono HB1.out.size)
                            clear HStep HNb HYb HA
                            cases yb with
                            | false =>
                              have HE : Hid (seN t = 5) := (by
                                show _ = _
                                unfold seN
                                rw [if_neg HS1.out, if_neg HS2.out, if_neg HS3.out, if_neg HS4.out, if_neg HS5.out, if_pos (by rw [HC1.out, Bool.false_and])])
                              go_wp2
                              go_ret
                              exact ⟨by rw [HE.out]; rfl, HBW.out⟩
                            | true =>
                              have HN : Hid (chk idOkP idBadP [] (fl t).tail = chk idOkP idBadP ((fl t).tail.take (k + 1 - 1)) ((fl t).tail.drop (k + 1 - 1))) := (by show _ = _; rw [HC1.out, Bool.true_and, show k + 1 - 1 = k - 1 + 1 by omega])
                              go_wp2
                              go_roundw
                              case rel => exact ⟨k + 1, by omega, by omega, by go_num, HN, HBk⟩
                              case measure => simp [intOf]; omega
                    · obtain rfl : i = ps.length := by omega
                      have HE : Hid (seN t = 0) := (by
                        have h := HA.out
                        rw [HF.out.tln, List.take_length, List.drop_length, chk] at h
                        show _ = _
                        unfold seN
                        rw [if_neg HS1.out, if_neg HS2.out, if_neg HS3.out, if_neg HS4.out, if_neg HS5.out, if_neg (by rw [h]; simp)])
                      have HBW : Hid (Below W.heap.size W wr) := HB1.out.trans (HBr.out.mono HB1.out.size)
                      clear HA
                      go_wp2
                      go_ret
                      exact ⟨by rw [HE.out]; rfl, HBW.out⟩
end Go.Proofs.YtefgompkpjeneaaGreatDoor
