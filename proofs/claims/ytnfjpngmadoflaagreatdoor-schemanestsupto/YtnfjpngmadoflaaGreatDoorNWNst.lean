/-
  The walk of SchemaNests.
-/
import Derived.Test.YtnfjpngmadoflaaGreatDoorNWNsA
import Derived.Test.YtnfjpngmadoflaaGreatDoorNBSRight
import Derived.Test.YtnfjpngmadoflaaGreatDoorNOpenInts
import Derived.Test.YtnfjpngmadoflaaGreatDoorNOpenNode
namespace Go.Proofs.YtnfjpngmadoflaaGreatDoor
open Go.RowKit
set_option maxRecDepth 100000 in
set_option maxHeartbeats 6400000 in
theorem schemaNests_walk (t : Tr) (ids : List Int) (ia : Option Addr) (ic : Nat) (_ : ids.length ≤ maxLen) (hix : ∀ x ∈ ids, -9223372036854775808 ≤ x ∧ x ≤ 9223372036854775807) (a : Option Addr) (c : Nat) (P : Nat → Prop) (n : Nat) (hd : t.Dp n) (hn : n ≤ 1100000) (hs : t.Sm) (W : World) (hl : LiesN W P a t.sub) (hli : Lies W ia (i64s ids)) (eb es en eo : TypeId × Value) (he : Er3 W eb es en) (hgo : W.cell? ⟨0, 0, none⟩ = some (.iface eo.1 eo.2)) (htab : Lib.TabIs Tryz.prog W "internal/strconv.uint64pow10" .u64 Lib.pow10Tab) :
    Calls Tryz.prog 3 #[nodeV t a c, .slice ia ids.length ic] W fun e w' => e = .returned (.bool true) ∧ Below W.heap.size W w' := by
  obtain ⟨w0, HW0, HX, HB⟩ := one_box W #[.int .i64 t.id, .string t.nm, .int .i64 t.rep, .int .i64 t.kind, .slice a t.sub.length c] 24
  have HL : Hid (LiesN W P a t.sub) := hl
  have HLi : Hid (Lies W ia (i64s ids)) := hli
  have HIx : Hid (∀ x ∈ ids, -9223372036854775808 ≤ x ∧ x ≤ 9223372036854775807) := hix
  have HEr : Hid (∀ w, Below W.heap.size W w → Er3 w eb es en) := fun w hb => he.keep hb
  have HGo : Hid (∀ w, Below W.heap.size W w → w.cell? ⟨0, 0, none⟩ = some (.iface eo.1 eo.2)) := fun w hb => (hb.cell (World.block_lt_of_cell? W _ hgo)).trans hgo
  have HTb : Hid (∀ w, Below W.heap.size W w → Lib.TabIs Tryz.prog w "internal/strconv.uint64pow10" .u64 Lib.pow10Tab) := fun w hb => tab_keep htab hb
  have HSm : Hid t.Sm := hs
  have HD : Hid (t.Dp n) := hd
  have HLf : Hid (Calls Tryz.prog 4 #[] w0 fun e w' => e = .returned (.bool true) ∧ Below w0.heap.size w0 w') := leaf_any w0 _ _ _ (HEr.out w0 HB.out) (HTb.out w0 HB.out)
  clear hl he hgo htab hs hd hli hix
  unfold nodeV
  go_enter Tryz.func3, Tryz.ntmps3
  go_wp2_with fail
  rw [HW0.out]
  refine Calls.mono HLf.out ?_
  rintro e w1 ⟨rfl, hb1⟩
  have HB1 : Hid (Below W.heap.size W w1) := HB.out.trans (hb1.mono HB.out.size)
  have HX1 : Hid (w1.heap[W.heap.size]? = some (.cells #[.int .i64 t.id, .string t.nm, .int .i64 t.rep, .int .i64 t.kind, .slice a t.sub.length c] 24 (0, 0))) := blk_keep hb1 HX.out
  clear hb1 HLf
  obtain ⟨⟨p0, p1, p2, p3, p4⟩, _⟩ := row_five HX1.out
  go_wp2_with fail
  refine Calls.mono (tame_any t HSm.out P a c w1 (HL.out.keep HB1.out)) ?_
  rintro e w2 ⟨rfl, hb2⟩
  have HB2 : Hid (Below W.heap.size W w2) := HB1.out.trans (hb2.mono HB1.out.size)
  have HX2 : Hid (w2.heap[W.heap.size]? = some (.cells #[.int .i64 t.id, .string t.nm, .int .i64 t.rep, .int .i64 t.kind, .slice a t.sub.length c] 24 (0, 0))) := blk_keep hb2 HX1.out
  clear hb2 p0 p1 p2 p3 p4
  obtain ⟨⟨p0, p1, p2, p3, p4⟩, _⟩ := row_five HX2.out
  obtain ⟨tm, HTm⟩ := hid_name (decide ((fl t).length ≤ 200 ∧ nmS (fl t) ≤ 4000))
  rw [HTm.out]
  cases tm with
  | false =>
    go_wp2
    go_ret
    exact ⟨rfl, HB2.out⟩
  | true =>
    by_cases h60 : 60 < ids.length
    · have q6 : decide ((60 : Int) < (ids.length : Int)) = true := by simp; omega
      have q7 : decide (60 < ids.length) = true := by simp; omega
      go_wp2
      go_ret
      exact ⟨rfl, HB2.out⟩
    have q6 : decide ((60 : Int) < (ids.length : Int)) = false := by simp; omega
    have q7 : decide (60 < ids.length) = false := by simp; omega
    have HOw : Hid (∀ X, Below W.heap.size W X → Calls Tryz.prog 7 #[.agg #[.int .i64 t.id, .string t.nm, .int .i64 t.rep, .int .i64 t.kind, .slice a t.sub.length c]] X fun e w' => (∃ a' c', e = .returned (.agg #[.int .i64 t.id, .string t.nm, .int .i64 t.rep, .int .i64 t.kind, .slice a' t.sub.length c']) ∧ LiesN w' (fun b => X.heap.size ≤ b) a' t.sub ∧ t.sub.length ≤ c') ∧ Below X.heap.size X w') := fun X hX => ownNode_any _ t (Nat.lt_succ_self _) HSm.out P a c X (HL.out.keep hX)
    have HIo : Hid (∀ X, Below W.heap.size W X → Calls Tryz.prog 8 #[.slice ia ids.length ic] X fun e w' => (∃ a' c', e = .returned (.slice a' ids.length c') ∧ Lies w' a' (i64s ids)) ∧ Below X.heap.size X w') := fun X hX => intsL_any ia ic ids X (by omega) (HLi.out.keep hX)
    go_wp2_with fail
    refine Calls.mono (HOw.out w2 HB2.out) ?_
    rintro e w3 ⟨⟨a3, c3, rfl, hl3, hc3⟩, hb3⟩
    have HB3 : Hid (Below W.heap.size W w3) := HB2.out.trans (hb3.mono HB2.out.size)
    have HX3 : Hid (w3.heap[W.heap.size]? = some (.cells #[.int .i64 t.id, .string t.nm, .int .i64 t.rep, .int .i64 t.kind, .slice a t.sub.length c] 24 (0, 0))) := blk_keep hb3 HX2.out
    clear p0 p1 p2 p3 p4
    go_wp2_with fail
    refine Calls.mono (HIo.out w3 HB3.out) ?_
    rintro e w4 ⟨⟨ib, ie, rfl, hli4⟩, hb4⟩
    have HB4 : Hid (Below W.heap.size W w4) := HB3.out.trans (hb4.mono HB3.out.size)
    have HX4 : Hid (w4.heap[W.heap.size]? = some (.cells #[.int .i64 t.id, .string t.nm, .int .i64 t.rep, .int .i64 t.kind, .slice a t.sub.length c] 24 (0, 0))) := blk_keep hb4 HX3.out
    have HL4 : Hid (LiesN w4 (fun b => W.heap.size ≤ b) a3 t.sub) := (hl3.stay (W' := w3) (fun b h _ => Nat.le_trans HB2.out.size h) (fun _ _ _ => rfl)).keep hb4
    clear hl3 hb3 hb4
    by_cases hv : vldN t = 0
    · obtain ⟨r1, r2, r3, r4, r5⟩ := right_parts hv
      have hdB := dpB t 0 [] r1
      have hu := right_idU r2 r5
      have hok := right_lfOk r3
      have hk0 : Hid (t.kind = 0) := (of_decide_eq_true r2).2.2.2
      have HBo : Hid _ := both_right hv ids
      have HPr : Hid (Calls Tryz.prog 6 #[.agg #[.int .i64 t.id, .string t.nm, .int .i64 t.rep, .int .i64 t.kind, .slice a3 t.sub.length c3], .slice ib ids.length ie] w4 fun e w' => PrR t ids (.iface eo.1 eo.2) (.iface es.1 es.2) w4.heap.size e w' ∧ Below w4.heap.size w4 w') := project_any t 6 hdB.2.2 (by omega) HSm.out hv (by omega) ids ib ie (by omega) HIx.out a3 c3 _ w4 HL4.out hc3 hli4 eb es en eo (HEr.out w4 HB4.out) (HGo.out w4 HB4.out)
      go_wp2_with fail
      refine Calls.mono HPr.out ?_
      rintro e w5 ⟨hpr, hb5⟩
      have HB5 : Hid (Below W.heap.size W w5) := HB4.out.trans (hb5.mono HB4.out.size)
      have HX5 : Hid (w5.heap[W.heap.size]? = some (.cells #[.int .i64 t.id, .string t.nm, .int .i64 t.rep, .int .i64 t.kind, .slice a t.sub.length c] 24 (0, 0))) := blk_keep hb5 HX4.out
      rcases hpr with ⟨_, rfl⟩ | ⟨_, _, rfl⟩ | ⟨hall, hne, a', c', rfl, hl', hc'⟩
      · have HBz : Hid (∀ ob, Below W.heap.size W (w5.alloc ob)) := fun ob => HB5.out.alloc HB5.out.size ob
        clear hb5 HPr
        go_wp2
        go_ret
        exact ⟨rfl, HBz.out _⟩
      · have HBz : Hid (∀ ob, Below W.heap.size W (w5.alloc ob)) := fun ob => HB5.out.alloc HB5.out.size ob
        clear hb5 HPr
        go_wp2
        go_ret
        exact ⟨rfl, HBz.out _⟩
      · have hask : askL ids t ≠ [] := fun h => hne (HBo.out.1.trans (HBo.out.2.2 h))
        have hkr := kept_root hu hask
        have hvr : vldN (rkT (askL ids t) t) = 0 := rk_right hv hkr
        have hag := ask_again ids hu (right_hasLf r3) hok hall
        have HBr2 := both_right hvr ids
        have hdr := rk_dp (askL ids t) 6 t hdB.2.2
        have hcr := rk_cnt (askL ids t) t
        have hsr := rk_sm (askL ids t) (SizeOf.sizeOf t + 1) t (Nat.lt_succ_self _) HSm.out
        have hlvs := rk_leaves (askL ids t) t hok
        have hids : ((lvL [] t.sub).map Lf.id).Nodup := by
          rw [lv_idsL]
          unfold IdU at hu
          rw [ndT_eq, List.map_cons, List.nodup_cons] at hu
          exact List.Nodup.sublist (List.Sublist.map _ List.filter_sublist) hu.2
        have hus2 : kpL (fun i => (stayI ids (rkT (askL ids t) t)).contains i) (rkT (askL ids t) t).sub = rkL (askL ids t) t.sub := by
          rw [HBr2.1, hag.2, (rkT_id (askL ids t) t).2.2.2.2]
          exact rk_again (askL ids t) _ t.sub (Nat.lt_succ_self _) (fun c hc => hok.sub hc)
        have hlvs2 : lvL [] (rkL (askL ids t) t.sub) = (lvL [] t.sub).filter (fun f => (askL ids t).contains f.id) := by
          rw [← (rkT_id (askL ids t) t).2.2.2.2]; exact hlvs
        have hagl := hag.1
        rw [rkT_parts] at hvr hdr hcr hsr hus2 hagl
        rw [HBo.out.1] at hne hl' hc' ⊢
        generalize rkL (askL ids t) t.sub = us at hvr hdr hcr hsr hus2 hagl hlvs2 hne hl' hc' ⊢
        have HLv1 : Hid (∀ X a' c', Below W.heap.size W X → LiesN X (fun b => W.heap.size ≤ b) a' t.sub → t.sub.length ≤ c' → Calls Tryz.prog 9 #[.agg #[.int .i64 t.id, .string t.nm, .int .i64 t.rep, .int .i64 t.kind, .slice a' t.sub.length c']] X fun e w' => (∃ lv, e = .returned (.tuple #[lv, .nilIface]) ∧ LvX 39 w' X.heap.size lv (lvL [] t.sub)) ∧ Below X.heap.size X w') := fun X a' c' hX hl hc => nst_leaves (by rw [parts_self]; exact hdB.2.2) (by rw [parts_self]; exact HSm.out) (by rw [parts_self]; exact hv) hk0.out a' c' _ X hl hc (HEr.out X hX)
        have HLv2 : Hid (∀ X a' c', Below W.heap.size W X → LiesN X (fun b => W.heap.size ≤ b) a' us → us.length ≤ c' → Calls Tryz.prog 9 #[.agg #[.int .i64 t.id, .string t.nm, .int .i64 t.rep, .int .i64 t.kind, .slice a' us.length c']] X fun e w' => (∃ lv, e = .returned (.tuple #[lv, .nilIface]) ∧ LvX 39 w' X.heap.size lv (lvL [] us)) ∧ Below X.heap.size X w') := fun X a' c' hX hl hc => nst_leaves hdr hsr hvr hk0.out a' c' _ X hl hc (HEr.out X hX)
        have HVl : Hid (∀ X a' c', Below W.heap.size W X → LiesN X (fun b => W.heap.size ≤ b) a' us → us.length ≤ c' → Calls Tryz.prog 10 #[.agg #[.int .i64 t.id, .string t.nm, .int .i64 t.rep, .int .i64 t.kind, .slice a' us.length c']] X fun e w' => e = .returned .nilIface ∧ Below X.heap.size X w') := fun X a' c' hX hl hc => nst_valid hdr hsr hvr a' c' _ X hl hc (HEr.out X hX)
        have HOw2 : Hid (∀ X a' c', LiesN X (fun b => W.heap.size ≤ b) a' us → Calls Tryz.prog 7 #[.agg #[.int .i64 t.id, .string t.nm, .int .i64 t.rep, .int .i64 t.kind, .slice a' us.length c']] X fun e w' => (∃ a' c', e = .returned (.agg #[.int .i64 t.id, .string t.nm, .int .i64 t.rep, .int .i64 t.kind, .slice a' us.length c']) ∧ LiesN w' (fun b => X.heap.size ≤ b) a' us ∧ us.length ≤ c') ∧ Below X.heap.size X w') := fun X a' c' hl => nst_own hsr a' c' _ X hl
        have HSm2 : Hid (∀ X a1 c1 a2 c2, LiesN X (fun _ => True) a1 us → LiesN X (fun b => W.heap.size ≤ b) a2 us → us.length ≤ c1 → us.length ≤ c2 → Calls Tryz.prog 11 #[.agg #[.int .i64 t.id, .string t.nm, .int .i64 t.rep, .int .i64 t.kind, .slice a1 us.length c1], .agg #[.int .i64 t.id, .string t.nm, .int .i64 t.rep, .int .i64 t.kind, .slice a2 us.length c2]] X fun e w' => e = .returned (.bool true) ∧ Below X.heap.size X w') := fun X a1 c1 a2 c2 h1 h2 h3 h4 => nst_same hsr a1 c1 a2 c2 _ _ X h1 h2 h3 h4
        have HPr2 : Hid (∀ X a' c' ib ie, Below W.heap.size W X → LiesN X (fun b => W.heap.size ≤ b) a' us → us.length ≤ c' → Lies X ib (i64s ids) → Calls Tryz.prog 6 #[.agg #[.int .i64 t.id, .string t.nm, .int .i64 t.rep, .int .i64 t.kind, .slice a' us.length c'], .slice ib ids.length ie] X fun e w' => (∃ a' c', e = .returned (.tuple #[.agg #[.int .i64 t.id, .string t.nm, .int .i64 t.rep, .int .i64 t.kind, .slice a' us.length c'], .nilIface]) ∧ LiesN w' (fun b => X.heap.size ≤ b) a' us ∧ us.length ≤ c') ∧ Below X.heap.size X w') := fun X a' c' ib ie hX hl hc hi => nst_project hdr hsr hvr (by omega) ids ib ie (by omega) HIx.out hagl hne hus2 a' c' _ X hl hc hi (HEr.out X hX) (HGo.out X hX)
        obtain ⟨w6, HW6, HP6, HB6'⟩ := one_box w5 #[.int .i64 t.id, .string t.nm, .int .i64 t.rep, .int .i64 t.kind, .slice a' us.length c'] 24
        have HB6 : Hid (Below W.heap.size W w6) := HB5.out.trans (HB6'.out.mono HB5.out.size)
        have HX6 : Hid (w6.heap[W.heap.size]? = some (.cells #[.int .i64 t.id, .string t.nm, .int .i64 t.rep, .int .i64 t.kind, .slice a t.sub.length c] 24 (0, 0))) := blk_keep HB6'.out HX5.out
        have HLp6 : Hid (LiesN w6 (fun b => W.heap.size ≤ b) a' us) := (LiesN.stay (W' := w5) hl' (fun b h _ => Nat.le_trans HB4.out.size h) (fun _ _ _ => rfl)).keep HB6'.out
        have hll : (lvL [] t.sub).length ≤ 2000 := by
          have h1 := lfI_len (ndL t.sub)
          rw [← lv_idsL t.sub [], List.length_map, ndL_len] at h1
          have h2 := Tr.cnt_eq t
          omega
        have HSub : Hid (List.Sublist (lvL [] us) (lvL [] t.sub)) := (by show List.Sublist _ _; rw [hlvs2]; exact List.filter_sublist)
        have HNd : Hid ((lvL [] t.sub).map Lf.id).Nodup := hids
        have hl2 := HSub.out.length_le
        clear hv r1 r2 r3 r4 r5 hdB hu hok hk0 hall hne hl' hb5 HPr hask hkr hvr hag HBr2 hdr hcr hsr hlvs hlvs2 hagl hids hus2
        generalize lvL [] us = l2 at HLv2 HSub hl2
        generalize lvL [] t.sub = l1 at HLv1 HSub HNd hll hl2
        obtain ⟨⟨p0, p1, p2, p3, p4⟩, _⟩ := row_five HX6.out
        go_upto_region 7 with fail
        rw [HW6.out]
        go_wp2_with fail
        refine Calls.mono (HOw.out w6 HB6.out) ?_
        rintro e w7 ⟨⟨a7, c7, rfl, hl7, hc7⟩, hb7⟩
        have HB7 : Hid (Below W.heap.size W w7) := HB6.out.trans (hb7.mono HB6.out.size)
        have HC7 : Hid _ := HLv1.out w7 a7 c7 HB7.out (hl7.stay (W' := w7) (fun b h _ => Nat.le_trans HB6.out.size h) (fun _ _ _ => rfl)) hc7
        clear hl7 p0 p1 p2 p3 p4
        go_wp2_with fail
        refine Calls.mono HC7.out ?_
        rintro e w8 ⟨⟨lv, rfl, hlv⟩, hb8⟩
        obtain ⟨la, lc, rfl⟩ : ∃ la lc, lv = .slice la l1.length lc := (by obtain ⟨pvs, _, h2, _⟩ := hlv; exact own_slC h2)
        have hb68 : Below w6.heap.size w6 w8 := hb7.trans (hb8.mono hb7.size)
        have HB8 : Hid (Below W.heap.size W w8) := HB6.out.trans (hb68.mono HB6.out.size)
        have HP8 : Hid (w8.heap[w5.heap.size]? = some (.cells #[.int .i64 t.id, .string t.nm, .int .i64 t.rep, .int .i64 t.kind, .slice a' us.length c'] 24 (0, 0))) := blk_keep hb68 HP6.out
        have HLp8 : Hid (LiesN w8 (fun b => W.heap.size ≤ b) a' us) := HLp6.out.keep hb68
        have HV8 : Hid (LvX 39 w8 w7.heap.size (.slice la l1.length lc) l1) := hlv
        have HC8 : Hid _ := HLv2.out w8 a' c' HB8.out HLp8.out hc'
        obtain ⟨⟨q0, q1, q2, q3, q4⟩, _⟩ := row_five HP8.out
        clear hlv hb7 hb8 hb68 HC7
        go_wp2_with fail
        refine Calls.mono HC8.out ?_
        rintro e w9 ⟨⟨lv, rfl, hlv⟩, hb9⟩
        obtain ⟨ma, mc, rfl⟩ : ∃ ma mc, lv = .slice ma l2.length mc := (by obtain ⟨pvs, _, h2, _⟩ := hlv; exact own_slC h2)
        have HB9 : Hid (Below W.heap.size W w9) := HB8.out.trans (hb9.mono HB8.out.size)
        have HP9 : Hid (w9.heap[w5.heap.size]? = some (.cells #[.int .i64 t.id, .string t.nm, .int .i64 t.rep, .int .i64 t.kind, .slice a' us.length c'] 24 (0, 0))) := blk_keep hb9 HP8.out
        have HLp9 : Hid (LiesN w9 (fun b => W.heap.size ≤ b) a' us) := HLp8.out.keep hb9
        have HV9 : Hid (LvX 39 w9 w7.heap.size (.slice la l1.length lc) l1) := HV8.out.keep hb9
        have HU9 : Hid (LvX 39 w9 w8.heap.size (.slice ma l2.length mc) l2) := hlv
        have HC9 : Hid _ := HVl.out w9 a' c' HB9.out HLp9.out hc'
        clear hlv hb9 HC8 q0 q1 q2 q3 q4
        obtain ⟨⟨q0, q1, q2, q3, q4⟩, _⟩ := row_five HP9.out
        go_wp2_with fail
        refine Calls.mono HC9.out ?_
        rintro e wa ⟨rfl, hba⟩
        have HBa : Hid (Below W.heap.size W wa) := HB9.out.trans (hba.mono HB9.out.size)
        have HPa : Hid (wa.heap[w5.heap.size]? = some (.cells #[.int .i64 t.id, .string t.nm, .int .i64 t.rep, .int .i64 t.kind, .slice a' us.length c'] 24 (0, 0))) := blk_keep hba HP9.out
        have HLpa : Hid (LiesN wa (fun b => W.heap.size ≤ b) a' us) := HLp9.out.keep hba
        have HVa : Hid (LvX 39 wa w7.heap.size (.slice la l1.length lc) l1) := HV9.out.keep hba
        have HUa : Hid (LvX 39 wa w8.heap.size (.slice ma l2.length mc) l2) := HU9.out.keep hba
        clear hba HC9 q0 q1 q2 q3 q4
        go_wp2_with fail
        go_loopw [12, 13] (fun y x wr => ∃ i k : Nat, i ≤ l2.length ∧ k ≤ l1.length ∧ x = .int .i64 i ∧ y = .int .i64 k ∧ Hid (List.Sublist (l2.drop i) (l1.drop k)) ∧ Hid (Below wa.heap.size wa wr)) (fun _ x _ => l2.length - (intOf x).toNat)
        case atStart => exact ⟨0, 0, Nat.zero_le _, Nat.zero_le _, rfl, rfl, HSub.out, Below.refl _ _⟩
        case round =>
          obtain ⟨i, k, hik, hkk, rfl, rfl, HSb, HBr⟩ := hrel
          rename World => wr
          by_cases hlt : i < l2.length
          · have qi : decide ((i : Int) < (l2.length : Int)) = true := by simp; omega
            go_wp2_with fail
            go_loopw [12] (fun y wr' => ∃ k : Nat, k ≤ l1.length ∧ y = .int .i64 k ∧ Hid (List.Sublist (l2.drop i) (l1.drop k)) ∧ Hid (Below wa.heap.size wa wr')) (fun y _ => l1.length - (intOf y).toNat)
            case atStart => exact ⟨k, hkk, rfl, HSb, HBr⟩
            case round =>
              clear HSb hkk
              obtain ⟨k', hkk, rfl, HSb, HBq⟩ := hrel
              rename World => wq
              have hk1 : k' < l1.length := by
                have h := HSb.out
                rw [List.drop_eq_getElem_cons hlt] at h
                have h2 := sub_head h
                simp at h2
                omega
              obtain ⟨g1, pa, pc, rfl, d0, d1, d2, d3, d4, hp1, hm1⟩ := (HVa.out.keep HBq.out).at_ k' hk1
              obtain ⟨g2, pa2, pc2, rfl, e0, e1, e2, e3, e4, hp2, hm2⟩ := (HUa.out.keep HBq.out).at_ i hlt
              clear hp1 hm1 hp2 hm2
              have qk : decide ((k' : Int) < (l1.length : Int)) = true := by simp; omega
              have qe : ((k' : Int) == (l1.length : Int)) = false := by simp; omega
              obtain ⟨x, HXx⟩ := hid_name l1[k'].id
              obtain ⟨y, HYy⟩ := hid_name l2[i].id
              rw [HXx.out] at d0
              rw [HYy.out] at e0
              by_cases hxy : x = y
              · have q3 : (x != y) = false := by simp [hxy]
                have HEq : Hid (l1[k'] = l2[i]) := ls_at HNd.out HSb.out hlt hk1 (by rw [HXx.out, HYy.out, hxy])
                rw [HEq.out] at d2 d3
                have HSn : Hid (List.Sublist (l2.drop (i + 1)) (l1.drop k')) := (by
                  have h := HSb.out
                  rw [List.drop_eq_getElem_cons hlt] at h
                  exact (List.sublist_cons_self _ _).trans h)
                clear hxy
                go_upto_region 15 with fail
                go_quiet (fail)
                go_upto_region 17 with fail
                go_quiet (fail)
                go_wp2
                go_roundw
                case rel => exact ⟨i + 1, k', by omega, by omega, by go_num, rfl, HSn, by first | exact below_dN (below_dN HBq.out _) _ | exact below_dN HBq.out _ | exact HBq.out⟩
                case measure => simp [intOf]; omega
              · have q3 : (x != y) = true := by simp [hxy]
                have HSn : Hid (List.Sublist (l2.drop i) (l1.drop (k' + 1))) := (by
                  have h := HSb.out
                  rw [List.drop_eq_getElem_cons hk1] at h
                  rw [List.drop_eq_getElem_cons hlt] at h ⊢
                  exact sub_next h (fun e => hxy (by rw [← HXx.out, ← HYy.out, e])))
                clear hxy
                go_upto_region 15 with fail
                go_quiet (fail)
                go_wp2
                go_roundw
                case rel => exact ⟨k' + 1, by omega, by go_num, HSn, by first | exact below_dN HBq.out _ | exact HBq.out⟩
                case measure => simp [intOf]; omega
          · obtain rfl : i = l2.length := by omega
            have qi : decide ((l2.length : Int) < (l2.length : Int)) = false := by simp
            have HBWr : Hid (Below W.heap.size W wr) := HBa.out.trans (HBr.out.mono HBa.out.size)
            have HPr1 : Hid (wr.heap[w5.heap.size]? = some (.cells #[.int .i64 t.id, .string t.nm, .int .i64 t.rep, .int .i64 t.kind, .slice a' us.length c'] 24 (0, 0))) := blk_keep HBr.out HPa.out
            have HLpr : Hid (LiesN wr (fun b => W.heap.size ≤ b) a' us) := HLpa.out.keep HBr.out
            have HC1 : Hid _ := HOw2.out wr a' c' HLpr.out
            obtain ⟨⟨q0, q1, q2, q3, q4⟩, _⟩ := row_five HPr1.out
            go_wp2_with fail
            refine Calls.mono HC1.out ?_
            rintro e x1 ⟨⟨a1, c1, rfl, hl1, hc1⟩, hb1⟩
            have HX1 : Hid (Below W.heap.size W x1) := HBWr.out.trans (hb1.mono HBWr.out.size)
            clear q0 q1 q2 q3 q4
            go_wp2_with fail
            refine Calls.mono (HIo.out x1 HX1.out) ?_
            rintro e x2 ⟨⟨ib2, ie2, rfl, hli2⟩, hb2⟩
            have HX2' : Hid (Below W.heap.size W x2) := HX1.out.trans (hb2.mono HX1.out.size)
            have HC2 : Hid _ := HPr2.out x2 a1 c1 ib2 ie2 HX2'.out ((hl1.stay (W' := x1) (fun b h _ => Nat.le_trans HBWr.out.size h) (fun _ _ _ => rfl)).keep hb2) hc1 hli2
            clear hl1 hli2
            go_wp2_with fail
            refine Calls.mono HC2.out ?_
            rintro e x3 ⟨⟨a3', c3', rfl, hl3, hc3'⟩, hb3⟩
            obtain ⟨x4, HW4, HN4, HB4'⟩ := one_box x3 #[.int .i64 t.id, .string t.nm, .int .i64 t.rep, .int .i64 t.kind, .slice a3' us.length c3'] 24
            have hbr4 : Below wr.heap.size wr x4 := ((hb1.trans (hb2.mono hb1.size)).trans (hb3.mono (hb1.trans (hb2.mono hb1.size)).size)).trans (HB4'.out.mono ((hb1.trans (hb2.mono hb1.size)).trans (hb3.mono (hb1.trans (hb2.mono hb1.size)).size)).size)
            have HX4 : Hid (Below W.heap.size W x4) := HBWr.out.trans (hbr4.mono HBWr.out.size)
            have HP4 : Hid (x4.heap[w5.heap.size]? = some (.cells #[.int .i64 t.id, .string t.nm, .int .i64 t.rep, .int .i64 t.kind, .slice a' us.length c'] 24 (0, 0))) := blk_keep hbr4 HPr1.out
            have HSn : Hid _ := HSm2.out x4 a3' c3' a' c' ((hl3.keep HB4'.out).stay (fun _ _ _ => trivial) (fun _ _ _ => rfl)) (HLpr.out.keep hbr4) hc3' hc'
            obtain ⟨⟨p0, p1, p2, p3, p4⟩, _⟩ := row_five HN4.out
            obtain ⟨⟨q0, q1, q2, q3, q4⟩, _⟩ := row_five HP4.out
            clear hl3 hb1 hb2 hb3 hbr4 HC1 HC2
            go_upto_region 20 with fail
            rw [HW4.out]
            go_wp2_with fail
            refine Calls.mono HSn.out ?_
            rintro e x5 ⟨rfl, hb5⟩
            have HX5 : Hid (Below W.heap.size W x5) := HX4.out.trans (hb5.mono HX4.out.size)
            clear hb5
            go_wp2
            go_ret
            exact ⟨rfl, HX5.out⟩
    · obtain ⟨ty, ev, hx⟩ : ∃ ty ev, vldV (.iface eb.1 eb.2) (.iface es.1 es.2) (.iface en.1 en.2) t = .iface ty ev := vld_wrong hv
      have HPr : Hid _ := project_err t n HD.out hn HSm.out ib ids.length ie a3 c3 _ w4 HL4.out hc3 eb es en (HEr.out w4 HB4.out) ty ev hx
      clear hv hx
      unfold nodeV at HPr
      go_wp2_with fail
      refine Calls.mono HPr.out ?_
      rintro e w5 ⟨rfl, hb5⟩
      have HB5 : Hid (∀ ob, Below W.heap.size W (w5.alloc ob)) := fun ob => (HB4.out.trans (hb5.mono HB4.out.size)).alloc (HB4.out.trans (hb5.mono HB4.out.size)).size ob
      clear hb5
      go_wp2
      go_ret
      exact ⟨rfl, HB5.out _⟩
end Go.Proofs.YtnfjpngmadoflaaGreatDoor
