/-
  The reference's ColumnError, walked.
-/
import Derived.Test.YtkcobccmifkjcaaDoorBBColH
namespace Go.Proofs.YtkcobccmifkjcaaDoor
open Go.RowKit
theorem below_dQ {B : Nat} {a w : World} (h : Below B a w) (n : Nat) : Below B a (w.drewN n) := h.trans ⟨rfl, rfl, rfl, Nat.le_refl _, fun _ _ => rfl⟩
set_option maxRecDepth 100000 in
set_option maxHeartbeats 6400000 in
theorem columnError_any (lid kind mr md cid : Int) (pa ra da va : Option Addr) (pn pc rc dc vc : Nat) (rs ds : List Int) (vs : List Vl) (W : World)
    (hn : rs.length ≤ 1048576) (hv : vs.length ≤ 1048576) (hr : Lies W ra (i64s rs)) (hd : Lies W da (i64s ds)) (hvs : LiesV W va vs) :
    Calls Tryd.prog 9 #[.agg #[.int .i64 lid, .int .i64 kind, .int .i64 mr, .int .i64 md, .slice pa pn pc], colV cid ra rs.length rc da ds.length dc va vs.length vc, .bool false] W fun e w' => (∃ c at_, e = .returned (.agg (rfl2 c at_)) ∧ ColErr lid kind mr md cid rs ds vs c at_) ∧ Below W.heap.size W w' := by
  have HR : Hid (Lies W ra (i64s rs)) := hr
  have HD : Hid (Lies W da (i64s ds)) := hd
  have HVs : Hid (LiesV W va vs) := hvs
  clear hr hd hvs
  have hC0 : CEr W lid kind mr md (.slice pa pn pc) cid (.slice ra rs.length rc) (.slice da ds.length dc) (.slice va vs.length vc) (((W.alloc (.cells #[.int .i64 lid, .int .i64 kind, .int .i64 mr, .int .i64 md, .slice pa pn pc] 24)).alloc (.cells #[.int .i64 cid, .slice ra rs.length rc, .slice da ds.length dc, .slice va vs.length vc] 27)).alloc (.cells (rfl2 0 0) 31)) := by
    refine ⟨blk_alloc (blk_alloc (heap_alloc_new W _)), blk_alloc ?_, ?_, (((Below.refl _ _).alloc (Nat.le_refl _) _).alloc (by simp) _).alloc (by simp; omega) _⟩
    · have h := heap_alloc_new (W.alloc (.cells #[.int .i64 lid, .int .i64 kind, .int .i64 mr, .int .i64 md, .slice pa pn pc] 24)) (.cells #[.int .i64 cid, .slice ra rs.length rc, .slice da ds.length dc, .slice va vs.length vc] 27)
      rwa [show (W.alloc (.cells #[.int .i64 lid, .int .i64 kind, .int .i64 mr, .int .i64 md, .slice pa pn pc] 24)).heap.size = W.heap.size + 1 by simp] at h
    · have h := heap_alloc_new ((W.alloc (.cells #[.int .i64 lid, .int .i64 kind, .int .i64 mr, .int .i64 md, .slice pa pn pc] 24)).alloc (.cells #[.int .i64 cid, .slice ra rs.length rc, .slice da ds.length dc, .slice va vs.length vc] 27)) (.cells (rfl2 0 0) 31)
      rwa [show ((W.alloc (.cells #[.int .i64 lid, .int .i64 kind, .int .i64 mr, .int .i64 md, .slice pa pn pc] 24)).alloc (.cells #[.int .i64 cid, .slice ra rs.length rc, .slice da ds.length dc, .slice va vs.length vc] 27)).heap.size = W.heap.size + 1 + 1 by simp] at h
  have HC0 : Hid _ := hC0
  clear hC0
  unfold colV
  go_enter Tryd.func9, Tryd.ntmps9
  go_wp2_with fail
  refine (isLeafR_any lid kind mr md pa pn pc _).mono ?_
  obtain ⟨b0, Hb0⟩ : ∃ b, Hid (isLfB kind mr md = b) := ⟨_, rfl⟩
  rw [Hb0.out]
  rintro e w1 ⟨rfl, hb1⟩
  have HC1 : Hid (CEr W lid kind mr md (.slice pa pn pc) cid (.slice ra rs.length rc) (.slice da ds.length dc) (.slice va vs.length vc) w1) := HC0.out.keep hb1
  clear hb1 HC0
  obtain ⟨⟨p0, p1, p2, p3, p4⟩, _⟩ := row_five HC1.out.lf
  obtain ⟨k0, k1, k2, k3⟩ := row_four HC1.out.co
  cases b0
  · go_wp2_with fail
    refine (bare_b 3 _).mono ?_
    rintro e w9 ⟨rfl, hb9⟩
    have HC9 : Hid (CEr W lid kind mr md (.slice pa pn pc) cid (.slice ra rs.length rc) (.slice da ds.length dc) (.slice va vs.length vc) w9) := HC1.out.keep hb9
    clear hb9
    obtain ⟨⟨u0, u1⟩, u2, u3⟩ := row_two HC9.out.re
    go_wp2_with fail
    exact bodyPost_ret (v := .agg (rfl2 3 (-1))) (results_cell_row Tryd.results9 _ _ (W.heap.size + 1 + 1) 31 (rfl2 3 (-1)) (0, 0) _ rfl (row_put HC9.out.re 3 (-1)) Tryd.underlying31 rfl (by kernel_rfl)) rfl ⟨⟨3, (-1), rfl, (.inl ⟨rfl, rfl, by rw [Hb0.out]; rfl⟩)⟩, (HC9.out.old.setCell (by simp; omega) _).setCell (by simp; omega) _⟩

  · by_cases hid : lid = cid
    · subst hid
      have q0 : (lid != lid) = false := by simp
      by_cases hln : rs.length = ds.length
      · have q1 : ((rs.length : Int) != (ds.length : Int)) = false := by simp; omega
        have HLn : Hid (rs.length = ds.length) := hln
        clear hln
        go_wp2_with fail
        clear p0 p1 p2 p3 p4 k0 k1 k2 k3
        go_loopw [7, 8] (fun y x wr => ∃ i : Nat, i ≤ rs.length ∧ x = .int .i64 i ∧ y = .int .i64 (cntE md (ds.take i) : Nat) ∧ Hid (∀ j (h : j < rs.length) (h' : j < ds.length), j < i → btw 0 rs[j] mr = true ∧ btw 0 ds[j] md = true) ∧ Hid (CEr W lid kind mr md (.slice pa pn pc) lid (.slice ra rs.length rc) (.slice da ds.length dc) (.slice va vs.length vc) wr)) (fun _ x _ => rs.length - (intOf x).toNat)
        case atStart => exact ⟨0, Nat.zero_le _, rfl, rfl, fun j _ _ h => absurd h (Nat.not_lt_zero _), HC1⟩
        case round =>
          clear HC1
          obtain ⟨i, hi, rfl, rfl, HA, HC⟩ := hrel
          obtain ⟨⟨p0, p1, p2, p3, p4⟩, _⟩ := row_five HC.out.lf
          obtain ⟨k0, k1, k2, k3⟩ := row_four HC.out.co
          by_cases hlt : i < rs.length
          · have hlt2 : i < ds.length := by rw [← HLn.out]; exact hlt
            obtain ⟨rb, ro, rfl, hr⟩ := lies_ints (HR.out.keep HC.out.old) i hlt
            obtain ⟨db, dO, rfl, hd⟩ := lies_ints (HD.out.keep HC.out.old) i hlt2
            obtain ⟨r, hrE⟩ : ∃ r, r = rs[i] := ⟨_, rfl⟩
            obtain ⟨d, hdE⟩ : ∃ d, d = ds[i] := ⟨_, rfl⟩
            rw [← hrE] at hr
            rw [← hdE] at hd
            have HRm : Hid (r ∈ rs) := (by show _ ∈ _; rw [hrE]; exact List.getElem_mem _)
            have HDm : Hid (d ∈ ds) := (by show _ ∈ _; rw [hdE]; exact List.getElem_mem _)
            have HRE : Hid (r = rs[i]) := hrE
            have HDE : Hid (d = ds[i]) := hdE
            have hcl : cntE md (ds.take i) ≤ i := Nat.le_trans (List.length_filter_le _ _) (by simp; omega)
            obtain ⟨kk, hk⟩ : ∃ k, cntE md (ds.take i) = k := ⟨_, rfl⟩
            have HS : Hid (cntE md (ds.take (i + 1)) = kk + if (d == md) = true then 1 else 0) := (by
              show _ = _
              rw [cntE, List.take_succ_eq_append_getElem hlt2, List.filter_append, List.length_append]
              have hk' : ((ds.take i).filter (fun x => x == md)).length = kk := hk
              rw [hk', ← hdE]
              congr 1
              cases h : (d == md) <;> simp [List.filter, h])
            rw [hk] at hcl ⊢
            clear hk hrE hdE
            by_cases h1 : r < 0
            · have q1 : decide (r < 0) = true := by rw [decide_eq_true_iff]; omega
              go_wp2_with fail
              go_quiet (fail)
              go_wp2_with fail
              refine (bare_b 3 _).mono ?_
              rintro e w9 ⟨rfl, hb9⟩
              have HC9 : Hid _ := HC.out.keep ((below_dQ (Below.refl _ _) _).trans hb9)
              clear hb9
              obtain ⟨⟨u0, u1⟩, u2, u3⟩ := row_two HC9.out.re
              go_wp2_with fail
              exact bodyPost_ret (v := .agg (rfl2 3 (-1))) (results_cell_row Tryd.results9 _ _ (W.heap.size + 1 + 1) 31 (rfl2 3 (-1)) (0, 0) _ rfl (row_put HC9.out.re 3 (-1)) Tryd.underlying31 rfl (by kernel_rfl)) rfl ⟨⟨3, (-1), rfl, colErr_no fun h => absurd ((fitB_iff.1 h).2.2.2.1 r HRm.out) (by rw [btw]; simp; omega)⟩, (HC9.out.old.setCell (by simp; omega) _).setCell (by simp; omega) _⟩
            · by_cases h2 : mr < r
              · have q1 : decide (r < 0) = false := by rw [decide_eq_false_iff_not]; omega
                have q2 : decide (mr < r) = true := by rw [decide_eq_true_iff]; omega
                go_wp2_with fail
                go_quiet (fail)
                go_wp2_with fail
                refine (bare_b 3 _).mono ?_
                rintro e w9 ⟨rfl, hb9⟩
                have HC9 : Hid _ := HC.out.keep ((below_dQ (Below.refl _ _) _).trans hb9)
                clear hb9
                obtain ⟨⟨u0, u1⟩, u2, u3⟩ := row_two HC9.out.re
                go_wp2_with fail
                exact bodyPost_ret (v := .agg (rfl2 3 (-1))) (results_cell_row Tryd.results9 _ _ (W.heap.size + 1 + 1) 31 (rfl2 3 (-1)) (0, 0) _ rfl (row_put HC9.out.re 3 (-1)) Tryd.underlying31 rfl (by kernel_rfl)) rfl ⟨⟨3, (-1), rfl, colErr_no fun h => absurd ((fitB_iff.1 h).2.2.2.1 r HRm.out) (by rw [btw]; simp; omega)⟩, (HC9.out.old.setCell (by simp; omega) _).setCell (by simp; omega) _⟩
              · by_cases h3 : d < 0
                · have q1 : decide (r < 0) = false := by rw [decide_eq_false_iff_not]; omega
                  have q2 : decide (mr < r) = false := by rw [decide_eq_false_iff_not]; omega
                  have q3 : decide (d < 0) = true := by rw [decide_eq_true_iff]; omega
                  go_wp2_with fail
                  go_quiet (fail)
                  go_wp2_with fail
                  refine (bare_b 3 _).mono ?_
                  rintro e w9 ⟨rfl, hb9⟩
                  have HC9 : Hid _ := HC.out.keep ((below_dQ (Below.refl _ _) _).trans hb9)
                  clear hb9
                  obtain ⟨⟨u0, u1⟩, u2, u3⟩ := row_two HC9.out.re
                  go_wp2_with fail
                  exact bodyPost_ret (v := .agg (rfl2 3 (-1))) (results_cell_row Tryd.results9 _ _ (W.heap.size + 1 + 1) 31 (rfl2 3 (-1)) (0, 0) _ rfl (row_put HC9.out.re 3 (-1)) Tryd.underlying31 rfl (by kernel_rfl)) rfl ⟨⟨3, (-1), rfl, colErr_no fun h => absurd ((fitB_iff.1 h).2.2.2.2.1 d HDm.out) (by rw [btw]; simp; omega)⟩, (HC9.out.old.setCell (by simp; omega) _).setCell (by simp; omega) _⟩
                · by_cases h4 : md < d
                  · have q1 : decide (r < 0) = false := by rw [decide_eq_false_iff_not]; omega
                    have q2 : decide (mr < r) = false := by rw [decide_eq_false_iff_not]; omega
                    have q3 : decide (d < 0) = false := by rw [decide_eq_false_iff_not]; omega
                    have q4 : decide (md < d) = true := by rw [decide_eq_true_iff]; omega
                    go_wp2_with fail
                    go_quiet (fail)
                    go_wp2_with fail
                    refine (bare_b 3 _).mono ?_
                    rintro e w9 ⟨rfl, hb9⟩
                    have HC9 : Hid _ := HC.out.keep ((below_dQ (Below.refl _ _) _).trans hb9)
                    clear hb9
                    obtain ⟨⟨u0, u1⟩, u2, u3⟩ := row_two HC9.out.re
                    go_wp2_with fail
                    exact bodyPost_ret (v := .agg (rfl2 3 (-1))) (results_cell_row Tryd.results9 _ _ (W.heap.size + 1 + 1) 31 (rfl2 3 (-1)) (0, 0) _ rfl (row_put HC9.out.re 3 (-1)) Tryd.underlying31 rfl (by kernel_rfl)) rfl ⟨⟨3, (-1), rfl, colErr_no fun h => absurd ((fitB_iff.1 h).2.2.2.2.1 d HDm.out) (by rw [btw]; simp; omega)⟩, (HC9.out.old.setCell (by simp; omega) _).setCell (by simp; omega) _⟩
                  · have q1 : decide (r < 0) = false := by rw [decide_eq_false_iff_not]; omega
                    have q2 : decide (mr < r) = false := by rw [decide_eq_false_iff_not]; omega
                    have q3 : decide (d < 0) = false := by rw [decide_eq_false_iff_not]; omega
                    have q4 : decide (md < d) = false := by rw [decide_eq_false_iff_not]; omega
                    have HA2 : Hid (∀ j (h : j < rs.length) (h' : j < ds.length), j < i + 1 → btw 0 rs[j] mr = true ∧ btw 0 ds[j] md = true) := fun j h h' hj => if e : j = i then (by
                      subst e
                      rw [← HRE.out, ← HDE.out, btw, btw]
                      simp; omega) else HA.out j h h' (by omega)
                    by_cases h5 : d = md
                    · have q5 : (d == md) = true := by simp [h5]
                      have HN : Hid (cntE md (ds.take (i + 1)) = kk + 1) := (by show _ = _; rw [HS.out, q5]; rfl)
                      clear h5
                      go_wp2_with fail
                      go_quiet (fail)
                      go_wp2_with fail
                      go_quiet (fail)
                      go_wp2_with fail
                      go_roundw
                      case rel => exact ⟨i + 1, by omega, by go_num, by rw [HN.out]; go_num, HA2, HC.out.keep (below_dQ (Below.refl _ _) _)⟩
                      case measure => simp [intOf]; omega

                    · have q5 : (d == md) = false := by simp [h5]
                      have HN : Hid (cntE md (ds.take (i + 1)) = kk) := (by show _ = _; rw [HS.out, q5]; rfl)
                      clear h5
                      go_wp2_with fail
                      go_quiet (fail)
                      go_wp2_with fail
                      go_quiet (fail)
                      go_wp2_with fail
                      go_roundw
                      case rel => exact ⟨i + 1, by omega, by go_num, by rw [HN.out], HA2, HC.out.keep (below_dQ (Below.refl _ _) _)⟩
                      case measure => simp [intOf]; omega

          · obtain rfl : i = rs.length := by omega
            have HT : Hid (cntE md (ds.take rs.length) = cntE md ds) := (by show _ = _; rw [HLn.out, List.take_length])
            rw [HT.out]
            obtain ⟨kk, hk⟩ : ∃ k, cntE md ds = k := ⟨_, rfl⟩
            have HK : Hid (cntE md ds = kk) := hk
            rw [hk]
            clear hk HT
            by_cases hkv : kk = vs.length
            · subst hkv
              have q1 : ((vs.length : Int) != (vs.length : Int)) = false := by simp
              by_cases hl0 : rs.length = 0
              · have q2 : decide ((0 : Int) < (rs.length : Int)) = false := by rw [decide_eq_false_iff_not]; omega
                have HH : Hid (headB rs = false) := (by show _ = _; rw [List.eq_nil_of_length_eq_zero hl0]; rfl)
                go_wp2_with fail
                have HFit : Hid ((isLfB kind mr md && fitB lid mr md lid rs ds vs.length) = true) := (by
                  show _ = _
                  rw [Hb0.out, Bool.true_and]
                  refine fitB_iff.2 ⟨rfl, HLn.out, HH.out, fun x hx => ?_, fun x hx => ?_, HK.out.symm⟩
                  · obtain ⟨j, hj, rfl⟩ := List.mem_iff_getElem.1 hx
                    exact (HA.out j hj (by rw [← HLn.out]; exact hj) hj).1
                  · obtain ⟨j, hj, rfl⟩ := List.mem_iff_getElem.1 hx
                    exact (HA.out j (by rw [HLn.out]; exact hj) hj (by rw [HLn.out]; exact hj)).2)
                clear HA HH HK HR HD Hb0
                try clear hl0
                clear p0 p1 p2 p3 p4 k0 k1 k2 k3
                try clear hr
                go_loopw [9] (fun x wq => ∃ i : Nat, i ≤ vs.length ∧ x = .int .i64 i ∧ Hid (∀ j (h : j < vs.length), j < i → badV kind vs[j] = false) ∧ Hid (CEr W lid kind mr md (.slice pa pn pc) lid (.slice ra rs.length rc) (.slice da ds.length dc) (.slice va vs.length vc) wq)) (fun x _ => vs.length - (intOf x).toNat)
                case atStart => exact ⟨0, Nat.zero_le _, rfl, fun j _ h => absurd h (Nat.not_lt_zero _), HC⟩
                case round =>
                  clear HC
                  obtain ⟨i, hi, rfl, HA, HC⟩ := hrel
                  obtain ⟨⟨p0, p1, p2, p3, p4⟩, _⟩ := row_five HC.out.lf
                  obtain ⟨k0, k1, k2, k3⟩ := row_four HC.out.co
                  by_cases hlt : i < vs.length
                  · obtain ⟨vb, vo, rfl, d0, d1, d2⟩ := (HVs.out.keep HC.out.old) i hlt
                    obtain ⟨b, Hb⟩ : ∃ b, Hid (badV kind vs[i] = !b) := ⟨okV kind vs[i].k vs[i].n vs[i].s.size, badV_okV _ _⟩
                    have HOk : Hid (okV kind vs[i].k vs[i].n vs[i].s.size = b) := (by show _ = _; have h := Hb.out; rw [badV_okV] at h; simpa using h)
                    go_wp2_with fail
                    go_region_with (go_at_call 20; refine (isValueR_any kind vs[i].k vs[i].n vs[i].s _).mono ?_; rw [HOk.out]; rintro e w2 ⟨rfl, hb2⟩)
                    all_goals
                      have HC2 : Hid _ := HC.out.keep ((Below.refl _ _).drew.trans hb2)
                      clear hb2 p0 p1 p2 p3 p4 k0 k1 k2 k3 d0 d1 d2 HC
                      obtain ⟨⟨u0, u1⟩, u2, u3⟩ := row_two HC2.out.re
                      cases b
                      · have HBd : Hid (badV kind vs[i] = true) := Hb.out
                        go_wp2_with fail
                        exact bodyPost_ret (v := .agg (rfl2 4 (i : Int))) (results_cell_row Tryd.results9 _ _ (W.heap.size + 1 + 1) 31 (rfl2 4 (i : Int)) (0, 0) _ rfl (row_put HC2.out.re 4 (i : Int)) Tryd.underlying31 rfl (by kernel_rfl)) rfl ⟨⟨4, (i : Int), rfl, (.inr ⟨HFit.out, .inr ⟨i, hlt, rfl, rfl, HBd.out, fun j h hj => HA.out j h hj⟩⟩)⟩, (HC2.out.old.setCell (by simp; omega) _).setCell (by simp; omega) _⟩
                      · have HBd : Hid (badV kind vs[i] = false) := Hb.out
                        go_wp2_with fail
                        go_roundw
                        case rel => exact ⟨i + 1, by omega, by go_num, fun j h hj => if e : j = i then (by subst e; exact HBd.out) else HA.out j h (by omega), HC2⟩
                        case measure => simp [intOf]; omega
                  · obtain rfl : i = vs.length := by omega
                    go_wp2_with fail
                    refine (fine_b _).mono ?_
                    rintro e w9 ⟨rfl, hb9⟩
                    have HC9 : Hid _ := HC.out.keep hb9
                    clear hb9
                    obtain ⟨⟨u0, u1⟩, u2, u3⟩ := row_two HC9.out.re
                    go_wp2_with fail
                    exact bodyPost_ret (v := .agg (rfl2 0 (-1))) (results_cell_row Tryd.results9 _ _ (W.heap.size + 1 + 1) 31 (rfl2 0 (-1)) (0, 0) _ rfl (row_put HC9.out.re 0 (-1)) Tryd.underlying31 rfl (by kernel_rfl)) rfl ⟨⟨0, (-1), rfl, (.inr ⟨HFit.out, .inl ⟨rfl, rfl, fun j h => HA.out j h h⟩⟩)⟩, (HC9.out.old.setCell (by simp; omega) _).setCell (by simp; omega) _⟩

              · have q2 : decide ((0 : Int) < (rs.length : Int)) = true := by rw [decide_eq_true_iff]; omega
                obtain ⟨rb, ro, rfl, hr⟩ := lies_ints (HR.out.keep HC.out.old) 0 (by omega)
                obtain ⟨r, hrE⟩ : ∃ r, r = rs[0] := ⟨_, rfl⟩
                have HH : Hid (headB rs = !(r == 0)) := (by show _ = _; rw [headB_at rs (by omega), hrE])
                rw [← hrE] at hr
                simp only [Nat.add_zero] at hr
                clear hrE
                by_cases hz : r = 0
                · subst hz
                  have q3 : ((0 : Int) != 0) = false := by simp
                  go_wp2_with fail
                  have HFit : Hid ((isLfB kind mr md && fitB lid mr md lid rs ds vs.length) = true) := (by
                    show _ = _
                    rw [Hb0.out, Bool.true_and]
                    refine fitB_iff.2 ⟨rfl, HLn.out, HH.out, fun x hx => ?_, fun x hx => ?_, HK.out.symm⟩
                    · obtain ⟨j, hj, rfl⟩ := List.mem_iff_getElem.1 hx
                      exact (HA.out j hj (by rw [← HLn.out]; exact hj) hj).1
                    · obtain ⟨j, hj, rfl⟩ := List.mem_iff_getElem.1 hx
                      exact (HA.out j (by rw [HLn.out]; exact hj) hj (by rw [HLn.out]; exact hj)).2)
                  clear HA HH HK HR HD Hb0
                  try clear hl0
                  clear p0 p1 p2 p3 p4 k0 k1 k2 k3
                  try clear hr
                  go_loopw [9] (fun x wq => ∃ i : Nat, i ≤ vs.length ∧ x = .int .i64 i ∧ Hid (∀ j (h : j < vs.length), j < i → badV kind vs[j] = false) ∧ Hid (CEr W lid kind mr md (.slice pa pn pc) lid (.slice (some ⟨rb, ro, none⟩) rs.length rc) (.slice da ds.length dc) (.slice va vs.length vc) wq)) (fun x _ => vs.length - (intOf x).toNat)
                  case atStart => exact ⟨0, Nat.zero_le _, rfl, fun j _ h => absurd h (Nat.not_lt_zero _), HC⟩
                  case round =>
                    clear HC
                    obtain ⟨i, hi, rfl, HA, HC⟩ := hrel
                    obtain ⟨⟨p0, p1, p2, p3, p4⟩, _⟩ := row_five HC.out.lf
                    obtain ⟨k0, k1, k2, k3⟩ := row_four HC.out.co
                    by_cases hlt : i < vs.length
                    · obtain ⟨vb, vo, rfl, d0, d1, d2⟩ := (HVs.out.keep HC.out.old) i hlt
                      obtain ⟨b, Hb⟩ : ∃ b, Hid (badV kind vs[i] = !b) := ⟨okV kind vs[i].k vs[i].n vs[i].s.size, badV_okV _ _⟩
                      have HOk : Hid (okV kind vs[i].k vs[i].n vs[i].s.size = b) := (by show _ = _; have h := Hb.out; rw [badV_okV] at h; simpa using h)
                      go_wp2_with fail
                      go_region_with (go_at_call 20; refine (isValueR_any kind vs[i].k vs[i].n vs[i].s _).mono ?_; rw [HOk.out]; rintro e w2 ⟨rfl, hb2⟩)
                      all_goals
                        have HC2 : Hid _ := HC.out.keep ((Below.refl _ _).drew.trans hb2)
                        clear hb2 p0 p1 p2 p3 p4 k0 k1 k2 k3 d0 d1 d2 HC
                        obtain ⟨⟨u0, u1⟩, u2, u3⟩ := row_two HC2.out.re
                        cases b
                        · have HBd : Hid (badV kind vs[i] = true) := Hb.out
                          go_wp2_with fail
                          exact bodyPost_ret (v := .agg (rfl2 4 (i : Int))) (results_cell_row Tryd.results9 _ _ (W.heap.size + 1 + 1) 31 (rfl2 4 (i : Int)) (0, 0) _ rfl (row_put HC2.out.re 4 (i : Int)) Tryd.underlying31 rfl (by kernel_rfl)) rfl ⟨⟨4, (i : Int), rfl, (.inr ⟨HFit.out, .inr ⟨i, hlt, rfl, rfl, HBd.out, fun j h hj => HA.out j h hj⟩⟩)⟩, (HC2.out.old.setCell (by simp; omega) _).setCell (by simp; omega) _⟩
                        · have HBd : Hid (badV kind vs[i] = false) := Hb.out
                          go_wp2_with fail
                          go_roundw
                          case rel => exact ⟨i + 1, by omega, by go_num, fun j h hj => if e : j = i then (by subst e; exact HBd.out) else HA.out j h (by omega), HC2⟩
                          case measure => simp [intOf]; omega
                    · obtain rfl : i = vs.length := by omega
                      go_wp2_with fail
                      refine (fine_b _).mono ?_
                      rintro e w9 ⟨rfl, hb9⟩
                      have HC9 : Hid _ := HC.out.keep hb9
                      clear hb9
                      obtain ⟨⟨u0, u1⟩, u2, u3⟩ := row_two HC9.out.re
                      go_wp2_with fail
                      exact bodyPost_ret (v := .agg (rfl2 0 (-1))) (results_cell_row Tryd.results9 _ _ (W.heap.size + 1 + 1) 31 (rfl2 0 (-1)) (0, 0) _ rfl (row_put HC9.out.re 0 (-1)) Tryd.underlying31 rfl (by kernel_rfl)) rfl ⟨⟨0, (-1), rfl, (.inr ⟨HFit.out, .inl ⟨rfl, rfl, fun j h => HA.out j h h⟩⟩)⟩, (HC9.out.old.setCell (by simp; omega) _).setCell (by simp; omega) _⟩

                · have q3 : (r != 0) = true := by simp [hz]
                  have HZ : Hid (r ≠ 0) := hz
                  clear hz
                  go_wp2_with fail
                  refine (bare_b 3 _).mono ?_
                  rintro e w9 ⟨rfl, hb9⟩
                  have HC9 : Hid _ := HC.out.keep hb9
                  clear hb9
                  obtain ⟨⟨u0, u1⟩, u2, u3⟩ := row_two HC9.out.re
                  go_wp2_with fail
                  exact bodyPost_ret (v := .agg (rfl2 3 (-1))) (results_cell_row Tryd.results9 _ _ (W.heap.size + 1 + 1) 31 (rfl2 3 (-1)) (0, 0) _ rfl (row_put HC9.out.re 3 (-1)) Tryd.underlying31 rfl (by kernel_rfl)) rfl ⟨⟨3, (-1), rfl, colErr_no fun h => absurd (fitB_iff.1 h).2.2.1 (by rw [HH.out]; simp; exact HZ.out)⟩, (HC9.out.old.setCell (by simp; omega) _).setCell (by simp; omega) _⟩

            · have q1 : ((kk : Int) != (vs.length : Int)) = true := by simp; omega
              have HV : Hid (¬ kk = vs.length) := hkv
              clear hkv
              go_wp2_with fail
              refine (bare_b 3 _).mono ?_
              rintro e w9 ⟨rfl, hb9⟩
              have HC9 : Hid _ := HC.out.keep hb9
              clear hb9
              obtain ⟨⟨u0, u1⟩, u2, u3⟩ := row_two HC9.out.re
              go_wp2_with fail
              exact bodyPost_ret (v := .agg (rfl2 3 (-1))) (results_cell_row Tryd.results9 _ _ (W.heap.size + 1 + 1) 31 (rfl2 3 (-1)) (0, 0) _ rfl (row_put HC9.out.re 3 (-1)) Tryd.underlying31 rfl (by kernel_rfl)) rfl ⟨⟨3, (-1), rfl, colErr_no fun h => HV.out (by rw [← HK.out]; exact (fitB_iff.1 h).2.2.2.2.2.symm)⟩, (HC9.out.old.setCell (by simp; omega) _).setCell (by simp; omega) _⟩

      · have q1 : ((rs.length : Int) != (ds.length : Int)) = true := by simp; omega
        have HLn : Hid (¬ rs.length = ds.length) := hln
        clear hln
        go_wp2_with fail
        refine (bare_b 3 _).mono ?_
        rintro e w9 ⟨rfl, hb9⟩
        have HC9 : Hid (CEr W lid kind mr md (.slice pa pn pc) lid (.slice ra rs.length rc) (.slice da ds.length dc) (.slice va vs.length vc) w9) := HC1.out.keep hb9
        clear hb9
        obtain ⟨⟨u0, u1⟩, u2, u3⟩ := row_two HC9.out.re
        go_wp2_with fail
        exact bodyPost_ret (v := .agg (rfl2 3 (-1))) (results_cell_row Tryd.results9 _ _ (W.heap.size + 1 + 1) 31 (rfl2 3 (-1)) (0, 0) _ rfl (row_put HC9.out.re 3 (-1)) Tryd.underlying31 rfl (by kernel_rfl)) rfl ⟨⟨3, (-1), rfl, colErr_no fun h => HLn.out (fitB_iff.1 h).2.1⟩, (HC9.out.old.setCell (by simp; omega) _).setCell (by simp; omega) _⟩

    · have q0 : (lid != cid) = true := by simp [hid]
      have HI : Hid (¬ lid = cid) := hid
      clear hid
      go_wp2_with fail
      refine (bare_b 3 _).mono ?_
      rintro e w9 ⟨rfl, hb9⟩
      have HC9 : Hid (CEr W lid kind mr md (.slice pa pn pc) cid (.slice ra rs.length rc) (.slice da ds.length dc) (.slice va vs.length vc) w9) := HC1.out.keep hb9
      clear hb9
      obtain ⟨⟨u0, u1⟩, u2, u3⟩ := row_two HC9.out.re
      go_wp2_with fail
      exact bodyPost_ret (v := .agg (rfl2 3 (-1))) (results_cell_row Tryd.results9 _ _ (W.heap.size + 1 + 1) 31 (rfl2 3 (-1)) (0, 0) _ rfl (row_put HC9.out.re 3 (-1)) Tryd.underlying31 rfl (by kernel_rfl)) rfl ⟨⟨3, (-1), rfl, colErr_no fun h => HI.out (fitB_iff.1 h).1.symm⟩, (HC9.out.old.setCell (by simp; omega) _).setCell (by simp; omega) _⟩

end Go.Proofs.YtkcobccmifkjcaaDoor
