/-
  shred.Part, walked.
-/
import Derived.Test.YthlnjnoeaicjjaaDoorPColS
import Derived.Test.YthlnjnoeaicjjaaDoorPBColH
namespace Go.Proofs.YthlnjnoeaicjjaaDoor
open Go.RowKit
theorem addr_add0 (a : Addr) : a.add 0 = a := by
  obtain ⟨b, o, r⟩ := a
  unfold Addr.add
  split <;> simp_all
theorem blk_drew {w : World} {g : Nat} {o : Obj} (h : w.heap[g]? = some o) : w.drew.heap[g]? = some o := h
set_option maxRecDepth 100000 in
set_option maxHeartbeats 12800000 in
theorem part_any (lid kind mr md lo hi : Int) (pa : Option Addr) (pn pc : Nat) (c : Cl) (W : World) (st kt bt : TypeId) (sp kp bp : Value)
    (hn : c.rs.length ≤ 1048576) (hn2 : c.ds.length ≤ 1048576) (hv : c.vs.length ≤ 1048576) (hcr : c.rs.length ≤ c.rc) (hcd : c.ds.length ≤ c.dc) (hcv : c.vs.length ≤ c.vc)
    (hs : W.cell? ⟨3, 0, none⟩ = some (.iface st sp)) (hk : W.cell? ⟨1, 0, none⟩ = some (.iface kt kp)) (hbd : W.cell? ⟨2, 0, none⟩ = some (.iface bt bp)) (hat : c.At W) :
    Calls Tryd.prog 26 #[leafV lid kind mr md pa pn pc, c.val, .int .i64 lo, .int .i64 hi] W fun e w' => PtRet W.heap.size lid kind mr md c lo hi (.iface st sp) (.iface kt kp) (.iface bt bp) e w' ∧ Below W.heap.size W w' := by
  unfold leafV Cl.val colV
  obtain ⟨w0, HW0, HX, HY, HZ, HB⟩ := three_boxes W #[.int .i64 lid, .int .i64 kind, .int .i64 mr, .int .i64 md, .slice pa pn pc] #[.int .i64 c.id, .slice c.ra c.rs.length c.rc, .slice c.da c.ds.length c.dc, .slice c.va c.vs.length c.vc] #[.int .i64 0, .slice none 0 0, .slice none 0 0, .slice none 0 0] 48 44 44
  have HI0 : Hid (PtI W lid kind mr md pa pn pc c w0) := ⟨HX.out, HY.out, HZ.out, HB.out⟩
  have HAT : Hid (∀ X, PtI W lid kind mr md pa pn pc c X → c.At X) := fun X hX => hat.keep hX.old
  have HS : Hid (∀ X, PtI W lid kind mr md pa pn pc c X → X.cell? ⟨3, 0, none⟩ = some (.iface st sp)) := fun X hX => ckB hs hX.old
  have HK : Hid (∀ X, PtI W lid kind mr md pa pn pc c X → X.cell? ⟨1, 0, none⟩ = some (.iface kt kp)) := fun X hX => ckB hk hX.old
  have HBD : Hid (∀ X, PtI W lid kind mr md pa pn pc c X → X.cell? ⟨2, 0, none⟩ = some (.iface bt bp)) := fun X hX => ckB hbd hX.old
  have HLE : Hid (∀ X, PtI W lid kind mr md pa pn pc c X → W.heap.size + 1 + 1 + 1 ≤ X.heap.size) := fun X hX => lt_of_block hX.re
  have hgN : 2 < W.heap.size := World.block_lt_of_cell? W _ hbd
  have hgN1 : ¬ (2 = W.heap.size + 1 + 1) := by omega
  have hgN2 : ¬ (W.heap.size = 0) := by omega
  have hgN3 : ¬ (W.heap = #[]) := fun h => hgN2 (by rw [h]; rfl)
  clear hat hs hk hbd HX HY HZ HB hgN
  obtain ⟨⟨p0, p1, p2, p3, p4⟩, _⟩ := row_five HI0.out.lf
  obtain ⟨k0, k1, k2, k3⟩ := row_four HI0.out.co
  go_enter Tryd.func26, Tryd.ntmps26
  go_wp2_with fail
  rw [HW0.out]
  refine (scheck_any lid kind mr md c.id pa c.ra c.da c.va pn pc c.rc c.dc c.vc c.rs c.ds c.vs w0 st kt sp kp hn hn2 hv (HS.out _ HI0.out) (HK.out _ HI0.out) (HAT.out _ HI0.out).r (HAT.out _ HI0.out).d (HAT.out _ HI0.out).v).mono ?_
  rintro e w1 ⟨hck, hb1⟩
  have HI1 : Hid (PtI W lid kind mr md pa pn pc c w1) := HI0.out.keep (hb1.mono (HLE.out _ HI0.out))
  clear hb1 p0 p1 p2 p3 p4 k0 k1 k2 k3
  obtain ⟨⟨p0, p1, p2, p3, p4⟩, _⟩ := row_five HI1.out.lf
  obtain ⟨k0, k1, k2, k3⟩ := row_four HI1.out.co
  obtain ⟨z0, z1, z2, z3⟩ := row_four HI1.out.re
  obtain ⟨f0, f1, f2, f3⟩ := row_fourA HI1.out.re
  rcases hck with ⟨hb, rfl⟩ | ⟨hg, ⟨hall, rfl⟩ | ⟨p, hp, hbad, hf, q, hqn, rfl, hq0, hq1⟩⟩
  · have HG : Hid _ := hb
    clear hb
    go_wp2
    exact bodyPost_ret (v := .tuple #[zeroC, .iface st sp]) (results_cR Tryd.results26 _ _ (W.heap.size + 1 + 1) 44 #[.int .i64 0, .slice none 0 0, .slice none 0 0, .slice none 0 0] (0, 0) _ (.iface st sp) rfl rfl (row_setCell (row_setCell (row_setCell (row_setCell HI1.out.re _) _) _) _) Tryd.underlying44 rfl (by kernel_rfl)) rfl ⟨.inl (.inl ⟨HG.out, rfl⟩), (((HI1.out.old.setCell (by simp; omega) _).setCell (by simp; omega) _).setCell (by simp; omega) _).setCell (by simp; omega) _⟩
  · have HGood : Hid (GoodC lid kind mr md c) := ⟨hg, hall⟩
    clear hg hall
    have hbe := HBD.out _ HI1.out
    by_cases h1 : lo < 0
    · have HNo : Hid (¬ (0 ≤ lo ∧ lo ≤ hi ∧ hi ≤ (cntE 0 c.rs : Nat))) := (by show ¬ _; omega)
      have q1 : decide (lo < 0) = true := decide_eq_true h1
      clear h1
      go_wp2_with fail
      go_region
      all_goals
        go_wp2
        exact bodyPost_ret (v := .tuple #[zeroC, .iface bt bp]) (results_cR Tryd.results26 _ _ (W.heap.size + 1 + 1) 44 #[.int .i64 0, .slice none 0 0, .slice none 0 0, .slice none 0 0] (0, 0) _ (.iface bt bp) rfl rfl (blk_drew (row_setCell (row_setCell (row_setCell (row_setCell HI1.out.re _) _) _) _)) Tryd.underlying44 rfl (by kernel_rfl)) rfl ⟨.inr (.inl ⟨HGood.out, HNo.out, rfl⟩), ((((HI1.out.old.setCell (by simp; omega) _).setCell (by simp; omega) _).setCell (by simp; omega) _).setCell (by simp; omega) _).drew⟩
    · by_cases h2 : hi < lo
      · have HNo : Hid (¬ (0 ≤ lo ∧ lo ≤ hi ∧ hi ≤ (cntE 0 c.rs : Nat))) := (by show ¬ _; omega)
        have q1 : decide (lo < 0) = false := decide_eq_false h1
        have q2 : decide (hi < lo) = true := decide_eq_true h2
        clear h1 h2
        go_wp2_with fail
        go_region
        all_goals
          go_wp2
          exact bodyPost_ret (v := .tuple #[zeroC, .iface bt bp]) (results_cR Tryd.results26 _ _ (W.heap.size + 1 + 1) 44 #[.int .i64 0, .slice none 0 0, .slice none 0 0, .slice none 0 0] (0, 0) _ (.iface bt bp) rfl rfl (blk_drew (row_setCell (row_setCell (row_setCell (row_setCell HI1.out.re _) _) _) _)) Tryd.underlying44 rfl (by kernel_rfl)) rfl ⟨.inr (.inl ⟨HGood.out, HNo.out, rfl⟩), ((((HI1.out.old.setCell (by simp; omega) _).setCell (by simp; omega) _).setCell (by simp; omega) _).setCell (by simp; omega) _).drew⟩
      · have q1 : decide (lo < 0) = false := decide_eq_false h1
        have q2 : decide (hi < lo) = false := decide_eq_false h2
        go_wp2_with fail
        refine (count_any c.id c.ra c.rs c.rc c.da c.ds.length c.dc c.va c.vs.length c.vc hn w1 (HAT.out _ HI1.out).r).mono ?_
        rintro e w2 ⟨rfl, hb2⟩
        have HI2 : Hid (PtI W lid kind mr md pa pn pc c w2) := HI1.out.keep (hb2.mono (HLE.out _ HI1.out))
        clear hb2 p0 p1 p2 p3 p4 k0 k1 k2 k3 z0 z1 z2 z3 f0 f1 f2 f3 hbe
        obtain ⟨⟨p0, p1, p2, p3, p4⟩, _⟩ := row_five HI2.out.lf
        obtain ⟨k0, k1, k2, k3⟩ := row_four HI2.out.co
        obtain ⟨z0, z1, z2, z3⟩ := row_four HI2.out.re
        obtain ⟨f0, f1, f2, f3⟩ := row_fourA HI2.out.re
        have hbe := HBD.out _ HI2.out
        by_cases h3 : (cntE 0 c.rs : Nat) < hi
        · have HNo : Hid (¬ (0 ≤ lo ∧ lo ≤ hi ∧ hi ≤ (cntE 0 c.rs : Nat))) := (by show ¬ _; omega)
          have q3 : decide (((cntE 0 c.rs : Nat) : Int) < hi) = true := decide_eq_true h3
          clear h1 h2 h3
          go_wp2_with fail
          go_region
          all_goals
            go_wp2
            exact bodyPost_ret (v := .tuple #[zeroC, .iface bt bp]) (results_cR Tryd.results26 _ _ (W.heap.size + 1 + 1) 44 #[.int .i64 0, .slice none 0 0, .slice none 0 0, .slice none 0 0] (0, 0) _ (.iface bt bp) rfl rfl (blk_drew (row_setCell (row_setCell (row_setCell (row_setCell HI2.out.re _) _) _) _)) Tryd.underlying44 rfl (by kernel_rfl)) rfl ⟨.inr (.inl ⟨HGood.out, HNo.out, rfl⟩), ((((HI2.out.old.setCell (by simp; omega) _).setCell (by simp; omega) _).setCell (by simp; omega) _).setCell (by simp; omega) _).drew⟩
        · have HYes : Hid (0 ≤ lo ∧ lo ≤ hi ∧ hi ≤ (cntE 0 c.rs : Nat)) := (by show _ ∧ _; omega)
          have q3 : decide (((cntE 0 c.rs : Nat) : Int) < hi) = false := decide_eq_false h3
          clear h1 h2 h3
          go_upto_region 6 with fail
          go_cut [11, 12] (fun x y wx => ∃ a b : Nat, x = .int .i64 a ∧ y = .int .i64 b ∧ Hid (StAt c.rs lo a) ∧ Hid (StAt c.rs hi b) ∧ Hid (PtI W lid kind mr md pa pn pc c wx))
          case first =>
            have b0 : Below (W.heap.size + 1 + 1 + 1) w2 w2 := Below.refl _ _
            have hsz := HLE.out _ HI2.out
            have HN : Hid (∀ X, Below (W.heap.size + 1 + 1 + 1) w2 X → (X.cell? ⟨W.heap.size, 0, none⟩ = some (.int .i64 lid) ∧ X.cell? ⟨W.heap.size, 1, none⟩ = some (.int .i64 kind) ∧ X.cell? ⟨W.heap.size, 2, none⟩ = some (.int .i64 mr) ∧ X.cell? ⟨W.heap.size, 3, none⟩ = some (.int .i64 md) ∧ X.cell? ⟨W.heap.size, 4, none⟩ = some (.slice pa pn pc)) ∧ (X.cell? ⟨W.heap.size + 1, 0, none⟩ = some (.int .i64 c.id) ∧ X.cell? ⟨W.heap.size + 1, 1, none⟩ = some (.slice c.ra c.rs.length c.rc) ∧ X.cell? ⟨W.heap.size + 1, 2, none⟩ = some (.slice c.da c.ds.length c.dc) ∧ X.cell? ⟨W.heap.size + 1, 3, none⟩ = some (.slice c.va c.vs.length c.vc)) ∧ Below (W.heap.size + 1 + 1 + 1) w2 X) := fun X hX => ⟨(row_five ((hX.block _ (by omega)).trans HI2.out.lf)).1, row_four ((hX.block _ (by omega)).trans HI2.out.co), hX⟩
            have HCall : Hid (∀ (z : Int) X, Below (W.heap.size + 1 + 1 + 1) w2 X → Calls Tryd.prog 39 #[.agg #[.int .i64 c.id, .slice c.ra c.rs.length c.rc, .slice c.da c.ds.length c.dc, .slice c.va c.vs.length c.vc], .int .i64 z] X fun e w' => (∃ a : Nat, e = .returned (.int .i64 a) ∧ StAt c.rs z a) ∧ Below (W.heap.size + 1 + 1 + 1) w2 w') := fun z X hX => (startOf_any c.id z c.ra c.rs c.rc c.da c.ds.length c.dc c.va c.vs.length c.vc hn X (HAT.out _ (HI2.out.keep hX)).r).mono fun e w' h => ⟨h.1, bel_next hX hsz h.2⟩
            go_region_held3 (fun X => (X.cell? ⟨W.heap.size, 0, none⟩ = some (.int .i64 lid) ∧ X.cell? ⟨W.heap.size, 1, none⟩ = some (.int .i64 kind) ∧ X.cell? ⟨W.heap.size, 2, none⟩ = some (.int .i64 mr) ∧ X.cell? ⟨W.heap.size, 3, none⟩ = some (.int .i64 md) ∧ X.cell? ⟨W.heap.size, 4, none⟩ = some (.slice pa pn pc)) ∧ (X.cell? ⟨W.heap.size + 1, 0, none⟩ = some (.int .i64 c.id) ∧ X.cell? ⟨W.heap.size + 1, 1, none⟩ = some (.slice c.ra c.rs.length c.rc) ∧ X.cell? ⟨W.heap.size + 1, 2, none⟩ = some (.slice c.da c.ds.length c.dc) ∧ X.cell? ⟨W.heap.size + 1, 3, none⟩ = some (.slice c.va c.vs.length c.vc)) ∧ Below (W.heap.size + 1 + 1 + 1) w2 X) (with_reducible refine HN.out _ ?_; repeat' (first | with_reducible assumption | with_reducible exact b0.drew | with_reducible exact b0)) (first | (go_at_call 39; (with_reducible refine Calls.mono (HCall.out lo _ ?_) ?_); (first | with_reducible assumption | with_reducible exact b0.drew); rintro e xa ⟨⟨a, rfl, ha⟩, hba⟩; have HSA : Hid _ := ha; clear ha) | (go_at_call 39; (with_reducible refine Calls.mono (HCall.out hi _ ?_) ?_); (first | with_reducible assumption | with_reducible exact b0.drew); rintro e xb ⟨⟨b, rfl, hb⟩, hbb⟩; have HSB : Hid _ := hb; clear hb))
            all_goals
              go_wp2_with fail
              go_meet
              exact ⟨a, b, rfl, rfl, HSA, HSB, HI2.out.keep (by first | exact hbb | exact hba)⟩
          case rest =>
            obtain ⟨a, b, rfl, rfl, HSA, HSB, HI3⟩ := hcut
            clear p0 p1 p2 p3 p4 k0 k1 k2 k3 z0 z1 z2 z3 f0 f1 f2 f3 hbe HI2 HI1 HI0
            obtain ⟨hfid, hfl, _, _, _, hfv⟩ := fitB_iff.1 (show fitB lid mr md c.id c.rs c.ds c.vs.length = true from by have h := HGood.out.1; simp at h; exact h.2)
            have HLn : Hid (c.rs.length = c.ds.length) := hfl
            have HVn : Hid (c.vs.length = cntE md c.ds) := hfv
            have HFid : Hid (c.id = lid) := hfid
            clear hfl hfv hfid
            have hab : a ≤ b := HSA.out.le HSB.out HYes.out.2.1
            have hbl : b ≤ c.ds.length := by rw [← HLn.out]; exact HSB.out.1
            have hbr : b ≤ c.rs.length := HSB.out.1
            go_upto_region 7 with fail
            go_cut [13] (fun x wx => x = .int .i64 (cntE md (c.ds.take a) : Nat) ∧ Hid (PtI W lid kind mr md pa pn pc c wx))
            case first =>
              have b0 : Below (W.heap.size + 1 + 1 + 1) wc wc := Below.refl _ _
              have hsz := HLE.out _ HI3.out
              have HN : Hid (∀ X, Below (W.heap.size + 1 + 1 + 1) wc X → (X.cell? ⟨W.heap.size, 0, none⟩ = some (.int .i64 lid) ∧ X.cell? ⟨W.heap.size, 1, none⟩ = some (.int .i64 kind) ∧ X.cell? ⟨W.heap.size, 2, none⟩ = some (.int .i64 mr) ∧ X.cell? ⟨W.heap.size, 3, none⟩ = some (.int .i64 md) ∧ X.cell? ⟨W.heap.size, 4, none⟩ = some (.slice pa pn pc)) ∧ (X.cell? ⟨W.heap.size + 1, 0, none⟩ = some (.int .i64 c.id) ∧ X.cell? ⟨W.heap.size + 1, 1, none⟩ = some (.slice c.ra c.rs.length c.rc) ∧ X.cell? ⟨W.heap.size + 1, 2, none⟩ = some (.slice c.da c.ds.length c.dc) ∧ X.cell? ⟨W.heap.size + 1, 3, none⟩ = some (.slice c.va c.vs.length c.vc)) ∧ Below (W.heap.size + 1 + 1 + 1) wc X) := fun X hX => ⟨(row_five ((hX.block _ (by omega)).trans HI3.out.lf)).1, row_four ((hX.block _ (by omega)).trans HI3.out.co), hX⟩
              have qa : ((a : Nat) : Int) ≤ (c.dc : Int) := by omega
              have qb : (0 : Int) ≤ ((a : Nat) : Int) := by omega
              have HV7 : Hid (Calls Tryd.prog 40 #[.agg #[.int .i64 lid, .int .i64 kind, .int .i64 mr, .int .i64 md, .slice pa pn pc], .slice c.da a c.dc] wc.drew fun e w' => e = .returned (.int .i64 (cntE md (c.ds.take a) : Nat)) ∧ Below (W.heap.size + 1 + 1 + 1) wc w') := (valuesOf_n lid kind mr md pa pn pc c.da a c.dc (c.ds.take a) (by simp; omega) wc.drew (by
                have h := lies_cut ((HAT.out _ HI3.out).d) 0 a c.dc (by rw [i64s_len]; omega) (by rw [i64s_len]; omega) (x := c.da) (by cases c.da <;> simp [addr_add0])
                rw [← i64s_cut] at h
                exact h.keep (Below.refl _ _).drew) (by simp; omega)).mono fun e w' h => ⟨h.1, bel_next b0.drew hsz h.2⟩
              go_region_held3 (fun X => (X.cell? ⟨W.heap.size, 0, none⟩ = some (.int .i64 lid) ∧ X.cell? ⟨W.heap.size, 1, none⟩ = some (.int .i64 kind) ∧ X.cell? ⟨W.heap.size, 2, none⟩ = some (.int .i64 mr) ∧ X.cell? ⟨W.heap.size, 3, none⟩ = some (.int .i64 md) ∧ X.cell? ⟨W.heap.size, 4, none⟩ = some (.slice pa pn pc)) ∧ (X.cell? ⟨W.heap.size + 1, 0, none⟩ = some (.int .i64 c.id) ∧ X.cell? ⟨W.heap.size + 1, 1, none⟩ = some (.slice c.ra c.rs.length c.rc) ∧ X.cell? ⟨W.heap.size + 1, 2, none⟩ = some (.slice c.da c.ds.length c.dc) ∧ X.cell? ⟨W.heap.size + 1, 3, none⟩ = some (.slice c.va c.vs.length c.vc)) ∧ Below (W.heap.size + 1 + 1 + 1) wc X) (with_reducible refine HN.out _ ?_; repeat' (first | with_reducible assumption | with_reducible exact b0.drew | with_reducible exact b0)) (first | (go_at_call 40; (with_reducible refine Calls.mono HV7.out ?_); rintro e xv ⟨rfl, hbv⟩))
              all_goals
                go_wp2_with fail
                go_meet
                exact ⟨rfl, HI3.out.keep hbv⟩
            case rest =>
              obtain ⟨hx4, HI4⟩ := hcut
              obtain ⟨v1, HV1⟩ : ∃ v, Hid (cntE md (c.ds.take a) = v) := ⟨_, rfl⟩
              obtain ⟨v2, HV2⟩ : ∃ v, Hid (cntE md (c.ds.take b) = v) := ⟨_, rfl⟩
              rw [HV1.out] at hx4
              subst hx4
              clear HI3
              rename World => wd
              go_upto_region 8 with fail
              go_cut [14] (fun x wx => x = .int .i64 (v2 : Nat) ∧ Hid (PtI W lid kind mr md pa pn pc c wx))
              case first =>
                have b0 : Below (W.heap.size + 1 + 1 + 1) wd wd := Below.refl _ _
                have hsz := HLE.out _ HI4.out
                have HN : Hid (∀ X, Below (W.heap.size + 1 + 1 + 1) wd X → (X.cell? ⟨W.heap.size, 0, none⟩ = some (.int .i64 lid) ∧ X.cell? ⟨W.heap.size, 1, none⟩ = some (.int .i64 kind) ∧ X.cell? ⟨W.heap.size, 2, none⟩ = some (.int .i64 mr) ∧ X.cell? ⟨W.heap.size, 3, none⟩ = some (.int .i64 md) ∧ X.cell? ⟨W.heap.size, 4, none⟩ = some (.slice pa pn pc)) ∧ (X.cell? ⟨W.heap.size + 1, 0, none⟩ = some (.int .i64 c.id) ∧ X.cell? ⟨W.heap.size + 1, 1, none⟩ = some (.slice c.ra c.rs.length c.rc) ∧ X.cell? ⟨W.heap.size + 1, 2, none⟩ = some (.slice c.da c.ds.length c.dc) ∧ X.cell? ⟨W.heap.size + 1, 3, none⟩ = some (.slice c.va c.vs.length c.vc)) ∧ Below (W.heap.size + 1 + 1 + 1) wd X) := fun X hX => ⟨(row_five ((hX.block _ (by omega)).trans HI4.out.lf)).1, row_four ((hX.block _ (by omega)).trans HI4.out.co), hX⟩
                have qa : ((a : Nat) : Int) ≤ ((b : Nat) : Int) := by omega
                have qc : ((b : Nat) : Int) ≤ (c.dc : Int) := by omega
                have qb : (0 : Int) ≤ ((a : Nat) : Int) := by omega
                have HCt : Hid (v2 = v1 + cntE md (cutL c.ds a b)) := (by show _ = _; rw [← HV1.out, ← HV2.out]; exact cntE_cut md c.ds a b hab)
                obtain ⟨v3, HV3⟩ : ∃ v, Hid (cntE md (cutL c.ds a b) = v) := ⟨_, rfl⟩
                rw [HV3.out] at HCt
                obtain ⟨x8, hif8⟩ : ∃ x, (if c.dc = a then c.da else Option.map (fun x => x.add a) c.da) = x := ⟨_, rfl⟩
                have HV8 : Hid (Calls Tryd.prog 40 #[.agg #[.int .i64 lid, .int .i64 kind, .int .i64 mr, .int .i64 md, .slice pa pn pc], .slice x8 (b - a) (c.dc - a)] wd.drew fun e w' => e = .returned (.int .i64 (v3 : Nat)) ∧ Below (W.heap.size + 1 + 1 + 1) wd w') := (valuesOf_n lid kind mr md pa pn pc _ (b - a) _ (cutL c.ds a b) (by rw [cutL_len _ _ _ hbl]; omega) wd.drew (by
                  have h := lies_cut ((HAT.out _ HI4.out).d) a b c.dc (by rw [i64s_len]; omega) (by rw [i64s_len]; omega) (x := x8) (by rw [← hif8]; simp)
                  rw [← i64s_cut] at h
                  exact h.keep (Below.refl _ _).drew) (by rw [cutL_len _ _ _ hbl])).mono fun e w' h => ⟨by rw [← HV3.out]; exact h.1, bel_next b0.drew hsz h.2⟩
                have hu2 := cntE_le md c.ds b
                have hu3 : v1 + v3 ≤ 1048576 := by rw [← HCt.out, ← HV2.out]; omega
                clear hu2
                have hwr : IntKind.i64.wrap ((v1 : Int) + (v3 : Int)) = (v1 : Int) + (v3 : Int) := by rw [IntKind.wrap_i64]; omega
                go_region_held3 (fun X => (X.cell? ⟨W.heap.size, 0, none⟩ = some (.int .i64 lid) ∧ X.cell? ⟨W.heap.size, 1, none⟩ = some (.int .i64 kind) ∧ X.cell? ⟨W.heap.size, 2, none⟩ = some (.int .i64 mr) ∧ X.cell? ⟨W.heap.size, 3, none⟩ = some (.int .i64 md) ∧ X.cell? ⟨W.heap.size, 4, none⟩ = some (.slice pa pn pc)) ∧ (X.cell? ⟨W.heap.size + 1, 0, none⟩ = some (.int .i64 c.id) ∧ X.cell? ⟨W.heap.size + 1, 1, none⟩ = some (.slice c.ra c.rs.length c.rc) ∧ X.cell? ⟨W.heap.size + 1, 2, none⟩ = some (.slice c.da c.ds.length c.dc) ∧ X.cell? ⟨W.heap.size + 1, 3, none⟩ = some (.slice c.va c.vs.length c.vc)) ∧ Below (W.heap.size + 1 + 1 + 1) wd X) (with_reducible refine HN.out _ ?_; repeat' (first | with_reducible assumption | with_reducible exact b0.drew | with_reducible exact b0)) (first | (go_at_call 40; (with_reducible refine Calls.mono HV8.out ?_); rintro e xv ⟨rfl, hbv⟩))
                all_goals
                  go_wp2_with fail
                  go_meet
                  exact ⟨by rw [HCt.out]; simp, HI4.out.keep hbv⟩
              case rest =>
                obtain ⟨rfl, HI5⟩ := hcut
                clear HI4
                rename World => we
                have hv12 : v1 ≤ v2 := by rw [← HV1.out, ← HV2.out]; exact cntE_mono md c.ds hab
                have hv2n : v2 ≤ c.vs.length := by rw [HVn.out, ← HV2.out]; exact cntE_all md c.ds b
                have b0 : Below (W.heap.size + 1 + 1) we we := Below.refl _ _
                have hsz := HLE.out _ HI5.out
                have HN : Hid (∀ X, Below (W.heap.size + 1 + 1) we X → (X.cell? ⟨W.heap.size, 0, none⟩ = some (.int .i64 lid) ∧ X.cell? ⟨W.heap.size, 1, none⟩ = some (.int .i64 kind) ∧ X.cell? ⟨W.heap.size, 2, none⟩ = some (.int .i64 mr) ∧ X.cell? ⟨W.heap.size, 3, none⟩ = some (.int .i64 md) ∧ X.cell? ⟨W.heap.size, 4, none⟩ = some (.slice pa pn pc)) ∧ (X.cell? ⟨W.heap.size + 1, 0, none⟩ = some (.int .i64 c.id) ∧ X.cell? ⟨W.heap.size + 1, 1, none⟩ = some (.slice c.ra c.rs.length c.rc) ∧ X.cell? ⟨W.heap.size + 1, 2, none⟩ = some (.slice c.da c.ds.length c.dc) ∧ X.cell? ⟨W.heap.size + 1, 3, none⟩ = some (.slice c.va c.vs.length c.vc)) ∧ Below (W.heap.size + 1 + 1) we X) := fun X hX => ⟨(row_five ((hX.block _ (by omega)).trans HI5.out.lf)).1, row_four ((hX.block _ (by omega)).trans HI5.out.co), hX⟩
                have qa : ((a : Nat) : Int) ≤ ((b : Nat) : Int) := by omega
                have qc : ((b : Nat) : Int) ≤ (c.dc : Int) := by omega
                have qd : ((b : Nat) : Int) ≤ (c.rc : Int) := by omega
                have qb : (0 : Int) ≤ ((a : Nat) : Int) := by omega
                have qe : ((v1 : Nat) : Int) ≤ ((v2 : Nat) : Int) := by omega
                have qf : ((v2 : Nat) : Int) ≤ (c.vc : Int) := by omega
                have qg : (0 : Int) ≤ ((v1 : Nat) : Int) := by omega
                obtain ⟨x1, hif1⟩ : ∃ x, (if c.rc = a then c.ra else Option.map (fun x => x.add a) c.ra) = x := ⟨_, rfl⟩
                obtain ⟨x2, hif2⟩ : ∃ x, (if c.dc = a then c.da else Option.map (fun x => x.add a) c.da) = x := ⟨_, rfl⟩
                obtain ⟨x3, hif3⟩ : ∃ x, (if c.vc = v1 then c.va else Option.map (fun x => x.add (v1 * 3)) c.va) = x := ⟨_, rfl⟩
                have hsz2 : W.heap.size + 1 + 1 ≤ we.heap.size := by omega
                have HV9 : Hid (Calls Tryd.prog 31 #[.agg #[.int .i64 lid, .int .i64 kind, .int .i64 mr, .int .i64 md, .slice pa pn pc], .slice (some ⟨we.heap.size, 0, none⟩) 1 1] (we.alloc (.cells #[.int .i64 0, .slice x1 (b - a) (c.rc - a), .slice x2 (b - a) (c.dc - a), .slice x3 (v2 - v1) (c.vc - v1)] 44)).drew fun e w' => (∃ k : Cl, e = .returned (.agg #[.int .i64 k.id, .slice k.ra k.rs.length k.rc, .slice k.da k.ds.length k.dc, .slice k.va k.vs.length k.vc]) ∧ k.At w' ∧ k.Fr we.heap.size ∧ k.id = lid ∧ k.rs = cutL c.rs a b ∧ k.ds = cutL c.ds a b ∧ k.vs = cutL c.vs v1 v2) ∧ Below we.heap.size we w') := (by
                  have hbx : Below we.heap.size we (we.alloc (.cells #[.int .i64 0, .slice x1 (b - a) (c.rc - a), .slice x2 (b - a) (c.dc - a), .slice x3 (v2 - v1) (c.vc - v1)] 44)).drew := ((Below.refl _ _).alloc (Nat.le_refl _) _).drew
                  have hAt := HAT.out _ HI5.out
                  have l1 := (lies_cut hAt.r a b c.rc (by rw [i64s_len]; omega) (by rw [i64s_len]; omega) (x := x1) (by rw [← hif1]; simp)).keep hbx
                  have l2 := (lies_cut hAt.d a b c.dc (by rw [i64s_len]; omega) (by rw [i64s_len]; omega) (x := x2) (by rw [← hif2]; simp)).keep hbx
                  have l3 := (liesV_cut hAt.v v1 v2 c.vc (by omega) (by omega) (x := x3) (by rw [← hif3])).keep hbx
                  rw [← i64s_cut] at l1 l2
                  obtain ⟨y0, y1, y2, y3⟩ := row_four (blk_drew (heap_alloc_new we (.cells #[.int .i64 0, .slice x1 (b - a) (c.rc - a), .slice x2 (b - a) (c.dc - a), .slice x3 (v2 - v1) (c.vc - v1)] 44)))
                  have hj := joined_n lid kind mr md pa pn pc (some ⟨we.heap.size, 0, none⟩) 1 1 [⟨0, x1, cutL c.rs a b, c.rc - a, x2, cutL c.ds a b, c.dc - a, x3, cutL c.vs v1 v2, c.vc - v1⟩] (we.alloc (.cells #[.int .i64 0, .slice x1 (b - a) (c.rc - a), .slice x2 (b - a) (c.dc - a), .slice x3 (v2 - v1) (c.vc - v1)] 44)).drew (by simp) (by simp [jR, cutL_len _ _ _ hbr]; omega) (by simp [jD, cutL_len _ _ _ hbl]; omega) (by simp [jV, cutL_len _ _ _ hv2n]; omega) (fun j hj => by
                    obtain rfl : j = 0 := by simp at hj; omega
                    refine ⟨⟨we.heap.size, 0, rfl, y0, ?_, ?_, ?_⟩, l1, l2, l3⟩
                    · show _ = some (Value.slice x1 (cutL c.rs a b).length (c.rc - a))
                      rw [cutL_len _ _ _ hbr]; exact y1
                    · show _ = some (Value.slice x2 (cutL c.ds a b).length (c.dc - a))
                      rw [cutL_len _ _ _ hbl]; exact y2
                    · show _ = some (Value.slice x3 (cutL c.vs v1 v2).length (c.vc - v1))
                      rw [cutL_len _ _ _ hv2n]; exact y3) rfl
                  refine hj.mono fun e w' h => ?_
                  obtain ⟨⟨k, e0, e1, e2, e3, e4, e5, e6⟩, e7⟩ := h
                  exact ⟨⟨k, e0, e1, ⟨fun p hp => Nat.le_trans hbx.size (e2.r p hp), fun p hp => Nat.le_trans hbx.size (e2.d p hp), fun p hp => Nat.le_trans hbx.size (e2.v p hp)⟩, e3, by simpa [jR] using e4, by simpa [jD] using e5, by simpa [jV] using e6⟩, hbx.trans (e7.mono hbx.size)⟩)
                go_wp2_with fail
                go_region_held3 (fun X => (X.cell? ⟨W.heap.size, 0, none⟩ = some (.int .i64 lid) ∧ X.cell? ⟨W.heap.size, 1, none⟩ = some (.int .i64 kind) ∧ X.cell? ⟨W.heap.size, 2, none⟩ = some (.int .i64 mr) ∧ X.cell? ⟨W.heap.size, 3, none⟩ = some (.int .i64 md) ∧ X.cell? ⟨W.heap.size, 4, none⟩ = some (.slice pa pn pc)) ∧ (X.cell? ⟨W.heap.size + 1, 0, none⟩ = some (.int .i64 c.id) ∧ X.cell? ⟨W.heap.size + 1, 1, none⟩ = some (.slice c.ra c.rs.length c.rc) ∧ X.cell? ⟨W.heap.size + 1, 2, none⟩ = some (.slice c.da c.ds.length c.dc) ∧ X.cell? ⟨W.heap.size + 1, 3, none⟩ = some (.slice c.va c.vs.length c.vc)) ∧ Below (W.heap.size + 1 + 1) we X) (with_reducible refine HN.out _ ?_; repeat' (first | with_reducible assumption | with_reducible exact b0.drew | with_reducible exact b0 | with_reducible exact (b0.alloc hsz2 _).drew | with_reducible refine Below.setCell ?_ ?_ _ | with_reducible refine Below.alloc ?_ ?_ _ | with_reducible exact Below.size (by assumption) | (simp; done) | (simp; omega) | omega)) (first | (go_at_call 31; (with_reducible refine Calls.mono HV9.out ?_); rintro e xj ⟨⟨⟨kid, kra, krs, krc, kda, kds, kdc, kva, kvs, kvc⟩, rfl, kat, kfr, rfl, rfl, rfl, rfl⟩, hbj⟩; have hbk : Below (W.heap.size + 1 + 1) we xj := hbj.mono hsz2; have HKA : Hid _ := kat; have HKF : Hid _ := kfr; have HBJ : Hid _ := hbj; clear kat kfr hbj; obtain ⟨z0, z1, z2, z3⟩ := row_four (blk_keep HBJ.out HI5.out.re); obtain ⟨f0, f1, f2, f3⟩ := row_fourA (blk_keep HBJ.out HI5.out.re)))
                all_goals
                  go_wp2
                  have hgN : W.heap.size + 1 + 1 < we.heap.size := by omega
                  have hol : Below W.heap.size W xj := HI5.out.old.trans (HBJ.out.mono (by omega))
                  exact bodyPost_ret (v := .tuple #[.agg #[.int .i64 kid, .slice kra (cutL c.rs a b).length krc, .slice kda (cutL c.ds a b).length kdc, .slice kva (cutL c.vs v1 v2).length kvc], .nilIface]) (results_cR Tryd.results26 _ _ (W.heap.size + 1 + 1) 44 #[.int .i64 kid, .slice kra (cutL c.rs a b).length krc, .slice kda (cutL c.ds a b).length kdc, .slice kva (cutL c.vs v1 v2).length kvc] (0, 0) _ .nilIface rfl rfl (row_setCell (row_setCell (row_setCell (row_setCell (blk_keep HBJ.out HI5.out.re) _) _) _) _) Tryd.underlying44 rfl (by kernel_rfl)) rfl ⟨.inr (.inr ⟨HGood.out, HYes.out, ⟨kid, kra, cutL c.rs a b, krc, kda, cutL c.ds a b, kdc, kva, cutL c.vs v1 v2, kvc⟩, a, b, rfl, (((HKA.out.off HKF.out hgN).off HKF.out hgN).off HKF.out hgN).off HKF.out hgN, HKF.out.low HI5.out.old.size, HSA.out, HSB.out, rfl, rfl, rfl, by rw [HV1.out, HV2.out]⟩), (((hol.setCell (by simp; omega) _).setCell (by simp; omega) _).setCell (by simp; omega) _).setCell (by simp; omega) _⟩
  · have HG : Hid _ := hg
    have HQ0 : Hid _ := hq0
    have HQ1 : Hid _ := hq1
    have HBa : Hid _ := hbad
    have HF : Hid _ := hf
    have HQN : Hid (W.heap.size + 1 + 1 < q) := (by have := HLE.out _ HI0.out; show _ < _; omega)
    clear hg hq0 hq1 hbad hf hqn
    go_wp2
    have hoff : ∀ (X : World) (o j : Nat) (v : Value), (X.setCell ⟨W.heap.size + 1 + 1, j, none⟩ v).cell? ⟨q, o, none⟩ = X.cell? ⟨q, o, none⟩ := fun X o j v => cell_off (by have := HQN.out; omega)
    exact bodyPost_ret (v := .tuple #[zeroC, .iface 76 (.pointer (some ⟨q, 0, none⟩))]) (results_cR Tryd.results26 _ _ (W.heap.size + 1 + 1) 44 #[.int .i64 0, .slice none 0 0, .slice none 0 0, .slice none 0 0] (0, 0) _ (.iface 76 (.pointer (some ⟨q, 0, none⟩))) rfl rfl (row_setCell (row_setCell (row_setCell (row_setCell HI1.out.re _) _) _) _) Tryd.underlying44 rfl (by kernel_rfl)) rfl ⟨.inl (.inr ⟨HG.out, p, hp, HBa.out, HF.out, q, (by have := HQN.out; omega), rfl, by rw [hoff, hoff, hoff, hoff]; exact HQ0.out, by rw [hoff, hoff, hoff, hoff]; exact HQ1.out⟩), (((HI1.out.old.setCell (by simp; omega) _).setCell (by simp; omega) _).setCell (by simp; omega) _).setCell (by simp; omega) _⟩
end Go.Proofs.YthlnjnoeaicjjaaDoor
