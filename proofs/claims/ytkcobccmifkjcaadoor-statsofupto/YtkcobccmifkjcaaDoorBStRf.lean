/-
  The reference's StatsOf.
-/
import Derived.Test.YtkcobccmifkjcaaDoorBBStBase
import Derived.BigQuiet
namespace Go.Proofs.YtkcobccmifkjcaaDoor
open Go.RowKit
/-- What is known up to a value, as the reference has it. -/
def refK (c : Cl) (i : Nat) : St := ⟨(c.rs.length : Nat), (c.rs.length : Int) - (c.vs.length : Nat), decide (0 < c.vs.length), (ofK c i).mn, (ofK c i).mx⟩
theorem ofK_h (c : Cl) : ∀ i, i ≤ c.vs.length → (ofK c i).h = decide (0 < i)
  | 0, _ => rfl
  | i + 1, hi => by rw [ofK_succ c hi]; simp [St.around]
theorem ofK_e (c : Cl) : ∀ i, i ≤ c.vs.length → (ofK c i).e = (c.rs.length : Nat) ∧ (ofK c i).u = (c.rs.length : Int) - (c.vs.length : Nat)
  | 0, _ => ⟨rfl, rfl⟩
  | i + 1, hi => by rw [ofK_succ c hi]; exact ofK_e c i (by omega)
theorem refK_end (c : Cl) : refK c c.vs.length = ofC c := by
  have h1 := ofK_h c c.vs.length (Nat.le_refl _)
  have h2 := ofK_e c c.vs.length (Nat.le_refl _)
  have h3 : ofK c c.vs.length = ofC c := by unfold ofK ofC; rw [List.take_length]
  rw [h3] at h1 h2
  unfold refK
  rw [h3]
  generalize ofC c = s at *
  obtain ⟨e, u, h, m, x⟩ := s
  obtain ⟨h4, h5⟩ := h2
  simp only at h1 h4 h5
  rw [h1, h4, h5]
theorem refK_zero (c : Cl) (h : 0 < c.vs.length) : refK c 1 = { refK c 0 with mn := c.vs[0], mx := c.vs[0] } := by
  unfold refK
  rw [ofK_succ c h]
  rfl
theorem refK_succ (c : Cl) {i : Nat} (h : i < c.vs.length) (h0 : 0 < i) : refK c (i + 1) = { refK c i with mn := if lss c.vs[i] (refK c i).mn then c.vs[i] else (refK c i).mn, mx := if lss (refK c i).mx c.vs[i] then c.vs[i] else (refK c i).mx } := by
  have hh := ofK_h c i (by omega)
  rw [decide_eq_true h0] at hh
  unfold refK
  rw [ofK_succ c h]
  simp [St.around, hh]
/-- What its boxes hold. -/
structure RfI (W : World) (c : Cl) (t : St) (X : World) : Prop where
  co : X.heap[W.heap.size]? = some (.cells #[.int .i64 c.id, .slice c.ra c.rs.length c.rc, .slice c.da c.ds.length c.dc, .slice c.va c.vs.length c.vc] 27 (0, 0))
  re : X.heap[W.heap.size + 1]? = some (.cells #[.int .i64 0, .int .i64 0, .bool false, .int .i64 0, .int .i64 0, .string ⟨#[]⟩, .int .i64 0, .int .i64 0, .string ⟨#[]⟩] 46 (0, 0))
  st : X.heap[W.heap.size + 1 + 1]? = some (.cells t.cs 46 (0, 0))
  old : Below W.heap.size W X
theorem RfI.keep {W : World} {c : Cl} {t : St} {X w' : World} (h : RfI W c t X) (hb : Below (W.heap.size + 1 + 1 + 1) X w') : RfI W c t w' :=
  ⟨(hb.block _ (by omega)).trans h.co, (hb.block _ (by omega)).trans h.re, (hb.block _ (by omega)).trans h.st, h.old.trans (hb.mono (by omega))⟩
theorem RfI.setMn {W : World} {c : Cl} {t : St} {X : World} (h : RfI W c t X) (l : Vl) : RfI W c { t with mn := l } (((X.setCell ⟨W.heap.size + 1 + 1, 3, none⟩ (.int .i64 l.k)).setCell ⟨W.heap.size + 1 + 1, 4, none⟩ (.int .i64 l.n)).setCell ⟨W.heap.size + 1 + 1, 5, none⟩ (.string l.s)) :=
  ⟨blk_other (blk_other (blk_other h.co (by omega) _) (by omega) _) (by omega) _, blk_other (blk_other (blk_other h.re (by omega) _) (by omega) _) (by omega) _, row_setCell (row_setCell (row_setCell h.st _) _) _, ((h.old.setCell (by simp; omega) _).setCell (by simp; omega) _).setCell (by simp; omega) _⟩
theorem RfI.setMx {W : World} {c : Cl} {t : St} {X : World} (h : RfI W c t X) (l : Vl) : RfI W c { t with mx := l } (((X.setCell ⟨W.heap.size + 1 + 1, 6, none⟩ (.int .i64 l.k)).setCell ⟨W.heap.size + 1 + 1, 7, none⟩ (.int .i64 l.n)).setCell ⟨W.heap.size + 1 + 1, 8, none⟩ (.string l.s)) :=
  ⟨blk_other (blk_other (blk_other h.co (by omega) _) (by omega) _) (by omega) _, blk_other (blk_other (blk_other h.re (by omega) _) (by omega) _) (by omega) _, row_setCell (row_setCell (row_setCell h.st _) _) _, ((h.old.setCell (by simp; omega) _).setCell (by simp; omega) _).setCell (by simp; omega) _⟩
set_option maxRecDepth 100000 in
set_option maxHeartbeats 6400000 in
theorem statsOfR_x (cid : Int) (ra : Option Addr) (rs : List Int) (rc : Nat) (da : Option Addr) (ds : List Int) (dc : Nat) (va : Option Addr) (vs : List Vl) (vc : Nat) (W : World) (hn : rs.length ≤ 1048576) (hv : vs.length ≤ 1048576) (hat : LiesV W va vs) (hlo : ∀ v ∈ vs, v.Low) :
    Calls Tryd.prog 15 #[.agg #[.int .i64 cid, .slice ra rs.length rc, .slice da ds.length dc, .slice va vs.length vc]] W fun e w' => e = .returned (ofC ⟨cid, ra, rs, rc, da, ds, dc, va, vs, vc⟩).val ∧ Below W.heap.size W w' := by
  obtain ⟨w0, HW0, HX, HY, HB⟩ := two_boxes W #[.int .i64 cid, .slice ra rs.length rc, .slice da ds.length dc, .slice va vs.length vc] #[.int .i64 0, .int .i64 0, .bool false, .int .i64 0, .int .i64 0, .string ⟨#[]⟩, .int .i64 0, .int .i64 0, .string ⟨#[]⟩] 27 46
  have hsz : w0.heap.size = W.heap.size + 1 + 1 := by rw [← HW0.out]; simp
  have HLV : Hid (∀ X, Below W.heap.size W X → LiesV X va vs) := fun X hX => hat.keep hX
  have HLO : Hid _ := hlo
  clear hat hlo
  obtain ⟨k0, k1, k2, k3⟩ := row_four HX.out
  have hwr : IntKind.i64.wrap ((rs.length : Int) - (vs.length : Int)) = (rs.length : Int) - (vs.length : Int) := by rw [IntKind.wrap_i64]; omega
  go_enter Tryd.func15, Tryd.ntmps15
  go_upto_region 1 with fail
  rw [HW0.out]
  obtain ⟨bv, HBV⟩ : ∃ bv, Hid (decide (0 < vs.length) = bv) := ⟨_, rfl⟩
  have hbv : decide (0 < vs.length) = bv := HBV.out
  have HI0 : Hid (RfI W ⟨cid, ra, rs, rc, da, ds, dc, va, vs, vc⟩ (refK ⟨cid, ra, rs, rc, da, ds, dc, va, vs, vc⟩ 0) (w0.alloc (.cells #[.int .i64 (rs.length : Nat), .int .i64 ((rs.length : Int) - (vs.length : Int)), .bool bv, .int .i64 0, .int .i64 0, .string ⟨#[]⟩, .int .i64 0, .int .i64 0, .string ⟨#[]⟩] 46))) := (by
    refine ⟨blk_alloc HX.out, blk_alloc HY.out, ?_, HB.out.alloc HB.out.size _⟩
    have h := heap_alloc_new w0 (.cells #[.int .i64 (rs.length : Nat), .int .i64 ((rs.length : Int) - (vs.length : Int)), .bool bv, .int .i64 0, .int .i64 0, .string ⟨#[]⟩, .int .i64 0, .int .i64 0, .string ⟨#[]⟩] 46)
    rw [hsz] at h
    rw [h, ← HBV.out]
    rfl)
  go_wp2
  clear k0 k1 k2 k3 hwr HX HY HB HW0 hbv
  go_loopw [4] (fun x wr => ∃ i : Nat, i ≤ vs.length ∧ x = .int .i64 i ∧ Hid (RfI W ⟨cid, ra, rs, rc, da, ds, dc, va, vs, vc⟩ (refK ⟨cid, ra, rs, rc, da, ds, dc, va, vs, vc⟩ i) wr)) (fun x _ => vs.length - (intOf x).toNat)
  case atStart => exact ⟨0, Nat.zero_le _, rfl, HI0⟩
  case round =>
    obtain ⟨i, hi, rfl, HI⟩ := hrel
    clear HI0
    by_cases hlt : i < vs.length
    · obtain ⟨b, o, rfl, c0, c1, c2⟩ := HLV.out _ HI.out.old i hlt
      have HV : Hid (vs[i].Low) := HLO.out _ (List.getElem_mem _)
      have HLt : Hid ((refK ⟨cid, ra, rs, rc, da, ds, dc, some ⟨b, o, none⟩, vs, vc⟩ i).mn.Low ∧ (refK ⟨cid, ra, rs, rc, da, ds, dc, some ⟨b, o, none⟩, vs, vc⟩ i).mx.Low) := ofK_low ⟨cid, ra, rs, rc, da, ds, dc, some ⟨b, o, none⟩, vs, vc⟩ HLO.out i hi
      have HCV : Hid (∀ X, Below W.heap.size W X → X.cell? ⟨b, o + i * 3, none⟩ = some (.int .i64 vs[i].k) ∧ X.cell? ⟨b, o + i * 3 + 1, none⟩ = some (.int .i64 vs[i].n) ∧ X.cell? ⟨b, o + i * 3 + 2, none⟩ = some (.string vs[i].s)) := fun X hX => (by
        obtain ⟨b', o', e, h0, h1, h2⟩ := HLV.out X hX i hlt
        obtain ⟨rfl, rfl⟩ : b = b' ∧ o = o' := by simpa using e
        exact ⟨h0, h1, h2⟩)
      have hbn : ¬ (b = W.heap.size + 1 + 1) := by have h : b < W.heap.size := World.block_lt_of_cell? W _ (HCV.out W (Below.refl _ _)).1; omega
      rcases Nat.eq_zero_or_pos i with h0 | h0
      · subst h0
        have HK : Hid (refK ⟨cid, ra, rs, rc, da, ds, dc, some ⟨b, o, none⟩, vs, vc⟩ 1 = { refK ⟨cid, ra, rs, rc, da, ds, dc, some ⟨b, o, none⟩, vs, vc⟩ 0 with mn := vs[0], mx := vs[0] }) := refK_zero ⟨cid, ra, rs, rc, da, ds, dc, some ⟨b, o, none⟩, vs, vc⟩ hlt
        clear hi HLt
        generalize vs[0] = v at *
        obtain ⟨t, HT⟩ : ∃ t, Hid (refK ⟨cid, ra, rs, rc, da, ds, dc, some ⟨b, o, none⟩, vs, vc⟩ 0 = t) := ⟨_, rfl⟩
        rw [HT.out] at HI HK
        obtain ⟨k0, k1, k2, k3⟩ := row_four HI.out.co
        obtain ⟨⟨s0, s1, s2, s3, s4, s5, s6, s7, s8⟩, s9⟩ := st_row HI.out.st
        simp only [Nat.zero_mul, Nat.add_zero] at c0 c1 c2
        go_wp2_with fail
        go_quiet (fail)
        go_wp2_with fail
        go_quiet (fail)
        go_wp2
        go_roundw
        case rel => exact ⟨1, by omega, by go_num, by show RfI _ _ _ _; rw [HK.out]; exact ((((HI.out.keep (blw_drewN (Below.refl _ _) _)).setMn v).keep (blw_drewN (Below.refl _ _) _)).setMx v)⟩
        case measure => simp [intOf]; omega
      · have HK : Hid (refK ⟨cid, ra, rs, rc, da, ds, dc, some ⟨b, o, none⟩, vs, vc⟩ (i + 1) = { refK ⟨cid, ra, rs, rc, da, ds, dc, some ⟨b, o, none⟩, vs, vc⟩ i with mn := if lss vs[i] (refK ⟨cid, ra, rs, rc, da, ds, dc, some ⟨b, o, none⟩, vs, vc⟩ i).mn then vs[i] else (refK ⟨cid, ra, rs, rc, da, ds, dc, some ⟨b, o, none⟩, vs, vc⟩ i).mn, mx := if lss (refK ⟨cid, ra, rs, rc, da, ds, dc, some ⟨b, o, none⟩, vs, vc⟩ i).mx vs[i] then vs[i] else (refK ⟨cid, ra, rs, rc, da, ds, dc, some ⟨b, o, none⟩, vs, vc⟩ i).mx }) := refK_succ ⟨cid, ra, rs, rc, da, ds, dc, some ⟨b, o, none⟩, vs, vc⟩ hlt h0
        have qi : ((i : Int) == 0) = false := by simp; omega
        have HPos : Hid _ := h0
        generalize vs[i] = v at *
        obtain ⟨t, HT⟩ : ∃ t, Hid (refK ⟨cid, ra, rs, rc, da, ds, dc, some ⟨b, o, none⟩, vs, vc⟩ i = t) := ⟨_, rfl⟩
        rw [HT.out] at HI HK HLt
        obtain ⟨hl1, hl2⟩ := HLt.out
        have hv0 : -9223372036854775808 ≤ v.n := HV.out
        have hl1' : -9223372036854775808 ≤ t.mn.n := hl1
        have hl2' : -9223372036854775808 ≤ t.mx.n := hl2
        obtain ⟨r1, HR1⟩ : ∃ r, Hid (vless v.k v.n v.s t.mn.k t.mn.n t.mn.s = r) := ⟨_, rfl⟩
        obtain ⟨r2, HR2⟩ : ∃ r, Hid (vless t.mx.k t.mx.n t.mx.s v.k v.n v.s = r) := ⟨_, rfl⟩
        have HK2 : Hid (refK ⟨cid, ra, rs, rc, da, ds, dc, some ⟨b, o, none⟩, vs, vc⟩ (i + 1) = { t with mn := if r1 then v else t.mn, mx := if r2 then v else t.mx }) := (by show _ = _; rw [HK.out]; unfold lss; rw [HR1.out, HR2.out])
        obtain ⟨k0, k1, k2, k3⟩ := row_four HI.out.co
        clear HK HLt h0 HT hl1 hl2 c0 c1 c2
        go_wp2_with fail
        have b0 : Below (W.heap.size + 1 + 1 + 1) wr wr := Below.refl _ _
        have HN : Hid (∀ X, Below (W.heap.size + 1 + 1 + 1) wr X → (X.cell? ⟨W.heap.size, 0, none⟩ = some (.int .i64 cid) ∧ X.cell? ⟨W.heap.size, 1, none⟩ = some (.slice ra rs.length rc) ∧ X.cell? ⟨W.heap.size, 2, none⟩ = some (.slice da ds.length dc) ∧ X.cell? ⟨W.heap.size, 3, none⟩ = some (.slice (some ⟨b, o, none⟩) vs.length vc)) ∧ (X.cell? ⟨W.heap.size + 1 + 1, 0, none⟩ = some (.int .i64 t.e) ∧ X.cell? ⟨W.heap.size + 1 + 1, 1, none⟩ = some (.int .i64 t.u) ∧ X.cell? ⟨W.heap.size + 1 + 1, 2, none⟩ = some (.bool t.h) ∧ X.cell? ⟨W.heap.size + 1 + 1, 3, none⟩ = some (.int .i64 t.mn.k) ∧ X.cell? ⟨W.heap.size + 1 + 1, 4, none⟩ = some (.int .i64 t.mn.n) ∧ X.cell? ⟨W.heap.size + 1 + 1, 5, none⟩ = some (.string t.mn.s) ∧ X.cell? ⟨W.heap.size + 1 + 1, 6, none⟩ = some (.int .i64 t.mx.k) ∧ X.cell? ⟨W.heap.size + 1 + 1, 7, none⟩ = some (.int .i64 t.mx.n) ∧ X.cell? ⟨W.heap.size + 1 + 1, 8, none⟩ = some (.string t.mx.s)) ∧ (X.cell? ⟨b, o + i * 3, none⟩ = some (.int .i64 v.k) ∧ X.cell? ⟨b, o + i * 3 + 1, none⟩ = some (.int .i64 v.n) ∧ X.cell? ⟨b, o + i * 3 + 2, none⟩ = some (.string v.s)) ∧ Below (W.heap.size + 1 + 1 + 1) wr X) := fun X hX => ⟨row_four ((HI.out.keep hX).co), (st_row (HI.out.keep hX).st).1, HCV.out _ (HI.out.keep hX).old, hX⟩
        have HLs : Hid (∀ X, Below (W.heap.size + 1 + 1 + 1) wr X → Calls Tryd.prog 22 #[.agg #[.int .i64 v.k, .int .i64 v.n, .string v.s], .agg #[.int .i64 t.mn.k, .int .i64 t.mn.n, .string t.mn.s]] X fun e w' => e = .returned (.bool r1) ∧ Below (W.heap.size + 1 + 1 + 1) wr w') := fun X hX => (lessOf_any v.k v.n v.s t.mn.k t.mn.n t.mn.s X hv0 hl1').mono fun _ _ h => ⟨by rw [← HR1.out]; exact h.1, bel_next hX (lt_of_block HI.out.st) h.2⟩
        go_region_held3 (fun X => (X.cell? ⟨W.heap.size, 0, none⟩ = some (.int .i64 cid) ∧ X.cell? ⟨W.heap.size, 1, none⟩ = some (.slice ra rs.length rc) ∧ X.cell? ⟨W.heap.size, 2, none⟩ = some (.slice da ds.length dc) ∧ X.cell? ⟨W.heap.size, 3, none⟩ = some (.slice (some ⟨b, o, none⟩) vs.length vc)) ∧ (X.cell? ⟨W.heap.size + 1 + 1, 0, none⟩ = some (.int .i64 t.e) ∧ X.cell? ⟨W.heap.size + 1 + 1, 1, none⟩ = some (.int .i64 t.u) ∧ X.cell? ⟨W.heap.size + 1 + 1, 2, none⟩ = some (.bool t.h) ∧ X.cell? ⟨W.heap.size + 1 + 1, 3, none⟩ = some (.int .i64 t.mn.k) ∧ X.cell? ⟨W.heap.size + 1 + 1, 4, none⟩ = some (.int .i64 t.mn.n) ∧ X.cell? ⟨W.heap.size + 1 + 1, 5, none⟩ = some (.string t.mn.s) ∧ X.cell? ⟨W.heap.size + 1 + 1, 6, none⟩ = some (.int .i64 t.mx.k) ∧ X.cell? ⟨W.heap.size + 1 + 1, 7, none⟩ = some (.int .i64 t.mx.n) ∧ X.cell? ⟨W.heap.size + 1 + 1, 8, none⟩ = some (.string t.mx.s)) ∧ (X.cell? ⟨b, o + i * 3, none⟩ = some (.int .i64 v.k) ∧ X.cell? ⟨b, o + i * 3 + 1, none⟩ = some (.int .i64 v.n) ∧ X.cell? ⟨b, o + i * 3 + 2, none⟩ = some (.string v.s)) ∧ Below (W.heap.size + 1 + 1 + 1) wr X) (with_reducible refine HN.out _ ?_; repeat' (first | with_reducible assumption | with_reducible exact b0.drew | with_reducible exact b0 | with_reducible refine Below.drew ?_ | with_reducible exact Nat.le_refl _ | with_reducible refine Below.setCell ?_ ?_ _ | with_reducible refine Below.alloc ?_ ?_ _ | with_reducible exact Below.size (by assumption) | (simp; done) | (simp; omega) | omega)) (first | (go_at_call 22; (with_reducible refine Calls.mono (HLs.out _ ?_) ?_); (repeat' (first | with_reducible assumption | with_reducible exact b0.drew | with_reducible exact b0 | with_reducible refine Below.drew ?_ | with_reducible refine Below.alloc ?_ ?_ _ | with_reducible exact Below.size (by assumption) | with_reducible exact Nat.le_refl _)); rintro e y1 ⟨rfl, hb_y1⟩))
        clear HN HLs b0 k0 k1 k2 k3
        have HI1 : Hid _ := HI.out.keep hb_y1
        clear HI
        have cv1 := HCV.out _ HI1.out.old
        obtain ⟨k0, k1, k2, k3⟩ := row_four HI1.out.co
        obtain ⟨⟨s0, s1, s2, s3, s4, s5, s6, s7, s8⟩, s9⟩ := st_row HI1.out.st
        cases r1
        · go_wp2_with fail
          clear k0 k1 k2 k3 cv1 s0 s1 s2 s3 s4 s5 s6 s7 s8 s9
          obtain ⟨t2, HT2⟩ : ∃ t2 : St, Hid (t = t2) := ⟨_, rfl⟩
          obtain ⟨wm, HWM⟩ : ∃ w, Hid (y1 = w) := ⟨_, rfl⟩
          have HIm : Hid (RfI W ⟨cid, ra, rs, rc, da, ds, dc, some ⟨b, o, none⟩, vs, vc⟩ t2 wm) := (by show RfI _ _ _ _; rw [← HT2.out, ← HWM.out]; exact HI1.out)
          have HK3 : Hid (refK ⟨cid, ra, rs, rc, da, ds, dc, some ⟨b, o, none⟩, vs, vc⟩ (i + 1) = { t2 with mx := if r2 then v else t2.mx }) := (by show _ = _; rw [HK2.out, ← HT2.out]; rfl)
          have hl3 : -9223372036854775808 ≤ t2.mx.n := by rw [← HT2.out]; exact hl2'
          have HR3 : Hid (vless t2.mx.k t2.mx.n t2.mx.s v.k v.n v.s = r2) := (by show _ = _; rw [← HT2.out]; exact HR2.out)
          rw [HWM.out]
          clear HT2 HWM HI1 hb_y1
          have b0 : Below (W.heap.size + 1 + 1 + 1) wm wm := Below.refl _ _
          have HN : Hid (∀ X, Below (W.heap.size + 1 + 1 + 1) wm X → (X.cell? ⟨W.heap.size, 0, none⟩ = some (.int .i64 cid) ∧ X.cell? ⟨W.heap.size, 1, none⟩ = some (.slice ra rs.length rc) ∧ X.cell? ⟨W.heap.size, 2, none⟩ = some (.slice da ds.length dc) ∧ X.cell? ⟨W.heap.size, 3, none⟩ = some (.slice (some ⟨b, o, none⟩) vs.length vc)) ∧ (X.cell? ⟨W.heap.size + 1 + 1, 0, none⟩ = some (.int .i64 t2.e) ∧ X.cell? ⟨W.heap.size + 1 + 1, 1, none⟩ = some (.int .i64 t2.u) ∧ X.cell? ⟨W.heap.size + 1 + 1, 2, none⟩ = some (.bool t2.h) ∧ X.cell? ⟨W.heap.size + 1 + 1, 3, none⟩ = some (.int .i64 t2.mn.k) ∧ X.cell? ⟨W.heap.size + 1 + 1, 4, none⟩ = some (.int .i64 t2.mn.n) ∧ X.cell? ⟨W.heap.size + 1 + 1, 5, none⟩ = some (.string t2.mn.s) ∧ X.cell? ⟨W.heap.size + 1 + 1, 6, none⟩ = some (.int .i64 t2.mx.k) ∧ X.cell? ⟨W.heap.size + 1 + 1, 7, none⟩ = some (.int .i64 t2.mx.n) ∧ X.cell? ⟨W.heap.size + 1 + 1, 8, none⟩ = some (.string t2.mx.s)) ∧ (X.cell? ⟨b, o + i * 3, none⟩ = some (.int .i64 v.k) ∧ X.cell? ⟨b, o + i * 3 + 1, none⟩ = some (.int .i64 v.n) ∧ X.cell? ⟨b, o + i * 3 + 2, none⟩ = some (.string v.s)) ∧ Below (W.heap.size + 1 + 1 + 1) wm X) := fun X hX => ⟨row_four ((HIm.out.keep hX).co), (st_row (HIm.out.keep hX).st).1, HCV.out _ (HIm.out.keep hX).old, hX⟩
          have HLs : Hid (∀ X, Below (W.heap.size + 1 + 1 + 1) wm X → Calls Tryd.prog 22 #[.agg #[.int .i64 t2.mx.k, .int .i64 t2.mx.n, .string t2.mx.s], .agg #[.int .i64 v.k, .int .i64 v.n, .string v.s]] X fun e w' => e = .returned (.bool r2) ∧ Below (W.heap.size + 1 + 1 + 1) wm w') := fun X hX => (lessOf_any t2.mx.k t2.mx.n t2.mx.s v.k v.n v.s X hl3 hv0).mono fun _ _ h => ⟨by rw [← HR3.out]; exact h.1, bel_next hX (lt_of_block HIm.out.st) h.2⟩
          go_region_held3 (fun X => (X.cell? ⟨W.heap.size, 0, none⟩ = some (.int .i64 cid) ∧ X.cell? ⟨W.heap.size, 1, none⟩ = some (.slice ra rs.length rc) ∧ X.cell? ⟨W.heap.size, 2, none⟩ = some (.slice da ds.length dc) ∧ X.cell? ⟨W.heap.size, 3, none⟩ = some (.slice (some ⟨b, o, none⟩) vs.length vc)) ∧ (X.cell? ⟨W.heap.size + 1 + 1, 0, none⟩ = some (.int .i64 t2.e) ∧ X.cell? ⟨W.heap.size + 1 + 1, 1, none⟩ = some (.int .i64 t2.u) ∧ X.cell? ⟨W.heap.size + 1 + 1, 2, none⟩ = some (.bool t2.h) ∧ X.cell? ⟨W.heap.size + 1 + 1, 3, none⟩ = some (.int .i64 t2.mn.k) ∧ X.cell? ⟨W.heap.size + 1 + 1, 4, none⟩ = some (.int .i64 t2.mn.n) ∧ X.cell? ⟨W.heap.size + 1 + 1, 5, none⟩ = some (.string t2.mn.s) ∧ X.cell? ⟨W.heap.size + 1 + 1, 6, none⟩ = some (.int .i64 t2.mx.k) ∧ X.cell? ⟨W.heap.size + 1 + 1, 7, none⟩ = some (.int .i64 t2.mx.n) ∧ X.cell? ⟨W.heap.size + 1 + 1, 8, none⟩ = some (.string t2.mx.s)) ∧ (X.cell? ⟨b, o + i * 3, none⟩ = some (.int .i64 v.k) ∧ X.cell? ⟨b, o + i * 3 + 1, none⟩ = some (.int .i64 v.n) ∧ X.cell? ⟨b, o + i * 3 + 2, none⟩ = some (.string v.s)) ∧ Below (W.heap.size + 1 + 1 + 1) wm X) (with_reducible refine HN.out _ ?_; repeat' (first | with_reducible assumption | with_reducible exact b0.drew | with_reducible exact b0 | with_reducible refine Below.drew ?_ | with_reducible exact Nat.le_refl _ | with_reducible refine Below.setCell ?_ ?_ _ | with_reducible refine Below.alloc ?_ ?_ _ | with_reducible exact Below.size (by assumption) | (simp; done) | (simp; omega) | omega)) (first | (go_at_call 22; (with_reducible refine Calls.mono (HLs.out _ ?_) ?_); (repeat' (first | with_reducible assumption | with_reducible exact b0.drew | with_reducible exact b0 | with_reducible refine Below.drew ?_ | with_reducible refine Below.alloc ?_ ?_ _ | with_reducible exact Below.size (by assumption) | with_reducible exact Nat.le_refl _)); rintro e y2 ⟨rfl, hb_y2⟩))
          have HI2 : Hid _ := HIm.out.keep hb_y2
          clear HIm HN HLs b0 hb_y2 HR3 HR2 HR1 HK2
          have cv2 := HCV.out _ HI2.out.old
          obtain ⟨k0, k1, k2, k3⟩ := row_four HI2.out.co
          obtain ⟨⟨s0, s1, s2, s3, s4, s5, s6, s7, s8⟩, s9⟩ := st_row HI2.out.st
          cases r2
          · go_wp2
            go_roundw
            case rel => exact ⟨i + 1, by omega, by go_num, by show RfI _ _ _ _; rw [HK3.out]; exact HI2.out⟩
            case measure => simp [intOf]; omega
          · go_wp2
            go_roundw
            case rel => exact ⟨i + 1, by omega, by go_num, by show RfI _ _ _ _; rw [HK3.out]; exact HI2.out.setMx v⟩
            case measure => simp [intOf]; omega
        · go_wp2_with fail
          clear k0 k1 k2 k3 cv1 s0 s1 s2 s3 s4 s5 s6 s7 s8 s9
          obtain ⟨t2, HT2⟩ : ∃ t2 : St, Hid ({ t with mn := v } = t2) := ⟨_, rfl⟩
          obtain ⟨wm, HWM⟩ : ∃ w, Hid (((y1.setCell ⟨W.heap.size + 1 + 1, 3, none⟩ (.int .i64 v.k)).setCell ⟨W.heap.size + 1 + 1, 4, none⟩ (.int .i64 v.n)).setCell ⟨W.heap.size + 1 + 1, 5, none⟩ (.string v.s) = w) := ⟨_, rfl⟩
          have HIm : Hid (RfI W ⟨cid, ra, rs, rc, da, ds, dc, some ⟨b, o, none⟩, vs, vc⟩ t2 wm) := (by show RfI _ _ _ _; rw [← HT2.out, ← HWM.out]; exact HI1.out.setMn v)
          have HK3 : Hid (refK ⟨cid, ra, rs, rc, da, ds, dc, some ⟨b, o, none⟩, vs, vc⟩ (i + 1) = { t2 with mx := if r2 then v else t2.mx }) := (by show _ = _; rw [HK2.out, ← HT2.out]; rfl)
          have hl3 : -9223372036854775808 ≤ t2.mx.n := by rw [← HT2.out]; exact hl2'
          have HR3 : Hid (vless t2.mx.k t2.mx.n t2.mx.s v.k v.n v.s = r2) := (by show _ = _; rw [← HT2.out]; exact HR2.out)
          rw [HWM.out]
          clear HT2 HWM HI1 hb_y1
          have b0 : Below (W.heap.size + 1 + 1 + 1) wm wm := Below.refl _ _
          have HN : Hid (∀ X, Below (W.heap.size + 1 + 1 + 1) wm X → (X.cell? ⟨W.heap.size, 0, none⟩ = some (.int .i64 cid) ∧ X.cell? ⟨W.heap.size, 1, none⟩ = some (.slice ra rs.length rc) ∧ X.cell? ⟨W.heap.size, 2, none⟩ = some (.slice da ds.length dc) ∧ X.cell? ⟨W.heap.size, 3, none⟩ = some (.slice (some ⟨b, o, none⟩) vs.length vc)) ∧ (X.cell? ⟨W.heap.size + 1 + 1, 0, none⟩ = some (.int .i64 t2.e) ∧ X.cell? ⟨W.heap.size + 1 + 1, 1, none⟩ = some (.int .i64 t2.u) ∧ X.cell? ⟨W.heap.size + 1 + 1, 2, none⟩ = some (.bool t2.h) ∧ X.cell? ⟨W.heap.size + 1 + 1, 3, none⟩ = some (.int .i64 t2.mn.k) ∧ X.cell? ⟨W.heap.size + 1 + 1, 4, none⟩ = some (.int .i64 t2.mn.n) ∧ X.cell? ⟨W.heap.size + 1 + 1, 5, none⟩ = some (.string t2.mn.s) ∧ X.cell? ⟨W.heap.size + 1 + 1, 6, none⟩ = some (.int .i64 t2.mx.k) ∧ X.cell? ⟨W.heap.size + 1 + 1, 7, none⟩ = some (.int .i64 t2.mx.n) ∧ X.cell? ⟨W.heap.size + 1 + 1, 8, none⟩ = some (.string t2.mx.s)) ∧ (X.cell? ⟨b, o + i * 3, none⟩ = some (.int .i64 v.k) ∧ X.cell? ⟨b, o + i * 3 + 1, none⟩ = some (.int .i64 v.n) ∧ X.cell? ⟨b, o + i * 3 + 2, none⟩ = some (.string v.s)) ∧ Below (W.heap.size + 1 + 1 + 1) wm X) := fun X hX => ⟨row_four ((HIm.out.keep hX).co), (st_row (HIm.out.keep hX).st).1, HCV.out _ (HIm.out.keep hX).old, hX⟩
          have HLs : Hid (∀ X, Below (W.heap.size + 1 + 1 + 1) wm X → Calls Tryd.prog 22 #[.agg #[.int .i64 t2.mx.k, .int .i64 t2.mx.n, .string t2.mx.s], .agg #[.int .i64 v.k, .int .i64 v.n, .string v.s]] X fun e w' => e = .returned (.bool r2) ∧ Below (W.heap.size + 1 + 1 + 1) wm w') := fun X hX => (lessOf_any t2.mx.k t2.mx.n t2.mx.s v.k v.n v.s X hl3 hv0).mono fun _ _ h => ⟨by rw [← HR3.out]; exact h.1, bel_next hX (lt_of_block HIm.out.st) h.2⟩
          go_region_held3 (fun X => (X.cell? ⟨W.heap.size, 0, none⟩ = some (.int .i64 cid) ∧ X.cell? ⟨W.heap.size, 1, none⟩ = some (.slice ra rs.length rc) ∧ X.cell? ⟨W.heap.size, 2, none⟩ = some (.slice da ds.length dc) ∧ X.cell? ⟨W.heap.size, 3, none⟩ = some (.slice (some ⟨b, o, none⟩) vs.length vc)) ∧ (X.cell? ⟨W.heap.size + 1 + 1, 0, none⟩ = some (.int .i64 t2.e) ∧ X.cell? ⟨W.heap.size + 1 + 1, 1, none⟩ = some (.int .i64 t2.u) ∧ X.cell? ⟨W.heap.size + 1 + 1, 2, none⟩ = some (.bool t2.h) ∧ X.cell? ⟨W.heap.size + 1 + 1, 3, none⟩ = some (.int .i64 t2.mn.k) ∧ X.cell? ⟨W.heap.size + 1 + 1, 4, none⟩ = some (.int .i64 t2.mn.n) ∧ X.cell? ⟨W.heap.size + 1 + 1, 5, none⟩ = some (.string t2.mn.s) ∧ X.cell? ⟨W.heap.size + 1 + 1, 6, none⟩ = some (.int .i64 t2.mx.k) ∧ X.cell? ⟨W.heap.size + 1 + 1, 7, none⟩ = some (.int .i64 t2.mx.n) ∧ X.cell? ⟨W.heap.size + 1 + 1, 8, none⟩ = some (.string t2.mx.s)) ∧ (X.cell? ⟨b, o + i * 3, none⟩ = some (.int .i64 v.k) ∧ X.cell? ⟨b, o + i * 3 + 1, none⟩ = some (.int .i64 v.n) ∧ X.cell? ⟨b, o + i * 3 + 2, none⟩ = some (.string v.s)) ∧ Below (W.heap.size + 1 + 1 + 1) wm X) (with_reducible refine HN.out _ ?_; repeat' (first | with_reducible assumption | with_reducible exact b0.drew | with_reducible exact b0 | with_reducible refine Below.drew ?_ | with_reducible exact Nat.le_refl _ | with_reducible refine Below.setCell ?_ ?_ _ | with_reducible refine Below.alloc ?_ ?_ _ | with_reducible exact Below.size (by assumption) | (simp; done) | (simp; omega) | omega)) (first | (go_at_call 22; (with_reducible refine Calls.mono (HLs.out _ ?_) ?_); (repeat' (first | with_reducible assumption | with_reducible exact b0.drew | with_reducible exact b0 | with_reducible refine Below.drew ?_ | with_reducible refine Below.alloc ?_ ?_ _ | with_reducible exact Below.size (by assumption) | with_reducible exact Nat.le_refl _)); rintro e y2 ⟨rfl, hb_y2⟩))
          have HI2 : Hid _ := HIm.out.keep hb_y2
          clear HIm HN HLs b0 hb_y2 HR3 HR2 HR1 HK2
          have cv2 := HCV.out _ HI2.out.old
          obtain ⟨k0, k1, k2, k3⟩ := row_four HI2.out.co
          obtain ⟨⟨s0, s1, s2, s3, s4, s5, s6, s7, s8⟩, s9⟩ := st_row HI2.out.st
          cases r2
          · go_wp2
            go_roundw
            case rel => exact ⟨i + 1, by omega, by go_num, by show RfI _ _ _ _; rw [HK3.out]; exact HI2.out⟩
            case measure => simp [intOf]; omega
          · go_wp2
            go_roundw
            case rel => exact ⟨i + 1, by omega, by go_num, by show RfI _ _ _ _; rw [HK3.out]; exact HI2.out.setMx v⟩
            case measure => simp [intOf]; omega
    · obtain rfl : i = vs.length := by omega
      rw [refK_end] at HI
      obtain ⟨t, HT⟩ : ∃ t, Hid (ofC ⟨cid, ra, rs, rc, da, ds, dc, va, vs, vc⟩ = t) := ⟨_, rfl⟩
      rw [HT.out] at HI
      obtain ⟨k0, k1, k2, k3⟩ := row_four HI.out.co
      obtain ⟨⟨s0, s1, s2, s3, s4, s5, s6, s7, s8⟩, s9⟩ := st_row HI.out.st
      obtain ⟨z1, z2⟩ := row_nine HI.out.re
      go_wp2
      exact bodyPost_ret (v := t.val) (results_cell_row Tryd.results15 _ _ (W.heap.size + 1) 46 t.cs (0, 0) _ rfl (set9_row HI.out.re _ _ _ _ _ _ _ _ _) Tryd.underlying46 rfl (by kernel_rfl)) rfl ⟨by rw [HT.out], set9_below HI.out.old (by omega) _ _ _ _ _ _ _ _ _⟩
theorem statsOfR_any (c : Cl) (W : World) (hn : c.rs.length ≤ 1048576) (hv : c.vs.length ≤ 1048576) (hat : c.At W) (hlo : ∀ v ∈ c.vs, v.Low) :
    Calls Tryd.prog 15 #[.agg #[.int .i64 c.id, .slice c.ra c.rs.length c.rc, .slice c.da c.ds.length c.dc, .slice c.va c.vs.length c.vc]] W fun e w' => e = .returned (ofC c).val ∧ Below W.heap.size W w' :=
  statsOfR_x c.id c.ra c.rs c.rc c.da c.ds c.dc c.va c.vs c.vc W hn hv hat.v hlo
end Go.Proofs.YtkcobccmifkjcaaDoor
