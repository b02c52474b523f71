/-
  The reference's StatsOf.
  The reference's MergedOf; statsOf.
  The closed fact that stage 9's laws begin with.
  shred.Join, walked.
-/
import Derived.Test.YtkcobccmifkjcaaDoorDBStBase
import Derived.BigQuiet
import Derived.Test.YtkcobccmifkjcaaDoorDBColS
namespace Go.Proofs.YtkcobccmifkjcaaDoor
open Go.RowKit
/-- What is known up to a value, as the reference has it. -/
def refK (c : Cl) (i : Nat) : St := ⟨(c.rs.length : Nat), (c.rs.length : Int) - (c.vs.length : Nat), decide (0 < c.vs.length), (ofK c i).mn, (ofK c i).mx⟩
theorem ofK_h (c : Cl) : ∀ i, i ≤ c.vs.length → (ofK c i).h = decide (0 < i)
  | 0, _ => rfl
  | i + 1, hi => by rw [ofK_succ c hi]; simp [St.around]
theorem ofK_e (c : Cl) : ∀ i, i ≤ c.vs.length → (ofK c i).e = (c.rs.length : Nat) ∧ (ofK c i).u = (c.rs.length : Int) - (c.vs.length : Nat)
  | 0, _ => ⟨rfl, rfl⟩
  | i + 1, hi => by rw [ofK_succ c hi]; exact ofK_e c i (by omega)
theorem refK_end (c : Cl) : refK c c.vs.length = ofC c := by
  have h1 := ofK_h c c.vs.length (Nat.le_refl _)
  have h2 := ofK_e c c.vs.length (Nat.le_refl _)
  have h3 : ofK c c.vs.length = ofC c := by unfold ofK ofC; rw [List.take_length]
  rw [h3] at h1 h2
  unfold refK
  rw [h3]
  generalize ofC c = s at *
  obtain ⟨e, u, h, m, x⟩ := s
  obtain ⟨h4, h5⟩ := h2
  simp only at h1 h4 h5
  rw [h1, h4, h5]
theorem refK_zero (c : Cl) (h : 0 < c.vs.length) : refK c 1 = { refK c 0 with mn := c.vs[0], mx := c.vs[0] } := by
  unfold refK
  rw [ofK_succ c h]
  rfl
theorem refK_succ (c : Cl) {i : Nat} (h : i < c.vs.length) (h0 : 0 < i) : refK c (i + 1) = { refK c i with mn := if lss c.vs[i] (refK c i).mn then c.vs[i] else (refK c i).mn, mx := if lss (refK c i).mx c.vs[i] then c.vs[i] else (refK c i).mx } := by
  have hh := ofK_h c i (by omega)
  rw [decide_eq_true h0] at hh
  unfold refK
  rw [ofK_succ c h]
  simp [St.around, hh]
/-- What its boxes hold. -/
structure RfI (W : World) (c : Cl) (t : St) (X : World) : Prop where
  co : X.heap[W.heap.size]? = some (.cells #[.int .i64 c.id, .slice c.ra c.rs.length c.rc, .slice c.da c.ds.length c.dc, .slice c.va c.vs.length c.vc] 27 (0, 0))
  re : X.heap[W.heap.size + 1]? = some (.cells #[.int .i64 0, .int .i64 0, .bool false, .int .i64 0, .int .i64 0, .string ⟨#[]⟩, .int .i64 0, .int .i64 0, .string ⟨#[]⟩] 46 (0, 0))
  st : X.heap[W.heap.size + 1 + 1]? = some (.cells t.cs 46 (0, 0))
  old : Below W.heap.size W X
theorem RfI.keep {W : World} {c : Cl} {t : St} {X w' : World} (h : RfI W c t X) (hb : Below (W.heap.size + 1 + 1 + 1) X w') : RfI W c t w' :=
  ⟨(hb.block _ (by omega)).trans h.co, (hb.block _ (by omega)).trans h.re, (hb.block _ (by omega)).trans h.st, h.old.trans (hb.mono (by omega))⟩
theorem RfI.setMn {W : World} {c : Cl} {t : St} {X : World} (h : RfI W c t X) (l : Vl) : RfI W c { t with mn := l } (((X.setCell ⟨W.heap.size + 1 + 1, 3, none⟩ (.int .i64 l.k)).setCell ⟨W.heap.size + 1 + 1, 4, none⟩ (.int .i64 l.n)).setCell ⟨W.heap.size + 1 + 1, 5, none⟩ (.string l.s)) :=
  ⟨blk_other (blk_other (blk_other h.co (by omega) _) (by omega) _) (by omega) _, blk_other (blk_other (blk_other h.re (by omega) _) (by omega) _) (by omega) _, row_setCell (row_setCell (row_setCell h.st _) _) _, ((h.old.setCell (by simp; omega) _).setCell (by simp; omega) _).setCell (by simp; omega) _⟩
theorem RfI.setMx {W : World} {c : Cl} {t : St} {X : World} (h : RfI W c t X) (l : Vl) : RfI W c { t with mx := l } (((X.setCell ⟨W.heap.size + 1 + 1, 6, none⟩ (.int .i64 l.k)).setCell ⟨W.heap.size + 1 + 1, 7, none⟩ (.int .i64 l.n)).setCell ⟨W.heap.size + 1 + 1, 8, none⟩ (.string l.s)) :=
  ⟨blk_other (blk_other (blk_other h.co (by omega) _) (by omega) _) (by omega) _, blk_other (blk_other (blk_other h.re (by omega) _) (by omega) _) (by omega) _, row_setCell (row_setCell (row_setCell h.st _) _) _, ((h.old.setCell (by simp; omega) _).setCell (by simp; omega) _).setCell (by simp; omega) _⟩
set_option maxRecDepth 100000 in
set_option maxHeartbeats 6400000 in
theorem statsOfR_x (cid : Int) (ra : Option Addr) (rs : List Int) (rc : Nat) (da : Option Addr) (ds : List Int) (dc : Nat) (va : Option Addr) (vs : List Vl) (vc : Nat) (W : World) (hn : rs.length ≤ 1048576) (hv : vs.length ≤ 1048576) (hat : LiesV W va vs) (hlo : ∀ v ∈ vs, v.Low) :
    Calls Tryd.prog 15 #[.agg #[.int .i64 cid, .slice ra rs.length rc, .slice da ds.length dc, .slice va vs.length vc]] W fun e w' => e = .returned (ofC ⟨cid, ra, rs, rc, da, ds, dc, va, vs, vc⟩).val ∧ Below W.heap.size W w' := by
  obtain ⟨w0, HW0, HX, HY, HB⟩ := two_boxes W #[.int .i64 cid, .slice ra rs.length rc, .slice da ds.length dc, .slice va vs.length vc] #[.int .i64 0, .int .i64 0, .bool false, .int .i64 0, .int .i64 0, .string ⟨#[]⟩, .int .i64 0, .int .i64 0, .string ⟨#[]⟩] 27 46
  have hsz : w0.heap.size = W.heap.size + 1 + 1 := by rw [← HW0.out]; simp
  have HLV : Hid (∀ X, Below W.heap.size W X → LiesV X va vs) := fun X hX => hat.keep hX
  have HLO : Hid _ := hlo
  clear hat hlo
  obtain ⟨k0, k1, k2, k3⟩ := row_four HX.out
  have hwr : IntKind.i64.wrap ((rs.length : Int) - (vs.length : Int)) = (rs.length : Int) - (vs.length : Int) := by rw [IntKind.wrap_i64]; omega
  go_enter Tryd.func15, Tryd.ntmps15
  go_upto_region 1 with fail
  rw [HW0.out]
  obtain ⟨bv, HBV⟩ : ∃ bv, Hid (decide (0 < vs.length) = bv) := ⟨_, rfl⟩
  have hbv : decide (0 < vs.length) = bv := HBV.out
  have HI0 : Hid (RfI W ⟨cid, ra, rs, rc, da, ds, dc, va, vs, vc⟩ (refK ⟨cid, ra, rs, rc, da, ds, dc, va, vs, vc⟩ 0) (w0.alloc (.cells #[.int .i64 (rs.length : Nat), .int .i64 ((rs.length : Int) - (vs.length : Int)), .bool bv, .int .i64 0, .int .i64 0, .string ⟨#[]⟩, .int .i64 0, .int .i64 0, .string ⟨#[]⟩] 46))) := (by
    refine ⟨blk_alloc HX.out, blk_alloc HY.out, ?_, HB.out.alloc HB.out.size _⟩
    have h := heap_alloc_new w0 (.cells #[.int .i64 (rs.length : Nat), .int .i64 ((rs.length : Int) - (vs.length : Int)), .bool bv, .int .i64 0, .int .i64 0, .string ⟨#[]⟩, .int .i64 0, .int .i64 0, .string ⟨#[]⟩] 46)
    rw [hsz] at h
    rw [h, ← HBV.out]
    rfl)
  go_wp2
  clear k0 k1 k2 k3 hwr HX HY HB HW0 hbv
  go_loopw [4] (fun x wr => ∃ i : Nat, i ≤ vs.length ∧ x = .int .i64 i ∧ Hid (RfI W ⟨cid, ra, rs, rc, da, ds, dc, va, vs, vc⟩ (refK ⟨cid, ra, rs, rc, da, ds, dc, va, vs, vc⟩ i) wr)) (fun x _ => vs.length - (intOf x).toNat)
  case atStart => exact ⟨0, Nat.zero_le _, rfl, HI0⟩
  case round =>
    obtain ⟨i, hi, rfl, HI⟩ := hrel
    clear HI0
    by_cases hlt : i < vs.length
    · obtain ⟨b, o, rfl, c0, c1, c2⟩ := HLV.out _ HI.out.old i hlt
      have HV : Hid (vs[i].Low) := HLO.out _ (List.getElem_mem _)
      have HLt : Hid ((refK ⟨cid, ra, rs, rc, da, ds, dc, some ⟨b, o, none⟩, vs, vc⟩ i).mn.Low ∧ (refK ⟨cid, ra, rs, rc, da, ds, dc, some ⟨b, o, none⟩, vs, vc⟩ i).mx.Low) := ofK_low ⟨cid, ra, rs, rc, da, ds, dc, some ⟨b, o, none⟩, vs, vc⟩ HLO.out i hi
      have HCV : Hid (∀ X, Below W.heap.size W X → X.cell? ⟨b, o + i * 3, none⟩ = some (.int .i64 vs[i].k) ∧ X.cell? ⟨b, o + i * 3 + 1, none⟩ = some (.int .i64 vs[i].n) ∧ X.cell? ⟨b, o + i * 3 + 2, none⟩ = some (.string vs[i].s)) := fun X hX => (by
        obtain ⟨b', o', e, h0, h1, h2⟩ := HLV.out X hX i hlt
        obtain ⟨rfl, rfl⟩ : b = b' ∧ o = o' := by simpa using e
        exact ⟨h0, h1, h2⟩)
      have hbn : ¬ (b = W.heap.size + 1 + 1) := by have h : b < W.heap.size := World.block_lt_of_cell? W _ (HCV.out W (Below.refl _ _)).1; omega
      rcases Nat.eq_zero_or_pos i with h0 | h0
      · subst h0
        have HK : Hid (refK ⟨cid, ra, rs, rc, da, ds, dc, some ⟨b, o, none⟩, vs, vc⟩ 1 = { refK ⟨cid, ra, rs, rc, da, ds, dc, some ⟨b, o, none⟩, vs, vc⟩ 0 with mn := vs[0], mx := vs[0] }) := refK_zero ⟨cid, ra, rs, rc, da, ds, dc, some ⟨b, o, none⟩, vs, vc⟩ hlt
        clear hi HLt
        generalize vs[0] = v at *
        obtain ⟨t, HT⟩ : ∃ t, Hid (refK ⟨cid, ra, rs, rc, da, ds, dc, some ⟨b, o, none⟩, vs, vc⟩ 0 = t) := ⟨_, rfl⟩
        rw [HT.out] at HI HK
        obtain ⟨k0, k1, k2, k3⟩ := row_four HI.out.co
        obtain ⟨⟨s0, s1, s2, s3, s4, s5, s6, s7, s8⟩, s9⟩ := st_row HI.out.st
        simp only [Nat.zero_mul, Nat.add_zero] at c0 c1 c2
        go_wp2_with fail
        go_quiet (fail)
        go_wp2_with fail
        go_quiet (fail)
        go_wp2
        go_roundw
        case rel => exact ⟨1, by omega, by go_num, by show RfI _ _ _ _; rw [HK.out]; exact ((((HI.out.keep (blw_drewN (Below.refl _ _) _)).setMn v).keep (blw_drewN (Below.refl _ _) _)).setMx v)⟩
        case measure => simp [intOf]; omega
      · have HK : Hid (refK ⟨cid, ra, rs, rc, da, ds, dc, some ⟨b, o, none⟩, vs, vc⟩ (i + 1) = { refK ⟨cid, ra, rs, rc, da, ds, dc, some ⟨b, o, none⟩, vs, vc⟩ i with mn := if lss vs[i] (refK ⟨cid, ra, rs, rc, da, ds, dc, some ⟨b, o, none⟩, vs, vc⟩ i).mn then vs[i] else (refK ⟨cid, ra, rs, rc, da, ds, dc, some ⟨b, o, none⟩, vs, vc⟩ i).mn, mx := if lss (refK ⟨cid, ra, rs, rc, da, ds, dc, some ⟨b, o, none⟩, vs, vc⟩ i).mx vs[i] then vs[i] else (refK ⟨cid, ra, rs, rc, da, ds, dc, some ⟨b, o, none⟩, vs, vc⟩ i).mx }) := refK_succ ⟨cid, ra, rs, rc, da, ds, dc, some ⟨b, o, none⟩, vs, vc⟩ hlt h0
        have qi : ((i : Int) == 0) = false := by simp; omega
        have HPos : Hid _ := h0
        generalize vs[i] = v at *
        obtain ⟨t, HT⟩ : ∃ t, Hid (refK ⟨cid, ra, rs, rc, da, ds, dc, some ⟨b, o, none⟩, vs, vc⟩ i = t) := ⟨_, rfl⟩
        rw [HT.out] at HI HK HLt
        obtain ⟨hl1, hl2⟩ := HLt.out
        have hv0 : -9223372036854775808 ≤ v.n := HV.out
        have hl1' : -9223372036854775808 ≤ t.mn.n := hl1
        have hl2' : -9223372036854775808 ≤ t.mx.n := hl2
        obtain ⟨r1, HR1⟩ : ∃ r, Hid (vless v.k v.n v.s t.mn.k t.mn.n t.mn.s = r) := ⟨_, rfl⟩
        obtain ⟨r2, HR2⟩ : ∃ r, Hid (vless t.mx.k t.mx.n t.mx.s v.k v.n v.s = r) := ⟨_, rfl⟩
        have HK2 : Hid (refK ⟨cid, ra, rs, rc, da, ds, dc, some ⟨b, o, none⟩, vs, vc⟩ (i + 1) = { t with mn := if r1 then v else t.mn, mx := if r2 then v else t.mx }) := (by show _ = _; rw [HK.out]; unfold lss; rw [HR1.out, HR2.out])
        obtain ⟨k0, k1, k2, k3⟩ := row_four HI.out.co
        clear HK HLt h0 HT hl1 hl2 c0 c1 c2
        go_wp2_with fail
        have b0 : Below (W.heap.size + 1 + 1 + 1) wr wr := Below.refl _ _
        have HN : Hid (∀ X, Below (W.heap.size + 1 + 1 + 1) wr X → (X.cell? ⟨W.heap.size, 0, none⟩ = some (.int .i64 cid) ∧ X.cell? ⟨W.heap.size, 1, none⟩ = some (.slice ra rs.length rc) ∧ X.cell? ⟨W.heap.size, 2, none⟩ = some (.slice da ds.length dc) ∧ X.cell? ⟨W.heap.size, 3, none⟩ = some (.slice (some ⟨b, o, none⟩) vs.length vc)) ∧ (X.cell? ⟨W.heap.size + 1 + 1, 0, none⟩ = some (.int .i64 t.e) ∧ X.cell? ⟨W.heap.size + 1 + 1, 1, none⟩ = some (.int .i64 t.u) ∧ X.cell? ⟨W.heap.size + 1 + 1, 2, none⟩ = some (.bool t.h) ∧ X.cell? ⟨W.heap.size + 1 + 1, 3, none⟩ = some (.int .i64 t.mn.k) ∧ X.cell? ⟨W.heap.size + 1 + 1, 4, none⟩ = some (.int .i64 t.mn.n) ∧ X.cell? ⟨W.heap.size + 1 + 1, 5, none⟩ = some (.string t.mn.s) ∧ X.cell? ⟨W.heap.size + 1 + 1, 6, none⟩ = some (.int .i64 t.mx.k) ∧ X.cell? ⟨W.heap.size + 1 + 1, 7, none⟩ = some (.int .i64 t.mx.n) ∧ X.cell? ⟨W.heap.size + 1 + 1, 8, none⟩ = some (.string t.mx.s)) ∧ (X.cell? ⟨b, o + i * 3, none⟩ = some (.int .i64 v.k) ∧ X.cell? ⟨b, o + i * 3 + 1, none⟩ = some (.int .i64 v.n) ∧ X.cell? ⟨b, o + i * 3 + 2, none⟩ = some (.string v.s)) ∧ Below (W.heap.size + 1 + 1 + 1) wr X) := fun X hX => ⟨row_four ((HI.out.keep hX).co), (st_row (HI.out.keep hX).st).1, HCV.out _ (HI.out.keep hX).old, hX⟩
        have HLs : Hid (∀ X, Below (W.heap.size + 1 + 1 + 1) wr X → Calls Tryd.prog 22 #[.agg #[.int .i64 v.k, .int .i64 v.n, .string v.s], .agg #[.int .i64 t.mn.k, .int .i64 t.mn.n, .string t.mn.s]] X fun e w' => e = .returned (.bool r1) ∧ Below (W.heap.size + 1 + 1 + 1) wr w') := fun X hX => (lessOf_any v.k v.n v.s t.mn.k t.mn.n t.mn.s X hv0 hl1').mono fun _ _ h => ⟨by rw [← HR1.out]; exact h.1, bel_next hX (lt_of_block HI.out.st) h.2⟩
        go_region_held3 (fun X => (X.cell? ⟨W.heap.size, 0, none⟩ = some (.int .i64 cid) ∧ X.cell? ⟨W.heap.size, 1, none⟩ = some (.slice ra rs.length rc) ∧ X.cell? ⟨W.heap.size, 2, none⟩ = some (.slice da ds.length dc) ∧ X.cell? ⟨W.heap.size, 3, none⟩ = some (.slice (some ⟨b, o, none⟩) vs.length vc)) ∧ (X.cell? ⟨W.heap.size + 1 + 1, 0, none⟩ = some (.int .i64 t.e) ∧ X.cell? ⟨W.heap.size + 1 + 1, 1, none⟩ = some (.int .i64 t.u) ∧ X.cell? ⟨W.heap.size + 1 + 1, 2, none⟩ = some (.bool t.h) ∧ X.cell? ⟨W.heap.size + 1 + 1, 3, none⟩ = some (.int .i64 t.mn.k) ∧ X.cell? ⟨W.heap.size + 1 + 1, 4, none⟩ = some (.int .i64 t.mn.n) ∧ X.cell? ⟨W.heap.size + 1 + 1, 5, none⟩ = some (.string t.mn.s) ∧ X.cell? ⟨W.heap.size + 1 + 1, 6, none⟩ = some (.int .i64 t.mx.k) ∧ X.cell? ⟨W.heap.size + 1 + 1, 7, none⟩ = some (.int .i64 t.mx.n) ∧ X.cell? ⟨W.heap.size + 1 + 1, 8, none⟩ = some (.string t.mx.s)) ∧ (X.cell? ⟨b, o + i * 3, none⟩ = some (.int .i64 v.k) ∧ X.cell? ⟨b, o + i * 3 + 1, none⟩ = some (.int .i64 v.n) ∧ X.cell? ⟨b, o + i * 3 + 2, none⟩ = some (.string v.s)) ∧ Below (W.heap.size + 1 + 1 + 1) wr X) (with_reducible refine HN.out _ ?_; repeat' (first | with_reducible assumption | with_reducible exact b0.drew | with_reducible exact b0 | with_reducible refine Below.drew ?_ | with_reducible exact Nat.le_refl _ | with_reducible refine Below.setCell ?_ ?_ _ | with_reducible refine Below.alloc ?_ ?_ _ | with_reducible exact Below.size (by assumption) | (simp; done) | (simp; omega) | omega)) (first | (go_at_call 22; (with_reducible refine Calls.mono (HLs.out _ ?_) ?_); (repeat' (first | with_reducible assumption | with_reducible exact b0.drew | with_reducible exact b0 | with_reducible refine Below.drew ?_ | with_reducible refine Below.alloc ?_ ?_ _ | with_reducible exact Below.size (by assumption) | with_reducible exact Nat.le_refl _)); rintro e y1 ⟨rfl, hb_y1⟩))
        clear HN HLs b0 k0 k1 k2 k3
        have HI1 : Hid _ := HI.out.keep hb_y1
        clear HI
        have cv1 := HCV.out _ HI1.out.old
        obtain ⟨k0, k1, k2, k3⟩ := row_four HI1.out.co
        obtain ⟨⟨s0, s1, s2, s3, s4, s5, s6, s7, s8⟩, s9⟩ := st_row HI1.out.st
        cases r1
        · go_wp2_with fail
          clear k0 k1 k2 k3 cv1 s0 s1 s2 s3 s4 s5 s6 s7 s8 s9
          obtain ⟨t2, HT2⟩ : ∃ t2 : St, Hid (t = t2) := ⟨_, rfl⟩
          obtain ⟨wm, HWM⟩ : ∃ w, Hid (y1 = w) := ⟨_, rfl⟩
          have HIm : Hid (RfI W ⟨cid, ra, rs, rc, da, ds, dc, some ⟨b, o, none⟩, vs, vc⟩ t2 wm) := (by show RfI _ _ _ _; rw [← HT2.out, ← HWM.out]; exact HI1.out)
          have HK3 : Hid (refK ⟨cid, ra, rs, rc, da, ds, dc, some ⟨b, o, none⟩, vs, vc⟩ (i + 1) = { t2 with mx := if r2 then v else t2.mx }) := (by show _ = _; rw [HK2.out, ← HT2.out]; rfl)
          have hl3 : -9223372036854775808 ≤ t2.mx.n := by rw [← HT2.out]; exact hl2'
          have HR3 : Hid (vless t2.mx.k t2.mx.n t2.mx.s v.k v.n v.s = r2) := (by show _ = _; rw [← HT2.out]; exact HR2.out)
          rw [HWM.out]
          clear HT2 HWM HI1 hb_y1
          have b0 : Below (W.heap.size + 1 + 1 + 1) wm wm := Below.refl _ _
          have HN : Hid (∀ X, Below (W.heap.size + 1 + 1 + 1) wm X → (X.cell? ⟨W.heap.size, 0, none⟩ = some (.int .i64 cid) ∧ X.cell? ⟨W.heap.size, 1, none⟩ = some (.slice ra rs.length rc) ∧ X.cell? ⟨W.heap.size, 2, none⟩ = some (.slice da ds.length dc) ∧ X.cell? ⟨W.heap.size, 3, none⟩ = some (.slice (some ⟨b, o, none⟩) vs.length vc)) ∧ (X.cell? ⟨W.heap.size + 1 + 1, 0, none⟩ = some (.int .i64 t2.e) ∧ X.cell? ⟨W.heap.size + 1 + 1, 1, none⟩ = some (.int .i64 t2.u) ∧ X.cell? ⟨W.heap.size + 1 + 1, 2, none⟩ = some (.bool t2.h) ∧ X.cell? ⟨W.heap.size + 1 + 1, 3, none⟩ = some (.int .i64 t2.mn.k) ∧ X.cell? ⟨W.heap.size + 1 + 1, 4, none⟩ = some (.int .i64 t2.mn.n) ∧ X.cell? ⟨W.heap.size + 1 + 1, 5, none⟩ = some (.string t2.mn.s) ∧ X.cell? ⟨W.heap.size + 1 + 1, 6, none⟩ = some (.int .i64 t2.mx.k) ∧ X.cell? ⟨W.heap.size + 1 + 1, 7, none⟩ = some (.int .i64 t2.mx.n) ∧ X.cell? ⟨W.heap.size + 1 + 1, 8, none⟩ = some (.string t2.mx.s)) ∧ (X.cell? ⟨b, o + i * 3, none⟩ = some (.int .i64 v.k) ∧ X.cell? ⟨b, o + i * 3 + 1, none⟩ = some (.int .i64 v.n) ∧ X.cell? ⟨b, o + i * 3 + 2, none⟩ = some (.string v.s)) ∧ Below (W.heap.size + 1 + 1 + 1) wm X) := fun X hX => ⟨row_four ((HIm.out.keep hX).co), (st_row (HIm.out.keep hX).st).1, HCV.out _ (HIm.out.keep hX).old, hX⟩
          have HLs : Hid (∀ X, Below (W.heap.size + 1 + 1 + 1) wm X → Calls Tryd.prog 22 #[.agg #[.int .i64 t2.mx.k, .int .i64 t2.mx.n, .string t2.mx.s], .agg #[.int .i64 v.k, .int .i64 v.n, .string v.s]] X fun e w' => e = .returned (.bool r2) ∧ Below (W.heap.size + 1 + 1 + 1) wm w') := fun X hX => (lessOf_any t2.mx.k t2.mx.n t2.mx.s v.k v.n v.s X hl3 hv0).mono fun _ _ h => ⟨by rw [← HR3.out]; exact h.1, bel_next hX (lt_of_block HIm.out.st) h.2⟩
          go_region_held3 (fun X => (X.cell? ⟨W.heap.size, 0, none⟩ = some (.int .i64 cid) ∧ X.cell? ⟨W.heap.size, 1, none⟩ = some (.slice ra rs.length rc) ∧ X.cell? ⟨W.heap.size, 2, none⟩ = some (.slice da ds.length dc) ∧ X.cell? ⟨W.heap.size, 3, none⟩ = some (.slice (some ⟨b, o, none⟩) vs.length vc)) ∧ (X.cell? ⟨W.heap.size + 1 + 1, 0, none⟩ = some (.int .i64 t2.e) ∧ X.cell? ⟨W.heap.size + 1 + 1, 1, none⟩ = some (.int .i64 t2.u) ∧ X.cell? ⟨W.heap.size + 1 + 1, 2, none⟩ = some (.bool t2.h) ∧ X.cell? ⟨W.heap.size + 1 + 1, 3, none⟩ = some (.int .i64 t2.mn.k) ∧ X.cell? ⟨W.heap.size + 1 + 1, 4, none⟩ = some (.int .i64 t2.mn.n) ∧ X.cell? ⟨W.heap.size + 1 + 1, 5, none⟩ = some (.string t2.mn.s) ∧ X.cell? ⟨W.heap.size + 1 + 1, 6, none⟩ = some (.int .i64 t2.mx.k) ∧ X.cell? ⟨W.heap.size + 1 + 1, 7, none⟩ = some (.int .i64 t2.mx.n) ∧ X.cell? ⟨W.heap.size + 1 + 1, 8, none⟩ = some (.string t2.mx.s)) ∧ (X.cell? ⟨b, o + i * 3, none⟩ = some (.int .i64 v.k) ∧ X.cell? ⟨b, o + i * 3 + 1, none⟩ = some (.int .i64 v.n) ∧ X.cell? ⟨b, o + i * 3 + 2, none⟩ = some (.string v.s)) ∧ Below (W.heap.size + 1 + 1 + 1) wm X) (with_reducible refine HN.out _ ?_; repeat' (first | with_reducible assumption | with_reducible exact b0.drew | with_reducible exact b0 | with_reducible refine Below.drew ?_ | with_reducible exact Nat.le_refl _ | with_reducible refine Below.setCell ?_ ?_ _ | with_reducible refine Below.alloc ?_ ?_ _ | with_reducible exact Below.size (by assumption) | (simp; done) | (simp; omega) | omega)) (first | (go_at_call 22; (with_reducible refine Calls.mono (HLs.out _ ?_) ?_); (repeat' (first | with_reducible assumption | with_reducible exact b0.drew | with_reducible exact b0 | with_reducible refine Below.drew ?_ | with_reducible refine Below.alloc ?_ ?_ _ | with_reducible exact Below.size (by assumption) | with_reducible exact Nat.le_refl _)); rintro e y2 ⟨rfl, hb_y2⟩))
          have HI2 : Hid _ := HIm.out.keep hb_y2
          clear HIm HN HLs b0 hb_y2 HR3 HR2 HR1 HK2
          have cv2 := HCV.out _ HI2.out.old
          obtain ⟨k0, k1, k2, k3⟩ := row_four HI2.out.co
          obtain ⟨⟨s0, s1, s2, s3, s4, s5, s6, s7, s8⟩, s9⟩ := st_row HI2.out.st
          cases r2
          · go_wp2
            go_roundw
            case rel => exact ⟨i + 1, by omega, by go_num, by show RfI _ _ _ _; rw [HK3.out]; exact HI2.out⟩
            case measure => simp [intOf]; omega
          · go_wp2
            go_roundw
            case rel => exact ⟨i + 1, by omega, by go_num, by show RfI _ _ _ _; rw [HK3.out]; exact HI2.out.setMx v⟩
            case measure => simp [intOf]; omega
        · go_wp2_with fail
          clear k0 k1 k2 k3 cv1 s0 s1 s2 s3 s4 s5 s6 s7 s8 s9
          obtain ⟨t2, HT2⟩ : ∃ t2 : St, Hid ({ t with mn := v } = t2) := ⟨_, rfl⟩
          obtain ⟨wm, HWM⟩ : ∃ w, Hid (((y1.setCell ⟨W.heap.size + 1 + 1, 3, none⟩ (.int .i64 v.k)).setCell ⟨W.heap.size + 1 + 1, 4, none⟩ (.int .i64 v.n)).setCell ⟨W.heap.size + 1 + 1, 5, none⟩ (.string v.s) = w) := ⟨_, rfl⟩
          have HIm : Hid (RfI W ⟨cid, ra, rs, rc, da, ds, dc, some ⟨b, o, none⟩, vs, vc⟩ t2 wm) := (by show RfI _ _ _ _; rw [← HT2.out, ← HWM.out]; exact HI1.out.setMn v)
          have HK3 : Hid (refK ⟨cid, ra, rs, rc, da, ds, dc, some ⟨b, o, none⟩, vs, vc⟩ (i + 1) = { t2 with mx := if r2 then v else t2.mx }) := (by show _ = _; rw [HK2.out, ← HT2.out]; rfl)
          have hl3 : -9223372036854775808 ≤ t2.mx.n := by rw [← HT2.out]; exact hl2'
          have HR3 : Hid (vless t2.mx.k t2.mx.n t2.mx.s v.k v.n v.s = r2) := (by show _ = _; rw [← HT2.out]; exact HR2.out)
          rw [HWM.out]
          clear HT2 HWM HI1 hb_y1
          have b0 : Below (W.heap.size + 1 + 1 + 1) wm wm := Below.refl _ _
          have HN : Hid (∀ X, Below (W.heap.size + 1 + 1 + 1) wm X → (X.cell? ⟨W.heap.size, 0, none⟩ = some (.int .i64 cid) ∧ X.cell? ⟨W.heap.size, 1, none⟩ = some (.slice ra rs.length rc) ∧ X.cell? ⟨W.heap.size, 2, none⟩ = some (.slice da ds.length dc) ∧ X.cell? ⟨W.heap.size, 3, none⟩ = some (.slice (some ⟨b, o, none⟩) vs.length vc)) ∧ (X.cell? ⟨W.heap.size + 1 + 1, 0, none⟩ = some (.int .i64 t2.e) ∧ X.cell? ⟨W.heap.size + 1 + 1, 1, none⟩ = some (.int .i64 t2.u) ∧ X.cell? ⟨W.heap.size + 1 + 1, 2, none⟩ = some (.bool t2.h) ∧ X.cell? ⟨W.heap.size + 1 + 1, 3, none⟩ = some (.int .i64 t2.mn.k) ∧ X.cell? ⟨W.heap.size + 1 + 1, 4, none⟩ = some (.int .i64 t2.mn.n) ∧ X.cell? ⟨W.heap.size + 1 + 1, 5, none⟩ = some (.string t2.mn.s) ∧ X.cell? ⟨W.heap.size + 1 + 1, 6, none⟩ = some (.int .i64 t2.mx.k) ∧ X.cell? ⟨W.heap.size + 1 + 1, 7, none⟩ = some (.int .i64 t2.mx.n) ∧ X.cell? ⟨W.heap.size + 1 + 1, 8, none⟩ = some (.string t2.mx.s)) ∧ (X.cell? ⟨b, o + i * 3, none⟩ = some (.int .i64 v.k) ∧ X.cell? ⟨b, o + i * 3 + 1, none⟩ = some (.int .i64 v.n) ∧ X.cell? ⟨b, o + i * 3 + 2, none⟩ = some (.string v.s)) ∧ Below (W.heap.size + 1 + 1 + 1) wm X) := fun X hX => ⟨row_four ((HIm.out.keep hX).co), (st_row (HIm.out.keep hX).st).1, HCV.out _ (HIm.out.keep hX).old, hX⟩
          have HLs : Hid (∀ X, Below (W.heap.size + 1 + 1 + 1) wm X → Calls Tryd.prog 22 #[.agg #[.int .i64 t2.mx.k, .int .i64 t2.mx.n, .string t2.mx.s], .agg #[.int .i64 v.k, .int .i64 v.n, .string v.s]] X fun e w' => e = .returned (.bool r2) ∧ Below (W.heap.size + 1 + 1 + 1) wm w') := fun X hX => (lessOf_any t2.mx.k t2.mx.n t2.mx.s v.k v.n v.s X hl3 hv0).mono fun _ _ h => ⟨by rw [← HR3.out]; exact h.1, bel_next hX (lt_of_block HIm.out.st) h.2⟩
          go_region_held3 (fun X => (X.cell? ⟨W.heap.size, 0, none⟩ = some (.int .i64 cid) ∧ X.cell? ⟨W.heap.size, 1, none⟩ = some (.slice ra rs.length rc) ∧ X.cell? ⟨W.heap.size, 2, none⟩ = some (.slice da ds.length dc) ∧ X.cell? ⟨W.heap.size, 3, none⟩ = some (.slice (some ⟨b, o, none⟩) vs.length vc)) ∧ (X.cell? ⟨W.heap.size + 1 + 1, 0, none⟩ = some (.int .i64 t2.e) ∧ X.cell? ⟨W.heap.size + 1 + 1, 1, none⟩ = some (.int .i64 t2.u) ∧ X.cell? ⟨W.heap.size + 1 + 1, 2, none⟩ = some (.bool t2.h) ∧ X.cell? ⟨W.heap.size + 1 + 1, 3, none⟩ = some (.int .i64 t2.mn.k) ∧ X.cell? ⟨W.heap.size + 1 + 1, 4, none⟩ = some (.int .i64 t2.mn.n) ∧ X.cell? ⟨W.heap.size + 1 + 1, 5, none⟩ = some (.string t2.mn.s) ∧ X.cell? ⟨W.heap.size + 1 + 1, 6, none⟩ = some (.int .i64 t2.mx.k) ∧ X.cell? ⟨W.heap.size + 1 + 1, 7, none⟩ = some (.int .i64 t2.mx.n) ∧ X.cell? ⟨W.heap.size + 1 + 1, 8, none⟩ = some (.string t2.mx.s)) ∧ (X.cell? ⟨b, o + i * 3, none⟩ = some (.int .i64 v.k) ∧ X.cell? ⟨b, o + i * 3 + 1, none⟩ = some (.int .i64 v.n) ∧ X.cell? ⟨b, o + i * 3 + 2, none⟩ = some (.string v.s)) ∧ Below (W.heap.size + 1 + 1 + 1) wm X) (with_reducible refine HN.out _ ?_; repeat' (first | with_reducible assumption | with_reducible exact b0.drew | with_reducible exact b0 | with_reducible refine Below.drew ?_ | with_reducible exact Nat.le_refl _ | with_reducible refine Below.setCell ?_ ?_ _ | with_reducible refine Below.alloc ?_ ?_ _ | with_reducible exact Below.size (by assumption) | (simp; done) | (simp; omega) | omega)) (first | (go_at_call 22; (with_reducible refine Calls.mono (HLs.out _ ?_) ?_); (repeat' (first | with_reducible assumption | with_reducible exact b0.drew | with_reducible exact b0 | with_reducible refine Below.drew ?_ | with_reducible refine Below.alloc ?_ ?_ _ | with_reducible exact Below.size (by assumption) | with_reducible exact Nat.le_refl _)); rintro e y2 ⟨rfl, hb_y2⟩))
          have HI2 : Hid _ := HIm.out.keep hb_y2
          clear HIm HN HLs b0 hb_y2 HR3 HR2 HR1 HK2
          have cv2 := HCV.out _ HI2.out.old
          obtain ⟨k0, k1, k2, k3⟩ := row_four HI2.out.co
          obtain ⟨⟨s0, s1, s2, s3, s4, s5, s6, s7, s8⟩, s9⟩ := st_row HI2.out.st
          cases r2
          · go_wp2
            go_roundw
            case rel => exact ⟨i + 1, by omega, by go_num, by show RfI _ _ _ _; rw [HK3.out]; exact HI2.out⟩
            case measure => simp [intOf]; omega
          · go_wp2
            go_roundw
            case rel => exact ⟨i + 1, by omega, by go_num, by show RfI _ _ _ _; rw [HK3.out]; exact HI2.out.setMx v⟩
            case measure => simp [intOf]; omega
    · obtain rfl : i = vs.length := by omega
      rw [refK_end] at HI
      obtain ⟨t, HT⟩ : ∃ t, Hid (ofC ⟨cid, ra, rs, rc, da, ds, dc, va, vs, vc⟩ = t) := ⟨_, rfl⟩
      rw [HT.out] at HI
      obtain ⟨k0, k1, k2, k3⟩ := row_four HI.out.co
      obtain ⟨⟨s0, s1, s2, s3, s4, s5, s6, s7, s8⟩, s9⟩ := st_row HI.out.st
      obtain ⟨z1, z2⟩ := row_nine HI.out.re
      go_wp2
      exact bodyPost_ret (v := t.val) (results_cell_row Tryd.results15 _ _ (W.heap.size + 1) 46 t.cs (0, 0) _ rfl (set9_row HI.out.re _ _ _ _ _ _ _ _ _) Tryd.underlying46 rfl (by kernel_rfl)) rfl ⟨by rw [HT.out], set9_below HI.out.old (by omega) _ _ _ _ _ _ _ _ _⟩
theorem statsOfR_any (c : Cl) (W : World) (hn : c.rs.length ≤ 1048576) (hv : c.vs.length ≤ 1048576) (hat : c.At W) (hlo : ∀ v ∈ c.vs, v.Low) :
    Calls Tryd.prog 15 #[.agg #[.int .i64 c.id, .slice c.ra c.rs.length c.rc, .slice c.da c.ds.length c.dc, .slice c.va c.vs.length c.vc]] W fun e w' => e = .returned (ofC c).val ∧ Below W.heap.size W w' :=
  statsOfR_x c.id c.ra c.rs c.rc c.da c.ds c.dc c.va c.vs c.vc W hn hv hat.v hlo
end Go.Proofs.YtkcobccmifkjcaaDoor

namespace Go.Proofs.YtkcobccmifkjcaaDoor
open Go.RowKit
set_option maxRecDepth 100000 in
set_option maxHeartbeats 1600000 in
theorem statsOfL_any (s : St) (W : World) : Calls Tryd.prog 14 #[.agg #[.int .i64 s.e, .int .i64 s.u, .bool s.h, .int .i64 s.mn.k, .int .i64 s.mn.n, .string s.mn.s, .int .i64 s.mx.k, .int .i64 s.mx.n, .string s.mx.s]] W fun e w' => e = .returned (.agg #[.int .i64 s.e, .int .i64 s.u, .bool s.h, .int .i64 s.mn.k, .int .i64 s.mn.n, .string s.mn.s, .int .i64 s.mx.k, .int .i64 s.mx.n, .string s.mx.s]) ∧ Below W.heap.size W w' := by
  obtain ⟨w0, HW0, HX, HY, HB⟩ := two_boxes W #[.int .i64 s.e, .int .i64 s.u, .bool s.h, .int .i64 s.mn.k, .int .i64 s.mn.n, .string s.mn.s, .int .i64 s.mx.k, .int .i64 s.mx.n, .string s.mx.s] #[.int .i64 0, .int .i64 0, .bool false, .int .i64 0, .int .i64 0, .string ⟨#[]⟩, .int .i64 0, .int .i64 0, .string ⟨#[]⟩] 46 36
  obtain ⟨⟨x0, x1, x2, x3, x4, x5, x6, x7, x8⟩, _⟩ := row_nine HX.out
  obtain ⟨y1, y2⟩ := row_nine HY.out
  go_enter Tryd.func14, Tryd.ntmps14
  go_upto_region 1 with fail
  rw [HW0.out]
  go_wp2
  exact bodyPost_ret (v := .agg #[.int .i64 s.e, .int .i64 s.u, .bool s.h, .int .i64 s.mn.k, .int .i64 s.mn.n, .string s.mn.s, .int .i64 s.mx.k, .int .i64 s.mx.n, .string s.mx.s]) (results_cell_row Tryd.results14 _ _ (W.heap.size + 1) 36 #[.int .i64 s.e, .int .i64 s.u, .bool s.h, .int .i64 s.mn.k, .int .i64 s.mn.n, .string s.mn.s, .int .i64 s.mx.k, .int .i64 s.mx.n, .string s.mx.s] (0, 0) _ rfl (set9_row HY.out _ _ _ _ _ _ _ _ _) Tryd.underlying36 rfl (by kernel_rfl)) rfl ⟨rfl, set9_below HB.out (by omega) _ _ _ _ _ _ _ _ _⟩
/-- What MergedOf's boxes hold. -/
structure MoI (W : World) (a b o : St) (X : World) : Prop where
  fst : X.heap[W.heap.size]? = some (.cells a.cs 46 (0, 0))
  snd : X.heap[W.heap.size + 1]? = some (.cells b.cs 46 (0, 0))
  re : X.heap[W.heap.size + 1 + 1]? = some (.cells #[.int .i64 0, .int .i64 0, .bool false, .int .i64 0, .int .i64 0, .string ⟨#[]⟩, .int .i64 0, .int .i64 0, .string ⟨#[]⟩] 46 (0, 0))
  out : X.heap[W.heap.size + 1 + 1 + 1]? = some (.cells o.cs 46 (0, 0))
  old : Below W.heap.size W X
theorem MoI.keep {W : World} {a b o : St} {X w' : World} (h : MoI W a b o X) (hb : Below X.heap.size X w') : MoI W a b o w' :=
  ⟨blk_keep hb h.fst, blk_keep hb h.snd, blk_keep hb h.re, blk_keep hb h.out, h.old.trans (hb.mono h.old.size)⟩
theorem MoI.setMn {W : World} {a b o : St} {X : World} (h : MoI W a b o X) (l : Vl) : MoI W a b { o with mn := l } (((X.setCell ⟨W.heap.size + 1 + 1 + 1, 3, none⟩ (.int .i64 l.k)).setCell ⟨W.heap.size + 1 + 1 + 1, 4, none⟩ (.int .i64 l.n)).setCell ⟨W.heap.size + 1 + 1 + 1, 5, none⟩ (.string l.s)) :=
  ⟨blk_other (blk_other (blk_other h.fst (by omega) _) (by omega) _) (by omega) _, blk_other (blk_other (blk_other h.snd (by omega) _) (by omega) _) (by omega) _, blk_other (blk_other (blk_other h.re (by omega) _) (by omega) _) (by omega) _, row_setCell (row_setCell (row_setCell h.out _) _) _, ((h.old.setCell (by simp; omega) _).setCell (by simp; omega) _).setCell (by simp; omega) _⟩
theorem MoI.setMx {W : World} {a b o : St} {X : World} (h : MoI W a b o X) (l : Vl) : MoI W a b { o with mx := l } (((X.setCell ⟨W.heap.size + 1 + 1 + 1, 6, none⟩ (.int .i64 l.k)).setCell ⟨W.heap.size + 1 + 1 + 1, 7, none⟩ (.int .i64 l.n)).setCell ⟨W.heap.size + 1 + 1 + 1, 8, none⟩ (.string l.s)) :=
  ⟨blk_other (blk_other (blk_other h.fst (by omega) _) (by omega) _) (by omega) _, blk_other (blk_other (blk_other h.snd (by omega) _) (by omega) _) (by omega) _, blk_other (blk_other (blk_other h.re (by omega) _) (by omega) _) (by omega) _, row_setCell (row_setCell (row_setCell h.out _) _) _, ((h.old.setCell (by simp; omega) _).setCell (by simp; omega) _).setCell (by simp; omega) _⟩
def MoR (a b : St) (s : St) (c : Int) : Prop := (St.unlike a b = true ∧ s = St.zero ∧ c = 4) ∨ (St.unlike a b = false ∧ s = a.merge b ∧ c = 0)
set_option maxRecDepth 100000 in
set_option maxHeartbeats 6400000 in
theorem mergedOf_any (a b : St) (W : World) (ha : a.Low) (hb : b.Low)
    (b1 : -4611686018427387904 ≤ a.e ∧ a.e ≤ 4611686018427387904) (b2 : -4611686018427387904 ≤ b.e ∧ b.e ≤ 4611686018427387904) (b3 : -4611686018427387904 ≤ a.u ∧ a.u ≤ 4611686018427387904) (b4 : -4611686018427387904 ≤ b.u ∧ b.u < 4611686018427387904) (b5 : b.e < 4611686018427387904) :
    Calls Tryd.prog 17 #[a.val, b.val] W fun e w' => (∃ (s : St) (c : Int), e = .returned (.tuple #[s.val, .int .i64 c]) ∧ MoR a b s c) ∧ Below W.heap.size W w' := by
  obtain ⟨w0, HW0, HX, HY, HZ, HB⟩ := three_boxes W a.cs b.cs #[.int .i64 0, .int .i64 0, .bool false, .int .i64 0, .int .i64 0, .string ⟨#[]⟩, .int .i64 0, .int .i64 0, .string ⟨#[]⟩] 46 46 46
  have hsz : w0.heap.size = W.heap.size + 1 + 1 + 1 := by rw [← HW0.out]; simp
  obtain ⟨ae, au, ah, am, ax⟩ := a
  obtain ⟨be, bu, bh, bm, bx⟩ := b
  unfold St.cs at HW0
  obtain ⟨h1, h2⟩ := ha
  obtain ⟨h3, h4⟩ := hb
  unfold Vl.Low at h1 h2 h3 h4
  have hw1 : IntKind.i64.wrap (ae + be) = ae + be := by rw [IntKind.wrap_i64]; simp at b1 b2 b5; omega
  have hw2 : IntKind.i64.wrap (au + bu) = au + bu := by rw [IntKind.wrap_i64]; simp at b3 b4; omega
  have HO : Hid (∀ (o : St), MoI W ⟨ae, au, ah, am, ax⟩ ⟨be, bu, bh, bm, bx⟩ o (w0.alloc (.cells o.cs 46))) := fun o => ⟨blk_alloc HX.out, blk_alloc HY.out, blk_alloc HZ.out, by have h := heap_alloc_new w0 (.cells o.cs 46); rw [hsz] at h; exact h, HB.out.alloc HB.out.size _⟩
  have HE : Hid (∀ (a b t : St) (X : World), MoI W a b t X → (set9 X (W.heap.size + 1 + 1) (.int .i64 t.e) (.int .i64 t.u) (.bool t.h) (.int .i64 t.mn.k) (.int .i64 t.mn.n) (.string t.mn.s) (.int .i64 t.mx.k) (.int .i64 t.mx.n) (.string t.mx.s)).heap[W.heap.size + 1 + 1]? = some (.cells t.cs 46 (0, 0)) ∧ Below W.heap.size W (set9 X (W.heap.size + 1 + 1) (.int .i64 t.e) (.int .i64 t.u) (.bool t.h) (.int .i64 t.mn.k) (.int .i64 t.mn.n) (.string t.mn.s) (.int .i64 t.mx.k) (.int .i64 t.mx.n) (.string t.mx.s))) := fun a b t X hX =>
    ⟨set9_row hX.re _ _ _ _ _ _ _ _ _, set9_below hX.old (by omega) _ _ _ _ _ _ _ _ _⟩
  show Calls Tryd.prog 17 #[.agg #[.int .i64 ae, .int .i64 au, .bool ah, .int .i64 am.k, .int .i64 am.n, .string am.s, .int .i64 ax.k, .int .i64 ax.n, .string ax.s], .agg #[.int .i64 be, .int .i64 bu, .bool bh, .int .i64 bm.k, .int .i64 bm.n, .string bm.s, .int .i64 bx.k, .int .i64 bx.n, .string bx.s]] W fun e w' => (∃ (s : St) (c : Int), e = .returned (.tuple #[s.val, .int .i64 c]) ∧ MoR ⟨ae, au, ah, am, ax⟩ ⟨be, bu, bh, bm, bx⟩ s c) ∧ Below W.heap.size W w'
  go_enter Tryd.func17, Tryd.ntmps17
  go_upto_region 1 with fail
  rw [HW0.out]
  obtain ⟨⟨x0, x1, x2, x3, x4, x5, x6, x7, x8⟩, _⟩ := st_row HX.out
  obtain ⟨⟨y0, y1, y2, y3, y4, y5, y6, y7, y8⟩, _⟩ := st_row HY.out
  clear HW0
  obtain ⟨oh, HOH⟩ : ∃ oh : Bool, Hid (oh = (ah || bh)) := ⟨_, rfl⟩
  go_cut [6] (fun x wx => x = .pointer (some ⟨W.heap.size + 1 + 1 + 1, 0, none⟩) ∧ Hid (MoI W ⟨ae, au, ah, am, ax⟩ ⟨be, bu, bh, bm, bx⟩ ⟨ae + be, au + bu, oh, Vl.zero, Vl.zero⟩ wx))
  case first =>
    cases ah
    · cases bh
      · go_wp2
        go_meet
        exact ⟨rfl, by rw [HOH.out]; exact HO.out _⟩
      · go_wp2
        go_meet
        exact ⟨rfl, by rw [HOH.out]; exact HO.out _⟩
    · go_wp2
      go_meet
      exact ⟨rfl, by rw [HOH.out]; exact HO.out _⟩
  case rest =>
    obtain ⟨rfl, HI⟩ := hcut
    rename World => wx
    clear HX HY HZ HB HO hsz x0 x1 x2 x3 x4 x5 x6 x7 x8 y0 y1 y2 y3 y4 y5 y6 y7 y8 hw1 hw2
    obtain ⟨⟨x0, x1, x2, x3, x4, x5, x6, x7, x8⟩, _⟩ := st_row HI.out.fst
    obtain ⟨⟨y0, y1, y2, y3, y4, y5, y6, y7, y8⟩, _⟩ := st_row HI.out.snd
    obtain ⟨z1, z2⟩ := row_nine HI.out.re
    obtain ⟨o1, o2⟩ := st_row HI.out.out
    cases ah
    · cases bh
      · obtain rfl : oh = false := HOH.out
        go_wp2
        have h := HE.out _ _ _ _ HI.out
        exact bodyPost_ret (v := .tuple #[St.val ⟨ae + be, au + bu, false, Vl.zero, Vl.zero⟩, .int .i64 0]) (results_cR Tryd.results17 _ _ (W.heap.size + 1 + 1) 46 (St.cs ⟨ae + be, au + bu, false, Vl.zero, Vl.zero⟩) (0, 0) _ (.int .i64 0) rfl rfl h.1 Tryd.underlying46 rfl (by kernel_rfl)) rfl ⟨⟨_, 0, rfl, .inr ⟨rfl, rfl, rfl⟩⟩, h.2⟩
      · obtain rfl : oh = true := HOH.out
        go_wp2
        have h := HE.out _ _ _ _ ((HI.out.setMn bm).setMx bx)
        exact bodyPost_ret (v := .tuple #[St.val ⟨ae + be, au + bu, true, bm, bx⟩, .int .i64 0]) (results_cR Tryd.results17 _ _ (W.heap.size + 1 + 1) 46 (St.cs ⟨ae + be, au + bu, true, bm, bx⟩) (0, 0) _ (.int .i64 0) rfl rfl h.1 Tryd.underlying46 rfl (by kernel_rfl)) rfl ⟨⟨_, 0, rfl, .inr ⟨rfl, rfl, rfl⟩⟩, h.2⟩
    · obtain rfl : oh = true := HOH.out
      cases bh
      · go_wp2
        have h := HE.out _ _ _ _ ((HI.out.setMn am).setMx ax)
        exact bodyPost_ret (v := .tuple #[St.val ⟨ae + be, au + bu, true, am, ax⟩, .int .i64 0]) (results_cR Tryd.results17 _ _ (W.heap.size + 1 + 1) 46 (St.cs ⟨ae + be, au + bu, true, am, ax⟩) (0, 0) _ (.int .i64 0) rfl rfl h.1 Tryd.underlying46 rfl (by kernel_rfl)) rfl ⟨⟨_, 0, rfl, .inr ⟨rfl, rfl, rfl⟩⟩, h.2⟩
      · by_cases hkk : am.k = bm.k
        · have q : (am.k != bm.k) = false := by simp [hkk]
          have HUN : Hid (St.unlike ⟨ae, au, true, am, ax⟩ ⟨be, bu, true, bm, bx⟩ = false) := (by show _ = _; simp [St.unlike, hkk])
          clear hkk
          go_wp2_with fail
          obtain ⟨r1, HR1⟩ : ∃ r, Hid (vless bm.k bm.n bm.s am.k am.n am.s = r) := ⟨_, rfl⟩
          obtain ⟨r2, HR2⟩ : ∃ r, Hid (vless ax.k ax.n ax.s bx.k bx.n bx.s = r) := ⟨_, rfl⟩
          have HT : Hid (∀ m x, (if r1 = true then bm else am) = m → (if r2 = true then bx else ax) = x → (⟨ae + be, au + bu, true, m, x⟩ : St) = St.merge ⟨ae, au, true, am, ax⟩ ⟨be, bu, true, bm, bx⟩) := fun m x hm hx => by
            subst hm hx
            simp [St.merge, St.plus, St.around, lss, HR1.out, HR2.out]
          refine (lessOf_any bm.k bm.n bm.s am.k am.n am.s _ h3 h1).mono ?_
          rw [HR1.out]
          rintro e w1 ⟨rfl, hb1⟩
          have HI1 : Hid _ := ((HI.out.setMn am).setMx ax).keep hb1
          clear hb1
          clear x0 x1 x2 x3 x4 x5 x6 x7 x8 y0 y1 y2 y3 y4 y5 y6 y7 y8 z1 z2 o1 o2
          obtain ⟨⟨x0, x1, x2, x3, x4, x5, x6, x7, x8⟩, _⟩ := st_row HI1.out.fst
          obtain ⟨⟨y0, y1, y2, y3, y4, y5, y6, y7, y8⟩, _⟩ := st_row HI1.out.snd
          obtain ⟨z1, z2⟩ := row_nine HI1.out.re
          obtain ⟨o1, o2⟩ := st_row HI1.out.out
          cases r1
          · go_wp2_with fail
            refine (lessOf_any ax.k ax.n ax.s bx.k bx.n bx.s _ h2 h4).mono ?_
            rw [HR2.out]
            rintro e w2 ⟨rfl, hb2⟩
            have HI2 : Hid _ := HI1.out.keep hb2
            clear hb2
            clear x0 x1 x2 x3 x4 x5 x6 x7 x8 y0 y1 y2 y3 y4 y5 y6 y7 y8 z1 z2 o1 o2
            obtain ⟨⟨x0, x1, x2, x3, x4, x5, x6, x7, x8⟩, _⟩ := st_row HI2.out.fst
            obtain ⟨⟨y0, y1, y2, y3, y4, y5, y6, y7, y8⟩, _⟩ := st_row HI2.out.snd
            obtain ⟨z1, z2⟩ := row_nine HI2.out.re
            obtain ⟨o1, o2⟩ := st_row HI2.out.out
            cases r2
            · go_wp2
              have h := HE.out _ _ _ _ HI2.out
              exact bodyPost_ret (v := .tuple #[St.val ⟨ae + be, au + bu, true, am, ax⟩, .int .i64 0]) (results_cR Tryd.results17 _ _ (W.heap.size + 1 + 1) 46 (St.cs ⟨ae + be, au + bu, true, am, ax⟩) (0, 0) _ (.int .i64 0) rfl rfl h.1 Tryd.underlying46 rfl (by kernel_rfl)) rfl ⟨⟨_, 0, rfl, .inr ⟨HUN.out, HT.out _ _ rfl rfl, rfl⟩⟩, h.2⟩
            · go_wp2
              have h := HE.out _ _ _ _ (HI2.out.setMx bx)
              exact bodyPost_ret (v := .tuple #[St.val ⟨ae + be, au + bu, true, am, bx⟩, .int .i64 0]) (results_cR Tryd.results17 _ _ (W.heap.size + 1 + 1) 46 (St.cs ⟨ae + be, au + bu, true, am, bx⟩) (0, 0) _ (.int .i64 0) rfl rfl h.1 Tryd.underlying46 rfl (by kernel_rfl)) rfl ⟨⟨_, 0, rfl, .inr ⟨HUN.out, HT.out _ _ rfl rfl, rfl⟩⟩, h.2⟩
          · go_wp2_with fail
            refine (lessOf_any ax.k ax.n ax.s bx.k bx.n bx.s _ h2 h4).mono ?_
            rw [HR2.out]
            rintro e w2 ⟨rfl, hb2⟩
            have HI2 : Hid _ := (HI1.out.setMn bm).keep hb2
            clear hb2
            clear x0 x1 x2 x3 x4 x5 x6 x7 x8 y0 y1 y2 y3 y4 y5 y6 y7 y8 z1 z2 o1 o2
            obtain ⟨⟨x0, x1, x2, x3, x4, x5, x6, x7, x8⟩, _⟩ := st_row HI2.out.fst
            obtain ⟨⟨y0, y1, y2, y3, y4, y5, y6, y7, y8⟩, _⟩ := st_row HI2.out.snd
            obtain ⟨z1, z2⟩ := row_nine HI2.out.re
            obtain ⟨o1, o2⟩ := st_row HI2.out.out
            cases r2
            · go_wp2
              have h := HE.out _ _ _ _ HI2.out
              exact bodyPost_ret (v := .tuple #[St.val ⟨ae + be, au + bu, true, bm, ax⟩, .int .i64 0]) (results_cR Tryd.results17 _ _ (W.heap.size + 1 + 1) 46 (St.cs ⟨ae + be, au + bu, true, bm, ax⟩) (0, 0) _ (.int .i64 0) rfl rfl h.1 Tryd.underlying46 rfl (by kernel_rfl)) rfl ⟨⟨_, 0, rfl, .inr ⟨HUN.out, HT.out _ _ rfl rfl, rfl⟩⟩, h.2⟩
            · go_wp2
              have h := HE.out _ _ _ _ (HI2.out.setMx bx)
              exact bodyPost_ret (v := .tuple #[St.val ⟨ae + be, au + bu, true, bm, bx⟩, .int .i64 0]) (results_cR Tryd.results17 _ _ (W.heap.size + 1 + 1) 46 (St.cs ⟨ae + be, au + bu, true, bm, bx⟩) (0, 0) _ (.int .i64 0) rfl rfl h.1 Tryd.underlying46 rfl (by kernel_rfl)) rfl ⟨⟨_, 0, rfl, .inr ⟨HUN.out, HT.out _ _ rfl rfl, rfl⟩⟩, h.2⟩
        · have q : (am.k != bm.k) = true := by simp [hkk]
          have HUN : Hid (St.unlike ⟨ae, au, true, am, ax⟩ ⟨be, bu, true, bm, bx⟩ = true) := (by show _ = _; simp [St.unlike, hkk])
          clear hkk
          go_wp2
          exact bodyPost_ret (v := .tuple #[St.zero.val, .int .i64 4]) (results_cR Tryd.results17 _ _ (W.heap.size + 1 + 1) 46 #[.int .i64 0, .int .i64 0, .bool false, .int .i64 0, .int .i64 0, .string ⟨#[]⟩, .int .i64 0, .int .i64 0, .string ⟨#[]⟩] (0, 0) _ (.int .i64 4) rfl rfl (set9_row HI.out.re _ _ _ _ _ _ _ _ _) Tryd.underlying46 rfl (by kernel_rfl)) rfl ⟨⟨St.zero, 4, rfl, .inl ⟨HUN.out, rfl, rfl⟩⟩, set9_below HI.out.old (by omega) _ _ _ _ _ _ _ _ _⟩
end Go.Proofs.YtkcobccmifkjcaaDoor

namespace Go.Proofs.YtkcobccmifkjcaaDoor
open Go.RowKit
def twC (W : World) : Cl := ⟨1, some ⟨W.heap.size + 1, 0, none⟩, [0, 0], 2, some ⟨W.heap.size + 1 + 1, 0, none⟩, [0, 0], 2, some ⟨W.heap.size, 0, none⟩, [⟨2, 2, ⟨#[]⟩⟩, ⟨2, 1, ⟨#[]⟩⟩], 2⟩
theorem lies_two {w : World} {g t : Nat} {x y : Int} (h : w.heap[g]? = some (.cells #[.int .i64 x, .int .i64 y] t (0, 0))) : Lies w (some ⟨g, 0, none⟩) (i64s [x, y]) := fun j hj => by
  have hj2 : j < 2 := by simpa [i64s] using hj
  match j, hj2 with
  | 0, _ => exact ⟨g, 0, rfl, by simp [World.cell?, h, i64s]⟩
  | 1, _ => exact ⟨g, 0, rfl, by simp [World.cell?, h, i64s]⟩
theorem liesV_two {w : World} {g t : Nat} {x y : Vl} (h : w.heap[g]? = some (.cells #[.int .i64 x.k, .int .i64 x.n, .string x.s, .int .i64 y.k, .int .i64 y.n, .string y.s] t (0, 0))) : LiesV w (some ⟨g, 0, none⟩) [x, y] := fun j hj => by
  have hj2 : j < 2 := by simpa using hj
  match j, hj2 with
  | 0, _ => exact ⟨g, 0, rfl, by simp [World.cell?, h], by simp [World.cell?, h], by simp [World.cell?, h]⟩
  | 1, _ => exact ⟨g, 0, rfl, by simp [World.cell?, h], by simp [World.cell?, h], by simp [World.cell?, h]⟩
theorem twC_good (W : World) : GoodC 1 2 0 0 (twC W) := by
  refine ⟨by kernel_rfl, fun j hj => ?_⟩
  have hj2 : j < 2 := by simpa [twC] using hj
  match j, hj2 with
  | 0, _ => show badV 2 (⟨2, 2, ⟨#[]⟩⟩ : Vl) = false; kernel_rfl
  | 1, _ => show badV 2 (⟨2, 1, ⟨#[]⟩⟩ : Vl) = false; kernel_rfl
theorem twC_of (W : World) : ofC (twC W) = ⟨2, 0, true, ⟨2, 1, ⟨#[]⟩⟩, ⟨2, 2, ⟨#[]⟩⟩⟩ := by kernel_rfl
set_option maxRecDepth 100000 in
set_option maxHeartbeats 3200000 in
theorem two_any (W : World) (st kt bt : TypeId) (sp kp bp : Value)
    (hs : W.cell? ⟨3, 0, none⟩ = some (.iface st sp)) (hk : W.cell? ⟨0, 0, none⟩ = some (.iface kt kp)) (hbd : W.cell? ⟨2, 0, none⟩ = some (.iface bt bp)) :
    Calls Tryd.prog 7 #[] W fun e w' => e = .returned (.bool true) ∧ Below W.heap.size W w' := by
  obtain ⟨w0, HW0, HX, HY, HZ, HB⟩ := three_boxes W #[.int .i64 2, .int .i64 2, .string ⟨#[]⟩, .int .i64 2, .int .i64 1, .string ⟨#[]⟩] #[.int .i64 0, .int .i64 0] #[.int .i64 0, .int .i64 0] 34 3 3
  have HC : Hid _ := of_any 1 2 0 0 none 0 0 (twC W) w0 st kt bt sp kp bp (by simp [twC]) (by simp [twC]) (by simp [twC]) (by simp [twC]) (by simp [twC]) (by simp [twC]) (ckB hs HB.out) (ckB hk HB.out) (ckB hbd HB.out) ⟨lies_two HY.out, lies_two HZ.out, liesV_two (x := ⟨2, 2, ⟨#[]⟩⟩) (y := ⟨2, 1, ⟨#[]⟩⟩) HX.out⟩ (fun v hv => by simp [twC] at hv; rcases hv with rfl | rfl <;> simp [Vl.Low])
  clear HX HY HZ hs hk hbd
  go_enter Tryd.func7, Tryd.ntmps7
  go_wp2_with fail
  rw [HW0.out]
  refine Calls.mono HC.out ?_
  rintro e w1 ⟨⟨s, ev, rfl, hr⟩, hb1⟩
  have HB1 : Hid (Below W.heap.size W w1) := HB.out.trans (hb1.mono HB.out.size)
  have hg := twC_good W
  obtain ⟨rfl, rfl⟩ : ev = .nilIface ∧ s = ⟨2, 0, true, ⟨2, 1, ⟨#[]⟩⟩, ⟨2, 2, ⟨#[]⟩⟩⟩ := by
    rcases hr with ⟨h, _⟩ | ⟨_, p, hp, h, _⟩ | ⟨_, h2, h3⟩
    · rw [hg.1] at h; cases h
    · rw [hg.2 p hp] at h; cases h
    · exact ⟨h2, h3.trans (twC_of W)⟩
  clear hr hb1 HC HB HW0 hg
  unfold St.val St.cs
  go_wp2
  go_ret
  exact ⟨rfl, HB1.out.alloc HB1.out.size _⟩
end Go.Proofs.YtkcobccmifkjcaaDoor

namespace Go.Proofs.YtkcobccmifkjcaaDoor
open Go.RowKit
/-- What Join answers. -/
def JnRet (N : Nat) (lid kind mr md : Int) (cs : List Cl) (sv kv bv : Value) (e : Ending) (w' : World) : Prop :=
  (∃ i, ∃ h : i < cs.length, (∀ j (h : j < cs.length), j < i → GoodC lid kind mr md cs[j]) ∧ BadRet N lid kind mr md cs[i] sv kv e w') ∨
  ((∀ j (h : j < cs.length), GoodC lid kind mr md cs[j]) ∧ 20000 < (jR cs).length ∧ e = .returned (.tuple #[zeroC, bv])) ∨
  ((∀ j (h : j < cs.length), GoodC lid kind mr md cs[j]) ∧ (jR cs).length ≤ 20000 ∧ ∃ k : Cl, e = .returned (.tuple #[k.val, .nilIface]) ∧ k.At w' ∧ k.id = lid ∧ k.rs = jR cs ∧ k.ds = jD cs ∧ k.vs = jV cs)
/-- What Join answers; the rows are new, and have room. -/
def JnRetC (N : Nat) (lid kind mr md : Int) (cs : List Cl) (sv kv bv : Value) (e : Ending) (w' : World) : Prop :=
  (∃ i, ∃ h : i < cs.length, (∀ j (h : j < cs.length), j < i → GoodC lid kind mr md cs[j]) ∧ BadRet N lid kind mr md cs[i] sv kv e w') ∨
  ((∀ j (h : j < cs.length), GoodC lid kind mr md cs[j]) ∧ 20000 < (jR cs).length ∧ e = .returned (.tuple #[zeroC, bv])) ∨
  ((∀ j (h : j < cs.length), GoodC lid kind mr md cs[j]) ∧ (jR cs).length ≤ 20000 ∧ ∃ k : Cl, e = .returned (.tuple #[k.val, .nilIface]) ∧ k.At w' ∧ k.id = lid ∧ k.rs = jR cs ∧ k.ds = jD cs ∧ k.vs = jV cs ∧ k.Cap ∧ k.Fr N)
/-- What Join's boxes hold. -/
structure JbI (W : World) (lid kind mr md : Int) (pa : Option Addr) (pn pc : Nat) (X : World) : Prop where
  lf : X.heap[W.heap.size]? = some (.cells #[.int .i64 lid, .int .i64 kind, .int .i64 mr, .int .i64 md, .slice pa pn pc] 41 (0, 0))
  re : X.heap[W.heap.size + 1]? = some (.cells #[.int .i64 0, .slice none 0 0, .slice none 0 0, .slice none 0 0] 27 (0, 0))
  old : Below W.heap.size W X
theorem JbI.keep {W : World} {lid kind mr md : Int} {pa : Option Addr} {pn pc : Nat} {X w' : World} (h : JbI W lid kind mr md pa pn pc X) (hb : Below X.heap.size X w') : JbI W lid kind mr md pa pn pc w' :=
  ⟨blk_keep hb h.lf, blk_keep hb h.re, h.old.trans (hb.mono h.old.size)⟩
set_option maxRecDepth 100000 in
set_option maxHeartbeats 6400000 in
theorem join_cap (lid kind mr md : Int) (pa : Option Addr) (pn pc : Nat) (a : Option Addr) (c : Nat) (cs : List Cl) (W : World) (st kt bt : TypeId) (sp kp bp : Value)
    (hn : cs.length ≤ 1048576) (hjr : (jR cs).length ≤ 1048576) (hjd : (jD cs).length ≤ 1048576) (hjv : (jV cs).length ≤ 1048576) (hca : ∀ j (h : j < cs.length), cs[j].rs.length ≤ 1048576 ∧ cs[j].ds.length ≤ 1048576 ∧ cs[j].vs.length ≤ 1048576)
    (hs : W.cell? ⟨3, 0, none⟩ = some (.iface st sp)) (hk : W.cell? ⟨0, 0, none⟩ = some (.iface kt kp)) (hbd : W.cell? ⟨2, 0, none⟩ = some (.iface bt bp)) (hl : LiesC W a cs) :
    Calls Tryd.prog 24 #[leafV lid kind mr md pa pn pc, .slice a cs.length c] W fun e w' => JnRetC W.heap.size lid kind mr md cs (.iface st sp) (.iface kt kp) (.iface bt bp) e w' ∧ Below W.heap.size W w' := by
  unfold leafV
  obtain ⟨w0, HW0, HX, HY, HB⟩ := two_boxes W #[.int .i64 lid, .int .i64 kind, .int .i64 mr, .int .i64 md, .slice pa pn pc] #[.int .i64 0, .slice none 0 0, .slice none 0 0, .slice none 0 0] 41 27
  have HI0 : Hid (JbI W lid kind mr md pa pn pc w0) := ⟨HX.out, HY.out, HB.out⟩
  have HL : Hid (∀ X, JbI W lid kind mr md pa pn pc X → LiesC X a cs) := fun X hX => hl.keep hX.old
  have HS : Hid (∀ X, JbI W lid kind mr md pa pn pc X → X.cell? ⟨3, 0, none⟩ = some (.iface st sp)) := fun X hX => ckB hs hX.old
  have HK : Hid (∀ X, JbI W lid kind mr md pa pn pc X → X.cell? ⟨0, 0, none⟩ = some (.iface kt kp)) := fun X hX => ckB hk hX.old
  have HBD : Hid (∀ X, JbI W lid kind mr md pa pn pc X → X.cell? ⟨2, 0, none⟩ = some (.iface bt bp)) := fun X hX => ckB hbd hX.old
  have HCA : Hid _ := hca
  have hgN : 2 < W.heap.size := World.block_lt_of_cell? W _ hbd
  have hgN1 : ¬ (2 = W.heap.size + 1) := by omega
  have hgN2 : ¬ (W.heap.size = 2 - 1) := by omega
  simp only [Nat.reduceSub] at hgN2
  clear hl hs hk hbd HX HY HB hca hgN
  go_enter Tryd.func24, Tryd.ntmps24
  go_wp2
  rw [HW0.out]
  go_loopw [6, 12] (fun y x wr => ∃ i : Nat, i ≤ cs.length ∧ x = .int .i64 i ∧ y = .int .i64 ((jR (cs.take i)).length : Nat) ∧ Hid (∀ j (h : j < cs.length), j < i → GoodC lid kind mr md cs[j]) ∧ Hid (JbI W lid kind mr md pa pn pc wr)) (fun _ x _ => cs.length - (intOf x).toNat)
  case atStart => exact ⟨0, Nat.zero_le _, rfl, rfl, fun j _ h => absurd h (Nat.not_lt_zero _), HI0⟩
  case round =>
    clear HI0
    obtain ⟨i, hi, rfl, rfl, HG, HI⟩ := hrel
    obtain ⟨⟨p0, p1, p2, p3, p4⟩, _⟩ := row_five HI.out.lf
    obtain ⟨z0, z1, z2, z3⟩ := row_four HI.out.re
    obtain ⟨f0, f1, f2, f3⟩ := row_fourA HI.out.re
    have hjl := jR_le cs i
    obtain ⟨n, HN⟩ : ∃ n, Hid ((jR (cs.take i)).length = n) := ⟨_, rfl⟩
    by_cases hlt : i < cs.length
    · have HN1 : Hid ((jR (cs.take (i + 1))).length = n + cs[i].rs.length) := (by show _ = _; rw [jR_succ hlt, List.length_append, HN.out])
      have hjl2 := jR_le cs (i + 1)
      rw [HN1.out] at hjl2
      rw [HN.out] at hjl ⊢
      obtain ⟨⟨b, o, rfl, c0, c1, c2, c3⟩, hat⟩ := HL.out wr HI.out i hlt
      have HB0 : Hid (Below wr.heap.size wr (wr.alloc (.cells #[.int .i64 cs[i].id, .slice cs[i].ra cs[i].rs.length cs[i].rc, .slice cs[i].da cs[i].ds.length cs[i].dc, .slice cs[i].va cs[i].vs.length cs[i].vc] 27))) := (Below.refl _ _).alloc (Nat.le_refl _) _
      have HI0 : Hid (JbI W lid kind mr md pa pn pc _) := HI.out.keep HB0.out
      have HC0 : Hid _ := heap_alloc_new wr (.cells #[.int .i64 cs[i].id, .slice cs[i].ra cs[i].rs.length cs[i].rc, .slice cs[i].da cs[i].ds.length cs[i].dc, .slice cs[i].va cs[i].vs.length cs[i].vc] 27)
      have HA0 : Hid _ := hat.keep HB0.out
      obtain ⟨hc1, hc2, hc3⟩ := HCA.out i hlt
      have HEC : Hid (∀ j (h : j < cs.length), j = i → cs[j] = cs[i]) := fun j h e => by subst e; rfl
      clear hat p0 p1 p2 p3 p4
      obtain ⟨⟨p0, p1, p2, p3, p4⟩, _⟩ := row_five HI0.out.lf
      have HCk : Hid _ := scheck_any lid kind mr md cs[i].id pa cs[i].ra cs[i].da cs[i].va pn pc cs[i].rc cs[i].dc cs[i].vc cs[i].rs cs[i].ds cs[i].vs _ st kt sp kp hc1 hc2 hc3 (HS.out _ HI0.out) (HK.out _ HI0.out) HA0.out.r HA0.out.d HA0.out.v
      have HGi : Hid (GoodC lid kind mr md cs[i] → ∀ j (h : j < cs.length), j < i + 1 → GoodC lid kind mr md cs[j]) := fun hg j h hj => by
        by_cases e : j = i
        · subst e; exact hg
        · exact HG.out j h (by omega)
      have HBi : Hid (∀ e w', BadRet W.heap.size lid kind mr md cs[i] (.iface st sp) (.iface kt kp) e w' → JnRetC W.heap.size lid kind mr md cs (.iface st sp) (.iface kt kp) (.iface bt bp) e w') := fun e w' h => .inl ⟨i, hlt, HG.out, h⟩
      generalize cs[i] = k at *
      go_wp2_with fail
      refine Calls.mono HCk.out ?_
      rintro e w1 ⟨hck, hb1⟩
      have HI1 : Hid (JbI W lid kind mr md pa pn pc w1) := HI0.out.keep hb1
      have HC1 : Hid _ := blk_keep hb1 HC0.out
      have HSz : Hid (W.heap.size + 1 < wr.heap.size) := lt_of_block HI.out.re
      clear p0 p1 p2 p3 p4 z0 z1 z2 z3 f0 f1 f2 f3 hb1
      obtain ⟨z0, z1, z2, z3⟩ := row_four HI1.out.re
      obtain ⟨f0, f1, f2, f3⟩ := row_fourA HI1.out.re
      obtain ⟨d0, d1, d2, d3⟩ := row_four HC1.out
      rcases hck with ⟨hb, rfl⟩ | ⟨hg, ⟨hall, rfl⟩ | ⟨p, hp, hbad, hf, q, hqn, rfl, hq0, hq1⟩⟩
      · have HBd : Hid _ := hb
        clear hb
        go_wp2
        exact bodyPost_ret (v := .tuple #[zeroC, .iface st sp]) (results_cR Tryd.results24 _ _ (W.heap.size + 1) 27 #[.int .i64 0, .slice none 0 0, .slice none 0 0, .slice none 0 0] (0, 0) _ (.iface st sp) rfl rfl (row_setCell (row_setCell (row_setCell (row_setCell HI1.out.re _) _) _) _) Tryd.underlying27 rfl (by kernel_rfl)) rfl ⟨HBi.out _ _ (.inl ⟨HBd.out, rfl⟩), (((HI1.out.old.setCell (by simp) _).setCell (by simp) _).setCell (by simp) _).setCell (by simp) _⟩
      · have HGo : Hid _ := HGi.out ⟨hg, hall⟩
        clear hg hall
        go_wp2
        go_roundw
        case rel => exact ⟨i + 1, by omega, by go_num, by rw [HN1.out]; go_num, HGo, HI1⟩
        case measure => simp [intOf]; omega
      · have HGd : Hid _ := hg
        have HQ0 : Hid _ := hq0
        have HQ1 : Hid _ := hq1
        have HBa : Hid _ := hbad
        have HF : Hid _ := hf
        have HQN : Hid (W.heap.size + 1 < q) := (by have := HSz.out; have h2 := HB0.out.size; show _ < _; omega)
        clear hg hq0 hq1 hbad hf hqn
        go_wp2
        have hoff : ∀ (X : World) (o j : Nat) (v : Value), (X.setCell ⟨W.heap.size + 1, j, none⟩ v).cell? ⟨q, o, none⟩ = X.cell? ⟨q, o, none⟩ := fun X o j v => cell_off (by have := HQN.out; omega)
        exact bodyPost_ret (v := .tuple #[zeroC, .iface 87 (.pointer (some ⟨q, 0, none⟩))]) (results_cR Tryd.results24 _ _ (W.heap.size + 1) 27 #[.int .i64 0, .slice none 0 0, .slice none 0 0, .slice none 0 0] (0, 0) _ (.iface 87 (.pointer (some ⟨q, 0, none⟩))) rfl rfl (row_setCell (row_setCell (row_setCell (row_setCell HI1.out.re _) _) _) _) Tryd.underlying27 rfl (by kernel_rfl)) rfl ⟨HBi.out _ _ (.inr ⟨HGd.out, p, hp, HBa.out, HF.out, q, (by have := HQN.out; omega), rfl, by rw [hoff, hoff, hoff, hoff]; exact HQ0.out, by rw [hoff, hoff, hoff, hoff]; exact HQ1.out⟩), (((HI1.out.old.setCell (by simp) _).setCell (by simp) _).setCell (by simp) _).setCell (by simp) _⟩
    · obtain rfl : i = cs.length := by omega
      have HGa : Hid (∀ j (h : j < cs.length), GoodC lid kind mr md cs[j]) := fun j h => HG.out j h h
      have HNe : Hid ((jR cs).length = n) := (by have h := HN.out; rw [List.take_length] at h; exact h)
      rw [HN.out]
      have hbe := HBD.out _ HI.out
      by_cases hm : 20000 < n
      · have q1 : decide ((20000 : Int) < (n : Int)) = true := by rw [decide_eq_true_iff]; omega
        go_wp2_with fail
        go_region
        all_goals
          go_wp2
          exact bodyPost_ret (v := .tuple #[zeroC, .iface bt bp]) (results_cR Tryd.results24 _ _ (W.heap.size + 1) 27 #[.int .i64 0, .slice none 0 0, .slice none 0 0, .slice none 0 0] (0, 0) _ (.iface bt bp) rfl rfl (blk_drew (row_setCell (row_setCell (row_setCell (row_setCell HI.out.re _) _) _) _)) Tryd.underlying27 rfl (by kernel_rfl)) rfl ⟨.inr (.inl ⟨HGa.out, by rw [HNe.out]; exact hm, rfl⟩), ((((HI.out.old.setCell (by simp) _).setCell (by simp) _).setCell (by simp) _).setCell (by simp) _).drew⟩
      · have q1 : decide ((20000 : Int) < (n : Int)) = false := by rw [decide_eq_false_iff_not]; omega
        have hmn : n ≤ 20000 := by omega
        clear hm
        go_wp2_with fail
        refine (joined_nc lid kind mr md pa pn pc a cs.length c cs wr hn hjr hjd hjv (HL.out _ HI.out) rfl).mono ?_
        rintro e xj ⟨⟨⟨kid, kra, krs, krc, kda, kds, kdc, kva, kvs, kvc⟩, rfl, kat, kfr, rfl, rfl, rfl, rfl, kcap⟩, hbj⟩
        have HKA : Hid _ := kat
        have HKF : Hid _ := kfr
        have HKC : Hid _ := kcap
        have HBJ : Hid _ := hbj
        clear kat kfr kcap hbj z0 z1 z2 z3 f0 f1 f2 f3
        obtain ⟨z0, z1, z2, z3⟩ := row_four (blk_keep HBJ.out HI.out.re)
        obtain ⟨f0, f1, f2, f3⟩ := row_fourA (blk_keep HBJ.out HI.out.re)
        go_wp2
        have hgN : W.heap.size + 1 < wr.heap.size := lt_of_block HI.out.re
        have hol : Below W.heap.size W xj := HI.out.old.trans (HBJ.out.mono (by omega))
        exact bodyPost_ret (v := .tuple #[.agg #[.int .i64 kid, .slice kra (jR cs).length krc, .slice kda (jD cs).length kdc, .slice kva (jV cs).length kvc], .nilIface]) (results_cR Tryd.results24 _ _ (W.heap.size + 1) 27 #[.int .i64 kid, .slice kra (jR cs).length krc, .slice kda (jD cs).length kdc, .slice kva (jV cs).length kvc] (0, 0) _ .nilIface rfl rfl (row_setCell (row_setCell (row_setCell (row_setCell (blk_keep HBJ.out HI.out.re) _) _) _) _) Tryd.underlying27 rfl (by kernel_rfl)) rfl ⟨.inr (.inr ⟨HGa.out, by rw [HNe.out]; exact hmn, ⟨kid, kra, jR cs, krc, kda, jD cs, kdc, kva, jV cs, kvc⟩, rfl, (((HKA.out.off HKF.out hgN).off HKF.out hgN).off HKF.out hgN).off HKF.out hgN, rfl, rfl, rfl, rfl, HKC.out, HKF.out.low HI.out.old.size⟩), (((hol.setCell (by simp) _).setCell (by simp) _).setCell (by simp) _).setCell (by simp) _⟩
theorem join_any (lid kind mr md : Int) (pa : Option Addr) (pn pc : Nat) (a : Option Addr) (c : Nat) (cs : List Cl) (W : World) (st kt bt : TypeId) (sp kp bp : Value)
    (hn : cs.length ≤ 1048576) (hjr : (jR cs).length ≤ 1048576) (hjd : (jD cs).length ≤ 1048576) (hjv : (jV cs).length ≤ 1048576) (hca : ∀ j (h : j < cs.length), cs[j].rs.length ≤ 1048576 ∧ cs[j].ds.length ≤ 1048576 ∧ cs[j].vs.length ≤ 1048576)
    (hs : W.cell? ⟨3, 0, none⟩ = some (.iface st sp)) (hk : W.cell? ⟨0, 0, none⟩ = some (.iface kt kp)) (hbd : W.cell? ⟨2, 0, none⟩ = some (.iface bt bp)) (hl : LiesC W a cs) :
    Calls Tryd.prog 24 #[leafV lid kind mr md pa pn pc, .slice a cs.length c] W fun e w' => JnRet W.heap.size lid kind mr md cs (.iface st sp) (.iface kt kp) (.iface bt bp) e w' ∧ Below W.heap.size W w' :=
  (join_cap lid kind mr md pa pn pc a c cs W st kt bt sp kp bp hn hjr hjd hjv hca hs hk hbd hl).mono fun _ _ h => by
    refine ⟨?_, h.2⟩
    rcases h.1 with h1 | h1 | ⟨h1, h2, k, h3, h4, h5, h6, h7, h8, _⟩
    · exact .inl h1
    · exact .inr (.inl h1)
    · exact .inr (.inr ⟨h1, h2, k, h3, h4, h5, h6, h7, h8⟩)
end Go.Proofs.YtkcobccmifkjcaaDoor
