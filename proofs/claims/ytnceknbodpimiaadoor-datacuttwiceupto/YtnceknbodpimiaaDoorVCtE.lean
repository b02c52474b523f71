/-
  data.Cut: of whatever record under whatever projection.
-/
import Derived.Test.YtnceknbodpimiaaDoorVBStBase
import Derived.Test.YtnceknbodpimiaaDoorVBPjP
import Derived.Test.YtnceknbodpimiaaDoorVBIds
namespace Go.Proofs.YtnceknbodpimiaaDoor
open Go.RowKit
/-- What both answer of a right schema: the same. -/
theorem both_rightK {t : Tr} (hv : vldN t = 0) (ids : List Int) : kpL (fun i => (stayI ids t).contains i) t.sub = rkL (askL ids t) t.sub := by
  obtain ⟨r1, r2, r3, r4, r5⟩ := right_parts hv
  have hu := right_idU r2 r5
  have hlf := right_hasLf r3
  have h := kp_rk (q := ids) hu hlf (SizeOf.sizeOf t + 1) t (Nat.lt_succ_self _) (fun x h => h)
  have h1 := (kpT_id (fun i => (stayI ids t).contains i) t).2.2.2.2
  rw [← h1, h]
  exact (rkT_id _ t).2.2.2.2
abbrev zDt : Value := .agg #[.bool false, .int .i64 0, .int .i64 0, .string ⟨#[]⟩, .slice none 0 0, .slice none 0 0]
/-- What Cut answers. -/
def CtR (t : Tr) (ids : List Int) (d : Dt) (N : Nat) (e : Ending) (w' : World) : Prop :=
  (∃ x ty v, e = .returned (.tuple #[x, .iface ty v]) ∧ x = zDt) ∨
  (vldN t = 0 ∧ chk false t d = 0 ∧ (∀ i ∈ ids, i ∈ (ndT t).map Tr.id) ∧ rkL (askL ids t) t.sub ≠ [] ∧ ∃ y : Dt, y = cutT (rkT (askL ids t) t) t d ∧ ∃ al cl af cf, e = .returned (.tuple #[.agg #[.bool y.no, .int .i64 y.v.k, .int .i64 y.v.n, .string y.v.s, .slice al y.l.length cl, .slice af y.f.length cf], .nilIface]) ∧ LiesD w' (fun b => N ≤ b) al y.l ∧ LiesD w' (fun b => N ≤ b) af y.f)
set_option maxRecDepth 100000 in
set_option maxHeartbeats 6400000 in
theorem dataCut_any (eb es ek en eo : TypeId × Value) (t : Tr) (d : Dt) (n : Nat) (hd : t.Dp n) (hn : n ≤ 1100000) (hs : t.Sm) (hds : d.Sm) (ids : List Int) (hil : ids.length ≤ 1000) (hix : ∀ x ∈ ids, -9223372036854775808 ≤ x ∧ x ≤ 9223372036854775807) (ia : Option Addr) (ic : Nat) (P Q : Nat → Prop) (a : Option Addr) (c : Nat) (hcap : t.sub.length ≤ c) (al : Option Addr) (cl : Nat) (af : Option Addr) (cf : Nat) (W : World) (he : EC W eb es ek) (hen : W.cell? ⟨3, 0, none⟩ = some (.iface en.1 en.2)) (hgo : W.cell? ⟨0, 0, none⟩ = some (.iface eo.1 eo.2)) (hl : LiesN W P a t.sub) (hli : Lies W ia (i64s ids)) (hd1 : LiesD W Q al d.l) (hd2 : LiesD W Q af d.f) :
    Calls Tryd.prog 7 #[nodeV t a c, .slice ia ids.length ic, datumV d al cl af cf] W fun e w' => CtR t ids d W.heap.size e w' ∧ Below W.heap.size W w' := by
  obtain ⟨w0, HW0, HT, HD, HR, HB, HSz⟩ := three_boxesS W #[.int .i64 t.id, .string t.nm, .int .i64 t.rep, .int .i64 t.kind, .slice a t.sub.length c] #[.bool d.no, .int .i64 d.v.k, .int .i64 d.v.n, .string d.v.s, .slice al d.l.length cl, .slice af d.f.length cf] #[.bool false, .int .i64 0, .int .i64 0, .string ⟨#[]⟩, .slice none 0 0, .slice none 0 0] 24 30 30
  have hsz := HSz.out
  have HEr : Hid (∀ X, Below W.heap.size W X → EC X eb es ek ∧ X.cell? ⟨3, 0, none⟩ = some (.iface en.1 en.2) ∧ X.cell? ⟨0, 0, none⟩ = some (.iface eo.1 eo.2)) := fun X hX => ⟨he.keep hX, (hX.cell (World.block_lt_of_cell? W _ hen)).trans hen, (hX.cell (World.block_lt_of_cell? W _ hgo)).trans hgo⟩
  have HL : Hid (LiesN W P a t.sub) := hl
  have HLi : Hid (Lies W ia (i64s ids)) := hli
  have HD1 : Hid (LiesD W Q al d.l) := hd1
  have HD2 : Hid (LiesD W Q af d.f) := hd2
  have HSm : Hid t.Sm := hs
  have HDs : Hid d.Sm := hds
  have HIx : Hid _ := hix
  have HCk : Hid _ := checkD_any eb es ek en t d n hd hn hs hds P Q a c hcap al cl af cf w0 (HEr.out w0 HB.out).1 (HEr.out w0 HB.out).2.1 (hl.keep HB.out) (hd1.keep HB.out) (hd2.keep HB.out)
  clear he hen hgo hl hli hd1 hd2 hs hds hd hix
  obtain ⟨⟨p0, p1, p2, p3, p4⟩, _⟩ := row_five HT.out
  obtain ⟨z0, z1, z2, z3, z4, z5⟩ := row_six HD.out
  unfold nodeV datumV at *
  go_enter Tryd.func7, Tryd.ntmps7
  go_upto_region 1 with fail
  rw [HW0.out]
  go_wp2_with fail
  refine Calls.mono HCk.out ?_
  rintro e w1 ⟨hck, hb1⟩
  have HB1 : Hid (Below W.heap.size W w1) := HB.out.trans (hb1.mono HB.out.size)
  have HT1 : Hid _ := blk_keep hb1 HT.out
  have HD1' : Hid _ := blk_keep hb1 HD.out
  have HR1 : Hid _ := blk_keep hb1 HR.out
  have hs1 := hb1.size
  clear hb1 HCk p0 p1 p2 p3 p4 z0 z1 z2 z3 z4 z5
  rcases hck with ⟨ty, v, rfl⟩ | ⟨hv, hc, rfl⟩
  · obtain ⟨s0, s1, s2, s3, s4, s5⟩ := row_six HR1.out
    obtain ⟨f0, f1, f2, f3, f4, f5⟩ := row_six_z HR1.out
    go_wp2
    refine bodyPost_ret (v := .tuple #[.agg #[.bool false, .int .i64 0, .int .i64 0, .string ⟨#[]⟩, .slice none 0 0, .slice none 0 0], .iface ty v]) (results_cS Tryd.results7 _ _ (W.heap.size + 1 + 1) 30 #[.bool false, .int .i64 0, .int .i64 0, .string ⟨#[]⟩, .slice none 0 0, .slice none 0 0] (0, 0) _ _ rfl rfl (row_setCell (row_setCell (row_setCell (row_setCell (row_setCell (row_setCell HR1.out _) _) _) _) _) _) Tryd.underlying30 rfl (by kernel_rfl)) rfl ⟨.inl ⟨_, ty, v, rfl, rfl⟩, ?_⟩
    exact (((((HB1.out.setCell (by simp; omega) _).setCell (by simp; omega) _).setCell (by simp; omega) _).setCell (by simp; omega) _).setCell (by simp; omega) _).setCell (by simp; omega) _
  have HV : Hid (vldN t = 0) := hv
  have HC : Hid (chk false t d = 0) := hc
  clear hv hc
  have hbb := inB_cnt t 0 [] (right_parts HV.out).1
  have HPr : Hid _ := project_any t 6 hbb.2.2 (by omega) HSm.out HV.out (by omega) ids ia ic hil HIx.out a c P w1 (HL.out.keep HB1.out) hcap (HLi.out.keep HB1.out) eb es en eo ⟨(HEr.out w1 HB1.out).1.b, (HEr.out w1 HB1.out).1.s, (HEr.out w1 HB1.out).2.1⟩ (HEr.out w1 HB1.out).2.2
  clear hbb
  obtain ⟨⟨p0, p1, p2, p3, p4⟩, _⟩ := row_five HT1.out
  unfold nodeV at HPr
  go_wp2_with fail
  refine Calls.mono HPr.out ?_
  rintro e w2 ⟨hpr, hb2⟩
  have HB2 : Hid (Below W.heap.size W w2) := HB1.out.trans (hb2.mono HB1.out.size)
  have HT2 : Hid _ := blk_keep hb2 HT1.out
  have HD2' : Hid _ := blk_keep hb2 HD1'.out
  have HR2 : Hid _ := blk_keep hb2 HR1.out
  have hs2 := hb2.size
  clear hb2 HPr p0 p1 p2 p3 p4
  rcases hpr with ⟨hno, rfl⟩ | ⟨hin, hne, rfl⟩ | ⟨hin, hne, pa, pc, rfl, hlp, hpc⟩
  · have HR3 : Hid ((w2.alloc (.cells #[.int .i64 0, .string ⟨#[]⟩, .int .i64 0, .int .i64 0, .slice none 0 0] 24)).heap[W.heap.size + 1 + 1]? = some (.cells #[.bool false, .int .i64 0, .int .i64 0, .string ⟨#[]⟩, .slice none 0 0, .slice none 0 0] 30 (0, 0))) := blk_alloc HR2.out
    have HB3 : Hid (Below W.heap.size W (w2.alloc (.cells #[.int .i64 0, .string ⟨#[]⟩, .int .i64 0, .int .i64 0, .slice none 0 0] 24))) := HB2.out.alloc HB2.out.size _
    obtain ⟨s0, s1, s2, s3, s4, s5⟩ := row_six HR3.out
    obtain ⟨f0, f1, f2, f3, f4, f5⟩ := row_six_z HR3.out
    go_wp2
    refine bodyPost_ret (v := .tuple #[.agg #[.bool false, .int .i64 0, .int .i64 0, .string ⟨#[]⟩, .slice none 0 0, .slice none 0 0], .iface eo.1 eo.2]) (results_cS Tryd.results7 _ _ (W.heap.size + 1 + 1) 30 #[.bool false, .int .i64 0, .int .i64 0, .string ⟨#[]⟩, .slice none 0 0, .slice none 0 0] (0, 0) _ _ rfl rfl (row_setCell (row_setCell (row_setCell (row_setCell (row_setCell (row_setCell HR3.out _) _) _) _) _) _) Tryd.underlying30 rfl (by kernel_rfl)) rfl ⟨.inl ⟨_, _, _, rfl, rfl⟩, ?_⟩
    exact (((((HB3.out.setCell (by simp; omega) _).setCell (by simp; omega) _).setCell (by simp; omega) _).setCell (by simp; omega) _).setCell (by simp; omega) _).setCell (by simp; omega) _
  · have HR3 : Hid ((w2.alloc (.cells #[.int .i64 0, .string ⟨#[]⟩, .int .i64 0, .int .i64 0, .slice none 0 0] 24)).heap[W.heap.size + 1 + 1]? = some (.cells #[.bool false, .int .i64 0, .int .i64 0, .string ⟨#[]⟩, .slice none 0 0, .slice none 0 0] 30 (0, 0))) := blk_alloc HR2.out
    have HB3 : Hid (Below W.heap.size W (w2.alloc (.cells #[.int .i64 0, .string ⟨#[]⟩, .int .i64 0, .int .i64 0, .slice none 0 0] 24))) := HB2.out.alloc HB2.out.size _
    obtain ⟨s0, s1, s2, s3, s4, s5⟩ := row_six HR3.out
    obtain ⟨f0, f1, f2, f3, f4, f5⟩ := row_six_z HR3.out
    go_wp2
    refine bodyPost_ret (v := .tuple #[.agg #[.bool false, .int .i64 0, .int .i64 0, .string ⟨#[]⟩, .slice none 0 0, .slice none 0 0], .iface es.1 es.2]) (results_cS Tryd.results7 _ _ (W.heap.size + 1 + 1) 30 #[.bool false, .int .i64 0, .int .i64 0, .string ⟨#[]⟩, .slice none 0 0, .slice none 0 0] (0, 0) _ _ rfl rfl (row_setCell (row_setCell (row_setCell (row_setCell (row_setCell (row_setCell HR3.out _) _) _) _) _) _) Tryd.underlying30 rfl (by kernel_rfl)) rfl ⟨.inl ⟨_, _, _, rfl, rfl⟩, ?_⟩
    exact (((((HB3.out.setCell (by simp; omega) _).setCell (by simp; omega) _).setCell (by simp; omega) _).setCell (by simp; omega) _).setCell (by simp; omega) _).setCell (by simp; omega) _
  · rw [both_rightK HV.out ids] at hne hlp hpc
    have HIn : Hid (∀ i ∈ ids, i ∈ (ndT t).map Tr.id) := hin
    have HNe : Hid (rkL (askL ids t) t.sub ≠ []) := hne
    obtain ⟨L, HLn⟩ := hid_name (askL ids t)
    obtain ⟨p, HPn⟩ := hid_name (rkT L t)
    have HPs : Hid (rkL L t.sub = p.sub ∧ p.id = t.id ∧ p.nm = t.nm ∧ p.rep = t.rep ∧ p.kind = t.kind) := (by
      obtain ⟨e1, e2, e3, e4, e5⟩ := rkT_id L t
      rw [HPn.out] at e1 e2 e3 e4 e5
      exact ⟨e5.symm, e1, e2, e3, e4⟩)
    rw [both_rightK HV.out ids, HLn.out, HPs.out.1]
    rw [HLn.out, HPs.out.1] at hlp hpc
    have hr5 := right_parts HV.out
    have hcut := (cut_any L (SizeOf.sizeOf t + 1) t (Nat.lt_succ_self _) (right_idU hr5.2.1 hr5.2.2.2.2) (right_lfOk hr5.2.2.1) HSm.out).2 d HDs.out HC.out
    rw [HPn.out] at hcut
    have HCut : Hid (CutP p t d) := hcut
    clear hin hne hcut hr5
    have hb3 : Below w2.heap.size w2 (w2.alloc (.cells #[.int .i64 t.id, .string t.nm, .int .i64 t.rep, .int .i64 t.kind, .slice pa p.sub.length pc] 24)) := (Below.refl _ _).alloc (Nat.le_refl _) _
    have HP3 : Hid ((w2.alloc (.cells #[.int .i64 t.id, .string t.nm, .int .i64 t.rep, .int .i64 t.kind, .slice pa p.sub.length pc] 24)).heap[w2.heap.size]? = some (.cells #[.int .i64 t.id, .string t.nm, .int .i64 t.rep, .int .i64 t.kind, .slice pa p.sub.length pc] 24 (0, 0))) := heap_alloc_new _ _
    have HLp : Hid (LiesN (w2.alloc (.cells #[.int .i64 t.id, .string t.nm, .int .i64 t.rep, .int .i64 t.kind, .slice pa p.sub.length pc] 24)) (fun b => w1.heap.size ≤ b) pa p.sub) := hlp.keep hb3
    have H3 : Hid _ := hb3
    obtain ⟨w3, HW3⟩ := hid_name (w2.alloc (.cells #[.int .i64 t.id, .string t.nm, .int .i64 t.rep, .int .i64 t.kind, .slice pa p.sub.length pc] 24))
    rw [HW3.out] at HP3 HLp H3
    have HB3 : Hid (Below W.heap.size W w3) := HB2.out.trans (H3.out.mono HB2.out.size)
    have HT3 : Hid _ := blk_keep H3.out HT2.out
    have HD3 : Hid _ := blk_keep H3.out HD2'.out
    have HR3 : Hid _ := blk_keep H3.out HR2.out
    have hs3 := H3.out.size
    have HCC : Hid (Calls Tryd.prog 18 #[.agg #[.int .i64 t.id, .string t.nm, .int .i64 t.rep, .int .i64 t.kind, .slice a t.sub.length c], .agg #[.int .i64 t.id, .string t.nm, .int .i64 t.rep, .int .i64 t.kind, .slice pa p.sub.length pc], .agg #[.bool d.no, .int .i64 d.v.k, .int .i64 d.v.n, .string d.v.s, .slice al d.l.length cl, .slice af d.f.length cf]] w3 fun e w' => (∃ al' cl' af' cf', e = .returned (datumV (cutT p t d) al' cl' af' cf') ∧ LiesD w' (fun b => w3.heap.size ≤ b) al' (cutT p t d).l ∧ LiesD w' (fun b => w3.heap.size ≤ b) af' (cutT p t d).f) ∧ Below w3.heap.size w3 w') := (by
      obtain ⟨_, e1, e2, e3, e4⟩ := HPs.out
      have h := HCut.out P _ Q a c pa pc al cl af cf w3 (HL.out.keep HB3.out) HLp.out (HD1.out.keep HB3.out) (HD2.out.keep HB3.out)
      unfold nodeV at h
      rw [e1, e2, e3, e4] at h
      exact h)
    unfold datumV at HCC
    obtain ⟨y, HY⟩ := hid_name (cutT p t d)
    rw [HY.out] at HCC
    clear hb3 hlp hpc
    obtain ⟨⟨p0, p1, p2, p3, p4⟩, _⟩ := row_five HT3.out
    obtain ⟨⟨i0, i1, i2, i3, i4⟩, _⟩ := row_five HP3.out
    obtain ⟨z0, z1, z2, z3, z4, z5⟩ := row_six HD3.out
    go_upto_region 5 with fail
    rw [HW3.out]
    clear HW3
    go_wp2_with fail
    refine Calls.mono HCC.out ?_
    rintro e w4 ⟨⟨al', cl', af', cf', rfl, hl1, hl2⟩, hb4⟩
    have HL1 : Hid (LiesD w4 (fun b => w3.heap.size ≤ b) al' y.l) := hl1
    have HL2 : Hid (LiesD w4 (fun b => w3.heap.size ≤ b) af' y.f) := hl2
    have HR4 : Hid _ := blk_keep hb4 HR3.out
    have HB4 : Hid (Below W.heap.size W w4) := HB3.out.trans (hb4.mono HB3.out.size)
    clear hl1 hl2 hb4 p0 p1 p2 p3 p4 i0 i1 i2 i3 i4 z0 z1 z2 z3 z4 z5 HCC
    obtain ⟨s0, s1, s2, s3, s4, s5⟩ := row_six HR4.out
    obtain ⟨f0, f1, f2, f3, f4, f5⟩ := row_six_z HR4.out
    go_wp2
    have fr : ∀ b, w3.heap.size ≤ b → b ≠ W.heap.size + 1 + 1 := fun b h => by omega
    refine bodyPost_ret (v := .tuple #[.agg #[.bool y.no, .int .i64 y.v.k, .int .i64 y.v.n, .string y.v.s, .slice al' y.l.length cl', .slice af' y.f.length cf'], .nilIface]) (results_cS Tryd.results7 _ _ (W.heap.size + 1 + 1) 30 #[.bool y.no, .int .i64 y.v.k, .int .i64 y.v.n, .string y.v.s, .slice al' y.l.length cl', .slice af' y.f.length cf'] (0, 0) _ _ rfl rfl (row_setCell (row_setCell (row_setCell (row_setCell (row_setCell (row_setCell HR4.out _) _) _) _) _) _) Tryd.underlying30 rfl (by kernel_rfl)) rfl ⟨.inr ⟨HV.out, HC.out, HIn.out, HNe.out, y, (by rw [HLn.out, HPn.out, HY.out]), al', cl', af', cf', rfl, ((((((HL1.out.off fr).off fr).off fr).off fr).off fr).off fr).stay (fun b h _ => by omega) (fun _ _ _ => rfl), ((((((HL2.out.off fr).off fr).off fr).off fr).off fr).off fr).stay (fun b h _ => by omega) (fun _ _ _ => rfl)⟩, ?_⟩
    exact (((((HB4.out.setCell (by simp; omega) _).setCell (by simp; omega) _).setCell (by simp; omega) _).setCell (by simp; omega) _).setCell (by simp; omega) _).setCell (by simp; omega) _
end Go.Proofs.YtnceknbodpimiaaDoor
