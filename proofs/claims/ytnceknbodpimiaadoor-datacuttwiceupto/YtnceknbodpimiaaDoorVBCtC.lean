/-
  data.cutList, data.cut: of a right record under a projection.
  data.values amid a way.
-/
import Derived.Test.YtnceknbodpimiaaDoorVBCtA
import Derived.Test.YtnceknbodpimiaaDoorVBColS
import Derived.BigQuiet
namespace Go.Proofs.YtnceknbodpimiaaDoor
open Go.RowKit
theorem four_boxesT (W : World) (c1 c2 c3 c4 : Array Value) (t1 t2 t3 t4 : TypeId) : ∃ w0, Hid ((((W.alloc (.cells c1 t1)).alloc (.cells c2 t2)).alloc (.cells c3 t3)).alloc (.cells c4 t4) = w0) ∧ Hid (w0.heap[W.heap.size]? = some (.cells c1 t1 (0, 0))) ∧ Hid (w0.heap[W.heap.size + 1]? = some (.cells c2 t2 (0, 0))) ∧ Hid (w0.heap[W.heap.size + 1 + 1]? = some (.cells c3 t3 (0, 0))) ∧ Hid (w0.heap[W.heap.size + 1 + 1 + 1]? = some (.cells c4 t4 (0, 0))) ∧ Hid (Below W.heap.size W w0) ∧ Hid (w0.heap.size = W.heap.size + 4) := by
  obtain ⟨w1, H1, H2, H3, H4, H5, H6⟩ := three_boxesS W c1 c2 c3 t1 t2 t3
  have hs := H6.out
  refine ⟨w1.alloc (.cells c4 t4), by show _ = _; rw [H1.out], blk_alloc H2.out, blk_alloc H3.out, blk_alloc H4.out, ?_, H5.out.alloc H5.out.size _, by show _ = _; simp [hs]⟩
  have h := heap_alloc_new w1 (.cells c4 t4)
  rw [hs] at h
  exact h
theorem liesD_nil (w : World) (P : Nat → Prop) : LiesD w P none [] := ⟨fun _ => [], fun j hj => absurd hj (by simp), fun j hj => absurd hj (by simp)⟩
set_option maxRecDepth 100000 in
set_option maxHeartbeats 3200000 in
theorem cutList_of (p t : Tr) (ls : List Dt) (hlen : ls.length ≤ 1048576) (ho : ∀ j (h : j < ls.length), CutO p t ls[j]) (P Q R : Nat → Prop) (ta : Option Addr) (tc : Nat) (pa : Option Addr) (pc : Nat) (a : Option Addr) (c : Nat) (W : World) (hlt : LiesN W P ta t.sub) (hlp : LiesN W Q pa p.sub) (hl : LiesD W R a ls) :
    Calls Tryd.prog 36 #[.agg #[.int .i64 t.id, .string t.nm, .int .i64 t.rep, .int .i64 t.kind, .slice ta t.sub.length tc], .agg #[.int .i64 p.id, .string p.nm, .int .i64 p.rep, .int .i64 p.kind, .slice pa p.sub.length pc], .slice a ls.length c] W fun e w' => (∃ a' c', e = .returned (.slice a' ls.length c') ∧ LiesD w' (fun b => W.heap.size ≤ b) a' (ls.map (cut1 p t))) ∧ Below W.heap.size W w' := by
  obtain ⟨iv, hvi, hv0, hv1, hv2⟩ := info_parts Tryd.infoD
  obtain ⟨w0, HW0, HT, HP, HB⟩ := two_boxesS W #[.int .i64 t.id, .string t.nm, .int .i64 t.rep, .int .i64 t.kind, .slice ta t.sub.length tc] #[.int .i64 p.id, .string p.nm, .int .i64 p.rep, .int .i64 p.kind, .slice pa p.sub.length pc] 24 24
  have HLT : Hid (LiesN W P ta t.sub) := hlt
  have HLP : Hid (LiesN W Q pa p.sub) := hlp
  have HL : Hid (LiesD W R a ls) := hl
  have HO : Hid (∀ j (h : j < ls.length), CutO p t ls[j]) := ho
  obtain ⟨us, HUs⟩ := hid_name (ls.map (cut1 p t))
  have HUl : Hid (us.length = ls.length) := (by show _ = _; rw [← HUs.out, List.length_map])
  have HUe : Hid (∀ j (h : j < us.length) (h' : j < ls.length), us[j] = cut1 p t ls[j]) := fun j h h' => (by simp only [← HUs.out, List.getElem_map])
  have hW0 := HB.out.size
  clear hlt hlp hl ho
  go_enter Tryd.func36, Tryd.ntmps36
  go_wp2_with fail
  rw [HW0.out]
  go_loopw [7, 12] (fun l x wr => ∃ (i : Nat) (ncs : List (List Value)), i ≤ ls.length ∧ x = .int .i64 i ∧ Hid (OD w0 us wr i l ncs)) (fun _ x _ => ls.length - (intOf x).toNat)
  case atStart => exact ⟨0, [], Nat.zero_le _, rfl, OD.start w0 us⟩
  case round =>
    obtain ⟨i, ncs, hik, rfl, HD⟩ := hrel
    have HBr : Hid (Below W.heap.size W wr) := HB.out.trans (HD.out.old.mono HB.out.size)
    obtain ⟨la, lc, rfl⟩ := HD.out.shape
    by_cases hlt : i < ls.length
    · obtain ⟨b, o, a1, c1, a2, c2, rfl, ⟨d0, e1, d2, d3, d4, d5⟩, hl1, hl2⟩ := (HL.out.keep HBr.out).at_ i hlt
      have hb2 : Below wr.heap.size wr (wr.alloc (.cells #[.bool ls[i].no, .int .i64 ls[i].v.k, .int .i64 ls[i].v.n, .string ls[i].v.s, .slice a1 ls[i].l.length c1, .slice a2 ls[i].f.length c2] 30)) := (Below.refl _ _).alloc (Nat.le_refl _) _
      have HI2 : Hid ((wr.alloc (.cells #[.bool ls[i].no, .int .i64 ls[i].v.k, .int .i64 ls[i].v.n, .string ls[i].v.s, .slice a1 ls[i].l.length c1, .slice a2 ls[i].f.length c2] 30)).heap[wr.heap.size]? = some (.cells #[.bool ls[i].no, .int .i64 ls[i].v.k, .int .i64 ls[i].v.n, .string ls[i].v.s, .slice a1 ls[i].l.length c1, .slice a2 ls[i].f.length c2] 30 (0, 0))) := heap_alloc_new _ _
      have HL1 : Hid (LiesD (wr.alloc (.cells #[.bool ls[i].no, .int .i64 ls[i].v.k, .int .i64 ls[i].v.n, .string ls[i].v.s, .slice a1 ls[i].l.length c1, .slice a2 ls[i].f.length c2] 30)) R a1 ls[i].l) := hl1.keep hb2
      have HL2 : Hid (LiesD (wr.alloc (.cells #[.bool ls[i].no, .int .i64 ls[i].v.k, .int .i64 ls[i].v.n, .string ls[i].v.s, .slice a1 ls[i].l.length c1, .slice a2 ls[i].f.length c2] 30)) R a2 ls[i].f) := hl2.keep hb2
      have HR2 : Hid _ := hb2
      obtain ⟨w2, HW2⟩ := hid_name (wr.alloc (.cells #[.bool ls[i].no, .int .i64 ls[i].v.k, .int .i64 ls[i].v.n, .string ls[i].v.s, .slice a1 ls[i].l.length c1, .slice a2 ls[i].f.length c2] 30))
      rw [HW2.out] at HI2 HL1 HL2 HR2
      clear hb2 hl1 hl2
      have HB2 : Hid (Below W.heap.size W w2) := HBr.out.trans (HR2.out.mono HBr.out.size)
      have HT2 : Hid _ := blk_keep HR2.out (blk_keep HD.out.old HT.out)
      have HP2 : Hid _ := blk_keep HR2.out (blk_keep HD.out.old HP.out)
      have HC : Hid (Calls Tryd.prog 37 #[.agg #[.int .i64 t.id, .string t.nm, .int .i64 t.rep, .int .i64 t.kind, .slice ta t.sub.length tc], .agg #[.int .i64 p.id, .string p.nm, .int .i64 p.rep, .int .i64 p.kind, .slice pa p.sub.length pc], .agg #[.bool ls[i].no, .int .i64 ls[i].v.k, .int .i64 ls[i].v.n, .string ls[i].v.s, .slice a1 ls[i].l.length c1, .slice a2 ls[i].f.length c2]] w2 fun e w' => (∃ al' cl' af' cf', e = .returned (.agg #[.bool (cut1 p t ls[i]).no, .int .i64 (cut1 p t ls[i]).v.k, .int .i64 (cut1 p t ls[i]).v.n, .string (cut1 p t ls[i]).v.s, .slice al' (cut1 p t ls[i]).l.length cl', .slice af' (cut1 p t ls[i]).f.length cf']) ∧ LiesD w' (fun b => w2.heap.size ≤ b) al' (cut1 p t ls[i]).l ∧ LiesD w' (fun b => w2.heap.size ≤ b) af' (cut1 p t ls[i]).f) ∧ Below w2.heap.size w2 w') := HO.out i hlt P Q R ta tc pa pc a1 c1 a2 c2 w2 (HLT.out.keep HB2.out) (HLP.out.keep HB2.out) HL1.out HL2.out
      have hus : i < us.length := by have := HUl.out; omega
      have HUi : Hid (us[i] = cut1 p t ls[i]) := HUe.out i hus hlt
      rw [← HUi.out] at HC
      obtain ⟨y, HY⟩ := hid_name us[i]
      rw [HY.out] at HC
      have HRow : Hid (wr.ownsRow w0.heap.size 30 6 (.slice la i lc) i ncs.flatten) := HD.out.row
      have HPu : Hid (∀ (w1 w3 : World) (l' : Value) (al af : Option Addr) (cl cf : Nat) (ob : Obj), Below wr.heap.size wr w1 → LiesD w1 (fun b => wr.heap.size ≤ b) al y.l → LiesD w1 (fun b => wr.heap.size ≤ b) af y.f → w3.ownsRow w0.heap.size 30 6 l' (i + 1) (ncs.flatten ++ [.bool y.no, .int .i64 y.v.k, .int .i64 y.v.n, .string y.v.s, .slice al y.l.length cl, .slice af y.f.length cf]) → (w1.alloc ob).grownBy w3 (Value.slice la i lc).ownBlock → (l'.ownBlock = (Value.slice la i lc).ownBlock ∧ (Value.slice la i lc).ownBlock ≠ none ∨ l'.ownBlock = some (w1.alloc ob).heap.size) → ∃ ncs', OD w0 us w3 (i + 1) l' ncs') := fun w1 w3 l' al af cl cf ob h1 h2 h3 h4 h5 h6 => (by
        have h := HD.out.push (w1 := w1) (w2 := w3) (l' := l') (al := al) (af := af) (cl := cl) (cf := cf) hus h1 (by rw [HY.out]; exact h2) (by rw [HY.out]; exact h3) (ob := ob) (by rw [HY.out]; exact h4) h5 h6
        exact ⟨_, h⟩)
      have hsz0 := HD.out.old.size
      have hsz2 := HR2.out.size
      obtain ⟨⟨p0, p1, p2, p3, p4⟩, _⟩ := row_five HT2.out
      obtain ⟨⟨i0, i1, i2, i3, i4⟩, _⟩ := row_five HP2.out
      obtain ⟨z0, z1, z2, z3, z4, z5⟩ := row_six HI2.out
      go_upto_region 5 with fail
      rw [HW2.out]
      clear HW2 d0 e1 d2 d3 d4 d5
      go_wp2_with (first
        | (go_at_call 37; refine Calls.mono HC.out ?_; rintro e w3 ⟨⟨al, cl, af, cf, rfl, hl3, hl4⟩, hb3⟩; have hb13 : Below wr.heap.size wr w3 := HR2.out.trans (hb3.mono HR2.out.size); have HL3 : Hid (LiesD w3 (fun b => wr.heap.size ≤ b) al y.l) := hl3.stay (fun b h _ => Nat.le_trans hsz2 h) (fun _ _ _ => rfl); have HL4 : Hid (LiesD w3 (fun b => wr.heap.size ≤ b) af y.f) := hl4.stay (fun b h _ => Nat.le_trans hsz2 h) (fun _ _ _ => rfl); clear hl3 hl4)
        | (at_builtin; refine wpList_append_where _ rfl _ _ 28 rfl w0.heap.size 30 iv (.agg #[.bool false, .int .i64 0, .int .i64 0, .string ⟨#[]⟩, .slice none 0 0, .slice none 0 0]) 6 88 Tryd.underlying28 hvi hv0 hv1 hv2 rfl (by decide) _ i ncs.flatten rfl ((ow_kept HRow.out hb13).alloc _) ⟨_, 0, none⟩ 1 1 [.bool y.no, .int .i64 y.v.k, .int .i64 y.v.n, .string y.v.s, .slice al y.l.length cl, .slice af y.f.length cf] rfl rfl six_cells (by intro u hu; simp at hu; rcases hu with rfl | rfl | rfl | rfl | rfl | rfl <;> rfl) (by unfold maxLen; omega) (by omega) (by have := hb13.size; simp; omega) (by decide) ?_; intro l' w4 hown4 hgrow4 hwh; obtain ⟨ncs', hdn⟩ := HPu.out _ _ _ _ _ _ _ _ hb13 HL3.out HL4.out hown4 hgrow4 hwh; have HDn : Hid _ := hdn; clear hdn))
      go_roundw
      case rel => exact ⟨i + 1, _, by omega, by go_num, HDn⟩
      case measure => simp [intOf]; omega
    · obtain rfl : i = ls.length := by omega
      have HDe : Hid (LiesD wr (fun b => W.heap.size ≤ b) la us) := (by
        have h := HD.out
        rw [← HUl.out] at h
        exact h.lies.stay (fun b h _ => Nat.le_trans hW0 h) (fun _ _ _ => rfl))
      go_wp2
      go_ret
      exact ⟨⟨la, lc, rfl, by rw [HUs.out]; exact HDe.out⟩, HBr.out⟩
set_option maxRecDepth 100000 in
set_option maxHeartbeats 3200000 in
/-- data.cut, if cutOne is so of what there is. -/
theorem cut_of (p t : Tr) (d : Dt) (hll : d.l.length ≤ 1048576) (ho : ∀ o ∈ ons t d, CutO p t o) : CutP p t d := fun P Q R ta tc pa pc al cl af cf W hlt hlp hdl hdf => by
  obtain ⟨w0, HW0, HT, HP, HD, HR, HB, HSz⟩ := four_boxesT W #[.int .i64 t.id, .string t.nm, .int .i64 t.rep, .int .i64 t.kind, .slice ta t.sub.length tc] #[.int .i64 p.id, .string p.nm, .int .i64 p.rep, .int .i64 p.kind, .slice pa p.sub.length pc] #[.bool d.no, .int .i64 d.v.k, .int .i64 d.v.n, .string d.v.s, .slice al d.l.length cl, .slice af d.f.length cf] #[.bool false, .int .i64 0, .int .i64 0, .string ⟨#[]⟩, .slice none 0 0, .slice none 0 0] 24 24 30 30
  have HLT : Hid (LiesN W P ta t.sub) := hlt
  have HLP : Hid (LiesN W Q pa p.sub) := hlp
  have HDL : Hid (LiesD W R al d.l) := hdl
  have HDF : Hid (LiesD W R af d.f) := hdf
  have HO : Hid (∀ o ∈ ons t d, CutO p t o) := ho
  have hsz := HSz.out
  obtain ⟨⟨p0, p1, p2, p3, p4⟩, _⟩ := row_five HT.out
  obtain ⟨⟨i0, i1, i2, i3, i4⟩, _⟩ := row_five HP.out
  obtain ⟨z0, z1, z2, z3, z4, z5⟩ := row_six HD.out
  clear hlt hlp hdl hdf ho
  obtain ⟨cd, HCd⟩ := hid_name (cutT p t d)
  by_cases hr : t.rep = 3
  · have q : (t.rep == 3) = true := by simp [hr]
    have ecd : cd = .mk false zV (d.l.map (cut1 p t)) [] := by rw [← HCd.out, cutT_eq, if_pos hr]
    have HC : Hid (∀ X, Below W.heap.size W X → Calls Tryd.prog 36 #[.agg #[.int .i64 t.id, .string t.nm, .int .i64 t.rep, .int .i64 t.kind, .slice ta t.sub.length tc], .agg #[.int .i64 p.id, .string p.nm, .int .i64 p.rep, .int .i64 p.kind, .slice pa p.sub.length pc], .slice al d.l.length cl] X fun e w' => (∃ a' c', e = .returned (.slice a' d.l.length c') ∧ LiesD w' (fun b => X.heap.size ≤ b) a' (d.l.map (cut1 p t))) ∧ Below X.heap.size X w') := fun X hX => cutList_of p t d.l hll (fun j h => HO.out _ (by rw [ons, if_pos hr]; exact List.getElem_mem h)) P Q R ta tc pa pc al cl X (HLT.out.keep hX) (HLP.out.keep hX) (HDL.out.keep hX)
    obtain ⟨us, HUs⟩ := hid_name (d.l.map (cut1 p t))
    have HUl : Hid (us.length = d.l.length) := (by show _ = _; rw [← HUs.out, List.length_map])
    rw [HUs.out] at ecd HC
    have HEc : Hid _ := ecd
    clear ecd hr
    unfold nodeV datumV
    go_enter Tryd.func18, Tryd.ntmps18
    go_upto_region 1 with fail
    rw [HW0.out]
    go_wp2_with fail
    refine Calls.mono (HC.out w0 HB.out) ?_
    rintro e w1 ⟨⟨a1, c1, rfl, hl1⟩, hb1⟩
    have HL1 : Hid (LiesD w1 (fun b => w0.heap.size ≤ b) a1 us) := hl1
    have HR1 : Hid _ := blk_keep hb1 HR.out
    have hB1 : Below W.heap.size W w1 := HB.out.trans (hb1.mono HB.out.size)
    clear hl1 hb1
    obtain ⟨s0, s1, s2, s3, s4, s5⟩ := row_six HR1.out
    obtain ⟨f0, f1, f2, f3, f4, f5⟩ := row_six_z HR1.out
    go_wp2
    refine bodyPost_ret (v := .agg #[.bool false, .int .i64 0, .int .i64 0, .string ⟨#[]⟩, .slice a1 d.l.length c1, .slice none 0 0]) (results_cell_row Tryd.results18 _ _ (W.heap.size + 1 + 1 + 1) 30 #[.bool false, .int .i64 0, .int .i64 0, .string ⟨#[]⟩, .slice a1 d.l.length c1, .slice none 0 0] (0, 0) _ rfl (row_setCell (row_setCell (row_setCell (row_setCell (row_setCell (row_setCell HR1.out _) _) _) _) _) _) Tryd.underlying30 rfl (by kernel_rfl)) rfl ⟨⟨a1, c1, none, 0, ?_, ?_, ?_⟩, ?_⟩
    · rw [HCd.out, HEc.out]
      show _ = Ending.returned (.agg #[.bool false, .int .i64 0, .int .i64 0, .string ⟨#[]⟩, .slice a1 us.length c1, .slice none 0 0])
      rw [HUl.out]
    · rw [HCd.out, HEc.out]
      have fr : ∀ b, w0.heap.size ≤ b → b ≠ W.heap.size + 1 + 1 + 1 := fun b h => by omega
      exact ((((((HL1.out.off fr).off fr).off fr).off fr).off fr).off fr).stay (fun b h _ => by omega) (fun _ _ _ => rfl)
    · rw [HCd.out, HEc.out]
      exact liesD_nil _ _
    · exact (((((hB1.setCell (by simp; omega) _).setCell (by simp; omega) _).setCell (by simp; omega) _).setCell (by simp; omega) _).setCell (by simp; omega) _).setCell (by simp; omega) _
  have q : (t.rep == 3) = false := by simp [hr]
  cases hno : d.no with
  | true =>
    have HEc : Hid (cd = .mk true zV [] []) := (by show _ = _; rw [← HCd.out, cutT_eq, if_neg hr, if_pos hno])
    have HR1 : Hid _ := HR.out
    rw [hno] at z0
    clear hr
    obtain ⟨s0, s1, s2, s3, s4, s5⟩ := row_six HR1.out
    obtain ⟨f0, f1, f2, f3, f4, f5⟩ := row_six_z HR1.out
    unfold nodeV datumV
    rw [hno] at HW0 ⊢
    clear hno
    go_enter Tryd.func18, Tryd.ntmps18
    go_upto_region 1 with fail
    rw [HW0.out]
    go_wp2
    refine bodyPost_ret (v := .agg #[.bool true, .int .i64 0, .int .i64 0, .string ⟨#[]⟩, .slice none 0 0, .slice none 0 0]) (results_cell_row Tryd.results18 _ _ (W.heap.size + 1 + 1 + 1) 30 #[.bool true, .int .i64 0, .int .i64 0, .string ⟨#[]⟩, .slice none 0 0, .slice none 0 0] (0, 0) _ rfl (row_setCell (row_setCell (row_setCell (row_setCell (row_setCell (row_setCell HR1.out _) _) _) _) _) _) Tryd.underlying30 rfl (by kernel_rfl)) rfl ⟨⟨none, 0, none, 0, ?_, ?_, ?_⟩, ?_⟩
    · rw [HCd.out, HEc.out]; rfl
    · rw [HCd.out, HEc.out]; exact liesD_nil _ _
    · rw [HCd.out, HEc.out]; exact liesD_nil _ _
    · exact (((((HB.out.setCell (by simp; omega) _).setCell (by simp; omega) _).setCell (by simp; omega) _).setCell (by simp; omega) _).setCell (by simp; omega) _).setCell (by simp; omega) _
  | false =>
    have HEc : Hid (cut1 p t d = cd) := (by show _ = _; rw [← HCd.out, cutT_eq, if_neg hr, if_neg (by rw [hno]; simp)])
    have HC : Hid (∀ X, Below W.heap.size W X → Calls Tryd.prog 37 #[.agg #[.int .i64 t.id, .string t.nm, .int .i64 t.rep, .int .i64 t.kind, .slice ta t.sub.length tc], .agg #[.int .i64 p.id, .string p.nm, .int .i64 p.rep, .int .i64 p.kind, .slice pa p.sub.length pc], .agg #[.bool d.no, .int .i64 d.v.k, .int .i64 d.v.n, .string d.v.s, .slice al d.l.length cl, .slice af d.f.length cf]] X fun e w' => (∃ al' cl' af' cf', e = .returned (.agg #[.bool (cut1 p t d).no, .int .i64 (cut1 p t d).v.k, .int .i64 (cut1 p t d).v.n, .string (cut1 p t d).v.s, .slice al' (cut1 p t d).l.length cl', .slice af' (cut1 p t d).f.length cf']) ∧ LiesD w' (fun b => X.heap.size ≤ b) al' (cut1 p t d).l ∧ LiesD w' (fun b => X.heap.size ≤ b) af' (cut1 p t d).f) ∧ Below X.heap.size X w') := fun X hX => HO.out d (by rw [ons, if_neg hr, if_neg (by rw [hno]; simp)]; simp) P Q R ta tc pa pc al cl af cf X (HLT.out.keep hX) (HLP.out.keep hX) (HDL.out.keep hX) (HDF.out.keep hX)
    rw [HEc.out, hno] at HC
    rw [hno] at z0
    clear hr
    unfold nodeV datumV
    rw [hno] at HW0 ⊢
    clear hno
    go_enter Tryd.func18, Tryd.ntmps18
    go_upto_region 1 with fail
    rw [HW0.out]
    go_wp2_with fail
    refine Calls.mono (HC.out w0 HB.out) ?_
    rintro e w1 ⟨⟨a1, c1, a2, c2, rfl, hl1, hl2⟩, hb1⟩
    have HL1 : Hid (LiesD w1 (fun b => w0.heap.size ≤ b) a1 cd.l) := hl1
    have HL2 : Hid (LiesD w1 (fun b => w0.heap.size ≤ b) a2 cd.f) := hl2
    have HR1 : Hid _ := blk_keep hb1 HR.out
    have hB1 : Below W.heap.size W w1 := HB.out.trans (hb1.mono HB.out.size)
    clear hl1 hl2 hb1
    obtain ⟨s0, s1, s2, s3, s4, s5⟩ := row_six HR1.out
    obtain ⟨f0, f1, f2, f3, f4, f5⟩ := row_six_z HR1.out
    go_wp2
    have fr : ∀ b, w0.heap.size ≤ b → b ≠ W.heap.size + 1 + 1 + 1 := fun b h => by omega
    refine bodyPost_ret (v := .agg #[.bool cd.no, .int .i64 cd.v.k, .int .i64 cd.v.n, .string cd.v.s, .slice a1 cd.l.length c1, .slice a2 cd.f.length c2]) (results_cell_row Tryd.results18 _ _ (W.heap.size + 1 + 1 + 1) 30 #[.bool cd.no, .int .i64 cd.v.k, .int .i64 cd.v.n, .string cd.v.s, .slice a1 cd.l.length c1, .slice a2 cd.f.length c2] (0, 0) _ rfl (row_setCell (row_setCell (row_setCell (row_setCell (row_setCell (row_setCell HR1.out _) _) _) _) _) _) Tryd.underlying30 rfl (by kernel_rfl)) rfl ⟨⟨a1, c1, a2, c2, ?_, ?_, ?_⟩, ?_⟩
    · rw [HCd.out]
    · rw [HCd.out]
      exact ((((((HL1.out.off fr).off fr).off fr).off fr).off fr).off fr).stay (fun b h _ => by omega) (fun _ _ _ => rfl)
    · rw [HCd.out]
      exact ((((((HL2.out.off fr).off fr).off fr).off fr).off fr).off fr).stay (fun b h _ => by omega) (fun _ _ _ => rfl)
    · exact (((((hB1.setCell (by simp; omega) _).setCell (by simp; omega) _).setCell (by simp; omega) _).setCell (by simp; omega) _).setCell (by simp; omega) _).setCell (by simp; omega) _
end Go.Proofs.YtnceknbodpimiaaDoor

namespace Go.Proofs.YtnceknbodpimiaaDoor
open Go.RowKit
/-- What is left of a way, behind its first step. -/
theorem liesO_tail {w : World} {v : Value} {pa : Option Addr} {x : Int} {xs : List Int} {pc : Nat} (h : LiesO w v pa (i64s (x :: xs))) (hc : xs.length + 1 ≤ pc) {y : Option Addr} (hy : (if pc = 1 then pa else Option.map (fun x => x.add 1) pa) = y) : LiesO w v y (i64s xs) := by
  have h1 := lies_cut h.1 1 (xs.length + 1) pc (by rw [i64s_len]; simp) (by rw [i64s_len]; simpa using hc) (x := y) (by rw [← hy])
  refine ⟨?_, fun p hp => ?_⟩
  · have e : cutL (i64s (x :: xs)) 1 (xs.length + 1) = i64s xs := by
      have hl : (i64s (x :: xs)).length = xs.length + 1 := by rw [i64s_len]; rfl
      unfold cutL
      rw [List.take_of_length_le (by omega)]
      rfl
    rw [e] at h1
    exact h1
  · rw [← hy] at hp
    split at hp
    · exact h.2 p hp
    · cases hpa : pa with
      | none => rw [hpa] at hp; simp at hp
      | some p0 =>
        rw [hpa] at hp
        simp only [Option.map_some, Option.some.injEq] at hp
        have := h.2 p0 hpa
        rw [← hp]
        exact this
set_option maxRecDepth 100000 in
set_option maxHeartbeats 3200000 in
theorem values_step (t x : Tr) (q : List Tr) (d : Dt) (hol : (ons t d).length ≤ 1048576) (hts : t.sub.length ≤ 1048576) (hc : Chn t (x :: q)) (hfl : ∀ o ∈ ons t d, ixO t.sub x.id < o.f.length ∧ o.f.length ≤ 1048576) (ih : ∀ o ∈ ons t d, ValP x q (o.f.getD (ixO t.sub x.id) default)) : ValP t (x :: q) d := fun N a c al cl af cf pa pc v vs W hN hv hl hd1 hd2 hp hpc hm => by
  obtain ⟨w0, HW0, HX, HY, HB⟩ := two_boxesS W #[.int .i64 t.id, .string t.nm, .int .i64 t.rep, .int .i64 t.kind, .slice a t.sub.length c] #[.bool d.no, .int .i64 d.v.k, .int .i64 d.v.n, .string d.v.s, .slice al d.l.length cl, .slice af d.f.length cf] 24 30
  have hvl : ∀ k, v.ownBlock = some k → k < W.heap.size := fun k hk => (hv.lt k hk).2
  have HVB : Hid (some W.heap.size ≠ v.ownBlock) := fun e => by have := hvl _ e.symm; omega
  have hsz := HB.out.size
  have HC : Hid _ := ones_any t d a c al cl af cf v w0 (fun k hk => by have := hvl k hk; omega) (hd1.keep HB.out) (hd2.keep HB.out)
  have HV0 : Hid (VsR w0 N v vs) := ow_kept hv HB.out
  have HL : Hid (LiesN W (fun b => some b ≠ v.ownBlock) a t.sub) := hl
  have HP : Hid (LiesO W v pa (i64s ((x :: q).map Tr.id))) := hp
  obtain ⟨va, vc, rfl⟩ := own_sl hv
  obtain ⟨⟨p0, p1, p2, p3, p4⟩, _⟩ := row_five HX.out
  obtain ⟨z0, z1, z2, z3, z4, z5⟩ := row_six HY.out
  have HF : Hid _ := hfl
  have HI : Hid _ := ih
  obtain ⟨hk0, ⟨ix, hix, hxe, hxf⟩, hcq⟩ := hc
  clear hk0 hcq
  have HIX : Hid (ixO t.sub x.id = ix) := ixO_at hix hxe hxf
  have HXE : Hid (t.sub[ix] = x) := hxe
  have HXF : Hid _ := hxf
  obtain ⟨ol, HOL⟩ := hid_name (ons t d)
  rw [HIX.out, HOL.out] at HF HI
  have HM : Hid (vs.length + (ol.flatMap (vo t (x :: q))).length ≤ 20000) := (by rw [← HOL.out]; exact hm)
  rw [HOL.out] at hol HC ⊢
  clear hv hl hd1 hd2 hp hvl hm hfl ih hxe hxf
  have hpl : ((x :: q).length) = q.length + 1 := rfl
  rw [hpl] at hpc ⊢
  have q0 : (((q.length + 1 : Nat) : Int) == 0) = false := by rw [beq_eq_false_iff_ne]; omega
  obtain ⟨pb, hif⟩ : ∃ y, (if pc = 1 then pa else Option.map (fun x => x.add 1) pa) = y := ⟨_, rfl⟩
  unfold nodeV datumV
  go_enter Tryd.func33, Tryd.ntmps33
  go_wp2_with fail
  rw [HW0.out]
  refine Calls.mono HC.out ?_
  rintro e w1 ⟨⟨oa, oc, rfl, hol1⟩, hb1⟩
  have HB1 : Hid (Below W.heap.size W w1) := HB.out.trans (hb1.mono hsz)
  have HL1 : Hid (LiesD w1 (fun b => some b ≠ (Value.slice va vs.length vc).ownBlock) oa ol) := hol1
  have HV1 : Hid (VsR w1 N (.slice va vs.length vc) vs) := ow_kept HV0.out hb1
  have HX1 : Hid _ := blk_keep hb1 HX.out
  have hsz1 := HB1.out.size
  clear hb1 hol1 p0 p1 p2 p3 p4 z0 z1 z2 z3 z4 z5 HC
  go_wp2_with fail
  go_loopw [0, 16] (fun lv x' wr => ∃ i : Nat, i ≤ ol.length ∧ x' = .int .i64 i ∧ Hid (VsR wr N lv (vs ++ (ol.take i).flatMap (vo t (x :: q)))) ∧ Hid (VsK w1 (.slice va vs.length vc) wr lv)) (fun _ x _ => ol.length - (intOf x).toNat)
  case atStart => exact ⟨0, Nat.zero_le _, rfl, (by show VsR _ _ _ _; simpa using HV1.out), VsK.refl _ _⟩
  case round =>
    obtain ⟨i, hi, rfl, HR, HK⟩ := hrel
    obtain ⟨xa, xc, rfl⟩ := own_sl HR.out
    have hks := HK.out.size
    by_cases hlt : i < ol.length
    · obtain ⟨xs, HXS⟩ := hid_name (vs ++ (ol.take i).flatMap (vo t (x :: q)))
      rw [HXS.out] at HR HK ⊢
      obtain ⟨b, o, a1, c1, a2, c2, rfl, ⟨d0, e1, d2, d3, d4, d5⟩, hl1, hl2⟩ := (HK.out.data HL1.out).at_ i hlt
      have hmem := List.getElem_mem hlt
      obtain ⟨hfx, hfb⟩ := HF.out ol[i] hmem
      have hih := HI.out ol[i] hmem
      rw [getD_at hfx] at hih
      have HVO : Hid (vo t (x :: q) ol[i] = (ons x ol[i].f[ix]).flatMap (vo x q)) := (by show _ = _; rw [vo, HIX.out, getD_at hfx])
      have HXL : Hid (xs.length + ((ons x ol[i].f[ix]).flatMap (vo x q)).length ≤ 20000) := (by
        show _ ≤ _
        have h1 := flat_part (vo t (x :: q)) ol (i + 1)
        rw [flat_take (vo t (x :: q)) ol i hlt, HVO.out, List.length_append] at h1
        have h2 := HM.out
        rw [← HXS.out, List.length_append]
        omega)
      have HNX : Hid (xs ++ (ons x ol[i].f[ix]).flatMap (vo x q) = vs ++ (ol.take (i + 1)).flatMap (vo t (x :: q))) := (by show _ = _; rw [← HXS.out, flat_take (vo t (x :: q)) ol i hlt, HVO.out, List.append_assoc])
      have hb2 : Below wr.heap.size wr (wr.alloc (.cells #[.bool ol[i].no, .int .i64 ol[i].v.k, .int .i64 ol[i].v.n, .string ol[i].v.s, .slice a1 ol[i].l.length c1, .slice a2 ol[i].f.length c2] 30)) := (Below.refl _ _).alloc (Nat.le_refl _) _
      have HR2 : Hid (VsR (wr.alloc (.cells #[.bool ol[i].no, .int .i64 ol[i].v.k, .int .i64 ol[i].v.n, .string ol[i].v.s, .slice a1 ol[i].l.length c1, .slice a2 ol[i].f.length c2] 30)) N (.slice xa xs.length xc) xs) := ow_kept HR.out hb2
      have HK2 : Hid (VsK w1 (.slice va vs.length vc) (wr.alloc (.cells #[.bool ol[i].no, .int .i64 ol[i].v.k, .int .i64 ol[i].v.n, .string ol[i].v.s, .slice a1 ol[i].l.length c1, .slice a2 ol[i].f.length c2] 30)) (.slice xa xs.length xc)) := HK.out.trans (VsK.below _ hb2)
      have HO2 : Hid ((wr.alloc (.cells #[.bool ol[i].no, .int .i64 ol[i].v.k, .int .i64 ol[i].v.n, .string ol[i].v.s, .slice a1 ol[i].l.length c1, .slice a2 ol[i].f.length c2] 30)).heap[wr.heap.size]? = some (.cells #[.bool ol[i].no, .int .i64 ol[i].v.k, .int .i64 ol[i].v.n, .string ol[i].v.s, .slice a1 ol[i].l.length c1, .slice a2 ol[i].f.length c2] 30 (0, 0))) := heap_alloc_new _ _
      have HF2 : Hid (LiesD (wr.alloc (.cells #[.bool ol[i].no, .int .i64 ol[i].v.k, .int .i64 ol[i].v.n, .string ol[i].v.s, .slice a1 ol[i].l.length c1, .slice a2 ol[i].f.length c2] 30)) (fun b => some b ≠ (Value.slice xa xs.length xc).ownBlock) a2 ol[i].f) := hl2.keep hb2
      obtain ⟨w2, HW2⟩ := hid_name (wr.alloc (.cells #[.bool ol[i].no, .int .i64 ol[i].v.k, .int .i64 ol[i].v.n, .string ol[i].v.s, .slice a1 ol[i].l.length c1, .slice a2 ol[i].f.length c2] 30))
      rw [HW2.out] at HR2 HK2 HO2 HF2
      clear hb2 hl1 hl2
      go_upto_region 4 with fail
      rw [HW2.out]
      clear HW2 d0 e1 d2 d3 d4 d5
      have HX2 : Hid _ := HK2.out.blk HX1.out HVB.out
      have HN2 : Hid (LiesN w2 (fun b => some b ≠ (Value.slice xa xs.length xc).ownBlock) a t.sub) := HK2.out.nodes (HL.out.keep HB1.out)
      have HP2 : Hid (LiesO w2 (.slice xa xs.length xc) pa (i64s ((x :: q).map Tr.id))) := HK2.out.ints ((VsK.below _ HB1.out).ints HP.out)
      obtain ⟨⟨p0, p1, p2, p3, p4⟩, _⟩ := row_five HX2.out
      obtain ⟨pg, po, rfl, pp0⟩ := HP2.out.1 0 (by simp [i64s])
      have pp : w2.cell? ⟨pg, po, none⟩ = some (.int .i64 x.id) := by simpa [i64s] using pp0
      clear pp0
      have HCp : Hid (∀ X, Below w2.heap.size w2 X → Calls Tryd.prog 52 #[.agg #[.int .i64 t.id, .string t.nm, .int .i64 t.rep, .int .i64 t.kind, .slice a t.sub.length c], .int .i64 x.id] X fun e w' => e = .returned (.int .i64 (ix : Nat)) ∧ Below X.heap.size X w') := fun X hX => placeOf_at t hts x.id ix hix (by rw [HXE.out]) HXF.out _ a c X (HN2.out.keep hX)
      have qp : (0 : Nat) < q.length + 1 := by omega
      have hone : (1 : Int) ≤ (q.length : Int) + 1 := by omega
      have hone2 : (1 : Nat) ≤ pc := by omega
      obtain ⟨po2, hif2, hpb⟩ : ∃ po2 : Nat, (if pc = 1 then some (⟨pg, po, none⟩ : Addr) else some ⟨pg, po + 1, none⟩) = some ⟨pg, po2, none⟩ ∧ pb = some ⟨pg, po2, none⟩ := (by
        by_cases h1 : pc = 1
        · exact ⟨po, by rw [if_pos h1], by rw [← hif, if_pos h1]⟩
        · exact ⟨po + 1, by rw [if_neg h1], by rw [← hif, if_neg h1]; simp [Addr.add]⟩)
      have HIF : Hid _ := hif
      clear hif
      subst hpb
      go_wp2
      have HN6 : Hid (∀ X, Below w2.heap.size w2 X → (X.cell? ⟨W.heap.size, 0, none⟩ = some (.int .i64 t.id) ∧ X.cell? ⟨W.heap.size, 1, none⟩ = some (.string t.nm) ∧ X.cell? ⟨W.heap.size, 2, none⟩ = some (.int .i64 t.rep) ∧ X.cell? ⟨W.heap.size, 3, none⟩ = some (.int .i64 t.kind) ∧ X.cell? ⟨W.heap.size, 4, none⟩ = some (.slice a t.sub.length c) ∧ X.cell? ⟨pg, po, none⟩ = some (.int .i64 x.id)) ∧ Below w2.heap.size w2 X) := fun X hX => (by
        have k : ∀ (ad : Addr) (u : Value), w2.cell? ad = some u → X.cell? ad = some u := fun ad u h => (hX.cell (World.block_lt_of_cell? w2 _ h)).trans h
        exact ⟨⟨k _ _ p0, k _ _ p1, k _ _ p2, k _ _ p3, k _ _ p4, k _ _ pp⟩, hX⟩)
      have b6 : Below w2.heap.size w2 w2 := Below.refl _ _
      go_region_held3 (fun X => (X.cell? ⟨W.heap.size, 0, none⟩ = some (.int .i64 t.id) ∧ X.cell? ⟨W.heap.size, 1, none⟩ = some (.string t.nm) ∧ X.cell? ⟨W.heap.size, 2, none⟩ = some (.int .i64 t.rep) ∧ X.cell? ⟨W.heap.size, 3, none⟩ = some (.int .i64 t.kind) ∧ X.cell? ⟨W.heap.size, 4, none⟩ = some (.slice a t.sub.length c) ∧ X.cell? ⟨pg, po, none⟩ = some (.int .i64 x.id)) ∧ Below w2.heap.size w2 X) (first | (with_reducible refine HN6.out _ ?_; repeat' (first | with_reducible assumption | with_reducible exact b6.drew | with_reducible exact b6))) (first | (go_at_call 52; refine Calls.mono (HCp.out _ (by first | exact (Below.refl _ _).drew | exact Below.refl _ _)) ?_; rintro e w3 ⟨rfl, hb3'⟩; have hb3 : Below w2.heap.size w2 w3 := (Below.refl _ _).drew.trans hb3'; clear hb3'))
      have HK3 : Hid (VsK w1 (.slice va vs.length vc) w3 (.slice xa xs.length xc)) := HK2.out.trans (VsK.below _ hb3)
      have HR3 : Hid (VsR w3 N (.slice xa xs.length xc) xs) := ow_kept HR2.out hb3
      have HO3 : Hid _ := blk_keep hb3 HO2.out
      have HX3 : Hid _ := blk_keep hb3 HX2.out
      obtain ⟨⟨r0, r1, r2, r3, r4⟩, _⟩ := row_five HX3.out
      obtain ⟨y0, y1, y2, y3, y4, y5⟩ := row_six HO3.out
      obtain ⟨nb, no, na, nc, hna, n0, n1, n2, n3, n4, hn5⟩ := (HN2.out.keep hb3).at_ ix hix
      subst hna
      rw [HXE.out] at n0 n1 n2 n3 n4 hn5
      obtain ⟨fb, fo, fa1, fc1, fa2, fc2, hfa, ⟨g0, g1, g2, g3, g4, g5⟩, hf1, hf2⟩ := (HF2.out.keep hb3).at_ ix hfx
      subst hfa
      have hsz3 := HK3.out.size
      have HC3 : Hid _ := hih N na nc fa1 fc1 fa2 fc2 (some ⟨pg, po2, none⟩) (pc - 1) (.slice xa xs.length xc) xs w3.drew (by simp; omega) (ow_kept HR3.out (Below.refl _ _).drew) (hn5.keep (Below.refl _ _).drew) (hf1.keep (Below.refl _ _).drew) (hf2.keep (Below.refl _ _).drew) (liesO_tail ((VsK.below _ hb3.drew).ints HP2.out) (by rw [List.length_map]; exact hpc) HIF.out) (by omega) HXL.out
      clear p0 p1 p2 p3 p4 pp hn5 hf1 hf2 hih
      go_wp2
      go_region_with (go_at_call 33; refine Calls.mono HC3.out ?_; rintro e w4 ⟨v4, rfl, hr4, hk4⟩)
      all_goals
        have HK4 : Hid (VsK w1 (.slice va vs.length vc) w4 v4) := (HK3.out.trans (VsK.below _ (Below.refl _ _).drew)).trans hk4
        have HR4 : Hid (VsR w4 N v4 (vs ++ (ol.take (i + 1)).flatMap (vo t (x :: q)))) := (by show VsR _ _ _ _; rw [← HNX.out]; exact hr4)
        clear hr4 hk4 r0 r1 r2 r3 r4 y0 y1 y2 y3 y4 y5 n0 n1 n2 n3 n4 g0 g1 g2 g3 g4 g5
        go_wp2
        go_roundw
        case rel => exact ⟨i + 1, by omega, by go_num, HR4, HK4⟩
        case measure => simp [intOf]; omega
    · obtain rfl : i = ol.length := by omega
      rw [List.take_length] at HR HK ⊢
      go_wp2
      go_ret
      exact ⟨_, rfl, HR.out, (VsK.below _ HB1.out).trans HK.out⟩
end Go.Proofs.YtnceknbodpimiaaDoor
