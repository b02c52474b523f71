/-
  schema.Text: exact; schema.Read of the text of a right schema.
-/
import Derived.Test.YtajaoglnembkpaaGreatDoorPSRight
namespace Go.Proofs.YtajaoglnembkpaaGreatDoor
open Go.RowKit
theorem results_cS {P : Program} {fn : Func} {p u : Tmp} {ty : TypeId} (h : fn.results = #[.cell p ty, .tmp u]) (tmps : Array Value) (w : World) (g : Nat) (t : TypeId) (cs : Array Value) (fr : Nat × Nat) (d : TypeDesc) (y : Value)
    (hp : tmps.getD p undef = .pointer (some ⟨g, 0, none⟩)) (hy : tmps.getD u undef = y) (hg : w.heap[g]? = some (.cells cs t fr))
    (hu : P.underlying ty = some d) (hd : (match d with | .struct _ | .array _ _ => true | _ => false) = true) (hi : (P.info? ty).map (·.size) = some cs.size) :
    (results fn tmps).run P w = .ok (.tuple #[.agg cs, y]) w := by
  have hp' : tmps[p]?.getD undef = .pointer (some ⟨g, 0, none⟩) := by simpa using hp
  have hy' : tmps[u]?.getD undef = y := by simpa using hy
  simp [results, h, hp', hy', asAddr, Result.andThen, run_loadVar_row w g t ty cs fr d hg hu hd hi]
theorem three_boxesS (W : World) (c1 c2 c3 : Array Value) (t1 t2 t3 : TypeId) : ∃ w0, Hid (((W.alloc (.cells c1 t1)).alloc (.cells c2 t2)).alloc (.cells c3 t3) = w0) ∧ Hid (w0.heap[W.heap.size]? = some (.cells c1 t1 (0, 0))) ∧ Hid (w0.heap[W.heap.size + 1]? = some (.cells c2 t2 (0, 0))) ∧ Hid (w0.heap[W.heap.size + 1 + 1]? = some (.cells c3 t3 (0, 0))) ∧ Hid (Below W.heap.size W w0) ∧ Hid (w0.heap.size = W.heap.size + 3) := by
  obtain ⟨w1, H1, H2, H3, H4⟩ := two_boxesS W c1 c2 t1 t2
  have hs : w1.heap.size = W.heap.size + 1 + 1 := by rw [← H1.out]; simp
  refine ⟨w1.alloc (.cells c3 t3), by show _ = _; rw [H1.out], blk_alloc H2.out, blk_alloc H3.out, ?_, H4.out.alloc H4.out.size _, by show _ = _; simp [hs]⟩
  have h := heap_alloc_new w1 (.cells c3 t3)
  rw [hs] at h
  exact h
/-- A right schema: all its parts. -/
theorem right_parts {t : Tr} (h : vldN t = 0) : inB t = true ∧ isRootB t = true ∧ shpT t = true ∧ nmsT t = true ∧ idsT t = true := by
  unfold vldN at h
  split at h
  · omega
  · rename_i h1
    split at h
    · omega
    · rename_i h2
      split at h
      · omega
      · rename_i h3
        simp only [not_or, Bool.not_eq_false] at h1 h2 h3
        exact ⟨h1, h2.1, h2.2, h3.1, h3.2⟩
theorem vldV_right {t : Tr} (eb es en : Value) (h : vldN t = 0) : vldV eb es en t = .nilIface := by
  obtain ⟨h1, h2, h3, h4, h5⟩ := right_parts h
  simp [vldV, h1, h2, h3, h4, h5]
theorem vldV_wrong {t : Tr} (eb es en : TypeId × Value) (h : vldN t ≠ 0) : ∃ ty v, vldV (.iface eb.1 eb.2) (.iface es.1 es.2) (.iface en.1 en.2) t = .iface ty v := by
  unfold vldN at h
  unfold vldV
  split
  · exact ⟨_, _, rfl⟩
  · rename_i h1
    rw [if_neg h1] at h
    split
    · exact ⟨_, _, rfl⟩
    · rename_i h2
      rw [if_neg h2] at h
      split
      · exact ⟨_, _, rfl⟩
      · rename_i h3
        rw [if_neg h3] at h
        exact absurd rfl h
/-- The three errors that Valid tells, in a world. -/
structure Er3 (W : World) (eb es en : TypeId × Value) : Prop where
  b : W.cell? ⟨0, 0, none⟩ = some (.iface eb.1 eb.2)
  s : W.cell? ⟨1, 0, none⟩ = some (.iface es.1 es.2)
  n : W.cell? ⟨2, 0, none⟩ = some (.iface en.1 en.2)
theorem Er3.keep {W w' : World} {eb es en : TypeId × Value} (h : Er3 W eb es en) (hb : Below W.heap.size W w') : Er3 w' eb es en :=
  ⟨(hb.cell (World.block_lt_of_cell? W _ h.b)).trans h.b, (hb.cell (World.block_lt_of_cell? W _ h.s)).trans h.s, (hb.cell (World.block_lt_of_cell? W _ h.n)).trans h.n⟩
set_option maxRecDepth 100000 in
set_option maxHeartbeats 3200000 in
/-- Text of a right schema. -/
theorem text_right (t : Tr) (n : Nat) (hd : t.Dp n) (hn : n ≤ 1100000) (hs : t.Sm) (a : Option Addr) (c : Nat) (P : Nat → Prop) (W : World) (hl : LiesN W P a t.sub) (hcap : t.sub.length ≤ c) (eb es en : TypeId × Value) (he : Er3 W eb es en) (htab : Lib.TabIs Tryz.prog W "internal/strconv.uint64pow10" .u64 Lib.pow10Tab) (hv : vldN t = 0) :
    Calls Tryz.prog 13 #[nodeV t a c] W fun e w' => e = .returned (.tuple #[.string ⟨(ntL [] t.sub).toArray⟩, .nilIface]) ∧ Below W.heap.size W w' := by
  obtain ⟨w0, HW0, HX, HB⟩ := one_box W #[.int .i64 t.id, .string t.nm, .int .i64 t.rep, .int .i64 t.kind, .slice a t.sub.length c] 24
  have HL : Hid (LiesN w0 P a t.sub) := hl.keep HB.out
  have HV := valid_any t n hd hn hs a c P w0 HL.out hcap eb es en (he.keep HB.out).b (he.keep HB.out).s (he.keep HB.out).n
  rw [vldV_right _ _ _ hv] at HV
  have HV : Hid _ := HV
  obtain ⟨h1, h2, h3, h4, h5⟩ := right_parts hv
  have HTx : Hid (∀ w : World, LiesN w P a t.sub → Lib.TabIs Tryz.prog w "internal/strconv.uint64pow10" .u64 Lib.pow10Tab → Calls Tryz.prog 24 #[.slice a t.sub.length c, .string ⟨#[]⟩] w fun e w' => e = .returned (.string ⟨(ntL [] t.sub).toArray⟩) ∧ Below w.heap.size w w') := fun w hl ht => nodesText_any t.sub [] P a c w hl (fun x hx => ⟨2, rt_subs t hs h1 h3 h4 h5 x hx⟩) (by have := tx_len t hs h1 h3 h4 h5; omega) hs.len ht
  have HTab : Hid _ := htab
  obtain ⟨⟨p0, p1, p2, p3, p4⟩, _⟩ := row_five HX.out
  clear hl hd hs he htab hv h1 h2 h3 h4 h5
  unfold nodeV
  go_enter Tryz.func13, Tryz.ntmps13
  go_wp2_with fail
  rw [HW0.out]
  refine Calls.mono HV.out ?_
  rintro e w1 ⟨rfl, hb1⟩
  have HB1 : Hid (Below W.heap.size W w1) := HB.out.trans (hb1.mono HB.out.size)
  have HL1 : Hid (LiesN w1 P a t.sub) := HL.out.keep hb1
  have HX1 : Hid _ := blk_keep hb1 HX.out
  clear hb1 p0 p1 p2 p3 p4
  obtain ⟨⟨p0, p1, p2, p3, p4⟩, _⟩ := row_five HX1.out
  go_wp2_with fail
  refine Calls.mono (HTx.out w1 HL1.out (tab_keep HTab.out HB1.out)) ?_
  rintro e w2 ⟨rfl, hb2⟩
  have HB2 : Hid (Below W.heap.size W w2) := HB1.out.trans (hb2.mono HB1.out.size)
  clear hb2
  obtain ⟨x9, HX9⟩ := hid_name (⟨(ntL [] t.sub).toArray⟩ : ByteArray)
  rw [HX9.out]
  go_wp2
  go_ret2
  exact ⟨by rw [HX9.out]; rfl, HB2.out⟩
set_option maxRecDepth 100000 in
set_option maxHeartbeats 3200000 in
/-- .. of another one. -/
theorem text_wrong (t : Tr) (n : Nat) (hd : t.Dp n) (hn : n ≤ 1100000) (hs : t.Sm) (a : Option Addr) (c : Nat) (P : Nat → Prop) (W : World) (hl : LiesN W P a t.sub) (hcap : t.sub.length ≤ c) (eb es en : TypeId × Value) (he : Er3 W eb es en) (hv : vldN t ≠ 0) :
    Calls Tryz.prog 13 #[nodeV t a c] W fun e w' => (∃ ty v, e = .returned (.tuple #[.string ⟨#[]⟩, .iface ty v])) ∧ Below W.heap.size W w' := by
  obtain ⟨w0, HW0, HX, HB⟩ := one_box W #[.int .i64 t.id, .string t.nm, .int .i64 t.rep, .int .i64 t.kind, .slice a t.sub.length c] 24
  have HV := valid_any t n hd hn hs a c P w0 (hl.keep HB.out) hcap eb es en (he.keep HB.out).b (he.keep HB.out).s (he.keep HB.out).n
  obtain ⟨ty, v, hx⟩ := vldV_wrong eb es en hv
  rw [hx] at HV
  have HV : Hid _ := HV
  obtain ⟨⟨p0, p1, p2, p3, p4⟩, _⟩ := row_five HX.out
  clear hl hd hs he hv hx
  unfold nodeV
  go_enter Tryz.func13, Tryz.ntmps13
  go_wp2_with fail
  rw [HW0.out]
  refine Calls.mono HV.out ?_
  rintro e w1 ⟨rfl, hb1⟩
  have HB1 : Hid (Below W.heap.size W w1) := HB.out.trans (hb1.mono HB.out.size)
  clear hb1 p0 p1 p2 p3 p4
  go_wp2
  go_ret2
  exact ⟨⟨ty, v, rfl⟩, HB1.out⟩
set_option maxRecDepth 100000 in
set_option maxHeartbeats 6400000 in
/-- Read of a right schema's text. -/
theorem read_right (s : ByteArray) (hm : s.size ≤ 8000) (ts : List Tr) (q : Nat) (hrl : RdL s 2 0 q ts) (hw : WdAt s q s.size s.size) (nmr : ByteArray) (hnr : nmr = ⟨#[114, 111, 111, 116]⟩) (n : Nat) (hd : (Tr.node 0 nmr 1 0 ts).Dp n) (hn : n ≤ 1100000) (hs : (Tr.node 0 nmr 1 0 ts).Sm) (W : World) (eb es en : TypeId × Value) (he : Er3 W eb es en) (hv : vldN (.node 0 nmr 1 0 ts) = 0) :
    Calls Tryz.prog 12 #[.string s] W fun e w' => (∃ a' c', e = .returned (.tuple #[nodeV (.node 0 nmr 1 0 ts) a' c', .nilIface]) ∧ LiesN w' (fun b => W.heap.size ≤ b) a' ts ∧ ts.length ≤ c') ∧ Below W.heap.size W w' := by
  subst hnr
  obtain ⟨w0, HW0, HX, HY, HZ, HB, HSz⟩ := three_boxesS W #[.int .i64 0, .string ⟨#[]⟩, .int .i64 0, .int .i64 0, .slice none 0 0] #[.string s, .int .i64 0, .nilIface] #[.int .i64 0, .string ⟨#[114, 111, 111, 116]⟩, .int .i64 1, .int .i64 0, .slice none 0 0] 24 59 24
  have HC : Hid _ := nodes_ok ts 2 (W.heap.size + 1) s 0 q ⟨#[]⟩ s.size s.size w0 (by omega) HY.out (by omega) hrl hw (by
    have h : (s.extract s.size s.size).size = 0 := by rw [ByteArray.size_extract]; omega
    cases h2 : s.extract s.size s.size with
    | mk d =>
      rw [h2] at h
      have h3 : d.size = 0 := h
      congr 1
      exact Array.eq_empty_of_size_eq_zero h3) (by decide) hs.len
  have HV : Hid (∀ (w : World) (a' : Option Addr) (c' : Nat), Below W.heap.size W w → LiesN w (fun b => W.heap.size ≤ b) a' ts → ts.length ≤ c' → Calls Tryz.prog 16 #[nodeV (.node 0 ⟨#[114, 111, 111, 116]⟩ 1 0 ts) a' c'] w fun e w' => e = .returned .nilIface ∧ Below w.heap.size w w') := fun w a' c' hb hl hc => (by
    have h := valid_any (.node 0 ⟨#[114, 111, 111, 116]⟩ 1 0 ts) n hd hn hs a' c' _ w hl hc eb es en ((hb.cell (World.block_lt_of_cell? W _ he.b)).trans he.b) ((hb.cell (World.block_lt_of_cell? W _ he.s)).trans he.s) ((hb.cell (World.block_lt_of_cell? W _ he.n)).trans he.n)
    rw [vldV_right _ _ _ hv] at h
    exact h)
  have q0 : decide ((8000 : Int) < (s.size : Int)) = false := by simp; omega
  clear hrl hw hd hs he hv
  go_enter Tryz.func12, Tryz.ntmps12
  go_wp2_with fail
  rw [HW0.out]
  refine Calls.mono HC.out ?_
  rintro e w1 ⟨a1, c1, rfl, hl1, hc1, hr1, hf1⟩
  have HX1 : Hid (w1.heap[W.heap.size]? = some (.cells #[.int .i64 0, .string ⟨#[]⟩, .int .i64 0, .int .i64 0, .slice none 0 0] 24 (0, 0))) := hf1.box HX.out (by omega)
  have HZ1 : Hid (w1.heap[W.heap.size + 1 + 1]? = some (.cells #[.int .i64 0, .string ⟨#[114, 111, 111, 116]⟩, .int .i64 1, .int .i64 0, .slice none 0 0] 24 (0, 0))) := hf1.box HZ.out (by omega)
  have HR1 : Hid (w1.heap[W.heap.size + 1]? = some (.cells #[.string s, .int .i64 (q : Nat), .nilIface] 59 (0, 0))) := hr1
  have HF1 : Hid (Below W.heap.size W w1) := HB.out.trans (hf1.below HB.out.size (by omega))
  have HL1 : Hid (LiesN w1 (fun b => W.heap.size + 3 ≤ b) a1 ts) := hl1.stay (fun b hb _ => (by have := HSz.out; omega)) (fun _ _ _ => rfl)
  clear hl1 hr1 hf1 HC
  obtain ⟨⟨p0, p1, p2, p3, p4⟩, g0, g1, g2, g3, g4⟩ := row_five HZ1.out
  obtain ⟨r0, r1, r2⟩ := row_three HR1.out
  have HZ2 : Hid ((w1.setCell ⟨W.heap.size + 1 + 1, 4, none⟩ (.slice a1 ts.length c1)).heap[W.heap.size + 1 + 1]? = some (.cells #[.int .i64 0, .string ⟨#[114, 111, 111, 116]⟩, .int .i64 1, .int .i64 0, .slice a1 ts.length c1] 24 (0, 0))) := row_setC HZ1.out
  have HX2 : Hid ((w1.setCell ⟨W.heap.size + 1 + 1, 4, none⟩ (.slice a1 ts.length c1)).heap[W.heap.size]? = some (.cells #[.int .i64 0, .string ⟨#[]⟩, .int .i64 0, .int .i64 0, .slice none 0 0] 24 (0, 0))) := (Below.heap_setCell _ _ _ _ (by show W.heap.size ≠ W.heap.size + 1 + 1; omega)).trans HX1.out
  have HL2 : Hid (LiesN (w1.setCell ⟨W.heap.size + 1 + 1, 4, none⟩ (.slice a1 ts.length c1)) (fun b => W.heap.size + 3 ≤ b) a1 ts) := HL1.out.stay (fun _ h _ => h) (fun b h _ => Below.heap_setCell _ _ _ _ (by show b ≠ W.heap.size + 1 + 1; omega))
  have HF2 : Hid (Below W.heap.size W (w1.setCell ⟨W.heap.size + 1 + 1, 4, none⟩ (.slice a1 ts.length c1))) := HF1.out.setCell (p := ⟨W.heap.size + 1 + 1, 4, none⟩) (by show W.heap.size ≤ W.heap.size + 1 + 1; omega) _
  go_wp2_with fail
  refine Calls.mono (HV.out _ a1 c1 HF2.out (HL2.out.stay (fun b h _ => by omega) (fun _ _ _ => rfl)) hc1) ?_
  rintro e w2 ⟨rfl, hb2⟩
  have HZ3 : Hid _ := blk_keep hb2 HZ2.out
  have HX3 : Hid _ := blk_keep hb2 HX2.out
  have HL3 : Hid (LiesN w2 (fun b => W.heap.size + 3 ≤ b) a1 ts) := HL2.out.keep hb2
  have HF3 : Hid (Below W.heap.size W w2) := HF2.out.trans (hb2.mono HF2.out.size)
  clear hb2 HZ2 HX2 HL2 HF2 HX1 HZ1 HL1 HF1 HR1 p0 p1 p2 p3 p4 g0 g1 g2 g3 g4 r0 r1 r2
  obtain ⟨⟨p0, p1, p2, p3, p4⟩, _⟩ := row_five HZ3.out
  obtain ⟨⟨z0, z1, z2, z3, z4⟩, f0, f1, f2, f3, f4⟩ := row_five HX3.out
  go_wp2
  refine bodyPost_ret (v := .tuple #[.agg #[.int .i64 0, .string ⟨#[114, 111, 111, 116]⟩, .int .i64 1, .int .i64 0, .slice a1 ts.length c1], .nilIface]) (results_cS Tryz.results12 _ _ W.heap.size 24 #[.int .i64 0, .string ⟨#[114, 111, 111, 116]⟩, .int .i64 1, .int .i64 0, .slice a1 ts.length c1] (0, 0) _ .nilIface rfl rfl (row_setC (row_setC (row_setC (row_setC (row_setC HX3.out))))) Tryz.underlying24 rfl (by kernel_rfl)) rfl ⟨⟨a1, c1, rfl, ?_, hc1⟩, ?_⟩
  · refine HL3.out.stay (fun b h _ => by omega) (fun b h _ => ?_)
    have hb : b ≠ W.heap.size := by omega
    rw [Below.heap_setCell _ _ _ _ hb, Below.heap_setCell _ _ _ _ hb, Below.heap_setCell _ _ _ _ hb, Below.heap_setCell _ _ _ _ hb, Below.heap_setCell _ _ _ _ hb]
  · exact ((((HF3.out.setCell (by simp) _).setCell (by simp) _).setCell (by simp) _).setCell (by simp) _).setCell (by simp) _
end Go.Proofs.YtajaoglnembkpaaGreatDoor
