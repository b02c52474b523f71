/-
  data.Read of the text of a right record.
-/
import Derived.Test.YtmfijliladancaaGreatDoorXDwJ
import Derived.Test.YtmfijliladancaaGreatDoorXChkW
import Derived.Recover
import Derived.Lib.AppendIntMem
namespace Go.Proofs.YtmfijliladancaaGreatDoor
open Go.RowKit
/-- The deferred closure of data.Read, where nothing was thrown. -/
theorem idle_any (p q : Addr) (w : World) :
    CallsD Tryz.prog 17 #[.pointer (some p), .pointer (some q)] .returning w fun e u' w' => e = .returned (.tuple #[]) ∧ u' = .returning ∧ w' = w := by
  refine callsD_of_wpS Tryz.func17 rfl fun c₀ cs hu => ?_
  apply wpS_seq
  apply wpS_region
  simp [wpOpsS, go_sem, recoverD, hu, Tryz.ntmps17, Exit.thenS]
  apply wpS_seq
  apply wpS_region
  simp [wpOpsS, go_sem, Exit.thenS]
  refine wpS_cond (t := false) (by simp [Act.eval, Array.replicate]) ?_
  simp only [Bool.false_eq_true, if_false]
  refine wpS_of_wp (wp_skip ?_)
  cases c₀
  simp_all [bodyPostS, results, Tryz.results17]
theorem sxB {N : Nat} {a x : World} {g : Nat} (h : Below N a x) (hg : N ≤ g) (v0 v1 v2 v3 v4 v5 : Value) : Below N a ((((((x.setCell ⟨g, 0, none⟩ v0).setCell ⟨g, 1, none⟩ v1).setCell ⟨g, 2, none⟩ v2).setCell ⟨g, 3, none⟩ v3).setCell ⟨g, 4, none⟩ v4).setCell ⟨g, 5, none⟩ v5) := (((((h.setCell hg _).setCell hg _).setCell hg _).setCell hg _).setCell hg _).setCell hg _
theorem sxR {x : World} {g e : Nat} {c0 c1 c2 c3 c4 c5 : Value} (h : x.heap[g]? = some (.cells #[c0, c1, c2, c3, c4, c5] e (0, 0))) (v0 v1 v2 v3 v4 v5 : Value) : ((((((x.setCell ⟨g, 0, none⟩ v0).setCell ⟨g, 1, none⟩ v1).setCell ⟨g, 2, none⟩ v2).setCell ⟨g, 3, none⟩ v3).setCell ⟨g, 4, none⟩ v4).setCell ⟨g, 5, none⟩ v5).heap[g]? = some (.cells #[v0, v1, v2, v3, v4, v5] e (0, 0)) := row_setC (row_setC (row_setC (row_setC (row_setC (row_setC h)))))
theorem sxK (x : World) (g b : Nat) (h : b ≠ g) (v0 v1 v2 v3 v4 v5 : Value) : ((((((x.setCell ⟨g, 0, none⟩ v0).setCell ⟨g, 1, none⟩ v1).setCell ⟨g, 2, none⟩ v2).setCell ⟨g, 3, none⟩ v3).setCell ⟨g, 4, none⟩ v4).setCell ⟨g, 5, none⟩ v5).heap[b]? = x.heap[b]? := by
  have st : ∀ (Y : World) (j : Nat) (v : Value), (Y.setCell ⟨g, j, none⟩ v).heap[b]? = Y.heap[b]? := fun Y j v => Below.heap_setCell Y ⟨g, j, none⟩ v b h
  rw [st, st, st, st, st, st]
theorem results_cc {P : Program} {fn : Func} {p q : Tmp} {t1 t2 : TypeId} (h : fn.results = #[.cell p t1, .cell q t2]) (tmps : Array Value) (w : World) (g : Nat) (t : TypeId) (cs : Array Value) (fr : Nat × Nat) (d : TypeDesc) (b : Addr) (y : Value)
    (hp : tmps.getD p undef = .pointer (some ⟨g, 0, none⟩)) (hq : tmps.getD q undef = .pointer (some b)) (hg : w.heap[g]? = some (.cells cs t fr))
    (hu : P.underlying t1 = some d) (hd : (match d with | .struct _ | .array _ _ => true | _ => false) = true) (hi : (P.info? t1).map (·.size) = some cs.size) (hy : (loadVar t2 b).run P w = .ok y w) :
    (results fn tmps).run P w = .ok (.tuple #[.agg cs, y]) w := by
  have hp' : tmps[p]?.getD undef = .pointer (some ⟨g, 0, none⟩) := by simpa using hp
  have hq' : tmps[q]?.getD undef = .pointer (some b) := by simpa using hq
  simp [results, h, hp', hq', asAddr, Result.andThen, run_loadVar_row w g t t1 cs fr d hg hu hd hi, hy]
set_option maxRecDepth 100000 in
theorem load_err {W : World} {a : Addr} {x : Value} (h0 : W.cell? a = some x) : (loadVar 34 a).run Tryz.prog W = .ok x W := by go_simp
set_option maxRecDepth 100000 in
set_option maxHeartbeats 1600000 in
theorem dend_any (r : Nat) (s : ByteArray) (W : World) (hr : Rdd r s s.size W) :
    Calls Tryz.prog (19) #[.pointer (some ⟨r, 0, none⟩)] W fun e w' => e = .returned (.tuple #[]) ∧ ∃ m, w' = W.drewN m := by
  obtain ⟨c0, c1, _⟩ := row_twoD hr
  clear hr
  go_enter Tryz.func19, Tryz.ntmps19
  go_wp2_with fail
  go_quiet (fail)
  go_wp2
  go_end0
  exact ⟨rfl, _, rfl⟩
set_option maxRecDepth 100000 in
set_option maxHeartbeats 6400000 in
theorem dataRead_right (eb es ek en : TypeId × Value) (t : Tr) (d : Dt) (n : Nat) (hd : t.Dp n) (hn : n ≤ 1100000) (hsm : t.Sm) (hin : d.In) (hv : vldN t = 0) (hck : chk false t d = 0) (u : ByteArray) (hu : u.data.toList = tx false t d) (hus : u.size ≤ 8000) (P : Nat → Prop) (a : Option Addr) (c : Nat) (hcap : t.sub.length ≤ c) (W : World) (he : EC W eb es ek) (hen : W.cell? ⟨3, 0, none⟩ = some (.iface en.1 en.2)) (hl : LiesN W P a t.sub) (htab : Lib.TabIs Tryz.prog W "internal/strconv.uint64pow10" .u64 Lib.pow10Tab) :
    Calls Tryz.prog 10 #[nodeV t a c, .string u] W fun e w' => (∃ al cl af cf, e = .returned (.tuple #[datumV d al cl af cf, .nilIface]) ∧ LiesD w' (fun b => W.heap.size ≤ b) al d.l ∧ LiesD w' (fun b => W.heap.size ≤ b) af d.f) ∧ Below W.heap.size W w' := by
  have hmf : ∀ (fn : Fn) (first cap : Array Value) (w : World), (Instr.makeFunc fn first cap).run Tryz.prog w = .ok (.func fn first cap) w := fun _ _ _ _ => rfl
  obtain ⟨w0, HW0, HX, HY, HZ, HB, HSz⟩ := three_boxesS W #[.int .i64 t.id, .string t.nm, .int .i64 t.rep, .int .i64 t.kind, .slice a t.sub.length c] #[.bool false, .int .i64 0, .int .i64 0, .string ⟨#[]⟩, .slice none 0 0, .slice none 0 0] #[.nilIface] 24 29 34
  have hsz0 := HSz.out
  have hV := valid_any t n hd hn hsm a c P w0 (hl.keep HB.out) hcap eb es en (he.keep HB.out).b (he.keep HB.out).s ((HB.out.cell (World.block_lt_of_cell? W _ hen)).trans hen)
  rw [vldV_right _ _ _ hv] at hV
  unfold nodeV at hV
  have HV : Hid _ := hV
  have HLn : Hid (u.data.toList.length = u.size) := (by show _ = _; rw [Array.length_toList]; rfl)
  have HWo : Hid (Wo u 0 (tx false t d)) := (by rw [← hu]; exact Wo.whole u)
  have HLt : Hid ((tx false t d).length = u.size) := (by rw [← hu]; exact HLn.out)
  have HRd : Hid (RdN t d) := (rd_any _ d (Nat.lt_succ_self _) t false hin hsm hck).2 rfl
  have HL : Hid (LiesN W P a t.sub) := hl
  have HTb : Hid (∀ X, Below W.heap.size W X → Lib.TabIs Tryz.prog X "internal/strconv.uint64pow10" .u64 Lib.pow10Tab) := Lib.tabBelow_of_tabIs htab
  obtain ⟨⟨p0, p1, p2, p3, p4⟩, _⟩ := row_five HX.out
  obtain ⟨e0, ez⟩ := row_one HZ.out
  have q8 : decide ((8000 : Int) < (u.size : Int)) = false := by rw [decide_eq_false_iff_not]; omega
  have q8b : decide (8000 < u.size) = false := by rw [decide_eq_false_iff_not]; omega
  clear hV hd hn hsm hin hv hck hu he hen hl htab
  unfold nodeV datumV
  go_enter_defers Tryz.func10, Tryz.ntmps10
  go_upto_region 1 with fail
  rw [HW0.out]
  go_wp2_with fail
  refine Calls.mono HV.out ?_
  rintro e w1 ⟨rfl, hb1⟩
  have HB1 : Hid (Below W.heap.size W w1) := HB.out.trans (hb1.mono HB.out.size)
  have hs1 : W.heap.size + 3 ≤ w1.heap.size := by have := hb1.size; omega
  have HX1 : Hid _ := blk_keep hb1 HX.out
  have HY1 : Hid _ := blk_keep hb1 HY.out
  have HZ1 : Hid _ := blk_keep hb1 HZ.out
  clear hb1 e0 ez p0 p1 p2 p3 p4
  obtain ⟨e0, ez⟩ := row_one HZ1.out
  have st1 : ∀ b, b ≠ W.heap.size + 1 + 1 → (w1.setCell ⟨W.heap.size + 1 + 1, 0, none⟩ .nilIface).heap[b]? = w1.heap[b]? := fun b hb => Below.heap_setCell w1 ⟨W.heap.size + 1 + 1, 0, none⟩ _ b hb
  have HX2 : Hid ((w1.setCell ⟨W.heap.size + 1 + 1, 0, none⟩ .nilIface).heap[W.heap.size]? = _) := (st1 _ (by omega)).trans HX1.out
  have HY2 : Hid ((w1.setCell ⟨W.heap.size + 1 + 1, 0, none⟩ .nilIface).heap[W.heap.size + 1]? = _) := (st1 _ (by omega)).trans HY1.out
  have HZ2 : Hid ((w1.setCell ⟨W.heap.size + 1 + 1, 0, none⟩ .nilIface).heap[W.heap.size + 1 + 1]? = some (.cells #[.nilIface] 34 (0, 0))) := row_setC HZ1.out
  have HB2 : Hid (Below W.heap.size W (w1.setCell ⟨W.heap.size + 1 + 1, 0, none⟩ .nilIface)) := HB1.out.setCell (by show W.heap.size ≤ W.heap.size + 1 + 1; omega) _
  have HS2 : Hid ((w1.setCell ⟨W.heap.size + 1 + 1, 0, none⟩ .nilIface).heap.size = w1.heap.size) := (by show _ = _; simp)
  obtain ⟨w2, HW2⟩ := hid_name (w1.setCell ⟨W.heap.size + 1 + 1, 0, none⟩ .nilIface)
  rw [HW2.out] at HX2 HY2 HZ2 HB2 HS2
  clear st1
  go_upto_region 2 with fail
  rw [HW2.out]
  clear e0 ez
  obtain ⟨e0, ez⟩ := row_one HZ2.out
  obtain ⟨⟨p0, p1, p2, p3, p4⟩, _⟩ := row_five HX2.out
  obtain ⟨w3, HW3, HR3, HB3⟩ := one_box w2 #[.string u, .int .i64 0] 59
  have hs2 : W.heap.size + 3 ≤ w2.heap.size := by have := HS2.out; omega
  have hs3 := HB3.out.size
  obtain ⟨⟨m0, m1, m2, m3, m4⟩, _⟩ := row_five (blk_keep HB3.out HX2.out)
  have HRd3 : Hid (Rdd w2.heap.size u 0 w3) := HR3.out
  have HL3 : Hid (LiesN w3 (fun k => k ≠ w2.heap.size) a t.sub) := HL.out.stay (fun b _ hlt => by omega) (fun b _ hlt => ((HB2.out.trans (HB3.out.mono (by omega))).block b hlt))
  have HTR : Hid (TabR w2.heap.size w3) := fun X hX => HTb.out X ((HB2.out.trans (HB3.out.mono (by omega))).trans (hX.below (by omega) (by omega)))
  obtain ⟨r, HRn⟩ := hid_name w2.heap.size
  rw [HRn.out] at HRd3 HL3 HTR hs2
  have HC : Hid (Calls Tryz.prog (18) #[.pointer (some ⟨r, 0, none⟩), .agg #[.int .i64 t.id, .string t.nm, .int .i64 t.rep, .int .i64 t.kind, .slice a t.sub.length c]] w3 fun e w' => ∃ al cl af cf, e = .returned (.agg #[.bool d.no, .int .i64 d.v.k, .int .i64 d.v.n, .string d.v.s, .slice al d.l.length cl, .slice af d.f.length cf]) ∧ LiesD w' (fun b => w3.heap.size ≤ b) al d.l ∧ LiesD w' (fun b => w3.heap.size ≤ b) af d.f ∧ Rdd r u u.size w' ∧ RFr r w3 w') := (by
    have h := HRd.out r u 0 a c w3 HRd3.out (by omega) HWo.out (Nat.zero_le _) (by
      rw [HLt.out]
      unfold nx
      rw [dif_neg (by omega)]
      decide) HTR.out HL3.out
    rw [HLt.out, Nat.zero_add] at h
    exact h)
  go_upto_region 8 with fail
  rw [HW3.out, HRn.out]
  have hrr : W.heap.size + 3 ≤ r := hs2
  have HF3 : Hid (Below W.heap.size W w3) := HB2.out.trans (HB3.out.mono (by have := HRn.out; omega))
  have hs30 : r < w3.heap.size := lt_of_block HRd3.out
  have HY3 : Hid _ := blk_keep HB3.out HY2.out
  have HZ3 : Hid _ := blk_keep HB3.out HZ2.out
  go_wp2_with fail
  refine Calls.mono HC.out ?_
  rintro e w4 ⟨al, cl, af, cf, rfl, hl4, hf4, hr4, hfr4⟩
  have HY4 : Hid _ := hfr4.box HY3.out (by omega)
  have HZ4 : Hid _ := hfr4.box HZ3.out (by omega)
  have HB4 : Hid (Below W.heap.size W w4) := HF3.out.trans (hfr4.below (by omega) (by omega))
  have HL4 : Hid (LiesD w4 (fun b => w3.heap.size ≤ b) al d.l) := hl4
  have HL5 : Hid (LiesD w4 (fun b => w3.heap.size ≤ b) af d.f) := hf4
  have HR4 : Hid (Rdd r u u.size w4) := hr4
  clear hl4 hf4 hr4 hfr4 m0 m1 m2 m3 m4 p0 p1 p2 p3 p4 e0 ez
  obtain ⟨z0, z1, z2, z3, z4, z5⟩ := row_six HY4.out
  obtain ⟨y0, y1, y2, y3, y4, y5⟩ := row_six_z HY4.out
  have HY5 : Hid (((((((w4.setCell ⟨W.heap.size + 1, 0, none⟩ (.bool d.no)).setCell ⟨W.heap.size + 1, 1, none⟩ (.int .i64 d.v.k)).setCell ⟨W.heap.size + 1, 2, none⟩ (.int .i64 d.v.n)).setCell ⟨W.heap.size + 1, 3, none⟩ (.string d.v.s)).setCell ⟨W.heap.size + 1, 4, none⟩ (.slice al d.l.length cl)).setCell ⟨W.heap.size + 1, 5, none⟩ (.slice af d.f.length cf)).heap[W.heap.size + 1]? = some (.cells #[.bool d.no, .int .i64 d.v.k, .int .i64 d.v.n, .string d.v.s, .slice al d.l.length cl, .slice af d.f.length cf] 29 (0, 0))) := sxR HY4.out _ _ _ _ _ _
  have HZ5 : Hid (((((((w4.setCell ⟨W.heap.size + 1, 0, none⟩ (.bool d.no)).setCell ⟨W.heap.size + 1, 1, none⟩ (.int .i64 d.v.k)).setCell ⟨W.heap.size + 1, 2, none⟩ (.int .i64 d.v.n)).setCell ⟨W.heap.size + 1, 3, none⟩ (.string d.v.s)).setCell ⟨W.heap.size + 1, 4, none⟩ (.slice al d.l.length cl)).setCell ⟨W.heap.size + 1, 5, none⟩ (.slice af d.f.length cf)).heap[W.heap.size + 1 + 1]? = some (.cells #[.nilIface] 34 (0, 0))) := (sxK _ _ _ (by omega) _ _ _ _ _ _).trans HZ4.out
  have HR5 : Hid (Rdd r u u.size ((((((w4.setCell ⟨W.heap.size + 1, 0, none⟩ (.bool d.no)).setCell ⟨W.heap.size + 1, 1, none⟩ (.int .i64 d.v.k)).setCell ⟨W.heap.size + 1, 2, none⟩ (.int .i64 d.v.n)).setCell ⟨W.heap.size + 1, 3, none⟩ (.string d.v.s)).setCell ⟨W.heap.size + 1, 4, none⟩ (.slice al d.l.length cl)).setCell ⟨W.heap.size + 1, 5, none⟩ (.slice af d.f.length cf))) := (sxK _ _ _ (by omega) _ _ _ _ _ _).trans HR4.out
  have HB5 : Hid (Below W.heap.size W ((((((w4.setCell ⟨W.heap.size + 1, 0, none⟩ (.bool d.no)).setCell ⟨W.heap.size + 1, 1, none⟩ (.int .i64 d.v.k)).setCell ⟨W.heap.size + 1, 2, none⟩ (.int .i64 d.v.n)).setCell ⟨W.heap.size + 1, 3, none⟩ (.string d.v.s)).setCell ⟨W.heap.size + 1, 4, none⟩ (.slice al d.l.length cl)).setCell ⟨W.heap.size + 1, 5, none⟩ (.slice af d.f.length cf))) := sxB HB4.out (by omega) _ _ _ _ _ _
  have HL6 : Hid (LiesD ((((((w4.setCell ⟨W.heap.size + 1, 0, none⟩ (.bool d.no)).setCell ⟨W.heap.size + 1, 1, none⟩ (.int .i64 d.v.k)).setCell ⟨W.heap.size + 1, 2, none⟩ (.int .i64 d.v.n)).setCell ⟨W.heap.size + 1, 3, none⟩ (.string d.v.s)).setCell ⟨W.heap.size + 1, 4, none⟩ (.slice al d.l.length cl)).setCell ⟨W.heap.size + 1, 5, none⟩ (.slice af d.f.length cf)) (fun b => W.heap.size + 3 ≤ b) al d.l) := HL4.out.stay (fun b hb _ => by omega) (fun b hb _ => sxK _ _ _ (by omega) _ _ _ _ _ _)
  have HL7 : Hid (LiesD ((((((w4.setCell ⟨W.heap.size + 1, 0, none⟩ (.bool d.no)).setCell ⟨W.heap.size + 1, 1, none⟩ (.int .i64 d.v.k)).setCell ⟨W.heap.size + 1, 2, none⟩ (.int .i64 d.v.n)).setCell ⟨W.heap.size + 1, 3, none⟩ (.string d.v.s)).setCell ⟨W.heap.size + 1, 4, none⟩ (.slice al d.l.length cl)).setCell ⟨W.heap.size + 1, 5, none⟩ (.slice af d.f.length cf)) (fun b => W.heap.size + 3 ≤ b) af d.f) := HL5.out.stay (fun b hb _ => by omega) (fun b hb _ => sxK _ _ _ (by omega) _ _ _ _ _ _)
  obtain ⟨w5, HW5⟩ := hid_name ((((((w4.setCell ⟨W.heap.size + 1, 0, none⟩ (.bool d.no)).setCell ⟨W.heap.size + 1, 1, none⟩ (.int .i64 d.v.k)).setCell ⟨W.heap.size + 1, 2, none⟩ (.int .i64 d.v.n)).setCell ⟨W.heap.size + 1, 3, none⟩ (.string d.v.s)).setCell ⟨W.heap.size + 1, 4, none⟩ (.slice al d.l.length cl)).setCell ⟨W.heap.size + 1, 5, none⟩ (.slice af d.f.length cf))
  rw [HW5.out] at HY5 HZ5 HR5 HB5 HL6 HL7
  go_upto_region 9 with fail
  rw [HW5.out]
  clear z0 z1 z2 z3 z4 z5 y0 y1 y2 y3 y4 y5
  have HE : Hid _ := dend_any r u w5 HR5.out
  go_wp2_with fail
  refine Calls.mono HE.out ?_
  rintro e w6 ⟨rfl, k, rfl⟩
  obtain ⟨z0, z1, z2, z3, z4, z5⟩ := row_six HY5.out
  obtain ⟨y0, y1, y2, y3, y4, y5⟩ := row_six_z HY5.out
  obtain ⟨e0, ez⟩ := row_one HZ5.out
  have HYk : Hid ((w5.drewN k).heap[W.heap.size + 1]? = some (.cells #[.bool d.no, .int .i64 d.v.k, .int .i64 d.v.n, .string d.v.s, .slice al d.l.length cl, .slice af d.f.length cf] 29 (0, 0))) := HY5.out
  have HZk : Hid ((w5.drewN k).heap[W.heap.size + 1 + 1]? = some (.cells #[.nilIface] 34 (0, 0))) := HZ5.out
  have HBk : Hid (Below W.heap.size W (w5.drewN k)) := below_dN HB5.out k
  have st2 : ∀ (Y : World) (b : Nat), b ≠ W.heap.size + 1 + 1 → (Y.setCell ⟨W.heap.size + 1 + 1, 0, none⟩ .nilIface).heap[b]? = Y.heap[b]? := fun Y b hb => Below.heap_setCell Y ⟨W.heap.size + 1 + 1, 0, none⟩ _ b hb
  have HY9 : Hid (((((((((w5.drewN k).setCell ⟨W.heap.size + 1, 0, none⟩ (.bool d.no)).setCell ⟨W.heap.size + 1, 1, none⟩ (.int .i64 d.v.k)).setCell ⟨W.heap.size + 1, 2, none⟩ (.int .i64 d.v.n)).setCell ⟨W.heap.size + 1, 3, none⟩ (.string d.v.s)).setCell ⟨W.heap.size + 1, 4, none⟩ (.slice al d.l.length cl)).setCell ⟨W.heap.size + 1, 5, none⟩ (.slice af d.f.length cf)).setCell ⟨W.heap.size + 1 + 1, 0, none⟩ .nilIface).heap[W.heap.size + 1]? = some (.cells #[.bool d.no, .int .i64 d.v.k, .int .i64 d.v.n, .string d.v.s, .slice al d.l.length cl, .slice af d.f.length cf] 29 (0, 0))) := (st2 _ _ (by omega)).trans (sxR HYk.out _ _ _ _ _ _)
  have HZ9 : Hid (((((((((w5.drewN k).setCell ⟨W.heap.size + 1, 0, none⟩ (.bool d.no)).setCell ⟨W.heap.size + 1, 1, none⟩ (.int .i64 d.v.k)).setCell ⟨W.heap.size + 1, 2, none⟩ (.int .i64 d.v.n)).setCell ⟨W.heap.size + 1, 3, none⟩ (.string d.v.s)).setCell ⟨W.heap.size + 1, 4, none⟩ (.slice al d.l.length cl)).setCell ⟨W.heap.size + 1, 5, none⟩ (.slice af d.f.length cf)).setCell ⟨W.heap.size + 1 + 1, 0, none⟩ .nilIface).heap[W.heap.size + 1 + 1]? = some (.cells #[.nilIface] 34 (0, 0))) := row_setC ((sxK _ _ _ (by omega) _ _ _ _ _ _).trans HZk.out)
  have HB9 : Hid (Below W.heap.size W ((((((((w5.drewN k).setCell ⟨W.heap.size + 1, 0, none⟩ (.bool d.no)).setCell ⟨W.heap.size + 1, 1, none⟩ (.int .i64 d.v.k)).setCell ⟨W.heap.size + 1, 2, none⟩ (.int .i64 d.v.n)).setCell ⟨W.heap.size + 1, 3, none⟩ (.string d.v.s)).setCell ⟨W.heap.size + 1, 4, none⟩ (.slice al d.l.length cl)).setCell ⟨W.heap.size + 1, 5, none⟩ (.slice af d.f.length cf)).setCell ⟨W.heap.size + 1 + 1, 0, none⟩ .nilIface)) := (sxB HBk.out (by omega) _ _ _ _ _ _).setCell (by show W.heap.size ≤ W.heap.size + 1 + 1; omega) _
  have HL8 : Hid (LiesD ((((((((w5.drewN k).setCell ⟨W.heap.size + 1, 0, none⟩ (.bool d.no)).setCell ⟨W.heap.size + 1, 1, none⟩ (.int .i64 d.v.k)).setCell ⟨W.heap.size + 1, 2, none⟩ (.int .i64 d.v.n)).setCell ⟨W.heap.size + 1, 3, none⟩ (.string d.v.s)).setCell ⟨W.heap.size + 1, 4, none⟩ (.slice al d.l.length cl)).setCell ⟨W.heap.size + 1, 5, none⟩ (.slice af d.f.length cf)).setCell ⟨W.heap.size + 1 + 1, 0, none⟩ .nilIface) (fun b => W.heap.size ≤ b) al d.l) := HL6.out.stay (fun b hb _ => by omega) (fun b hb _ => (st2 _ _ (by omega)).trans (sxK _ _ _ (by omega) _ _ _ _ _ _))
  have HL9 : Hid (LiesD ((((((((w5.drewN k).setCell ⟨W.heap.size + 1, 0, none⟩ (.bool d.no)).setCell ⟨W.heap.size + 1, 1, none⟩ (.int .i64 d.v.k)).setCell ⟨W.heap.size + 1, 2, none⟩ (.int .i64 d.v.n)).setCell ⟨W.heap.size + 1, 3, none⟩ (.string d.v.s)).setCell ⟨W.heap.size + 1, 4, none⟩ (.slice al d.l.length cl)).setCell ⟨W.heap.size + 1, 5, none⟩ (.slice af d.f.length cf)).setCell ⟨W.heap.size + 1 + 1, 0, none⟩ .nilIface) (fun b => W.heap.size ≤ b) af d.f) := HL7.out.stay (fun b hb _ => by omega) (fun b hb _ => (st2 _ _ (by omega)).trans (sxK _ _ _ (by omega) _ _ _ _ _ _))
  clear st2
  obtain ⟨w9, HW9⟩ := hid_name ((((((((w5.drewN k).setCell ⟨W.heap.size + 1, 0, none⟩ (.bool d.no)).setCell ⟨W.heap.size + 1, 1, none⟩ (.int .i64 d.v.k)).setCell ⟨W.heap.size + 1, 2, none⟩ (.int .i64 d.v.n)).setCell ⟨W.heap.size + 1, 3, none⟩ (.string d.v.s)).setCell ⟨W.heap.size + 1, 4, none⟩ (.slice al d.l.length cl)).setCell ⟨W.heap.size + 1, 5, none⟩ (.slice af d.f.length cf)).setCell ⟨W.heap.size + 1 + 1, 0, none⟩ .nilIface)
  rw [HW9.out] at HY9 HZ9 HB9 HL8 HL9
  go_wp2
  rw [HW9.out]
  refine leaves_cons (f := 17) (args := #[.pointer (some ⟨W.heap.size + 1, 0, none⟩), .pointer (some ⟨W.heap.size + 1 + 1, 0, none⟩)]) (by simp) (by simp [go_sem]) ?_
  refine (idle_any ⟨W.heap.size + 1, 0, none⟩ ⟨W.heap.size + 1 + 1, 0, none⟩ w9).mono ?_
  rintro e u' w'' ⟨rfl, rfl, rfl⟩
  exact ⟨_, results_cc Tryz.results10 _ _ (W.heap.size + 1) 29 #[.bool d.no, .int .i64 d.v.k, .int .i64 d.v.n, .string d.v.s, .slice al d.l.length cl, .slice af d.f.length cf] (0, 0) _ ⟨W.heap.size + 1 + 1, 0, none⟩ .nilIface rfl rfl HY9.out Tryz.underlying29 rfl (by kernel_rfl) (load_err (row_one HZ9.out).1), ⟨al, cl, af, cf, rfl, HL8.out, HL9.out⟩, HB9.out⟩
end Go.Proofs.YtmfijliladancaaGreatDoor
