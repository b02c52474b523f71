/-
  The walk of the law DataCutTwice.
-/
import Derived.Test.YtnceknbodpimiaaDoorVBBtC
import Derived.Test.YtnceknbodpimiaaDoorVCtE
import Derived.Test.YtnceknbodpimiaaDoorVBPjP
import Derived.Test.YtnceknbodpimiaaDoorVBStBase
import Derived.Test.YtnceknbodpimiaaDoorVBInB
import Derived.Test.YtnceknbodpimiaaDoorVBSmall
import Derived.Test.YtnceknbodpimiaaDoorVBLvM
import Derived.Deep.DeepCutAuto
namespace Go.Proofs.YtnceknbodpimiaaDoor
open Go.RowKit
/-- What Cut answers, as one. -/
def CtU (t : Tr) (ids : List Int) (d : Dt) (N : Nat) (yd : Dt) (ev : Value) (al : Option Addr) (af : Option Addr) (w' : World) : Prop :=
  (∃ ty v, ev = .iface ty v) ∨ (ev = .nilIface ∧ vldN t = 0 ∧ chk false t d = 0 ∧ (∀ i ∈ ids, i ∈ (ndT t).map Tr.id) ∧ rkL (askL ids t) t.sub ≠ [] ∧ yd = cutT (rkT (askL ids t) t) t d ∧ LiesD w' (fun b => N ≤ b) al yd.l ∧ LiesD w' (fun b => N ≤ b) af yd.f)
theorem CtR.one {t : Tr} {ids : List Int} {d : Dt} {N : Nat} {e : Ending} {w' : World} (h : CtR t ids d N e w') : ∃ (yd : Dt) (ev : Value) (al : Option Addr) (cl : Nat) (af : Option Addr) (cf : Nat), e = .returned (.tuple #[.agg #[.bool yd.no, .int .i64 yd.v.k, .int .i64 yd.v.n, .string yd.v.s, .slice al yd.l.length cl, .slice af yd.f.length cf], ev]) ∧ CtU t ids d N yd ev al af w' := by
  rcases h with ⟨x, ty, v, rfl, rfl⟩ | ⟨h1, h2, h3, h4, y, h5, al, cl, af, cf, rfl, h6, h7⟩
  · exact ⟨.mk false ⟨0, 0, ⟨#[]⟩⟩ [] [], .iface ty v, none, 0, none, 0, rfl, .inl ⟨ty, v, rfl⟩⟩
  · exact ⟨y, .nilIface, al, cl, af, cf, rfl, .inr ⟨rfl, h1, h2, h3, h4, h5, h6, h7⟩⟩
theorem CtU.keep {t : Tr} {ids : List Int} {d : Dt} {N : Nat} {yd : Dt} {ev : Value} {al af : Option Addr} {w w' : World} (h : CtU t ids d N yd ev al af w) (hb : Below w.heap.size w w') : CtU t ids d N yd ev al af w' := by
  rcases h with h | ⟨h0, h1, h2, h3, h4, h5, h6, h7⟩
  · exact .inl h
  · exact .inr ⟨h0, h1, h2, h3, h4, h5, h6.keep hb, h7.keep hb⟩
theorem CtU.off {t : Tr} {ids : List Int} {d : Dt} {N : Nat} {yd : Dt} {ev : Value} {al af : Option Addr} {w : World} {g j : Nat} {v : Value} (h : CtU t ids d N yd ev al af w) (hg : g < N) : CtU t ids d N yd ev al af (w.setCell ⟨g, j, none⟩ v) := by
  rcases h with h | ⟨h0, h1, h2, h3, h4, h5, h6, h7⟩
  · exact .inl h
  · exact .inr ⟨h0, h1, h2, h3, h4, h5, h6.off (fun b h => by omega), h7.off (fun b h => by omega)⟩
theorem CtU.low {t : Tr} {ids : List Int} {d : Dt} {N M : Nat} {yd : Dt} {ev : Value} {al af : Option Addr} {w : World} (h : CtU t ids d N yd ev al af w) (hM : M ≤ N) : CtU t ids d M yd ev al af w := by
  rcases h with h | ⟨h0, h1, h2, h3, h4, h5, h6, h7⟩
  · exact .inl h
  · exact .inr ⟨h0, h1, h2, h3, h4, h5, h6.stay (fun b h _ => by omega) (fun _ _ _ => rfl), h7.stay (fun b h _ => by omega) (fun _ _ _ => rfl)⟩
theorem six_below {N : Nat} {a x : World} {g : Nat} (h : Below N a x) (hg : N ≤ g) (v0 v1 v2 v3 v4 v5 : Value) : Below N a ((((((x.setCell ⟨g, 0, none⟩ v0).setCell ⟨g, 1, none⟩ v1).setCell ⟨g, 2, none⟩ v2).setCell ⟨g, 3, none⟩ v3).setCell ⟨g, 4, none⟩ v4).setCell ⟨g, 5, none⟩ v5) := (((((h.setCell hg _).setCell hg _).setCell hg _).setCell hg _).setCell hg _).setCell hg _
theorem six_row {x : World} {g e : Nat} {c0 c1 c2 c3 c4 c5 : Value} (h : x.heap[g]? = some (.cells #[c0, c1, c2, c3, c4, c5] e (0, 0))) (v0 v1 v2 v3 v4 v5 : Value) : ((((((x.setCell ⟨g, 0, none⟩ v0).setCell ⟨g, 1, none⟩ v1).setCell ⟨g, 2, none⟩ v2).setCell ⟨g, 3, none⟩ v3).setCell ⟨g, 4, none⟩ v4).setCell ⟨g, 5, none⟩ v5).heap[g]? = some (.cells #[v0, v1, v2, v3, v4, v5] e (0, 0)) := row_setCell (row_setCell (row_setCell (row_setCell (row_setCell (row_setCell h _) _) _) _) _) _
theorem CtU.off6 {t : Tr} {ids : List Int} {d : Dt} {N M : Nat} {yd : Dt} {ev : Value} {al af : Option Addr} {x : World} {g : Nat} (h : CtU t ids d N yd ev al af x) (hg : g < N) (hM : M ≤ N) (v0 v1 v2 v3 v4 v5 : Value) : CtU t ids d M yd ev al af ((((((x.setCell ⟨g, 0, none⟩ v0).setCell ⟨g, 1, none⟩ v1).setCell ⟨g, 2, none⟩ v2).setCell ⟨g, 3, none⟩ v3).setCell ⟨g, 4, none⟩ v4).setCell ⟨g, 5, none⟩ v5) := CtU.low ((((((h.off hg).off hg).off hg).off hg).off hg).off hg) hM
theorem bel_alC {x x' : World} {o : Obj} (h : Below (x.alloc o).heap.size (x.alloc o) x') : Below x.heap.size x x' := ((Below.refl _ _).alloc (Nat.le_refl _) o).trans (h.mono (by simp))
theorem bel_nextC {W X w' : World} (h : Below W.heap.size W X) (h' : Below X.heap.size X w') : Below W.heap.size W w' := h.trans (h'.mono h.size)
set_option maxRecDepth 100000 in
set_option maxHeartbeats 12800000 in
theorem dataCutTwice_walk (eb es ek en eo : TypeId × Value) (t : Tr) (n : Nat) (hd : t.Dp n) (hn : n ≤ 1100000) (hs : t.Sm) (P PD : Nat → Prop) (ra : Option Addr) (rc : Nat) (ids : List Int) (ia : Option Addr) (ic : Nat) (hix : ∀ x ∈ ids, -9223372036854775808 ≤ x ∧ x ≤ 9223372036854775807) (d : Dt) (hds : d.Sm) (hdw : wt d ≤ 1048576) (al : Option Addr) (cl : Nat) (af : Option Addr) (cf : Nat) (W : World) (he : EC W eb es ek) (hen : W.cell? ⟨3, 0, none⟩ = some (.iface en.1 en.2)) (hgo : W.cell? ⟨0, 0, none⟩ = some (.iface eo.1 eo.2)) (hl : LiesN W P ra t.sub) (hli : Lies W ia (i64s ids)) (hd1 : LiesD W PD al d.l) (hd2 : LiesD W PD af d.f) :
    Calls Tryd.prog 3 #[nodeV t ra rc, .slice ia ids.length ic, datumV d al cl af cf] W fun e w' => e = .returned (.bool true) ∧ Below W.heap.size W w' := by
  obtain ⟨w0, HW0, HX0, HY0, HB0⟩ := two_boxesS W #[.int .i64 t.id, .string t.nm, .int .i64 t.rep, .int .i64 t.kind, .slice ra t.sub.length rc] #[.bool d.no, .int .i64 d.v.k, .int .i64 d.v.n, .string d.v.s, .slice al d.l.length cl, .slice af d.f.length cf] 24 30
  have HEr : Hid (∀ X, Below W.heap.size W X → EC X eb es ek ∧ X.cell? ⟨3, 0, none⟩ = some (.iface en.1 en.2) ∧ X.cell? ⟨0, 0, none⟩ = some (.iface eo.1 eo.2)) := fun X hX => ⟨he.keep hX, (hX.cell (World.block_lt_of_cell? W _ hen)).trans hen, (hX.cell (World.block_lt_of_cell? W _ hgo)).trans hgo⟩
  have HL : Hid (LiesN W P ra t.sub) := hl
  have HLi : Hid (Lies W ia (i64s ids)) := hli
  have HD1 : Hid (LiesD W PD al d.l) := hd1
  have HD2 : Hid (LiesD W PD af d.f) := hd2
  have HSm : Hid t.Sm := hs
  have HDs : Hid d.Sm := hds
  have HDp : Hid (t.Dp n) := hd
  have HIx : Hid (∀ x ∈ ids, -9223372036854775808 ≤ x ∧ x ≤ 9223372036854775807) := hix
  have HBt : Hid _ := bit_any eb es ek en w0 (HEr.out w0 HB0.out).1 (HEr.out w0 HB0.out).2.1
  clear he hen hgo hl hli hd1 hd2 hs hds hd hix
  unfold nodeV datumV
  go_enter Tryd.func3, Tryd.ntmps3
  go_wp2_with fail
  rw [HW0.out]
  refine Calls.mono HBt.out ?_
  rintro e w1 ⟨rfl, hb1⟩
  have HB1 : Hid (Below W.heap.size W w1) := bel_nextC HB0.out hb1
  have HX1 : Hid _ := blk_keep hb1 HX0.out
  have HY1 : Hid _ := blk_keep hb1 HY0.out
  clear hb1 HBt
  obtain ⟨⟨p0, p1, p2, p3, p4⟩, _⟩ := row_five HX1.out
  go_wp2_with fail
  refine Calls.mono (tame_any t HSm.out P ra rc w1 (HL.out.keep HB1.out)) ?_
  rintro e w2 ⟨rfl, hb2⟩
  have HB2 : Hid (Below W.heap.size W w2) := bel_nextC HB1.out hb2
  have HX2 : Hid _ := blk_keep hb2 HX1.out
  have HY2 : Hid _ := blk_keep hb2 HY1.out
  clear hb2 p0 p1 p2 p3 p4
  obtain ⟨tm, HTm⟩ := hid_name (decide ((fl t).length ≤ 200 ∧ nmS (fl t) ≤ 4000))
  rw [HTm.out]
  cases tm with
  | false =>
    go_wp2
    go_ret
    exact ⟨rfl, HB2.out⟩
  | true =>
    have hlL : d.l.length ≤ 1048576 := HDs.out.lenL
    have hlF : d.f.length ≤ 1048576 := HDs.out.lenF
    obtain ⟨z0, z1, z2, z3, z4, z5⟩ := row_six HY2.out
    have HW : Hid _ := weight_any (SizeOf.sizeOf d + 1) d (Nat.lt_succ_self _) hdw hlL hlF HDs.out PD al cl af cf w2 (HD1.out.keep HB2.out) (HD2.out.keep HB2.out)
    unfold datumV at HW
    obtain ⟨wd, HWd⟩ := hid_name (wt d)
    rw [HWd.out] at HW hdw
    go_wp2_with fail
    refine Calls.mono HW.out ?_
    rintro e w3 ⟨rfl, hb3⟩
    have HB3 : Hid (Below W.heap.size W w3) := bel_nextC HB2.out hb3
    have HX3 : Hid _ := blk_keep hb3 HX2.out
    have HY3 : Hid _ := blk_keep hb3 HY2.out
    clear hb3 HW z0 z1 z2 z3 z4 z5
    by_cases h3000 : 3000 < wd
    · have q6 : decide ((3000 : Int) < (wd : Int)) = true := by simp; omega
      have q7 : decide (3000 < wd) = true := by simp; omega
      go_wp2
      go_ret
      exact ⟨rfl, HB3.out⟩
    have q6 : decide ((3000 : Int) < (wd : Int)) = false := by simp; omega
    have q7 : decide (3000 < wd) = false := by simp; omega
    by_cases h60 : 60 < ids.length
    · have r6 : decide ((60 : Int) < (ids.length : Int)) = true := by simp; omega
      have r7 : decide (60 < ids.length) = true := by simp; omega
      go_wp2
      go_ret
      exact ⟨rfl, HB3.out⟩
    have r6 : decide ((60 : Int) < (ids.length : Int)) = false := by simp; omega
    have r7 : decide (60 < ids.length) = false := by simp; omega
    have HWt : Hid (wt d ≤ 3000) := (by show _ ≤ _; rw [HWd.out]; omega)
    have HOw : Hid (∀ X, Below W.heap.size W X → Calls Tryd.prog 8 #[.agg #[.int .i64 t.id, .string t.nm, .int .i64 t.rep, .int .i64 t.kind, .slice ra t.sub.length rc]] X fun e w' => (∃ a' c', e = .returned (.agg #[.int .i64 t.id, .string t.nm, .int .i64 t.rep, .int .i64 t.kind, .slice a' t.sub.length c']) ∧ LiesN w' (fun b => X.heap.size ≤ b) a' t.sub ∧ t.sub.length ≤ c') ∧ Below X.heap.size X w') := fun X hX => ownNode_any _ t (Nat.lt_succ_self _) HSm.out P ra rc X (HL.out.keep hX)
    have HIo : Hid (∀ X, Below W.heap.size W X → Calls Tryd.prog 9 #[.slice ia ids.length ic] X fun e w' => (∃ a' c', e = .returned (.slice a' ids.length c') ∧ Lies w' a' (i64s ids)) ∧ Below X.heap.size X w') := fun X hX => intsL_any ia ic ids X (by omega) (HLi.out.keep hX)
    have HOd : Hid (∀ X, Below W.heap.size W X → Calls Tryd.prog 10 #[.agg #[.bool d.no, .int .i64 d.v.k, .int .i64 d.v.n, .string d.v.s, .slice al d.l.length cl, .slice af d.f.length cf]] X fun e w' => (∃ al' cl' af' cf', e = .returned (.agg #[.bool d.no, .int .i64 d.v.k, .int .i64 d.v.n, .string d.v.s, .slice al' d.l.length cl', .slice af' d.f.length cf']) ∧ LiesD w' (fun b => X.heap.size ≤ b) al' d.l ∧ LiesD w' (fun b => X.heap.size ≤ b) af' d.f) ∧ Below X.heap.size X w') := fun X hX => ownsD d HDs.out PD al cl af cf X (HD1.out.keep hX) (HD2.out.keep hX)
    have HCt : Hid (∀ X a' c' ib ie al' cl' af' cf', Below W.heap.size W X → t.sub.length ≤ c' → LiesN X (fun _ => True) a' t.sub → Lies X ib (i64s ids) → LiesD X (fun _ => True) al' d.l → LiesD X (fun _ => True) af' d.f → Calls Tryd.prog 7 #[.agg #[.int .i64 t.id, .string t.nm, .int .i64 t.rep, .int .i64 t.kind, .slice a' t.sub.length c'], .slice ib ids.length ie, .agg #[.bool d.no, .int .i64 d.v.k, .int .i64 d.v.n, .string d.v.s, .slice al' d.l.length cl', .slice af' d.f.length cf']] X fun e w' => CtR t ids d X.heap.size e w' ∧ Below X.heap.size X w') := fun X a' c' ib ie al' cl' af' cf' hX hc h1 h2 h3 h4 => dataCut_any eb es ek en eo t d n HDp.out hn HSm.out HDs.out ids (by omega) HIx.out ib ie _ _ a' c' hc al' cl' af' cf' X (HEr.out X hX).1 (HEr.out X hX).2.1 (HEr.out X hX).2.2 h1 h2 h3 h4
    clear h3000 HWd HTm
    go_upto_region 4 with fail
    clear q6 q7 r6 r7
    go_cut [8, 9] (fun x y wx => ∃ (g : Nat) (yd : Dt) (yl : Option Addr) (ycl : Nat) (yf : Option Addr) (ycf : Nat), x = .pointer (some ⟨g, 0, none⟩) ∧ Hid (w3.heap.size ≤ g) ∧ Hid (Below w3.heap.size w3 wx) ∧ Hid (wx.heap[g]? = some (.cells #[.bool yd.no, .int .i64 yd.v.k, .int .i64 yd.v.n, .string yd.v.s, .slice yl yd.l.length ycl, .slice yf yd.f.length ycf] 30 (0, 0))) ∧ Hid (CtU t ids d w3.heap.size yd y yl yf wx))
    case first => as_aux_lemma =>
      have hz3 := HB3.out.size
      have HC1 : Hid (∀ X, Below w3.heap.size w3 X → Calls Tryd.prog 8 #[.agg #[.int .i64 t.id, .string t.nm, .int .i64 t.rep, .int .i64 t.kind, .slice ra t.sub.length rc]] X fun e w' => (∃ a' c', e = .returned (.agg #[.int .i64 t.id, .string t.nm, .int .i64 t.rep, .int .i64 t.kind, .slice a' t.sub.length c']) ∧ LiesN w' (fun _ => True) a' t.sub ∧ t.sub.length ≤ c') ∧ Below w3.heap.size w3 w' ∧ Below X.heap.size X w') := fun X hX => (HOw.out X (bel_nextC HB3.out hX)).mono fun e w' h => ⟨(by obtain ⟨⟨a', c', h1, h2, h3⟩, _⟩ := h; exact ⟨a', c', h1, h2.stay (fun _ _ _ => trivial) (fun _ _ _ => rfl), h3⟩), hX.trans (h.2.mono hX.size), h.2⟩
      have HC2 : Hid (∀ X, Below w3.heap.size w3 X → Calls Tryd.prog 9 #[.slice ia ids.length ic] X fun e w' => (∃ a' c', e = .returned (.slice a' ids.length c') ∧ Lies w' a' (i64s ids)) ∧ Below w3.heap.size w3 w' ∧ Below X.heap.size X w') := fun X hX => (HIo.out X (bel_nextC HB3.out hX)).mono fun e w' h => ⟨h.1, hX.trans (h.2.mono hX.size), h.2⟩
      have HC3 : Hid (∀ X, Below w3.heap.size w3 X → Calls Tryd.prog 10 #[.agg #[.bool d.no, .int .i64 d.v.k, .int .i64 d.v.n, .string d.v.s, .slice al d.l.length cl, .slice af d.f.length cf]] X fun e w' => (∃ al' cl' af' cf', e = .returned (.agg #[.bool d.no, .int .i64 d.v.k, .int .i64 d.v.n, .string d.v.s, .slice al' d.l.length cl', .slice af' d.f.length cf']) ∧ LiesD w' (fun _ => True) al' d.l ∧ LiesD w' (fun _ => True) af' d.f) ∧ Below w3.heap.size w3 w' ∧ Below X.heap.size X w') := fun X hX => (HOd.out X (bel_nextC HB3.out hX)).mono fun e w' h => ⟨(by obtain ⟨⟨al', cl', af', cf', h1, h2, h3⟩, _⟩ := h; exact ⟨al', cl', af', cf', h1, h2.stay (fun _ _ _ => trivial) (fun _ _ _ => rfl), h3.stay (fun _ _ _ => trivial) (fun _ _ _ => rfl)⟩), hX.trans (h.2.mono hX.size), h.2⟩
      have HC4 : Hid (∀ X a' c' ib ie al' cl' af' cf', Below w3.heap.size w3 X → t.sub.length ≤ c' → LiesN X (fun _ => True) a' t.sub → Lies X ib (i64s ids) → LiesD X (fun _ => True) al' d.l → LiesD X (fun _ => True) af' d.f → Calls Tryd.prog 7 #[.agg #[.int .i64 t.id, .string t.nm, .int .i64 t.rep, .int .i64 t.kind, .slice a' t.sub.length c'], .slice ib ids.length ie, .agg #[.bool d.no, .int .i64 d.v.k, .int .i64 d.v.n, .string d.v.s, .slice al' d.l.length cl', .slice af' d.f.length cf']] X fun e w' => (∃ (yd : Dt) (ev : Value) (yl : Option Addr) (ycl : Nat) (yf : Option Addr) (ycf : Nat), e = .returned (.tuple #[.agg #[.bool yd.no, .int .i64 yd.v.k, .int .i64 yd.v.n, .string yd.v.s, .slice yl yd.l.length ycl, .slice yf yd.f.length ycf], ev]) ∧ CtU t ids d X.heap.size yd ev yl yf w') ∧ Below w3.heap.size w3 w' ∧ Below X.heap.size X w') := fun X a' c' ib ie al' cl' af' cf' hX hc h1 h2 h3 h4 => (HCt.out X a' c' ib ie al' cl' af' cf' (bel_nextC HB3.out hX) hc h1 h2 h3 h4).mono fun e w' h => ⟨h.1.one, hX.trans (h.2.mono hX.size), h.2⟩
      have b0 : Below w3.heap.size w3 w3 := Below.refl _ _
      have HN : Hid (∀ X, Below w3.heap.size w3 X → (X.cell? ⟨W.heap.size, 0, none⟩ = some (.int .i64 t.id) ∧ X.cell? ⟨W.heap.size, 1, none⟩ = some (.string t.nm) ∧ X.cell? ⟨W.heap.size, 2, none⟩ = some (.int .i64 t.rep) ∧ X.cell? ⟨W.heap.size, 3, none⟩ = some (.int .i64 t.kind) ∧ X.cell? ⟨W.heap.size, 4, none⟩ = some (.slice ra t.sub.length rc)) ∧ (X.cell? ⟨W.heap.size + 1, 0, none⟩ = some (.bool d.no) ∧ X.cell? ⟨W.heap.size + 1, 1, none⟩ = some (.int .i64 d.v.k) ∧ X.cell? ⟨W.heap.size + 1, 2, none⟩ = some (.int .i64 d.v.n) ∧ X.cell? ⟨W.heap.size + 1, 3, none⟩ = some (.string d.v.s) ∧ X.cell? ⟨W.heap.size + 1, 4, none⟩ = some (.slice al d.l.length cl) ∧ X.cell? ⟨W.heap.size + 1, 5, none⟩ = some (.slice af d.f.length cf)) ∧ Below w3.heap.size w3 X) := fun X hX => (by
        obtain ⟨⟨p0, p1, p2, p3, p4⟩, _⟩ := row_five (blk_keep hX HX3.out)
        exact ⟨⟨p0, p1, p2, p3, p4⟩, row_six (blk_keep hX HY3.out), hX⟩)
      obtain ⟨⟨p0, p1, p2, p3, p4⟩, _⟩ := row_five HX3.out
      obtain ⟨z0, z1, z2, z3, z4, z5⟩ := row_six HY3.out
      go_region_held3 (fun X => (X.cell? ⟨W.heap.size, 0, none⟩ = some (.int .i64 t.id) ∧ X.cell? ⟨W.heap.size, 1, none⟩ = some (.string t.nm) ∧ X.cell? ⟨W.heap.size, 2, none⟩ = some (.int .i64 t.rep) ∧ X.cell? ⟨W.heap.size, 3, none⟩ = some (.int .i64 t.kind) ∧ X.cell? ⟨W.heap.size, 4, none⟩ = some (.slice ra t.sub.length rc)) ∧ (X.cell? ⟨W.heap.size + 1, 0, none⟩ = some (.bool d.no) ∧ X.cell? ⟨W.heap.size + 1, 1, none⟩ = some (.int .i64 d.v.k) ∧ X.cell? ⟨W.heap.size + 1, 2, none⟩ = some (.int .i64 d.v.n) ∧ X.cell? ⟨W.heap.size + 1, 3, none⟩ = some (.string d.v.s) ∧ X.cell? ⟨W.heap.size + 1, 4, none⟩ = some (.slice al d.l.length cl) ∧ X.cell? ⟨W.heap.size + 1, 5, none⟩ = some (.slice af d.f.length cf)) ∧ Below w3.heap.size w3 X) (with_reducible refine HN.out _ ?_; repeat' (first | with_reducible assumption | with_reducible exact b0.drew | with_reducible exact b0 | with_reducible refine Below.drew ?_ | with_reducible exact Nat.le_refl _ | with_reducible refine Below.setCell ?_ ?_ _ | with_reducible refine Below.alloc ?_ ?_ _ | with_reducible exact Below.size (by assumption) | (simp; done) | (simp; omega) | omega)) (first
        | (go_at_call 8; (with_reducible refine Calls.mono (HC1.out _ ?_) ?_); (repeat' (first | with_reducible assumption | with_reducible exact b0.drew | with_reducible exact b0 | with_reducible refine Below.drew ?_ | with_reducible refine Below.alloc ?_ ?_ _ | with_reducible exact Below.size (by assumption) | with_reducible exact Nat.le_refl _ | (simp; done) | (simp; omega))); rintro e x1 ⟨⟨na, nc, rfl, hln, hcn⟩, hbx1, hraw1⟩; have HLN : Hid (LiesN x1 (fun _ => True) na t.sub) := hln; clear hln; (first | (have hzz := blk_keep hraw1 hzz0; clear hzz0; have hzz0 := hzz; clear hzz) | (have hzz0 := blk_keep hraw1 (blk_drew (heap_alloc_new _ (.cells #[.bool false, .int .i64 0, .int .i64 0, .string ⟨#[]⟩, .slice none 0 0, .slice none 0 0] 30)))) | (have hzz0 := blk_keep hraw1 (heap_alloc_new _ (.cells #[.bool false, .int .i64 0, .int .i64 0, .string ⟨#[]⟩, .slice none 0 0, .slice none 0 0] 30))) | skip))
        | (go_at_call 9; (with_reducible refine Calls.mono (HC2.out _ ?_) ?_); (repeat' (first | with_reducible assumption | with_reducible exact b0.drew | with_reducible exact b0 | with_reducible refine Below.drew ?_ | with_reducible refine Below.alloc ?_ ?_ _ | with_reducible exact Below.size (by assumption) | with_reducible exact Nat.le_refl _ | (simp; done) | (simp; omega))); rintro e x2 ⟨⟨ib, ie, rfl, hli2⟩, hbx2, hraw2⟩; have HLI : Hid (Lies x2 ib (i64s ids)) := hli2; have HLN2 : Hid (LiesN x2 (fun _ => True) na t.sub) := HLN.out.keep (by first | exact hraw2 | exact bel_alC hraw2); clear hli2; (first | (have hzz := blk_keep hraw2 hzz0; clear hzz0; have hzz0 := hzz; clear hzz) | (have hzz0 := blk_keep hraw2 (blk_drew (heap_alloc_new _ (.cells #[.bool false, .int .i64 0, .int .i64 0, .string ⟨#[]⟩, .slice none 0 0, .slice none 0 0] 30)))) | (have hzz0 := blk_keep hraw2 (heap_alloc_new _ (.cells #[.bool false, .int .i64 0, .int .i64 0, .string ⟨#[]⟩, .slice none 0 0, .slice none 0 0] 30))) | skip))
        | (go_at_call 10; (with_reducible refine Calls.mono (HC3.out _ ?_) ?_); (repeat' (first | with_reducible assumption | with_reducible exact b0.drew | with_reducible exact b0 | with_reducible refine Below.drew ?_ | with_reducible refine Below.alloc ?_ ?_ _ | with_reducible exact Below.size (by assumption) | with_reducible exact Nat.le_refl _ | (simp; done) | (simp; omega))); rintro e x3 ⟨⟨al3, cl3, af3, cf3, rfl, hdl3, hdf3⟩, hbx3, hraw3⟩; have HDL3 : Hid (LiesD x3 (fun _ => True) al3 d.l) := hdl3; have HDF3 : Hid (LiesD x3 (fun _ => True) af3 d.f) := hdf3; have h23 : Below x2.heap.size x2 x3 := (by first | exact hraw3 | exact bel_alC hraw3); have HLN3 : Hid (LiesN x3 (fun _ => True) na t.sub) := HLN2.out.keep h23; have HLI3 : Hid (Lies x3 ib (i64s ids)) := HLI.out.keep h23; have hq3 : w3.heap.size ≤ x3.heap.size := hbx3.size; clear hdl3 hdf3 h23; (first | (have hzz := blk_keep hraw3 hzz0; clear hzz0; have hzz0 := hzz; clear hzz) | (have hzz0 := blk_keep hraw3 (blk_drew (heap_alloc_new _ (.cells #[.bool false, .int .i64 0, .int .i64 0, .string ⟨#[]⟩, .slice none 0 0, .slice none 0 0] 30)))) | (have hzz0 := blk_keep hraw3 (heap_alloc_new _ (.cells #[.bool false, .int .i64 0, .int .i64 0, .string ⟨#[]⟩, .slice none 0 0, .slice none 0 0] 30))) | skip))
        | (go_at_call 7; (with_reducible refine Calls.mono (HC4.out _ na nc ib ie al3 cl3 af3 cf3 ?_ hcn ?_ ?_ ?_ ?_) ?_); (repeat' (first | with_reducible assumption | with_reducible exact b0.drew | with_reducible exact b0 | with_reducible refine Below.drew ?_ | with_reducible refine Below.alloc ?_ ?_ _ | with_reducible exact Below.size (by assumption) | with_reducible exact Nat.le_refl _ | (simp; done) | (simp; omega))); (first | exact HLN3.out | exact HLN3.out.keep ((Below.refl _ _).alloc (Nat.le_refl _) _)); (first | exact HLI3.out | exact HLI3.out.keep ((Below.refl _ _).alloc (Nat.le_refl _) _)); (first | exact HDL3.out | exact HDL3.out.keep ((Below.refl _ _).alloc (Nat.le_refl _) _)); (first | exact HDF3.out | exact HDF3.out.keep ((Below.refl _ _).alloc (Nat.le_refl _) _)); rintro e x4 ⟨⟨yd, ev, yl, ycl, yf, ycf, rfl, hcu⟩, hbx4, hraw4⟩; have HCU : Hid _ := hcu; have HBX4 : Hid (Below w3.heap.size w3 x4) := hbx4; have hq4 : w3.heap.size ≤ x4.heap.size := hbx4.size; clear hcu; (first | (have hzz := blk_keep hraw4 hzz0; clear hzz0; have hzz0 := hzz; clear hzz) | (have hzz0 := blk_keep hraw4 (blk_drew (heap_alloc_new _ (.cells #[.bool false, .int .i64 0, .int .i64 0, .string ⟨#[]⟩, .slice none 0 0, .slice none 0 0] 30)))) | (have hzz0 := blk_keep hraw4 (heap_alloc_new _ (.cells #[.bool false, .int .i64 0, .int .i64 0, .string ⟨#[]⟩, .slice none 0 0, .slice none 0 0] 30))) | skip); (first | (obtain ⟨v0, v1, v2, v3, v4, v5⟩ := row_six hzz0; obtain ⟨u0, u1, u2, u3, u4, u5⟩ := row_six_z hzz0; have HZZ : Hid _ := hzz0; clear hzz0) | skip)))
      all_goals
        have hr1 := hraw1.size
        have hr2 := hraw2.size
        have hr3 := hraw3.size
        have hs1 := hbx1.size
        have hs2 := hbx2.size
        go_wp2_with fail
        go_meet
        first
          | (revert HZZ; intro HZZ
             simp at hr1 hr2 hr3
             refine ⟨_, yd, yl, ycl, yf, ycf, rfl, ?_, six_below HBX4.out ?_ _ _ _ _ _ _, six_row HZZ.out _ _ _ _ _ _, CtU.off6 HCU.out ?_ ?_ _ _ _ _ _ _⟩
             all_goals (try (show _ ≤ _))
             all_goals first | (simp; done) | (simp; omega) | omega)
          | (refine ⟨x4.heap.size, yd, yl, ycl, yf, ycf, rfl, hq4, HBX4.out.alloc HBX4.out.size _, heap_alloc_new _ _, ?_⟩
             exact (CtU.keep HCU.out ((Below.refl _ _).alloc (Nat.le_refl _) _)).low hq3)
    case rest =>
      obtain ⟨gx, yd, yl, ycl, yf, ycf, rfl, HGx, HB34, HYx, HCU⟩ := hcut
      rename World => w4
      have HB4 : Hid (Below W.heap.size W w4) := bel_nextC HB3.out HB34.out
      rcases HCU.out with ⟨ty, v, rfl⟩ | ⟨rfl, hv, hck, hin, hne, rfl, hly, hlf⟩
      · go_wp2
        go_ret
        exact ⟨rfl, HB4.out⟩
      obtain ⟨L, HLn⟩ := hid_name (askL ids t)
      rw [HLn.out] at hne hly hlf HYx
      obtain ⟨p, HPn⟩ := hid_name (rkT L t)
      rw [HPn.out] at hly hlf HYx
      obtain ⟨yd, HYn⟩ := hid_name (cutT p t d)
      rw [HYn.out] at hly hlf HYx
      have HV : Hid (vldN t = 0) := hv
      have HCk : Hid (chk false t d = 0) := hck
      have HIn : Hid (∀ i ∈ ids, i ∈ (ndT t).map Tr.id) := hin
      have HNe : Hid (rkL L t.sub ≠ []) := hne
      have HYL : Hid (LiesD w4 (fun b => w3.heap.size ≤ b) yl yd.l) := hly
      have HYF : Hid (LiesD w4 (fun b => w3.heap.size ≤ b) yf yd.f) := hlf
      have hbb := inB_cnt t 0 [] (right_parts hv).1
      have HPr : Hid (∀ X a' c' ib ie, Below W.heap.size W X → t.sub.length ≤ c' → LiesN X (fun _ => True) a' t.sub → Lies X ib (i64s ids) → Calls Tryd.prog 11 #[.agg #[.int .i64 t.id, .string t.nm, .int .i64 t.rep, .int .i64 t.kind, .slice a' t.sub.length c'], .slice ib ids.length ie] X fun e w' => (∃ pa pc, e = .returned (.tuple #[.agg #[.int .i64 t.id, .string t.nm, .int .i64 t.rep, .int .i64 t.kind, .slice pa p.sub.length pc], .nilIface]) ∧ LiesN w' (fun b => X.heap.size ≤ b) pa p.sub ∧ p.sub.length ≤ pc) ∧ Below X.heap.size X w') := fun X a' c' ib ie hX hc h1 h2 => (project_any t 6 hbb.2.2 (by omega) HSm.out HV.out (by omega) ids ib ie (by omega) HIx.out a' c' _ X h1 hc h2 eb es en eo ⟨(HEr.out X hX).1.b, (HEr.out X hX).1.s, (HEr.out X hX).2.1⟩ (HEr.out X hX).2.2).mono fun e w' h => ⟨(by
        have hps : rkL L t.sub = p.sub := by rw [← HPn.out]; exact (rkT_id L t).2.2.2.2.symm
        obtain ⟨h, _⟩ := h
        unfold PrR at h
        rw [both_rightK HV.out ids, HLn.out, hps] at h
        rcases h with ⟨⟨i, hi, hn⟩, _⟩ | ⟨_, h, _⟩ | ⟨_, _, pa, pc, h1, h2, h3⟩
        · exact absurd (HIn.out i hi) hn
        · exact absurd (by rw [hps]; exact h) HNe.out
        · exact ⟨pa, pc, h1, h2, h3⟩), h.2⟩
      clear hbb hv hck hin hne hly hlf HCU
      have HX4 : Hid _ := blk_keep HB34.out HX3.out
      have HY4 : Hid _ := blk_keep HB34.out HY3.out
      obtain ⟨⟨p0, p1, p2, p3, p4⟩, _⟩ := row_five HX4.out
      go_wp2_with fail
      refine Calls.mono (HOw.out w4 HB4.out) ?_
      rintro e w5 ⟨⟨na, nc, rfl, hl5, hc5⟩, hb5⟩
      have HB5 : Hid (Below W.heap.size W w5) := bel_nextC HB4.out hb5
      have HN5 : Hid (LiesN w5 (fun _ => True) na t.sub) := hl5.stay (fun _ _ _ => trivial) (fun _ _ _ => rfl)
      have HX5 : Hid _ := blk_keep hb5 HX4.out
      have HY5 : Hid _ := blk_keep hb5 HY4.out
      have HYx5 : Hid _ := blk_keep hb5 HYx.out
      have HYL5 : Hid (LiesD w5 (fun b => w3.heap.size ≤ b) yl yd.l) := HYL.out.keep hb5
      have HYF5 : Hid (LiesD w5 (fun b => w3.heap.size ≤ b) yf yd.f) := HYF.out.keep hb5
      clear hl5 hb5 p0 p1 p2 p3 p4
      go_wp2_with fail
      refine Calls.mono (HIo.out w5 HB5.out) ?_
      rintro e w6 ⟨⟨ib, ie, rfl, hli6⟩, hb6⟩
      have HB6 : Hid (Below W.heap.size W w6) := bel_nextC HB5.out hb6
      have HP6 : Hid _ := HPr.out w6 na nc ib ie HB6.out hc5 (HN5.out.keep hb6) hli6
      have HX6 : Hid _ := blk_keep hb6 HX5.out
      have HY6 : Hid _ := blk_keep hb6 HY5.out
      have HYx6 : Hid _ := blk_keep hb6 HYx5.out
      have HYL6 : Hid (LiesD w6 (fun b => w3.heap.size ≤ b) yl yd.l) := HYL5.out.keep hb6
      have HYF6 : Hid (LiesD w6 (fun b => w3.heap.size ≤ b) yf yd.f) := HYF5.out.keep hb6
      clear hli6 hb6
      go_wp2_with fail
      refine Calls.mono HP6.out ?_
      rintro e w7 ⟨⟨pa, pc, rfl, hlp, hpc⟩, hb7⟩
      have HB7 : Hid (Below W.heap.size W w7) := bel_nextC HB6.out hb7
      have hb78 : Below w7.heap.size w7 (w7.alloc (.cells #[.int .i64 t.id, .string t.nm, .int .i64 t.rep, .int .i64 t.kind, .slice pa p.sub.length pc] 24)) := (Below.refl _ _).alloc (Nat.le_refl _) _
      have HP8 : Hid ((w7.alloc (.cells #[.int .i64 t.id, .string t.nm, .int .i64 t.rep, .int .i64 t.kind, .slice pa p.sub.length pc] 24)).heap[w7.heap.size]? = some (.cells #[.int .i64 t.id, .string t.nm, .int .i64 t.rep, .int .i64 t.kind, .slice pa p.sub.length pc] 24 (0, 0))) := heap_alloc_new _ _
      have H78 : Hid _ := hb78
      obtain ⟨w8, HW8⟩ := hid_name (w7.alloc (.cells #[.int .i64 t.id, .string t.nm, .int .i64 t.rep, .int .i64 t.kind, .slice pa p.sub.length pc] 24))
      rw [HW8.out] at HP8 H78
      obtain ⟨gp, HGp⟩ := hid_name w7.heap.size
      rw [HGp.out] at HP8
      have HB8 : Hid (Below W.heap.size W w8) := bel_nextC HB7.out H78.out
      have HX8 : Hid _ := blk_keep H78.out (blk_keep hb7 HX6.out)
      have HY8 : Hid _ := blk_keep H78.out (blk_keep hb7 HY6.out)
      have HYx8 : Hid _ := blk_keep H78.out (blk_keep hb7 HYx6.out)
      have HYL8 : Hid (LiesD w8 (fun b => w3.heap.size ≤ b) yl yd.l) := (HYL6.out.keep hb7).keep H78.out
      have HYF8 : Hid (LiesD w8 (fun b => w3.heap.size ≤ b) yf yd.f) := (HYF6.out.keep hb7).keep H78.out
      have HLP8 : Hid (LiesN w8 (fun _ => True) pa p.sub) := (hlp.stay (fun _ _ _ => trivial) (fun _ _ _ => rfl)).keep H78.out
      clear hb7 hb78 hlp HP6
      go_upto_region 8 with fail
      rw [HW8.out, HGp.out]
      have HK : Hid (kept L t = true) := kept_of HNe.out
      have HPe : Hid (p.id = t.id ∧ p.nm = t.nm ∧ p.rep = t.rep ∧ p.kind = t.kind) := (by
        obtain ⟨e1, e2, e3, e4, _⟩ := rkT_id L t
        rw [HPn.out] at e1 e2 e3 e4
        exact ⟨e1, e2, e3, e4⟩)
      have HPv : Hid (vldN p = 0) := (by show _ = _; rw [← HPn.out]; exact rk_right HV.out HK.out)
      have HPs : Hid p.Sm := (by rw [← HPn.out]; exact rk_sm L _ t (Nat.lt_succ_self _) HSm.out)
      have HPd : Hid (p.Dp 6) := (by rw [← HPn.out]; exact rk_dp L 6 t (inB_cnt t 0 [] (right_parts HV.out).1).2.2)
      have HYs : Hid yd.Sm := (by rw [← HYn.out]; exact cutT_sm p t d HPs.out HDs.out)
      have HYc : Hid (chk false p yd = 0) := (by
        show _ = _
        have hr5 := right_parts HV.out
        rw [← HYn.out, ← HPn.out]
        exact (chk_cut L (SizeOf.sizeOf t + 1) t (Nat.lt_succ_self _) (right_idU hr5.2.1 hr5.2.2.2.2) (right_lfOk hr5.2.2.1)).2 d HCk.out)
      have HOy : Hid (∀ X, Below w8.heap.size w8 X → Calls Tryd.prog 10 #[.agg #[.bool yd.no, .int .i64 yd.v.k, .int .i64 yd.v.n, .string yd.v.s, .slice yl yd.l.length ycl, .slice yf yd.f.length ycf]] X fun e w' => (∃ yl' ycl' yf' ycf', e = .returned (.agg #[.bool yd.no, .int .i64 yd.v.k, .int .i64 yd.v.n, .string yd.v.s, .slice yl' yd.l.length ycl', .slice yf' yd.f.length ycf']) ∧ LiesD w' (fun _ => True) yl' yd.l ∧ LiesD w' (fun _ => True) yf' yd.f) ∧ Below w8.heap.size w8 w' ∧ Below X.heap.size X w') := fun X hX => (ownsD yd HYs.out _ yl ycl yf ycf X (HYL8.out.keep hX) (HYF8.out.keep hX)).mono fun e w' h => ⟨(by obtain ⟨⟨al', cl', af', cf', h1, h2, h3⟩, _⟩ := h; exact ⟨al', cl', af', cf', h1, h2.stay (fun _ _ _ => trivial) (fun _ _ _ => rfl), h3.stay (fun _ _ _ => trivial) (fun _ _ _ => rfl)⟩), hX.trans (h.2.mono hX.size), h.2⟩
      have HChk : Hid (∀ X yl' ycl' yf' ycf', Below w8.heap.size w8 X → LiesD X (fun _ => True) yl' yd.l → LiesD X (fun _ => True) yf' yd.f → Calls Tryd.prog 12 #[.agg #[.int .i64 t.id, .string t.nm, .int .i64 t.rep, .int .i64 t.kind, .slice pa p.sub.length pc], .agg #[.bool yd.no, .int .i64 yd.v.k, .int .i64 yd.v.n, .string yd.v.s, .slice yl' yd.l.length ycl', .slice yf' yd.f.length ycf']] X fun e w' => e = .returned .nilIface ∧ Below X.heap.size X w') := fun X yl' ycl' yf' ycf' hX h1 h2 => (by
        obtain ⟨e1, e2, e3, e4⟩ := HPe.out
        have hE := HEr.out X (bel_nextC HB8.out hX)
        have h := checkD_right eb es ek en p yd 6 HPd.out (by omega) HPs.out HYs.out HPv.out _ _ pa pc hpc yl' ycl' yf' ycf' X hE.1 hE.2.1 (HLP8.out.keep hX) h1 h2
        rw [HYc.out] at h
        unfold nodeV datumV at h
        rw [e1, e2, e3, e4] at h
        exact h)
      clear HW8
      go_cut [64] (fun x wx => x = .bool false ∧ Hid (Below w8.heap.size w8 wx))
      case first => as_aux_lemma =>
        have b0 : Below w8.heap.size w8 w8 := Below.refl _ _
        have HN : Hid (∀ X, Below w8.heap.size w8 X → (X.cell? ⟨gp, 0, none⟩ = some (.int .i64 t.id) ∧ X.cell? ⟨gp, 1, none⟩ = some (.string t.nm) ∧ X.cell? ⟨gp, 2, none⟩ = some (.int .i64 t.rep) ∧ X.cell? ⟨gp, 3, none⟩ = some (.int .i64 t.kind) ∧ X.cell? ⟨gp, 4, none⟩ = some (.slice pa p.sub.length pc)) ∧ (X.cell? ⟨gx, 0, none⟩ = some (.bool yd.no) ∧ X.cell? ⟨gx, 1, none⟩ = some (.int .i64 yd.v.k) ∧ X.cell? ⟨gx, 2, none⟩ = some (.int .i64 yd.v.n) ∧ X.cell? ⟨gx, 3, none⟩ = some (.string yd.v.s) ∧ X.cell? ⟨gx, 4, none⟩ = some (.slice yl yd.l.length ycl) ∧ X.cell? ⟨gx, 5, none⟩ = some (.slice yf yd.f.length ycf)) ∧ Below w8.heap.size w8 X) := fun X hX => (by
          obtain ⟨⟨p0, p1, p2, p3, p4⟩, _⟩ := row_five (blk_keep hX HP8.out)
          exact ⟨⟨p0, p1, p2, p3, p4⟩, row_six (blk_keep hX HYx8.out), hX⟩)
        obtain ⟨⟨p0, p1, p2, p3, p4⟩, _⟩ := row_five HP8.out
        obtain ⟨z0, z1, z2, z3, z4, z5⟩ := row_six HYx8.out
        go_region_held3 (fun X => (X.cell? ⟨gp, 0, none⟩ = some (.int .i64 t.id) ∧ X.cell? ⟨gp, 1, none⟩ = some (.string t.nm) ∧ X.cell? ⟨gp, 2, none⟩ = some (.int .i64 t.rep) ∧ X.cell? ⟨gp, 3, none⟩ = some (.int .i64 t.kind) ∧ X.cell? ⟨gp, 4, none⟩ = some (.slice pa p.sub.length pc)) ∧ (X.cell? ⟨gx, 0, none⟩ = some (.bool yd.no) ∧ X.cell? ⟨gx, 1, none⟩ = some (.int .i64 yd.v.k) ∧ X.cell? ⟨gx, 2, none⟩ = some (.int .i64 yd.v.n) ∧ X.cell? ⟨gx, 3, none⟩ = some (.string yd.v.s) ∧ X.cell? ⟨gx, 4, none⟩ = some (.slice yl yd.l.length ycl) ∧ X.cell? ⟨gx, 5, none⟩ = some (.slice yf yd.f.length ycf)) ∧ Below w8.heap.size w8 X) (with_reducible refine HN.out _ ?_; repeat' (first | with_reducible assumption | with_reducible exact b0.drew | with_reducible exact b0 | with_reducible refine Below.drew ?_ | with_reducible exact Nat.le_refl _ | with_reducible refine Below.setCell ?_ ?_ _ | with_reducible refine Below.alloc ?_ ?_ _ | with_reducible exact Below.size (by assumption) | (simp; done) | (simp; omega) | omega)) (first
          | (go_at_call 10; (with_reducible refine Calls.mono (HOy.out _ ?_) ?_); (repeat' (first | with_reducible assumption | with_reducible exact b0.drew | with_reducible exact b0 | with_reducible refine Below.drew ?_ | with_reducible refine Below.alloc ?_ ?_ _ | with_reducible exact Below.size (by assumption) | with_reducible exact Nat.le_refl _ | (simp; done) | (simp; omega))); rintro e x1 ⟨⟨yl', ycl', yf', ycf', rfl, hyl', hyf'⟩, hbx1, hraw1⟩; have HYL' : Hid (LiesD x1 (fun _ => True) yl' yd.l) := hyl'; have HYF' : Hid (LiesD x1 (fun _ => True) yf' yd.f) := hyf'; clear hyl' hyf')
          | (go_at_call 12; (with_reducible refine Calls.mono (HChk.out _ yl' ycl' yf' ycf' hbx1 HYL'.out HYF'.out) ?_); rintro e x2 ⟨rfl, hraw2⟩; have hbx2 : Below w8.heap.size w8 x2 := hbx1.trans (hraw2.mono hbx1.size)))
        all_goals
          go_wp2_with fail
          go_meet
          exact ⟨by simp, hbx2⟩
      case rest =>
        obtain ⟨rfl, HB89⟩ := hcut
        rename World => w9
        have HB9 : Hid (Below W.heap.size W w9) := bel_nextC HB8.out HB89.out
        have HX9 : Hid _ := blk_keep HB89.out HX8.out
        have HY9 : Hid _ := blk_keep HB89.out HY8.out
        have HYx9 : Hid _ := blk_keep HB89.out HYx8.out
        have HP9 : Hid _ := blk_keep HB89.out HP8.out
        have HYL9 : Hid (LiesD w9 (fun b => w3.heap.size ≤ b) yl yd.l) := HYL8.out.keep HB89.out
        have HYF9 : Hid (LiesD w9 (fun b => w3.heap.size ≤ b) yf yd.f) := HYF8.out.keep HB89.out
        have HLP9 : Hid (LiesN w9 (fun _ => True) pa p.sub) := HLP8.out.keep HB89.out
        have HLv : Hid (Calls Tryd.prog 13 #[.agg #[.int .i64 t.id, .string t.nm, .int .i64 t.rep, .int .i64 t.kind, .slice pa p.sub.length pc]] w9 fun e w' => (∃ lv, e = .returned (.tuple #[lv, .nilIface]) ∧ LvR w' w9.heap.size lv (lvsT p)) ∧ Below w9.heap.size w9 w') := (by
          obtain ⟨e1, e2, e3, e4⟩ := HPe.out
          have hE := HEr.out w9 HB9.out
          have h := leaves_right p 6 HPd.out (by omega) HPs.out pa pc _ w9 HLP9.out hpc eb es en hE.1.b hE.1.s hE.2.1 HPv.out
          unfold nodeV at h
          rw [e1, e2, e3, e4] at h
          exact h)
        obtain ⟨⟨p0, p1, p2, p3, p4⟩, _⟩ := row_five HP9.out
        clear HOy HChk
        go_wp2_with fail
        refine Calls.mono HLv.out ?_
        rintro e w10 ⟨⟨lv, rfl, hlv⟩, hb10⟩
        have HB10 : Hid (Below W.heap.size W w10) := bel_nextC HB9.out hb10
        have H910 : Hid (Below w9.heap.size w9 w10) := hb10
        have HLvR : Hid (LvR w10 w9.heap.size lv (lvsT p)) := hlv
        obtain ⟨la, lc, rfl⟩ : ∃ la lc, lv = .slice la (lvsT p).length lc := (by obtain ⟨pvs, _, h2, _⟩ := hlv; exact own_sl h2)
        have hll := lvs_lenC HPv.out
        obtain ⟨ls, HLs⟩ := hid_name (lvsT p)
        rw [HLs.out] at HLvR hll ⊢
        clear hlv hb10 HLv p0 p1 p2 p3 p4
        go_wp2_with fail
        go_loopw [12] (fun x wr => ∃ i : Nat, i ≤ ls.length ∧ x = .int .i64 i ∧ Hid (Below w10.heap.size w10 wr)) (fun x _ => ls.length - (intOf x).toNat)
        case atStart => exact ⟨0, Nat.zero_le _, rfl, Below.refl _ _⟩
        case round =>
          obtain ⟨i, hik, rfl, HBr⟩ := hrel
          rename World => wr
          have HBw : Hid (Below W.heap.size W wr) := bel_nextC HB10.out HBr.out
          by_cases hlt : i < ls.length
          rotate_left
          · obtain rfl : i = ls.length := by omega
            go_wp2
            go_ret
            exact ⟨rfl, HBw.out⟩
          have HLr : Hid (LvR wr w9.heap.size (.slice la ls.length lc) ls) := HLvR.out.stay (fun k cs e hk _ _ => HBr.out.block k (lt_of_block hk))
          obtain ⟨lb, cap, qa, qc, elv, ⟨g0, _⟩, _⟩ := HLr.out.at_ i hlt
          injection elv with ela _ elc
          subst ela elc
          have hip : i < (lvsT p).length := by rw [HLs.out]; exact hlt
          have hmem : ls[i] ∈ lvsT p := by rw [HLs.out]; exact List.getElem_mem hlt
          have hmt : ls[i] ∈ lvsT t := (by have h := hmem; rw [← HPn.out] at h; exact lv_cut HV.out h)
          obtain ⟨k, hk, ekk⟩ := List.getElem_of_mem hmt
          have ei : (lvsT p)[i] = ls[i] := by simp only [HLs.out]
          obtain ⟨q, z, hg⟩ := right_leaf HV.out ls[i] hmt
          obtain ⟨q', z', hg'⟩ := right_leaf HPv.out ls[i] hmem
          have HVl : Hid ((ons p yd).flatMap (vo p q') = (ons t d).flatMap (vo t q)) := (by
            show _ = _
            have h := hg'
            rw [← HPn.out] at h
            rw [← HYn.out, ← HPn.out]
            exact vals_cut HV.out hg h d)
          have HUs : Hid (((ons t d).flatMap (vo t q)).length ≤ 3000) := Nat.le_trans (vo_ons_le t q d) HWt.out
          have HW1 : Hid (∀ X a' c' al' cl' af' cf', Below wr.heap.size wr X → t.sub.length ≤ c' → LiesN X (fun _ => True) a' t.sub → LiesD X (fun _ => True) al' d.l → LiesD X (fun _ => True) af' d.f → Calls Tryd.prog 14 #[.agg #[.int .i64 t.id, .string t.nm, .int .i64 t.rep, .int .i64 t.kind, .slice a' t.sub.length c'], .agg #[.bool d.no, .int .i64 d.v.k, .int .i64 d.v.n, .string d.v.s, .slice al' d.l.length cl', .slice af' d.f.length cf'], .int .i64 ls[i].id] X fun e w' => (∃ v, e = .returned (.tuple #[v, .nilIface]) ∧ VsR w' X.heap.size v ((ons t d).flatMap (vo t q))) ∧ Below wr.heap.size wr w' ∧ Below X.heap.size X w') := fun X a' c' al' cl' af' cf' hX h1 h2 h3 h4 => (by
            have hE := HEr.out X (bel_nextC HBw.out hX)
            have h := walk_any eb es ek en t n HDp.out hn HSm.out HV.out d HDs.out HCk.out k hk q z (by rw [ekk]; exact hg) (by have := HUs.out; omega) a' c' h1 al' cl' af' cf' _ _ X hE.1 hE.2.1 h2 h3 h4
            rw [ekk] at h
            exact h.mono fun e w' h => ⟨h.1, hX.trans (h.2.mono hX.size), h.2⟩)
          have HW2 : Hid (∀ X yl' ycl' yf' ycf', Below wr.heap.size wr X → LiesD X (fun _ => True) yl' yd.l → LiesD X (fun _ => True) yf' yd.f → Calls Tryd.prog 14 #[.agg #[.int .i64 t.id, .string t.nm, .int .i64 t.rep, .int .i64 t.kind, .slice pa p.sub.length pc], .agg #[.bool yd.no, .int .i64 yd.v.k, .int .i64 yd.v.n, .string yd.v.s, .slice yl' yd.l.length ycl', .slice yf' yd.f.length ycf'], .int .i64 ls[i].id] X fun e w' => (∃ v, e = .returned (.tuple #[v, .nilIface]) ∧ VsR w' X.heap.size v ((ons t d).flatMap (vo t q))) ∧ Below wr.heap.size wr w' ∧ Below X.heap.size X w') := fun X yl' ycl' yf' ycf' hX h3 h4 => (by
            obtain ⟨e1, e2, e3, e4⟩ := HPe.out
            have hE := HEr.out X (bel_nextC HBw.out hX)
            have hlp := (HLP9.out.keep H910.out).keep (HBr.out.trans (hX.mono HBr.out.size))
            have h := walk_any eb es ek en p 6 HPd.out (by omega) HPs.out HPv.out yd HYs.out HYc.out i hip q' z' (by rw [ei]; exact hg') (by rw [HVl.out]; have := HUs.out; omega) pa pc hpc yl' ycl' yf' ycf' _ _ X hE.1 hE.2.1 hlp h3 h4
            unfold nodeV datumV at h
            rw [ei, HVl.out, e1, e2, e3, e4] at h
            exact h.mono fun e w' h => ⟨h.1, hX.trans (h.2.mono hX.size), h.2⟩)
          have HO1 : Hid (∀ X, Below wr.heap.size wr X → Calls Tryd.prog 8 #[.agg #[.int .i64 t.id, .string t.nm, .int .i64 t.rep, .int .i64 t.kind, .slice ra t.sub.length rc]] X fun e w' => (∃ a' c', e = .returned (.agg #[.int .i64 t.id, .string t.nm, .int .i64 t.rep, .int .i64 t.kind, .slice a' t.sub.length c']) ∧ LiesN w' (fun _ => True) a' t.sub ∧ t.sub.length ≤ c') ∧ Below wr.heap.size wr w' ∧ Below X.heap.size X w') := fun X hX => (HOw.out X (bel_nextC HBw.out hX)).mono fun e w' h => ⟨(by obtain ⟨⟨a', c', h1, h2, h3⟩, _⟩ := h; exact ⟨a', c', h1, h2.stay (fun _ _ _ => trivial) (fun _ _ _ => rfl), h3⟩), hX.trans (h.2.mono hX.size), h.2⟩
          have HO2 : Hid (∀ X, Below wr.heap.size wr X → Calls Tryd.prog 10 #[.agg #[.bool d.no, .int .i64 d.v.k, .int .i64 d.v.n, .string d.v.s, .slice al d.l.length cl, .slice af d.f.length cf]] X fun e w' => (∃ al' cl' af' cf', e = .returned (.agg #[.bool d.no, .int .i64 d.v.k, .int .i64 d.v.n, .string d.v.s, .slice al' d.l.length cl', .slice af' d.f.length cf']) ∧ LiesD w' (fun _ => True) al' d.l ∧ LiesD w' (fun _ => True) af' d.f) ∧ Below wr.heap.size wr w' ∧ Below X.heap.size X w') := fun X hX => (HOd.out X (bel_nextC HBw.out hX)).mono fun e w' h => ⟨(by obtain ⟨⟨al', cl', af', cf', h1, h2, h3⟩, _⟩ := h; exact ⟨al', cl', af', cf', h1, h2.stay (fun _ _ _ => trivial) (fun _ _ _ => rfl), h3.stay (fun _ _ _ => trivial) (fun _ _ _ => rfl)⟩), hX.trans (h.2.mono hX.size), h.2⟩
          have HO3 : Hid (∀ X, Below wr.heap.size wr X → Calls Tryd.prog 10 #[.agg #[.bool yd.no, .int .i64 yd.v.k, .int .i64 yd.v.n, .string yd.v.s, .slice yl yd.l.length ycl, .slice yf yd.f.length ycf]] X fun e w' => (∃ yl' ycl' yf' ycf', e = .returned (.agg #[.bool yd.no, .int .i64 yd.v.k, .int .i64 yd.v.n, .string yd.v.s, .slice yl' yd.l.length ycl', .slice yf' yd.f.length ycf']) ∧ LiesD w' (fun _ => True) yl' yd.l ∧ LiesD w' (fun _ => True) yf' yd.f) ∧ Below wr.heap.size wr w' ∧ Below X.heap.size X w') := fun X hX => (ownsD yd HYs.out _ yl ycl yf ycf X ((HYL9.out.keep H910.out).keep (HBr.out.trans (hX.mono HBr.out.size))) ((HYF9.out.keep H910.out).keep (HBr.out.trans (hX.mono HBr.out.size)))).mono fun e w' h => ⟨(by obtain ⟨⟨al', cl', af', cf', h1, h2, h3⟩, _⟩ := h; exact ⟨al', cl', af', cf', h1, h2.stay (fun _ _ _ => trivial) (fun _ _ _ => rfl), h3.stay (fun _ _ _ => trivial) (fun _ _ _ => rfl)⟩), hX.trans (h.2.mono hX.size), h.2⟩
          have HC9 : Hid (∀ X, Below wr.heap.size wr X → (X.cell? ⟨W.heap.size, 0, none⟩ = some (.int .i64 t.id) ∧ X.cell? ⟨W.heap.size, 1, none⟩ = some (.string t.nm) ∧ X.cell? ⟨W.heap.size, 2, none⟩ = some (.int .i64 t.rep) ∧ X.cell? ⟨W.heap.size, 3, none⟩ = some (.int .i64 t.kind) ∧ X.cell? ⟨W.heap.size, 4, none⟩ = some (.slice ra t.sub.length rc)) ∧ (X.cell? ⟨W.heap.size + 1, 0, none⟩ = some (.bool d.no) ∧ X.cell? ⟨W.heap.size + 1, 1, none⟩ = some (.int .i64 d.v.k) ∧ X.cell? ⟨W.heap.size + 1, 2, none⟩ = some (.int .i64 d.v.n) ∧ X.cell? ⟨W.heap.size + 1, 3, none⟩ = some (.string d.v.s) ∧ X.cell? ⟨W.heap.size + 1, 4, none⟩ = some (.slice al d.l.length cl) ∧ X.cell? ⟨W.heap.size + 1, 5, none⟩ = some (.slice af d.f.length cf)) ∧ (X.cell? ⟨gp, 0, none⟩ = some (.int .i64 t.id) ∧ X.cell? ⟨gp, 1, none⟩ = some (.string t.nm) ∧ X.cell? ⟨gp, 2, none⟩ = some (.int .i64 t.rep) ∧ X.cell? ⟨gp, 3, none⟩ = some (.int .i64 t.kind) ∧ X.cell? ⟨gp, 4, none⟩ = some (.slice pa p.sub.length pc)) ∧ (X.cell? ⟨gx, 0, none⟩ = some (.bool yd.no) ∧ X.cell? ⟨gx, 1, none⟩ = some (.int .i64 yd.v.k) ∧ X.cell? ⟨gx, 2, none⟩ = some (.int .i64 yd.v.n) ∧ X.cell? ⟨gx, 3, none⟩ = some (.string yd.v.s) ∧ X.cell? ⟨gx, 4, none⟩ = some (.slice yl yd.l.length ycl) ∧ X.cell? ⟨gx, 5, none⟩ = some (.slice yf yd.f.length ycf))) := fun X hX => (by
            have h := H910.out.trans ((HBr.out.trans (hX.mono HBr.out.size)).mono H910.out.size)
            obtain ⟨⟨p0, p1, p2, p3, p4⟩, _⟩ := row_five (blk_keep h HX9.out)
            obtain ⟨⟨q0, q1, q2, q3, q4⟩, _⟩ := row_five (blk_keep h HP9.out)
            exact ⟨⟨p0, p1, p2, p3, p4⟩, row_six (blk_keep h HY9.out), ⟨q0, q1, q2, q3, q4⟩, row_six (blk_keep h HYx9.out)⟩)
          obtain ⟨us, HUn⟩ := hid_name ((ons t d).flatMap (vo t q))
          obtain ⟨fid, HFi⟩ := hid_name ls[i].id
          rw [HUn.out] at HUs HW1 HW2
          rw [HFi.out] at g0 HW1 HW2
          clear hmem hmt hg hg' HVl ei ekk
          go_upto_region 14 with fail
          go_cut [13, 14] (fun x y wx => y = .nilIface ∧ Hid (VsR wx wr.heap.size x us) ∧ Hid (Below wr.heap.size wr wx))
          case first => as_aux_lemma =>
            have b0 : Below wr.heap.size wr wr := Below.refl _ _
            have HN : Hid (∀ X, Below wr.heap.size wr X → (X.cell? ⟨W.heap.size, 0, none⟩ = some (.int .i64 t.id) ∧ X.cell? ⟨W.heap.size, 1, none⟩ = some (.string t.nm) ∧ X.cell? ⟨W.heap.size, 2, none⟩ = some (.int .i64 t.rep) ∧ X.cell? ⟨W.heap.size, 3, none⟩ = some (.int .i64 t.kind) ∧ X.cell? ⟨W.heap.size, 4, none⟩ = some (.slice ra t.sub.length rc)) ∧ (X.cell? ⟨W.heap.size + 1, 0, none⟩ = some (.bool d.no) ∧ X.cell? ⟨W.heap.size + 1, 1, none⟩ = some (.int .i64 d.v.k) ∧ X.cell? ⟨W.heap.size + 1, 2, none⟩ = some (.int .i64 d.v.n) ∧ X.cell? ⟨W.heap.size + 1, 3, none⟩ = some (.string d.v.s) ∧ X.cell? ⟨W.heap.size + 1, 4, none⟩ = some (.slice al d.l.length cl) ∧ X.cell? ⟨W.heap.size + 1, 5, none⟩ = some (.slice af d.f.length cf)) ∧ X.cell? ⟨lb, i * 5, none⟩ = some (.int .i64 fid) ∧ Below wr.heap.size wr X) := fun X hX => (by
              obtain ⟨h1, h2, _⟩ := HC9.out X hX
              exact ⟨h1, h2, (hX.cell (World.block_lt_of_cell? wr _ g0)).trans g0, hX⟩)
            obtain ⟨⟨p0, p1, p2, p3, p4⟩, ⟨z0, z1, z2, z3, z4, z5⟩, _, _⟩ := HN.out wr b0
            go_region_held3 (fun X => (X.cell? ⟨W.heap.size, 0, none⟩ = some (.int .i64 t.id) ∧ X.cell? ⟨W.heap.size, 1, none⟩ = some (.string t.nm) ∧ X.cell? ⟨W.heap.size, 2, none⟩ = some (.int .i64 t.rep) ∧ X.cell? ⟨W.heap.size, 3, none⟩ = some (.int .i64 t.kind) ∧ X.cell? ⟨W.heap.size, 4, none⟩ = some (.slice ra t.sub.length rc)) ∧ (X.cell? ⟨W.heap.size + 1, 0, none⟩ = some (.bool d.no) ∧ X.cell? ⟨W.heap.size + 1, 1, none⟩ = some (.int .i64 d.v.k) ∧ X.cell? ⟨W.heap.size + 1, 2, none⟩ = some (.int .i64 d.v.n) ∧ X.cell? ⟨W.heap.size + 1, 3, none⟩ = some (.string d.v.s) ∧ X.cell? ⟨W.heap.size + 1, 4, none⟩ = some (.slice al d.l.length cl) ∧ X.cell? ⟨W.heap.size + 1, 5, none⟩ = some (.slice af d.f.length cf)) ∧ X.cell? ⟨lb, i * 5, none⟩ = some (.int .i64 fid) ∧ Below wr.heap.size wr X) (with_reducible refine HN.out _ ?_; repeat' (first | with_reducible assumption | with_reducible exact b0.drew | with_reducible exact b0 | with_reducible refine Below.drew ?_ | with_reducible exact Nat.le_refl _ | with_reducible refine Below.setCell ?_ ?_ _ | with_reducible refine Below.alloc ?_ ?_ _ | with_reducible exact Below.size (by assumption) | (simp; done) | (simp; omega) | omega)) (first
              | (go_at_call 8; (with_reducible refine Calls.mono (HO1.out _ ?_) ?_); (repeat' (first | with_reducible assumption | with_reducible exact b0.drew | with_reducible exact b0 | with_reducible refine Below.drew ?_ | with_reducible refine Below.alloc ?_ ?_ _ | with_reducible exact Below.size (by assumption) | with_reducible exact Nat.le_refl _ | (simp; done) | (simp; omega))); rintro e x1 ⟨⟨na', nc', rfl, hln, hcn⟩, hbx1, hraw1⟩; have HLN : Hid (LiesN x1 (fun _ => True) na' t.sub) := hln; clear hln)
              | (go_at_call 10; (with_reducible refine Calls.mono (HO2.out _ ?_) ?_); (repeat' (first | with_reducible assumption | with_reducible exact b0.drew | with_reducible exact b0 | with_reducible refine Below.drew ?_ | with_reducible refine Below.alloc ?_ ?_ _ | with_reducible exact Below.size (by assumption) | with_reducible exact Nat.le_refl _ | (simp; done) | (simp; omega))); rintro e x2 ⟨⟨al', cl', af', cf', rfl, hl2, hf2⟩, hbx2, hraw2⟩; have HLD2 : Hid (LiesD x2 (fun _ => True) al' d.l) := hl2; have HFD2 : Hid (LiesD x2 (fun _ => True) af' d.f) := hf2; clear hl2 hf2)
              | (go_at_call 14; (with_reducible refine Calls.mono (HW1.out _ na' nc' al' cl' af' cf' hbx2 hcn (LiesN.keep HLN.out hraw2) HLD2.out HFD2.out) ?_); rintro e x3 ⟨⟨v3, rfl, hv3⟩, hbx3, hraw3⟩; obtain ⟨wa3, wc3, rfl⟩ := own_sl hv3; have HV3 : Hid (VsR x3 wr.heap.size (.slice wa3 us.length wc3) us) := own_low hv3 hbx2.size; clear hv3))
            all_goals
              go_wp2_with fail
              go_meet
              exact ⟨rfl, HV3, hbx3⟩
          case rest =>
            obtain ⟨rfl, HV3, HB3x⟩ := hcut
            rename World => wa
            obtain ⟨sa3, sc3, hx3⟩ := own_sl HV3.out
            subst hx3
            go_upto_region 15 with fail
            go_cut [15, 16] (fun x y wx => y = .nilIface ∧ Hid (VsR wx wr.heap.size x us) ∧ Hid (Below wa.heap.size wa wx))
            case first => as_aux_lemma =>
              have b0 : Below wa.heap.size wa wa := Below.refl _ _
              have HT : Hid (∀ X, Below wa.heap.size wa X → Below wr.heap.size wr X) := fun X hX => HB3x.out.trans (hX.mono HB3x.out.size)
              have HN : Hid (∀ X, Below wa.heap.size wa X → (X.cell? ⟨gp, 0, none⟩ = some (.int .i64 t.id) ∧ X.cell? ⟨gp, 1, none⟩ = some (.string t.nm) ∧ X.cell? ⟨gp, 2, none⟩ = some (.int .i64 t.rep) ∧ X.cell? ⟨gp, 3, none⟩ = some (.int .i64 t.kind) ∧ X.cell? ⟨gp, 4, none⟩ = some (.slice pa p.sub.length pc)) ∧ (X.cell? ⟨gx, 0, none⟩ = some (.bool yd.no) ∧ X.cell? ⟨gx, 1, none⟩ = some (.int .i64 yd.v.k) ∧ X.cell? ⟨gx, 2, none⟩ = some (.int .i64 yd.v.n) ∧ X.cell? ⟨gx, 3, none⟩ = some (.string yd.v.s) ∧ X.cell? ⟨gx, 4, none⟩ = some (.slice yl yd.l.length ycl) ∧ X.cell? ⟨gx, 5, none⟩ = some (.slice yf yd.f.length ycf)) ∧ X.cell? ⟨lb, i * 5, none⟩ = some (.int .i64 fid) ∧ Below wa.heap.size wa X) := fun X hX => (by
                obtain ⟨_, _, h1, h2⟩ := HC9.out X (HT.out X hX)
                exact ⟨h1, h2, ((HT.out X hX).cell (World.block_lt_of_cell? wr _ g0)).trans g0, hX⟩)
              have HO4 : Hid (∀ X, Below wa.heap.size wa X → Calls Tryd.prog 10 #[.agg #[.bool yd.no, .int .i64 yd.v.k, .int .i64 yd.v.n, .string yd.v.s, .slice yl yd.l.length ycl, .slice yf yd.f.length ycf]] X fun e w' => (∃ yl' ycl' yf' ycf', e = .returned (.agg #[.bool yd.no, .int .i64 yd.v.k, .int .i64 yd.v.n, .string yd.v.s, .slice yl' yd.l.length ycl', .slice yf' yd.f.length ycf']) ∧ LiesD w' (fun _ => True) yl' yd.l ∧ LiesD w' (fun _ => True) yf' yd.f) ∧ Below wa.heap.size wa w' ∧ Below X.heap.size X w') := fun X hX => (HO3.out X (HT.out X hX)).mono fun e w' h => ⟨h.1, hX.trans (h.2.2.mono hX.size), h.2.2⟩
              have HW4 : Hid (∀ X yl' ycl' yf' ycf', Below wa.heap.size wa X → LiesD X (fun _ => True) yl' yd.l → LiesD X (fun _ => True) yf' yd.f → Calls Tryd.prog 14 #[.agg #[.int .i64 t.id, .string t.nm, .int .i64 t.rep, .int .i64 t.kind, .slice pa p.sub.length pc], .agg #[.bool yd.no, .int .i64 yd.v.k, .int .i64 yd.v.n, .string yd.v.s, .slice yl' yd.l.length ycl', .slice yf' yd.f.length ycf'], .int .i64 fid] X fun e w' => (∃ v, e = .returned (.tuple #[v, .nilIface]) ∧ VsR w' wr.heap.size v us) ∧ Below wa.heap.size wa w') := fun X yl' ycl' yf' ycf' hX h1 h2 => (HW2.out X yl' ycl' yf' ycf' (HT.out X hX) h1 h2).mono fun e w' h => ⟨(by obtain ⟨⟨v, h1, h2⟩, _⟩ := h; exact ⟨v, h1, own_low h2 (HT.out X hX).size⟩), hX.trans (h.2.2.mono hX.size)⟩
              obtain ⟨⟨p0, p1, p2, p3, p4⟩, ⟨z0, z1, z2, z3, z4, z5⟩, g0', _⟩ := HN.out wa b0
              clear g0
              go_region_held3 (fun X => (X.cell? ⟨gp, 0, none⟩ = some (.int .i64 t.id) ∧ X.cell? ⟨gp, 1, none⟩ = some (.string t.nm) ∧ X.cell? ⟨gp, 2, none⟩ = some (.int .i64 t.rep) ∧ X.cell? ⟨gp, 3, none⟩ = some (.int .i64 t.kind) ∧ X.cell? ⟨gp, 4, none⟩ = some (.slice pa p.sub.length pc)) ∧ (X.cell? ⟨gx, 0, none⟩ = some (.bool yd.no) ∧ X.cell? ⟨gx, 1, none⟩ = some (.int .i64 yd.v.k) ∧ X.cell? ⟨gx, 2, none⟩ = some (.int .i64 yd.v.n) ∧ X.cell? ⟨gx, 3, none⟩ = some (.string yd.v.s) ∧ X.cell? ⟨gx, 4, none⟩ = some (.slice yl yd.l.length ycl) ∧ X.cell? ⟨gx, 5, none⟩ = some (.slice yf yd.f.length ycf)) ∧ X.cell? ⟨lb, i * 5, none⟩ = some (.int .i64 fid) ∧ Below wa.heap.size wa X) (with_reducible refine HN.out _ ?_; repeat' (first | with_reducible assumption | with_reducible exact b0.drew | with_reducible exact b0 | with_reducible refine Below.drew ?_ | with_reducible exact Nat.le_refl _ | with_reducible refine Below.setCell ?_ ?_ _ | with_reducible refine Below.alloc ?_ ?_ _ | with_reducible exact Below.size (by assumption) | (simp; done) | (simp; omega) | omega)) (first
                | (go_at_call 10; (with_reducible refine Calls.mono (HO4.out _ ?_) ?_); (repeat' (first | with_reducible assumption | with_reducible exact b0.drew | with_reducible exact b0 | with_reducible refine Below.drew ?_ | with_reducible refine Below.alloc ?_ ?_ _ | with_reducible exact Below.size (by assumption) | with_reducible exact Nat.le_refl _ | (simp; done) | (simp; omega))); rintro e x2 ⟨⟨yl', ycl', yf', ycf', rfl, hl2, hf2⟩, hbx2, hraw2⟩; have HLD2 : Hid (LiesD x2 (fun _ => True) yl' yd.l) := hl2; have HFD2 : Hid (LiesD x2 (fun _ => True) yf' yd.f) := hf2; clear hl2 hf2)
                | (go_at_call 14; (with_reducible refine Calls.mono (HW4.out _ yl' ycl' yf' ycf' hbx2 HLD2.out HFD2.out) ?_); rintro e x3 ⟨⟨v3, rfl, hv3⟩, hbx3⟩; obtain ⟨wa3, wc3, rfl⟩ := own_sl hv3; have HV4 : Hid (VsR x3 wr.heap.size (.slice wa3 us.length wc3) us) := hv3; clear hv3))
              all_goals
                go_wp2_with fail
                go_meet
                exact ⟨rfl, HV4, hbx3⟩
            case rest =>
              obtain ⟨rfl, HV4, HB4x⟩ := hcut
              rename World => wb
              obtain ⟨sa4, sc4, hx4⟩ := own_sl HV4.out
              subst hx4
              have HV5 : Hid (VsR wb wr.heap.size (.slice sa3 us.length sc3) us) := ow_kept HV3.out HB4x.out
              have HSV : Hid (Calls Tryd.prog 15 #[.slice sa3 us.length sc3, .slice sa4 us.length sc4] wb fun e w' => e = .returned (.bool true) ∧ Below wb.heap.size wb w') := (by
                have h1 : LiesV wb sa3 us := (by obtain ⟨a', c', e, h⟩ := liesV_own HV5.out; injection e with e1 _ _; subst e1; exact h)
                have h2 : LiesV wb sa4 us := (by obtain ⟨a', c', e, h⟩ := liesV_own HV4.out; injection e with e1 _ _; subst e1; exact h)
                refine (sameVs_any wb sa3 sa4 sc3 sc4 us us (by have := HUs.out; unfold maxLen; omega) h1 h2).mono ?_
                rintro e w' ⟨⟨b, rfl, hb⟩, hb'⟩
                have hbt : b = true := hb.2 rfl
                exact ⟨by rw [hbt], hb'⟩)
              clear g0 HW1 HW2 HO1 HO2 HO3
              go_wp2_with fail
              refine Calls.mono HSV.out ?_
              rintro e wc ⟨rfl, hbc⟩
              have HBf : Hid (Below w10.heap.size w10 wc) := HBr.out.trans ((HB3x.out.trans ((HB4x.out.trans (hbc.mono HB4x.out.size)).mono HB3x.out.size)).mono HBr.out.size)
              clear hbc HSV
              go_wp2
              go_roundw
              case rel => exact ⟨i + 1, by omega, by go_num, HBf⟩
              case measure => simp [intOf]; omega
end Go.Proofs.YtnceknbodpimiaaDoor
