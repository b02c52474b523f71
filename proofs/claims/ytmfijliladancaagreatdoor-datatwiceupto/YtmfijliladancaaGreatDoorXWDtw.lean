/-
  The walk of the law DataTwice.
-/
import Derived.Test.YtmfijliladancaaGreatDoorXBDwL
import Derived.Test.YtmfijliladancaaGreatDoorXBFlatN
import Derived.Test.YtmfijliladancaaGreatDoorXWeightD
import Derived.Test.YtmfijliladancaaGreatDoorXOwnDt
import Derived.Deep.DeepCutAuto
namespace Go.Proofs.YtmfijliladancaaGreatDoor
open Go.RowKit
theorem bel_nextW {W X w' : World} (h : Below W.heap.size W X) (h' : Below X.heap.size X w') : Below W.heap.size W w' := h.trans (h'.mono h.size)
set_option maxRecDepth 100000 in
set_option maxHeartbeats 12800000 in
theorem dataTwice_walk (eb es ek en : TypeId × Value) (t : Tr) (n : Nat) (hd : t.Dp n) (hn : n ≤ 1100000) (hs : t.Sm) (P PD : Nat → Prop) (ra : Option Addr) (rc : Nat) (d : Dt) (hds : d.Sm) (hin : d.In) (hdw : wt d ≤ 1048576) (al : Option Addr) (cl : Nat) (af : Option Addr) (cf : Nat) (W : World) (he : EC W eb es ek) (hen : W.cell? ⟨3, 0, none⟩ = some (.iface en.1 en.2)) (htab : Lib.TabIs Tryz.prog W "internal/strconv.uint64pow10" .u64 Lib.pow10Tab) (hl : LiesN W P ra t.sub) (hd1 : LiesD W PD al d.l) (hd2 : LiesD W PD af d.f) :
    Calls Tryz.prog 3 #[nodeV t ra rc, datumV d al cl af cf] W fun e w' => e = .returned (.bool true) ∧ Below W.heap.size W w' := by
  obtain ⟨w0, HW0, HX0, HY0, HB0⟩ := two_boxesS W #[.int .i64 t.id, .string t.nm, .int .i64 t.rep, .int .i64 t.kind, .slice ra t.sub.length rc] #[.bool d.no, .int .i64 d.v.k, .int .i64 d.v.n, .string d.v.s, .slice al d.l.length cl, .slice af d.f.length cf] 24 29
  have HEr : Hid (∀ X, Below W.heap.size W X → EC X eb es ek ∧ X.cell? ⟨3, 0, none⟩ = some (.iface en.1 en.2) ∧ Lib.TabIs Tryz.prog X "internal/strconv.uint64pow10" .u64 Lib.pow10Tab) := fun X hX => ⟨he.keep hX, (hX.cell (World.block_lt_of_cell? W _ hen)).trans hen, Lib.tabBelow_of_tabIs htab X hX⟩
  have HL : Hid (LiesN W P ra t.sub) := hl
  have HD1 : Hid (LiesD W PD al d.l) := hd1
  have HD2 : Hid (LiesD W PD af d.f) := hd2
  have HSm : Hid t.Sm := hs
  have HDs : Hid d.Sm := hds
  have HIn : Hid d.In := hin
  have HDp : Hid (t.Dp n) := hd
  have HBt : Hid _ := bit_any eb es ek en w0 (HEr.out w0 HB0.out).1 (HEr.out w0 HB0.out).2.1
  clear he hen htab hl hd1 hd2 hs hds hd hin
  unfold nodeV datumV
  go_enter Tryz.func3, Tryz.ntmps3
  go_wp2_with fail
  rw [HW0.out]
  refine Calls.mono HBt.out ?_
  rintro e w1 ⟨rfl, hb1⟩
  have HB1 : Hid (Below W.heap.size W w1) := bel_nextW HB0.out hb1
  have HX1 : Hid _ := blk_keep hb1 HX0.out
  have HY1 : Hid _ := blk_keep hb1 HY0.out
  clear hb1 HBt
  obtain ⟨⟨p0, p1, p2, p3, p4⟩, _⟩ := row_five HX1.out
  go_wp2_with fail
  refine Calls.mono (tame_any t HSm.out P ra rc w1 (HL.out.keep HB1.out)) ?_
  rintro e w2 ⟨rfl, hb2⟩
  have HB2 : Hid (Below W.heap.size W w2) := bel_nextW HB1.out hb2
  have HX2 : Hid _ := blk_keep hb2 HX1.out
  have HY2 : Hid _ := blk_keep hb2 HY1.out
  clear hb2 p0 p1 p2 p3 p4
  obtain ⟨tm, HTm⟩ := hid_name (decide ((fl t).length ≤ 200 ∧ nmS (fl t) ≤ 4000))
  rw [HTm.out]
  cases tm with
  | false =>
    go_wp2
    go_ret
    exact ⟨rfl, HB2.out⟩
  | true =>
    have hlL : d.l.length ≤ 1048576 := HDs.out.lenL
    have hlF : d.f.length ≤ 1048576 := (by have h := HDs.out; cases h with | mk no v l f hs hl hf el ef => exact hf)
    obtain ⟨z0, z1, z2, z3, z4, z5⟩ := row_six HY2.out
    have HW : Hid _ := weight_any (SizeOf.sizeOf d + 1) d (Nat.lt_succ_self _) hdw hlL hlF HDs.out PD al cl af cf w2 (HD1.out.keep HB2.out) (HD2.out.keep HB2.out)
    unfold datumV at HW
    obtain ⟨wd, HWd⟩ := hid_name (wt d)
    rw [HWd.out] at HW hdw
    go_wp2_with fail
    refine Calls.mono HW.out ?_
    rintro e w3 ⟨rfl, hb3⟩
    have HB3 : Hid (Below W.heap.size W w3) := bel_nextW HB2.out hb3
    have HX3 : Hid _ := blk_keep hb3 HX2.out
    have HY3 : Hid _ := blk_keep hb3 HY2.out
    clear hb3 HW z0 z1 z2 z3 z4 z5
    by_cases h3000 : 3000 < wd
    · have q6 : decide ((3000 : Int) < (wd : Int)) = true := by simp; omega
      have q7 : decide (3000 < wd) = true := by simp; omega
      go_wp2
      go_ret
      exact ⟨rfl, HB3.out⟩
    have q6 : decide ((3000 : Int) < (wd : Int)) = false := by simp; omega
    have q7 : decide (3000 < wd) = false := by simp; omega
    have HWt : Hid (wt d ≤ 3000) := (by show _ ≤ _; rw [HWd.out]; omega)
    have HOw : Hid (∀ X, Below W.heap.size W X → Calls Tryz.prog 8 #[.agg #[.int .i64 t.id, .string t.nm, .int .i64 t.rep, .int .i64 t.kind, .slice ra t.sub.length rc]] X fun e w' => (∃ a' c', e = .returned (.agg #[.int .i64 t.id, .string t.nm, .int .i64 t.rep, .int .i64 t.kind, .slice a' t.sub.length c']) ∧ LiesN w' (fun _ => True) a' t.sub ∧ t.sub.length ≤ c') ∧ Below X.heap.size X w') := fun X hX => (ownNode_any _ t (Nat.lt_succ_self _) HSm.out P ra rc X (HL.out.keep hX)).mono fun e w' h => ⟨(by obtain ⟨⟨a', c', h1, h2, h3⟩, _⟩ := h; exact ⟨a', c', h1, h2.stay (fun _ _ _ => trivial) (fun _ _ _ => rfl), h3⟩), h.2⟩
    have HOd : Hid (∀ X, Below W.heap.size W X → Calls Tryz.prog 9 #[.agg #[.bool d.no, .int .i64 d.v.k, .int .i64 d.v.n, .string d.v.s, .slice al d.l.length cl, .slice af d.f.length cf]] X fun e w' => (∃ al' cl' af' cf', e = .returned (.agg #[.bool d.no, .int .i64 d.v.k, .int .i64 d.v.n, .string d.v.s, .slice al' d.l.length cl', .slice af' d.f.length cf']) ∧ LiesD w' (fun _ => True) al' d.l ∧ LiesD w' (fun _ => True) af' d.f) ∧ Below X.heap.size X w') := fun X hX => (ownsD d HDs.out PD al cl af cf X (HD1.out.keep hX) (HD2.out.keep hX)).mono fun e w' h => ⟨(by obtain ⟨⟨al', cl', af', cf', h1, h2, h3⟩, _⟩ := h; exact ⟨al', cl', af', cf', h1, h2.stay (fun _ _ _ => trivial) (fun _ _ _ => rfl), h3.stay (fun _ _ _ => trivial) (fun _ _ _ => rfl)⟩), h.2⟩
    have HTx : Hid (∀ X a' c' al' cl' af' cf', Below W.heap.size W X → t.sub.length ≤ c' → LiesN X (fun _ => True) a' t.sub → LiesD X (fun _ => True) al' d.l → LiesD X (fun _ => True) af' d.f → Calls Tryz.prog 7 #[.agg #[.int .i64 t.id, .string t.nm, .int .i64 t.rep, .int .i64 t.kind, .slice a' t.sub.length c'], .agg #[.bool d.no, .int .i64 d.v.k, .int .i64 d.v.n, .string d.v.s, .slice al' d.l.length cl', .slice af' d.f.length cf']] X fun e w' => (∃ s ev, e = .returned (.tuple #[.string s, ev]) ∧ TxU t d s ev) ∧ Below X.heap.size X w') := fun X a' c' al' cl' af' cf' hX hc h1 h2 h3 => dataText_any eb es ek en t d n HDp.out hn HSm.out HDs.out HIn.out HWt.out _ _ a' c' hc al' cl' af' cf' X (HEr.out X hX).1 (HEr.out X hX).2.1 h1 h2 h3 (HEr.out X hX).2.2
    have HRd : Hid (∀ X a' c' s, Below W.heap.size W X → t.sub.length ≤ c' → LiesN X (fun _ => True) a' t.sub → vldN t = 0 → chk false t d = 0 → s.data.toList = tx false t d → s.size ≤ 8000 → Calls Tryz.prog 10 #[.agg #[.int .i64 t.id, .string t.nm, .int .i64 t.rep, .int .i64 t.kind, .slice a' t.sub.length c'], .string s] X fun e w' => (∃ al cl af cf, e = .returned (.tuple #[.agg #[.bool d.no, .int .i64 d.v.k, .int .i64 d.v.n, .string d.v.s, .slice al d.l.length cl, .slice af d.f.length cf], .nilIface]) ∧ LiesD w' (fun b => X.heap.size ≤ b) al d.l ∧ LiesD w' (fun b => X.heap.size ≤ b) af d.f) ∧ Below X.heap.size X w') := fun X a' c' s hX hc h1 h2 h3 h4 h5 => dataRead_right eb es ek en t d n HDp.out hn HSm.out HIn.out h2 h3 s h4 h5 _ a' c' hc X (HEr.out X hX).1 (HEr.out X hX).2.1 h1 (HEr.out X hX).2.2
    have HSd : Hid (SdOK d) := sd_any _ d (Nat.lt_succ_self _) HDs.out
    clear h3000 HWd HTm
    go_upto_region 4 with fail
    clear q6 q7
    go_cut [6, 7] (fun x y wx => ∃ (s : ByteArray), x = .string s ∧ Hid (TxU t d s y) ∧ Hid (Below w3.heap.size w3 wx))
    case first =>
      have hz3 := HB3.out.size
      have HC1 : Hid (∀ X, Below w3.heap.size w3 X → Calls Tryz.prog 8 #[.agg #[.int .i64 t.id, .string t.nm, .int .i64 t.rep, .int .i64 t.kind, .slice ra t.sub.length rc]] X fun e w' => (∃ a' c', e = .returned (.agg #[.int .i64 t.id, .string t.nm, .int .i64 t.rep, .int .i64 t.kind, .slice a' t.sub.length c']) ∧ LiesN w' (fun _ => True) a' t.sub ∧ t.sub.length ≤ c') ∧ Below w3.heap.size w3 w' ∧ Below X.heap.size X w') := fun X hX => (HOw.out X (bel_nextW HB3.out hX)).mono fun e w' h => ⟨h.1, hX.trans (h.2.mono hX.size), h.2⟩
      have HC3 : Hid (∀ X, Below w3.heap.size w3 X → Calls Tryz.prog 9 #[.agg #[.bool d.no, .int .i64 d.v.k, .int .i64 d.v.n, .string d.v.s, .slice al d.l.length cl, .slice af d.f.length cf]] X fun e w' => (∃ al' cl' af' cf', e = .returned (.agg #[.bool d.no, .int .i64 d.v.k, .int .i64 d.v.n, .string d.v.s, .slice al' d.l.length cl', .slice af' d.f.length cf']) ∧ LiesD w' (fun _ => True) al' d.l ∧ LiesD w' (fun _ => True) af' d.f) ∧ Below w3.heap.size w3 w' ∧ Below X.heap.size X w') := fun X hX => (HOd.out X (bel_nextW HB3.out hX)).mono fun e w' h => ⟨h.1, hX.trans (h.2.mono hX.size), h.2⟩
      have HC4 : Hid (∀ X a' c' al' cl' af' cf', Below w3.heap.size w3 X → t.sub.length ≤ c' → LiesN X (fun _ => True) a' t.sub → LiesD X (fun _ => True) al' d.l → LiesD X (fun _ => True) af' d.f → Calls Tryz.prog 7 #[.agg #[.int .i64 t.id, .string t.nm, .int .i64 t.rep, .int .i64 t.kind, .slice a' t.sub.length c'], .agg #[.bool d.no, .int .i64 d.v.k, .int .i64 d.v.n, .string d.v.s, .slice al' d.l.length cl', .slice af' d.f.length cf']] X fun e w' => (∃ s ev, e = .returned (.tuple #[.string s, ev]) ∧ TxU t d s ev) ∧ Below w3.heap.size w3 w') := fun X a' c' al' cl' af' cf' hX hc h1 h2 h3 => (HTx.out X a' c' al' cl' af' cf' (bel_nextW HB3.out hX) hc h1 h2 h3).mono fun e w' h => ⟨h.1, hX.trans (h.2.mono hX.size)⟩
      have b0 : Below w3.heap.size w3 w3 := Below.refl _ _
      have HN : Hid (∀ X, Below w3.heap.size w3 X → (X.cell? ⟨W.heap.size, 0, none⟩ = some (.int .i64 t.id) ∧ X.cell? ⟨W.heap.size, 1, none⟩ = some (.string t.nm) ∧ X.cell? ⟨W.heap.size, 2, none⟩ = some (.int .i64 t.rep) ∧ X.cell? ⟨W.heap.size, 3, none⟩ = some (.int .i64 t.kind) ∧ X.cell? ⟨W.heap.size, 4, none⟩ = some (.slice ra t.sub.length rc)) ∧ (X.cell? ⟨W.heap.size + 1, 0, none⟩ = some (.bool d.no) ∧ X.cell? ⟨W.heap.size + 1, 1, none⟩ = some (.int .i64 d.v.k) ∧ X.cell? ⟨W.heap.size + 1, 2, none⟩ = some (.int .i64 d.v.n) ∧ X.cell? ⟨W.heap.size + 1, 3, none⟩ = some (.string d.v.s) ∧ X.cell? ⟨W.heap.size + 1, 4, none⟩ = some (.slice al d.l.length cl) ∧ X.cell? ⟨W.heap.size + 1, 5, none⟩ = some (.slice af d.f.length cf)) ∧ Below w3.heap.size w3 X) := fun X hX => (by
        obtain ⟨⟨p0, p1, p2, p3, p4⟩, _⟩ := row_five (blk_keep hX HX3.out)
        exact ⟨⟨p0, p1, p2, p3, p4⟩, row_six (blk_keep hX HY3.out), hX⟩)
      obtain ⟨⟨p0, p1, p2, p3, p4⟩, _⟩ := row_five HX3.out
      obtain ⟨z0, z1, z2, z3, z4, z5⟩ := row_six HY3.out
      go_region_held3 (fun X => (X.cell? ⟨W.heap.size, 0, none⟩ = some (.int .i64 t.id) ∧ X.cell? ⟨W.heap.size, 1, none⟩ = some (.string t.nm) ∧ X.cell? ⟨W.heap.size, 2, none⟩ = some (.int .i64 t.rep) ∧ X.cell? ⟨W.heap.size, 3, none⟩ = some (.int .i64 t.kind) ∧ X.cell? ⟨W.heap.size, 4, none⟩ = some (.slice ra t.sub.length rc)) ∧ (X.cell? ⟨W.heap.size + 1, 0, none⟩ = some (.bool d.no) ∧ X.cell? ⟨W.heap.size + 1, 1, none⟩ = some (.int .i64 d.v.k) ∧ X.cell? ⟨W.heap.size + 1, 2, none⟩ = some (.int .i64 d.v.n) ∧ X.cell? ⟨W.heap.size + 1, 3, none⟩ = some (.string d.v.s) ∧ X.cell? ⟨W.heap.size + 1, 4, none⟩ = some (.slice al d.l.length cl) ∧ X.cell? ⟨W.heap.size + 1, 5, none⟩ = some (.slice af d.f.length cf)) ∧ Below w3.heap.size w3 X) (first | (with_reducible refine HN.out _ ?_; repeat' (first | with_reducible assumption | with_reducible exact b0.drew | with_reducible exact b0))) (first
        | (go_at_call 8; (with_reducible refine Calls.mono (HC1.out _ (by first | exact b0.drew | exact b0)) ?_); rintro e x1 ⟨⟨na, nc, rfl, hln, hcn⟩, hbx1, hraw1⟩; have HLN : Hid (LiesN x1 (fun _ => True) na t.sub) := hln; clear hln)
        | (go_at_call 9; (with_reducible refine Calls.mono (HC3.out _ (by assumption)) ?_); rintro e x3 ⟨⟨al3, cl3, af3, cf3, rfl, hdl3, hdf3⟩, hbx3, hraw3⟩; have HDL3 : Hid (LiesD x3 (fun _ => True) al3 d.l) := hdl3; have HDF3 : Hid (LiesD x3 (fun _ => True) af3 d.f) := hdf3; have HLN3 : Hid (LiesN x3 (fun _ => True) na t.sub) := HLN.out.keep hraw3; clear hdl3 hdf3)
        | (go_at_call 7; (with_reducible refine Calls.mono (HC4.out _ na nc al3 cl3 af3 cf3 hbx3 hcn HLN3.out HDL3.out HDF3.out) ?_); rintro e x4 ⟨⟨s, ev, rfl, htu⟩, hbx4⟩; have HTU : Hid _ := htu; have HBX4 : Hid (Below w3.heap.size w3 x4) := hbx4; clear htu))
      all_goals
        go_wp2
        go_meet
        exact ⟨s, rfl, HTU, HBX4⟩
    case rest =>
      obtain ⟨s, rfl, HTU, HBX⟩ := hcut
      rename World => wx
      have HB5 : Hid (Below W.heap.size W wx) := bel_nextW HB3.out HBX.out
      have HX5 : Hid _ := blk_keep HBX.out HX3.out
      have HY5 : Hid _ := blk_keep HBX.out HY3.out
      rcases HTU.out with ⟨ty, v, rfl⟩ | ⟨rfl, hv0, hck, hst⟩
      · go_wp2
        go_ret
        exact ⟨rfl, HB5.out⟩
      · have HSt : Hid (vldN t = 0 ∧ chk false t d = 0 ∧ s.data.toList = tx false t d) := ⟨hv0, hck, hst⟩
        clear hv0 hck hst HTU
        by_cases h8 : 8000 < s.size
        · have q6 : decide ((8000 : Int) < (s.size : Int)) = true := by simp; omega
          have q7 : decide (8000 < s.size) = true := by simp; omega
          go_wp2
          go_ret
          exact ⟨rfl, HB5.out⟩
        · have q6 : decide ((8000 : Int) < (s.size : Int)) = false := by simp; omega
          have q7 : decide (8000 < s.size) = false := by simp; omega
          obtain ⟨⟨p0, p1, p2, p3, p4⟩, _⟩ := row_five HX5.out
          go_wp2_with fail
          refine Calls.mono (HOw.out _ HB5.out) ?_
          rintro e w6 ⟨⟨na, nc, rfl, hln, hcn⟩, hb6⟩
          have HB6 : Hid (Below W.heap.size W w6) := bel_nextW HB5.out hb6
          have HLN : Hid (LiesN w6 (fun _ => True) na t.sub) := hln
          have HY6 : Hid _ := blk_keep hb6 HY5.out
          clear hln hb6 p0 p1 p2 p3 p4
          go_wp2_with fail
          refine Calls.mono (HRd.out w6 na nc s HB6.out hcn HLN.out HSt.out.1 HSt.out.2.1 HSt.out.2.2 (by omega)) ?_
          rintro e w7 ⟨⟨al7, cl7, af7, cf7, rfl, hl7, hf7⟩, hb7⟩
          have HB7 : Hid (Below W.heap.size W w7) := bel_nextW HB6.out hb7
          have HY7 : Hid _ := blk_keep hb7 HY6.out
          have HL7 : Hid (LiesD w7 (fun b => w6.heap.size ≤ b) al7 d.l) := hl7
          have HF7 : Hid (LiesD w7 (fun b => w6.heap.size ≤ b) af7 d.f) := hf7
          clear hl7 hf7 hb7
          obtain ⟨w8, HW8, HZ8, HB8r⟩ := one_box w7 #[.bool d.no, .int .i64 d.v.k, .int .i64 d.v.n, .string d.v.s, .slice al7 d.l.length cl7, .slice af7 d.f.length cf7] 29
          have HY8 : Hid _ := blk_keep HB8r.out HY7.out
          have HB8 : Hid (Below W.heap.size W w8) := bel_nextW HB7.out HB8r.out
          have HS8 : Hid _ := HSd.out _ PD al7 cl7 af7 cf7 al cl af cf w8 (HL7.out.keep HB8r.out) (HF7.out.keep HB8r.out) (HD1.out.keep HB8.out) (HD2.out.keep HB8.out)
          obtain ⟨z0, z1, z2, z3, z4, z5⟩ := row_six HY8.out
          obtain ⟨y0, y1, y2, y3, y4, y5⟩ := row_six HZ8.out
          unfold datumV at HS8
          obtain ⟨g, HGn⟩ := hid_name w7.heap.size
          rw [HGn.out] at y0 y1 y2 y3 y4 y5
          go_upto_region 8 with fail
          rw [HW8.out, HGn.out]
          go_wp2_with fail
          refine Calls.mono HS8.out ?_
          rintro e w9 ⟨rfl, hb9⟩
          have HB9 : Hid (Below W.heap.size W w9) := bel_nextW HB8.out hb9
          clear hb9
          go_wp2
          go_ret
          exact ⟨rfl, HB9.out⟩
end Go.Proofs.YtmfijliladancaaGreatDoor
