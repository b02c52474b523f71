/-
  The walk of the law ChunkTwice.
  ChunkTwice, for whatever leaf, column and number.
-/
import Derived.Test.YtgpfmjbebfmmnaaGreatDoorTBChC
import Derived.Test.YtgpfmjbebfmmnaaGreatDoorTBStBase
import Derived.Test.YtgpfmjbebfmmnaaGreatDoorTBRefVals
import Derived.Test.YtgpfmjbebfmmnaaGreatDoorTBColF
import Derived.Deep.DeepCutAuto
import Derived.Deep.RegionHeld3
import Derived.Test.YtgpfmjbebfmmnaaGreatDoorTBPgD
namespace Go.Proofs.YtgpfmjbebfmmnaaGreatDoor
open Go.RowKit
/-- What Write answers, an error or a chunk. -/
def CwT (lid kind mr md : Int) (U : List Vl → List Vl × List Nat) (c : Cl) (most : Int) (t : List UInt8) (ev : Value) : Prop := (∃ et ep, ev = .iface et ep) ∨ (ev = .nilIface ∧ GoodC lid kind mr md c ∧ c.rs ≠ [] ∧ (1 ≤ most ∧ most ≤ 20000) ∧ t = chT U kind mr md (pgs c.rs.length most.toNat md c))
theorem CwT.of {N : Nat} {lid kind mr md : Int} {U : List Vl → List Vl × List Nat} {c : Cl} {most : Int} {sv kv bv : Value} {t : List UInt8} {ev : Value} {w : World} (h : CwR N lid kind mr md U c most sv kv bv t ev w) : CwT lid kind mr md U c most t ev := by
  rcases h with ⟨_, h, _⟩ | ⟨h1, h2, h3, h4, h5⟩
  · exact .inl h
  · exact .inr ⟨h4, h1, h2, h3, h5⟩
set_option maxRecDepth 100000 in
set_option maxHeartbeats 12800000 in
theorem chunkTwice_walk (lid kind mr md : Int) (pa : Option Addr) (pc : Nat) (ps : List Int) (c : Cl) (most : Int) (W : World) (tt bt st kt ut : TypeId) (tp bp sp kp up : Value) (hE : Er5 W tt bt st kt ut tp bp sp kp up) (hp : Lies W pa (i64s ps)) (hat : c.At W) (hin : ∀ v ∈ c.vs, v.In) (hcb : c.bulk ≤ 1048576)  :
    Calls Tryz.prog 4 #[.agg #[.int .i64 lid, .int .i64 kind, .int .i64 mr, .int .i64 md, .slice pa ps.length pc], .agg #[.int .i64 c.id, .slice c.ra c.rs.length c.rc, .slice c.da c.ds.length c.dc, .slice c.va c.vs.length c.vc], .int .i64 most] W fun e w' => e = .returned (.bool true) ∧ Below W.heap.size W w' := by
  obtain ⟨pn, hpn⟩ : ∃ pn, ps.length = pn := ⟨_, rfl⟩
  have HPN : Hid _ := hpn
  rw [hpn]
  clear hpn
  obtain ⟨U, hU⟩ := uq_pick
  have HU : Hid _ := hU
  obtain ⟨w0, HW0, HX, HY, HB⟩ := two_boxes W #[.int .i64 lid, .int .i64 kind, .int .i64 mr, .int .i64 md, .slice pa pn pc] #[.int .i64 c.id, .slice c.ra c.rs.length c.rc, .slice c.da c.ds.length c.dc, .slice c.va c.vs.length c.vc] 24 27
  have HI0 : Hid (LsI W lid kind mr md pa pn pc c w0) := ⟨HX.out, HY.out, HB.out⟩
  have HA0 : Hid (∀ X, Below W.heap.size W X → Er5 X tt bt st kt ut tp bp sp kp up) := fun X hX => hE.keep hX
  have HP : Hid (∀ X, Below W.heap.size W X → Lies X pa (i64s ps)) := fun X hX => hp.keep hX
  have HAT : Hid (∀ X, Below W.heap.size W X → c.At X) := fun X hX => hat.keep hX
  have HIN : Hid (∀ v ∈ c.vs, v.In) := hin
  clear HX HY HB hE hp hat hin hU
  go_enter Tryz.func4, Tryz.ntmps4
  go_wp2_with fail
  rw [HW0.out]
  clear HW0
  have hE0 := HA0.out _ HI0.out.old
  refine (pair_any w0 tt bt st kt ut tp bp sp kp up hE0).mono ?_
  clear hE0
  rintro e w1 ⟨rfl, hb1⟩
  have HI1 : Hid (LsI W lid kind mr md pa pn pc c w1) := HI0.out.keep hb1
  clear HI0 hb1
  obtain ⟨⟨p0, p1, p2, p3, p4⟩, _⟩ := row_five HI1.out.lf
  obtain ⟨k0, k1, k2, k3⟩ := row_four HI1.out.co
  go_wp2_with fail
  refine (slim3_any lid kind mr md pa pn pc c hcb w1 (HAT.out _ HI1.out.old)).mono ?_
  obtain ⟨b, HBo⟩ : ∃ b, Hid (slimB c pn = b) := ⟨_, rfl⟩
  rw [HBo.out]
  rintro e w2 ⟨rfl, hb2⟩
  have HI2 : Hid (LsI W lid kind mr md pa pn pc c w2) := HI1.out.keep hb2
  clear HI1 hb2 p0 p1 p2 p3 p4 k0 k1 k2 k3
  obtain ⟨⟨p0, p1, p2, p3, p4⟩, _⟩ := row_five HI2.out.lf
  obtain ⟨k0, k1, k2, k3⟩ := row_four HI2.out.co
  cases b
  · go_wp2
    go_ret
    exact ⟨rfl, HI2.out.old⟩
  have hsl : c.bulk ≤ 2000 ∧ pn ≤ 100 := by have h := HBo.out; unfold slimB at h; simpa using h
  have hsv := sumV_len c.vs
  have hbk : c.rs.length + c.ds.length + c.vs.length ≤ 2000 := by have := hsl.1; unfold Cl.bulk at this; omega
  have hpn : pn ≤ 100 := hsl.2
  clear hsl hsv hcb HBo
  go_wp2_with fail
  refine Calls.mono (rightL_any lid kind mr md pa pn pc w2) ?_
  rintro e wz ⟨⟨b, rfl⟩, hbr⟩
  have HI3 : Hid (LsI W lid kind mr md pa pn pc c wz) := HI2.out.keep hbr
  clear HI2 hbr p0 p1 p2 p3 p4 k0 k1 k2 k3
  obtain ⟨⟨p0, p1, p2, p3, p4⟩, _⟩ := row_five HI3.out.lf
  obtain ⟨k0, k1, k2, k3⟩ := row_four HI3.out.co
  cases b
  · go_wp2
    go_ret
    exact ⟨rfl, HI3.out.old⟩
  go_upto_region 4 with fail
  go_cut [8, 9] (fun x y wx => ∃ t : List UInt8, x = .string ⟨t.toArray⟩ ∧ Hid (Below wz.heap.size wz wx) ∧ Hid (CwT lid kind mr md U c most t y))
  case first =>
    have b0 : Below wz.heap.size wz wz := Below.refl _ _
    have HN : Hid (∀ X, Below wz.heap.size wz X → (X.cell? ⟨W.heap.size, 0, none⟩ = some (.int .i64 lid) ∧ X.cell? ⟨W.heap.size, 1, none⟩ = some (.int .i64 kind) ∧ X.cell? ⟨W.heap.size, 2, none⟩ = some (.int .i64 mr) ∧ X.cell? ⟨W.heap.size, 3, none⟩ = some (.int .i64 md) ∧ X.cell? ⟨W.heap.size, 4, none⟩ = some (.slice pa pn pc)) ∧ (X.cell? ⟨W.heap.size + 1, 0, none⟩ = some (.int .i64 c.id) ∧ X.cell? ⟨W.heap.size + 1, 1, none⟩ = some (.slice c.ra c.rs.length c.rc) ∧ X.cell? ⟨W.heap.size + 1, 2, none⟩ = some (.slice c.da c.ds.length c.dc) ∧ X.cell? ⟨W.heap.size + 1, 3, none⟩ = some (.slice c.va c.vs.length c.vc)) ∧ Below wz.heap.size wz X) := fun X hX => ⟨(row_five (blk_keep hX HI3.out.lf)).1, row_four (blk_keep hX HI3.out.co), hX⟩
    have HO1 : Hid (∀ X, Below wz.heap.size wz X → Calls Tryz.prog 12 #[.agg #[.int .i64 lid, .int .i64 kind, .int .i64 mr, .int .i64 md, .slice pa pn pc]] X fun e w' => (∃ pa' pc', e = .returned (.agg #[.int .i64 lid, .int .i64 kind, .int .i64 mr, .int .i64 md, .slice pa' pn pc'])) ∧ Below wz.heap.size wz w' ∧ Below X.heap.size X w') := fun X hX => (by
      have h := ownLeaf_any lid kind mr md pa pc ps X (by rw [HPN.out]; omega) (HP.out _ (HI3.out.keep hX).old)
      rw [HPN.out] at h
      exact h.mono fun e w' h => ⟨(by obtain ⟨⟨pa', pc', h1, _⟩, _⟩ := h; exact ⟨pa', pc', h1⟩), bel_next hX (Nat.le_refl _) h.2, h.2⟩)
    have HO2 : Hid (∀ X, Below wz.heap.size wz X → Calls Tryz.prog 13 #[.agg #[.int .i64 c.id, .slice c.ra c.rs.length c.rc, .slice c.da c.ds.length c.dc, .slice c.va c.vs.length c.vc]] X fun e w' => (∃ k0 : Cl, e = .returned (.agg #[.int .i64 k0.id, .slice k0.ra k0.rs.length k0.rc, .slice k0.da k0.ds.length k0.dc, .slice k0.va k0.vs.length k0.vc]) ∧ k0.At w' ∧ SameC c k0) ∧ Below wz.heap.size wz w' ∧ Below X.heap.size X w') := fun X hX => (ownColumn_cl c X (by omega) (by omega) (by omega) (HAT.out _ (HI3.out.keep hX).old)).mono fun e w' h => ⟨(by obtain ⟨⟨k, h1, h2, _, h3⟩, _⟩ := h; exact ⟨k, h1, h2, h3⟩), bel_next hX (Nat.le_refl _) h.2, h.2⟩
    have HO3 : Hid (∀ X (k0 : Cl) pa' pc', Below wz.heap.size wz X → k0.At X → SameC c k0 → Calls Tryz.prog 11 #[.agg #[.int .i64 lid, .int .i64 kind, .int .i64 mr, .int .i64 md, .slice pa' pn pc'], .agg #[.int .i64 k0.id, .slice k0.ra k0.rs.length k0.rc, .slice k0.da k0.ds.length k0.dc, .slice k0.va k0.vs.length k0.vc], .int .i64 most] X fun e w' => (∃ (t : List UInt8) (ev : Value), e = .returned (.tuple #[.string ⟨t.toArray⟩, ev]) ∧ CwT lid kind mr md U c most t ev) ∧ Below wz.heap.size wz w') := fun X k0 pa' pc' hX ka ks => (by
      have hEX := HA0.out _ (HI3.out.keep hX).old
      refine (chWrite_any lid kind mr md pa' pn pc' U HU.out k0 most (by rw [ks.rs, ks.ds, ks.vs]; exact hbk) ks.cap (by rw [ks.vs]; exact HIN.out) X _ _ _ _ _ _ hEX.s hEX.k hEX.b ka).mono fun e w' h => ⟨?_, bel_next hX (Nat.le_refl _) h.2⟩
      obtain ⟨⟨t, ev, h1, h2⟩, _⟩ := h
      exact ⟨t, ev, h1, .of (h2.same ks)⟩)
    go_region_held3 (fun X => (X.cell? ⟨W.heap.size, 0, none⟩ = some (.int .i64 lid) ∧ X.cell? ⟨W.heap.size, 1, none⟩ = some (.int .i64 kind) ∧ X.cell? ⟨W.heap.size, 2, none⟩ = some (.int .i64 mr) ∧ X.cell? ⟨W.heap.size, 3, none⟩ = some (.int .i64 md) ∧ X.cell? ⟨W.heap.size, 4, none⟩ = some (.slice pa pn pc)) ∧ (X.cell? ⟨W.heap.size + 1, 0, none⟩ = some (.int .i64 c.id) ∧ X.cell? ⟨W.heap.size + 1, 1, none⟩ = some (.slice c.ra c.rs.length c.rc) ∧ X.cell? ⟨W.heap.size + 1, 2, none⟩ = some (.slice c.da c.ds.length c.dc) ∧ X.cell? ⟨W.heap.size + 1, 3, none⟩ = some (.slice c.va c.vs.length c.vc)) ∧ Below wz.heap.size wz X) (with_reducible refine HN.out _ ?_; repeat' (first | with_reducible assumption | with_reducible exact b0.drew | with_reducible exact b0 | with_reducible refine Below.drew ?_ | with_reducible exact Nat.le_refl _ | with_reducible refine Below.setCell ?_ ?_ _ | with_reducible refine Below.alloc ?_ ?_ _ | with_reducible exact Below.size (by assumption) | (simp; done) | (simp; omega) | omega)) (first
      | (go_at_call 12; (with_reducible refine Calls.mono (HO1.out _ ?_) ?_); (repeat' (first | with_reducible assumption | with_reducible exact b0.drew | with_reducible exact b0 | with_reducible refine Below.drew ?_ | with_reducible refine Below.alloc ?_ ?_ _ | with_reducible exact Below.size (by assumption) | with_reducible exact Nat.le_refl _ | (simp; done) | (simp; omega))); rintro e x1 ⟨⟨pa', pc', rfl⟩, hbx1, hraw1⟩; (first | (have HK1 : Hid (k0.At x1) := Cl.At.keep (Hid.out HK0) hraw1; clear HK0; have HK0 : Hid (k0.At x1) := HK1; clear HK1) | skip))
      | (go_at_call 13; (with_reducible refine Calls.mono (HO2.out _ ?_) ?_); (repeat' (first | with_reducible assumption | with_reducible exact b0.drew | with_reducible exact b0 | with_reducible refine Below.drew ?_ | with_reducible refine Below.alloc ?_ ?_ _ | with_reducible exact Below.size (by assumption) | with_reducible exact Nat.le_refl _ | (simp; done) | (simp; omega))); rintro e x2 ⟨⟨k0, rfl, ka0, ks0⟩, hbx2, hraw2⟩; have HK0 : Hid (k0.At x2) := ka0; have HKS0 : Hid _ := ks0; clear ka0 ks0)
      | (go_at_call 11; (with_reducible refine Calls.mono (HO3.out _ k0 pa' pc' ?_ ?_ ?_) ?_); (repeat' (first | with_reducible assumption | with_reducible exact b0.drew | with_reducible exact b0 | with_reducible refine Below.drew ?_ | with_reducible refine Below.alloc ?_ ?_ _ | with_reducible exact Below.size (by assumption) | with_reducible exact Nat.le_refl _ | (simp; done) | (simp; omega))); (first | exact HK0.out | exact HK0.out.keep ((Below.refl _ _).drew)); exact HKS0.out; rintro e x3 ⟨⟨t, ev, rfl, hor⟩, hbx3⟩; have HOR : Hid (CwT lid kind mr md U c most t ev) := hor; have HBX3 : Hid (Below wz.heap.size wz x3) := hbx3; clear hor))
    all_goals
      go_wp2_with fail
      go_meet
      exact ⟨t, rfl, HBX3, HOR⟩
  case rest =>
    obtain ⟨t, rfl, HBw, HBR⟩ := hcut
    rename World => wx
    rename Value => ev
    have HI : Hid (LsI W lid kind mr md pa pn pc c wx) := HI3.out.keep HBw.out
    clear HI3 HBw p0 p1 p2 p3 p4 k0 k1 k2 k3
    rcases HBR.out with ⟨et, ep, rfl⟩ | ⟨rfl, hg, hr, hm, rfl⟩
    · clear HBR
      go_wp2
      go_ret
      exact ⟨rfl, HI.out.old⟩
    clear HBR
    obtain ⟨f1, f2, f3, f4, f5⟩ := pgs_facts most.toNat hg hr HIN.out
    have hcl := cs_le _ fun p hp => (f1 p hp).2.1
    have hpm := fun p hp => pgs_most (most := most.toNat) (md := md) c.rs.length c p hp
    have hcid : c.id = lid := by
      have h := hg.1
      rw [Bool.and_eq_true, fitB_iff] at h
      exact h.2.1
    obtain ⟨cs, HCS⟩ : ∃ cs, Hid (pgs c.rs.length most.toNat md c = cs) := ⟨_, rfl⟩
    rw [HCS.out] at f1 f2 f3 f4 f5 hcl hpm ⊢
    rw [f3] at hcl
    have HF : Hid (jR cs = c.rs ∧ jD cs = c.ds ∧ jV cs = c.vs) := ⟨f3, f4, f5⟩
    have HRd : Hid (∀ X pa' pc', Below W.heap.size W X → Calls Tryz.prog 16 #[.agg #[.int .i64 lid, .int .i64 kind, .int .i64 mr, .int .i64 md, .slice pa' pn pc'], .string ⟨(chT U kind mr md cs).toArray⟩] X fun e w' => (∃ x : Cl, e = .returned (.tuple #[.agg #[.int .i64 x.id, .slice x.ra x.rs.length x.rc, .slice x.da x.ds.length x.dc, .slice x.va x.vs.length x.vc], .nilIface]) ∧ x.At w' ∧ x.id = c.id ∧ x.rs = c.rs ∧ x.ds = c.ds ∧ x.vs = c.vs) ∧ Below X.heap.size X w') := fun X pa' pc' hX => (chRead_any lid kind mr md pa' pn pc' U HU.out cs f1 f2 (by rw [f3, f4, f5]; exact hbk) X tt bt st kt ut tp bp sp kp up (HA0.out X hX)).mono fun e w' h => (by
      obtain ⟨⟨x, h1, h2, _, h3, h4, h5, h6, _⟩, h7⟩ := h
      exact ⟨⟨x, h1, h2, h3.trans hcid.symm, h4.trans f3, h5.trans f4, h6.trans f5⟩, h7⟩)
    have HMk : Hid (∀ X pa' pc', Below W.heap.size W X → Calls Tryz.prog 17 #[.agg #[.int .i64 lid, .int .i64 kind, .int .i64 mr, .int .i64 md, .slice pa' pn pc'], .string ⟨(chT U kind mr md cs).toArray⟩] X fun e w' => (∃ a d, e = .returned (.tuple #[.slice a cs.length d, .nilIface]) ∧ LiesM w' a (mkOf U kind mr md 0 0 cs)) ∧ Below X.heap.size X w') := fun X pa' pc' hX => (chMarks_any lid kind mr md pa' pn pc' U HU.out cs f1 f2 (by rw [f3, f4, f5]; exact hbk) X tt bt st kt ut tp bp sp kp up (HA0.out X hX)).mono fun e w' h => (by
      obtain ⟨⟨a, d, h1, h2, _⟩, h7⟩ := h
      exact ⟨⟨a, d, h1, h2⟩, h7⟩)
    have HPm : Hid (∀ p ∈ cs, cntE 0 p.rs ≤ 1 ∨ p.rs.length ≤ most.toNat) := hpm
    have HMo : Hid (1 ≤ most ∧ most ≤ 20000) := hm
    obtain ⟨sb, HSB⟩ : ∃ sb, Hid ((⟨(chT U kind mr md cs).toArray⟩ : ByteArray) = sb) := ⟨_, rfl⟩
    rw [HSB.out] at HRd HMk ⊢
    clear f1 f2 f3 f4 f5 hpm hg hr hcid hm HU HCS
    have HO1 : Hid (∀ X, Below wx.heap.size wx X → Calls Tryz.prog 12 #[.agg #[.int .i64 lid, .int .i64 kind, .int .i64 mr, .int .i64 md, .slice pa pn pc]] X fun e w' => (∃ pa' pc', e = .returned (.agg #[.int .i64 lid, .int .i64 kind, .int .i64 mr, .int .i64 md, .slice pa' pn pc'])) ∧ Below wx.heap.size wx w' ∧ Below X.heap.size X w') := fun X hX => (by
      have h := ownLeaf_any lid kind mr md pa pc ps X (by rw [HPN.out]; omega) (HP.out _ (HI.out.keep hX).old)
      rw [HPN.out] at h
      exact h.mono fun e w' h => ⟨(by obtain ⟨⟨pa', pc', h1, _⟩, _⟩ := h; exact ⟨pa', pc', h1⟩), bel_next hX (Nat.le_refl _) h.2, h.2⟩)
    obtain ⟨⟨p0, p1, p2, p3, p4⟩, _⟩ := row_five HI.out.lf
    go_wp2_with fail
    refine Calls.mono (HO1.out wx (Below.refl _ _)) ?_
    rintro e w4 ⟨⟨pa1, pc1, rfl⟩, hb4, _⟩
    have HI4 : Hid (LsI W lid kind mr md pa pn pc c w4) := HI.out.keep hb4
    clear hb4 HO1 p0 p1 p2 p3 p4
    obtain ⟨⟨p0, p1, p2, p3, p4⟩, _⟩ := row_five HI4.out.lf
    go_wp2_with fail
    refine Calls.mono (HRd.out w4 pa1 pc1 HI4.out.old) ?_
    rintro e w5 ⟨⟨x, rfl, hxa, x1, x2, x3, x4⟩, hb5⟩
    have HI5 : Hid (LsI W lid kind mr md pa pn pc c w5) := HI4.out.keep hb5
    have HXA : Hid (x.At w5) := hxa
    have HXE : Hid (x.id = c.id ∧ x.rs = c.rs ∧ x.ds = c.ds ∧ x.vs = c.vs) := ⟨x1, x2, x3, x4⟩
    clear hb5 hxa x1 x2 x3 x4 HRd HI4 HI p0 p1 p2 p3 p4
    obtain ⟨w6, HW6, HX6, HB6⟩ := boxed1 w5 #[.int .i64 x.id, .slice x.ra x.rs.length x.rc, .slice x.da x.ds.length x.dc, .slice x.va x.vs.length x.vc] 27
    have HI6 : Hid (LsI W lid kind mr md pa pn pc c w6) := HI5.out.keep HB6.out
    have HXA6 : Hid (x.At w6) := HXA.out.keep HB6.out
    clear HB6 HI5 HXA
    have HO1 : Hid (∀ X, Below w6.heap.size w6 X → Calls Tryz.prog 12 #[.agg #[.int .i64 lid, .int .i64 kind, .int .i64 mr, .int .i64 md, .slice pa pn pc]] X fun e w' => (∃ pa' pc', e = .returned (.agg #[.int .i64 lid, .int .i64 kind, .int .i64 mr, .int .i64 md, .slice pa' pn pc'])) ∧ Below w6.heap.size w6 w' ∧ Below X.heap.size X w') := fun X hX => (by
      have h := ownLeaf_any lid kind mr md pa pc ps X (by rw [HPN.out]; omega) (HP.out _ (HI6.out.keep hX).old)
      rw [HPN.out] at h
      exact h.mono fun e w' h => ⟨(by obtain ⟨⟨pa', pc', h1, _⟩, _⟩ := h; exact ⟨pa', pc', h1⟩), bel_next hX (Nat.le_refl _) h.2, h.2⟩)
    obtain ⟨⟨p0, p1, p2, p3, p4⟩, _⟩ := row_five HI6.out.lf
    go_upto_region 8 with fail
    rw [HW6.out]
    clear HW6
    go_wp2_with fail
    refine Calls.mono (HO1.out w6 (Below.refl _ _)) ?_
    rintro e w7 ⟨⟨pa2, pc2, rfl⟩, hb7, _⟩
    have HI7 : Hid (LsI W lid kind mr md pa pn pc c w7) := HI6.out.keep hb7
    have HXA7 : Hid (x.At w7) := HXA6.out.keep hb7
    have HX7 : Hid _ := blk_keep hb7 HX6.out
    clear hb7 HO1 HI6 HXA6 HX6 p0 p1 p2 p3 p4
    go_wp2_with fail
    refine Calls.mono (HMk.out w7 pa2 pc2 HI7.out.old) ?_
    rintro e w8 ⟨⟨a, d, rfl, hlm⟩, hb8⟩
    have HI8 : Hid (LsI W lid kind mr md pa pn pc c w8) := HI7.out.keep hb8
    have HXA8 : Hid (x.At w8) := HXA7.out.keep hb8
    have HX8 : Hid _ := blk_keep hb8 HX7.out
    have HLM : Hid (LiesM w8 a (mkOf U kind mr md 0 0 cs)) := hlm
    clear hb8 HMk HI7 HXA7 HX7 hlm
    obtain ⟨⟨p0, p1, p2, p3, p4⟩, _⟩ := row_five HI8.out.lf
    obtain ⟨k0, k1, k2, k3⟩ := row_four HI8.out.co
    obtain ⟨m0, m1, m2, m3⟩ := row_four HX8.out
    have HSm : Hid (Calls Tryz.prog 18 #[.agg #[.int .i64 x.id, .slice x.ra x.rs.length x.rc, .slice x.da x.ds.length x.dc, .slice x.va x.vs.length x.vc], .agg #[.int .i64 c.id, .slice c.ra c.rs.length c.rc, .slice c.da c.ds.length c.dc, .slice c.va c.vs.length c.vc]] w8 fun e w' => e = .returned (.bool true) ∧ Below w8.heap.size w8 w') := (by
      obtain ⟨e1, e2, e3, e4⟩ := HXE.out
      refine (sameColumn_any x.id c.id x.ra c.ra x.da c.da x.va c.va x.rc c.rc x.dc c.dc x.vc c.vc x.rs c.rs x.ds c.ds x.vs c.vs w8 (by rw [e2]; unfold maxLen; omega) (by rw [e3]; unfold maxLen; omega) (by rw [e4]; unfold maxLen; omega) HXA8.out.r (HAT.out _ HI8.out.old).r HXA8.out.d (HAT.out _ HI8.out.old).d HXA8.out.v (HAT.out _ HI8.out.old).v).mono fun e w' h => ⟨?_, h.2⟩
      obtain ⟨b, hb, hbi⟩ := h.1
      rw [hb, hbi.2 ⟨e1, e2, e3, e4⟩])
    go_wp2_with fail
    refine Calls.mono HSm.out ?_
    rintro e w9 ⟨rfl, hb9⟩
    have HI9 : Hid (LsI W lid kind mr md pa pn pc c w9) := HI8.out.keep hb9
    have HLM9 : Hid (LiesM w9 a (mkOf U kind mr md 0 0 cs)) := HLM.out.keep hb9
    clear hb9 HSm HI8 HLM HX8 HXA8 HXE p0 p1 p2 p3 p4 k0 k1 k2 k3 m0 m1 m2 m3
    have HCo : Hid (Calls Tryz.prog 19 #[.agg #[.int .i64 c.id, .slice c.ra c.rs.length c.rc, .slice c.da c.ds.length c.dc, .slice c.va c.vs.length c.vc]] w9 fun e w' => e = .returned (.int .i64 (cntE 0 c.rs : Nat)) ∧ Below w9.heap.size w9 w') := countOf_any c.id c.ra c.rs c.rc c.da c.ds.length c.dc c.va c.vs.length c.vc (by omega) w9 (HAT.out _ HI9.out.old).r
    obtain ⟨k0, k1, k2, k3⟩ := row_four HI9.out.co
    go_wp2_with fail
    go_loop [14, 15] (fun y z => ∃ i : Nat, i ≤ cs.length ∧ z = .int .i64 i ∧ y = .int .i64 (cntE 0 (jR (cs.take i)) : Nat)) (fun _ z => cs.length - (intOf z).toNat)
    case atStart => exact ⟨0, Nat.zero_le _, rfl, rfl⟩
    case round =>
      obtain ⟨i, hi, rfl, rfl⟩ := hrel
      have hjl := jR_le cs i
      rw [HF.out.1] at hjl
      have hcn : cntE 0 (jR (cs.take i)) ≤ (jR (cs.take i)).length := List.length_filter_le _ _
      by_cases hlt : i < cs.length
      · have hl2 : i < (mkOf U kind mr md 0 0 cs).length := by rw [mkOf_len]; exact hlt
        obtain ⟨b, o, rfl, hc⟩ := HLM9.out i hl2
        rw [mkOf_at U kind mr md 0 0 cs i hlt hl2] at hc
        have c2 := hc 2 _ rfl
        have c3 := hc 3 _ rfl
        have c4 := hc 4 _ rfl
        rw [Nat.zero_add] at c2
        have hst : (ofC cs[i]).e = (cs[i].rs.length : Nat) := by
          have h := (ofK_eu cs[i] cs[i].vs.length (Nat.le_refl _)).1
          rw [ofK_all] at h
          exact h
        rw [hst] at c4
        have HCS : Hid (cntE 0 (jR (cs.take (i + 1))) = cntE 0 (jR (cs.take i)) + cntE 0 cs[i].rs) := (by show _ = _; rw [jR_succ hlt, cntE_app])
        have hor := HPm.out cs[i] (List.getElem_mem hlt)
        have hcc : cntE 0 cs[i].rs ≤ cs[i].rs.length := List.length_filter_le _ _
        have hjl2 := jR_le cs (i + 1)
        rw [jR_succ hlt, List.length_append, HF.out.1] at hjl2
        obtain ⟨q, HQ⟩ : ∃ q : Nat, Hid (cntE 0 (jR (cs.take i)) = q) := ⟨_, rfl⟩
        obtain ⟨r, HR⟩ : ∃ r : Nat, Hid (cntE 0 cs[i].rs = r) := ⟨cntE 0 cs[i].rs, rfl⟩
        obtain ⟨n, HNn⟩ : ∃ n : Nat, Hid (cs[i].rs.length = n) := ⟨cs[i].rs.length, rfl⟩
        rw [HQ.out] at c2 hcn HCS ⊢
        rw [HR.out] at c3 hor hcc HCS
        rw [HNn.out] at c4 hor hcc hjl2
        clear hc hst hl2
        have hmo := HMo.out
        by_cases hr1 : 1 < r
        · have t1 : decide (((r : Nat) : Int) > 1) = true := decide_eq_true (by omega)
          have t2 : decide ((1 : Int) < ((r : Nat) : Int)) = true := decide_eq_true (by omega)
          have t3 : decide (((n : Nat) : Int) > most) = false := decide_eq_false (by omega)
          have t4 : decide (most < ((n : Nat) : Int)) = false := decide_eq_false (by omega)
          clear hor
          go_wp2
          go_round
          case rel => exact ⟨i + 1, by omega, by go_num, by rw [HCS.out]; go_num⟩
          case measure => simp [intOf]; omega
        · have t1 : decide (((r : Nat) : Int) > 1) = false := decide_eq_false (by omega)
          have t2 : decide ((1 : Int) < ((r : Nat) : Int)) = false := decide_eq_false (by omega)
          clear hor
          go_wp2
          go_round
          case rel => exact ⟨i + 1, by omega, by go_num, by rw [HCS.out]; go_num⟩
          case measure => simp [intOf]; omega
      · obtain rfl : i = cs.length := by omega
        rw [List.take_length, HF.out.1] at hcn ⊢
        go_wp2_with fail
        refine Calls.mono HCo.out ?_
        rintro e w10 ⟨rfl, hb10⟩
        have HI10 : Hid (Below W.heap.size W w10) := HI9.out.old.trans (hb10.mono HI9.out.old.size)
        clear hb10 HCo k0 k1 k2 k3
        go_wp2
        go_ret
        exact ⟨by simp, HI10.out⟩
end Go.Proofs.YtgpfmjbebfmmnaaGreatDoor

namespace Go.Proofs.YtgpfmjbebfmmnaaGreatDoor
open Go.RowKit
theorem chunkTwice_top {H : Type} (d0 d1 : DataW H) {b2 : Nat} (lid kind mr md : Int) (pa : Option Addr) (pc : Nat) (ps : List Int) (c : Cl) (most : Int) (W : World) (hp : Lies W pa (i64s ps)) (hat : c.At W) (hin : ∀ v ∈ c.vs, v.In) (hcb : c.bulk ≤ Rows.uptoBulk d1) (_hw : (Lit.int .i64 most).wf = true) (bulk : Rows.uptoBulk d0 + (Rows.uptoBulk d1 + (b2 + 0)) ≤ 1048576) (hL : laidMetH Tryz.prog Rows.chunkTwiceUptoRow.laid W) :
    Calls Tryz.prog 4 #[.agg #[.int .i64 lid, .int .i64 kind, .int .i64 mr, .int .i64 md, .slice pa ps.length pc], c.val, .int .i64 most] W fun e w' => e = .returned (.bool true) ∧ Below W.heap.size W w' := by
  obtain ⟨tt, bt, st, kt, ut, tp, bp, sp, kp, up, hE⟩ := five_of hL
  exact chunkTwice_walk lid kind mr md pa pc ps c most W tt bt st kt ut tp bp sp kp up hE hp hat hin (by omega)
end Go.Proofs.YtgpfmjbebfmmnaaGreatDoor
