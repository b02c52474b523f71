/-
  The closure of chunk.Marks.
  chunk.lay: exact.
  The closure of chunk.Pick.
-/
import Derived.Test.YtgpfmjbebfmmnaaGreatDoorPBChB
import Derived.Test.YtgpfmjbebfmmnaaGreatDoorPBPgC
import Derived.Deep.DeepCutAuto
import Derived.Deep.RegionHeld3
import Derived.Test.YtgpfmjbebfmmnaaGreatDoorPBColS
import Derived.Deep.RegionLaw
namespace Go.Proofs.YtgpfmjbebfmmnaaGreatDoor
open Go.RowKit
theorem Tryz.infoMk : (Tryz.prog.info? 56).map (fun i => (i.zero, i.size, i.bytes)) = some (some (.agg #[.int .i64 0, .int .i64 0, .int .i64 0, .int .i64 0, .int .i64 0, .int .i64 0, .bool false, .int .i64 0, .int .i64 0, .string ⟨#[]⟩, .int .i64 0, .int .i64 0, .string ⟨#[]⟩]), 13, 120) := by kernel_rfl
theorem one_mk (m : Mk) : ∀ u ∈ m.cs, u.oneCell' = true := fun u hu => by
 simp only [Mk.cs, List.mem_cons, List.not_mem_nil, or_false] at hu
 rcases hu with rfl | rfl | rfl | rfl | rfl | rfl | rfl | rfl | rfl | rfl | rfl | rfl | rfl <;> rfl
set_option maxRecDepth 100000 in
set_option maxHeartbeats 6400000 in
theorem marks1_any (lid kind mr md : Int) (pa : Option Addr) (pn pc : Nat) (at_ size fst : Int) (gL g1 g2 N : Nat) (lv : Value) (ms : List Mk) (k : Cl) (hn12 : g2 ≠ g1) (hn2L : g2 ≠ gL) (hn1L : g1 ≠ gL) (hgd : GoodC lid kind mr md k) (hin : ∀ v ∈ k.vs, v.Low) (hbk : k.rs.length + k.ds.length + k.vs.length ≤ 2000) (hcap : k.Cap) (hms : ms.length ≤ 100000) (hfs : 0 ≤ fst ∧ fst ≤ 1000000) (W : World) (hI : MkS gL g1 g2 N lid kind mr md pa pn pc fst lv ms W) (hN : N ≤ W.heap.size) (st kt bt : TypeId) (sp kp bp : Value) (hs : W.cell? ⟨0, 0, none⟩ = some (.iface st sp)) (hk : W.cell? ⟨3, 0, none⟩ = some (.iface kt kp)) (hbd : W.cell? ⟨1, 0, none⟩ = some (.iface bt bp)) (hat : k.At W) :
    Calls Tryz.prog 38 #[.int .i64 at_, .int .i64 size, .agg #[.int .i64 k.id, .slice k.ra k.rs.length k.rc, .slice k.da k.ds.length k.dc, .slice k.va k.vs.length k.vc], .pointer (some ⟨gL, 0, none⟩), .pointer (some ⟨g2, 0, none⟩), .pointer (some ⟨g1, 0, none⟩)] W fun e w' => e = .returned .nilIface ∧ (∃ lv', MkS gL g1 g2 N lid kind mr md pa pn pc (fst + (cntE 0 k.rs : Nat)) lv' (ms ++ [⟨at_, size, fst, (cntE 0 k.rs : Nat), ofC k⟩]) w') ∧ MFr g1 g2 N W w' := by
 obtain ⟨im, hmi, hm0, hm1, hm2⟩ := info_parts Tryz.infoMk
 obtain ⟨w0, HW0, HX, HB⟩ := boxed1 W #[.int .i64 k.id, .slice k.ra k.rs.length k.rc, .slice k.da k.ds.length k.dc, .slice k.va k.vs.length k.vc] 27
 have HI0 : Hid (MkS gL g1 g2 N lid kind mr md pa pn pc fst lv ms w0) := hI.keep HB.out
 obtain ⟨s, HSt⟩ : ∃ s, Hid (ofC k = s) := ⟨_, rfl⟩
 have HOf : Hid (Calls Tryz.prog 39 #[.agg #[.int .i64 lid, .int .i64 kind, .int .i64 mr, .int .i64 md, .slice pa pn pc], .agg #[.int .i64 k.id, .slice k.ra k.rs.length k.rc, .slice k.da k.ds.length k.dc, .slice k.va k.vs.length k.vc]] w0 fun e w' => e = .returned (.tuple #[.agg #[.int .i64 s.e, .int .i64 s.u, .bool s.h, .int .i64 s.mn.k, .int .i64 s.mn.n, .string s.mn.s, .int .i64 s.mx.k, .int .i64 s.mx.n, .string s.mx.s], .nilIface]) ∧ Below w0.heap.size w0 w') := (of_any lid kind mr md pa pn pc k w0 st kt bt sp kp bp (by omega) (by omega) (by omega) hcap.1 hcap.2.1 hcap.2.2 (ckB hs HB.out) (ckB hk HB.out) (ckB hbd HB.out) (hat.keep HB.out) hin).mono fun e w' h => (by
  obtain ⟨⟨s', ev, rfl, h2⟩, h3⟩ := h
  refine ⟨?_, h3⟩
  rcases h2 with ⟨h1, _⟩ | ⟨_, p, hp, h1, _⟩ | ⟨_, h1, h2⟩
  · have := hgd.1
    rw [h1] at this
    cases this
  · have := hgd.2 p hp
    rw [h1] at this
    cases this
  · rw [h1, h2, HSt.out]
    rfl)
 have HAT : Hid (k.At w0) := hat.keep HB.out
 have HM0 : Hid (MFr g1 g2 N W w0) := .of_below HB.out
 have hcn : cntE 0 k.rs ≤ k.rs.length := List.length_filter_le _ _
 rw [HSt.out]
 clear hI hs hk hbd hat HB hgd hcap hin
 obtain ⟨⟨p0, p1, p2, p3, p4⟩, _⟩ := row_five HI0.out.lf
 obtain ⟨k0, k1, k2, k3⟩ := row_four HX.out
 go_enter Tryz.func38, Tryz.ntmps38
 go_upto_region 1 with fail
 rw [HW0.out]
 clear HW0
 go_wp2_with fail
 refine Calls.mono HOf.out ?_
 rintro e w1 ⟨rfl, hb1⟩
 have HI1 : Hid (MkS gL g1 g2 N lid kind mr md pa pn pc fst lv ms w1) := HI0.out.keep hb1
 have HX1 : Hid _ := blk_keep hb1 HX.out
 have HA1 : Hid (k.At w1) := HAT.out.keep hb1
 have HM1 : Hid (MFr g1 g2 N W w1) := HM0.out.trans (.of_below hb1)
 have hN1 : N ≤ w1.heap.size := Nat.le_trans hN HM1.out.size
 clear hb1 HX HI0 HAT HM0 HOf p0 p1 p2 p3 p4 k0 k1 k2 k3
 obtain ⟨w2, HW2, HS2, HB2⟩ := boxed1 w1 #[.int .i64 s.e, .int .i64 s.u, .bool s.h, .int .i64 s.mn.k, .int .i64 s.mn.n, .string s.mn.s, .int .i64 s.mx.k, .int .i64 s.mx.n, .string s.mx.s] 54
 have HI2 : Hid (MkS gL g1 g2 N lid kind mr md pa pn pc fst lv ms w2) := HI1.out.keep HB2.out
 have HX2 : Hid _ := blk_keep HB2.out HX1.out
 have HA2 : Hid (k.At w2) := HA1.out.keep HB2.out
 have HM2 : Hid (MFr g1 g2 N W w2) := HM1.out.trans (.of_below HB2.out)
 have hN2 : N ≤ w2.heap.size := Nat.le_trans hN1 HB2.out.size
 have HCt : Hid (∀ X, Below w2.heap.size w2 X → Calls Tryz.prog 40 #[.agg #[.int .i64 k.id, .slice k.ra k.rs.length k.rc, .slice k.da k.ds.length k.dc, .slice k.va k.vs.length k.vc]] X fun e w' => e = .returned (.int .i64 (cntE 0 k.rs : Nat)) ∧ Below w2.heap.size w2 w' ∧ Below X.heap.size X w') := fun X hX => (count_any k.id k.ra k.rs k.rc k.da k.ds.length k.dc k.va k.vs.length k.vc (by omega) X (HA2.out.keep hX).r).mono fun e w' h => ⟨h.1, bel_next hX (Nat.le_refl _) h.2, h.2⟩
 clear HB2 HX1 HA1 HI1 HM1
 go_upto_region 4 with fail
 rw [HW2.out]
 clear HW2
 obtain ⟨c0, _⟩ := row_oneC HI2.out.fc
 obtain ⟨k0, k1, k2, k3⟩ := row_four HX2.out
 obtain ⟨⟨s0, s1, s2, s3, s4, s5, s6, s7, s8⟩, _⟩ := row_nine HS2.out
 go_cut [12] (fun p wx => ∃ h, p = .pointer (some ⟨h, 0, none⟩) ∧ Hid (wx.heap[h]? = some (.cells #[.int .i64 at_, .int .i64 size, .int .i64 fst, .int .i64 (cntE 0 k.rs : Nat), .int .i64 s.e, .int .i64 s.u, .bool s.h, .int .i64 s.mn.k, .int .i64 s.mn.n, .string s.mn.s, .int .i64 s.mx.k, .int .i64 s.mx.n, .string s.mx.s] 56 (0, 0))) ∧ Hid (Below w2.heap.size w2 wx))
 case first =>
  have b0 : Below w2.heap.size w2 w2 := Below.refl _ _
  have HN : Hid (∀ X, Below w2.heap.size w2 X → X.cell? ⟨g2, 0, none⟩ = some (.int .i64 fst) ∧ (X.cell? ⟨W.heap.size, 0, none⟩ = some (.int .i64 k.id) ∧ X.cell? ⟨W.heap.size, 1, none⟩ = some (.slice k.ra k.rs.length k.rc) ∧ X.cell? ⟨W.heap.size, 2, none⟩ = some (.slice k.da k.ds.length k.dc) ∧ X.cell? ⟨W.heap.size, 3, none⟩ = some (.slice k.va k.vs.length k.vc)) ∧ (X.cell? ⟨w1.heap.size, 0, none⟩ = some (.int .i64 s.e) ∧ X.cell? ⟨w1.heap.size, 1, none⟩ = some (.int .i64 s.u) ∧ X.cell? ⟨w1.heap.size, 2, none⟩ = some (.bool s.h) ∧ X.cell? ⟨w1.heap.size, 3, none⟩ = some (.int .i64 s.mn.k) ∧ X.cell? ⟨w1.heap.size, 4, none⟩ = some (.int .i64 s.mn.n) ∧ X.cell? ⟨w1.heap.size, 5, none⟩ = some (.string s.mn.s) ∧ X.cell? ⟨w1.heap.size, 6, none⟩ = some (.int .i64 s.mx.k) ∧ X.cell? ⟨w1.heap.size, 7, none⟩ = some (.int .i64 s.mx.n) ∧ X.cell? ⟨w1.heap.size, 8, none⟩ = some (.string s.mx.s)) ∧ Below w2.heap.size w2 X) := fun X hX => ⟨(row_oneC (blk_keep hX HI2.out.fc)).1, row_four (blk_keep hX HX2.out), (row_nine (blk_keep hX HS2.out)).1, hX⟩
  go_region_held3 (fun X => X.cell? ⟨g2, 0, none⟩ = some (.int .i64 fst) ∧ (X.cell? ⟨W.heap.size, 0, none⟩ = some (.int .i64 k.id) ∧ X.cell? ⟨W.heap.size, 1, none⟩ = some (.slice k.ra k.rs.length k.rc) ∧ X.cell? ⟨W.heap.size, 2, none⟩ = some (.slice k.da k.ds.length k.dc) ∧ X.cell? ⟨W.heap.size, 3, none⟩ = some (.slice k.va k.vs.length k.vc)) ∧ (X.cell? ⟨w1.heap.size, 0, none⟩ = some (.int .i64 s.e) ∧ X.cell? ⟨w1.heap.size, 1, none⟩ = some (.int .i64 s.u) ∧ X.cell? ⟨w1.heap.size, 2, none⟩ = some (.bool s.h) ∧ X.cell? ⟨w1.heap.size, 3, none⟩ = some (.int .i64 s.mn.k) ∧ X.cell? ⟨w1.heap.size, 4, none⟩ = some (.int .i64 s.mn.n) ∧ X.cell? ⟨w1.heap.size, 5, none⟩ = some (.string s.mn.s) ∧ X.cell? ⟨w1.heap.size, 6, none⟩ = some (.int .i64 s.mx.k) ∧ X.cell? ⟨w1.heap.size, 7, none⟩ = some (.int .i64 s.mx.n) ∧ X.cell? ⟨w1.heap.size, 8, none⟩ = some (.string s.mx.s)) ∧ Below w2.heap.size w2 X) (with_reducible refine HN.out _ ?_; repeat' (first | with_reducible assumption | with_reducible exact b0.drew | with_reducible exact b0 | with_reducible refine Below.drew ?_ | with_reducible exact Nat.le_refl _ | with_reducible refine Below.setCell ?_ ?_ _ | with_reducible refine Below.alloc ?_ ?_ _ | with_reducible exact Below.size (by assumption) | (simp; done) | (simp; omega) | omega)) (first
   | (go_at_call 40; (with_reducible refine Calls.mono (HCt.out _ ?_) ?_); (repeat' (first | with_reducible assumption | with_reducible exact b0.drew | with_reducible exact b0 | with_reducible refine Below.drew ?_ | with_reducible refine Below.alloc ?_ ?_ _ | with_reducible exact Below.size (by assumption) | with_reducible exact Nat.le_refl _ | (simp; done) | (simp; omega))); rintro e x1 ⟨rfl, hbx1, hraw1⟩; have HBX1 : Hid (Below w2.heap.size w2 x1) := hbx1; (first | (have hzz := blk_keep hraw1 hzz0; clear hzz0; have hzz0 := hzz; clear hzz) | (have hzz0 := blk_keep hraw1 (blk_drew (heap_alloc_new _ (.cells #[.int .i64 0, .int .i64 0, .int .i64 0, .int .i64 0, .int .i64 0, .int .i64 0, .bool false, .int .i64 0, .int .i64 0, .string ⟨#[]⟩, .int .i64 0, .int .i64 0, .string ⟨#[]⟩] 56)))) | (have hzz0 := blk_keep hraw1 (heap_alloc_new _ (.cells #[.int .i64 0, .int .i64 0, .int .i64 0, .int .i64 0, .int .i64 0, .int .i64 0, .bool false, .int .i64 0, .int .i64 0, .string ⟨#[]⟩, .int .i64 0, .int .i64 0, .string ⟨#[]⟩] 56))) | skip); (first | (obtain ⟨z1, z2⟩ := row_mk hzz0; have HZZ : Hid _ := hzz0; clear hzz0) | skip)))
  · go_wp2_with fail
    go_meet
    exact ⟨x1.heap.size, rfl, heap_alloc_new _ _, HBX1.out.alloc HBX1.out.size _⟩
  all_goals
   go_wp2_with fail
   go_meet
   exact ⟨w2.heap.size, rfl, set13_row HZZ.out _ _ _ _ _ _ _ _ _ _ _ _ _, set13_below HBX1.out (Nat.le_refl _) _ _ _ _ _ _ _ _ _ _ _ _ _⟩
 case rest =>
  obtain ⟨h, rfl, HMk, HBx⟩ := hcut
  rename World => wx
  have HI3 : Hid (MkS gL g1 g2 N lid kind mr md pa pn pc fst lv ms wx) := HI2.out.keep HBx.out
  have HM3 : Hid (MFr g1 g2 N W wx) := HM2.out.trans (.of_below HBx.out)
  have hN3 : N ≤ wx.heap.size := Nat.le_trans hN2 HBx.out.size
  obtain ⟨la, lc, rfl⟩ := own_slC HI3.out.row
  have hhg : h ≠ g2 := fun e => by
   subst e
   have h1 := HMk.out
   rw [HI3.out.fc] at h1
   injection h1 with h1
   injection h1 with _ h1 _
   exact absurd h1 (by decide)
  clear c0 k0 k1 k2 k3 s0 s1 s2 s3 s4 s5 s6 s7 s8 HI2 HM2 HX2 HA2 HS2 HCt HBx
  obtain ⟨c0, fz⟩ := row_oneC HI3.out.fc
  obtain ⟨⟨x0, y1, y2, y3, y4, y5, y6, y7, y8, y9, ya, yb, yc⟩, _⟩ := row_mk HMk.out
  obtain ⟨n, HCn⟩ : ∃ n : Nat, Hid (cntE 0 k.rs = n) := ⟨_, rfl⟩
  rw [HCn.out] at hcn HMk y3
  go_upto_region 6 with fail
  obtain ⟨w5, HW5⟩ : ∃ w5, Hid (wx.setCell ⟨g2, 0, none⟩ (.int .i64 (fst + (n : Nat))) = w5) := ⟨_, rfl⟩
  obtain ⟨hm5, hf5⟩ := HI3.out.setF hn12 hn2L (fst + (n : Nat))
  have HMk5 : Hid _ := blk_other HMk.out hhg (j := 0) (.int .i64 (fst + (n : Nat)))
  rw [HW5.out] at hm5 hf5 HMk5 ⊢
  have HI5 : Hid (MkS gL g1 g2 N lid kind mr md pa pn pc (fst + (n : Nat)) (.slice la ms.length lc) ms w5) := hm5
  have HM5 : Hid (MFr g1 g2 N W w5) := HM3.out.trans hf5
  have hN5 : N ≤ w5.heap.size := Nat.le_trans hN3 hf5.size
  clear hm5 hf5 HW5 HI3 HM3 c0 fz x0 y1 y2 y3 y4 y5 y6 y7 y8 y9 ya yb yc
  obtain ⟨⟨x0, y1, y2, y3, y4, y5, y6, y7, y8, y9, ya, yb, yc⟩, _⟩ := row_mk HMk5.out
  obtain ⟨d0, fz⟩ := row_oneC HI5.out.lc
  have HI6 : Hid (MkS gL g1 g2 N lid kind mr md pa pn pc (fst + (n : Nat)) (.slice la ms.length lc) ms (w5.alloc (.cells #[.int .i64 at_, .int .i64 size, .int .i64 fst, .int .i64 (n : Nat), .int .i64 s.e, .int .i64 s.u, .bool s.h, .int .i64 s.mn.k, .int .i64 s.mn.n, .string s.mn.s, .int .i64 s.mx.k, .int .i64 s.mx.n, .string s.mx.s] 56))) := HI5.out.keep ((Below.refl _ _).alloc (Nat.le_refl _) _)
  have HM6 : Hid (MFr g1 g2 N W (w5.alloc (.cells #[.int .i64 at_, .int .i64 size, .int .i64 fst, .int .i64 (n : Nat), .int .i64 s.e, .int .i64 s.u, .bool s.h, .int .i64 s.mn.k, .int .i64 s.mn.n, .string s.mn.s, .int .i64 s.mx.k, .int .i64 s.mx.n, .string s.mx.s] 56))) := HM5.out.trans (.of_below ((Below.refl _ _).alloc (Nat.le_refl _) _))
  go_wp2_with (at_builtin; refine wpList_append_any _ rfl _ _ 47 rfl N 56 im (.agg #[.int .i64 0, .int .i64 0, .int .i64 0, .int .i64 0, .int .i64 0, .int .i64 0, .bool false, .int .i64 0, .int .i64 0, .string ⟨#[]⟩, .int .i64 0, .int .i64 0, .string ⟨#[]⟩]) 13 120 Tryz.underlying47 hmi hm0 hm1 hm2 rfl (by decide) _ _ (mkF ms) rfl HI6.out.row (some ⟨w5.heap.size, 0, none⟩) 1 1 (Mk.cs ⟨at_, size, fst, (n : Nat), s⟩) rfl rfl (fun j u hu => ⟨_, rfl, by rw [addr_add, Nat.zero_add]; exact cell_alloc_at (cs := (Mk.cs ⟨at_, size, fst, (n : Nat), s⟩).toArray) (T := 56) (by simpa using hu) rfl⟩) (one_mk _) (by unfold maxLen; omega) (by omega) (by simp; omega) ?_; intro v1 x1 hown1 hg1 hw1; obtain ⟨e1, e2, e3⟩ := HI6.out.app (m := ⟨at_, size, fst, (n : Nat), s⟩) (Ne.symm hn12) hn1L hown1 hg1 hw1; obtain ⟨a1, q1, rfl⟩ := own_slC hown1; have HI7 : Hid _ := e2; have HM7 : Hid (MFr g1 g2 N W _) := HM6.out.trans e3; clear hown1 hg1 hw1 e2 e3 d0 fz; obtain ⟨d0, fz⟩ := row_oneC e1; clear e1)
  go_ret
  rw [HCn.out]
  exact ⟨rfl, ⟨_, HI7.out⟩, HM7.out⟩
def Lo (M Z : Nat) (v : Value) : Prop := ∀ c, v.ownBlock = some c → c < M ∨ Z ≤ c
theorem lo_next {M Z : Nat} {v v' : Value} {X : World} (h : Lo M Z v) (hw : v'.ownBlock = v.ownBlock ∨ v'.ownBlock = some X.heap.size) (hz : Z ≤ X.heap.size) : Lo M Z v' := fun c hc => by
 rcases hw with e | e
 · exact h c (e ▸ hc)
 · rw [e] at hc
   injection hc with hc
   subst hc
   exact .inr hz
theorem mid_next {M Z g j : Nat} {v x : Value} {W X w1 : World} (hm : ∀ b, M ≤ b → b < Z → X.heap[b]? = W.heap[b]?) (hlo : Lo M Z v) (hg : X.grownBy w1 v.ownBlock) (hgM : g < M) (hz : Z ≤ X.heap.size) : ∀ b, M ≤ b → b < Z → (w1.setCell ⟨g, j, none⟩ x).heap[b]? = W.heap[b]? := fun b h1 h2 => by
 rw [Below.heap_setCell _ ⟨g, j, none⟩ _ _ (show b ≠ g by omega), hg.block b (by omega) (fun e => by have := hlo b e.symm; omega)]
 exact hm b h1 h2
structure LyI (g N M : Nat) (id : Int) (W W0 : World) (k : Cl) (R D : List Int) (V : List Vl) (X : World) : Prop where
 acc : ∃ rv dv vv, AcI g N id rv R dv D vv V X ∧ Lo M W.heap.size rv ∧ Lo M W.heap.size dv ∧ Lo M W.heap.size vv
 bx : X.heap[W.heap.size]? = some (.cells #[.int .i64 k.id, .slice k.ra k.rs.length k.rc, .slice k.da k.ds.length k.dc, .slice k.va k.vs.length k.vc] 27 (0, 0))
 fr : DFr g N W0 X
 mid : ∀ b, M ≤ b → b < W.heap.size → X.heap[b]? = W.heap[b]?
set_option maxRecDepth 100000 in
set_option maxHeartbeats 6400000 in
theorem lay_any (g N M : Nat) (id : Int) (rv dv vv : Value) (R D : List Int) (V : List Vl) (k : Cl) (W : World) (hI : AcI g N id rv R dv D vv V W) (hl1 : Lo M W.heap.size rv) (hl2 : Lo M W.heap.size dv) (hl3 : Lo M W.heap.size vv) (hgM : g < M) (hN : N ≤ W.heap.size) (hk : k.At W) (hf : k.Fr M) (hr : R.length + k.rs.length ≤ 1048576) (hd : D.length + k.ds.length ≤ 1048576) (hv : V.length + k.vs.length ≤ 1048576) :
    Calls Tryz.prog 37 #[.pointer (some ⟨g, 0, none⟩), .agg #[.int .i64 k.id, .slice k.ra k.rs.length k.rc, .slice k.da k.ds.length k.dc, .slice k.va k.vs.length k.vc]] W fun e w' => e = .returned (.tuple #[]) ∧ (∃ rv dv vv, AcI g N id rv (R ++ k.rs) dv (D ++ k.ds) vv (V ++ k.vs) w') ∧ DFr g N W w' := by
 obtain ⟨iv, hvi, hv0, hv1, hv2⟩ := info_parts Tryz.info3
 obtain ⟨iw, hwi, hw0, hw1, hw2⟩ := info_parts Tryz.infoV
 obtain ⟨w0, HW0, HX, HB⟩ := boxed1 W #[.int .i64 k.id, .slice k.ra k.rs.length k.rc, .slice k.da k.ds.length k.dc, .slice k.va k.vs.length k.vc] 27
 have hgl : g < W.heap.size := lt_of_block hI.cell
 have hgn : W.heap.size ≠ g := by omega
 have HD0 : Hid (DFr g N W w0) := .of_below HB.out
 have HI : Hid (LyI g N M id W W k R D V w0) := ⟨⟨rv, dv, vv, hI.stay HB.out, hl1, hl2, hl3⟩, HX.out, HD0.out, fun b _ h2 => HB.out.block b h2⟩
 have HLr : Hid _ := hr
 have HLd : Hid _ := hd
 have HLv : Hid _ := hv
 clear hI hl1 hl2 hl3 HX HB hr hd hv HD0
 clear rv dv vv
 go_enter Tryz.func37, Tryz.ntmps37
 go_upto_region 1 with fail
 rw [HW0.out]
 clear HW0
 generalize w0 = wa at HI ⊢
 go_cut [] (fun wx => Hid (LyI g N M id W W k (R ++ k.rs) D V wx))
 case first =>
  obtain ⟨rv, dv, vv, hI, hlo1, hlo2, hlo3⟩ := HI.out.acc
  obtain ⟨xra, xrc, rfl⟩ := own_slC hI.rrow
  obtain ⟨xda, xdc, rfl⟩ := own_slC hI.drow
  obtain ⟨xva, xvc, rfl⟩ := own_slC hI.vrow
  have HLo1 : Hid (Lo M W.heap.size (.slice xra R.length xrc)) := hlo1
  have HLo2 : Hid (Lo M W.heap.size (.slice xda D.length xdc)) := hlo2
  have HLo3 : Hid (Lo M W.heap.size (.slice xva V.length xvc)) := hlo3
  have HAa : Hid (AcI g N id (.slice xra R.length xrc) R (.slice xda D.length xdc) D (.slice xva V.length xvc) V wa.drew) := hI.stay (Below.refl _ _).drew
  obtain ⟨g0, g1, g2, g3⟩ := row_four hI.cell
  obtain ⟨f0, f1, f2, f3⟩ := row_fourA hI.cell
  obtain ⟨k0, k1, k2, k3⟩ := row_four HI.out.bx
  have HAT : Hid (k.At wa.drew) := hk.same hf (fun b h1 h2 => HI.out.mid b h1 h2)
  clear hI hlo1 hlo2 hlo3
  go_wp2_with fail
  go_region_law (refine step_append_any _ rfl _ _ 22 rfl N 3 iv (.int .i64 0) 1 8 Tryz.underlying22 hvi hv0 hv1 hv2 rfl (by decide) _ _ (i64s R) rfl HAa.out.rrow k.ra k.rs.length k.rc (i64s k.rs) rfl (by rw [i64s_len, Nat.mul_one]) (news_i HAT.out.r) (one_i _) (by have := HLr.out; unfold maxLen; omega) (by have := HLr.out; omega) (Nat.le_trans hN (show W.heap.size ≤ wa.drew.heap.size from HI.out.fr.size)) ?_; intro v1 x1 hown1 hg1 hw1; obtain ⟨e1, e2, e3⟩ := AcI.appR HAa.out hown1 hg1 hw1; have HLoN : Hid (Lo M W.heap.size v1) := lo_next (X := wa.drew) HLo1.out hw1 HI.out.fr.size; have HMid : Hid (∀ b, M ≤ b → b < W.heap.size → (x1.setCell ⟨g, 1, none⟩ v1).heap[b]? = W.heap[b]?) := mid_next (X := wa.drew) HI.out.mid HLo1.out hg1 hgM HI.out.fr.size; obtain ⟨a1, c1, rfl⟩ := own_slC hown1; have HA1 : Hid _ := e2; have HE3 : Hid (DFr g N wa.drew _) := e3; clear hown1 hg1 hw1 e2 e3 g0 g1 g2 g3 f0 f1 f2 f3; obtain ⟨g0, g1, g2, g3⟩ := row_four e1; obtain ⟨f0, f1, f2, f3⟩ := row_fourA e1; clear e1)
  all_goals
   have HIf : Hid (LyI g N M id W W k (R ++ k.rs) (D) (V) _) := ⟨⟨_, _, _, HA1.out, HLoN.out, HLo2.out, HLo3.out⟩, HE3.out.box (blk_drew HI.out.bx) hgn (by decide), HI.out.fr.trans ((DFr.drew _ _ wa).trans HE3.out), HMid.out⟩
   go_wp2_with fail
   go_meet
   exact HIf
 case rest =>
  clear HI
  have HI : Hid (LyI g N M id W W k (R ++ k.rs) D V _) := hcut
  clear hcut wa
  rename World => wa
  go_upto_region 2 with fail
  go_cut [] (fun wx => Hid (LyI g N M id W W k (R ++ k.rs) (D ++ k.ds) V wx))
  case first =>
   obtain ⟨rv, dv, vv, hI, hlo1, hlo2, hlo3⟩ := HI.out.acc
   obtain ⟨xra, xrc, rfl⟩ := own_slC hI.rrow
   obtain ⟨xda, xdc, rfl⟩ := own_slC hI.drow
   obtain ⟨xva, xvc, rfl⟩ := own_slC hI.vrow
   have HLo1 : Hid (Lo M W.heap.size (.slice xra (R ++ k.rs).length xrc)) := hlo1
   have HLo2 : Hid (Lo M W.heap.size (.slice xda D.length xdc)) := hlo2
   have HLo3 : Hid (Lo M W.heap.size (.slice xva V.length xvc)) := hlo3
   have HAa : Hid (AcI g N id (.slice xra (R ++ k.rs).length xrc) (R ++ k.rs) (.slice xda D.length xdc) D (.slice xva V.length xvc) V wa.drew) := hI.stay (Below.refl _ _).drew
   obtain ⟨g0, g1, g2, g3⟩ := row_four hI.cell
   obtain ⟨f0, f1, f2, f3⟩ := row_fourA hI.cell
   obtain ⟨k0, k1, k2, k3⟩ := row_four HI.out.bx
   have HAT : Hid (k.At wa.drew) := hk.same hf (fun b h1 h2 => HI.out.mid b h1 h2)
   clear hI hlo1 hlo2 hlo3
   go_wp2_with fail
   go_region_law (refine step_append_any _ rfl _ _ 22 rfl N 3 iv (.int .i64 0) 1 8 Tryz.underlying22 hvi hv0 hv1 hv2 rfl (by decide) _ _ (i64s D) rfl HAa.out.drow k.da k.ds.length k.dc (i64s k.ds) rfl (by rw [i64s_len, Nat.mul_one]) (news_i HAT.out.d) (one_i _) (by have := HLd.out; unfold maxLen; omega) (by have := HLd.out; omega) (Nat.le_trans hN (show W.heap.size ≤ wa.drew.heap.size from HI.out.fr.size)) ?_; intro v1 x1 hown1 hg1 hw1; obtain ⟨e1, e2, e3⟩ := AcI.appD HAa.out hown1 hg1 hw1; have HLoN : Hid (Lo M W.heap.size v1) := lo_next (X := wa.drew) HLo2.out hw1 HI.out.fr.size; have HMid : Hid (∀ b, M ≤ b → b < W.heap.size → (x1.setCell ⟨g, 2, none⟩ v1).heap[b]? = W.heap[b]?) := mid_next (X := wa.drew) HI.out.mid HLo2.out hg1 hgM HI.out.fr.size; obtain ⟨a1, c1, rfl⟩ := own_slC hown1; have HA1 : Hid _ := e2; have HE3 : Hid (DFr g N wa.drew _) := e3; clear hown1 hg1 hw1 e2 e3 g0 g1 g2 g3 f0 f1 f2 f3; obtain ⟨g0, g1, g2, g3⟩ := row_four e1; obtain ⟨f0, f1, f2, f3⟩ := row_fourA e1; clear e1)
   all_goals
    have HIf : Hid (LyI g N M id W W k ((R ++ k.rs)) (D ++ k.ds) (V) _) := ⟨⟨_, _, _, HA1.out, HLo1.out, HLoN.out, HLo3.out⟩, HE3.out.box (blk_drew HI.out.bx) hgn (by decide), HI.out.fr.trans ((DFr.drew _ _ wa).trans HE3.out), HMid.out⟩
    go_wp2_with fail
    go_meet
    exact HIf
  case rest =>
   clear HI
   have HI : Hid (LyI g N M id W W k (R ++ k.rs) (D ++ k.ds) V _) := hcut
   clear hcut wa
   rename World => wa
   obtain ⟨rv, dv, vv, hI, hlo1, hlo2, hlo3⟩ := HI.out.acc
   obtain ⟨xra, xrc, rfl⟩ := own_slC hI.rrow
   obtain ⟨xda, xdc, rfl⟩ := own_slC hI.drow
   obtain ⟨xva, xvc, rfl⟩ := own_slC hI.vrow
   have HLo1 : Hid (Lo M W.heap.size (.slice xra (R ++ k.rs).length xrc)) := hlo1
   have HLo2 : Hid (Lo M W.heap.size (.slice xda (D ++ k.ds).length xdc)) := hlo2
   have HLo3 : Hid (Lo M W.heap.size (.slice xva V.length xvc)) := hlo3
   have HAa : Hid (AcI g N id (.slice xra (R ++ k.rs).length xrc) (R ++ k.rs) (.slice xda (D ++ k.ds).length xdc) (D ++ k.ds) (.slice xva V.length xvc) V wa.drew) := hI.stay (Below.refl _ _).drew
   obtain ⟨g0, g1, g2, g3⟩ := row_four hI.cell
   obtain ⟨f0, f1, f2, f3⟩ := row_fourA hI.cell
   obtain ⟨k0, k1, k2, k3⟩ := row_four HI.out.bx
   have HAT : Hid (k.At wa.drew) := hk.same hf (fun b h1 h2 => HI.out.mid b h1 h2)
   clear hI hlo1 hlo2 hlo3
   go_wp2_with fail
   go_region_law (refine step_append_any _ rfl _ _ 25 rfl N 52 iw (.agg #[.int .i64 0, .int .i64 0, .string ⟨#[]⟩]) 3 32 Tryz.underlying25 hwi hw0 hw1 hw2 rfl (by decide) _ _ (vcells V) rfl HAa.out.vrow k.va k.vs.length k.vc (vcells k.vs) rfl (vcells_len _) (news_v HAT.out.v) (one_v _) (by have := HLv.out; unfold maxLen; omega) (by have := HLv.out; omega) (Nat.le_trans hN (show W.heap.size ≤ wa.drew.heap.size from HI.out.fr.size)) ?_; intro v1 x1 hown1 hg1 hw1; obtain ⟨e1, e2, e3⟩ := AcI.appV HAa.out hown1 hg1 hw1; have HLoN : Hid (Lo M W.heap.size v1) := lo_next (X := wa.drew) HLo3.out hw1 HI.out.fr.size; have HMid : Hid (∀ b, M ≤ b → b < W.heap.size → (x1.setCell ⟨g, 3, none⟩ v1).heap[b]? = W.heap[b]?) := mid_next (X := wa.drew) HI.out.mid HLo3.out hg1 hgM HI.out.fr.size; obtain ⟨a1, c1, rfl⟩ := own_slC hown1; have HA1 : Hid _ := e2; have HE3 : Hid (DFr g N wa.drew _) := e3; clear hown1 hg1 hw1 e2 e3 g0 g1 g2 g3 f0 f1 f2 f3; obtain ⟨g0, g1, g2, g3⟩ := row_four e1; obtain ⟨f0, f1, f2, f3⟩ := row_fourA e1; clear e1)
   all_goals
    have HIf : Hid (LyI g N M id W W k ((R ++ k.rs)) ((D ++ k.ds)) (V ++ k.vs) _) := ⟨⟨_, _, _, HA1.out, HLo1.out, HLo2.out, HLoN.out⟩, HE3.out.box (blk_drew HI.out.bx) hgn (by decide), HI.out.fr.trans ((DFr.drew _ _ wa).trans HE3.out), HMid.out⟩
    go_wp2
    go_end0
    obtain ⟨rv, dv, vv, h1, _⟩ := HIf.out.acc
    exact ⟨rfl, ⟨rv, dv, vv, h1⟩, HIf.out.fr⟩
theorem AcI.offB {g N : Nat} {id : Int} {rv dv vv : Value} {R D : List Int} {V : List Vl} {W : World} (h : AcI g N id rv R dv D vv V W) {b j : Nat} {cs : Array Value} {t : TypeId} {v : Value} (hb : W.heap[b]? = some (.cells cs t (0, 0))) (hg : b ≠ g) (h1 : 3 ≠ t) (h2 : 52 ≠ t) : AcI g N id rv R dv D vv V (W.setCell ⟨b, j, none⟩ v) := by
 have hset : ∀ k, k ≠ b → (W.setCell ⟨b, j, none⟩ v).heap[k]? = W.heap[k]? := fun k hk => Below.heap_setCell _ ⟨b, j, none⟩ _ _ hk
 have hr : ∀ {e s n : Nat} {v : Value} {xs : List Value}, W.ownsRow N e s v n xs → e ≠ t → ∀ k, v.ownBlock = some k → k ≠ b := fun ho he k hk e => by
  subst e
  exact own_type ho hb he hk.symm
 exact ⟨by rw [hset _ (Ne.symm hg)]; exact h.cell, own_same h.rrow fun k hk => hset k (hr h.rrow h1 k hk), own_same h.drow fun k hk => hset k (hr h.drow h1 k hk), own_same h.vrow fun k hk => hset k (hr h.vrow h2 k hk), h.two⟩
theorem DFr.setSame {g N : Nat} {W : World} {b : Nat} {x : Value} {t : TypeId} (hb : W.heap[b]? = some (.cells #[x] t (0, 0))) : DFr g N W (W.setCell ⟨b, 0, none⟩ x) :=
 ⟨rfl, rfl, rfl, by simp, fun k _ _ _ => by
  by_cases e : k = b
  · subst e
    rw [row_setOneC hb, hb]
  · exact Below.heap_setCell _ ⟨b, 0, none⟩ _ _ e⟩
set_option maxRecDepth 100000 in
set_option maxHeartbeats 6400000 in
theorem pick1_any (m : Mk) (g gA gW N M : Nat) (id : Int) (rv dv vv : Value) (R D : List Int) (V : List Vl) (k : Cl) (W : World) (hI : AcI g N id rv R dv D vv V W) (hA : W.heap[gA]? = some (.cells #[.bool true] 4 (0, 0))) (hW : W.heap[gW]? = some (.cells #[.bool true] 4 (0, 0))) (hAW : gA ≠ gW) (hAg : gA ≠ g) (hWg : gW ≠ g) (hl1 : Lo M W.heap.size rv) (hl2 : Lo M W.heap.size dv) (hl3 : Lo M W.heap.size vv) (hgM : g < M) (hAM : gA < M) (hWM : gW < M) (hN : N ≤ W.heap.size) (hk : k.At W) (hf : k.Fr M) (h0 : 0 < k.rs.length) (hz : k.rs[0]? = some 0) (hr : R.length + k.rs.length ≤ 1048576) (hd : D.length + k.ds.length ≤ 1048576) (hv : V.length + k.vs.length ≤ 1048576) :
    Calls Tryz.prog 45 #[.agg #[.int .i64 m.at_, .int .i64 m.len, .int .i64 m.first, .int .i64 m.recs, .int .i64 m.st.e, .int .i64 m.st.u, .bool m.st.h, .int .i64 m.st.mn.k, .int .i64 m.st.mn.n, .string m.st.mn.s, .int .i64 m.st.mx.k, .int .i64 m.st.mx.n, .string m.st.mx.s], .int .i64 m.len, .agg #[.int .i64 k.id, .slice k.ra k.rs.length k.rc, .slice k.da k.ds.length k.dc, .slice k.va k.vs.length k.vc], .pointer (some ⟨gA, 0, none⟩), .pointer (some ⟨gW, 0, none⟩), .pointer (some ⟨g, 0, none⟩)] W fun e w' => e = .returned (.tuple #[]) ∧ (∃ rv dv vv, AcI g N id rv (R ++ k.rs) dv (D ++ k.ds) vv (V ++ k.vs) w') ∧ DFr g N W w' := by
 obtain ⟨w0, HW0, HX, HY, HB⟩ := two_boxes W #[.int .i64 m.at_, .int .i64 m.len, .int .i64 m.first, .int .i64 m.recs, .int .i64 m.st.e, .int .i64 m.st.u, .bool m.st.h, .int .i64 m.st.mn.k, .int .i64 m.st.mn.n, .string m.st.mn.s, .int .i64 m.st.mx.k, .int .i64 m.st.mx.n, .string m.st.mx.s] #[.int .i64 k.id, .slice k.ra k.rs.length k.rc, .slice k.da k.ds.length k.dc, .slice k.va k.vs.length k.vc] 56 27
 have hA0 := blk_keep HB.out hA
 have hW0 := blk_keep HB.out hW
 obtain ⟨x1, HX1⟩ : ∃ x1, Hid (w0.setCell ⟨gA, 0, none⟩ (.bool true) = x1) := ⟨_, rfl⟩
 have hW1 : x1.heap[gW]? = some (.cells #[.bool true] 4 (0, 0)) := by rw [← HX1.out, Below.heap_setCell _ ⟨gA, 0, none⟩ _ _ (Ne.symm hAW)]; exact hW0
 obtain ⟨x2, HX2⟩ : ∃ x2, Hid (x1.setCell ⟨gW, 0, none⟩ (.bool true) = x2) := ⟨_, rfl⟩
 have hD1 : DFr g N w0 x1 := by rw [← HX1.out]; exact DFr.setSame hA0
 have hD2 : DFr g N x1 x2 := by rw [← HX2.out]; exact DFr.setSame hW1
 have hs2 : x2.heap.size = w0.heap.size := by rw [← HX2.out, ← HX1.out]; simp
 have hI2 : AcI g N id rv R dv D vv V x2 := by
  have h1 : AcI g N id rv R dv D vv V x1 := by rw [← HX1.out]; exact (hI.stay HB.out).offB hA0 hAg (by decide) (by decide)
  rw [← HX2.out]
  exact h1.offB hW1 hWg (by decide) (by decide)
 have hk1 : k.At x1 := by rw [← HX1.out]; exact (hk.keep HB.out).off hf hAM
 have hk2 : k.At x2 := by rw [← HX2.out]; exact hk1.off hf hWM
 have lo : ∀ {v : Value}, Lo M W.heap.size v → (∀ c, v.ownBlock = some c → c < W.heap.size) → Lo M x2.heap.size v := fun h h2 c hc => .inl ((h c hc).elim (fun h3 => h3) (fun h3 => absurd (h2 c hc) (by omega)))
 have HLay : Hid (Calls Tryz.prog 37 #[.pointer (some ⟨g, 0, none⟩), .agg #[.int .i64 k.id, .slice k.ra k.rs.length k.rc, .slice k.da k.ds.length k.dc, .slice k.va k.vs.length k.vc]] x2 fun e w' => e = .returned (.tuple #[]) ∧ (∃ rv dv vv, AcI g N id rv (R ++ k.rs) dv (D ++ k.ds) vv (V ++ k.vs) w') ∧ DFr g N W w') := (lay_any g N M id rv dv vv R D V k x2 hI2 (lo hl1 fun c hc => (own_block hI.rrow hc).2.1) (lo hl2 fun c hc => (own_block hI.drow hc).2.1) (lo hl3 fun c hc => (own_block hI.vrow hc).2.1) hgM (Nat.le_trans hN (by rw [hs2]; exact HB.out.size)) hk2 hf hr hd hv).mono fun e w' h => ⟨h.1, h.2.1, (DFr.of_below HB.out).trans (hD1.trans (hD2.trans h.2.2))⟩
 obtain ⟨a0, fa⟩ := row_oneC hA0
 obtain ⟨b0, _⟩ := row_oneC hW0
 obtain ⟨c0, fc⟩ := row_oneC hW1
 obtain ⟨c1, _⟩ := row_oneC (show x1.heap[gA]? = some (.cells #[.bool true] 4 (0, 0)) by rw [← HX1.out]; exact row_setOneC hA0)
 have hA2 : x2.heap[gA]? = some (.cells #[.bool true] 4 (0, 0)) := by rw [← HX2.out, Below.heap_setCell _ ⟨gW, 0, none⟩ _ _ hAW, ← HX1.out]; exact row_setOneC hA0
 have hW2 : x2.heap[gW]? = some (.cells #[.bool true] 4 (0, 0)) := by rw [← HX2.out]; exact row_setOneC hW1
 obtain ⟨d0, _⟩ := row_oneC hA2
 obtain ⟨d1, _⟩ := row_oneC hW2
 have ltW : ∀ {q : Nat} {o : Obj}, W.heap[q]? = some o → q ≠ W.heap.size + 1 := fun h => by have := lt_of_block h; omega
 have hy1 : x1.heap[W.heap.size + 1]? = some (.cells #[.int .i64 k.id, .slice k.ra k.rs.length k.rc, .slice k.da k.ds.length k.dc, .slice k.va k.vs.length k.vc] 27 (0, 0)) := by rw [← HX1.out, Below.heap_setCell _ ⟨gA, 0, none⟩ _ _ (Ne.symm (ltW hA))]; exact HY.out
 have hy2 : x2.heap[W.heap.size + 1]? = some (.cells #[.int .i64 k.id, .slice k.ra k.rs.length k.rc, .slice k.da k.ds.length k.dc, .slice k.va k.vs.length k.vc] 27 (0, 0)) := by rw [← HX2.out, Below.heap_setCell _ ⟨gW, 0, none⟩ _ _ (Ne.symm (ltW hW))]; exact hy1
 obtain ⟨⟨m0, m1, _⟩, _⟩ := row_mk HX.out
 obtain ⟨q0, q1, q2, q3⟩ := row_four hy1
 obtain ⟨r0, r1, r2, r3⟩ := row_four hy2
 obtain ⟨bk, o, hra, hc⟩ := hk1.r 0 (by rw [i64s_len]; exact h0)
 have hc' : x1.cell? ⟨bk, o, none⟩ = some (.int .i64 0) := by
  have e0 : (i64s k.rs)[0]? = some (.int .i64 0) := by rw [i64s, List.getElem?_map, hz]; rfl
  have e1 := List.getElem?_eq_some_iff.1 e0
  rw [Nat.add_zero] at hc
  rw [hc, e1.2]
 have hb1 : (m.len == m.len) = true := by simp
 rw [hra] at q1 r1 HLay
 obtain ⟨kn, HKN⟩ : ∃ kn : Nat, Hid (k.rs.length = kn) := ⟨_, rfl⟩
 rw [HKN.out] at h0 q1 r1 HLay
 have HRa : Hid _ := hra
 clear hc hy1 hy2 hA2 hW2 hW1 hA0 hW0 hI hI2 hD1 hD2 hk1 hk2 hl1 hl2 hl3 lo hA hW hk hr hd hv HX HY ltW
 rw [HRa.out, HKN.out] at HW0 ⊢
 go_enter Tryz.func45, Tryz.ntmps45
 go_upto_region 1 with fail
 rw [HW0.out]
 clear HW0
 go_upto_region 2 with fail
 rw [HX1.out]
 clear HX1
 go_upto_region 3 with fail
 rw [HX2.out]
 clear HX2
 go_wp2_with fail
 refine Calls.mono HLay.out ?_
 rintro e w1 ⟨rfl, h1, h2⟩
 have H1 : Hid (∃ rv dv vv, AcI g N id rv (R ++ k.rs) dv (D ++ k.ds) vv (V ++ k.vs) w1) := h1
 have H2 : Hid (DFr g N W w1) := h2
 clear h1 h2
 go_wp2
 go_end0
 exact ⟨rfl, H1.out, H2.out⟩
end Go.Proofs.YtgpfmjbebfmmnaaGreatDoor
