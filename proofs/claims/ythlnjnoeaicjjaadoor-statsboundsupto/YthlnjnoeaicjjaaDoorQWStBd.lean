/-
  The walk of the law StatsBounds.
-/
import Derived.Test.YthlnjnoeaicjjaaDoorQStBd
import Derived.Test.YthlnjnoeaicjjaaDoorQBOpenColB
import Derived.Test.YthlnjnoeaicjjaaDoorQStMy
import Derived.Test.YthlnjnoeaicjjaaDoorQBWStMy
namespace Go.Proofs.YthlnjnoeaicjjaaDoor
open Go.RowKit
theorem ofR_nil {N : Nat} {lid kind mr md : Int} {c : Cl} {t1 t2 : TypeId} {p1 p2 : Value} {s : St} {ev : Value} {w : World} (h : OfR N lid kind mr md c (.iface t1 p1) (.iface t2 p2) s ev w) : OkOr ev (GoodC lid kind mr md c ∧ s = ofC c) := by
  rcases h with ⟨_, _, h⟩ | ⟨_, p, hp, _, _, q, _, _, h, _⟩ | ⟨h1, h, h2⟩
  · exact .inr ⟨_, _, h⟩
  · exact .inr ⟨_, _, h⟩
  · exact .inl ⟨h, h1, h2⟩
/-- What the law's boxes hold. -/
structure LbI (W : World) (lid kind mr md : Int) (pa : Option Addr) (pn pc : Nat) (a b : Cl) (v : Vl) (X : World) : Prop where
  lf : X.heap[W.heap.size]? = some (.cells #[.int .i64 lid, .int .i64 kind, .int .i64 mr, .int .i64 md, .slice pa pn pc] 41 (0, 0))
  ca : X.heap[W.heap.size + 1]? = some (.cells #[.int .i64 a.id, .slice a.ra a.rs.length a.rc, .slice a.da a.ds.length a.dc, .slice a.va a.vs.length a.vc] 44 (0, 0))
  cb : X.heap[W.heap.size + 1 + 1]? = some (.cells #[.int .i64 b.id, .slice b.ra b.rs.length b.rc, .slice b.da b.ds.length b.dc, .slice b.va b.vs.length b.vc] 44 (0, 0))
  va : X.heap[W.heap.size + 1 + 1 + 1]? = some (.cells #[.int .i64 v.k, .int .i64 v.n, .string v.s] 23 (0, 0))
  old : Below W.heap.size W X
theorem LbI.keep {W : World} {lid kind mr md : Int} {pa : Option Addr} {pn pc : Nat} {a b : Cl} {v : Vl} {X w' : World} (h : LbI W lid kind mr md pa pn pc a b v X) (hb : Below X.heap.size X w') : LbI W lid kind mr md pa pn pc a b v w' :=
  ⟨blk_keep hb h.lf, blk_keep hb h.ca, blk_keep hb h.cb, blk_keep hb h.va, h.old.trans (hb.mono h.old.size)⟩
/-- The four errors. -/
def E4 (X : World) (t1 t2 t3 t0 : TypeId) (p1 p2 p3 p0 : Value) : Prop := X.cell? ⟨3, 0, none⟩ = some (.iface t1 p1) ∧ X.cell? ⟨1, 0, none⟩ = some (.iface t2 p2) ∧ X.cell? ⟨2, 0, none⟩ = some (.iface t3 p3) ∧ X.cell? ⟨0, 0, none⟩ = some (.iface t0 p0)
theorem E4.keep {X w' : World} {t1 t2 t3 t0 : TypeId} {p1 p2 p3 p0 : Value} (h : E4 X t1 t2 t3 t0 p1 p2 p3 p0) (hb : Below X.heap.size X w') : E4 w' t1 t2 t3 t0 p1 p2 p3 p0 := ⟨ckB h.1 hb, ckB h.2.1 hb, ckB h.2.2.1 hb, ckB h.2.2.2 hb⟩
set_option maxRecDepth 100000 in
set_option maxHeartbeats 25600000 in
theorem statsBounds_walk (lid kind mr md : Int) (pa : Option Addr) (pc : Nat) (ps : List Int) (a b : Cl) (how : ByteArray) (v : Vl) (W : World) (t1 t2 t3 t0 : TypeId) (p1 p2 p3 p0 : Value) (hE : E4 W t1 t2 t3 t0 p1 p2 p3 p0) (hp : Lies W pa (i64s ps)) (hata : a.At W) (hatb : b.At W) (hloa : ∀ v ∈ a.vs, v.Low) (hlob : ∀ v ∈ b.vs, v.Low) (hab : a.bulk ≤ 1048576) (hbb : b.bulk ≤ 1048576) (hsa : ∀ v ∈ a.vs, v.In) (hsb : ∀ v ∈ b.vs, v.In) (hv : v.In) :
    Calls Tryd.prog 4 #[.agg #[.int .i64 lid, .int .i64 kind, .int .i64 mr, .int .i64 md, .slice pa ps.length pc], .agg #[.int .i64 a.id, .slice a.ra a.rs.length a.rc, .slice a.da a.ds.length a.dc, .slice a.va a.vs.length a.vc], .agg #[.int .i64 b.id, .slice b.ra b.rs.length b.rc, .slice b.da b.ds.length b.dc, .slice b.va b.vs.length b.vc], .string how, .agg #[.int .i64 v.k, .int .i64 v.n, .string v.s]] W fun e w' => e = .returned (.bool true) ∧ Below W.heap.size W w' := by
  obtain ⟨pn, hpn⟩ : ∃ pn, ps.length = pn := ⟨_, rfl⟩
  have HPN : Hid _ := hpn
  rw [hpn]
  clear hpn
  obtain ⟨w0, HW0, H1, H2, H3, H4, HB⟩ := four_boxes W #[.int .i64 lid, .int .i64 kind, .int .i64 mr, .int .i64 md, .slice pa pn pc] #[.int .i64 a.id, .slice a.ra a.rs.length a.rc, .slice a.da a.ds.length a.dc, .slice a.va a.vs.length a.vc] #[.int .i64 b.id, .slice b.ra b.rs.length b.rc, .slice b.da b.ds.length b.dc, .slice b.va b.vs.length b.vc] #[.int .i64 v.k, .int .i64 v.n, .string v.s] 41 44 44 23
  have HI0 : Hid (LbI W lid kind mr md pa pn pc a b v w0) := ⟨H1.out, H2.out, H3.out, H4.out, HB.out⟩
  have HE4 : Hid (∀ X, Below W.heap.size W X → E4 X t1 t2 t3 t0 p1 p2 p3 p0) := fun X hX => hE.keep hX
  have HP : Hid (∀ X, Below W.heap.size W X → Lies X pa (i64s ps)) := fun X hX => hp.keep hX
  have HATa : Hid (∀ X, Below W.heap.size W X → a.At X) := fun X hX => hata.keep hX
  have HATb : Hid (∀ X, Below W.heap.size W X → b.At X) := fun X hX => hatb.keep hX
  have HLOa : Hid _ := hloa
  have HLOb : Hid _ := hlob
  have HSa : Hid _ := hsa
  have HSb : Hid _ := hsb
  clear H1 H2 H3 H4 HB hE hp hata hatb hloa hlob hsa hsb
  go_enter Tryd.func4, Tryd.ntmps4
  go_wp2_with fail
  rw [HW0.out]
  clear HW0
  have hE0 := HE4.out _ HI0.out.old
  refine (two_any w0 _ _ _ _ _ _ hE0.1 hE0.2.1 hE0.2.2.1).mono ?_
  clear hE0
  rintro e w1 ⟨rfl, hb1⟩
  have HI1 : Hid _ := HI0.out.keep hb1
  clear HI0 hb1
  obtain ⟨⟨f0, f1, f2, f3, f4⟩, _⟩ := row_five HI1.out.lf
  obtain ⟨k0, k1, k2, k3⟩ := row_four HI1.out.ca
  go_wp2_with fail
  refine (slim3_any lid kind mr md pa pn pc a hab w1 (HATa.out _ HI1.out.old)).mono ?_
  obtain ⟨c1, HC1⟩ : ∃ b, Hid (slimB a pn = b) := ⟨_, rfl⟩
  rw [HC1.out]
  rintro e w2 ⟨rfl, hb2⟩
  have HI2 : Hid _ := HI1.out.keep hb2
  clear HI1 hb2 f0 f1 f2 f3 f4 k0 k1 k2 k3
  cases c1
  · go_wp2
    go_ret
    exact ⟨rfl, HI2.out.old⟩
  obtain ⟨⟨f0, f1, f2, f3, f4⟩, _⟩ := row_five HI2.out.lf
  obtain ⟨k0, k1, k2, k3⟩ := row_four HI2.out.cb
  go_wp2_with fail
  refine (slim3_any lid kind mr md pa pn pc b hbb w2 (HATb.out _ HI2.out.old)).mono ?_
  obtain ⟨c2, HC2⟩ : ∃ b', Hid (slimB b pn = b') := ⟨_, rfl⟩
  rw [HC2.out]
  rintro e w3 ⟨rfl, hb3⟩
  have HI3 : Hid _ := HI2.out.keep hb3
  clear HI2 hb3 f0 f1 f2 f3 f4 k0 k1 k2 k3
  cases c2
  · go_wp2
    go_ret
    exact ⟨rfl, HI3.out.old⟩
  have hsl1 : a.bulk ≤ 2000 ∧ pn ≤ 100 := by have h := HC1.out; unfold slimB at h; simpa using h
  have hsl2 : b.bulk ≤ 2000 ∧ pn ≤ 100 := by have h := HC2.out; unfold slimB at h; simpa using h
  have hsv1 := sumV_len a.vs
  have hsv2 := sumV_len b.vs
  have hra : a.rs.length ≤ 2000 := by have := hsl1.1; unfold Cl.bulk at this; omega
  have hda : a.ds.length ≤ 2000 := by have := hsl1.1; unfold Cl.bulk at this; omega
  have hva : a.vs.length ≤ 2000 := by have := hsl1.1; unfold Cl.bulk at this; omega
  have hrb : b.rs.length ≤ 2000 := by have := hsl2.1; unfold Cl.bulk at this; omega
  have hdb : b.ds.length ≤ 2000 := by have := hsl2.1; unfold Cl.bulk at this; omega
  have hvb : b.vs.length ≤ 2000 := by have := hsl2.1; unfold Cl.bulk at this; omega
  have hpn : pn ≤ 100 := hsl1.2
  clear hsl1 hsl2 hsv1 hsv2 hab hbb HC1 HC2
  rcases Decidable.em (100 < how.size) with hl | hl
  · have q0 : decide ((100 : Int) < (how.size : Int)) = true := by rw [decide_eq_true_iff]; omega
    go_wp2
    go_ret
    exact ⟨rfl, HI3.out.old⟩
  have q0 : decide ((100 : Int) < (how.size : Int)) = false := by rw [decide_eq_false_iff_not]; omega
  clear hl
  go_upto_region 4 with fail
  clear q0
  go_cut [12, 13] (fun x y wx => ∃ (s : St) (g : Nat), x = .pointer (some ⟨g, 0, none⟩) ∧ Hid (w3.heap.size ≤ g) ∧ Hid (Below w3.heap.size w3 wx) ∧ Hid (wx.heap[g]? = some (.cells s.cs 34 (0, 0))) ∧ Hid (OkOr y (GoodC lid kind mr md a ∧ s = ofC a)))
  case first =>
    have HO1 : Hid (∀ X, Below w3.heap.size w3 X → Calls Tryd.prog 15 #[.agg #[.int .i64 lid, .int .i64 kind, .int .i64 mr, .int .i64 md, .slice pa pn pc]] X fun e w' => (∃ pa' pc', e = .returned (.agg #[.int .i64 lid, .int .i64 kind, .int .i64 mr, .int .i64 md, .slice pa' pn pc'])) ∧ Below w3.heap.size w3 w' ∧ Below X.heap.size X w') := fun X hX => (by
      have h := ownLeaf_any lid kind mr md pa pc ps X (by rw [HPN.out]; omega) (HP.out _ (HI3.out.keep hX).old)
      rw [HPN.out] at h
      exact h.mono fun e w' h => ⟨(by obtain ⟨⟨pa', pc', h1, _⟩, _⟩ := h; exact ⟨pa', pc', h1⟩), bel_next hX (Nat.le_refl _) h.2, h.2⟩)
    have HO2 : Hid (∀ X, Below w3.heap.size w3 X → Calls Tryd.prog 16 #[.agg #[.int .i64 a.id, .slice a.ra a.rs.length a.rc, .slice a.da a.ds.length a.dc, .slice a.va a.vs.length a.vc]] X fun e w' => (∃ k0 : Cl, e = .returned (.agg #[.int .i64 k0.id, .slice k0.ra k0.rs.length k0.rc, .slice k0.da k0.ds.length k0.dc, .slice k0.va k0.vs.length k0.vc]) ∧ k0.At w' ∧ SameC a k0 ∧ k0.Fr X.heap.size) ∧ Below w3.heap.size w3 w' ∧ Below X.heap.size X w') := fun X hX => (ownColumn_cl a X (by omega) (by omega) (by omega) (HATa.out _ (HI3.out.keep hX).old)).mono fun e w' h => ⟨(by obtain ⟨⟨k, h1, h2, h2f, h3⟩, _⟩ := h; exact ⟨k, h1, h2, h3, h2f⟩), bel_next hX (Nat.le_refl _) h.2, h.2⟩
    have HO3 : Hid (∀ X (k0 : Cl) pa' pc', Below w3.heap.size w3 X → k0.At X → SameC a k0 → Calls Tryd.prog 14 #[.agg #[.int .i64 lid, .int .i64 kind, .int .i64 mr, .int .i64 md, .slice pa' pn pc'], .agg #[.int .i64 k0.id, .slice k0.ra k0.rs.length k0.rc, .slice k0.da k0.ds.length k0.dc, .slice k0.va k0.vs.length k0.vc]] X fun e w' => (∃ (s : St) (ev : Value), e = .returned (.tuple #[.agg #[.int .i64 s.e, .int .i64 s.u, .bool s.h, .int .i64 s.mn.k, .int .i64 s.mn.n, .string s.mn.s, .int .i64 s.mx.k, .int .i64 s.mx.n, .string s.mx.s], ev]) ∧ OkOr ev (GoodC lid kind mr md a ∧ s = ofC a)) ∧ Below w3.heap.size w3 w' ∧ Below X.heap.size X w') := fun X k0 pa' pc' hX ka ks => (by
      have hEX := HE4.out _ (HI3.out.keep hX).old
      refine (of_any lid kind mr md pa' pn pc' k0 X _ _ _ _ _ _ (by rw [ks.rs]; omega) (by rw [ks.ds]; omega) (by rw [ks.vs]; omega) ks.cap.1 ks.cap.2.1 ks.cap.2.2 hEX.1 hEX.2.1 hEX.2.2.1 ka (by rw [ks.vs]; exact HLOa.out)).mono fun e w' h => ⟨?_, bel_next hX (Nat.le_refl _) h.2, h.2⟩
      obtain ⟨⟨s, ev, h1, h2⟩, _⟩ := h
      exact ⟨s, ev, h1, ofR_nil (h2.same ks)⟩)
    have b0 : Below w3.heap.size w3 w3 := Below.refl _ _
    have HN : Hid (∀ X, Below w3.heap.size w3 X → (X.cell? ⟨W.heap.size, 0, none⟩ = some (.int .i64 lid) ∧ X.cell? ⟨W.heap.size, 1, none⟩ = some (.int .i64 kind) ∧ X.cell? ⟨W.heap.size, 2, none⟩ = some (.int .i64 mr) ∧ X.cell? ⟨W.heap.size, 3, none⟩ = some (.int .i64 md) ∧ X.cell? ⟨W.heap.size, 4, none⟩ = some (.slice pa pn pc)) ∧ (X.cell? ⟨W.heap.size + 1, 0, none⟩ = some (.int .i64 a.id) ∧ X.cell? ⟨W.heap.size + 1, 1, none⟩ = some (.slice a.ra a.rs.length a.rc) ∧ X.cell? ⟨W.heap.size + 1, 2, none⟩ = some (.slice a.da a.ds.length a.dc) ∧ X.cell? ⟨W.heap.size + 1, 3, none⟩ = some (.slice a.va a.vs.length a.vc)) ∧ (X.cell? ⟨W.heap.size + 1 + 1, 0, none⟩ = some (.int .i64 b.id) ∧ X.cell? ⟨W.heap.size + 1 + 1, 1, none⟩ = some (.slice b.ra b.rs.length b.rc) ∧ X.cell? ⟨W.heap.size + 1 + 1, 2, none⟩ = some (.slice b.da b.ds.length b.dc) ∧ X.cell? ⟨W.heap.size + 1 + 1, 3, none⟩ = some (.slice b.va b.vs.length b.vc)) ∧ Below w3.heap.size w3 X) := fun X hX => ⟨(row_five (blk_keep hX HI3.out.lf)).1, row_four (blk_keep hX HI3.out.ca), row_four (blk_keep hX HI3.out.cb), hX⟩
    go_region_held3 (fun X => (X.cell? ⟨W.heap.size, 0, none⟩ = some (.int .i64 lid) ∧ X.cell? ⟨W.heap.size, 1, none⟩ = some (.int .i64 kind) ∧ X.cell? ⟨W.heap.size, 2, none⟩ = some (.int .i64 mr) ∧ X.cell? ⟨W.heap.size, 3, none⟩ = some (.int .i64 md) ∧ X.cell? ⟨W.heap.size, 4, none⟩ = some (.slice pa pn pc)) ∧ (X.cell? ⟨W.heap.size + 1, 0, none⟩ = some (.int .i64 a.id) ∧ X.cell? ⟨W.heap.size + 1, 1, none⟩ = some (.slice a.ra a.rs.length a.rc) ∧ X.cell? ⟨W.heap.size + 1, 2, none⟩ = some (.slice a.da a.ds.length a.dc) ∧ X.cell? ⟨W.heap.size + 1, 3, none⟩ = some (.slice a.va a.vs.length a.vc)) ∧ (X.cell? ⟨W.heap.size + 1 + 1, 0, none⟩ = some (.int .i64 b.id) ∧ X.cell? ⟨W.heap.size + 1 + 1, 1, none⟩ = some (.slice b.ra b.rs.length b.rc) ∧ X.cell? ⟨W.heap.size + 1 + 1, 2, none⟩ = some (.slice b.da b.ds.length b.dc) ∧ X.cell? ⟨W.heap.size + 1 + 1, 3, none⟩ = some (.slice b.va b.vs.length b.vc)) ∧ Below w3.heap.size w3 X) (with_reducible refine HN.out _ ?_; repeat' (first | with_reducible assumption | with_reducible exact b0.drew | with_reducible exact b0 | with_reducible refine Below.drew ?_ | with_reducible exact Nat.le_refl _ | with_reducible refine Below.setCell ?_ ?_ _ | with_reducible refine Below.alloc ?_ ?_ _ | with_reducible exact Below.size (by assumption) | (simp; done) | (simp; omega) | omega)) (first
      | (go_at_call 15; (with_reducible refine Calls.mono (HO1.out _ ?_) ?_); (repeat' (first | with_reducible assumption | with_reducible exact b0.drew | with_reducible exact b0 | with_reducible refine Below.drew ?_ | with_reducible refine Below.alloc ?_ ?_ _ | with_reducible exact Below.size (by assumption) | with_reducible exact Nat.le_refl _ | (simp; done) | (simp; omega))); rintro e x1 ⟨⟨pa', pc', rfl⟩, hbx1, hraw1⟩; (first | (have HK1 : Hid (k0.At x1) := Cl.At.keep (Hid.out HK0) hraw1; clear HK0; have HK0 : Hid (k0.At x1) := HK1; clear HK1) | skip); (first | (have hzz := blk_keep hraw1 hzz0; clear hzz0; have hzz0 := hzz; clear hzz) | (have hzz0 := blk_keep hraw1 (blk_drew (heap_alloc_new _ (.cells #[.int .i64 0, .int .i64 0, .bool false, .int .i64 0, .int .i64 0, .string ⟨#[]⟩, .int .i64 0, .int .i64 0, .string ⟨#[]⟩] 34)))) | (have hzz0 := blk_keep hraw1 (heap_alloc_new _ (.cells #[.int .i64 0, .int .i64 0, .bool false, .int .i64 0, .int .i64 0, .string ⟨#[]⟩, .int .i64 0, .int .i64 0, .string ⟨#[]⟩] 34))) | skip))
      | (go_at_call 16; (with_reducible refine Calls.mono (HO2.out _ ?_) ?_); (repeat' (first | with_reducible assumption | with_reducible exact b0.drew | with_reducible exact b0 | with_reducible refine Below.drew ?_ | with_reducible refine Below.alloc ?_ ?_ _ | with_reducible exact Below.size (by assumption) | with_reducible exact Nat.le_refl _ | (simp; done) | (simp; omega))); rintro e x2 ⟨⟨k0, rfl, ka0, ks0, _⟩, hbx2, hraw2⟩; have HK0 : Hid (k0.At x2) := ka0; have HKS0 : Hid _ := ks0; clear ka0 ks0; (first | (have hzz := blk_keep hraw2 hzz0; clear hzz0; have hzz0 := hzz; clear hzz) | (have hzz0 := blk_keep hraw2 (blk_drew (heap_alloc_new _ (.cells #[.int .i64 0, .int .i64 0, .bool false, .int .i64 0, .int .i64 0, .string ⟨#[]⟩, .int .i64 0, .int .i64 0, .string ⟨#[]⟩] 34)))) | (have hzz0 := blk_keep hraw2 (heap_alloc_new _ (.cells #[.int .i64 0, .int .i64 0, .bool false, .int .i64 0, .int .i64 0, .string ⟨#[]⟩, .int .i64 0, .int .i64 0, .string ⟨#[]⟩] 34))) | skip))
      | (go_at_call 14; (with_reducible refine Calls.mono (HO3.out _ k0 pa' pc' ?_ ?_ ?_) ?_); (repeat' (first | with_reducible assumption | with_reducible exact b0.drew | with_reducible exact b0 | with_reducible refine Below.drew ?_ | with_reducible refine Below.alloc ?_ ?_ _ | with_reducible exact Below.size (by assumption) | with_reducible exact Nat.le_refl _ | (simp; done) | (simp; omega))); (first | exact HK0.out | exact HK0.out.keep (((Below.refl _ _).alloc (Nat.le_refl _) _).drew) | exact HK0.out.keep ((Below.refl _ _).alloc (Nat.le_refl _) _)); exact HKS0.out; rintro e x3 ⟨⟨s, ev, rfl, hor⟩, hbx3, hraw3⟩; have HOR : Hid _ := hor; have HBX3 : Hid _ := hbx3; clear hor; (first | (have hzz := blk_keep hraw3 hzz0; clear hzz0; have hzz0 := hzz; clear hzz) | (have hzz0 := blk_keep hraw3 (blk_drew (heap_alloc_new _ (.cells #[.int .i64 0, .int .i64 0, .bool false, .int .i64 0, .int .i64 0, .string ⟨#[]⟩, .int .i64 0, .int .i64 0, .string ⟨#[]⟩] 34)))) | (have hzz0 := blk_keep hraw3 (heap_alloc_new _ (.cells #[.int .i64 0, .int .i64 0, .bool false, .int .i64 0, .int .i64 0, .string ⟨#[]⟩, .int .i64 0, .int .i64 0, .string ⟨#[]⟩] 34))) | skip); (first | (obtain ⟨z1, z2⟩ := row_nine hzz0; have HZZ : Hid _ := hzz0; clear hzz0) | skip)))
    · go_wp2_with fail
      go_meet
      exact ⟨s, x3.heap.size, rfl, HBX3.out.size, HBX3.out.alloc HBX3.out.size _, heap_alloc_new _ _, HOR⟩
    all_goals
      go_wp2_with fail
      go_meet
      refine ⟨s, _, rfl, ?_, set9_below HBX3.out ?_ _ _ _ _ _ _ _ _ _, set9_row HZZ.out _ _ _ _ _ _ _ _ _, HOR⟩
      all_goals first | exact Nat.le_refl _ | exact Below.size (by assumption)
  case rest =>
    obtain ⟨sx, gx, rfl, HGx, HBx, HSx, HOx⟩ := hcut
    rename World => w4
    rename Value => e1
    have HI4 : Hid _ := HI3.out.keep HBx.out
    clear HI3 HBx HGx
    go_upto_region 5 with fail
    go_cut [14, 15] (fun x y wx => ∃ (s : St) (g : Nat), x = .pointer (some ⟨g, 0, none⟩) ∧ Hid (w4.heap.size ≤ g) ∧ Hid (Below w4.heap.size w4 wx) ∧ Hid (wx.heap[g]? = some (.cells s.cs 34 (0, 0))) ∧ Hid (OkOr y (GoodC lid kind mr md b ∧ s = ofC b)))
    case first =>
      have HO1 : Hid (∀ X, Below w4.heap.size w4 X → Calls Tryd.prog 15 #[.agg #[.int .i64 lid, .int .i64 kind, .int .i64 mr, .int .i64 md, .slice pa pn pc]] X fun e w' => (∃ pa' pc', e = .returned (.agg #[.int .i64 lid, .int .i64 kind, .int .i64 mr, .int .i64 md, .slice pa' pn pc'])) ∧ Below w4.heap.size w4 w' ∧ Below X.heap.size X w') := fun X hX => (by
        have h := ownLeaf_any lid kind mr md pa pc ps X (by rw [HPN.out]; omega) (HP.out _ (HI4.out.keep hX).old)
        rw [HPN.out] at h
        exact h.mono fun e w' h => ⟨(by obtain ⟨⟨pa', pc', h1, _⟩, _⟩ := h; exact ⟨pa', pc', h1⟩), bel_next hX (Nat.le_refl _) h.2, h.2⟩)
      have HO4 : Hid (∀ X, Below w4.heap.size w4 X → Calls Tryd.prog 16 #[.agg #[.int .i64 b.id, .slice b.ra b.rs.length b.rc, .slice b.da b.ds.length b.dc, .slice b.va b.vs.length b.vc]] X fun e w' => (∃ k0 : Cl, e = .returned (.agg #[.int .i64 k0.id, .slice k0.ra k0.rs.length k0.rc, .slice k0.da k0.ds.length k0.dc, .slice k0.va k0.vs.length k0.vc]) ∧ k0.At w' ∧ SameC b k0 ∧ k0.Fr X.heap.size) ∧ Below w4.heap.size w4 w' ∧ Below X.heap.size X w') := fun X hX => (ownColumn_cl b X (by omega) (by omega) (by omega) (HATb.out _ (HI4.out.keep hX).old)).mono fun e w' h => ⟨(by obtain ⟨⟨k, h1, h2, h2f, h3⟩, _⟩ := h; exact ⟨k, h1, h2, h3, h2f⟩), bel_next hX (Nat.le_refl _) h.2, h.2⟩
      have HO3 : Hid (∀ X (k0 : Cl) pa' pc', Below w4.heap.size w4 X → k0.At X → SameC b k0 → Calls Tryd.prog 14 #[.agg #[.int .i64 lid, .int .i64 kind, .int .i64 mr, .int .i64 md, .slice pa' pn pc'], .agg #[.int .i64 k0.id, .slice k0.ra k0.rs.length k0.rc, .slice k0.da k0.ds.length k0.dc, .slice k0.va k0.vs.length k0.vc]] X fun e w' => (∃ (s : St) (ev : Value), e = .returned (.tuple #[.agg #[.int .i64 s.e, .int .i64 s.u, .bool s.h, .int .i64 s.mn.k, .int .i64 s.mn.n, .string s.mn.s, .int .i64 s.mx.k, .int .i64 s.mx.n, .string s.mx.s], ev]) ∧ OkOr ev (GoodC lid kind mr md b ∧ s = ofC b)) ∧ Below w4.heap.size w4 w' ∧ Below X.heap.size X w') := fun X k0 pa' pc' hX ka ks => (by
        have hEX := HE4.out _ (HI4.out.keep hX).old
        refine (of_any lid kind mr md pa' pn pc' k0 X _ _ _ _ _ _ (by rw [ks.rs]; omega) (by rw [ks.ds]; omega) (by rw [ks.vs]; omega) ks.cap.1 ks.cap.2.1 ks.cap.2.2 hEX.1 hEX.2.1 hEX.2.2.1 ka (by rw [ks.vs]; exact HLOb.out)).mono fun e w' h => ⟨?_, bel_next hX (Nat.le_refl _) h.2, h.2⟩
        obtain ⟨⟨s, ev, h1, h2⟩, _⟩ := h
        exact ⟨s, ev, h1, ofR_nil (h2.same ks)⟩)
      have b0 : Below w4.heap.size w4 w4 := Below.refl _ _
      have HN : Hid (∀ X, Below w4.heap.size w4 X → (X.cell? ⟨W.heap.size, 0, none⟩ = some (.int .i64 lid) ∧ X.cell? ⟨W.heap.size, 1, none⟩ = some (.int .i64 kind) ∧ X.cell? ⟨W.heap.size, 2, none⟩ = some (.int .i64 mr) ∧ X.cell? ⟨W.heap.size, 3, none⟩ = some (.int .i64 md) ∧ X.cell? ⟨W.heap.size, 4, none⟩ = some (.slice pa pn pc)) ∧ (X.cell? ⟨W.heap.size + 1, 0, none⟩ = some (.int .i64 a.id) ∧ X.cell? ⟨W.heap.size + 1, 1, none⟩ = some (.slice a.ra a.rs.length a.rc) ∧ X.cell? ⟨W.heap.size + 1, 2, none⟩ = some (.slice a.da a.ds.length a.dc) ∧ X.cell? ⟨W.heap.size + 1, 3, none⟩ = some (.slice a.va a.vs.length a.vc)) ∧ (X.cell? ⟨W.heap.size + 1 + 1, 0, none⟩ = some (.int .i64 b.id) ∧ X.cell? ⟨W.heap.size + 1 + 1, 1, none⟩ = some (.slice b.ra b.rs.length b.rc) ∧ X.cell? ⟨W.heap.size + 1 + 1, 2, none⟩ = some (.slice b.da b.ds.length b.dc) ∧ X.cell? ⟨W.heap.size + 1 + 1, 3, none⟩ = some (.slice b.va b.vs.length b.vc)) ∧ Below w4.heap.size w4 X) := fun X hX => ⟨(row_five (blk_keep hX HI4.out.lf)).1, row_four (blk_keep hX HI4.out.ca), row_four (blk_keep hX HI4.out.cb), hX⟩
      go_region_held3 (fun X => (X.cell? ⟨W.heap.size, 0, none⟩ = some (.int .i64 lid) ∧ X.cell? ⟨W.heap.size, 1, none⟩ = some (.int .i64 kind) ∧ X.cell? ⟨W.heap.size, 2, none⟩ = some (.int .i64 mr) ∧ X.cell? ⟨W.heap.size, 3, none⟩ = some (.int .i64 md) ∧ X.cell? ⟨W.heap.size, 4, none⟩ = some (.slice pa pn pc)) ∧ (X.cell? ⟨W.heap.size + 1, 0, none⟩ = some (.int .i64 a.id) ∧ X.cell? ⟨W.heap.size + 1, 1, none⟩ = some (.slice a.ra a.rs.length a.rc) ∧ X.cell? ⟨W.heap.size + 1, 2, none⟩ = some (.slice a.da a.ds.length a.dc) ∧ X.cell? ⟨W.heap.size + 1, 3, none⟩ = some (.slice a.va a.vs.length a.vc)) ∧ (X.cell? ⟨W.heap.size + 1 + 1, 0, none⟩ = some (.int .i64 b.id) ∧ X.cell? ⟨W.heap.size + 1 + 1, 1, none⟩ = some (.slice b.ra b.rs.length b.rc) ∧ X.cell? ⟨W.heap.size + 1 + 1, 2, none⟩ = some (.slice b.da b.ds.length b.dc) ∧ X.cell? ⟨W.heap.size + 1 + 1, 3, none⟩ = some (.slice b.va b.vs.length b.vc)) ∧ Below w4.heap.size w4 X) (with_reducible refine HN.out _ ?_; repeat' (first | with_reducible assumption | with_reducible exact b0.drew | with_reducible exact b0 | with_reducible refine Below.drew ?_ | with_reducible exact Nat.le_refl _ | with_reducible refine Below.setCell ?_ ?_ _ | with_reducible refine Below.alloc ?_ ?_ _ | with_reducible exact Below.size (by assumption) | (simp; done) | (simp; omega) | omega)) (first
        | (go_at_call 15; (with_reducible refine Calls.mono (HO1.out _ ?_) ?_); (repeat' (first | with_reducible assumption | with_reducible exact b0.drew | with_reducible exact b0 | with_reducible refine Below.drew ?_ | with_reducible refine Below.alloc ?_ ?_ _ | with_reducible exact Below.size (by assumption) | with_reducible exact Nat.le_refl _ | (simp; done) | (simp; omega))); rintro e x1 ⟨⟨pa', pc', rfl⟩, hbx1, hraw1⟩; (first | (have HK1 : Hid (k0.At x1) := Cl.At.keep (Hid.out HK0) hraw1; clear HK0; have HK0 : Hid (k0.At x1) := HK1; clear HK1) | skip); (first | (have hzz := blk_keep hraw1 hzz0; clear hzz0; have hzz0 := hzz; clear hzz) | (have hzz0 := blk_keep hraw1 (blk_drew (heap_alloc_new _ (.cells #[.int .i64 0, .int .i64 0, .bool false, .int .i64 0, .int .i64 0, .string ⟨#[]⟩, .int .i64 0, .int .i64 0, .string ⟨#[]⟩] 34)))) | (have hzz0 := blk_keep hraw1 (heap_alloc_new _ (.cells #[.int .i64 0, .int .i64 0, .bool false, .int .i64 0, .int .i64 0, .string ⟨#[]⟩, .int .i64 0, .int .i64 0, .string ⟨#[]⟩] 34))) | skip))
        | (go_at_call 16; (with_reducible refine Calls.mono (HO4.out _ ?_) ?_); (repeat' (first | with_reducible assumption | with_reducible exact b0.drew | with_reducible exact b0 | with_reducible refine Below.drew ?_ | with_reducible refine Below.alloc ?_ ?_ _ | with_reducible exact Below.size (by assumption) | with_reducible exact Nat.le_refl _ | (simp; done) | (simp; omega))); rintro e x2 ⟨⟨k0, rfl, ka0, ks0, _⟩, hbx2, hraw2⟩; have HK0 : Hid (k0.At x2) := ka0; have HKS0 : Hid _ := ks0; clear ka0 ks0; (first | (have hzz := blk_keep hraw2 hzz0; clear hzz0; have hzz0 := hzz; clear hzz) | (have hzz0 := blk_keep hraw2 (blk_drew (heap_alloc_new _ (.cells #[.int .i64 0, .int .i64 0, .bool false, .int .i64 0, .int .i64 0, .string ⟨#[]⟩, .int .i64 0, .int .i64 0, .string ⟨#[]⟩] 34)))) | (have hzz0 := blk_keep hraw2 (heap_alloc_new _ (.cells #[.int .i64 0, .int .i64 0, .bool false, .int .i64 0, .int .i64 0, .string ⟨#[]⟩, .int .i64 0, .int .i64 0, .string ⟨#[]⟩] 34))) | skip))
        | (go_at_call 14; (with_reducible refine Calls.mono (HO3.out _ k0 pa' pc' ?_ ?_ ?_) ?_); (repeat' (first | with_reducible assumption | with_reducible exact b0.drew | with_reducible exact b0 | with_reducible refine Below.drew ?_ | with_reducible refine Below.alloc ?_ ?_ _ | with_reducible exact Below.size (by assumption) | with_reducible exact Nat.le_refl _ | (simp; done) | (simp; omega))); (first | exact HK0.out | exact HK0.out.keep (((Below.refl _ _).alloc (Nat.le_refl _) _).drew) | exact HK0.out.keep ((Below.refl _ _).alloc (Nat.le_refl _) _)); exact HKS0.out; rintro e x3 ⟨⟨s, ev, rfl, hor⟩, hbx3, hraw3⟩; have HOR : Hid _ := hor; have HBX3 : Hid _ := hbx3; clear hor; (first | (have hzz := blk_keep hraw3 hzz0; clear hzz0; have hzz0 := hzz; clear hzz) | (have hzz0 := blk_keep hraw3 (blk_drew (heap_alloc_new _ (.cells #[.int .i64 0, .int .i64 0, .bool false, .int .i64 0, .int .i64 0, .string ⟨#[]⟩, .int .i64 0, .int .i64 0, .string ⟨#[]⟩] 34)))) | (have hzz0 := blk_keep hraw3 (heap_alloc_new _ (.cells #[.int .i64 0, .int .i64 0, .bool false, .int .i64 0, .int .i64 0, .string ⟨#[]⟩, .int .i64 0, .int .i64 0, .string ⟨#[]⟩] 34))) | skip); (first | (obtain ⟨z1, z2⟩ := row_nine hzz0; have HZZ : Hid _ := hzz0; clear hzz0) | skip)))
      · go_wp2_with fail
        go_meet
        exact ⟨s, x3.heap.size, rfl, HBX3.out.size, HBX3.out.alloc HBX3.out.size _, heap_alloc_new _ _, HOR⟩
      all_goals
        go_wp2_with fail
        go_meet
        refine ⟨s, _, rfl, ?_, set9_below HBX3.out ?_ _ _ _ _ _ _ _ _ _, set9_row HZZ.out _ _ _ _ _ _ _ _ _, HOR⟩
        all_goals first | exact Nat.le_refl _ | exact Below.size (by assumption)
    case rest =>
      obtain ⟨sy, gy, rfl, HGy, HBy, HSy, HOy⟩ := hcut
      rename World => w5
      rename Value => e2
      have HI5 : Hid _ := HI4.out.keep HBy.out
      have HSx5 : Hid _ := blk_keep HBy.out HSx.out
      clear HI4 HBy HGy HSx
      go_upto_region 6 with fail
      go_cut [16, 17] (fun x y wx => ∃ (k : Cl) (g : Nat), x = .pointer (some ⟨g, 0, none⟩) ∧ Hid (Below w5.heap.size w5 wx) ∧ Hid (wx.heap[g]? = some (.cells #[.int .i64 k.id, .slice k.ra k.rs.length k.rc, .slice k.da k.ds.length k.dc, .slice k.va k.vs.length k.vc] 44 (0, 0))) ∧ Hid (k.At wx) ∧ Hid (J2 lid a b k y))
      case first =>
        have HO1 : Hid (∀ X, Below w5.heap.size w5 X → Calls Tryd.prog 15 #[.agg #[.int .i64 lid, .int .i64 kind, .int .i64 mr, .int .i64 md, .slice pa pn pc]] X fun e w' => (∃ pa' pc', e = .returned (.agg #[.int .i64 lid, .int .i64 kind, .int .i64 mr, .int .i64 md, .slice pa' pn pc'])) ∧ Below w5.heap.size w5 w' ∧ Below X.heap.size X w') := fun X hX => (by
          have h := ownLeaf_any lid kind mr md pa pc ps X (by rw [HPN.out]; omega) (HP.out _ (HI5.out.keep hX).old)
          rw [HPN.out] at h
          exact h.mono fun e w' h => ⟨(by obtain ⟨⟨pa', pc', h1, _⟩, _⟩ := h; exact ⟨pa', pc', h1⟩), bel_next hX (Nat.le_refl _) h.2, h.2⟩)
        have HOa : Hid (∀ X, Below w5.heap.size w5 X → Calls Tryd.prog 16 #[.agg #[.int .i64 a.id, .slice a.ra a.rs.length a.rc, .slice a.da a.ds.length a.dc, .slice a.va a.vs.length a.vc]] X fun e w' => (∃ k1 : Cl, e = .returned (.agg #[.int .i64 k1.id, .slice k1.ra k1.rs.length k1.rc, .slice k1.da k1.ds.length k1.dc, .slice k1.va k1.vs.length k1.vc]) ∧ k1.At w' ∧ SameC a k1) ∧ Below w5.heap.size w5 w' ∧ Below X.heap.size X w') := fun X hX => (ownColumn_cl a X (by omega) (by omega) (by omega) (HATa.out _ (HI5.out.keep hX).old)).mono fun e w' h => ⟨(by obtain ⟨⟨k, h1, h2, _, h3⟩, _⟩ := h; exact ⟨k, h1, h2, h3⟩), bel_next hX (Nat.le_refl _) h.2, h.2⟩
        have HOb : Hid (∀ X, Below w5.heap.size w5 X → Calls Tryd.prog 16 #[.agg #[.int .i64 b.id, .slice b.ra b.rs.length b.rc, .slice b.da b.ds.length b.dc, .slice b.va b.vs.length b.vc]] X fun e w' => (∃ k2 : Cl, e = .returned (.agg #[.int .i64 k2.id, .slice k2.ra k2.rs.length k2.rc, .slice k2.da k2.ds.length k2.dc, .slice k2.va k2.vs.length k2.vc]) ∧ k2.At w' ∧ SameC b k2) ∧ Below w5.heap.size w5 w' ∧ Below X.heap.size X w') := fun X hX => (ownColumn_cl b X (by omega) (by omega) (by omega) (HATb.out _ (HI5.out.keep hX).old)).mono fun e w' h => ⟨(by obtain ⟨⟨k, h1, h2, _, h3⟩, _⟩ := h; exact ⟨k, h1, h2, h3⟩), bel_next hX (Nat.le_refl _) h.2, h.2⟩
        have HOJ : Hid (∀ X (k1 k2 : Cl) g pa' pc', Below w5.heap.size w5 X → k1.At X → k2.At X → SameC a k1 → SameC b k2 → X.heap[g]? = some (.cells #[.int .i64 k1.id, .slice k1.ra k1.rs.length k1.rc, .slice k1.da k1.ds.length k1.dc, .slice k1.va k1.vs.length k1.vc, .int .i64 k2.id, .slice k2.ra k2.rs.length k2.rc, .slice k2.da k2.ds.length k2.dc, .slice k2.va k2.vs.length k2.vc] 44 (0, 0)) → Calls Tryd.prog 17 #[.agg #[.int .i64 lid, .int .i64 kind, .int .i64 mr, .int .i64 md, .slice pa' pn pc'], .slice (some ⟨g, 0, none⟩) 2 2] X fun e w' => (∃ (k : Cl) (ev : Value), e = .returned (.tuple #[.agg #[.int .i64 k.id, .slice k.ra k.rs.length k.rc, .slice k.da k.ds.length k.dc, .slice k.va k.vs.length k.vc], ev]) ∧ k.At w' ∧ k.Fr X.heap.size ∧ J2 lid a b k ev) ∧ Below w5.heap.size w5 w' ∧ Below X.heap.size X w') := fun X k1 k2 g pa' pc' hX h1 h2 s1 s2 hg => (by
          have hEX := HE4.out _ (HI5.out.keep hX).old
          exact (join_two lid kind mr md pa' pn pc' g _ a b k1 k2 X _ _ _ _ _ _ hra hda hva hrb hdb hvb hEX.1 hEX.2.1 hEX.2.2.1 h1 h2 s1 s2 hg).mono fun e w' h => ⟨h.1, bel_next hX (Nat.le_refl _) h.2, h.2⟩)
        have b0 : Below w5.heap.size w5 w5 := Below.refl _ _
        have HN : Hid (∀ X, Below w5.heap.size w5 X → (X.cell? ⟨W.heap.size, 0, none⟩ = some (.int .i64 lid) ∧ X.cell? ⟨W.heap.size, 1, none⟩ = some (.int .i64 kind) ∧ X.cell? ⟨W.heap.size, 2, none⟩ = some (.int .i64 mr) ∧ X.cell? ⟨W.heap.size, 3, none⟩ = some (.int .i64 md) ∧ X.cell? ⟨W.heap.size, 4, none⟩ = some (.slice pa pn pc)) ∧ (X.cell? ⟨W.heap.size + 1, 0, none⟩ = some (.int .i64 a.id) ∧ X.cell? ⟨W.heap.size + 1, 1, none⟩ = some (.slice a.ra a.rs.length a.rc) ∧ X.cell? ⟨W.heap.size + 1, 2, none⟩ = some (.slice a.da a.ds.length a.dc) ∧ X.cell? ⟨W.heap.size + 1, 3, none⟩ = some (.slice a.va a.vs.length a.vc)) ∧ (X.cell? ⟨W.heap.size + 1 + 1, 0, none⟩ = some (.int .i64 b.id) ∧ X.cell? ⟨W.heap.size + 1 + 1, 1, none⟩ = some (.slice b.ra b.rs.length b.rc) ∧ X.cell? ⟨W.heap.size + 1 + 1, 2, none⟩ = some (.slice b.da b.ds.length b.dc) ∧ X.cell? ⟨W.heap.size + 1 + 1, 3, none⟩ = some (.slice b.va b.vs.length b.vc)) ∧ Below w5.heap.size w5 X) := fun X hX => ⟨(row_five (blk_keep hX HI5.out.lf)).1, row_four (blk_keep hX HI5.out.ca), row_four (blk_keep hX HI5.out.cb), hX⟩
        go_region_held3 (fun X => (X.cell? ⟨W.heap.size, 0, none⟩ = some (.int .i64 lid) ∧ X.cell? ⟨W.heap.size, 1, none⟩ = some (.int .i64 kind) ∧ X.cell? ⟨W.heap.size, 2, none⟩ = some (.int .i64 mr) ∧ X.cell? ⟨W.heap.size, 3, none⟩ = some (.int .i64 md) ∧ X.cell? ⟨W.heap.size, 4, none⟩ = some (.slice pa pn pc)) ∧ (X.cell? ⟨W.heap.size + 1, 0, none⟩ = some (.int .i64 a.id) ∧ X.cell? ⟨W.heap.size + 1, 1, none⟩ = some (.slice a.ra a.rs.length a.rc) ∧ X.cell? ⟨W.heap.size + 1, 2, none⟩ = some (.slice a.da a.ds.length a.dc) ∧ X.cell? ⟨W.heap.size + 1, 3, none⟩ = some (.slice a.va a.vs.length a.vc)) ∧ (X.cell? ⟨W.heap.size + 1 + 1, 0, none⟩ = some (.int .i64 b.id) ∧ X.cell? ⟨W.heap.size + 1 + 1, 1, none⟩ = some (.slice b.ra b.rs.length b.rc) ∧ X.cell? ⟨W.heap.size + 1 + 1, 2, none⟩ = some (.slice b.da b.ds.length b.dc) ∧ X.cell? ⟨W.heap.size + 1 + 1, 3, none⟩ = some (.slice b.va b.vs.length b.vc)) ∧ Below w5.heap.size w5 X) (with_reducible refine HN.out _ ?_; repeat' (first | with_reducible assumption | with_reducible exact b0.drew | with_reducible exact b0 | with_reducible refine Below.drew ?_ | with_reducible exact Nat.le_refl _ | with_reducible refine Below.setCell ?_ ?_ _ | with_reducible refine Below.alloc ?_ ?_ _ | with_reducible exact Below.size (by assumption) | (simp; done) | (simp; omega) | omega)) (first
          | (go_at_call 15; (with_reducible refine Calls.mono (HO1.out _ ?_) ?_); (repeat' (first | with_reducible assumption | with_reducible exact b0.drew | with_reducible exact b0 | with_reducible refine Below.drew ?_ | with_reducible refine Below.alloc ?_ ?_ _ | with_reducible exact Below.size (by assumption) | with_reducible exact Nat.le_refl _ | (simp; done) | (simp; omega))); rintro e x1 ⟨⟨pa', pc', rfl⟩, hbx1, hraw1⟩; have hq1 : w5.heap.size ≤ x1.heap.size := hbx1.size; (first | (have hzz := blk_keep hraw1 hzz0; clear hzz0; have hzz0 := hzz; clear hzz) | (have hzz0 := blk_keep hraw1 (blk_drew (heap_alloc_new _ (.cells #[.int .i64 0, .slice none 0 0, .slice none 0 0, .slice none 0 0] 44)))) | (have hzz0 := blk_keep hraw1 (heap_alloc_new _ (.cells #[.int .i64 0, .slice none 0 0, .slice none 0 0, .slice none 0 0] 44))) | skip))
          | (go_at_call 16; (with_reducible refine Calls.mono (HOa.out _ ?_) ?_); (repeat' (first | with_reducible assumption | with_reducible exact b0.drew | with_reducible exact b0 | with_reducible refine Below.drew ?_ | with_reducible refine Below.alloc ?_ ?_ _ | with_reducible exact Below.size (by assumption) | with_reducible exact Nat.le_refl _ | (simp; done) | (simp; omega))); rintro e x2 ⟨⟨k1, rfl, ka1, ks1⟩, hbx2, hraw2⟩; have HK1 : Hid (k1.At x2) := ka1; have HKS1 : Hid _ := ks1; clear ka1 ks1; have hq2 : w5.heap.size ≤ x2.heap.size := hbx2.size; (first | (have hzz := blk_keep hraw2 hzz0; clear hzz0; have hzz0 := hzz; clear hzz) | (have hzz0 := blk_keep hraw2 (blk_drew (heap_alloc_new _ (.cells #[.int .i64 0, .slice none 0 0, .slice none 0 0, .slice none 0 0] 44)))) | (have hzz0 := blk_keep hraw2 (heap_alloc_new _ (.cells #[.int .i64 0, .slice none 0 0, .slice none 0 0, .slice none 0 0] 44))) | skip))
          | (go_at_call 16; (with_reducible refine Calls.mono (HOb.out _ ?_) ?_); (repeat' (first | with_reducible assumption | with_reducible exact b0.drew | with_reducible exact b0 | with_reducible refine Below.drew ?_ | with_reducible refine Below.alloc ?_ ?_ _ | with_reducible exact Below.size (by assumption) | with_reducible exact Nat.le_refl _ | (simp; done) | (simp; omega))); rintro e x3 ⟨⟨k2, rfl, ka2, ks2⟩, hbx3, hraw3⟩; have HK2 : Hid (k2.At x3) := ka2; have HKS2 : Hid _ := ks2; clear ka2 ks2; have hq3 : w5.heap.size ≤ x3.heap.size := hbx3.size; (first | (have HKn : Hid (k1.At x3) := Cl.At.keep (Hid.out HK1) (by first | exact hraw3 | exact ((Below.refl _ _).alloc (Nat.le_refl _) (.cells #[.int .i64 0, .slice none 0 0, .slice none 0 0, .slice none 0 0] 44)).trans (Below.mono hraw3 (by simp))); clear HK1; have HK1 : Hid (k1.At x3) := HKn; clear HKn) | skip); (first | (have hzz := blk_keep hraw3 hzz0; clear hzz0; have hzz0 := hzz; clear hzz) | (have hzz0 := blk_keep hraw3 (blk_drew (heap_alloc_new _ (.cells #[.int .i64 0, .slice none 0 0, .slice none 0 0, .slice none 0 0] 44)))) | (have hzz0 := blk_keep hraw3 (heap_alloc_new _ (.cells #[.int .i64 0, .slice none 0 0, .slice none 0 0, .slice none 0 0] 44))) | skip))
          | (go_at_call 17; (first | (with_reducible refine Calls.mono (HOJ.out _ k1 k2 x3.heap.size pa' pc' ?_ ?_ ?_ ?_ ?_ ?_) ?_) | (with_reducible refine Calls.mono (HOJ.out _ k1 k2 (x3.heap.size + 1) pa' pc' ?_ ?_ ?_ ?_ ?_ ?_) ?_)); (repeat' (first | with_reducible assumption | with_reducible exact b0.drew | with_reducible exact b0 | with_reducible refine Below.drew ?_ | with_reducible refine Below.alloc ?_ ?_ _ | with_reducible exact Below.size (by assumption) | with_reducible exact Nat.le_refl _ | (simp; done) | (simp; omega))); (first | exact HK1.out.keep ((Below.refl _ _).alloc (Nat.le_refl _) _) | exact HK1.out.keep (((Below.refl _ _).alloc (Nat.le_refl _) _).alloc (by simp) _)); (first | exact HK2.out.keep ((Below.refl _ _).alloc (Nat.le_refl _) _) | exact HK2.out.keep (((Below.refl _ _).alloc (Nat.le_refl _) _).alloc (by simp) _)); exact HKS1.out; exact HKS2.out; (first | exact heap_alloc_new _ _ | exact blk_alloc (heap_alloc_new _ _) | exact two_snd _ _ _); rintro e x4 ⟨⟨⟨kid, kra, krs, krc, kda, kds, kdc, kva, kvs, kvc⟩, ev, rfl, ka, kf, hj2⟩, hbx4, hraw4⟩; have HKA : Hid _ := ka; have HKF : Hid _ := kf; have HJ2 : Hid (J2 lid a b ⟨kid, kra, krs, krc, kda, kds, kdc, kva, kvs, kvc⟩ ev) := hj2; have HBX4 : Hid _ := hbx4; clear ka kf hj2; (first | (have hzz := blk_keep hraw4 (blk_alloc hzz0 (o' := (.cells #[.int .i64 k1.id, .slice k1.ra k1.rs.length k1.rc, .slice k1.da k1.ds.length k1.dc, .slice k1.va k1.vs.length k1.vc, .int .i64 k2.id, .slice k2.ra k2.rs.length k2.rc, .slice k2.da k2.ds.length k2.dc, .slice k2.va k2.vs.length k2.vc] 44))); clear hzz0; have hzz0 := hzz; clear hzz) | (have hzz0 : x4.heap[x3.heap.size]? = some (.cells #[.int .i64 0, .slice none 0 0, .slice none 0 0, .slice none 0 0] 44 (0, 0)) := blk_keep hraw4 (blk_alloc (heap_alloc_new x3 (.cells #[.int .i64 0, .slice none 0 0, .slice none 0 0, .slice none 0 0] 44)) (o' := (.cells #[.int .i64 k1.id, .slice k1.ra k1.rs.length k1.rc, .slice k1.da k1.ds.length k1.dc, .slice k1.va k1.vs.length k1.vc, .int .i64 k2.id, .slice k2.ra k2.rs.length k2.rc, .slice k2.da k2.ds.length k2.dc, .slice k2.va k2.vs.length k2.vc] 44)))) | (have hzz0 : x4.heap[x3.heap.size + 1]? = some (.cells #[.int .i64 0, .slice none 0 0, .slice none 0 0, .slice none 0 0] 44 (0, 0)) := blk_keep hraw4 (two_snd x3 (.cells #[.int .i64 k1.id, .slice k1.ra k1.rs.length k1.rc, .slice k1.da k1.ds.length k1.dc, .slice k1.va k1.vs.length k1.vc, .int .i64 k2.id, .slice k2.ra k2.rs.length k2.rc, .slice k2.da k2.ds.length k2.dc, .slice k2.va k2.vs.length k2.vc] 44) (.cells #[.int .i64 0, .slice none 0 0, .slice none 0 0, .slice none 0 0] 44))) | skip); (first | (obtain ⟨z0, z1, z2, z3⟩ := row_four hzz0; obtain ⟨y0, y1, y2, y3⟩ := row_fourA hzz0; have HZZ : Hid _ := hzz0; clear hzz0) | skip)))
        · go_wp2_with fail
          go_meet
          exact ⟨⟨kid, kra, krs, krc, kda, kds, kdc, kva, kvs, kvc⟩, x4.heap.size, rfl, HBX4.out.alloc HBX4.out.size _, heap_alloc_new _ _, HKA.out.keep ((Below.refl _ _).alloc (Nat.le_refl _) _), HJ2⟩
        all_goals
          have hr1 := hraw1.size
          have hr2 := hraw2.size
          have hr3 := hraw3.size
          go_wp2_with fail
          go_meet
          refine ⟨⟨kid, kra, krs, krc, kda, kds, kdc, kva, kvs, kvc⟩, _, rfl, (((HBX4.out.setCell ?_ _).setCell ?_ _).setCell ?_ _).setCell ?_ _, row_setCell (row_setCell (row_setCell (row_setCell HZZ.out _) _) _) _, (((HKA.out.off HKF.out ?_).off HKF.out ?_).off HKF.out ?_).off HKF.out ?_, HJ2⟩
          all_goals (try simp at hr1)
          all_goals (try simp at hr2)
          all_goals (try simp at hr3)
          all_goals first | (simp; done) | (simp; omega) | omega
      case rest =>
        obtain ⟨k, gk, rfl, HBj, HSk, HKAt, HJ2⟩ := hcut
        rename World => w6
        rename Value => e3
        have HI6 : Hid _ := HI5.out.keep HBj.out
        have HSx6 : Hid _ := blk_keep HBj.out HSx5.out
        have HSy6 : Hid _ := blk_keep HBj.out HSy.out
        clear HI5 HBj HSx5 HSy
        rcases HOx.out with ⟨rfl, hga, hsx⟩ | ⟨t, p, rfl⟩
        rotate_left
        · go_wp2
          go_ret
          exact ⟨rfl, HI6.out.old⟩
        rcases HOy.out with ⟨rfl, hgb, hsy⟩ | ⟨t, p, rfl⟩
        rotate_left
        · go_wp2
          go_ret
          exact ⟨rfl, HI6.out.old⟩
        rcases HJ2.out with ⟨rfl, hk⟩ | ⟨t, p, rfl⟩
        rotate_left
        · go_wp2
          go_ret
          exact ⟨rfl, HI6.out.old⟩
        have HK : Hid (k.Cap ∧ k.id = lid ∧ k.rs = a.rs ++ b.rs ∧ k.ds = a.ds ++ b.ds ∧ k.vs = a.vs ++ b.vs) := hk
        have HGk : Hid (GoodC lid kind mr md k) := good_app hga hgb hk.2.1 hk.2.2.1 hk.2.2.2.1 hk.2.2.2.2
        have HRa : Hid (∀ y ∈ a.vs, Rv kind y) := hga.rv HLOa.out
        have HRb : Hid (∀ y ∈ b.vs, Rv kind y) := hgb.rv HLOb.out
        have HLOk : Hid (∀ v ∈ k.vs, v.Low) := fun v hv => (by rw [hk.2.2.2.2] at hv; rcases List.mem_append.1 hv with h | h; exact HLOa.out v h; exact HLOb.out v h)
        have HSX : Hid (sx = ofC a) := hsx
        have HSY : Hid (sy = ofC b) := hsy
        clear hga hgb hk hsx hsy HOx HOy HJ2
        go_upto_region 9 with fail
        go_cut [18, 13] (fun x y wx => ∃ (s : St) (g : Nat), x = .pointer (some ⟨g, 0, none⟩) ∧ y = .nilIface ∧ Hid (Below w6.heap.size w6 wx) ∧ Hid (wx.heap[g]? = some (.cells s.cs 34 (0, 0))) ∧ Hid (s = ofC k))
        case first =>
          have HO1 : Hid (∀ X, Below w6.heap.size w6 X → Calls Tryd.prog 15 #[.agg #[.int .i64 lid, .int .i64 kind, .int .i64 mr, .int .i64 md, .slice pa pn pc]] X fun e w' => (∃ pa' pc', e = .returned (.agg #[.int .i64 lid, .int .i64 kind, .int .i64 mr, .int .i64 md, .slice pa' pn pc'])) ∧ Below w6.heap.size w6 w' ∧ Below X.heap.size X w') := fun X hX => (by
            have h := ownLeaf_any lid kind mr md pa pc ps X (by rw [HPN.out]; omega) (HP.out _ (HI6.out.keep hX).old)
            rw [HPN.out] at h
            exact h.mono fun e w' h => ⟨(by obtain ⟨⟨pa', pc', h1, _⟩, _⟩ := h; exact ⟨pa', pc', h1⟩), bel_next hX (Nat.le_refl _) h.2, h.2⟩)
          have HO3 : Hid (∀ X pa' pc', Below w6.heap.size w6 X → Calls Tryd.prog 14 #[.agg #[.int .i64 lid, .int .i64 kind, .int .i64 mr, .int .i64 md, .slice pa' pn pc'], .agg #[.int .i64 k.id, .slice k.ra k.rs.length k.rc, .slice k.da k.ds.length k.dc, .slice k.va k.vs.length k.vc]] X fun e w' => (∃ (s : St), e = .returned (.tuple #[.agg #[.int .i64 s.e, .int .i64 s.u, .bool s.h, .int .i64 s.mn.k, .int .i64 s.mn.n, .string s.mn.s, .int .i64 s.mx.k, .int .i64 s.mx.n, .string s.mx.s], .nilIface]) ∧ Hid (s = ofC k)) ∧ Below w6.heap.size w6 w' ∧ Below X.heap.size X w') := fun X pa' pc' hX => (by
            have hEX := HE4.out _ (HI6.out.keep hX).old
            refine (of_any lid kind mr md pa' pn pc' k X _ _ _ _ _ _ (by rw [HK.out.2.2.1]; simp; omega) (by rw [HK.out.2.2.2.1]; simp; omega) (by rw [HK.out.2.2.2.2]; simp; omega) HK.out.1.1 HK.out.1.2.1 HK.out.1.2.2 hEX.1 hEX.2.1 hEX.2.2.1 (HKAt.out.keep hX) HLOk.out).mono fun e w' h => ⟨?_, bel_next hX (Nat.le_refl _) h.2, h.2⟩
            obtain ⟨⟨s, ev, h1, h2⟩, _⟩ := h
            have hg := HGk.out
            rcases h2 with ⟨h, _⟩ | ⟨_, p, hp, h, _⟩ | ⟨_, h3, h4⟩
            · rw [hg.1] at h; cases h
            · rw [hg.2 p hp] at h; cases h
            · subst h3; exact ⟨s, h1, h4⟩)
          have b0 : Below w6.heap.size w6 w6 := Below.refl _ _
          have HN : Hid (∀ X, Below w6.heap.size w6 X → (X.cell? ⟨W.heap.size, 0, none⟩ = some (.int .i64 lid) ∧ X.cell? ⟨W.heap.size, 1, none⟩ = some (.int .i64 kind) ∧ X.cell? ⟨W.heap.size, 2, none⟩ = some (.int .i64 mr) ∧ X.cell? ⟨W.heap.size, 3, none⟩ = some (.int .i64 md) ∧ X.cell? ⟨W.heap.size, 4, none⟩ = some (.slice pa pn pc)) ∧ (X.cell? ⟨gk, 0, none⟩ = some (.int .i64 k.id) ∧ X.cell? ⟨gk, 1, none⟩ = some (.slice k.ra k.rs.length k.rc) ∧ X.cell? ⟨gk, 2, none⟩ = some (.slice k.da k.ds.length k.dc) ∧ X.cell? ⟨gk, 3, none⟩ = some (.slice k.va k.vs.length k.vc)) ∧ Below w6.heap.size w6 X) := fun X hX => ⟨(row_five (blk_keep hX HI6.out.lf)).1, row_four (blk_keep hX HSk.out), hX⟩
          go_region_held3 (fun X => (X.cell? ⟨W.heap.size, 0, none⟩ = some (.int .i64 lid) ∧ X.cell? ⟨W.heap.size, 1, none⟩ = some (.int .i64 kind) ∧ X.cell? ⟨W.heap.size, 2, none⟩ = some (.int .i64 mr) ∧ X.cell? ⟨W.heap.size, 3, none⟩ = some (.int .i64 md) ∧ X.cell? ⟨W.heap.size, 4, none⟩ = some (.slice pa pn pc)) ∧ (X.cell? ⟨gk, 0, none⟩ = some (.int .i64 k.id) ∧ X.cell? ⟨gk, 1, none⟩ = some (.slice k.ra k.rs.length k.rc) ∧ X.cell? ⟨gk, 2, none⟩ = some (.slice k.da k.ds.length k.dc) ∧ X.cell? ⟨gk, 3, none⟩ = some (.slice k.va k.vs.length k.vc)) ∧ Below w6.heap.size w6 X) (with_reducible refine HN.out _ ?_; repeat' (first | with_reducible assumption | with_reducible exact b0.drew | with_reducible exact b0 | with_reducible refine Below.drew ?_ | with_reducible exact Nat.le_refl _ | with_reducible refine Below.setCell ?_ ?_ _ | with_reducible refine Below.alloc ?_ ?_ _ | with_reducible exact Below.size (by assumption) | (simp; done) | (simp; omega) | omega)) (first
            | (go_at_call 15; (with_reducible refine Calls.mono (HO1.out _ ?_) ?_); (repeat' (first | with_reducible assumption | with_reducible exact b0.drew | with_reducible exact b0 | with_reducible refine Below.drew ?_ | with_reducible refine Below.alloc ?_ ?_ _ | with_reducible exact Below.size (by assumption) | with_reducible exact Nat.le_refl _ | (simp; done) | (simp; omega))); rintro e x1 ⟨⟨pa', pc', rfl⟩, hbx1, hraw1⟩; (first | (have hzz := blk_keep hraw1 hzz0; clear hzz0; have hzz0 := hzz; clear hzz) | (have hzz0 := blk_keep hraw1 (blk_drew (heap_alloc_new _ (.cells #[.int .i64 0, .int .i64 0, .bool false, .int .i64 0, .int .i64 0, .string ⟨#[]⟩, .int .i64 0, .int .i64 0, .string ⟨#[]⟩] 34)))) | (have hzz0 := blk_keep hraw1 (heap_alloc_new _ (.cells #[.int .i64 0, .int .i64 0, .bool false, .int .i64 0, .int .i64 0, .string ⟨#[]⟩, .int .i64 0, .int .i64 0, .string ⟨#[]⟩] 34))) | skip))
            | (go_at_call 14; (with_reducible refine Calls.mono (HO3.out _ pa' pc' ?_) ?_); (repeat' (first | with_reducible assumption | with_reducible exact b0.drew | with_reducible exact b0 | with_reducible refine Below.drew ?_ | with_reducible refine Below.alloc ?_ ?_ _ | with_reducible exact Below.size (by assumption) | with_reducible exact Nat.le_refl _ | (simp; done) | (simp; omega))); rintro e x3 ⟨⟨s, rfl, hsz⟩, hbx3, hraw3⟩; have HBX3 : Hid _ := hbx3; (first | (have hzz := blk_keep hraw3 hzz0; clear hzz0; have hzz0 := hzz; clear hzz) | (have hzz0 := blk_keep hraw3 (blk_drew (heap_alloc_new _ (.cells #[.int .i64 0, .int .i64 0, .bool false, .int .i64 0, .int .i64 0, .string ⟨#[]⟩, .int .i64 0, .int .i64 0, .string ⟨#[]⟩] 34)))) | (have hzz0 := blk_keep hraw3 (heap_alloc_new _ (.cells #[.int .i64 0, .int .i64 0, .bool false, .int .i64 0, .int .i64 0, .string ⟨#[]⟩, .int .i64 0, .int .i64 0, .string ⟨#[]⟩] 34))) | skip); (first | (obtain ⟨z1, z2⟩ := row_nine hzz0; have HZZ : Hid _ := hzz0; clear hzz0) | skip)))
          · go_wp2_with fail
            go_meet
            exact ⟨s, x3.heap.size, rfl, rfl, HBX3.out.alloc HBX3.out.size _, heap_alloc_new _ _, hsz⟩
          all_goals
            go_wp2_with fail
            go_meet
            refine ⟨s, _, rfl, rfl, set9_below HBX3.out ?_ _ _ _ _ _ _ _ _ _, set9_row HZZ.out _ _ _ _ _ _ _ _ _, hsz⟩
            first | exact Nat.le_refl _ | exact Below.size (by assumption)
        case rest =>
          obtain ⟨z, gz, rfl, rfl, HBz, HSz, HZ⟩ := hcut
          rename World => w7
          have HI7 : Hid _ := HI6.out.keep HBz.out
          have HSx7 : Hid _ := blk_keep HBz.out HSx6.out
          have HSy7 : Hid _ := blk_keep HBz.out HSy6.out
          have HSk7 : Hid _ := blk_keep HBz.out HSk.out
          have HKA7 : Hid _ := HKAt.out.keep HBz.out
          clear HI6 HBz HSx6 HSy6 HSk HKAt
          have HMG : Hid (z = sx.merge sy ∧ St.unlike sx sy = false) := (by
            have h := merge_of a b k HRa.out HRb.out HK.out.2.2.1 HK.out.2.2.2.2
            rw [HZ.out, HSX.out, HSY.out]
            exact h)
          have HSka : Hid (∀ v ∈ k.vs, v.In) := fun v hv => (by rw [HK.out.2.2.2.2] at hv; rcases List.mem_append.1 hv with h | h; exact HSa.out v h; exact HSb.out v h)
          have hkr : k.rs.length ≤ 4000 := by rw [HK.out.2.2.1]; simp; omega
          have hkv : k.vs.length ≤ 4000 := by rw [HK.out.2.2.2.2]; simp; omega
          have HzIn : Hid (z.In) := (by show St.In _; rw [HZ.out]; exact ofC_in k HSka.out (by omega) (by omega))
          have HxIn : Hid (sx.In) := (by show St.In _; rw [HSX.out]; exact ofC_in a HSa.out (by omega) (by omega))
          have HyIn : Hid (sy.In) := (by show St.In _; rw [HSY.out]; exact ofC_in b HSb.out (by omega) (by omega))
          have hex : sx.e = (a.rs.length : Nat) ∧ sx.u = (a.rs.length : Int) - (a.vs.length : Nat) := by rw [HSX.out]; exact ofC_eu a
          have hey : sy.e = (b.rs.length : Nat) ∧ sy.u = (b.rs.length : Int) - (b.vs.length : Nat) := by rw [HSY.out]; exact ofC_eu b
          have m1 : -4611686018427387904 ≤ sx.e ∧ sx.e ≤ 4611686018427387904 := by rw [hex.1]; omega
          have m2 : -4611686018427387904 ≤ sy.e ∧ sy.e ≤ 4611686018427387904 := by rw [hey.1]; omega
          have m3 : -4611686018427387904 ≤ sx.u ∧ sx.u ≤ 4611686018427387904 := by rw [hex.2]; omega
          have m4 : -4611686018427387904 ≤ sy.u ∧ sy.u < 4611686018427387904 := by rw [hey.2]; omega
          have m5 : sy.e < 4611686018427387904 := by rw [hey.1]; omega
          have hE7 := HE4.out _ HI7.out.old
          have HMc : Hid _ := merge_any sx sy w7 _ _ hE7.2.1 HxIn.out.low HyIn.out.low m1 m2 m3 m4 m5
          clear m1 m2 m3 m4 m5 hex hey hE7
          obtain ⟨⟨s0, s1, s2, s3, s4, s5, s6, s7, s8⟩, _⟩ := st_row HSx7.out
          obtain ⟨⟨r0, r1, r2, r3, r4, r5, r6, r7, r8⟩, _⟩ := st_row HSy7.out
          go_wp2_with fail
          refine Calls.mono HMc.out ?_
          rintro e w8 ⟨⟨m, ev, rfl, hmr⟩, hb8⟩
          obtain ⟨rfl, rfl⟩ : m = z ∧ ev = .nilIface := (by
            rcases hmr with ⟨h, _⟩ | ⟨_, h1, h2⟩
            · rw [HMG.out.2] at h; cases h
            · exact ⟨h1.trans HMG.out.1.symm, h2⟩)
          clear hmr HMc s0 s1 s2 s3 s4 s5 s6 s7 s8 r0 r1 r2 r3 r4 r5 r6 r7 r8
          have HB9 : Hid (Below w7.heap.size w7 (w8.alloc (.cells #[.int .i64 m.e, .int .i64 m.u, .bool m.h, .int .i64 m.mn.k, .int .i64 m.mn.n, .string m.mn.s, .int .i64 m.mx.k, .int .i64 m.mx.n, .string m.mx.s] 34))) := hb8.alloc hb8.size _
          have HI9 : Hid _ := HI7.out.keep HB9.out
          have HSz9 : Hid _ := blk_keep HB9.out HSz.out
          have HSk9 : Hid _ := blk_keep HB9.out HSk7.out
          have HKA9 : Hid _ := HKA7.out.keep HB9.out
          clear hb8 HI7 HSx7 HSy7 HSz HSk7 HKA7
          obtain ⟨⟨s0, s1, s2, s3, s4, s5, s6, s7, s8⟩, _⟩ := st_row HSz9.out
          obtain ⟨y0, y1, y2⟩ := row_three HI9.out.va
          have hE9 := HE4.out _ HI9.out.old
          unfold St.val St.cs
          rcases which how with ⟨i, hi6, rfl⟩ | hn
          rotate_left
          · have HMn : Hid _ := may_none how hn m v _ _ _ hE9.2.2.2
            clear hE9
            go_wp2_with fail
            refine Calls.mono HMn.out ?_
            rintro e w10 ⟨rfl, hb10⟩
            go_wp2
            go_ret
            exact ⟨rfl, (HI9.out.keep hb10).old⟩
          have HMy : Hid _ := may_any i hi6 m v _ _ _ hE9.2.1 HzIn.out hv
          clear hE9
          go_wp2_with fail
          refine Calls.mono HMy.out ?_
          rintro e w10 ⟨⟨bb, ev, rfl, hmy⟩, hb10⟩
          have HI10 : Hid _ := HI9.out.keep hb10
          have HSk10 : Hid _ := blk_keep hb10 HSk9.out
          have HKA10 : Hid _ := HKA9.out.keep hb10
          clear HMy HI9 HSk9 HKA9 hb10 HB9 HSz9 s0 s1 s2 s3 s4 s5 s6 s7 s8 y0 y1 y2
          rcases hmy with ⟨_, rfl, rfl⟩ | ⟨hnb, rfl, _, hgd⟩
          · go_wp2
            go_ret
            exact ⟨rfl, HI10.out.old⟩
          have hRv : Hid (∀ x ∈ k.vs, stdB i x v = true → bb = true) := fun x hx hst => (by
            have hRk : ∀ y ∈ k.vs, Rv kind y := HGk.out.rv HLOk.out
            obtain ⟨eh, ee⟩ := ofC_ends k hRk (List.length_pos_of_mem hx)
            rw [← HZ.out] at eh ee
            unfold myBad at hnb
            rw [eh, Bool.true_and, Bool.or_eq_false_iff] at hnb
            have hkk : m.mn.k = v.k := by simpa using hnb.2
            have hkd := okV_kind (hRk _ ee.mi).1
            have hvk : v.k = kind := by rw [← hkk, hkd]
            have hov : okV v.k v.k v.n v.s.size = true := by simpa using hnb.1
            have hrv : Rv kind v := ⟨by rw [hvk] at hov ⊢; exact hov, hv.2.1.1⟩
            have hgs : GoodS m v := ⟨by rw [hvk]; exact (hRk _ ee.mi).1, by rw [hvk]; exact (hRk _ ee.xi).1, ee.xb _ ee.mi⟩
            rw [hgd eh hgs]
            exact may_true i hi6 m v x k.vs hRk hrv ee hx hst)
          clear hnb hgd HMG HZ HzIn HxIn HyIn HSX HSY HRa HRb HGk
          obtain ⟨kva, hkva⟩ : ∃ x, k.va = x := ⟨_, rfl⟩
          have HLV : Hid (∀ X, Below w10.heap.size w10 X → LiesV X kva k.vs) := fun X hX => (by have h := (HKA10.out.keep hX).v; rw [hkva] at h; exact h)
          have HC3 : Hid (∀ X, Below w10.heap.size w10 X → X.cell? ⟨gk, 3, none⟩ = some (.slice kva k.vs.length k.vc)) := fun X hX => (by have h := (row_four (blk_keep hX HSk10.out)).2.2.2; rw [hkva] at h; exact h)
          have HVA : Hid (∀ X, Below w10.heap.size w10 X → (X.cell? ⟨W.heap.size + 1 + 1 + 1, 0, none⟩ = some (.int .i64 v.k) ∧ X.cell? ⟨W.heap.size + 1 + 1 + 1, 1, none⟩ = some (.int .i64 v.n) ∧ X.cell? ⟨W.heap.size + 1 + 1 + 1, 2, none⟩ = some (.string v.s))) := fun X hX => row_three (blk_keep hX HI10.out.va)
          clear hkva HKA10 HSk10
          have c3 := HC3.out _ (Below.refl _ _)
          go_wp2
          clear c3
          go_loopw [22, 23] (fun y x wr => ∃ n : Nat, n ≤ k.vs.length ∧ x = .int .i64 n ∧ (∃ sm, y = .bool sm ∧ Hid (sm = anyB i (k.vs.take n) v)) ∧ Hid (Below w10.heap.size w10 wr)) (fun _ x _ => k.vs.length - (intOf x).toNat)
          case atStart => exact ⟨0, Nat.zero_le _, rfl, ⟨false, rfl, rfl⟩, Below.refl _ _⟩
          case round =>
            obtain ⟨n, hnl, rfl, ⟨sm, rfl, HSM⟩, HBW⟩ := hrel
            have c3 := HC3.out _ HBW.out
            by_cases hlt : n < k.vs.length
            · obtain ⟨eb, eo, rfl, c0, c1, c2⟩ := HLV.out _ HBW.out n hlt
              have HAs : Hid (anyB i (k.vs.take (n + 1)) v = (sm || stdB i k.vs[n] v)) := (by show _ = _; rw [anyB_succ i k.vs v hlt, HSM.out])
              have HxL : Hid (k.vs[n].Low) := HLOk.out _ (List.getElem_mem _)
              have HEc : Hid (∀ X, Below w10.heap.size w10 X → X.cell? ⟨eb, eo + n * 3, none⟩ = some (.int .i64 k.vs[n].k) ∧ X.cell? ⟨eb, eo + n * 3 + 1, none⟩ = some (.int .i64 k.vs[n].n) ∧ X.cell? ⟨eb, eo + n * 3 + 2, none⟩ = some (.string k.vs[n].s)) := fun X hX => (by
                obtain ⟨b', o', e, h0, h1, h2⟩ := HLV.out X hX n hlt
                obtain ⟨rfl, rfl⟩ : eb = b' ∧ eo = o' := by simpa using e
                exact ⟨h0, h1, h2⟩)
              generalize k.vs[n] = x at *
              obtain ⟨y0, y1, y2⟩ := HVA.out _ HBW.out
              have b0 : Below wr.heap.size wr wr := Below.refl _ _
              have HN : Hid (∀ X, Below wr.heap.size wr X → X.cell? ⟨gk, 3, none⟩ = some (.slice (some ⟨eb, eo, none⟩) k.vs.length k.vc) ∧ (X.cell? ⟨eb, eo + n * 3, none⟩ = some (.int .i64 x.k) ∧ X.cell? ⟨eb, eo + n * 3 + 1, none⟩ = some (.int .i64 x.n) ∧ X.cell? ⟨eb, eo + n * 3 + 2, none⟩ = some (.string x.s)) ∧ (X.cell? ⟨W.heap.size + 1 + 1 + 1, 0, none⟩ = some (.int .i64 v.k) ∧ X.cell? ⟨W.heap.size + 1 + 1 + 1, 1, none⟩ = some (.int .i64 v.n) ∧ X.cell? ⟨W.heap.size + 1 + 1 + 1, 2, none⟩ = some (.string v.s)) ∧ Below wr.heap.size wr X) := fun X hX => (by
                have hB := HBW.out.trans (hX.mono HBW.out.size)
                exact ⟨HC3.out X hB, HEc.out X hB, HVA.out X hB, hX⟩)
              have HSt : Hid (∀ X, Below wr.heap.size wr X → Calls Tryd.prog 6 #[.agg #[.int .i64 x.k, .int .i64 x.n, .string x.s], .string (stdT i), .agg #[.int .i64 v.k, .int .i64 v.n, .string v.s]] X fun e w' => e = .returned (.tuple #[.bool (stdB i x v), .bool true]) ∧ Below wr.heap.size wr w') := fun X hX => (standsOf_any i hi6 x v X HxL.out hv.2.1.1).mono fun _ _ h => ⟨h.1, bel_next hX (Nat.le_refl _) h.2⟩
              obtain ⟨sb, HSB⟩ : ∃ b, Hid (stdB i x v = b) := ⟨_, rfl⟩
              rw [HSB.out] at HSt HAs
              go_wp2_with fail
              go_region_held3 (fun X => X.cell? ⟨gk, 3, none⟩ = some (.slice (some ⟨eb, eo, none⟩) k.vs.length k.vc) ∧ (X.cell? ⟨eb, eo + n * 3, none⟩ = some (.int .i64 x.k) ∧ X.cell? ⟨eb, eo + n * 3 + 1, none⟩ = some (.int .i64 x.n) ∧ X.cell? ⟨eb, eo + n * 3 + 2, none⟩ = some (.string x.s)) ∧ (X.cell? ⟨W.heap.size + 1 + 1 + 1, 0, none⟩ = some (.int .i64 v.k) ∧ X.cell? ⟨W.heap.size + 1 + 1 + 1, 1, none⟩ = some (.int .i64 v.n) ∧ X.cell? ⟨W.heap.size + 1 + 1 + 1, 2, none⟩ = some (.string v.s)) ∧ Below wr.heap.size wr X) (with_reducible refine HN.out _ ?_; repeat' (first | with_reducible assumption | with_reducible exact b0.drew | with_reducible exact b0 | with_reducible refine Below.drew ?_ | with_reducible exact Nat.le_refl _ | with_reducible refine Below.setCell ?_ ?_ _ | with_reducible refine Below.alloc ?_ ?_ _ | with_reducible exact Below.size (by assumption) | (simp; done) | (simp; omega) | omega)) (first | (go_at_call 6; (with_reducible refine Calls.mono (HSt.out _ ?_) ?_); (repeat' (first | with_reducible assumption | with_reducible exact b0.drew | with_reducible exact b0 | with_reducible refine Below.drew ?_ | with_reducible refine Below.alloc ?_ ?_ _ | with_reducible exact Below.size (by assumption) | with_reducible exact Nat.le_refl _ | (simp; done) | (simp; omega))); rintro e x1 ⟨rfl, hbx1⟩))
              all_goals
                have HBn : Hid (Below w10.heap.size w10 x1) := HBW.out.trans (hbx1.mono HBW.out.size)
                cases sm
                · go_wp2
                  go_roundw
                  case rel => exact ⟨n + 1, by omega, by go_num, ⟨sb, rfl, by rw [HAs.out]; rfl⟩, HBn⟩
                  case measure => simp [intOf]; omega
                · go_wp2
                  go_roundw
                  case rel => exact ⟨n + 1, by omega, by go_num, ⟨true, rfl, by rw [HAs.out]; rfl⟩, HBn⟩
                  case measure => simp [intOf]; omega
            · obtain rfl : n = k.vs.length := by omega
              have HE2 : Hid (bb = false → sm = false) := fun hb => (by
                have h := HSM.out
                rw [List.take_length] at h
                cases hs : sm
                · rfl
                · rw [hs] at h
                  unfold anyB at h
                  obtain ⟨x, hx, hst⟩ := List.any_eq_true.1 h.symm
                  rw [hRv.out x hx hst] at hb
                  cases hb)
              have HOld : Hid (Below W.heap.size W wr) := HI10.out.old.trans (HBW.out.mono HI10.out.old.size)
              cases bb
              · obtain rfl := HE2.out rfl
                go_wp2
                go_ret
                exact ⟨rfl, HOld.out⟩
              · go_wp2
                go_ret
                exact ⟨rfl, HOld.out⟩
end Go.Proofs.YthlnjnoeaicjjaaDoor
