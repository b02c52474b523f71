/-
  The walk of the law StatsOf.
  StatsOf, for whatever leaf and column.
-/
import Derived.Test.YtkcobccmifkjcaaDoorBStRf
import Derived.Test.YtkcobccmifkjcaaDoorBBStMg
import Derived.Test.YtkcobccmifkjcaaDoorBBOpenColB
import Derived.Test.YtkcobccmifkjcaaDoorBBOpenCol
import Derived.Test.YtkcobccmifkjcaaDoorBColI
import Derived.Test.YtkcobccmifkjcaaDoorBRefErr
import Derived.Test.YtkcobccmifkjcaaDoorRows
namespace Go.Proofs.YtkcobccmifkjcaaDoor
open Go.RowKit
theorem OfR.same {N : Nat} {lid kind mr md : Int} {c k : Cl} {sv kv : Value} {s : St} {ev : Value} {w : World} (hs : SameC c k) (h : OfR N lid kind mr md k sv kv s ev w) : OfR N lid kind mr md c sv kv s ev w := by
  obtain ⟨cid, cra, crs, crc, cda, cds, cdc, cva, cvs, cvc⟩ := c
  obtain ⟨kid, kra, krs, krc, kda, kds, kdc, kva, kvs, kvc⟩ := k
  have e1 : kid = cid := hs.id
  have e2 : krs = crs := hs.rs
  have e3 : kds = cds := hs.ds
  have e4 : kvs = cvs := hs.vs
  subst e1 e2 e3 e4
  exact h
theorem OfR.off {N : Nat} {lid kind mr md : Int} {c : Cl} {sv kv : Value} {s : St} {ev : Value} {w : World} (h : OfR N lid kind mr md c sv kv s ev w) {g j : Nat} {v : Value} (hg : g < N) : OfR N lid kind mr md c sv kv s ev (w.setCell ⟨g, j, none⟩ v) := by
  rcases h with h | ⟨h0, p, hp, h1, h2, q, h3, h4, h5, h6, h7⟩ | h
  · exact .inl h
  · exact .inr (.inl ⟨h0, p, hp, h1, h2, q, h3, h4, h5, by rw [cell_off (by omega)]; exact h6, by rw [cell_off (by omega)]; exact h7⟩)
  · exact .inr (.inr h)
theorem OfR.off9 {N : Nat} {lid kind mr md : Int} {c : Cl} {sv kv : Value} {s : St} {ev : Value} {w : World} (h : OfR N lid kind mr md c sv kv s ev w) {g : Nat} (hg : g < N) (y0 y1 y2 y3 y4 y5 y6 y7 y8 : Value) : OfR N lid kind mr md c sv kv s ev (set9 w g y0 y1 y2 y3 y4 y5 y6 y7 y8) :=
  ((((((((h.off hg).off hg).off hg).off hg).off hg).off hg).off hg).off hg).off hg
theorem OfR.keep {N : Nat} {lid kind mr md : Int} {c : Cl} {sv kv : Value} {s : St} {ev : Value} {w w' : World} (h : OfR N lid kind mr md c sv kv s ev w) (hb : Below w.heap.size w w') : OfR N lid kind mr md c sv kv s ev w' := by
  rcases h with h | ⟨h0, p, hp, h1, h2, q, h3, h4, h5, h6, h7⟩ | h
  · exact .inl h
  · exact .inr (.inl ⟨h0, p, hp, h1, h2, q, h3, h4, h5, (hb.cell (World.block_lt_of_cell? w _ h6)).trans h6, (hb.cell (World.block_lt_of_cell? w _ h7)).trans h7⟩)
  · exact .inr (.inr h)
theorem OfR.offz {N : Nat} {lid kind mr md : Int} {c : Cl} {sv : Value} {s : St} {ev : Value} {w : World} {t : TypeId} {p : Value} (h : OfR N lid kind mr md c sv (.iface t p) s ev w) {g : Nat} {T : TypeId} (hz : w.heap[g]? = some (.cells #[.int .i64 0, .int .i64 0, .bool false, .int .i64 0, .int .i64 0, .string ⟨#[]⟩, .int .i64 0, .int .i64 0, .string ⟨#[]⟩] T (0, 0))) (y0 y1 y2 y3 y4 y5 y6 y7 y8 : Value) : OfR N lid kind mr md c sv (.iface t p) s ev (set9 w g y0 y1 y2 y3 y4 y5 y6 y7 y8) := by
  rcases h with h | ⟨h0, p, hp, h1, h2, q, h3, h4, h5, h6, h7⟩ | h
  · exact .inl h
  · have hne : q ≠ g := fun e => by
      subst e
      rw [(row_nine hz).1.2.1] at h7
      cases h7
    have hoff : ∀ (X : World) (o j : Nat) (v : Value), (X.setCell ⟨g, j, none⟩ v).cell? ⟨q, o, none⟩ = X.cell? ⟨q, o, none⟩ := fun X o j v => cell_off hne
    refine .inr (.inl ⟨h0, p, hp, h1, h2, q, h3, h4, h5, ?_, ?_⟩) <;> unfold set9 <;> rw [hoff, hoff, hoff, hoff, hoff, hoff, hoff, hoff, hoff]
    · exact h6
    · exact h7
  · exact .inr (.inr h)
/-- What the law's boxes hold. -/
structure LsI (W : World) (lid kind mr md : Int) (pa : Option Addr) (pn pc : Nat) (c : Cl) (X : World) : Prop where
  lf : X.heap[W.heap.size]? = some (.cells #[.int .i64 lid, .int .i64 kind, .int .i64 mr, .int .i64 md, .slice pa pn pc] 24 (0, 0))
  co : X.heap[W.heap.size + 1]? = some (.cells #[.int .i64 c.id, .slice c.ra c.rs.length c.rc, .slice c.da c.ds.length c.dc, .slice c.va c.vs.length c.vc] 27 (0, 0))
  old : Below W.heap.size W X
theorem LsI.keep {W : World} {lid kind mr md : Int} {pa : Option Addr} {pn pc : Nat} {c : Cl} {X w' : World} (h : LsI W lid kind mr md pa pn pc c X) (hb : Below X.heap.size X w') : LsI W lid kind mr md pa pn pc c w' :=
  ⟨blk_keep hb h.lf, blk_keep hb h.co, h.old.trans (hb.mono h.old.size)⟩
/-- Both answers. -/
def BoR (A : Nat → Addr) (c : Cl) (ec ea : Int) (s : St) (ev : Value) (w : World) : Prop :=
  (ec = 3 ∧ ea = -1 ∧ s = St.zero ∧ ev = errV (A 2)) ∨ (∃ p q : Nat, ec = 4 ∧ ea = p ∧ s = St.zero ∧ ev = .iface 87 (.pointer (some ⟨q, 0, none⟩)) ∧ w.cell? ⟨q, 0, none⟩ = some (.int .i64 p) ∧ w.cell? ⟨q, 1, none⟩ = some (errV (A 3))) ∨ (ec = 0 ∧ s = ofC c ∧ ev = .nilIface)
theorem firstT {α : Type} {P : α → Bool} {vs : List α} {p q : Nat} (hp : p < vs.length) (hq : q < vs.length) (h1 : P vs[p] = true) (h2 : P vs[q] = true) (f1 : ∀ j (h : j < vs.length), j < p → P vs[j] = false) (f2 : ∀ j (h : j < vs.length), j < q → P vs[j] = false) : p = q := by
  rcases Nat.lt_trichotomy p q with h | h | h
  · rw [f2 p hp h] at h1; cases h1
  · exact h
  · rw [f1 q hq h] at h2; cases h2
theorem both {A : Nat → Addr} {N : Nat} {lid kind mr md : Int} {c : Cl} {s : St} {ev : Value} {ec ea : Int} {w : World} (h1 : ColErr lid kind mr md c.id c.rs c.ds c.vs ec ea) (h2 : OfR N lid kind mr md c (errV (A 2)) (errV (A 3)) s ev w) : BoR A c ec ea s ev w := by
  rcases h1 with ⟨e1, e2, hf⟩ | ⟨hf, ⟨e1, e2, hg⟩ | ⟨p, hp, e1, e2, hb, hfi⟩⟩
  · rcases h2 with ⟨_, h3, h4⟩ | ⟨h, _⟩ | ⟨h, _⟩
    · exact .inl ⟨e1, e2, h3, h4⟩
    · rw [hf] at h; cases h
    · have := h.1; rw [hf] at this; cases this
  · rcases h2 with ⟨h, _⟩ | ⟨_, p, hp, h, _⟩ | ⟨_, h3, h4⟩
    · rw [hf] at h; cases h
    · rw [hg p hp] at h; cases h
    · exact .inr (.inr ⟨e1, h4, h3⟩)
  · rcases h2 with ⟨h, _⟩ | ⟨_, p2, hp2, hb2, hf2, q, _, h3, h4, h5, h6⟩ | ⟨h, _⟩
    · rw [hf] at h; cases h
    · obtain rfl := firstT hp hp2 hb hb2 hfi hf2
      exact .inr (.inl ⟨p, q, e1, e2, h3, h4, h5, h6⟩)
    · have := h.2 p hp; rw [hb] at this; cases this
set_option maxRecDepth 100000 in
set_option maxHeartbeats 12800000 in
theorem statsOf_walk (lid kind mr md : Int) (pa : Option Addr) (pc : Nat) (ps : List Int) (c : Cl) (W : World) (A : Nat → Addr) (hE : Errs W A) (hp : Lies W pa (i64s ps)) (hat : c.At W) (hlo : ∀ v ∈ c.vs, v.Low) (hcb : c.bulk ≤ 1048576) :
    Calls Tryd.prog 3 #[.agg #[.int .i64 lid, .int .i64 kind, .int .i64 mr, .int .i64 md, .slice pa ps.length pc], .agg #[.int .i64 c.id, .slice c.ra c.rs.length c.rc, .slice c.da c.ds.length c.dc, .slice c.va c.vs.length c.vc]] W fun e w' => e = .returned (.bool true) ∧ Below W.heap.size W w' := by
  obtain ⟨pn, hpn⟩ : ∃ pn, ps.length = pn := ⟨_, rfl⟩
  have HPN : Hid _ := hpn
  rw [hpn]
  clear hpn
  obtain ⟨w0, HW0, HX, HY, HB⟩ := two_boxes W #[.int .i64 lid, .int .i64 kind, .int .i64 mr, .int .i64 md, .slice pa pn pc] #[.int .i64 c.id, .slice c.ra c.rs.length c.rc, .slice c.da c.ds.length c.dc, .slice c.va c.vs.length c.vc] 24 27
  have HI0 : Hid (LsI W lid kind mr md pa pn pc c w0) := ⟨HX.out, HY.out, HB.out⟩
  have HA0 : Hid (∀ X, Below W.heap.size W X → Errs X A) := fun X hX => hE.keep hX
  have HP : Hid (∀ X, Below W.heap.size W X → Lies X pa (i64s ps)) := fun X hX => hp.keep hX
  have HAT : Hid (∀ X, Below W.heap.size W X → c.At X) := fun X hX => hat.keep hX
  have HLO : Hid _ := hlo
  clear HX HY HB hE hp hat hlo
  go_enter Tryd.func3, Tryd.ntmps3
  go_wp2_with fail
  rw [HW0.out]
  clear HW0
  have hE0 := HA0.out _ HI0.out.old
  refine (two_any w0 _ _ _ _ _ _ (ecT hE0 2 (by omega)) (ecT hE0 3 (by omega)) (ecT hE0 1 (by omega))).mono ?_
  clear hE0
  rintro e w1 ⟨rfl, hb1⟩
  have HI1 : Hid _ := HI0.out.keep hb1
  clear HI0 hb1
  obtain ⟨⟨p0, p1, p2, p3, p4⟩, _⟩ := row_five HI1.out.lf
  obtain ⟨k0, k1, k2, k3⟩ := row_four HI1.out.co
  go_wp2_with fail
  refine (slim3_any lid kind mr md pa pn pc c hcb w1 (HAT.out _ HI1.out.old)).mono ?_
  obtain ⟨b, HBo⟩ : ∃ b, Hid (slimB c pn = b) := ⟨_, rfl⟩
  rw [HBo.out]
  rintro e w2 ⟨rfl, hb2⟩
  have HI2 : Hid _ := HI1.out.keep hb2
  clear HI1 hb2 p0 p1 p2 p3 p4 k0 k1 k2 k3
  obtain ⟨⟨p0, p1, p2, p3, p4⟩, _⟩ := row_five HI2.out.lf
  obtain ⟨k0, k1, k2, k3⟩ := row_four HI2.out.co
  cases b
  · go_wp2
    go_ret
    exact ⟨rfl, HI2.out.old⟩
  have hsl : c.bulk ≤ 2000 ∧ pn ≤ 100 := by have h := HBo.out; unfold slimB at h; simpa using h
  have hsv := sumV_len c.vs
  have hrs : c.rs.length ≤ 2000 := by have := hsl.1; unfold Cl.bulk at this; omega
  have hds : c.ds.length ≤ 2000 := by have := hsl.1; unfold Cl.bulk at this; omega
  have hvs : c.vs.length ≤ 2000 := by have := hsl.1; unfold Cl.bulk at this; omega
  have hpn : pn ≤ 100 := hsl.2
  clear hsl hsv hcb HBo
  go_wp2_with fail
  refine (columnError_any lid kind mr md c.id pa c.ra c.da c.va pn pc c.rc c.dc c.vc c.rs c.ds c.vs w2 (by omega) (by omega) (HAT.out _ HI2.out.old).r (HAT.out _ HI2.out.old).d (HAT.out _ HI2.out.old).v).mono ?_
  rintro e w3 ⟨⟨ec, ea, rfl, hce⟩, hb3⟩
  have HCE : Hid _ := hce
  have HI3 : Hid (LsI W lid kind mr md pa pn pc c (w3.alloc (.cells (rfl2 ec ea) 31))) := (HI2.out.keep hb3).keep ((Below.refl _ _).alloc (Nat.le_refl _) _)
  have HFE : Hid _ := heap_alloc_new w3 (.cells (rfl2 ec ea) 31)
  clear hce hb3 HI2 p0 p1 p2 p3 p4 k0 k1 k2 k3
  obtain ⟨E, HEE⟩ : ∃ E, Hid (w3.heap.size = E) := ⟨_, rfl⟩
  go_upto_region 5 with fail
  obtain ⟨wq, HWq⟩ : ∃ w, Hid (w3.alloc (.cells (rfl2 ec ea) 31) = w) := ⟨_, rfl⟩
  rw [HWq.out] at HI3
  rw [HWq.out, HEE.out] at HFE
  rw [HWq.out, HEE.out]
  clear HWq HEE
  obtain ⟨⟨p0, p1, p2, p3, p4⟩, _⟩ := row_five HI3.out.lf
  obtain ⟨k0, k1, k2, k3⟩ := row_four HI3.out.co
  go_cut [7, 8] (fun x y wx => ∃ (s : St) (g : Nat), x = .pointer (some ⟨g, 0, none⟩) ∧ Hid (Below wq.heap.size wq wx) ∧ Hid (wx.heap[g]? = some (.cells s.cs 36 (0, 0))) ∧ Hid (BoR A c ec ea s y wx))
  case first =>
    have b0 : Below wq.heap.size wq wq := Below.refl _ _
    have HN : Hid (∀ X, Below wq.heap.size wq X → (X.cell? ⟨W.heap.size, 0, none⟩ = some (.int .i64 lid) ∧ X.cell? ⟨W.heap.size, 1, none⟩ = some (.int .i64 kind) ∧ X.cell? ⟨W.heap.size, 2, none⟩ = some (.int .i64 mr) ∧ X.cell? ⟨W.heap.size, 3, none⟩ = some (.int .i64 md) ∧ X.cell? ⟨W.heap.size, 4, none⟩ = some (.slice pa pn pc)) ∧ (X.cell? ⟨W.heap.size + 1, 0, none⟩ = some (.int .i64 c.id) ∧ X.cell? ⟨W.heap.size + 1, 1, none⟩ = some (.slice c.ra c.rs.length c.rc) ∧ X.cell? ⟨W.heap.size + 1, 2, none⟩ = some (.slice c.da c.ds.length c.dc) ∧ X.cell? ⟨W.heap.size + 1, 3, none⟩ = some (.slice c.va c.vs.length c.vc)) ∧ Below wq.heap.size wq X) := fun X hX => ⟨(row_five (blk_keep hX HI3.out.lf)).1, row_four (blk_keep hX HI3.out.co), hX⟩
    have HO1 : Hid (∀ X, Below wq.heap.size wq X → Calls Tryd.prog 11 #[.agg #[.int .i64 lid, .int .i64 kind, .int .i64 mr, .int .i64 md, .slice pa pn pc]] X fun e w' => (∃ pa' pc', e = .returned (.agg #[.int .i64 lid, .int .i64 kind, .int .i64 mr, .int .i64 md, .slice pa' pn pc'])) ∧ Below wq.heap.size wq w' ∧ Below X.heap.size X w') := fun X hX => (by
      have h := ownLeaf_any lid kind mr md pa pc ps X (by rw [HPN.out]; omega) (HP.out _ (HI3.out.keep hX).old)
      rw [HPN.out] at h
      exact h.mono fun e w' h => ⟨(by obtain ⟨⟨pa', pc', h1, _⟩, _⟩ := h; exact ⟨pa', pc', h1⟩), bel_next hX (Nat.le_refl _) h.2, h.2⟩)
    have HO2 : Hid (∀ X, Below wq.heap.size wq X → Calls Tryd.prog 12 #[.agg #[.int .i64 c.id, .slice c.ra c.rs.length c.rc, .slice c.da c.ds.length c.dc, .slice c.va c.vs.length c.vc]] X fun e w' => (∃ k0 : Cl, e = .returned (.agg #[.int .i64 k0.id, .slice k0.ra k0.rs.length k0.rc, .slice k0.da k0.ds.length k0.dc, .slice k0.va k0.vs.length k0.vc]) ∧ k0.At w' ∧ SameC c k0) ∧ Below wq.heap.size wq w' ∧ Below X.heap.size X w') := fun X hX => (ownColumn_cl c X (by omega) (by omega) (by omega) (HAT.out _ (HI3.out.keep hX).old)).mono fun e w' h => ⟨(by obtain ⟨⟨k, h1, h2, _, h3⟩, _⟩ := h; exact ⟨k, h1, h2, h3⟩), bel_next hX (Nat.le_refl _) h.2, h.2⟩
    have HO3 : Hid (∀ X (k0 : Cl) pa' pc', Below wq.heap.size wq X → k0.At X → SameC c k0 → Calls Tryd.prog 10 #[.agg #[.int .i64 lid, .int .i64 kind, .int .i64 mr, .int .i64 md, .slice pa' pn pc'], .agg #[.int .i64 k0.id, .slice k0.ra k0.rs.length k0.rc, .slice k0.da k0.ds.length k0.dc, .slice k0.va k0.vs.length k0.vc]] X fun e w' => (∃ (s : St) (ev : Value), e = .returned (.tuple #[.agg #[.int .i64 s.e, .int .i64 s.u, .bool s.h, .int .i64 s.mn.k, .int .i64 s.mn.n, .string s.mn.s, .int .i64 s.mx.k, .int .i64 s.mx.n, .string s.mx.s], ev]) ∧ OfR X.heap.size lid kind mr md c (errV (A 2)) (errV (A 3)) s ev w') ∧ Below wq.heap.size wq w' ∧ Below X.heap.size X w') := fun X k0 pa' pc' hX ka ks => (by
      have hEX := HA0.out _ (HI3.out.keep hX).old
      refine (of_any lid kind mr md pa' pn pc' k0 X _ _ _ _ _ _ (by rw [ks.rs]; omega) (by rw [ks.ds]; omega) (by rw [ks.vs]; omega) ks.cap.1 ks.cap.2.1 ks.cap.2.2 (ecT hEX 2 (by omega)) (ecT hEX 3 (by omega)) (ecT hEX 1 (by omega)) ka (by rw [ks.vs]; exact HLO.out)).mono fun e w' h => ⟨?_, bel_next hX (Nat.le_refl _) h.2, h.2⟩
      obtain ⟨⟨s, ev, h1, h2⟩, _⟩ := h
      exact ⟨s, ev, h1, h2.same ks⟩)
    go_region_held3 (fun X => (X.cell? ⟨W.heap.size, 0, none⟩ = some (.int .i64 lid) ∧ X.cell? ⟨W.heap.size, 1, none⟩ = some (.int .i64 kind) ∧ X.cell? ⟨W.heap.size, 2, none⟩ = some (.int .i64 mr) ∧ X.cell? ⟨W.heap.size, 3, none⟩ = some (.int .i64 md) ∧ X.cell? ⟨W.heap.size, 4, none⟩ = some (.slice pa pn pc)) ∧ (X.cell? ⟨W.heap.size + 1, 0, none⟩ = some (.int .i64 c.id) ∧ X.cell? ⟨W.heap.size + 1, 1, none⟩ = some (.slice c.ra c.rs.length c.rc) ∧ X.cell? ⟨W.heap.size + 1, 2, none⟩ = some (.slice c.da c.ds.length c.dc) ∧ X.cell? ⟨W.heap.size + 1, 3, none⟩ = some (.slice c.va c.vs.length c.vc)) ∧ Below wq.heap.size wq X) (with_reducible refine HN.out _ ?_; repeat' (first | with_reducible assumption | with_reducible exact b0.drew | with_reducible exact b0 | with_reducible refine Below.drew ?_ | with_reducible exact Nat.le_refl _ | with_reducible refine Below.setCell ?_ ?_ _ | with_reducible refine Below.alloc ?_ ?_ _ | with_reducible exact Below.size (by assumption) | (simp; done) | (simp; omega) | omega)) (first
      | (go_at_call 11; (with_reducible refine Calls.mono (HO1.out _ ?_) ?_); (repeat' (first | with_reducible assumption | with_reducible exact b0.drew | with_reducible exact b0 | with_reducible refine Below.drew ?_ | with_reducible refine Below.alloc ?_ ?_ _ | with_reducible exact Below.size (by assumption) | with_reducible exact Nat.le_refl _)); rintro e x1 ⟨⟨pa', pc', rfl⟩, hbx1, hraw1⟩; (first | (have HK1 : Hid (k0.At x1) := Cl.At.keep (Hid.out HK0) hraw1; clear HK0; have HK0 : Hid (k0.At x1) := HK1; clear HK1) | skip); (first | (have hzz := blk_keep hraw1 hzz0; clear hzz0; have hzz0 := hzz; clear hzz) | (have hzz0 := blk_keep hraw1 (blk_drew (heap_alloc_new _ (.cells #[.int .i64 0, .int .i64 0, .bool false, .int .i64 0, .int .i64 0, .string ⟨#[]⟩, .int .i64 0, .int .i64 0, .string ⟨#[]⟩] 36)))) | (have hzz0 := blk_keep hraw1 (heap_alloc_new _ (.cells #[.int .i64 0, .int .i64 0, .bool false, .int .i64 0, .int .i64 0, .string ⟨#[]⟩, .int .i64 0, .int .i64 0, .string ⟨#[]⟩] 36))) | skip))
      | (go_at_call 12; (with_reducible refine Calls.mono (HO2.out _ ?_) ?_); (repeat' (first | with_reducible assumption | with_reducible exact b0.drew | with_reducible exact b0 | with_reducible refine Below.drew ?_ | with_reducible refine Below.alloc ?_ ?_ _ | with_reducible exact Below.size (by assumption) | with_reducible exact Nat.le_refl _)); rintro e x2 ⟨⟨k0, rfl, ka0, ks0⟩, hbx2, hraw2⟩; have HK0 : Hid (k0.At x2) := ka0; have HKS0 : Hid _ := ks0; clear ka0 ks0; (first | (have hzz := blk_keep hraw2 hzz0; clear hzz0; have hzz0 := hzz; clear hzz) | (have hzz0 := blk_keep hraw2 (blk_drew (heap_alloc_new _ (.cells #[.int .i64 0, .int .i64 0, .bool false, .int .i64 0, .int .i64 0, .string ⟨#[]⟩, .int .i64 0, .int .i64 0, .string ⟨#[]⟩] 36)))) | (have hzz0 := blk_keep hraw2 (heap_alloc_new _ (.cells #[.int .i64 0, .int .i64 0, .bool false, .int .i64 0, .int .i64 0, .string ⟨#[]⟩, .int .i64 0, .int .i64 0, .string ⟨#[]⟩] 36))) | skip))
      | (go_at_call 10; (with_reducible refine Calls.mono (HO3.out _ k0 pa' pc' ?_ ?_ ?_) ?_); (repeat' (first | with_reducible assumption | with_reducible exact b0.drew | with_reducible exact b0 | with_reducible refine Below.drew ?_ | with_reducible refine Below.alloc ?_ ?_ _ | with_reducible exact Below.size (by assumption) | with_reducible exact Nat.le_refl _)); (first | exact HK0.out | exact HK0.out.keep (((Below.refl _ _).alloc (Nat.le_refl _) _).drew) | exact HK0.out.keep ((Below.refl _ _).alloc (Nat.le_refl _) _)); exact HKS0.out; rintro e x3 ⟨⟨s, ev, rfl, hor⟩, hbx3, hraw3⟩; have HOR : Hid (OfR _ lid kind mr md c (errV (A 2)) (errV (A 3)) s ev x3) := hor; have HBX3 : Hid _ := hbx3; clear hor; (first | (have hzz := blk_keep hraw3 hzz0; clear hzz0; have hzz0 := hzz; clear hzz) | (have hzz0 := blk_keep hraw3 (blk_drew (heap_alloc_new _ (.cells #[.int .i64 0, .int .i64 0, .bool false, .int .i64 0, .int .i64 0, .string ⟨#[]⟩, .int .i64 0, .int .i64 0, .string ⟨#[]⟩] 36)))) | (have hzz0 := blk_keep hraw3 (heap_alloc_new _ (.cells #[.int .i64 0, .int .i64 0, .bool false, .int .i64 0, .int .i64 0, .string ⟨#[]⟩, .int .i64 0, .int .i64 0, .string ⟨#[]⟩] 36))) | skip); (first | (obtain ⟨z1, z2⟩ := row_nine hzz0; have HZZ : Hid _ := hzz0; clear hzz0) | skip)))
    · go_wp2_with fail
      go_meet
      exact ⟨s, x3.heap.size, rfl, HBX3.out.alloc HBX3.out.size _, heap_alloc_new _ _, both HCE.out (HOR.out.keep ((Below.refl _ _).alloc (Nat.le_refl _) _))⟩
    all_goals
      go_wp2_with fail
      go_meet
      exact ⟨s, _, rfl, set9_below HBX3.out (by first | exact Nat.le_refl _ | exact Below.size (by assumption)) _ _ _ _ _ _ _ _ _, set9_row HZZ.out _ _ _ _ _ _ _ _ _, both HCE.out (HOR.out.offz HZZ.out _ _ _ _ _ _ _ _ _)⟩
  case rest =>
    obtain ⟨s, g, rfl, HBw, HS, HBR⟩ := hcut
    rename World => wx
    rename Value => ev
    have HI : Hid _ := HI3.out.keep HBw.out
    have HFx : Hid _ := blk_keep HBw.out HFE.out
    clear HI3 HFE HBw p0 p1 p2 p3 p4 k0 k1 k2 k3
    obtain ⟨⟨e0, e1⟩, e2, e3⟩ := row_two HFx.out
    rcases HBR.out with ⟨rfl, rfl, rfl, rfl⟩ | ⟨p, q, rfl, rfl, rfl, rfl, h5, h6⟩ | ⟨rfl, h2, rfl⟩
    · have HSZ : Hid (wx.heap[g]? = some (.cells #[.int .i64 0, .int .i64 0, .bool false, .int .i64 0, .int .i64 0, .string ⟨#[]⟩, .int .i64 0, .int .i64 0, .string ⟨#[]⟩] 36 (0, 0))) := HS.out
      clear HS HBR
      go_wp2_with fail
      refine (faulted_sent wx A (HA0.out _ HI.out.old) 2 (by omega) 3 (by omega)).mono ?_
      rintro e w5 ⟨rfl, hb5⟩
      have HI5 : Hid _ := HI.out.keep hb5
      have HS5 : Hid _ := blk_keep hb5 HSZ.out
      clear hb5 e0 e1 e2 e3
      obtain ⟨⟨x0, x1, x2, x3, x4, x5, x6, x7, x8⟩, _⟩ := row_nine HS5.out
      go_wp2
      go_ret
      exact ⟨rfl, HI5.out.old⟩
    · have HSZ : Hid (wx.heap[g]? = some (.cells #[.int .i64 0, .int .i64 0, .bool false, .int .i64 0, .int .i64 0, .string ⟨#[]⟩, .int .i64 0, .int .i64 0, .string ⟨#[]⟩] 36 (0, 0))) := HS.out
      have H5 : Hid _ := h5
      have H6 : Hid _ := h6
      clear HS HBR h5 h6
      go_wp2_with fail
      refine (faulted_fault wx A (HA0.out _ HI.out.old) 3 q (by omega) p H5.out H6.out 4 (by omega)).mono ?_
      rintro e w5 ⟨rfl, hb5⟩
      have HI5 : Hid _ := HI.out.keep hb5
      have HS5 : Hid _ := blk_keep hb5 HSZ.out
      clear hb5 e0 e1 e2 e3
      obtain ⟨⟨x0, x1, x2, x3, x4, x5, x6, x7, x8⟩, _⟩ := row_nine HS5.out
      go_wp2
      go_ret
      exact ⟨rfl, HI5.out.old⟩
    · have HOC : Hid (s = ofC c) := h2
      clear HBR h2
      go_wp2_with fail
      have b0 : Below wx.heap.size wx wx := Below.refl _ _
      have HN : Hid (∀ X, Below wx.heap.size wx X → (X.cell? ⟨g, 0, none⟩ = some (.int .i64 s.e) ∧ X.cell? ⟨g, 1, none⟩ = some (.int .i64 s.u) ∧ X.cell? ⟨g, 2, none⟩ = some (.bool s.h) ∧ X.cell? ⟨g, 3, none⟩ = some (.int .i64 s.mn.k) ∧ X.cell? ⟨g, 4, none⟩ = some (.int .i64 s.mn.n) ∧ X.cell? ⟨g, 5, none⟩ = some (.string s.mn.s) ∧ X.cell? ⟨g, 6, none⟩ = some (.int .i64 s.mx.k) ∧ X.cell? ⟨g, 7, none⟩ = some (.int .i64 s.mx.n) ∧ X.cell? ⟨g, 8, none⟩ = some (.string s.mx.s)) ∧ (X.cell? ⟨W.heap.size + 1, 0, none⟩ = some (.int .i64 c.id) ∧ X.cell? ⟨W.heap.size + 1, 1, none⟩ = some (.slice c.ra c.rs.length c.rc) ∧ X.cell? ⟨W.heap.size + 1, 2, none⟩ = some (.slice c.da c.ds.length c.dc) ∧ X.cell? ⟨W.heap.size + 1, 3, none⟩ = some (.slice c.va c.vs.length c.vc)) ∧ Below wx.heap.size wx X) := fun X hX => ⟨(st_row (blk_keep hX HS.out)).1, row_four (blk_keep hX HI.out.co), hX⟩
      have HOR : Hid (∀ X, Below wx.heap.size wx X → Calls Tryd.prog 15 #[.agg #[.int .i64 c.id, .slice c.ra c.rs.length c.rc, .slice c.da c.ds.length c.dc, .slice c.va c.vs.length c.vc]] X fun e w' => e = .returned (.agg #[.int .i64 s.e, .int .i64 s.u, .bool s.h, .int .i64 s.mn.k, .int .i64 s.mn.n, .string s.mn.s, .int .i64 s.mx.k, .int .i64 s.mx.n, .string s.mx.s]) ∧ Below wx.heap.size wx w') := fun X hX => (by
        have h := statsOfR_any c X (by omega) (by omega) (HAT.out _ (HI.out.keep hX).old) HLO.out
        rw [← HOC.out] at h
        exact h.mono fun _ _ h => ⟨h.1, bel_next hX (Nat.le_refl _) h.2⟩)
      have HOL : Hid (∀ X, Below wx.heap.size wx X → Calls Tryd.prog 14 #[.agg #[.int .i64 s.e, .int .i64 s.u, .bool s.h, .int .i64 s.mn.k, .int .i64 s.mn.n, .string s.mn.s, .int .i64 s.mx.k, .int .i64 s.mx.n, .string s.mx.s]] X fun e w' => e = .returned (.agg #[.int .i64 s.e, .int .i64 s.u, .bool s.h, .int .i64 s.mn.k, .int .i64 s.mn.n, .string s.mn.s, .int .i64 s.mx.k, .int .i64 s.mx.n, .string s.mx.s]) ∧ Below wx.heap.size wx w') := fun X hX => (statsOfL_any s X).mono fun _ _ h => ⟨h.1, bel_next hX (Nat.le_refl _) h.2⟩
      clear e0 e1 e2 e3
      go_region_held3 (fun X => (X.cell? ⟨g, 0, none⟩ = some (.int .i64 s.e) ∧ X.cell? ⟨g, 1, none⟩ = some (.int .i64 s.u) ∧ X.cell? ⟨g, 2, none⟩ = some (.bool s.h) ∧ X.cell? ⟨g, 3, none⟩ = some (.int .i64 s.mn.k) ∧ X.cell? ⟨g, 4, none⟩ = some (.int .i64 s.mn.n) ∧ X.cell? ⟨g, 5, none⟩ = some (.string s.mn.s) ∧ X.cell? ⟨g, 6, none⟩ = some (.int .i64 s.mx.k) ∧ X.cell? ⟨g, 7, none⟩ = some (.int .i64 s.mx.n) ∧ X.cell? ⟨g, 8, none⟩ = some (.string s.mx.s)) ∧ (X.cell? ⟨W.heap.size + 1, 0, none⟩ = some (.int .i64 c.id) ∧ X.cell? ⟨W.heap.size + 1, 1, none⟩ = some (.slice c.ra c.rs.length c.rc) ∧ X.cell? ⟨W.heap.size + 1, 2, none⟩ = some (.slice c.da c.ds.length c.dc) ∧ X.cell? ⟨W.heap.size + 1, 3, none⟩ = some (.slice c.va c.vs.length c.vc)) ∧ Below wx.heap.size wx X) (with_reducible refine HN.out _ ?_; repeat' (first | with_reducible assumption | with_reducible exact b0.drew | with_reducible exact b0 | with_reducible refine Below.drew ?_ | with_reducible exact Nat.le_refl _ | with_reducible refine Below.setCell ?_ ?_ _ | with_reducible refine Below.alloc ?_ ?_ _ | with_reducible exact Below.size (by assumption) | (simp; done) | (simp; omega) | omega)) (first | (go_at_call 15; (with_reducible refine Calls.mono (HOR.out _ ?_) ?_); (repeat' (first | with_reducible assumption | with_reducible exact b0.drew | with_reducible exact b0 | with_reducible refine Below.drew ?_ | with_reducible refine Below.alloc ?_ ?_ _ | with_reducible exact Below.size (by assumption) | with_reducible exact Nat.le_refl _)); rintro e x1 ⟨rfl, hbx1⟩) | (go_at_call 14; (with_reducible refine Calls.mono (HOL.out _ ?_) ?_); (repeat' (first | with_reducible assumption | with_reducible exact b0.drew | with_reducible exact b0 | with_reducible refine Below.drew ?_ | with_reducible refine Below.alloc ?_ ?_ _ | with_reducible exact Below.size (by assumption) | with_reducible exact Nat.le_refl _)); rintro e x2 ⟨rfl, hbx2⟩))
      all_goals
        go_wp2
        go_ret
        exact ⟨rfl, HI.out.old.trans (hbx2.mono HI.out.old.size)⟩
end Go.Proofs.YtkcobccmifkjcaaDoor

namespace Go.Proofs.YtkcobccmifkjcaaDoor
open Go.RowKit
theorem statsOf_top {H : Type} (d0 d1 : DataW H) (lid kind mr md : Int) (pa : Option Addr) (pc : Nat) (ps : List Int) (c : Cl) (W : World) (hp : Lies W pa (i64s ps)) (hat : c.At W) (hin : ∀ v ∈ c.vs, v.In) (hcb : c.bulk ≤ Rows.uptoBulk d1) (bulk : Rows.uptoBulk d0 + (Rows.uptoBulk d1 + 0) ≤ 1048576) (hL : laidMetH Tryd.prog Rows.statsOfUptoRow.laid W) :
    Calls Tryd.prog 3 #[.agg #[.int .i64 lid, .int .i64 kind, .int .i64 mr, .int .i64 md, .slice pa ps.length pc], c.val] W fun e w' => e = .returned (.bool true) ∧ Below W.heap.size W w' := by
  obtain ⟨A, hE⟩ := errs_of hL
  exact statsOf_walk lid kind mr md pa pc ps c W A hE hp hat (fun v hv => (hin v hv).2.1.1) (by omega)
end Go.Proofs.YtkcobccmifkjcaaDoor
