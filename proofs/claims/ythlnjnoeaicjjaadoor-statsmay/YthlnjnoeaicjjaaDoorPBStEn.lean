/-
  The least and the greatest of values.
  stats.Merge, walked.
  The closed fact that stage 9's laws begin with.
  The reference's MergedOf; statsOf.
  The walk of the law StatsMerge.
-/
import Derived.Test.YthlnjnoeaicjjaaDoorPBLess
import Derived.Test.YthlnjnoeaicjjaaDoorPStOf
import Derived.BigQuiet
import Derived.Test.YthlnjnoeaicjjaaDoorPBCode
namespace Go.Proofs.YthlnjnoeaicjjaaDoor
open Go.RowKit
theorem okV_kind {k : Int} {v : Vl} (h : okV k v.k v.n v.s.size = true) : v.k = k := (okV_iff.1 h).1
theorem lss_tri {a b : Vl} (ha : a.Low) (hb : b.Low) (k : Int) (o1 : okV k a.k a.n a.s.size = true) (o2 : okV k b.k b.n b.s.size = true) : (lss a b && lss b a) = false ∧ ((lss a b || lss b a) = true ↔ a ≠ b) := by
  obtain ⟨ak, an, asx⟩ := a
  obtain ⟨bk, bn, bsx⟩ := b
  have e1 := okV_kind (v := ⟨ak, an, asx⟩) o1
  have e2 := okV_kind (v := ⟨bk, bn, bsx⟩) o2
  simp only at e1 e2 o1 o2
  subst e1
  subst e2
  have h := vless_tri _ an bn asx bsx ha hb (okV_iff.1 o1) (okV_iff.1 o2)
  refine ⟨h.1, h.2.trans ?_⟩
  simp
theorem lss_same {a b : Vl} (ha : a.Low) (hb : b.Low) (k : Int) (o1 : okV k a.k a.n a.s.size = true) (o2 : okV k b.k b.n b.s.size = true) (h1 : lss a b = false) (h2 : lss b a = false) : a = b := by
  have h := (lss_tri ha hb k o1 o2).2
  rw [h1, h2] at h
  exact Classical.byContradiction fun hn => by have := h.2 hn; cases this
theorem lss_irr {a : Vl} (ha : a.Low) (k : Int) (o1 : okV k a.k a.n a.s.size = true) : lss a a = false := by
  have h := (lss_tri ha ha k o1 o1).1
  rwa [Bool.and_self] at h
/-- A right value of a kind. -/
def Rv (k : Int) (v : Vl) : Prop := okV k v.k v.n v.s.size = true ∧ v.Low
theorem Rv.same {k : Int} {a b : Vl} (ha : Rv k a) (hb : Rv k b) (h1 : lss a b = false) (h2 : lss b a = false) : a = b := lss_same ha.2 hb.2 k ha.1 hb.1 h1 h2
theorem Rv.trans {k : Int} {a b c : Vl} (ha : Rv k a) (hb : Rv k b) (hc : Rv k c) (h1 : lss a b = true) (h2 : lss b c = true) : lss a c = true := by
  have e1 := okV_kind ha.1
  have e2 := okV_kind hb.1
  have e3 := okV_kind hc.1
  unfold lss at *
  rw [e1, e2] at h1
  rw [e2, e3] at h2
  rw [e1, e3]
  exact vless_trans k _ _ _ _ _ _ h1 h2
/-- a is at most b, b at most c. -/
theorem Rv.le {k : Int} {a b c : Vl} (ha : Rv k a) (hb : Rv k b) (hc : Rv k c) (h1 : lss b a = false) (h2 : lss c b = false) : lss c a = false := by
  cases h : lss c a
  · rfl
  · cases h3 : lss a b
    · have e := Rv.same ha hb h3 h1
      rw [e, h2] at h
      exact h.symm
    · have h4 := Rv.trans hc ha hb h h3
      rw [h2] at h4
      exact h4.symm
end Go.Proofs.YthlnjnoeaicjjaaDoor

namespace Go.Proofs.YthlnjnoeaicjjaaDoor
open Go.RowKit
/-- What Merge's boxes hold. -/
structure MgI (W : World) (a b : St) (X : World) : Prop where
  fst : X.heap[W.heap.size]? = some (.cells a.cs 34 (0, 0))
  snd : X.heap[W.heap.size + 1]? = some (.cells b.cs 34 (0, 0))
  re : X.heap[W.heap.size + 1 + 1]? = some (.cells #[.int .i64 0, .int .i64 0, .bool false, .int .i64 0, .int .i64 0, .string ⟨#[]⟩, .int .i64 0, .int .i64 0, .string ⟨#[]⟩] 34 (0, 0))
  old : Below W.heap.size W X
theorem MgI.keep {W : World} {a b : St} {X w' : World} (h : MgI W a b X) (hb : Below X.heap.size X w') : MgI W a b w' :=
  ⟨blk_keep hb h.fst, blk_keep hb h.snd, blk_keep hb h.re, h.old.trans (hb.mono h.old.size)⟩
end Go.Proofs.YthlnjnoeaicjjaaDoor

namespace Go.Proofs.YthlnjnoeaicjjaaDoor
open Go.RowKit
def twC (W : World) : Cl := ⟨1, some ⟨W.heap.size + 1, 0, none⟩, [0, 0], 2, some ⟨W.heap.size + 1 + 1, 0, none⟩, [0, 0], 2, some ⟨W.heap.size, 0, none⟩, [⟨2, 2, ⟨#[]⟩⟩, ⟨2, 1, ⟨#[]⟩⟩], 2⟩
theorem lies_two {w : World} {g t : Nat} {x y : Int} (h : w.heap[g]? = some (.cells #[.int .i64 x, .int .i64 y] t (0, 0))) : Lies w (some ⟨g, 0, none⟩) (i64s [x, y]) := fun j hj => by
  have hj2 : j < 2 := by simpa [i64s] using hj
  match j, hj2 with
  | 0, _ => exact ⟨g, 0, rfl, by simp [World.cell?, h, i64s]⟩
  | 1, _ => exact ⟨g, 0, rfl, by simp [World.cell?, h, i64s]⟩
theorem liesV_two {w : World} {g t : Nat} {x y : Vl} (h : w.heap[g]? = some (.cells #[.int .i64 x.k, .int .i64 x.n, .string x.s, .int .i64 y.k, .int .i64 y.n, .string y.s] t (0, 0))) : LiesV w (some ⟨g, 0, none⟩) [x, y] := fun j hj => by
  have hj2 : j < 2 := by simpa using hj
  match j, hj2 with
  | 0, _ => exact ⟨g, 0, rfl, by simp [World.cell?, h], by simp [World.cell?, h], by simp [World.cell?, h]⟩
  | 1, _ => exact ⟨g, 0, rfl, by simp [World.cell?, h], by simp [World.cell?, h], by simp [World.cell?, h]⟩
theorem twC_good (W : World) : GoodC 1 2 0 0 (twC W) := by
  refine ⟨by kernel_rfl, fun j hj => ?_⟩
  have hj2 : j < 2 := by simpa [twC] using hj
  match j, hj2 with
  | 0, _ => show badV 2 (⟨2, 2, ⟨#[]⟩⟩ : Vl) = false; kernel_rfl
  | 1, _ => show badV 2 (⟨2, 1, ⟨#[]⟩⟩ : Vl) = false; kernel_rfl
theorem twC_of (W : World) : ofC (twC W) = ⟨2, 0, true, ⟨2, 1, ⟨#[]⟩⟩, ⟨2, 2, ⟨#[]⟩⟩⟩ := by kernel_rfl
set_option maxRecDepth 100000 in
set_option maxHeartbeats 3200000 in
theorem two_any (W : World) (st kt bt : TypeId) (sp kp bp : Value)
    (hs : W.cell? ⟨3, 0, none⟩ = some (.iface st sp)) (hk : W.cell? ⟨1, 0, none⟩ = some (.iface kt kp)) (hbd : W.cell? ⟨2, 0, none⟩ = some (.iface bt bp)) :
    Calls Tryd.prog 5 #[] W fun e w' => e = .returned (.bool true) ∧ Below W.heap.size W w' := by
  obtain ⟨w0, HW0, HX, HY, HZ, HB⟩ := three_boxes W #[.int .i64 2, .int .i64 2, .string ⟨#[]⟩, .int .i64 2, .int .i64 1, .string ⟨#[]⟩] #[.int .i64 0, .int .i64 0] #[.int .i64 0, .int .i64 0] 23 3 3
  have HC : Hid _ := of_any 1 2 0 0 none 0 0 (twC W) w0 st kt bt sp kp bp (by simp [twC]) (by simp [twC]) (by simp [twC]) (by simp [twC]) (by simp [twC]) (by simp [twC]) (ckB hs HB.out) (ckB hk HB.out) (ckB hbd HB.out) ⟨lies_two HY.out, lies_two HZ.out, liesV_two (x := ⟨2, 2, ⟨#[]⟩⟩) (y := ⟨2, 1, ⟨#[]⟩⟩) HX.out⟩ (fun v hv => by simp [twC] at hv; rcases hv with rfl | rfl <;> simp [Vl.Low])
  clear HX HY HZ hs hk hbd
  go_enter Tryd.func5, Tryd.ntmps5
  go_wp2_with fail
  rw [HW0.out]
  refine Calls.mono HC.out ?_
  rintro e w1 ⟨⟨s, ev, rfl, hr⟩, hb1⟩
  have HB1 : Hid (Below W.heap.size W w1) := HB.out.trans (hb1.mono HB.out.size)
  have hg := twC_good W
  obtain ⟨rfl, rfl⟩ : ev = .nilIface ∧ s = ⟨2, 0, true, ⟨2, 1, ⟨#[]⟩⟩, ⟨2, 2, ⟨#[]⟩⟩⟩ := by
    rcases hr with ⟨h, _⟩ | ⟨_, p, hp, h, _⟩ | ⟨_, h2, h3⟩
    · rw [hg.1] at h; cases h
    · rw [hg.2 p hp] at h; cases h
    · exact ⟨h2, h3.trans (twC_of W)⟩
  clear hr hb1 HC HB HW0 hg
  unfold St.val St.cs
  go_wp2
  go_ret
  exact ⟨rfl, HB1.out.alloc HB1.out.size _⟩
end Go.Proofs.YthlnjnoeaicjjaaDoor

namespace Go.Proofs.YthlnjnoeaicjjaaDoor
open Go.RowKit
set_option maxRecDepth 100000 in
set_option maxHeartbeats 1600000 in
theorem statsOfL_any (s : St) (W : World) : Calls Tryd.prog 9 #[.agg #[.int .i64 s.e, .int .i64 s.u, .bool s.h, .int .i64 s.mn.k, .int .i64 s.mn.n, .string s.mn.s, .int .i64 s.mx.k, .int .i64 s.mx.n, .string s.mx.s]] W fun e w' => e = .returned (.agg #[.int .i64 s.e, .int .i64 s.u, .bool s.h, .int .i64 s.mn.k, .int .i64 s.mn.n, .string s.mn.s, .int .i64 s.mx.k, .int .i64 s.mx.n, .string s.mx.s]) ∧ Below W.heap.size W w' := by
  obtain ⟨w0, HW0, HX, HY, HB⟩ := two_boxes W #[.int .i64 s.e, .int .i64 s.u, .bool s.h, .int .i64 s.mn.k, .int .i64 s.mn.n, .string s.mn.s, .int .i64 s.mx.k, .int .i64 s.mx.n, .string s.mx.s] #[.int .i64 0, .int .i64 0, .bool false, .int .i64 0, .int .i64 0, .string ⟨#[]⟩, .int .i64 0, .int .i64 0, .string ⟨#[]⟩] 25 34
  obtain ⟨⟨x0, x1, x2, x3, x4, x5, x6, x7, x8⟩, _⟩ := row_nine HX.out
  obtain ⟨y1, y2⟩ := row_nine HY.out
  go_enter Tryd.func9, Tryd.ntmps9
  go_upto_region 1 with fail
  rw [HW0.out]
  go_wp2
  exact bodyPost_ret (v := .agg #[.int .i64 s.e, .int .i64 s.u, .bool s.h, .int .i64 s.mn.k, .int .i64 s.mn.n, .string s.mn.s, .int .i64 s.mx.k, .int .i64 s.mx.n, .string s.mx.s]) (results_cell_row Tryd.results9 _ _ (W.heap.size + 1) 34 #[.int .i64 s.e, .int .i64 s.u, .bool s.h, .int .i64 s.mn.k, .int .i64 s.mn.n, .string s.mn.s, .int .i64 s.mx.k, .int .i64 s.mx.n, .string s.mx.s] (0, 0) _ rfl (set9_row HY.out _ _ _ _ _ _ _ _ _) Tryd.underlying34 rfl (by kernel_rfl)) rfl ⟨rfl, set9_below HB.out (by omega) _ _ _ _ _ _ _ _ _⟩
/-- What MergedOf's boxes hold. -/
structure MoI (W : World) (a b o : St) (X : World) : Prop where
  fst : X.heap[W.heap.size]? = some (.cells a.cs 25 (0, 0))
  snd : X.heap[W.heap.size + 1]? = some (.cells b.cs 25 (0, 0))
  re : X.heap[W.heap.size + 1 + 1]? = some (.cells #[.int .i64 0, .int .i64 0, .bool false, .int .i64 0, .int .i64 0, .string ⟨#[]⟩, .int .i64 0, .int .i64 0, .string ⟨#[]⟩] 25 (0, 0))
  out : X.heap[W.heap.size + 1 + 1 + 1]? = some (.cells o.cs 25 (0, 0))
  old : Below W.heap.size W X
theorem MoI.keep {W : World} {a b o : St} {X w' : World} (h : MoI W a b o X) (hb : Below X.heap.size X w') : MoI W a b o w' :=
  ⟨blk_keep hb h.fst, blk_keep hb h.snd, blk_keep hb h.re, blk_keep hb h.out, h.old.trans (hb.mono h.old.size)⟩
theorem MoI.setMn {W : World} {a b o : St} {X : World} (h : MoI W a b o X) (l : Vl) : MoI W a b { o with mn := l } (((X.setCell ⟨W.heap.size + 1 + 1 + 1, 3, none⟩ (.int .i64 l.k)).setCell ⟨W.heap.size + 1 + 1 + 1, 4, none⟩ (.int .i64 l.n)).setCell ⟨W.heap.size + 1 + 1 + 1, 5, none⟩ (.string l.s)) :=
  ⟨blk_other (blk_other (blk_other h.fst (by omega) _) (by omega) _) (by omega) _, blk_other (blk_other (blk_other h.snd (by omega) _) (by omega) _) (by omega) _, blk_other (blk_other (blk_other h.re (by omega) _) (by omega) _) (by omega) _, row_setCell (row_setCell (row_setCell h.out _) _) _, ((h.old.setCell (by simp; omega) _).setCell (by simp; omega) _).setCell (by simp; omega) _⟩
theorem MoI.setMx {W : World} {a b o : St} {X : World} (h : MoI W a b o X) (l : Vl) : MoI W a b { o with mx := l } (((X.setCell ⟨W.heap.size + 1 + 1 + 1, 6, none⟩ (.int .i64 l.k)).setCell ⟨W.heap.size + 1 + 1 + 1, 7, none⟩ (.int .i64 l.n)).setCell ⟨W.heap.size + 1 + 1 + 1, 8, none⟩ (.string l.s)) :=
  ⟨blk_other (blk_other (blk_other h.fst (by omega) _) (by omega) _) (by omega) _, blk_other (blk_other (blk_other h.snd (by omega) _) (by omega) _) (by omega) _, blk_other (blk_other (blk_other h.re (by omega) _) (by omega) _) (by omega) _, row_setCell (row_setCell (row_setCell h.out _) _) _, ((h.old.setCell (by simp; omega) _).setCell (by simp; omega) _).setCell (by simp; omega) _⟩
end Go.Proofs.YthlnjnoeaicjjaaDoor

namespace Go.Proofs.YthlnjnoeaicjjaaDoor
open Go.RowKit
theorem ecT {w : World} {A : Nat → Addr} (h : Errs w A) (i : Nat) (hi : i < 8) : w.cell? ⟨errG i, 0, none⟩ = some (errV (A i)) := (h.at_ i hi).var
/-- What the law's boxes hold. -/
structure LmI (W : World) (a b : St) (X : World) : Prop where
  fst : X.heap[W.heap.size]? = some (.cells a.cs 25 (0, 0))
  snd : X.heap[W.heap.size + 1]? = some (.cells b.cs 25 (0, 0))
  old : Below W.heap.size W X
theorem LmI.keep {W : World} {a b : St} {X w' : World} (h : LmI W a b X) (hb : Below X.heap.size X w') : LmI W a b w' :=
  ⟨blk_keep hb h.fst, blk_keep hb h.snd, h.old.trans (hb.mono h.old.size)⟩
end Go.Proofs.YthlnjnoeaicjjaaDoor
