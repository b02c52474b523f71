/-
  page.isTold: whether a column has the stats that a page tells.
-/
import Derived.Test.YtgpfmjbebfmmnaaGreatDoorTBSameInts
import Derived.Test.YtgpfmjbebfmmnaaGreatDoorTBStBase
import Derived.Test.YtgpfmjbebfmmnaaGreatDoorTBRsC
import Derived.Laws.StructEq
namespace Go.Proofs.YtgpfmjbebfmmnaaGreatDoor
open Go.RowKit
/-- Whether two are the same. -/
def St.eqB (a b : St) : Bool := decide (a.e = b.e) && (decide (a.u = b.u) && (decide (a.h = b.h) && (decide (a.mn.k = b.mn.k) && (decide (a.mn.n = b.mn.n) && (decide (a.mn.s.toList = b.mn.s.toList) && (decide (a.mx.k = b.mx.k) && (decide (a.mx.n = b.mx.n) && decide (a.mx.s.toList = b.mx.s.toList))))))))
theorem St.eqB_iff {a b : St} : a.eqB b = true ↔ a = b := by
  obtain ⟨ae, au, ah, ⟨ak, an, as_⟩, ⟨bk, bn, bs⟩⟩ := a
  obtain ⟨ae', au', ah', ⟨ak', an', as'⟩, ⟨bk', bn', bs'⟩⟩ := b
  unfold St.eqB
  simp only [Bool.and_eq_true, decide_eq_true_eq, St.mk.injEq, Vl.mk.injEq]
  constructor
  · rintro ⟨h1, h2, h3, h4, h5, h6, h7, h8, h9⟩
    exact ⟨h1, h2, h3, ⟨h4, h5, str_ext h6⟩, h7, h8, str_ext h9⟩
  · rintro ⟨h1, h2, h3, ⟨h4, h5, h6⟩, h7, h8, h9⟩
    exact ⟨h1, h2, h3, h4, h5, by rw [h6], h7, h8, by rw [h9]⟩
theorem ite_ok {p : Prop} [Decidable p] {q : Bool} {W : World} : (if p then Result.ok (Value.bool q) W else Result.ok (Value.bool false) W) = Result.ok (Value.bool (decide p && q)) W := by
  by_cases h : p <;> simp [h]
set_option maxRecDepth 100000 in
set_option maxHeartbeats 3200000 in
theorem eqSt_run (a b : St) (W : World) : (binOp .eql 54 (.agg #[.int .i64 a.e, .int .i64 a.u, .bool a.h, .int .i64 a.mn.k, .int .i64 a.mn.n, .string a.mn.s, .int .i64 a.mx.k, .int .i64 a.mx.n, .string a.mx.s]) (.agg #[.int .i64 b.e, .int .i64 b.u, .bool b.h, .int .i64 b.mn.k, .int .i64 b.mn.n, .string b.mn.s, .int .i64 b.mx.k, .int .i64 b.mx.n, .string b.mx.s])).run Tryz.prog W = .ok (.bool (a.eqB b)) W := by
  obtain ⟨ae, au, ah, ⟨ak, an, as_⟩, ⟨bk, bn, bs⟩⟩ := a
  obtain ⟨ae', au', ah', ⟨ak', an', as'⟩, ⟨bk', bn', bs'⟩⟩ := b
  go_simp
  unfold St.eqB
  simp only [ite_ok, Bool.and_true]
/-- A column whose first level of repetition is 0. -/
def Cl.zr (c : Cl) : Cl := ⟨c.id, c.ra, 0 :: c.rs.tail, c.rc, c.da, c.ds, c.dc, c.va, c.vs, c.vc⟩
theorem Cl.zr_len {c : Cl} (h : 0 < c.rs.length) : c.zr.rs.length = c.rs.length := by
  unfold Cl.zr
  simp only [List.length_cons, List.length_tail]
  omega
theorem Cl.zr_of {c : Cl} (h : 0 < c.rs.length) : ofC c.zr = ofC c := by
  unfold ofC
  rw [Cl.zr_len h]
  rfl
theorem lies_zero {w : World} {g ty n : Nat} {cur : Array Value} {xs : List Int} (h : w.heap[g]? = some (.cells cur ty (0, 0))) (ht : cur.toList.take n = i64s xs) (hl : xs.length = n) (h0 : 0 < n) : Lies (w.setCell ⟨g, 0, none⟩ (.int .i64 0)) (some ⟨g, 0, none⟩) (i64s (0 :: xs.tail)) := by
  intro j hj
  refine ⟨g, 0, rfl, ?_⟩
  rw [Nat.zero_add]
  have hj2 : j < xs.length := by
    simp only [i64s_len, List.length_cons, List.length_tail] at hj
    omega
  have hc : w.cell? ⟨g, j, none⟩ = some (.int .i64 xs[j]) := by
    rw [cell_of_row w g j cur ty (0, 0) h]
    have h2 : (cur.toList.take n)[j]? = some (.int .i64 xs[j]) := by rw [ht]; simp [i64s, hj2]
    rw [List.getElem?_take_of_lt (by omega)] at h2
    simpa using h2
  cases j with
  | zero =>
    rw [World.cell?_setCell_same _ _ _ hc]
    rfl
  | succ j =>
    rw [World.cell?_setCell_other _ _ _ _ (fun e => by injection e with _ e; omega), hc]
    simp [i64s]
set_option maxRecDepth 100000 in
set_option maxHeartbeats 6400000 in
theorem isTold_any (lid kind mr md : Int) (pa : Option Addr) (pn pc : Nat) (c : Cl) (t : St) (W : World) (st kt bt : TypeId) (sp kp bp : Value)
    (h0 : 0 < c.rs.length) (hn : c.rs.length ≤ 20000) (hn2 : c.ds.length ≤ 20000) (hv : c.vs.length ≤ 20000) (hcd : c.ds.length ≤ c.dc) (hcv : c.vs.length ≤ c.vc)
    (hs : W.cell? ⟨0, 0, none⟩ = some (.iface st sp)) (hk : W.cell? ⟨3, 0, none⟩ = some (.iface kt kp)) (hbd : W.cell? ⟨1, 0, none⟩ = some (.iface bt bp)) (hat : c.At W) (hlo : ∀ v ∈ c.vs, v.Low) :
    Calls Tryz.prog 136 #[.agg #[.int .i64 lid, .int .i64 kind, .int .i64 mr, .int .i64 md, .slice pa pn pc], .agg #[.int .i64 c.id, .slice c.ra c.rs.length c.rc, .slice c.da c.ds.length c.dc, .slice c.va c.vs.length c.vc], .agg #[.int .i64 t.e, .int .i64 t.u, .bool t.h, .int .i64 t.mn.k, .int .i64 t.mn.n, .string t.mn.s, .int .i64 t.mx.k, .int .i64 t.mx.n, .string t.mx.s]] W fun e w' => (∃ b, e = .returned (.bool b) ∧ (b = true ↔ GoodC lid kind mr md c.zr ∧ ofC c = t)) ∧ Below W.heap.size W w' := by
  obtain ⟨w0, HW0, HX, HY, HZ, HB⟩ := three_boxes W #[.int .i64 lid, .int .i64 kind, .int .i64 mr, .int .i64 md, .slice pa pn pc] #[.int .i64 c.id, .slice c.ra c.rs.length c.rc, .slice c.da c.ds.length c.dc, .slice c.va c.vs.length c.vc] #[.int .i64 t.e, .int .i64 t.u, .bool t.h, .int .i64 t.mn.k, .int .i64 t.mn.n, .string t.mn.s, .int .i64 t.mx.k, .int .i64 t.mx.n, .string t.mx.s] 39 27 54
  have ck : ∀ {g : Nat} {v : Value}, W.cell? ⟨g, 0, none⟩ = some v → ∀ X, Below W.heap.size W X → X.cell? ⟨g, 0, none⟩ = some v := fun h X hX => (hX.cell (World.block_lt_of_cell? W _ h)).trans h
  have HS : Hid (∀ X, Below W.heap.size W X → X.cell? ⟨0, 0, none⟩ = some (.iface st sp)) := ck hs
  have HK : Hid (∀ X, Below W.heap.size W X → X.cell? ⟨3, 0, none⟩ = some (.iface kt kp)) := ck hk
  have HBd : Hid (∀ X, Below W.heap.size W X → X.cell? ⟨1, 0, none⟩ = some (.iface bt bp)) := ck hbd
  have HAT : Hid (c.At W) := hat
  have HLO : Hid (∀ v ∈ c.vs, v.Low) := hlo
  clear ck hs hk hbd hat hlo
  obtain ⟨k0, k1, k2, k3⟩ := row_four HY.out
  obtain ⟨m0, m1, m2, m3⟩ := row_fourA HY.out
  go_enter Tryz.func136, Tryz.ntmps136
  go_upto_region 1 with fail
  rw [HW0.out]
  go_wp2_with fail
  refine Calls.mono (cloneI_any c.ra c.rc c.rs w0 hn h0 (HAT.out.keep HB.out).r) ?_
  rintro e w1 ⟨⟨v, rfl, how⟩, hb1⟩
  obtain ⟨g, cap, cur, rfl, hg, hgg, hcap, htk⟩ : ∃ g cap cur, v = .slice (some ⟨g, 0, none⟩) c.rs.length cap ∧ w0.heap.size ≤ g ∧ w1.heap[g]? = some (.cells cur 3 (0, 0)) ∧ c.rs.length ≤ cap ∧ cur.toList.take c.rs.length = i64s c.rs := by
    rcases how.2 with ⟨_, h1⟩ | ⟨g, cap, cur, h1, h2, h3, h4, _, _, h5⟩
    · omega
    · exact ⟨g, cap, cur, h1, h2, h3, h4, by rw [Nat.mul_one] at h5; exact h5⟩
  have hWz : W.heap.size + 1 + 1 < w0.heap.size := lt_of_block HZ.out
  have HX1 : Hid (w1.heap[W.heap.size]? = some (.cells #[.int .i64 lid, .int .i64 kind, .int .i64 mr, .int .i64 md, .slice pa pn pc] 39 (0, 0))) := blk_keep hb1 HX.out
  have HY1 : Hid (w1.heap[W.heap.size + 1]? = some (.cells #[.int .i64 c.id, .slice c.ra c.rs.length c.rc, .slice c.da c.ds.length c.dc, .slice c.va c.vs.length c.vc] 27 (0, 0))) := blk_keep hb1 HY.out
  have HZ1 : Hid (w1.heap[W.heap.size + 1 + 1]? = some (.cells #[.int .i64 t.e, .int .i64 t.u, .bool t.h, .int .i64 t.mn.k, .int .i64 t.mn.n, .string t.mn.s, .int .i64 t.mx.k, .int .i64 t.mx.n, .string t.mx.s] 54 (0, 0))) := blk_keep hb1 HZ.out
  have HB1 : Hid (Below W.heap.size W w1) := HB.out.trans (hb1.mono HB.out.size)
  have HX2 : Hid ((w1.setCell ⟨W.heap.size + 1, 1, none⟩ (.slice (some ⟨g, 0, none⟩) c.rs.length cap)).heap[W.heap.size]? = some (.cells #[.int .i64 lid, .int .i64 kind, .int .i64 mr, .int .i64 md, .slice pa pn pc] 39 (0, 0))) := blk_other HX1.out (by omega) _
  have HY2 : Hid ((w1.setCell ⟨W.heap.size + 1, 1, none⟩ (.slice (some ⟨g, 0, none⟩) c.rs.length cap)).heap[W.heap.size + 1]? = some (.cells #[.int .i64 c.id, .slice (some ⟨g, 0, none⟩) c.rs.length cap, .slice c.da c.ds.length c.dc, .slice c.va c.vs.length c.vc] 27 (0, 0))) := row_setCell HY1.out _
  have HZ2 : Hid ((w1.setCell ⟨W.heap.size + 1, 1, none⟩ (.slice (some ⟨g, 0, none⟩) c.rs.length cap)).heap[W.heap.size + 1 + 1]? = some (.cells #[.int .i64 t.e, .int .i64 t.u, .bool t.h, .int .i64 t.mn.k, .int .i64 t.mn.n, .string t.mn.s, .int .i64 t.mx.k, .int .i64 t.mx.n, .string t.mx.s] 54 (0, 0))) := blk_other HZ1.out (by omega) _
  have HG2 : Hid ((w1.setCell ⟨W.heap.size + 1, 1, none⟩ (.slice (some ⟨g, 0, none⟩) c.rs.length cap)).heap[g]? = some (.cells cur 3 (0, 0))) := blk_other hgg (by omega) _
  have HB2 : Hid (Below W.heap.size W (w1.setCell ⟨W.heap.size + 1, 1, none⟩ (.slice (some ⟨g, 0, none⟩) c.rs.length cap))) := HB1.out.setCell (by simp) _
  have HTk : Hid (cur.toList.take c.rs.length = i64s c.rs) := htk
  clear how hb1 hgg k0 k1 k2 k3 m0 m1 m2 m3 HX HY HZ HB HX1 HZ1 HB1 HW0 htk
  obtain ⟨k0, k1, k2, k3⟩ := row_four HY1.out
  obtain ⟨m0, m1, m2, m3⟩ := row_fourA HY1.out
  go_upto_region 2 with fail
  generalize w1.setCell ⟨W.heap.size + 1, 1, none⟩ (.slice (some ⟨g, 0, none⟩) c.rs.length cap) = w2 at HX2 HY2 HZ2 HG2 HB2 ⊢
  clear k0 k1 k2 k3 m0 m1 m2 m3 HY1
  obtain ⟨k0, k1, k2, k3⟩ := row_four HY2.out
  obtain ⟨y, g0⟩ : ∃ y, w2.cell? ⟨g, 0, none⟩ = some y := by
    rw [cell_of_row w2 g 0 cur _ (0, 0) HG2.out]
    have : 0 < cur.size := by
      have h2 := congrArg List.length HTk.out
      rw [i64s_len, List.length_take, Array.length_toList] at h2
      omega
    exact ⟨_, Array.getElem?_eq_getElem this⟩
  have f0 : w2.frozen? ⟨g, 0, none⟩ = false := frozen_of_row w2 g 0 cur _ HG2.out
  have hne : g ≠ W.heap.size + 1 := by omega
  have HX3 : Hid ((w2.setCell ⟨g, 0, none⟩ (.int .i64 0)).heap[W.heap.size]? = some (.cells #[.int .i64 lid, .int .i64 kind, .int .i64 mr, .int .i64 md, .slice pa pn pc] 39 (0, 0))) := blk_other HX2.out (by omega) _
  have HY3 : Hid ((w2.setCell ⟨g, 0, none⟩ (.int .i64 0)).heap[W.heap.size + 1]? = some (.cells #[.int .i64 c.id, .slice (some ⟨g, 0, none⟩) c.rs.length cap, .slice c.da c.ds.length c.dc, .slice c.va c.vs.length c.vc] 27 (0, 0))) := blk_other HY2.out (by omega) _
  have HZ3 : Hid ((w2.setCell ⟨g, 0, none⟩ (.int .i64 0)).heap[W.heap.size + 1 + 1]? = some (.cells #[.int .i64 t.e, .int .i64 t.u, .bool t.h, .int .i64 t.mn.k, .int .i64 t.mn.n, .string t.mn.s, .int .i64 t.mx.k, .int .i64 t.mx.n, .string t.mx.s] 54 (0, 0))) := blk_other HZ2.out (by omega) _
  have HB3 : Hid (Below W.heap.size W (w2.setCell ⟨g, 0, none⟩ (.int .i64 0))) := HB2.out.setCell (by simp; omega) _
  have HL3 : Hid (Lies (w2.setCell ⟨g, 0, none⟩ (.int .i64 0)) (some ⟨g, 0, none⟩) (i64s (0 :: c.rs.tail))) := lies_zero HG2.out HTk.out rfl h0
  go_upto_region 3 with fail
  generalize w2.setCell ⟨g, 0, none⟩ (.int .i64 0) = w3 at HX3 HY3 HZ3 HB3 HL3 ⊢
  clear k0 k1 k2 k3 g0 f0 HX2 HY2 HZ2 HB2 HG2 HTk
  obtain ⟨⟨p0, p1, p2, p3, p4⟩, _⟩ := row_five HX3.out
  obtain ⟨k0, k1, k2, k3⟩ := row_four HY3.out
  have hzl := Cl.zr_len h0
  have HOf : Hid (Calls Tryz.prog 39 #[.agg #[.int .i64 lid, .int .i64 kind, .int .i64 mr, .int .i64 md, .slice pa pn pc], .agg #[.int .i64 c.id, .slice (some ⟨g, 0, none⟩) c.rs.length cap, .slice c.da c.ds.length c.dc, .slice c.va c.vs.length c.vc]] w3 fun e w' => (∃ (s : St) (ev : Value), e = .returned (.tuple #[s.val, ev]) ∧ OfR w3.heap.size lid kind mr md c.zr (.iface st sp) (.iface kt kp) s ev w') ∧ Below w3.heap.size w3 w') := (by
    have h := of_any lid kind mr md pa pn pc ⟨c.id, some ⟨g, 0, none⟩, c.zr.rs, cap, c.da, c.ds, c.dc, c.va, c.vs, c.vc⟩ w3 st kt bt sp kp bp (by show c.zr.rs.length ≤ _; omega) (by show c.ds.length ≤ _; omega) (by show c.vs.length ≤ _; omega) (by show c.zr.rs.length ≤ cap; omega) hcd hcv (HS.out w3 HB3.out) (HK.out w3 HB3.out) (HBd.out w3 HB3.out) ⟨HL3.out, (HAT.out.keep HB3.out).d, (HAT.out.keep HB3.out).v⟩ HLO.out
    unfold leafV Cl.val colV at h
    simp only [hzl] at h
    exact h)
  go_wp2_with fail
  refine Calls.mono HOf.out ?_
  rintro e w4 ⟨⟨s, ev, rfl, hor⟩, hb4⟩
  have HOr : Hid (OfR w3.heap.size lid kind mr md c.zr (.iface st sp) (.iface kt kp) s ev w4) := hor
  obtain ⟨w5, HW5, HS5, HB5'⟩ := boxed1 w4 s.cs 54
  have HZ5 : Hid (w5.heap[W.heap.size + 1 + 1]? = some (.cells #[.int .i64 t.e, .int .i64 t.u, .bool t.h, .int .i64 t.mn.k, .int .i64 t.mn.n, .string t.mn.s, .int .i64 t.mx.k, .int .i64 t.mx.n, .string t.mx.s] 54 (0, 0))) := blk_keep HB5'.out (blk_keep hb4 HZ3.out)
  have HB5 : Hid (Below W.heap.size W w5) := (HB3.out.trans (hb4.mono HB3.out.size)).trans (HB5'.out.mono (Nat.le_trans HB3.out.size hb4.size))
  clear hor hb4 HOf p0 p1 p2 p3 p4 k0 k1 k2 k3
  obtain ⟨⟨s0, s1, s2, s3, s4, s5, s6, s7, s8⟩, _⟩ := st_row HS5.out
  obtain ⟨⟨t0, t1, t2, t3, t4, t5, t6, t7, t8⟩, _⟩ := row_nine HZ5.out
  unfold St.val St.cs
  unfold St.cs at HW5
  go_upto_region 4 with fail
  rw [HW5.out]
  have hzo := Cl.zr_of h0
  rcases HOr.out with ⟨h1, h2, rfl⟩ | ⟨h1, p, hp, h2, h3, q, h4, h5, rfl, h6, h7⟩ | ⟨hg, rfl, hs⟩
  · have HR : Hid (¬ (GoodC lid kind mr md c.zr ∧ ofC c = t)) := fun h => by have := h.1.1; rw [h1] at this; cases this
    clear h1 h2 HOr s0 s1 s2 s3 s4 s5 s6 s7 s8 t0 t1 t2 t3 t4 t5 t6 t7 t8 hzo hzl
    go_wp2
    go_ret
    exact ⟨⟨false, rfl, ⟨fun h => by (cases h), fun h => absurd h HR.out⟩⟩, HB5.out⟩
  · have HR : Hid (¬ (GoodC lid kind mr md c.zr ∧ ofC c = t)) := fun h => by have := h.1.2 p hp; rw [h2] at this; cases this
    clear h1 h2 h3 h4 h5 h6 h7 HOr s0 s1 s2 s3 s4 s5 s6 s7 s8 t0 t1 t2 t3 t4 t5 t6 t7 t8 hzo hzl
    go_wp2
    go_ret
    exact ⟨⟨false, rfl, ⟨fun h => by (cases h), fun h => absurd h HR.out⟩⟩, HB5.out⟩
  · have HR : Hid (s.eqB t = true ↔ GoodC lid kind mr md c.zr ∧ ofC c = t) := (by
      show _ ↔ _
      rw [St.eqB_iff, hs, hzo]
      exact ⟨fun h => ⟨hg, h⟩, fun h => h.2⟩)
    have hq := eqSt_run s t
    clear hg hs HOr hzo hzl
    go_wp2
    go_ret
    exact ⟨⟨_, rfl, HR.out⟩, HB5.out⟩
end Go.Proofs.YtgpfmjbebfmmnaaGreatDoor
