/-
  The reference's ReadPageOf, walked.
  The walk of the law PageReads.
  PageReads, for whatever leaf and text.
-/
import Derived.Test.YteeheodcejeloaaGreatDoorRBRpI
import Derived.Test.YteeheodcejeloaaGreatDoorRBQrD
import Derived.Test.YteeheodcejeloaaGreatDoorRBPrefVals
import Derived.Test.YteeheodcejeloaaGreatDoorRBColS
import Derived.Test.YteeheodcejeloaaGreatDoorRBPgD
import Derived.Test.YteeheodcejeloaaGreatDoorRBRefVals
import Derived.Test.YteeheodcejeloaaGreatDoorRBColE
import Derived.Test.YteeheodcejeloaaGreatDoorRBSent
import Derived.Test.YteeheodcejeloaaGreatDoorRBOpenNode
import Derived.Test.YteeheodcejeloaaGreatDoorRows
namespace Go.Proofs.YteeheodcejeloaaGreatDoor
open Go.RowKit
/-- What ReadPageOf's boxes hold. -/
structure PoI (W : World) (lid kind mr md : Int) (pa : Option Addr) (pn pc : Nat) (vr vd vv : Value) (X : World) : Prop where
  lf : X.heap[W.heap.size]? = some (.cells #[.int .i64 lid, .int .i64 kind, .int .i64 mr, .int .i64 md, .slice pa pn pc] 24 (0, 0))
  re : X.heap[W.heap.size + 1]? = some (.cells #[.int .i64 0, .slice none 0 0, .slice none 0 0, .slice none 0 0] 29 (0, 0))
  co : X.heap[W.heap.size + 1 + 1]? = some (.cells #[.int .i64 lid, vr, vd, vv] 29 (0, 0))
  old : Below W.heap.size W X
theorem PoI.keep {W : World} {lid kind mr md : Int} {pa : Option Addr} {pn pc : Nat} {vr vd vv : Value} {X w' : World} (h : PoI W lid kind mr md pa pn pc vr vd vv X) (hb : Below X.heap.size X w') : PoI W lid kind mr md pa pn pc vr vd vv w' := ⟨blk_keep hb h.lf, blk_keep hb h.re, blk_keep hb h.co, h.old.trans (hb.mono h.old.size)⟩
theorem PoI.putR {W : World} {lid kind mr md : Int} {pa : Option Addr} {pn pc : Nat} {vr vd vv : Value} {X : World} (h : PoI W lid kind mr md pa pn pc vr vd vv X) (v : Value) : PoI W lid kind mr md pa pn pc v vd vv (X.setCell ⟨W.heap.size + 1 + 1, 1, none⟩ v) := ⟨blk_other h.lf (by omega) _, blk_other h.re (by omega) _, row_setCell h.co v, h.old.setCell (by simp; omega) _⟩
theorem PoI.putD {W : World} {lid kind mr md : Int} {pa : Option Addr} {pn pc : Nat} {vr vd vv : Value} {X : World} (h : PoI W lid kind mr md pa pn pc vr vd vv X) (v : Value) : PoI W lid kind mr md pa pn pc vr v vv (X.setCell ⟨W.heap.size + 1 + 1, 2, none⟩ v) := ⟨blk_other h.lf (by omega) _, blk_other h.re (by omega) _, row_setCell h.co v, h.old.setCell (by simp; omega) _⟩
theorem PoI.putV {W : World} {lid kind mr md : Int} {pa : Option Addr} {pn pc : Nat} {vr vd vv : Value} {X : World} (h : PoI W lid kind mr md pa pn pc vr vd vv X) (v : Value) : PoI W lid kind mr md pa pn pc vr vd v (X.setCell ⟨W.heap.size + 1 + 1, 3, none⟩ v) := ⟨blk_other h.lf (by omega) _, blk_other h.re (by omega) _, row_setCell h.co v, h.old.setCell (by simp; omega) _⟩
theorem stTx_pos (t : St) : 0 < (stTx t).length := by
  unfold stTx
  rw [List.length_append, List.length_append]
  have := Um.uv_pos t.e.toNat
  omega
theorem Lies.setX {X : World} {a : Option Addr} {cs : List Value} (h : Lies X a cs) {g j : Nat} {v : Value} (hf : Fsh (g + 1) a) : Lies (X.setCell ⟨g, j, none⟩ v) a cs := h.off fun p hp => hf p hp
theorem LiesV.setX {X : World} {a : Option Addr} {vs : List Vl} (h : LiesV X a vs) {g j : Nat} {v : Value} (hf : Fsh (g + 1) a) : LiesV (X.setCell ⟨g, j, none⟩ v) a vs := h.off fun p hp => hf p hp
theorem ite_okN {p : Prop} [Decidable p] {q : Bool} {W : World} : (if p then Result.ok (Value.bool q) W else Result.ok (Value.bool true) W) = Result.ok (Value.bool (!(decide p && !q))) W := by
  by_cases h : p <;> simp [h]
set_option maxRecDepth 100000 in
set_option maxHeartbeats 3200000 in
theorem neqSt3_run (a b : St) (W : World) : (binOp .neq 46 (.agg #[.int .i64 a.e, .int .i64 a.u, .bool a.h, .int .i64 a.mn.k, .int .i64 a.mn.n, .string a.mn.s, .int .i64 a.mx.k, .int .i64 a.mx.n, .string a.mx.s]) (.agg #[.int .i64 b.e, .int .i64 b.u, .bool b.h, .int .i64 b.mn.k, .int .i64 b.mn.n, .string b.mn.s, .int .i64 b.mx.k, .int .i64 b.mx.n, .string b.mx.s])).run Tryz.prog W = .ok (.bool (!(a.eqB b))) W := by
  obtain ⟨ae, au, ah, ⟨ak, an, as_⟩, ⟨bk, bn, bs⟩⟩ := a
  obtain ⟨ae', au', ah', ⟨ak', an', as'⟩, ⟨bk', bn', bs'⟩⟩ := b
  go_simp
  unfold St.eqB
  simp only [ite_okN, Bool.not_false, Bool.and_true, Bool.not_not]
set_option maxRecDepth 100000 in
set_option maxHeartbeats 12800000 in
theorem readPageOf_any (lid kind mr md : Int) (pa : Option Addr) (pn pc : Nat) (s : ByteArray) (hsz : s.size ≤ 3000) (W : World) :
    Calls Tryz.prog 10 #[.agg #[.int .i64 lid, .int .i64 kind, .int .i64 mr, .int .i64 md, .slice pa pn pc], .string s] W fun e w' => RpoR lid kind mr md s e w' ∧ Below W.heap.size W w' := by
  obtain ⟨wa, HWa, HXa, HYa, HBa⟩ := two_boxesP W #[.int .i64 lid, .int .i64 kind, .int .i64 mr, .int .i64 md, .slice pa pn pc] #[.int .i64 0, .slice none 0 0, .slice none 0 0, .slice none 0 0] 24 29
  obtain ⟨w0, HW0, HC0, HB0⟩ := boxed1 wa #[.int .i64 lid, .slice none 0 0, .slice none 0 0, .slice none 0 0] 29
  have haz : wa.heap.size = W.heap.size + 1 + 1 := by rw [← HWa.out]; simp
  rw [haz] at HC0
  have HI0 : Hid (PoI W lid kind mr md pa pn pc (.slice none 0 0) (.slice none 0 0) (.slice none 0 0) w0) := ⟨blk_keep HB0.out HXa.out, blk_keep HB0.out HYa.out, HC0.out, HBa.out.trans (HB0.out.mono HBa.out.size)⟩
  obtain ⟨⟨p0, p1, p2, p3, p4⟩, _⟩ := row_five HXa.out
  go_enter Tryz.func10, Tryz.ntmps10
  go_upto_region 1 with fail
  rw [HWa.out]
  go_upto_region 2 with fail
  rw [HW0.out]
  clear p0 p1 p2 p3 p4 HXa HYa HWa HBa HW0 HC0 HB0 haz

  obtain ⟨⟨p0, p1, p2, p3, p4⟩, _⟩ := row_five HI0.out.lf
  go_wp2_with fail
  refine Calls.mono (isLeafR_any lid kind mr md pa pn pc w0) ?_
  obtain ⟨lf, HLfb⟩ : ∃ b, Hid (isLfB kind mr md = b) := ⟨_, rfl⟩
  rw [HLfb.out]
  rintro e' w1 ⟨rfl, hb1⟩
  have HI1 : Hid (PoI W lid kind mr md pa pn pc (.slice none 0 0) (.slice none 0 0) (.slice none 0 0) w1) := HI0.out.keep hb1
  clear hb1 HI0 p0 p1 p2 p3 p4
  obtain ⟨z0, z1, z2, z3⟩ := row_four HI1.out.re
  obtain ⟨y0, y1, y2, y3⟩ := row_fourA HI1.out.re
  cases lf with
  | false =>
    have HNp : Hid (NoPg (isLfB kind mr md) s (.int .i64 3) (.int .i64 1) (.int .i64 7) (.int .i64 3)) := .inl ⟨HLfb.out, rfl⟩
    go_wp2
    exact bodyPost_ret (v := .tuple #[.agg #[.int .i64 0, .slice none 0 0, .slice none 0 0, .slice none 0 0], .int .i64 0, .int .i64 3]) (results_ctt Tryz.results10 _ _ (W.heap.size + 1) 29 #[.int .i64 0, .slice none 0 0, .slice none 0 0, .slice none 0 0] (0, 0) _ _ _ rfl rfl rfl (row_setCell (row_setCell (row_setCell (row_setCell HI1.out.re _) _) _) _) Tryz.underlying29 rfl (by kernel_rfl)) rfl ⟨.inl ⟨_, HNp.out, rfl⟩, (((HI1.out.old.setCell (by simp) _).setCell (by simp) _).setCell (by simp) _).setCell (by simp) _⟩
  | true =>
    go_wp2_with fail
    refine Calls.mono (bodyOfR_any s w1 hsz) ?_
    rintro e' wq ⟨hx, hw⟩
    obtain rfl := hw.symm
    rcases boR3_two HLfb.out hx with ⟨c, hc, hnp, rfl⟩ | ⟨n, k, hok, rfl⟩
    · have HNp : Hid (NoPg (isLfB kind mr md) s (.int .i64 3) (.int .i64 1) (.int .i64 7) (.int .i64 c)) := hnp
      have q1 : decide ((0 : Int) < c) = true := by simp; omega
      clear hnp hx hc
      go_wp2
      exact bodyPost_ret (v := .tuple #[.agg #[.int .i64 0, .slice none 0 0, .slice none 0 0, .slice none 0 0], .int .i64 0, .int .i64 c]) (results_ctt Tryz.results10 _ _ (W.heap.size + 1) 29 #[.int .i64 0, .slice none 0 0, .slice none 0 0, .slice none 0 0] (0, 0) _ _ _ rfl rfl rfl (row_setCell (row_setCell (row_setCell (row_setCell HI1.out.re _) _) _) _) Tryz.underlying29 rfl (by kernel_rfl)) rfl ⟨.inl ⟨_, HNp.out, rfl⟩, (((HI1.out.old.setCell (by simp) _).setCell (by simp) _).setCell (by simp) _).setCell (by simp) _⟩
    obtain ⟨⟨hk1, hk5⟩, m, dd, rfl, rfl, hm, hd⟩ := isLfB_nat HLfb.out
    have HOk : Hid (PgOk s n k) := hok
    obtain ⟨us, HU⟩ : ∃ u, Hid (k + 5 + n = u) := ⟨_, rfl⟩
    obtain ⟨bd, HBy⟩ : ∃ b, Hid (bodyAt s n k = b) := ⟨_, rfl⟩
    have hbs : bd.size ≤ 3000 := by rw [← HBy.out, ByteArray.size_extract]; omega
    rw [HU.out, HBy.out]
    clear hok hx
    go_wp2_with fail
    refine Calls.mono (readStatsOf_any bd hbs w1) ?_
    rintro e' w2 ⟨hx, hb2⟩
    have HI2 : Hid (PoI W lid kind (m : Int) (dd : Int) pa pn pc (.slice none 0 0) (.slice none 0 0) (.slice none 0 0) w2) := HI1.out.keep hb2
    clear hb2 HI1 z0 z1 z2 z3 y0 y1 y2 y3
    rcases hx with ⟨t, r, hbg, rfl⟩ | ⟨hno, rfl⟩
    rotate_left
    · have HNo : Hid (¬ ∃ p d vs, IsBd lid kind ((m : Nat) : Int).toNat ((dd : Nat) : Int).toNat (bodyAt s n k) p d vs) := fun ⟨p', d', vs', t', n1', k1', n2', k2', b', n3', k3', hq⟩ => (by
        rw [HBy.out] at hq
        have hq : RfAt lid kind m dd bd t' n1' k1' p' n2' k2' d' b' n3' k3' vs' := bdAt_rf hq
        obtain ⟨r', hr'⟩ := hq.beg
        exact hno ⟨_, _, hr'⟩)
      obtain ⟨w3, HW3, HS3, HB3'⟩ := boxed1 w2 #[.int .i64 0, .int .i64 0, .bool false, .int .i64 0, .int .i64 0, .string ⟨#[]⟩, .int .i64 0, .int .i64 0, .string ⟨#[]⟩] 46
      have HI3 : Hid (PoI W lid kind (m : Int) (dd : Int) pa pn pc (.slice none 0 0) (.slice none 0 0) (.slice none 0 0) w3) := HI2.out.keep HB3'.out
      clear hno
      go_upto_region 8 with fail
      rw [HW3.out]
      obtain ⟨z0, z1, z2, z3⟩ := row_four HI3.out.re
      obtain ⟨y0, y1, y2, y3⟩ := row_fourA HI3.out.re
      go_wp2
      exact bodyPost_ret (v := .tuple #[.agg #[.int .i64 0, .slice none 0 0, .slice none 0 0, .slice none 0 0], .int .i64 0, .int .i64 1]) (results_ctt Tryz.results10 _ _ (W.heap.size + 1) 29 #[.int .i64 0, .slice none 0 0, .slice none 0 0, .slice none 0 0] (0, 0) _ _ _ rfl rfl rfl (row_setCell (row_setCell (row_setCell (row_setCell HI3.out.re _) _) _) _) Tryz.underlying29 rfl (by kernel_rfl)) rfl ⟨.inr ⟨HLfb.out, n, k, HOk.out, .inr ⟨HNo.out, rfl⟩⟩, (((HI3.out.old.setCell (by simp) _).setCell (by simp) _).setCell (by simp) _).setCell (by simp) _⟩
    obtain ⟨te, tu, th, tn, tx⟩ := t
    obtain ⟨e, rfl⟩ := Int.eq_ofNat_of_zero_le hbg.1.e.1
    obtain ⟨u, rfl⟩ := Int.eq_ofNat_of_zero_le hbg.1.u.1
    have he : e ≤ 20000 := (by have h : ((e : Nat) : Int) ≤ 20000 := hbg.1.e.2; omega)
    have hu : u ≤ e := (by have h : ((u : Nat) : Int) ≤ ((e : Nat) : Int) := hbg.1.u.2; omega)
    obtain ⟨z, HZ⟩ : ∃ z, Hid ((stTx ⟨(e : Int), (u : Int), th, tn, tx⟩).length = z) := ⟨_, rfl⟩
    have hz0 : 0 < z := by rw [← HZ.out]; exact stTx_pos _
    have hzs : z ≤ bd.size := (by
      have h := congrArg List.length hbg.2
      rw [List.length_append, HZ.out, Array.length_toList] at h
      show z ≤ bd.data.size
      omega)
    have HBg : Hid (BegS bd.data.toList ⟨(e : Int), (u : Int), th, tn, tx⟩ r) := hbg
    rw [HZ.out]
    clear hbg
    obtain ⟨w3, HW3, HS3, HB3'⟩ := boxed1 w2 #[.int .i64 (e : Nat), .int .i64 (u : Nat), .bool th, .int .i64 tn.k, .int .i64 tn.n, .string tn.s, .int .i64 tx.k, .int .i64 tx.n, .string tx.s] 46
    have HI3 : Hid (PoI W lid kind (m : Int) (dd : Int) pa pn pc (.slice none 0 0) (.slice none 0 0) (.slice none 0 0) w3) := HI2.out.keep HB3'.out
    have hTl : W.heap.size + 1 + 1 < w2.heap.size := lt_of_block HI2.out.co
    clear HB3' HI2
    go_upto_region 8 with fail
    rw [HW3.out]
    clear HW3
    have hT3 : w2.heap.size < w3.heap.size := lt_of_block HS3.out
    generalize w2.heap.size = T at *
    try clear w2
    obtain ⟨⟨t0, t1, t2, t3, t4, t5, t6, t7, t8⟩, _⟩ := row_nine HS3.out
    have qz : ((z : Int) == 0) = false := by simp; omega
    by_cases he0 : e = 0
    · have qe : ((e : Int) == 0) = true := by simp [he0]
      have HNo : Hid (¬ ∃ p d vs, IsBd lid kind ((m : Nat) : Int).toNat ((dd : Nat) : Int).toNat (bodyAt s n k) p d vs) := fun ⟨p', d', vs', t', n1', k1', n2', k2', b', n3', k3', hq⟩ => (by
        rw [HBy.out] at hq
        have hq : RfAt lid kind m dd bd t' n1' k1' p' n2' k2' d' b' n3' k3' vs' := bdAt_rf hq
        obtain ⟨r', hr'⟩ := hq.beg
        obtain rfl := begS_fn HBg.out hr'
        have h2 : (0 : Int) < (e : Int) := hq.pos
        omega)
      clear he0
      obtain ⟨z0, z1, z2, z3⟩ := row_four HI3.out.re
      obtain ⟨y0, y1, y2, y3⟩ := row_fourA HI3.out.re
      go_wp2
      exact bodyPost_ret (v := .tuple #[.agg #[.int .i64 0, .slice none 0 0, .slice none 0 0, .slice none 0 0], .int .i64 0, .int .i64 1]) (results_ctt Tryz.results10 _ _ (W.heap.size + 1) 29 #[.int .i64 0, .slice none 0 0, .slice none 0 0, .slice none 0 0] (0, 0) _ _ _ rfl rfl rfl (row_setCell (row_setCell (row_setCell (row_setCell HI3.out.re _) _) _) _) Tryz.underlying29 rfl (by kernel_rfl)) rfl ⟨.inr ⟨HLfb.out, n, k, HOk.out, .inr ⟨HNo.out, rfl⟩⟩, (((HI3.out.old.setCell (by simp) _).setCell (by simp) _).setCell (by simp) _).setCell (by simp) _⟩
    have qe : ((e : Int) == 0) = false := by simp; omega
    obtain ⟨s1, HS1⟩ : ∃ x, Hid (bd.extract z bd.size = x) := ⟨_, rfl⟩
    have hs1 : s1.size ≤ 3000 := by rw [← HS1.out, ByteArray.size_extract]; omega
    have hex1 : bd.extract z bd.size = s1 := HS1.out
    have hzi : (z : Int) ≤ (bd.size : Int) := by omega
    -- what is asked, as this body's own words
    have HRq : Hid (∀ p d vs t' n1 k1 n2 k2 b n3 k3, RfAt lid kind m dd bd t' n1 k1 p n2 k2 d b n3 k3 vs → t' = ⟨(e : Int), (u : Int), th, tn, tx⟩ ∧ LvX s1 m e n1 k1 p ∧ LvX (s1.extract (k1 + n1) s1.size) dd e n2 k2 d ∧ BsAt ((s1.extract (k1 + n1) s1.size).extract (k2 + n2) (s1.extract (k1 + n1) s1.size).size) kind (e - u) b n3 k3 vs ∧ (((s1.extract (k1 + n1) s1.size).extract (k2 + n2) (s1.extract (k1 + n1) s1.size).size).extract 1 ((s1.extract (k1 + n1) s1.size).extract (k2 + n2) (s1.extract (k1 + n1) s1.size).size).size).size = k3 + n3) := fun p d vs t' n1 k1 n2 k2 b n3 k3 h => (by
      obtain ⟨r', hr'⟩ := h.beg
      obtain rfl := begS_fn HBg.out hr'
      have e1 := h.rep
      have e2 := h.def_
      have e3 := h.val
      have e4 := h.fin
      rw [HZ.out, HS1.out] at e1 e2 e3 e4
      have h5 : ((e : Int) - (u : Int)).toNat = e - u := by omega
      rw [← h5]
      exact ⟨rfl, e1, e2, e3, e4⟩)
    obtain ⟨⟨p0, p1, p2, p3, p4⟩, _⟩ := row_five HI3.out.lf
    clear he0
    go_wp2_with fail
    (try rw [hex1])
    refine Calls.mono (levelsOf_any s1 m e w3 hs1 (by omega) he) ?_
    rintro e' w4 ⟨hx, hb4⟩
    have HI4 : Hid (PoI W lid kind (m : Int) (dd : Int) pa pn pc (.slice none 0 0) (.slice none 0 0) (.slice none 0 0) w4) := HI3.out.keep hb4
    have HS4 : Hid (w4.heap[T]? = some (.cells #[.int .i64 (e : Nat), .int .i64 (u : Nat), .bool th, .int .i64 tn.k, .int .i64 tn.n, .string tn.s, .int .i64 tx.k, .int .i64 tx.n, .string tx.s] 46 (0, 0))) := blk_keep hb4 HS3.out
    have hz4 : w3.heap.size ≤ w4.heap.size := hb4.size
    clear hb4 HI3 HS3 p0 p1 p2 p3 p4 t0 t1 t2 t3 t4 t5 t6 t7 t8
    obtain ⟨c0, c1, c2, c3⟩ := row_four HI4.out.co
    obtain ⟨d0, d1, d2, d3⟩ := row_fourA HI4.out.co
    rcases hx with ⟨n1, k1, p, ra, rc, hlx, rfl, hl, hfs⟩ | ⟨hno, rfl⟩
    rotate_left
    · have HNo : Hid (¬ ∃ p d vs, IsBd lid kind ((m : Nat) : Int).toNat ((dd : Nat) : Int).toNat (bodyAt s n k) p d vs) := fun ⟨p', d', vs', t', n1', k1', n2', k2', b', n3', k3', hq⟩ => (by
        rw [HBy.out] at hq
        have hq : RfAt lid kind m dd bd t' n1' k1' p' n2' k2' d' b' n3' k3' vs' := bdAt_rf hq
        exact hno ⟨_, _, _, (HRq.out _ _ _ _ _ _ _ _ _ _ _ hq).2.1⟩)
      have HI5 : Hid (PoI W lid kind (m : Int) (dd : Int) pa pn pc (.slice none 0 0) (.slice none 0 0) (.slice none 0 0) (w4.setCell ⟨W.heap.size + 1 + 1, 1, none⟩ (.slice none 0 0))) := HI4.out.putR (.slice none 0 0)
      clear hno
      go_upto_region 12 with fail
      generalize w4.setCell ⟨W.heap.size + 1 + 1, 1, none⟩ (.slice none 0 0) = w5 at HI5 ⊢
      obtain ⟨z0, z1, z2, z3⟩ := row_four HI5.out.re
      obtain ⟨y0, y1, y2, y3⟩ := row_fourA HI5.out.re
      go_wp2
      exact bodyPost_ret (v := .tuple #[.agg #[.int .i64 0, .slice none 0 0, .slice none 0 0, .slice none 0 0], .int .i64 0, .int .i64 1]) (results_ctt Tryz.results10 _ _ (W.heap.size + 1) 29 #[.int .i64 0, .slice none 0 0, .slice none 0 0, .slice none 0 0] (0, 0) _ _ _ rfl rfl rfl (row_setCell (row_setCell (row_setCell (row_setCell HI5.out.re _) _) _) _) Tryz.underlying29 rfl (by kernel_rfl)) rfl ⟨.inr ⟨HLfb.out, n, k, HOk.out, .inr ⟨HNo.out, rfl⟩⟩, (((HI5.out.old.setCell (by simp) _).setCell (by simp) _).setCell (by simp) _).setCell (by simp) _⟩
    have HLx1 : Hid (LvX s1 m e n1 k1 p) := hlx
    have HL4 : Hid (Lies w4 ra (i64s (lvI p))) := hl
    have HF1 : Hid (Fsh w3.heap.size ra) := hfs
    have hfit1 := hlx.1.fit
    have hpos1 := hlx.1.pos
    have hpl : p.length = e := lvX_len hlx
    have HPl : Hid (p.length = e) := hpl
    obtain ⟨j1, HJ1⟩ : ∃ j, Hid (k1 + n1 = j) := ⟨_, rfl⟩
    have hj1 : ((j1 : Int) == 0) = false := by rw [← HJ1.out]; simp; omega
    have hjs1 : j1 ≤ s1.size := by rw [← HJ1.out]; omega
    have hji1 : (j1 : Int) ≤ (s1.size : Int) := by omega
    rw [HJ1.out]
    have HI5 : Hid (PoI W lid kind (m : Int) (dd : Int) pa pn pc (.slice ra p.length rc) (.slice none 0 0) (.slice none 0 0) (w4.setCell ⟨W.heap.size + 1 + 1, 1, none⟩ (.slice ra p.length rc))) := HI4.out.putR (.slice ra p.length rc)
    have HL5 : Hid (Lies (w4.setCell ⟨W.heap.size + 1 + 1, 1, none⟩ (.slice ra p.length rc)) ra (i64s (lvI p))) := HL4.out.fset HF1.out (by omega)
    have HS5 : Hid ((w4.setCell ⟨W.heap.size + 1 + 1, 1, none⟩ (.slice ra p.length rc)).heap[T]? = some (.cells #[.int .i64 (e : Nat), .int .i64 (u : Nat), .bool th, .int .i64 tn.k, .int .i64 tn.n, .string tn.s, .int .i64 tx.k, .int .i64 tx.n, .string tx.s] 46 (0, 0))) := blk_other HS4.out (by omega) _
    have hz5 : w3.heap.size ≤ (w4.setCell ⟨W.heap.size + 1 + 1, 1, none⟩ (.slice ra p.length rc)).heap.size := by simpa using hz4
    clear hlx hl hfs hpl hfit1 hpos1
    go_upto_region 12 with fail
    generalize w4.setCell ⟨W.heap.size + 1 + 1, 1, none⟩ (.slice ra p.length rc) = w5 at HI5 HL5 HS5 hz5 ⊢
    clear HI4 HL4 HS4 hz4 c0 c1 c2 c3 d0 d1 d2 d3
    obtain ⟨s2, HS2⟩ : ∃ x, Hid (s1.extract j1 s1.size = x) := ⟨_, rfl⟩
    have hs2 : s2.size ≤ 3000 := by rw [← HS2.out, ByteArray.size_extract]; omega
    have hex2 : s1.extract j1 s1.size = s2 := HS2.out
    -- with the first levels known
    have HRq2 : Hid (∀ p' d vs t' n1' k1' n2 k2 b n3 k3, RfAt lid kind m dd bd t' n1' k1' p' n2 k2 d b n3 k3 vs → p' = p ∧ LvX s2 dd e n2 k2 d ∧ BsAt (s2.extract (k2 + n2) s2.size) kind (e - u) b n3 k3 vs ∧ ((s2.extract (k2 + n2) s2.size).extract 1 (s2.extract (k2 + n2) s2.size).size).size = k3 + n3) := fun p' d vs t' n1' k1' n2 k2 b n3 k3 h => (by
      obtain ⟨_, h1, h2, h3, h4⟩ := HRq.out _ _ _ _ _ _ _ _ _ _ _ h
      obtain ⟨rfl, rfl⟩ := h1.1.fn HLx1.out.1
      have h5 := h1.2
      rw [HLx1.out.2] at h5
      cases h5
      rw [HJ1.out, HS2.out] at h2 h3 h4
      exact ⟨rfl, h2, h3, h4⟩)
    obtain ⟨⟨p0, p1, p2, p3, p4⟩, _⟩ := row_five HI5.out.lf
    obtain ⟨⟨t0, t1, t2, t3, t4, t5, t6, t7, t8⟩, _⟩ := row_nine HS5.out
    go_wp2_with fail
    (try rw [hex2])
    refine Calls.mono (levelsOf_any s2 dd e w5 hs2 (by omega) he) ?_
    rintro e' w6 ⟨hx, hb6⟩
    have HI6 : Hid (PoI W lid kind (m : Int) (dd : Int) pa pn pc (.slice ra p.length rc) (.slice none 0 0) (.slice none 0 0) w6) := HI5.out.keep hb6
    have HS6 : Hid (w6.heap[T]? = some (.cells #[.int .i64 (e : Nat), .int .i64 (u : Nat), .bool th, .int .i64 tn.k, .int .i64 tn.n, .string tn.s, .int .i64 tx.k, .int .i64 tx.n, .string tx.s] 46 (0, 0))) := blk_keep hb6 HS5.out
    have HL6 : Hid (Lies w6 ra (i64s (lvI p))) := HL5.out.keep hb6
    have hz6 : w5.heap.size ≤ w6.heap.size := hb6.size
    clear hb6 HI5 HS5 HL5 p0 p1 p2 p3 p4 t0 t1 t2 t3 t4 t5 t6 t7 t8
    obtain ⟨c0, c1, c2, c3⟩ := row_four HI6.out.co
    obtain ⟨d0, d1, d2, d3⟩ := row_fourA HI6.out.co
    rcases hx with ⟨n2, k2, d, da, dc, hlx, rfl, hl, hfs⟩ | ⟨hno, rfl⟩
    rotate_left
    · have HNo : Hid (¬ ∃ p d vs, IsBd lid kind ((m : Nat) : Int).toNat ((dd : Nat) : Int).toNat (bodyAt s n k) p d vs) := fun ⟨p', d', vs', t', n1', k1', n2', k2', b', n3', k3', hq⟩ => (by
        rw [HBy.out] at hq
        have hq : RfAt lid kind m dd bd t' n1' k1' p' n2' k2' d' b' n3' k3' vs' := bdAt_rf hq
        exact hno ⟨_, _, _, (HRq2.out _ _ _ _ _ _ _ _ _ _ _ hq).2.1⟩)
      have HI7 : Hid (PoI W lid kind (m : Int) (dd : Int) pa pn pc (.slice ra p.length rc) (.slice none 0 0) (.slice none 0 0) (w6.setCell ⟨W.heap.size + 1 + 1, 2, none⟩ (.slice none 0 0))) := HI6.out.putD (.slice none 0 0)
      clear hno
      go_upto_region 16 with fail
      generalize w6.setCell ⟨W.heap.size + 1 + 1, 2, none⟩ (.slice none 0 0) = w7 at HI7 ⊢
      obtain ⟨z0, z1, z2, z3⟩ := row_four HI7.out.re
      obtain ⟨y0, y1, y2, y3⟩ := row_fourA HI7.out.re
      go_wp2
      exact bodyPost_ret (v := .tuple #[.agg #[.int .i64 0, .slice none 0 0, .slice none 0 0, .slice none 0 0], .int .i64 0, .int .i64 1]) (results_ctt Tryz.results10 _ _ (W.heap.size + 1) 29 #[.int .i64 0, .slice none 0 0, .slice none 0 0, .slice none 0 0] (0, 0) _ _ _ rfl rfl rfl (row_setCell (row_setCell (row_setCell (row_setCell HI7.out.re _) _) _) _) Tryz.underlying29 rfl (by kernel_rfl)) rfl ⟨.inr ⟨HLfb.out, n, k, HOk.out, .inr ⟨HNo.out, rfl⟩⟩, (((HI7.out.old.setCell (by simp) _).setCell (by simp) _).setCell (by simp) _).setCell (by simp) _⟩
    have HLx2 : Hid (LvX s2 dd e n2 k2 d) := hlx
    have HM6 : Hid (Lies w6 da (i64s (lvI d))) := hl
    have HF2 : Hid (Fsh w5.heap.size da) := hfs
    have hfit2 := hlx.1.fit
    have hpos2 := hlx.1.pos
    have hdl : d.length = e := lvX_len hlx
    have HDl : Hid (d.length = e) := hdl
    obtain ⟨j2, HJ2⟩ : ∃ j, Hid (k2 + n2 = j) := ⟨_, rfl⟩
    have hj2 : ((j2 : Int) == 0) = false := by rw [← HJ2.out]; simp; omega
    have hjs2 : j2 ≤ s2.size := by rw [← HJ2.out]; omega
    rw [HJ2.out]
    have HI7 : Hid (PoI W lid kind (m : Int) (dd : Int) pa pn pc (.slice ra p.length rc) (.slice da d.length dc) (.slice none 0 0) (w6.setCell ⟨W.heap.size + 1 + 1, 2, none⟩ (.slice da d.length dc))) := HI6.out.putD (.slice da d.length dc)
    have HL7 : Hid (Lies (w6.setCell ⟨W.heap.size + 1 + 1, 2, none⟩ (.slice da d.length dc)) ra (i64s (lvI p))) := HL6.out.fset HF1.out (by omega)
    have HM7 : Hid (Lies (w6.setCell ⟨W.heap.size + 1 + 1, 2, none⟩ (.slice da d.length dc)) da (i64s (lvI d))) := HM6.out.fset HF2.out (by omega)
    have HS7 : Hid ((w6.setCell ⟨W.heap.size + 1 + 1, 2, none⟩ (.slice da d.length dc)).heap[T]? = some (.cells #[.int .i64 (e : Nat), .int .i64 (u : Nat), .bool th, .int .i64 tn.k, .int .i64 tn.n, .string tn.s, .int .i64 tx.k, .int .i64 tx.n, .string tx.s] 46 (0, 0))) := blk_other HS6.out (by omega) _
    have hz7 : w5.heap.size ≤ (w6.setCell ⟨W.heap.size + 1 + 1, 2, none⟩ (.slice da d.length dc)).heap.size := by simpa using hz6
    clear hlx hl hfs hdl hfit2 hpos2
    go_upto_region 16 with fail
    generalize w6.setCell ⟨W.heap.size + 1 + 1, 2, none⟩ (.slice da d.length dc) = w7 at HI7 HL7 HM7 HS7 hz7 ⊢
    clear HI6 HL6 HM6 HS6 hz6 c0 c1 c2 c3 d0 d1 d2 d3
    obtain ⟨s3, HS3⟩ : ∃ x, Hid (s2.extract j2 s2.size = x) := ⟨_, rfl⟩
    have HRq3 : Hid (∀ p' d' vs t' n1' k1' n2' k2' b n3 k3, RfAt lid kind m dd bd t' n1' k1' p' n2' k2' d' b n3 k3 vs → p' = p ∧ d' = d ∧ BsAt s3 kind (e - u) b n3 k3 vs ∧ (s3.extract 1 s3.size).size = k3 + n3) := fun p' d' vs t' n1' k1' n2' k2' b n3 k3 h => (by
      obtain ⟨h0, h1, h3, h4⟩ := HRq2.out _ _ _ _ _ _ _ _ _ _ _ h
      obtain ⟨rfl, rfl⟩ := h1.1.fn HLx2.out.1
      have h5 := h1.2
      rw [HLx2.out.2] at h5
      cases h5
      rw [HJ2.out, HS3.out] at h3 h4
      exact ⟨h0, rfl, h3, h4⟩)
    by_cases hend : s2.size ≤ j2
    · have q1 : decide ((s2.size : Int) ≤ (j2 : Int)) = true := by simp; omega
      have q1n : decide (s2.size ≤ j2) = true := by simp; omega
      have HNo : Hid (¬ ∃ p d vs, IsBd lid kind ((m : Nat) : Int).toNat ((dd : Nat) : Int).toNat (bodyAt s n k) p d vs) := fun ⟨p', d', vs', t', n1', k1', n2', k2', b', n3', k3', hq⟩ => (by
        rw [HBy.out] at hq
        have hq : RfAt lid kind m dd bd t' n1' k1' p' n2' k2' d' b' n3' k3' vs' := bdAt_rf hq
        obtain ⟨r', hr'⟩ := (HRq3.out _ _ _ _ _ _ _ _ _ _ _ hq).2.2.1.code
        have h2 := congrArg List.length hr'
        rw [← HS3.out, Array.length_toList] at h2
        have h3 : (s2.extract j2 s2.size).size = (b' :: r').length := h2
        rw [ByteArray.size_extract, List.length_cons] at h3
        omega)
      clear hend
      obtain ⟨z0, z1, z2, z3⟩ := row_four HI7.out.re
      obtain ⟨y0, y1, y2, y3⟩ := row_fourA HI7.out.re
      go_wp2
      exact bodyPost_ret (v := .tuple #[.agg #[.int .i64 0, .slice none 0 0, .slice none 0 0, .slice none 0 0], .int .i64 0, .int .i64 1]) (results_ctt Tryz.results10 _ _ (W.heap.size + 1) 29 #[.int .i64 0, .slice none 0 0, .slice none 0 0, .slice none 0 0] (0, 0) _ _ _ rfl rfl rfl (row_setCell (row_setCell (row_setCell (row_setCell HI7.out.re _) _) _) _) Tryz.underlying29 rfl (by kernel_rfl)) rfl ⟨.inr ⟨HLfb.out, n, k, HOk.out, .inr ⟨HNo.out, rfl⟩⟩, (((HI7.out.old.setCell (by simp) _).setCell (by simp) _).setCell (by simp) _).setCell (by simp) _⟩
    have q1 : decide ((s2.size : Int) ≤ (j2 : Int)) = false := by simp; omega
    have q1n : decide (s2.size ≤ j2) = false := by simp; omega
    have hjl2 : j2 < s2.size := by omega
    have HCb : Hid (s3.data.toList = s2[j2] :: s2.data.toList.drop (j2 + 1)) := (by show _ = _; rw [← HS3.out, drop_ext]; exact drop_cons s2 j2 hjl2)
    obtain ⟨b, hidx⟩ : ∃ b, s2[j2] = b := ⟨_, rfl⟩
    rw [hidx] at HCb
    have hb8 := b.toNat_lt
    have hw64 : wrap64 (b.toNat : Int) = (b.toNat : Int) := by unfold wrap64; omega
    obtain ⟨s4, HS4⟩ : ∃ x, Hid (s2.extract (j2 + 1) s2.size = x) := ⟨_, rfl⟩
    have HS34 : Hid (s3.extract 1 s3.size = s4) := (by show _ = _; rw [← HS3.out, ← HS4.out]; exact ext_ext s2 j2 1 (by omega))
    have hs4 : s4.size ≤ 3000 := by rw [← HS4.out, ByteArray.size_extract]; omega
    have hex4 : s2.extract (j2 + 1) s2.size = s4 := HS4.out
    have hji2 : (j2 : Int) + 1 ≤ (s2.size : Int) := by omega
    clear hend
    go_wp2_with fail
    (try rw [hex4])
    refine Calls.mono (readLong_x s4 w7 hs4) ?_
    rintro e' wq ⟨hx, hw⟩
    obtain rfl := hw.symm
    rcases hx with ⟨n3, k3, hlt3, rfl⟩ | ⟨hno, rfl⟩
    rotate_left
    · have HNo : Hid (¬ ∃ p d vs, IsBd lid kind ((m : Nat) : Int).toNat ((dd : Nat) : Int).toNat (bodyAt s n k) p d vs) := fun ⟨p', d', vs', t', n1', k1', n2', k2', b', n3', k3', hq⟩ => (by
        rw [HBy.out] at hq
        have hq : RfAt lid kind m dd bd t' n1' k1' p' n2' k2' d' b' n3' k3' vs' := bdAt_rf hq
        have h2 := (HRq3.out _ _ _ _ _ _ _ _ _ _ _ hq).2.2.1.tx
        rw [HS34.out] at h2
        exact hno ⟨_, _, h2⟩)
      clear hno
      obtain ⟨z0, z1, z2, z3⟩ := row_four HI7.out.re
      obtain ⟨y0, y1, y2, y3⟩ := row_fourA HI7.out.re
      go_wp2
      exact bodyPost_ret (v := .tuple #[.agg #[.int .i64 0, .slice none 0 0, .slice none 0 0, .slice none 0 0], .int .i64 0, .int .i64 1]) (results_ctt Tryz.results10 _ _ (W.heap.size + 1) 29 #[.int .i64 0, .slice none 0 0, .slice none 0 0, .slice none 0 0] (0, 0) _ _ _ rfl rfl rfl (row_setCell (row_setCell (row_setCell (row_setCell HI7.out.re _) _) _) _) Tryz.underlying29 rfl (by kernel_rfl)) rfl ⟨.inr ⟨HLfb.out, n, k, HOk.out, .inr ⟨HNo.out, rfl⟩⟩, (((HI7.out.old.setCell (by simp) _).setCell (by simp) _).setCell (by simp) _).setCell (by simp) _⟩
    have HLt : Hid (LtAt s4 n3 k3) := hlt3
    have hfit3 := hlt3.fit
    have hpos3 := hlt3.pos
    obtain ⟨j3, HJ3⟩ : ∃ j, Hid (k3 + n3 = j) := ⟨_, rfl⟩
    have hj3 : ((j3 : Int) == 0) = false := by rw [← HJ3.out]; simp; omega
    obtain ⟨vt, HVt⟩ : ∃ x, Hid (s4.extract k3 (k3 + n3) = x) := ⟨_, rfl⟩
    have hvt : vt.size ≤ 3000 := by rw [← HVt.out, ByteArray.size_extract]; omega
    rw [HVt.out, HJ3.out]
    clear hlt3 hfit3 hpos3
    by_cases hfn : j3 = s4.size
    rotate_left
    · have q2 : ((j3 : Int) != (s4.size : Int)) = true := by simp; omega
      have HNo : Hid (¬ ∃ p d vs, IsBd lid kind ((m : Nat) : Int).toNat ((dd : Nat) : Int).toNat (bodyAt s n k) p d vs) := fun ⟨p', d', vs', t', n1', k1', n2', k2', b', n3', k3', hq⟩ => (by
        rw [HBy.out] at hq
        have hq : RfAt lid kind m dd bd t' n1' k1' p' n2' k2' d' b' n3' k3' vs' := bdAt_rf hq
        obtain ⟨_, _, h2, h3⟩ := HRq3.out _ _ _ _ _ _ _ _ _ _ _ hq
        have h4 := h2.tx
        rw [HS34.out] at h3 h4
        obtain ⟨rfl, rfl⟩ := h4.fn HLt.out
        rw [HJ3.out] at h3
        exact hfn h3.symm)
      clear hfn
      obtain ⟨z0, z1, z2, z3⟩ := row_four HI7.out.re
      obtain ⟨y0, y1, y2, y3⟩ := row_fourA HI7.out.re
      go_wp2
      exact bodyPost_ret (v := .tuple #[.agg #[.int .i64 0, .slice none 0 0, .slice none 0 0, .slice none 0 0], .int .i64 0, .int .i64 1]) (results_ctt Tryz.results10 _ _ (W.heap.size + 1) 29 #[.int .i64 0, .slice none 0 0, .slice none 0 0, .slice none 0 0] (0, 0) _ _ _ rfl rfl rfl (row_setCell (row_setCell (row_setCell (row_setCell HI7.out.re _) _) _) _) Tryz.underlying29 rfl (by kernel_rfl)) rfl ⟨.inr ⟨HLfb.out, n, k, HOk.out, .inr ⟨HNo.out, rfl⟩⟩, (((HI7.out.old.setCell (by simp) _).setCell (by simp) _).setCell (by simp) _).setCell (by simp) _⟩
    have q2 : ((j3 : Int) != (s4.size : Int)) = false := by simp; omega
    have HFin : Hid (j3 = s4.size) := hfn
    have hsb : IntKind.i64.wrap ((e : Int) - (u : Int)) = ((e - u : Nat) : Int) := by rw [IntKind.wrap_i64]; omega
    obtain ⟨⟨p0, p1, p2, p3, p4⟩, _⟩ := row_five HI7.out.lf
    obtain ⟨⟨t0, t1, t2, t3, t4, t5, t6, t7, t8⟩, _⟩ := row_nine HS7.out
    clear hfn
    go_wp2_with fail
    refine Calls.mono (bsOf_c kind (b.toNat : Int) vt (e - u) w7 hvt (by omega) hk1 hk5) ?_
    rintro e' w8 ⟨hx, hb8x⟩
    obtain ⟨vs, va, vc, cd, rfl, hlv, hfv, hvn, hcd⟩ : ∃ (vs : List Vl) (va : Option Addr) (vc : Nat) (cd : Int), e' = .returned (.tuple #[.slice va vs.length vc, .int .i64 cd]) ∧ LiesV w8 va vs ∧ Fsh w7.heap.size va ∧ vs.length ≤ 20000 ∧ ((cd = 0 ∧ HasC kind b.toNat ∧ IsBs kind b.toNat vt.data.toList (e - u) vs) ∨ (0 < cd ∧ ∀ us, HasC kind b.toNat → ¬ IsBs kind b.toNat vt.data.toList (e - u) us)) := (by
      rcases hx with ⟨h0, vs, a, c, h1, h2, h3, h4⟩ | ⟨h0, h1, h2⟩ | ⟨h0, h2⟩
      · exact ⟨vs, a, c, 0, h2, h3, h4, by rw [isBs_len h1]; omega, .inl ⟨rfl, h0, h1⟩⟩
      · exact ⟨[], none, 0, 1, h2, fun j hj => absurd hj (by simp), (fun q e => by cases e), by simp, .inr ⟨by omega, fun us _ h => h1 ⟨us, h⟩⟩⟩
      · exact ⟨[], none, 0, 3, h2, fun j hj => absurd hj (by simp), (fun q e => by cases e), by simp, .inr ⟨by omega, fun us h _ => h0 h⟩⟩)
    have HI8 : Hid (PoI W lid kind (m : Int) (dd : Int) pa pn pc (.slice ra p.length rc) (.slice da d.length dc) (.slice none 0 0) w8) := HI7.out.keep hb8x
    have HS8 : Hid (w8.heap[T]? = some (.cells #[.int .i64 (e : Nat), .int .i64 (u : Nat), .bool th, .int .i64 tn.k, .int .i64 tn.n, .string tn.s, .int .i64 tx.k, .int .i64 tx.n, .string tx.s] 46 (0, 0))) := blk_keep hb8x HS7.out
    have HL8 : Hid (Lies w8 ra (i64s (lvI p))) := HL7.out.keep hb8x
    have HM8 : Hid (Lies w8 da (i64s (lvI d))) := HM7.out.keep hb8x
    have HV8 : Hid (LiesV w8 va vs) := hlv
    have HF3 : Hid (Fsh w7.heap.size va) := hfv
    have HCd : Hid ((cd = 0 ∧ HasC kind b.toNat ∧ IsBs kind b.toNat vt.data.toList (e - u) vs) ∨ (0 < cd ∧ ∀ us, HasC kind b.toNat → ¬ IsBs kind b.toNat vt.data.toList (e - u) us)) := hcd
    have hz8 : w7.heap.size ≤ w8.heap.size := hb8x.size
    clear hx hb8x hlv hfv hcd HI7 HS7 HL7 HM7 p0 p1 p2 p3 p4 t0 t1 t2 t3 t4 t5 t6 t7 t8
    obtain ⟨c0, c1, c2, c3⟩ := row_four HI8.out.co
    obtain ⟨d0, d1, d2, d3⟩ := row_fourA HI8.out.co
    have HI9 : Hid (PoI W lid kind (m : Int) (dd : Int) pa pn pc (.slice ra p.length rc) (.slice da d.length dc) (.slice va vs.length vc) (w8.setCell ⟨W.heap.size + 1 + 1, 3, none⟩ (.slice va vs.length vc))) := HI8.out.putV (.slice va vs.length vc)
    have HL9 : Hid (Lies (w8.setCell ⟨W.heap.size + 1 + 1, 3, none⟩ (.slice va vs.length vc)) ra (i64s (lvI p))) := HL8.out.fset HF1.out (by omega)
    have HM9 : Hid (Lies (w8.setCell ⟨W.heap.size + 1 + 1, 3, none⟩ (.slice va vs.length vc)) da (i64s (lvI d))) := HM8.out.fset HF2.out (by omega)
    have HV9 : Hid (LiesV (w8.setCell ⟨W.heap.size + 1 + 1, 3, none⟩ (.slice va vs.length vc)) va vs) := HV8.out.fset HF3.out (by omega)
    have HS9 : Hid ((w8.setCell ⟨W.heap.size + 1 + 1, 3, none⟩ (.slice va vs.length vc)).heap[T]? = some (.cells #[.int .i64 (e : Nat), .int .i64 (u : Nat), .bool th, .int .i64 tn.k, .int .i64 tn.n, .string tn.s, .int .i64 tx.k, .int .i64 tx.n, .string tx.s] 46 (0, 0))) := blk_other HS8.out (by omega) _
    go_upto_region 24 with fail
    generalize w8.setCell ⟨W.heap.size + 1 + 1, 3, none⟩ (.slice va vs.length vc) = w9 at HI9 HL9 HM9 HV9 HS9 ⊢
    clear HI8 HL8 HM8 HV8 HS8 hz8 c0 c1 c2 c3 d0 d1 d2 d3
    have HCe : Hid (Calls Tryz.prog 29 #[.agg #[.int .i64 lid, .int .i64 kind, .int .i64 (m : Nat), .int .i64 (dd : Nat), .slice pa pn pc], .agg #[.int .i64 lid, .slice ra p.length rc, .slice da d.length dc, .slice va vs.length vc], .bool true] w9 fun e' w' => (∃ c at_, e' = .returned (.agg (rfl2 c at_)) ∧ ColErrT lid kind m dd lid (lvI p) (lvI d) vs c at_) ∧ Below w9.heap.size w9 w') := (by
      have h := columnErrorT_any lid kind m dd lid pa ra da va pn pc rc dc vc (lvI p) (lvI d) vs w9 (by rw [lvI_len, HPl.out]; omega) (by omega) HL9.out HM9.out HV9.out
      unfold colV at h
      simp only [lvI_len] at h
      exact h)
    obtain ⟨⟨p0, p1, p2, p3, p4⟩, _⟩ := row_five HI9.out.lf
    obtain ⟨c0, c1, c2, c3⟩ := row_four HI9.out.co
    go_wp2_with fail
    refine Calls.mono HCe.out ?_
    rintro e' wx ⟨⟨fc, fa, rfl, hce⟩, hbx⟩
    have HCE : Hid (ColErrT lid kind m dd lid (lvI p) (lvI d) vs fc fa) := hce
    obtain ⟨wf, HWf, HFb, HBf⟩ := boxed1 wx (rfl2 fc fa) 76
    have hbf : Below w9.heap.size w9 wf := hbx.trans (HBf.out.mono hbx.size)
    have HIf : Hid (PoI W lid kind (m : Int) (dd : Int) pa pn pc (.slice ra p.length rc) (.slice da d.length dc) (.slice va vs.length vc) wf) := HI9.out.keep hbf
    have HSf : Hid (wf.heap[T]? = some (.cells #[.int .i64 (e : Nat), .int .i64 (u : Nat), .bool th, .int .i64 tn.k, .int .i64 tn.n, .string tn.s, .int .i64 tx.k, .int .i64 tx.n, .string tx.s] 46 (0, 0))) := blk_keep hbf HS9.out
    have HLf9 : Hid (Lies wf ra (i64s (lvI p))) := HL9.out.keep hbf
    have HMf : Hid (Lies wf da (i64s (lvI d))) := HM9.out.keep hbf
    have HVf : Hid (LiesV wf va vs) := HV9.out.keep hbf
    unfold rfl2 at HWf HFb
    unfold rfl2
    go_upto_region 25 with fail
    rw [HWf.out]
    clear hce hbx HWf HBf hbf HI9 HL9 HM9 HV9 HS9 HCe p0 p1 p2 p3 p4 c0 c1 c2 c3
    generalize wx.heap.size = FB at HFb ⊢
    try clear wx
    obtain ⟨⟨e0, e1⟩, _, _⟩ := row_two HFb.out
    by_cases hc0 : 0 < cd
    · have q3 : decide ((0 : Int) < cd) = true := decide_eq_true hc0
      have HNo : Hid (¬ ∃ p d vs, IsBd lid kind ((m : Nat) : Int).toNat ((dd : Nat) : Int).toNat (bodyAt s n k) p d vs) := fun ⟨p', d', vs', t', n1', k1', n2', k2', b', n3', k3', hq⟩ => (by
        rw [HBy.out] at hq
        have hq : RfAt lid kind m dd bd t' n1' k1' p' n2' k2' d' b' n3' k3' vs' := bdAt_rf hq
        obtain ⟨_, _, h2, _⟩ := HRq3.out _ _ _ _ _ _ _ _ _ _ _ hq
        obtain ⟨r', h3⟩ := h2.code
        rw [HCb.out] at h3
        cases h3
        have h4 := h2.tx
        have h5 := h2.is
        rw [HS34.out] at h4 h5
        obtain ⟨rfl, rfl⟩ := h4.fn HLt.out
        rw [HVt.out] at h5
        rcases HCd.out with ⟨h6, _⟩ | ⟨_, h6⟩
        · omega
        · exact h6 _ h2.has h5)
      clear hc0
      obtain ⟨z0, z1, z2, z3⟩ := row_four HIf.out.re
      obtain ⟨y0, y1, y2, y3⟩ := row_fourA HIf.out.re
      go_quiet (fail)
      go_wp2
      exact bodyPost_ret (v := .tuple #[.agg #[.int .i64 0, .slice none 0 0, .slice none 0 0, .slice none 0 0], .int .i64 0, .int .i64 1]) (results_ctt Tryz.results10 _ _ (W.heap.size + 1) 29 #[.int .i64 0, .slice none 0 0, .slice none 0 0, .slice none 0 0] (0, 0) _ _ _ rfl rfl rfl (by first | exact (row_setCell (row_setCell (row_setCell (row_setCell HIf.out.re _) _) _) _) | exact (row_setCell (row_setCell (row_setCell (row_setCell (show (World.drewN _ _).heap[W.heap.size + 1]? = _ from HIf.out.re) _) _) _) _)) Tryz.underlying29 rfl (by kernel_rfl)) rfl ⟨.inr ⟨HLfb.out, n, k, HOk.out, .inr ⟨HNo.out, rfl⟩⟩, ((((below_dQ HIf.out.old _).setCell (by simp) _).setCell (by simp) _).setCell (by simp) _).setCell (by simp) _⟩
    obtain ⟨rfl, hhas, his⟩ : cd = 0 ∧ HasC kind b.toNat ∧ IsBs kind b.toNat vt.data.toList (e - u) vs := (by
      rcases HCd.out with h | ⟨h, _⟩
      · exact h
      · exact absurd h hc0)
    have HIs : Hid (HasC kind b.toNat ∧ IsBs kind b.toNat vt.data.toList (e - u) vs) := ⟨hhas, his⟩
    -- what is read is all that could be
    have HUn : Hid (∀ p' d' vs' t' n1' k1' n2' k2' b' n3' k3', RfAt lid kind m dd bd t' n1' k1' p' n2' k2' d' b' n3' k3' vs' → p' = p ∧ d' = d ∧ vs' = vs) := fun p' d' vs' t' n1' k1' n2' k2' b' n3' k3' h => (by
      obtain ⟨h0, h1, h2, _⟩ := HRq3.out _ _ _ _ _ _ _ _ _ _ _ h
      obtain ⟨r', h3⟩ := h2.code
      rw [HCb.out] at h3
      cases h3
      have h4 := h2.tx
      have h5 := h2.is
      rw [HS34.out] at h4 h5
      obtain ⟨rfl, rfl⟩ := h4.fn HLt.out
      rw [HVt.out] at h5
      exact ⟨h0, h1, isBs_fn h5 HIs.out.2⟩)
    clear hhas his hc0
    by_cases hfc : 0 < fc
    · have q4 : decide ((0 : Int) < fc) = true := decide_eq_true hfc
      have HNo : Hid (¬ ∃ p d vs, IsBd lid kind ((m : Nat) : Int).toNat ((dd : Nat) : Int).toNat (bodyAt s n k) p d vs) := fun ⟨p', d', vs', t', n1', k1', n2', k2', b', n3', k3', hq⟩ => (by
        rw [HBy.out] at hq
        have hq : RfAt lid kind m dd bd t' n1' k1' p' n2' k2' d' b' n3' k3' vs' := bdAt_rf hq
        obtain ⟨rfl, rfl, rfl⟩ := HUn.out _ _ _ _ _ _ _ _ _ _ _ hq
        rcases HCE.out with ⟨_, _, h2⟩ | ⟨_, ⟨h2, _⟩ | ⟨p2, hp2, _, _, h2, _⟩⟩
        · rw [HLfb.out, Bool.true_and, hq.fit] at h2
          cases h2
        · omega
        · rw [hq.ok p2 hp2] at h2
          cases h2)
      clear hfc
      obtain ⟨z0, z1, z2, z3⟩ := row_four HIf.out.re
      obtain ⟨y0, y1, y2, y3⟩ := row_fourA HIf.out.re
      go_quiet (fail)
      go_wp2
      exact bodyPost_ret (v := .tuple #[.agg #[.int .i64 0, .slice none 0 0, .slice none 0 0, .slice none 0 0], .int .i64 0, .int .i64 1]) (results_ctt Tryz.results10 _ _ (W.heap.size + 1) 29 #[.int .i64 0, .slice none 0 0, .slice none 0 0, .slice none 0 0] (0, 0) _ _ _ rfl rfl rfl (by first | exact (row_setCell (row_setCell (row_setCell (row_setCell HIf.out.re _) _) _) _) | exact (row_setCell (row_setCell (row_setCell (row_setCell (show (World.drewN _ _).heap[W.heap.size + 1]? = _ from HIf.out.re) _) _) _) _)) Tryz.underlying29 rfl (by kernel_rfl)) rfl ⟨.inr ⟨HLfb.out, n, k, HOk.out, .inr ⟨HNo.out, rfl⟩⟩, ((((below_dQ HIf.out.old _).setCell (by simp) _).setCell (by simp) _).setCell (by simp) _).setCell (by simp) _⟩
    have q4 : decide ((0 : Int) < fc) = false := decide_eq_false hfc
    obtain ⟨hf1, hf2⟩ : fitT lid m dd lid (lvI p) (lvI d) vs.length = true ∧ ∀ j (h : j < vs.length), badV kind vs[j] = false := (by
      rcases HCE.out with ⟨h2, _⟩ | ⟨h1, ⟨_, _, h2⟩ | ⟨p2, hp2, h2, _⟩⟩
      · omega
      · rw [HLfb.out, Bool.true_and] at h1
        exact ⟨h1, h2⟩
      · omega)
    have hfc0 : fc = 0 := (by
      rcases HCE.out with ⟨h2, _⟩ | ⟨h1, ⟨h2, _⟩ | ⟨p2, hp2, h2, _⟩⟩ <;> omega)
    subst hfc0
    obtain ⟨oc, HOc⟩ : ∃ x, Hid (ofC ⟨lid, none, lvI p, 0, none, lvI d, 0, none, vs, 0⟩ = x) := ⟨_, rfl⟩
    have HFo : Hid (fitT lid m dd lid (lvI p) (lvI d) vs.length = true ∧ ∀ j (h : j < vs.length), badV kind vs[j] = false) := ⟨hf1, hf2⟩
    clear hf1 hf2 hfc
    have HSo : Hid (∀ X, Below wf.heap.size wf X → Calls Tryz.prog 30 #[.agg #[.int .i64 lid, .slice ra p.length rc, .slice da d.length dc, .slice va vs.length vc]] X fun e' w' => e' = .returned (.agg #[.int .i64 oc.e, .int .i64 oc.u, .bool oc.h, .int .i64 oc.mn.k, .int .i64 oc.mn.n, .string oc.mn.s, .int .i64 oc.mx.k, .int .i64 oc.mx.n, .string oc.mx.s]) ∧ Below wf.heap.size wf w') := fun X hX => (by
      have h := statsOfR_any ⟨lid, ra, lvI p, rc, da, lvI d, dc, va, vs, vc⟩ X (by show (lvI p).length ≤ _; rw [lvI_len, HPl.out]; omega) (by show vs.length ≤ _; omega) ⟨HLf9.out.keep hX, HMf.out.keep hX, HVf.out.keep hX⟩ (isBs_low HIs.out.2)
      simp only [lvI_len] at h
      refine h.mono fun e' w' hq => ⟨?_, bel_next hX (Nat.le_refl _) hq.2⟩
      rw [hq.1, ← HOc.out]
      rfl)
    have hnq := neqSt3_run oc ⟨(e : Int), (u : Int), th, tn, tx⟩
    simp only at hnq
    obtain ⟨eb, heq⟩ : ∃ x, oc.eqB ⟨(e : Int), (u : Int), th, tn, tx⟩ = x := ⟨_, rfl⟩
    rw [heq] at hnq
    have HN : Hid (∀ X, Below wf.heap.size wf X → X.cell? ⟨FB, 0, none⟩ = some (.int .i64 0) ∧ (X.cell? ⟨W.heap.size + 1 + 1, 0, none⟩ = some (.int .i64 lid) ∧ X.cell? ⟨W.heap.size + 1 + 1, 1, none⟩ = some (.slice ra p.length rc) ∧ X.cell? ⟨W.heap.size + 1 + 1, 2, none⟩ = some (.slice da d.length dc) ∧ X.cell? ⟨W.heap.size + 1 + 1, 3, none⟩ = some (.slice va vs.length vc)) ∧ (X.cell? ⟨T, 0, none⟩ = some (.int .i64 (e : Nat)) ∧ X.cell? ⟨T, 1, none⟩ = some (.int .i64 (u : Nat)) ∧ X.cell? ⟨T, 2, none⟩ = some (.bool th) ∧ X.cell? ⟨T, 3, none⟩ = some (.int .i64 tn.k) ∧ X.cell? ⟨T, 4, none⟩ = some (.int .i64 tn.n) ∧ X.cell? ⟨T, 5, none⟩ = some (.string tn.s) ∧ X.cell? ⟨T, 6, none⟩ = some (.int .i64 tx.k) ∧ X.cell? ⟨T, 7, none⟩ = some (.int .i64 tx.n) ∧ X.cell? ⟨T, 8, none⟩ = some (.string tx.s)) ∧ Below wf.heap.size wf X) := fun X hX => ⟨(row_two (blk_keep hX HFb.out)).1.1, row_four (blk_keep hX HIf.out.co), (row_nine (blk_keep hX HSf.out)).1, hX⟩
    have b0 : Below wf.heap.size wf wf := Below.refl _ _
    have q3 : decide ((0 : Int) < 0) = false := by simp
    go_cut [135] (fun x wv => x = .bool (!eb) ∧ Hid (Below wf.heap.size wf wv))
    case first =>
      clear e0 e1
      go_region_held3 (fun X => X.cell? ⟨FB, 0, none⟩ = some (.int .i64 0) ∧ (X.cell? ⟨W.heap.size + 1 + 1, 0, none⟩ = some (.int .i64 lid) ∧ X.cell? ⟨W.heap.size + 1 + 1, 1, none⟩ = some (.slice ra p.length rc) ∧ X.cell? ⟨W.heap.size + 1 + 1, 2, none⟩ = some (.slice da d.length dc) ∧ X.cell? ⟨W.heap.size + 1 + 1, 3, none⟩ = some (.slice va vs.length vc)) ∧ (X.cell? ⟨T, 0, none⟩ = some (.int .i64 (e : Nat)) ∧ X.cell? ⟨T, 1, none⟩ = some (.int .i64 (u : Nat)) ∧ X.cell? ⟨T, 2, none⟩ = some (.bool th) ∧ X.cell? ⟨T, 3, none⟩ = some (.int .i64 tn.k) ∧ X.cell? ⟨T, 4, none⟩ = some (.int .i64 tn.n) ∧ X.cell? ⟨T, 5, none⟩ = some (.string tn.s) ∧ X.cell? ⟨T, 6, none⟩ = some (.int .i64 tx.k) ∧ X.cell? ⟨T, 7, none⟩ = some (.int .i64 tx.n) ∧ X.cell? ⟨T, 8, none⟩ = some (.string tx.s)) ∧ Below wf.heap.size wf X) (with_reducible refine HN.out _ ?_; repeat' (first | with_reducible assumption | with_reducible exact b0.drew | with_reducible exact b0 | with_reducible refine Below.drew ?_ | with_reducible exact Nat.le_refl _ | with_reducible refine Below.setCell ?_ ?_ _ | with_reducible refine Below.alloc ?_ ?_ _ | with_reducible exact Below.size (by assumption) | (simp; done) | (simp; omega) | omega)) (first | (go_at_call 30; (with_reducible refine Calls.mono (HSo.out _ ?_) ?_); (repeat' (first | with_reducible assumption | with_reducible exact b0.drew | with_reducible exact b0 | with_reducible refine Below.drew ?_ | with_reducible refine Below.alloc ?_ ?_ _ | with_reducible exact Below.size (by assumption) | with_reducible exact Nat.le_refl _ | (simp; done) | (simp; omega))); rintro e' x2 ⟨rfl, hbx2⟩))
      all_goals
        go_wp2_with fail
        go_meet
        exact ⟨rfl, hbx2⟩
    case rest =>
      obtain ⟨rfl, HBv⟩ := hcut
      rename World => wv
      have HIv : Hid (PoI W lid kind (m : Int) (dd : Int) pa pn pc (.slice ra p.length rc) (.slice da d.length dc) (.slice va vs.length vc) wv) := HIf.out.keep HBv.out
      obtain ⟨z0, z1, z2, z3⟩ := row_four HIv.out.re
      obtain ⟨y0, y1, y2, y3⟩ := row_fourA HIv.out.re
      cases eb with
      | false =>
        have HNo : Hid (¬ ∃ p d vs, IsBd lid kind ((m : Nat) : Int).toNat ((dd : Nat) : Int).toNat (bodyAt s n k) p d vs) := fun ⟨p', d', vs', t', n1', k1', n2', k2', b', n3', k3', hq⟩ => (by
        rw [HBy.out] at hq
        have hq : RfAt lid kind m dd bd t' n1' k1' p' n2' k2' d' b' n3' k3' vs' := bdAt_rf hq
        obtain ⟨rfl, rfl, rfl⟩ := HUn.out _ _ _ _ _ _ _ _ _ _ _ hq
        have h2 := (HRq.out _ _ _ _ _ _ _ _ _ _ _ hq).1
        have h3 := hq.told
        rw [h2] at h3
        have h4 := HOc.out.symm.trans h3
        rw [St.eqB_iff.2 h4] at heq
        cases heq)
        clear heq
        go_wp2
        exact bodyPost_ret (v := .tuple #[.agg #[.int .i64 0, .slice none 0 0, .slice none 0 0, .slice none 0 0], .int .i64 0, .int .i64 1]) (results_ctt Tryz.results10 _ _ (W.heap.size + 1) 29 #[.int .i64 0, .slice none 0 0, .slice none 0 0, .slice none 0 0] (0, 0) _ _ _ rfl rfl rfl (row_setCell (row_setCell (row_setCell (row_setCell HIv.out.re _) _) _) _) Tryz.underlying29 rfl (by kernel_rfl)) rfl ⟨.inr ⟨HLfb.out, n, k, HOk.out, .inr ⟨HNo.out, rfl⟩⟩, (((HIv.out.old.setCell (by simp) _).setCell (by simp) _).setCell (by simp) _).setCell (by simp) _⟩
      | true =>
        have HBd : Hid (IsBd lid kind m dd (bodyAt s n k) p d vs) := (by
          show IsBd _ _ _ _ _ _ _ _
          rw [HBy.out]
          have hto : ofC ⟨lid, none, lvI p, 0, none, lvI d, 0, none, vs, 0⟩ = ⟨(e : Int), (u : Int), th, tn, tx⟩ := HOc.out.trans (St.eqB_iff.1 heq)
          refine ⟨⟨(e : Int), (u : Int), th, tn, tx⟩, n1, k1, n2, k2, b, n3, k3, rfAt_bd HLfb.out ⟨⟨_, HBg.out⟩, ?_, ?_, ?_, ?_, ?_, HFo.out.1, HFo.out.2, hto⟩⟩
          · show (0 : Int) < (e : Int)
            have h2 : ((e : Int) == 0) = false := qe
            simp at h2
            omega
          · rw [HZ.out, HS1.out]; exact HLx1.out
          · rw [HZ.out, HS1.out, HJ1.out, HS2.out]; exact HLx2.out
          · rw [HZ.out, HS1.out, HJ1.out, HS2.out, HJ2.out, HS3.out]
            have h5 : ((e : Int) - (u : Int)).toNat = e - u := by omega
            show BsAt s3 kind ((e : Int) - (u : Int)).toNat b n3 k3 vs
            rw [h5]
            exact ⟨⟨_, HCb.out⟩, by rw [HS34.out]; exact HLt.out, HIs.out.1, by rw [HS34.out, HVt.out]; exact HIs.out.2⟩
          · rw [HZ.out, HS1.out, HJ1.out, HS2.out, HJ2.out, HS3.out, HS34.out, ← HFin.out, HJ3.out])
        have HLv : Hid (Lies wv ra (i64s (lvI p))) := HLf9.out.keep HBv.out
        have HMv : Hid (Lies wv da (i64s (lvI d))) := HMf.out.keep HBv.out
        have HVv : Hid (LiesV wv va vs) := HVf.out.keep HBv.out
        obtain ⟨c0, c1, c2, c3⟩ := row_four HIv.out.co
        have hlt1 : W.heap.size + 1 < w3.heap.size := by omega
        have hlt2 : W.heap.size + 1 < w5.heap.size := by omega
        have hlt3 : W.heap.size + 1 < w7.heap.size := by omega
        clear heq hnq
        go_wp2
        refine bodyPost_ret (v := .tuple #[.agg #[.int .i64 lid, .slice ra p.length rc, .slice da d.length dc, .slice va vs.length vc], .int .i64 ((us : Nat) : Int), .int .i64 0]) (results_ctt Tryz.results10 _ _ (W.heap.size + 1) 29 #[.int .i64 lid, .slice ra p.length rc, .slice da d.length dc, .slice va vs.length vc] (0, 0) _ _ _ rfl rfl rfl (row_setCell (row_setCell (row_setCell (row_setCell HIv.out.re _) _) _) _) Tryz.underlying29 rfl (by kernel_rfl)) rfl ⟨.inr ⟨HLfb.out, n, k, HOk.out, .inl ⟨p, d, ⟨lid, ra, lvI p, rc, da, lvI d, dc, va, vs, vc⟩, HBd.out, rfl, rfl, rfl, ?_, ⟨?_, ?_, ?_⟩⟩⟩, (((HIv.out.old.setCell (by simp) _).setCell (by simp) _).setCell (by simp) _).setCell (by simp) _⟩
        · show Ending.returned _ = Ending.returned (.tuple #[.agg #[.int .i64 lid, .slice ra (lvI p).length rc, .slice da (lvI d).length dc, .slice va vs.length vc], .int .i64 ((k + 5 + n : Nat) : Int), .int .i64 0])
          rw [lvI_len, lvI_len, HU.out]
        · exact (((HLv.out.fset HF1.out hlt1).fset HF1.out hlt1).fset HF1.out hlt1).fset HF1.out hlt1
        · exact (((HMv.out.fset HF2.out hlt2).fset HF2.out hlt2).fset HF2.out hlt2).fset HF2.out hlt2
        · exact (((HVv.out.fset HF3.out hlt3).fset HF3.out hlt3).fset HF3.out hlt3).fset HF3.out hlt3
end Go.Proofs.YteeheodcejeloaaGreatDoor

namespace Go.Proofs.YteeheodcejeloaaGreatDoor
open Go.RowKit
/-- Nothing is told of a column. -/
def Cl.No (x : Cl) : Prop := x.id = 0 ∧ x.rs = [] ∧ x.ds = [] ∧ x.vs = []
/-- What the program's Read tells. -/
def RdF (A : Nat → Addr) (lid kind mr md : Int) (s : ByteArray) (x : Cl) (u : Int) (y : Value) : Prop :=
  (x.No ∧ u = 0 ∧ NoPg (isLfB kind mr md) s (errV (A 2)) (errV (A 0)) (errV (A 6)) y) ∨
  (isLfB kind mr md = true ∧ ∃ n k, PgOk s n k ∧ ((∃ p d, IsBd lid kind mr.toNat md.toNat (bodyAt s n k) p d x.vs ∧ x.id = lid ∧ x.rs = lvI p ∧ x.ds = lvI d ∧ u = ((k + 5 + n : Nat) : Int) ∧ y = .nilIface) ∨ ((¬ ∃ p d vs, IsBd lid kind mr.toNat md.toNat (bodyAt s n k) p d vs) ∧ x.No ∧ u = 0 ∧ y = errV (A 0))))
/-- What the reference's tells. -/
def RdO (lid kind mr md : Int) (s : ByteArray) (x : Cl) (u : Int) (c : Int) : Prop :=
  (x.No ∧ u = 0 ∧ NoPg (isLfB kind mr md) s (.int .i64 3) (.int .i64 1) (.int .i64 7) (.int .i64 c)) ∨
  (isLfB kind mr md = true ∧ ∃ n k, PgOk s n k ∧ ((∃ p d, IsBd lid kind mr.toNat md.toNat (bodyAt s n k) p d x.vs ∧ x.id = lid ∧ x.rs = lvI p ∧ x.ds = lvI d ∧ u = ((k + 5 + n : Nat) : Int) ∧ c = 0) ∨ ((¬ ∃ p d vs, IsBd lid kind mr.toNat md.toNat (bodyAt s n k) p d vs) ∧ x.No ∧ u = 0 ∧ c = 1)))
theorem noPg_ok {s : ByteArray} {sh tx su ev : Value} {n k : Nat} {lf : Bool} (hl : lf = true) (h : PgOk s n k) : ¬ NoPg lf s sh tx su ev := by
  subst hl
  rintro (⟨h1, _⟩ | ⟨_, h1, _⟩ | ⟨_, ⟨n', k', h1, h2⟩, _⟩)
  · cases h1
  · exact h1 ⟨n, k, h.1⟩
  · obtain ⟨rfl, rfl⟩ := h.1.fn h1
    exact h2 h.2
theorem noPg_both {A : Nat → Addr} {lf : Bool} {s : ByteArray} {y : Value} {c : Int} (h : NoPg lf s (errV (A 2)) (errV (A 0)) (errV (A 6)) y) (h' : NoPg lf s (.int .i64 3) (.int .i64 1) (.int .i64 7) (.int .i64 c)) : ∃ i : Nat, i < 8 ∧ y = errV (A i) ∧ c = (i : Int) + 1 := by
  rcases h with ⟨h1, h2⟩ | ⟨h1, h2, h3⟩ | ⟨h1, ⟨n, k, h2, h4⟩, h3⟩
  · rcases h' with ⟨_, g⟩ | ⟨g, _⟩ | ⟨g, _⟩
    · injection g with _ g
      exact ⟨2, by omega, h2, by omega⟩
    · rw [h1] at g; cases g
    · rw [h1] at g; cases g
  · rcases h' with ⟨g, _⟩ | ⟨_, _, g⟩ | ⟨_, ⟨n, k, g, _⟩, _⟩
    · rw [h1] at g; cases g
    · injection g with _ g
      exact ⟨0, by omega, h3, by omega⟩
    · exact absurd ⟨n, k, g⟩ h2
  · rcases h' with ⟨g, _⟩ | ⟨_, g, _⟩ | ⟨_, _, g⟩
    · rw [h1] at g; cases g
    · exact absurd ⟨n, k, h2⟩ g
    · injection g with _ g
      exact ⟨6, by omega, h3, by omega⟩
/-- Both are one. -/
theorem rd_both {A : Nat → Addr} {lid kind mr md : Int} {s : ByteArray} {x x' : Cl} {u u' c : Int} {y : Value} (h : RdF A lid kind mr md s x u y) (h' : RdO lid kind mr md s x' u' c) : (∃ i : Nat, i < 8 ∧ y = errV (A i) ∧ c = (i : Int) + 1 ∧ u = 0 ∧ x.No) ∨ (y = .nilIface ∧ c = 0 ∧ u = u' ∧ x.id = x'.id ∧ x.rs = x'.rs ∧ x.ds = x'.ds ∧ x.vs = x'.vs) := by
  rcases h with ⟨h1, h2, h3⟩ | ⟨hl, n, k, hok, h⟩
  · rcases h' with ⟨_, _, g⟩ | ⟨gl, n, k, gok, _⟩
    · obtain ⟨i, hi, e1, e2⟩ := noPg_both h3 g
      exact .inl ⟨i, hi, e1, e2, h2, h1⟩
    · exact absurd h3 (noPg_ok gl gok)
  · rcases h' with ⟨_, _, g⟩ | ⟨gl, n', k', gok, g⟩
    · exact absurd g (noPg_ok hl hok)
    · obtain ⟨rfl, rfl⟩ := hok.fn gok
      rcases h with ⟨p, d, h1, h2, h3, h4, h5, h6⟩ | ⟨h1, h2, h3, h4⟩
      · rcases g with ⟨p', d', g1, g2, g3, g4, g5, g6⟩ | ⟨g1, _⟩
        · obtain ⟨rfl, rfl, h7⟩ := isBd_fn h1 g1
          exact .inr ⟨h6, g6, h5.trans g5.symm, h2.trans g2.symm, h3.trans g3.symm, h4.trans g4.symm, h7⟩
        · exact absurd ⟨_, _, _, h1⟩ g1
      · rcases g with ⟨p', d', g1, _⟩ | ⟨_, _, _, g4⟩
        · exact absurd ⟨_, _, _, g1⟩ h1
        · exact .inl ⟨0, by omega, h4, by omega, h3, h2⟩
/-- What the program's Peek tells, and the reference's. -/
def PkF (A : Nat → Addr) (kind mr md : Int) (s : ByteArray) (t : St) (u : Int) (y : Value) : Prop :=
  (t = St.zero ∧ u = 0 ∧ NoPg (isLfB kind mr md) s (errV (A 2)) (errV (A 0)) (errV (A 6)) y) ∨
  (isLfB kind mr md = true ∧ ∃ n k, PgOk s n k ∧ ((∃ r, BegS (bodyAt s n k).data.toList t r ∧ PgS kind t ∧ u = ((k + 5 + n : Nat) : Int) ∧ y = .nilIface) ∨ ((¬ ∃ (t : St) (r : List UInt8), BegS (bodyAt s n k).data.toList t r ∧ PgS kind t) ∧ t = St.zero ∧ u = 0 ∧ y = errV (A 0))))
def PkO (kind mr md : Int) (s : ByteArray) (t : St) (u : Int) (c : Int) : Prop :=
  (t = St.zero ∧ u = 0 ∧ NoPg (isLfB kind mr md) s (.int .i64 3) (.int .i64 1) (.int .i64 7) (.int .i64 c)) ∨
  (isLfB kind mr md = true ∧ ∃ n k, PgOk s n k ∧ ((∃ r, BegS (bodyAt s n k).data.toList t r ∧ PgS kind t ∧ u = ((k + 5 + n : Nat) : Int) ∧ c = 0) ∨ ((¬ ∃ (t : St) (r : List UInt8), BegS (bodyAt s n k).data.toList t r ∧ PgS kind t) ∧ t = St.zero ∧ u = 0 ∧ c = 1)))
theorem pk_both {A : Nat → Addr} {kind mr md : Int} {s : ByteArray} {t t' : St} {u u' c : Int} {y : Value} (h : PkF A kind mr md s t u y) (h' : PkO kind mr md s t' u' c) : (∃ i : Nat, i < 8 ∧ y = errV (A i) ∧ c = (i : Int) + 1 ∧ u = 0 ∧ t = St.zero) ∨ (y = .nilIface ∧ c = 0 ∧ u = u' ∧ t = t') := by
  rcases h with ⟨h1, h2, h3⟩ | ⟨hl, n, k, hok, h⟩
  · rcases h' with ⟨_, _, g⟩ | ⟨gl, n, k, gok, _⟩
    · obtain ⟨i, hi, e1, e2⟩ := noPg_both h3 g
      exact .inl ⟨i, hi, e1, e2, h2, h1⟩
    · exact absurd h3 (noPg_ok gl gok)
  · rcases h' with ⟨_, _, g⟩ | ⟨gl, n', k', gok, g⟩
    · exact absurd g (noPg_ok hl hok)
    · obtain ⟨rfl, rfl⟩ := hok.fn gok
      rcases h with ⟨r, h1, h2, h5, h6⟩ | ⟨h1, h2, h3, h4⟩
      · rcases g with ⟨r', g1, g2, g5, g6⟩ | ⟨g1, _⟩
        · exact .inr ⟨h6, g6, h5.trans g5.symm, (begS_fn g1 h1)⟩
        · exact absurd ⟨_, _, h1, h2⟩ g1
      · rcases g with ⟨r', g1, g2, _⟩ | ⟨_, _, _, g4⟩
        · exact absurd ⟨_, _, g1, g2⟩ h1
        · exact .inl ⟨0, by omega, h4, by omega, h3, h2⟩
theorem rdF_len {A : Nat → Addr} {lid kind mr md : Int} {s : ByteArray} {x : Cl} {u : Int} {y : Value} (h : RdF A lid kind mr md s x u y) : x.rs.length ≤ maxLen ∧ x.ds.length ≤ maxLen ∧ x.vs.length ≤ maxLen := by
  have no : x.No → x.rs.length ≤ maxLen ∧ x.ds.length ≤ maxLen ∧ x.vs.length ≤ maxLen := fun ⟨_, h2, h3, h4⟩ => by
    rw [h2, h3, h4]
    simp
  rcases h with ⟨h, _⟩ | ⟨_, n, k, _, ⟨p, d, ⟨t, n1, k1, n2, k2, b, n3, k3, h1⟩, _, h3, h4, _⟩ | ⟨_, h, _⟩⟩
  · exact no h
  · obtain ⟨r, hr⟩ := h1.beg
    have he := hr.1.e
    have hu := hr.1.u
    have l1 : p.length = t.e.toNat := runs_lenP _ _ _ _ _ _ (Nat.le_refl _) h1.rep.rn
    have l2 : d.length = t.e.toNat := runs_lenP _ _ _ _ _ _ (Nat.le_refl _) h1.def_.rn
    have l3 := isBs_len h1.val.is
    rw [h3, h4, lvI_len, lvI_len, l3, l1, l2]
    unfold maxLen
    omega
  · exact no h
set_option maxRecDepth 100000 in
set_option maxHeartbeats 12800000 in
theorem pageReads_walk (lid kind mr md : Int) (pa : Option Addr) (pc : Nat) (ps : List Int) (s : ByteArray) (W : World) (A : Nat → Addr) (hE : Errs W A) (hp : Lies W pa (i64s ps)) :
    Calls Tryz.prog 3 #[.agg #[.int .i64 lid, .int .i64 kind, .int .i64 mr, .int .i64 md, .slice pa ps.length pc], .string s] W fun e w' => e = .returned (.bool true) ∧ Below W.heap.size W w' := by
  obtain ⟨pn, hpn⟩ : ∃ pn, ps.length = pn := ⟨_, rfl⟩
  have HPN : Hid _ := hpn
  rw [hpn]
  clear hpn
  obtain ⟨w0, HW0, HX0, HB0⟩ := boxed1 W #[.int .i64 lid, .int .i64 kind, .int .i64 mr, .int .i64 md, .slice pa pn pc] 24
  have HA0 : Hid (∀ X, Below W.heap.size W X → Errs X A) := fun X hX => hE.keep hX
  have HP : Hid (∀ X, Below W.heap.size W X → Lies X pa (i64s ps)) := fun X hX => hp.keep hX
  have HLw : Hid (∀ X, Below w0.heap.size w0 X → X.heap[W.heap.size]? = some (.cells #[.int .i64 lid, .int .i64 kind, .int .i64 mr, .int .i64 md, .slice pa pn pc] 24 (0, 0)) ∧ Below W.heap.size W X) := fun X hX => ⟨blk_keep hX HX0.out, HB0.out.trans (hX.mono HB0.out.size)⟩
  clear hE hp
  go_enter Tryz.func3, Tryz.ntmps3
  go_wp2_with fail
  rw [HW0.out]
  have hE0 := HA0.out _ HB0.out
  refine (byte80_any w0 _ _ _ _ _ _ (ecT hE0 3 (by omega)) (ecT hE0 2 (by omega)) (ecT hE0 1 (by omega))).mono ?_
  clear hE0 HW0
  rintro e w1 ⟨rfl, hb1⟩
  have HB1 : Hid (Below w0.heap.size w0 w1) := hb1
  clear hb1
  obtain ⟨⟨p0, p1, p2, p3, p4⟩, _⟩ := row_five (HLw.out w1 HB1.out).1
  by_cases hs3 : 3000 < s.size
  · have q1 : decide ((3000 : Int) < (s.size : Int)) = true := by simp; omega
    go_wp2
    go_ret
    exact ⟨rfl, (HLw.out w1 HB1.out).2⟩
  have q1 : decide ((3000 : Int) < (s.size : Int)) = false := by simp; omega
  have hsz : s.size ≤ 3000 := by omega
  clear hs3
  by_cases hpl : 100 < pn
  · have q2 : decide ((100 : Int) < (pn : Int)) = true := by simp; omega
    go_wp2
    go_ret
    exact ⟨rfl, (HLw.out w1 HB1.out).2⟩
  have q2 : decide ((100 : Int) < (pn : Int)) = false := by simp; omega
  have hpn : pn ≤ 100 := by omega
  clear hpl
  go_wp2_with fail
  refine Calls.mono (rightL_any lid kind mr md pa pn pc w1) ?_
  rintro e w2 ⟨⟨b, rfl⟩, hb2⟩
  have HB2 : Hid (Below w0.heap.size w0 w2) := bel_next HB1.out (Nat.le_refl _) hb2
  clear hb2 HB1 p0 p1 p2 p3 p4 q1 q2
  cases b
  · go_wp2
    go_ret
    exact ⟨rfl, (HLw.out w2 HB2.out).2⟩
  have HO1 : Hid (∀ X, Below w0.heap.size w0 X → Calls Tryz.prog 9 #[.agg #[.int .i64 lid, .int .i64 kind, .int .i64 mr, .int .i64 md, .slice pa pn pc]] X fun e w' => (∃ pa' pc', e = .returned (.agg #[.int .i64 lid, .int .i64 kind, .int .i64 mr, .int .i64 md, .slice pa' pn pc'])) ∧ Below w0.heap.size w0 w') := fun X hX => (by
    have h := ownLeaf_any lid kind mr md pa pc ps X (by rw [HPN.out]; omega) (HP.out _ (HLw.out X hX).2)
    rw [HPN.out] at h
    exact h.mono fun e w' h => ⟨(by obtain ⟨⟨pa', pc', h1, _⟩, _⟩ := h; exact ⟨pa', pc', h1⟩), bel_next hX (Nat.le_refl _) h.2⟩)
  have HO2 : Hid (∀ X pa' pc', Below w0.heap.size w0 X → Calls Tryz.prog 8 #[.agg #[.int .i64 lid, .int .i64 kind, .int .i64 mr, .int .i64 md, .slice pa' pn pc'], .string s] X fun e w' => (∃ (x : Cl) (u : Int) (y : Value), e = .returned (.tuple #[.agg #[.int .i64 x.id, .slice x.ra x.rs.length x.rc, .slice x.da x.ds.length x.dc, .slice x.va x.vs.length x.vc], .int .i64 u, y]) ∧ RdF A lid kind mr md s x u y ∧ x.At w') ∧ Below w0.heap.size w0 w') := fun X pa' pc' hX => (by
    have hEX := HA0.out _ (HLw.out X hX).2
    refine (pgRead_any lid kind mr md pa' pn pc' s (by omega) X _ _ _ _ _ _ _ _ _ _ (ecT hEX 2 (by omega)) (ecT hEX 3 (by omega)) (ecT hEX 1 (by omega)) (ecT hEX 0 (by omega)) (ecT hEX 6 (by omega))).mono fun e w' h => ⟨?_, bel_next hX (Nat.le_refl _) h.2⟩
    rcases h.1 with ⟨ev, h1, rfl⟩ | ⟨hl, n, k, hok, ⟨p, d, x, h2, h3, h4, h5, rfl, h6, _⟩ | ⟨hno, rfl⟩⟩
    · exact ⟨⟨0, none, [], 0, none, [], 0, none, [], 0⟩, 0, ev, rfl, .inl ⟨⟨rfl, rfl, rfl, rfl⟩, rfl, h1⟩, ⟨fun j hj => absurd hj (by simp [i64s]), fun j hj => absurd hj (by simp [i64s]), fun j hj => absurd hj (by simp)⟩⟩
    · exact ⟨x, _, _, rfl, .inr ⟨hl, n, k, hok, .inl ⟨p, d, h2, h3, h4, h5, rfl, rfl⟩⟩, h6⟩
    · exact ⟨⟨0, none, [], 0, none, [], 0, none, [], 0⟩, 0, _, rfl, .inr ⟨hl, n, k, hok, .inr ⟨hno, ⟨rfl, rfl, rfl, rfl⟩, rfl, rfl⟩⟩, ⟨fun j hj => absurd hj (by simp [i64s]), fun j hj => absurd hj (by simp [i64s]), fun j hj => absurd hj (by simp)⟩⟩)
  have HO3 : Hid (∀ X, Below w0.heap.size w0 X → Calls Tryz.prog 10 #[.agg #[.int .i64 lid, .int .i64 kind, .int .i64 mr, .int .i64 md, .slice pa pn pc], .string s] X fun e w' => (∃ (x : Cl) (u c : Int), e = .returned (.tuple #[.agg #[.int .i64 x.id, .slice x.ra x.rs.length x.rc, .slice x.da x.ds.length x.dc, .slice x.va x.vs.length x.vc], .int .i64 u, .int .i64 c]) ∧ RdO lid kind mr md s x u c ∧ x.At w') ∧ Below X.heap.size X w') := fun X hX => (by
    refine (readPageOf_any lid kind mr md pa pn pc s hsz X).mono fun e w' h => ⟨?_, h.2⟩
    rcases h.1 with ⟨ev, h1, rfl⟩ | ⟨hl, n, k, hok, ⟨p, d, x, h2, h3, h4, h5, rfl, h6⟩ | ⟨hno, rfl⟩⟩
    · obtain ⟨c, rfl⟩ : ∃ c : Int, ev = .int .i64 c := (by rcases h1 with ⟨_, h⟩ | ⟨_, _, h⟩ | ⟨_, _, h⟩ <;> exact ⟨_, h⟩)
      exact ⟨⟨0, none, [], 0, none, [], 0, none, [], 0⟩, 0, c, rfl, .inl ⟨⟨rfl, rfl, rfl, rfl⟩, rfl, h1⟩, ⟨fun j hj => absurd hj (by simp [i64s]), fun j hj => absurd hj (by simp [i64s]), fun j hj => absurd hj (by simp)⟩⟩
    · exact ⟨x, _, _, rfl, .inr ⟨hl, n, k, hok, .inl ⟨p, d, h2, h3, h4, h5, rfl, rfl⟩⟩, h6⟩
    · exact ⟨⟨0, none, [], 0, none, [], 0, none, [], 0⟩, 0, _, rfl, .inr ⟨hl, n, k, hok, .inr ⟨hno, ⟨rfl, rfl, rfl, rfl⟩, rfl, rfl⟩⟩, ⟨fun j hj => absurd hj (by simp [i64s]), fun j hj => absurd hj (by simp [i64s]), fun j hj => absurd hj (by simp)⟩⟩)
  have HO4 : Hid (∀ X pa' pc', Below w0.heap.size w0 X → Calls Tryz.prog 13 #[.agg #[.int .i64 lid, .int .i64 kind, .int .i64 mr, .int .i64 md, .slice pa' pn pc'], .string s] X fun e w' => (∃ (t : St) (u : Int) (y : Value), e = .returned (.tuple #[.agg #[.int .i64 t.e, .int .i64 t.u, .bool t.h, .int .i64 t.mn.k, .int .i64 t.mn.n, .string t.mn.s, .int .i64 t.mx.k, .int .i64 t.mx.n, .string t.mx.s], .int .i64 u, y]) ∧ PkF A kind mr md s t u y) ∧ Below w0.heap.size w0 w') := fun X pa' pc' hX => (by
    have hEX := HA0.out _ (HLw.out X hX).2
    refine (pgPeek_any lid kind mr md pa' pn pc' s (by omega) X _ _ _ _ _ _ _ _ _ _ (ecT hEX 2 (by omega)) (ecT hEX 3 (by omega)) (ecT hEX 1 (by omega)) (ecT hEX 0 (by omega)) (ecT hEX 6 (by omega))).mono fun e w' h => ⟨?_, bel_next hX (Nat.le_refl _) h.2⟩
    rcases h.1 with ⟨ev, h1, rfl⟩ | ⟨hl, n, k, hok, ⟨t, r, h2, h3, rfl⟩ | ⟨hno, rfl⟩⟩
    · exact ⟨St.zero, 0, ev, rfl, .inl ⟨rfl, rfl, h1⟩⟩
    · exact ⟨t, _, _, rfl, .inr ⟨hl, n, k, hok, .inl ⟨r, h2, h3, rfl, rfl⟩⟩⟩
    · exact ⟨St.zero, 0, _, rfl, .inr ⟨hl, n, k, hok, .inr ⟨hno, rfl, rfl, rfl⟩⟩⟩)
  have HO5 : Hid (∀ X, Below w0.heap.size w0 X → Calls Tryz.prog 14 #[.agg #[.int .i64 lid, .int .i64 kind, .int .i64 mr, .int .i64 md, .slice pa pn pc], .string s] X fun e w' => (∃ (t : St) (u c : Int), e = .returned (.tuple #[.agg #[.int .i64 t.e, .int .i64 t.u, .bool t.h, .int .i64 t.mn.k, .int .i64 t.mn.n, .string t.mn.s, .int .i64 t.mx.k, .int .i64 t.mx.n, .string t.mx.s], .int .i64 u, .int .i64 c]) ∧ PkO kind mr md s t u c) ∧ Below X.heap.size X w') := fun X hX => (by
    refine (peekOf_any lid kind mr md pa pn pc s hsz X).mono fun e w' h => ⟨?_, h.2⟩
    rcases h.1 with ⟨ev, h1, rfl⟩ | ⟨hl, n, k, hok, ⟨t, r, h2, h3, rfl⟩ | ⟨hno, rfl⟩⟩
    · obtain ⟨c, rfl⟩ : ∃ c : Int, ev = .int .i64 c := (by rcases h1 with ⟨_, h⟩ | ⟨_, _, h⟩ | ⟨_, _, h⟩ <;> exact ⟨_, h⟩)
      exact ⟨St.zero, 0, c, rfl, .inl ⟨rfl, rfl, h1⟩⟩
    · exact ⟨t, _, _, rfl, .inr ⟨hl, n, k, hok, .inl ⟨r, h2, h3, rfl, rfl⟩⟩⟩
    · exact ⟨St.zero, 0, _, rfl, .inr ⟨hl, n, k, hok, .inr ⟨hno, rfl, rfl, rfl⟩⟩⟩)
  obtain ⟨⟨p0, p1, p2, p3, p4⟩, _⟩ := row_five (HLw.out w2 HB2.out).1
  go_wp2_with fail
  refine Calls.mono (HO1.out w2 HB2.out) ?_
  rintro e w3 ⟨⟨pa', pc', rfl⟩, hb3⟩
  have HB3 : Hid (Below w0.heap.size w0 w3) := hb3
  clear hb3 p0 p1 p2 p3 p4 HB2
  go_wp2_with fail
  refine Calls.mono (HO2.out w3 pa' pc' HB3.out) ?_
  rintro e w4 ⟨⟨⟨xid, xra, xrs, xrc, xda, xds, xdc, xva, xvs, xvc⟩, u, y, rfl, hrd, hxa⟩, hb4⟩
  have HRd : Hid (RdF A lid kind mr md s ⟨xid, xra, xrs, xrc, xda, xds, xdc, xva, xvs, xvc⟩ u y) := hrd
  obtain ⟨w5, HW5, HG5, HB5'⟩ := boxed1 w4 #[.int .i64 xid, .slice xra xrs.length xrc, .slice xda xds.length xdc, .slice xva xvs.length xvc] 29
  have HA5 : Hid (Cl.At w5 ⟨xid, xra, xrs, xrc, xda, xds, xdc, xva, xvs, xvc⟩) := hxa.keep HB5'.out
  have HB5 : Hid (Below w0.heap.size w0 w5) := bel_next hb4 (Nat.le_refl _) HB5'.out
  clear hrd hxa hb4 HB3 HB5'
  go_upto_region 5 with fail
  rw [HW5.out]
  clear HW5
  generalize w4.heap.size = g at HG5 ⊢
  obtain ⟨⟨p0, p1, p2, p3, p4⟩, _⟩ := row_five (HLw.out w5 HB5.out).1
  go_wp2_with fail
  refine Calls.mono (HO3.out w5 HB5.out) ?_
  rintro e w6 ⟨⟨⟨yid, yra, yrs, yrc, yda, yds, ydc, yva, yvs, yvc⟩, u', c, rfl, hrd, hya⟩, hb6⟩
  have HBo : Hid ((∃ i : Nat, i < 8 ∧ y = errV (A i) ∧ c = (i : Int) + 1 ∧ u = 0 ∧ (⟨xid, xra, xrs, xrc, xda, xds, xdc, xva, xvs, xvc⟩ : Cl).No) ∨ (y = .nilIface ∧ c = 0 ∧ u = u' ∧ xid = yid ∧ xrs = yrs ∧ xds = yds ∧ xvs = yvs)) := rd_both HRd.out hrd
  have HMx : Hid (xrs.length ≤ maxLen ∧ xds.length ≤ maxLen ∧ xvs.length ≤ maxLen) := rdF_len HRd.out
  obtain ⟨w7, HW7, HH7, HB7'⟩ := boxed1 w6 #[.int .i64 yid, .slice yra yrs.length yrc, .slice yda yds.length ydc, .slice yva yvs.length yvc] 29
  have hb57 : Below w5.heap.size w5 w7 := hb6.trans (HB7'.out.mono hb6.size)
  have HG7 : Hid (w7.heap[g]? = some (.cells #[.int .i64 xid, .slice xra xrs.length xrc, .slice xda xds.length xdc, .slice xva xvs.length xvc] 29 (0, 0))) := blk_keep hb57 HG5.out
  have HXa : Hid (Cl.At w7 ⟨xid, xra, xrs, xrc, xda, xds, xdc, xva, xvs, xvc⟩) := HA5.out.keep hb57
  have HYa : Hid (Cl.At w7 ⟨yid, yra, yrs, yrc, yda, yds, ydc, yva, yvs, yvc⟩) := hya.keep HB7'.out
  have HB7 : Hid (Below w0.heap.size w0 w7) := bel_next HB5.out (Nat.le_refl _) hb57
  clear hrd hya hb6 HB7' hb57 HG5 HA5 HB5 HRd p0 p1 p2 p3 p4
  go_upto_region 6 with fail
  rw [HW7.out]
  clear HW7
  generalize w6.heap.size = gh at HH7 ⊢
  obtain ⟨bb, hbb⟩ : ∃ b, decide ((0 : Int) < c) = b := ⟨_, rfl⟩
  have HBb : Hid (decide ((0 : Int) < c) = bb) := hbb
  go_upto_if 50 with fail
  clear hbb
  go_cut [] (fun wx => Hid (Below w0.heap.size w0 wx))
  case first =>
    obtain ⟨g0, g1, g2, g3⟩ := row_four HG7.out
    rcases HBo.out with ⟨i, hi, rfl, rfl, rfl, hno⟩ | ⟨rfl, rfl, rfl, e1, e2, e3, e4⟩
    · have hbt : bb = true := (by rw [← HBb.out, decide_eq_true_eq]; omega)
      subst hbt
      obtain ⟨h1, h2, h3, h4⟩ := hno
      have h1' : xid = 0 := h1
      have h2' : xrs = [] := h2
      have h3' : xds = [] := h3
      have h4' : xvs = [] := h4
      clear h1 h2 h3 h4 HBo
      subst h1' h2' h3' h4'
      have hE7 := HA0.out _ (HLw.out w7 HB7.out).2
      have HCs : Hid (Calls Tryz.prog 11 #[errV (A i), .int .i64 ((i : Int) + 1)] w7 fun e w' => e = .returned (.bool true) ∧ Below w7.heap.size w7 w') := coded_sent w7 A hE7 i hi ((i : Int) + 1) true (by simp)
      clear hE7
      go_wp2_with fail
      refine Calls.mono HCs.out ?_
      rintro e w8 ⟨rfl, hb8⟩
      have HB8 : Hid (Below w0.heap.size w0 w8) := bel_next HB7.out (Nat.le_refl _) hb8
      have HG8 : Hid (w8.heap[g]? = some (.cells #[.int .i64 0, .slice xra ([] : List Int).length xrc, .slice xda ([] : List Int).length xdc, .slice xva ([] : List Vl).length xvc] 29 (0, 0))) := blk_keep hb8 HG7.out
      clear hb8 g0 g1 g2 g3 HCs
      obtain ⟨g0, g1, g2, g3⟩ := row_four HG8.out
      have HSm : Hid (Calls Tryz.prog 12 #[.agg #[.int .i64 0, .slice xra 0 xrc, .slice xda 0 xdc, .slice xva 0 xvc], .agg #[.int .i64 0, .slice none 0 0, .slice none 0 0, .slice none 0 0]] w8 fun e w' => e = .returned (.bool true) ∧ Below w8.heap.size w8 w') := (by
        have h := sameColumn_any 0 0 xra none xda none xva none xrc 0 xdc 0 xvc 0 [] [] [] [] [] [] w8 (by simp) (by simp) (by simp) (fun j hj => absurd hj (by simp [i64s])) (fun j hj => absurd hj (by simp [i64s])) (fun j hj => absurd hj (by simp [i64s])) (fun j hj => absurd hj (by simp [i64s])) (fun j hj => absurd hj (by simp)) (fun j hj => absurd hj (by simp))
        refine Calls.mono h fun e w' hq => ⟨?_, hq.2⟩
        obtain ⟨⟨b, h1, h2⟩, _⟩ := hq
        rw [h1, h2.2 ⟨rfl, rfl, rfl, rfl⟩])
      go_wp2_with fail
      refine Calls.mono HSm.out ?_
      rintro e w9 ⟨rfl, hb9⟩
      have HB9 : Hid (Below w0.heap.size w0 w9) := bel_next HB8.out (Nat.le_refl _) hb9
      clear hb9 g0 g1 g2 g3
      go_wp2_with fail
      go_meet
      exact HB9
    · have hbt : bb = false := (by rw [← HBb.out]; rfl)
      subst hbt
      have HEq : Hid (xid = yid ∧ xrs = yrs ∧ xds = yds ∧ xvs = yvs) := ⟨e1, e2, e3, e4⟩
      clear e1 e2 e3 e4 HBo
      obtain ⟨h0, h1, h2, h3⟩ := row_four HH7.out
      have HSm : Hid (Calls Tryz.prog 12 #[.agg #[.int .i64 xid, .slice xra xrs.length xrc, .slice xda xds.length xdc, .slice xva xvs.length xvc], .agg #[.int .i64 yid, .slice yra yrs.length yrc, .slice yda yds.length ydc, .slice yva yvs.length yvc]] w7 fun e w' => e = .returned (.bool true) ∧ Below w7.heap.size w7 w') := (by
        refine (sameColumn_any xid yid xra yra xda yda xva yva xrc yrc xdc ydc xvc yvc xrs yrs xds yds xvs yvs w7 HMx.out.1 HMx.out.2.1 HMx.out.2.2 HXa.out.r HYa.out.r HXa.out.d HYa.out.d HXa.out.v HYa.out.v).mono fun e w' hq => ⟨?_, hq.2⟩
        obtain ⟨⟨b, h1, h2⟩, _⟩ := hq
        rw [h1, h2.2 HEq.out])
      go_wp2_with fail
      refine Calls.mono HSm.out ?_
      rintro e w9 ⟨rfl, hb9⟩
      have HB9 : Hid (Below w0.heap.size w0 w9) := bel_next HB7.out (Nat.le_refl _) hb9
      clear hb9 g0 g1 g2 g3 h0 h1 h2 h3
      go_wp2_with fail
      go_meet
      exact HB9
  case rest =>
    rename World => wa
    have HBa : Hid (Below w0.heap.size w0 wa) := hcut
    clear hcut HBo HB7 HG7 HH7 HXa HYa HBb HO2 HO3
    obtain ⟨⟨p0, p1, p2, p3, p4⟩, _⟩ := row_five (HLw.out wa HBa.out).1
    go_wp2_with fail
    refine Calls.mono (HO1.out wa HBa.out) ?_
    rintro e wb ⟨⟨pa2, pc2, rfl⟩, hbb⟩
    have HBb : Hid (Below w0.heap.size w0 wb) := hbb
    clear hbb p0 p1 p2 p3 p4 HBa
    go_wp2_with fail
    refine Calls.mono (HO4.out wb pa2 pc2 HBb.out) ?_
    rintro e wc ⟨⟨t, v, y2, rfl, hpk⟩, hbc⟩
    have HPk : Hid (PkF A kind mr md s t v y2) := hpk
    obtain ⟨wc', HWc, HG1, HBc'⟩ := boxed1 wc #[.int .i64 t.e, .int .i64 t.u, .bool t.h, .int .i64 t.mn.k, .int .i64 t.mn.n, .string t.mn.s, .int .i64 t.mx.k, .int .i64 t.mx.n, .string t.mx.s] 43
    have HBc : Hid (Below w0.heap.size w0 wc') := bel_next hbc (Nat.le_refl _) HBc'.out
    clear hpk hbc HBc' HBb
    go_upto_region 12 with fail
    rw [HWc.out]
    clear HWc
    generalize wc.heap.size = g1 at HG1 ⊢
    obtain ⟨⟨p0, p1, p2, p3, p4⟩, _⟩ := row_five (HLw.out wc' HBc.out).1
    go_wp2_with fail
    refine Calls.mono (HO5.out wc' HBc.out) ?_
    rintro e we ⟨⟨t', v', c2, rfl, hpo⟩, hbe⟩
    have HBt : Hid _ := pk_both HPk.out hpo
    obtain ⟨wd, HWd, HG2, HBd'⟩ := boxed1 we #[.int .i64 t'.e, .int .i64 t'.u, .bool t'.h, .int .i64 t'.mn.k, .int .i64 t'.mn.n, .string t'.mn.s, .int .i64 t'.mx.k, .int .i64 t'.mx.n, .string t'.mx.s] 46
    have hbcd : Below wc'.heap.size wc' wd := hbe.trans (HBd'.out.mono hbe.size)
    have HG1d : Hid (wd.heap[g1]? = some (.cells #[.int .i64 t.e, .int .i64 t.u, .bool t.h, .int .i64 t.mn.k, .int .i64 t.mn.n, .string t.mn.s, .int .i64 t.mx.k, .int .i64 t.mx.n, .string t.mx.s] 43 (0, 0))) := blk_keep hbcd HG1.out
    have HBd : Hid (Below w0.heap.size w0 wd) := bel_next HBc.out (Nat.le_refl _) hbcd
    clear hpo hbe HBd' hbcd HG1 HBc HPk p0 p1 p2 p3 p4
    go_upto_region 13 with fail
    rw [HWd.out]
    clear HWd
    generalize we.heap.size = g2 at HG2 ⊢
    rcases HBt.out with ⟨i, hi, rfl, rfl, rfl, rfl⟩ | ⟨rfl, rfl, rfl, rfl⟩
    · have q1 : decide ((0 : Int) < (i : Int) + 1) = true := by rw [decide_eq_true_eq]; omega
      have hEd := HA0.out _ (HLw.out wd HBd.out).2
      have HCs : Hid (Calls Tryz.prog 11 #[errV (A i), .int .i64 ((i : Int) + 1)] wd fun e w' => e = .returned (.bool true) ∧ Below wd.heap.size wd w') := coded_sent wd A hEd i hi ((i : Int) + 1) true (by simp)
      clear hEd HBt
      go_wp2_with fail
      refine Calls.mono HCs.out ?_
      rintro e wf ⟨rfl, hbf⟩
      have HBf : Hid (Below w0.heap.size w0 wf) := bel_next HBd.out (Nat.le_refl _) hbf
      have HG1f : Hid (wf.heap[g1]? = some (.cells #[.int .i64 0, .int .i64 0, .bool false, .int .i64 0, .int .i64 0, .string ⟨#[]⟩, .int .i64 0, .int .i64 0, .string ⟨#[]⟩] 43 (0, 0))) := blk_keep hbf HG1d.out
      clear hbf HCs
      obtain ⟨⟨t0, t1, t2, t3, t4, t5, t6, t7, t8⟩, _⟩ := row_nine HG1f.out
      have hq : ∀ X : World, (binOp .eql 43 (.agg #[.int .i64 0, .int .i64 0, .bool false, .int .i64 0, .int .i64 0, .string ⟨#[]⟩, .int .i64 0, .int .i64 0, .string ⟨#[]⟩]) (.agg #[.int .i64 0, .int .i64 0, .bool false, .int .i64 0, .int .i64 0, .string ⟨#[]⟩, .int .i64 0, .int .i64 0, .string ⟨#[]⟩])).run Tryz.prog X = .ok (.bool true) X := fun X => (by
        have h := eqSt_run St.zero St.zero X
        rw [St.eqB_iff.2 rfl] at h
        exact h)
      go_wp2
      go_ret
      exact ⟨rfl, (HLw.out wf HBf.out).2⟩
    · clear HBt
      have hq := eqSt_run t t
      have hqt : t.eqB t = true := St.eqB_iff.2 rfl
      rw [hqt] at hq
      have HSo : Hid (∀ X, Below wd.heap.size wd X → Calls Tryz.prog 15 #[.agg #[.int .i64 t.e, .int .i64 t.u, .bool t.h, .int .i64 t.mn.k, .int .i64 t.mn.n, .string t.mn.s, .int .i64 t.mx.k, .int .i64 t.mx.n, .string t.mx.s]] X fun e w' => e = .returned (.agg #[.int .i64 t.e, .int .i64 t.u, .bool t.h, .int .i64 t.mn.k, .int .i64 t.mn.n, .string t.mn.s, .int .i64 t.mx.k, .int .i64 t.mx.n, .string t.mx.s]) ∧ Below wd.heap.size wd w') := fun X hX => (statsOfL_any t X).mono fun _ _ h => ⟨h.1, bel_next hX (Nat.le_refl _) h.2⟩
      have HN : Hid (∀ X, Below wd.heap.size wd X → (X.cell? ⟨g1, 0, none⟩ = some (.int .i64 t.e) ∧ X.cell? ⟨g1, 1, none⟩ = some (.int .i64 t.u) ∧ X.cell? ⟨g1, 2, none⟩ = some (.bool t.h) ∧ X.cell? ⟨g1, 3, none⟩ = some (.int .i64 t.mn.k) ∧ X.cell? ⟨g1, 4, none⟩ = some (.int .i64 t.mn.n) ∧ X.cell? ⟨g1, 5, none⟩ = some (.string t.mn.s) ∧ X.cell? ⟨g1, 6, none⟩ = some (.int .i64 t.mx.k) ∧ X.cell? ⟨g1, 7, none⟩ = some (.int .i64 t.mx.n) ∧ X.cell? ⟨g1, 8, none⟩ = some (.string t.mx.s)) ∧ (X.cell? ⟨g2, 0, none⟩ = some (.int .i64 t.e) ∧ X.cell? ⟨g2, 1, none⟩ = some (.int .i64 t.u) ∧ X.cell? ⟨g2, 2, none⟩ = some (.bool t.h) ∧ X.cell? ⟨g2, 3, none⟩ = some (.int .i64 t.mn.k) ∧ X.cell? ⟨g2, 4, none⟩ = some (.int .i64 t.mn.n) ∧ X.cell? ⟨g2, 5, none⟩ = some (.string t.mn.s) ∧ X.cell? ⟨g2, 6, none⟩ = some (.int .i64 t.mx.k) ∧ X.cell? ⟨g2, 7, none⟩ = some (.int .i64 t.mx.n) ∧ X.cell? ⟨g2, 8, none⟩ = some (.string t.mx.s)) ∧ Below wd.heap.size wd X) := fun X hX => ⟨(row_nine (blk_keep hX HG1d.out)).1, (row_nine (blk_keep hX HG2.out)).1, hX⟩
      have b0 : Below wd.heap.size wd wd := Below.refl _ _
      have q5 : ((v : Int) == v) = true := by simp
      clear hqt
      go_upto_region 15 with fail
      go_region_held3 (fun X => (X.cell? ⟨g1, 0, none⟩ = some (.int .i64 t.e) ∧ X.cell? ⟨g1, 1, none⟩ = some (.int .i64 t.u) ∧ X.cell? ⟨g1, 2, none⟩ = some (.bool t.h) ∧ X.cell? ⟨g1, 3, none⟩ = some (.int .i64 t.mn.k) ∧ X.cell? ⟨g1, 4, none⟩ = some (.int .i64 t.mn.n) ∧ X.cell? ⟨g1, 5, none⟩ = some (.string t.mn.s) ∧ X.cell? ⟨g1, 6, none⟩ = some (.int .i64 t.mx.k) ∧ X.cell? ⟨g1, 7, none⟩ = some (.int .i64 t.mx.n) ∧ X.cell? ⟨g1, 8, none⟩ = some (.string t.mx.s)) ∧ (X.cell? ⟨g2, 0, none⟩ = some (.int .i64 t.e) ∧ X.cell? ⟨g2, 1, none⟩ = some (.int .i64 t.u) ∧ X.cell? ⟨g2, 2, none⟩ = some (.bool t.h) ∧ X.cell? ⟨g2, 3, none⟩ = some (.int .i64 t.mn.k) ∧ X.cell? ⟨g2, 4, none⟩ = some (.int .i64 t.mn.n) ∧ X.cell? ⟨g2, 5, none⟩ = some (.string t.mn.s) ∧ X.cell? ⟨g2, 6, none⟩ = some (.int .i64 t.mx.k) ∧ X.cell? ⟨g2, 7, none⟩ = some (.int .i64 t.mx.n) ∧ X.cell? ⟨g2, 8, none⟩ = some (.string t.mx.s)) ∧ Below wd.heap.size wd X) (with_reducible refine HN.out _ ?_; repeat' (first | with_reducible assumption | with_reducible exact b0.drew | with_reducible exact b0 | with_reducible refine Below.drew ?_ | with_reducible exact Nat.le_refl _ | with_reducible refine Below.setCell ?_ ?_ _ | with_reducible refine Below.alloc ?_ ?_ _ | with_reducible exact Below.size (by assumption) | (simp; done) | (simp; omega) | omega)) (first | (go_at_call 15; (with_reducible refine Calls.mono (HSo.out _ ?_) ?_); (repeat' (first | with_reducible assumption | with_reducible exact b0.drew | with_reducible exact b0 | with_reducible refine Below.drew ?_ | with_reducible refine Below.alloc ?_ ?_ _ | with_reducible exact Below.size (by assumption) | with_reducible exact Nat.le_refl _ | (simp; done) | (simp; omega))); rintro e x2 ⟨rfl, hbx2⟩))
      all_goals
        go_wp2
        go_ret
        exact ⟨rfl, (HLw.out _ (bel_next HBd.out (Nat.le_refl _) hbx2)).2⟩
end Go.Proofs.YteeheodcejeloaaGreatDoor

namespace Go.Proofs.YteeheodcejeloaaGreatDoor
open Go.RowKit
theorem pageReads_top (lid kind mr md : Int) (pa : Option Addr) (pc : Nat) (ps : List Int) (s : ByteArray) (W : World) (hp : Lies W pa (i64s ps)) (hL : laidMetH Tryz.prog Rows.pageReadsRow.laid W) :
    Calls Tryz.prog 3 #[.agg #[.int .i64 lid, .int .i64 kind, .int .i64 mr, .int .i64 md, .slice pa ps.length pc], .string s] W fun e w' => e = .returned (.bool true) ∧ Below W.heap.size W w' := by
  obtain ⟨A, hE⟩ := errs_of hL
  exact pageReads_walk lid kind mr md pa pc ps s W A hE hp
end Go.Proofs.YteeheodcejeloaaGreatDoor
