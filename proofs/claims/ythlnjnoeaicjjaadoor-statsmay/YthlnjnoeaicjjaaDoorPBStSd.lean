/-
  The reference's StandsOf; stats.May of a text that is no way to stand.
  The reference's MayOf, and why both are one.
-/
import Derived.Test.YthlnjnoeaicjjaaDoorPStMyB
import Derived.Test.YthlnjnoeaicjjaaDoorPBLess
import Derived.Test.YthlnjnoeaicjjaaDoorPBStEn
namespace Go.Proofs.YthlnjnoeaicjjaaDoor
open Go.RowKit
theorem str_ne {k : ByteArray} {l : List UInt8} (h : k ≠ ⟨l.toArray⟩) : (k.toList == l) = false := by
  rw [beq_eq_false_iff_ne]
  intro e
  apply h
  rw [ByteArray.toList_eq] at e
  obtain ⟨d⟩ := k
  congr 1
  exact Array.toList_inj.1 (by simpa using e)
set_option maxRecDepth 100000 in
set_option maxHeartbeats 3200000 in
theorem standsOf_any (i : Nat) (hi6 : i < 6) (a b : Vl) (W : World) (ha : a.Low) (hb : b.Low) :
    Calls Tryd.prog 6 #[.agg #[.int .i64 a.k, .int .i64 a.n, .string a.s], .string (stdT i), .agg #[.int .i64 b.k, .int .i64 b.n, .string b.s]] W fun e w' => e = .returned (.tuple #[.bool (stdB i a b), .bool true]) ∧ Below W.heap.size W w' := by
  unfold Vl.Low at ha hb
  obtain ⟨w0, HW0, HX, HY, HB⟩ := two_boxes W #[.int .i64 a.k, .int .i64 a.n, .string a.s] #[.int .i64 b.k, .int .i64 b.n, .string b.s] 23 23
  obtain ⟨x0, x1, x2⟩ := row_three HX.out
  obtain ⟨y0, y1, y2⟩ := row_three HY.out
  go_enter Tryd.func6, Tryd.ntmps6
  go_wp2_with fail
  rw [HW0.out]
  refine (lessOf_any a.k a.n a.s b.k b.n b.s w0 ha hb).mono ?_
  obtain ⟨r, HR⟩ : ∃ r, Hid (vless a.k a.n a.s b.k b.n b.s = r) := ⟨_, rfl⟩
  obtain ⟨q, HQ⟩ : ∃ r, Hid (vless b.k b.n b.s a.k a.n a.s = r) := ⟨_, rfl⟩
  rw [HR.out]
  rintro e w1 ⟨rfl, hb1⟩
  have HB1 : Hid (Below W.heap.size W w1) := HB.out.trans (hb1.mono HB.out.size)
  clear x0 x1 x2 y0 y1 y2
  obtain ⟨x0, x1, x2⟩ := row_three (blk_keep hb1 HX.out)
  obtain ⟨y0, y1, y2⟩ := row_three (blk_keep hb1 HY.out)
  clear hb1 HX HY HB HW0
  go_wp2_with fail
  refine (lessOf_any b.k b.n b.s a.k a.n a.s w1 hb ha).mono ?_
  rw [HQ.out]
  rintro e w2 ⟨rfl, hb2⟩
  have HB2 : Hid (Below W.heap.size W w2) := HB1.out.trans (hb2.mono HB1.out.size)
  clear x0 x1 x2 y0 y1 y2 hb2 HB1
  rcases (show i = 0 ∨ i = 1 ∨ i = 2 ∨ i = 3 ∨ i = 4 ∨ i = 5 by omega) with rfl | rfl | rfl | rfl | rfl | rfl
  · unfold stdT
    all_goals (cases r <;> cases q)
    all_goals
      go_wp2
      go_ret2
      exact ⟨by simp [stdB, lss, HR.out], HB2.out⟩
  · unfold stdT
    all_goals (cases r <;> cases q)
    all_goals
      go_wp2
      go_ret2
      exact ⟨by simp [stdB, lss, HQ.out], HB2.out⟩
  · unfold stdT
    all_goals (cases r <;> cases q)
    all_goals
      go_wp2
      go_ret2
      exact ⟨by simp [stdB, lss, HR.out, HQ.out], HB2.out⟩
  · unfold stdT
    all_goals (cases r <;> cases q)
    all_goals
      go_wp2
      go_ret2
      exact ⟨by simp [stdB, lss, HR.out, HQ.out], HB2.out⟩
  · unfold stdT
    all_goals (cases r <;> cases q)
    all_goals
      go_wp2
      go_ret2
      exact ⟨by simp [stdB, lss, HQ.out], HB2.out⟩
  · unfold stdT
    all_goals (cases r <;> cases q)
    all_goals
      go_wp2
      go_ret2
      exact ⟨by simp [stdB, lss, HR.out], HB2.out⟩
set_option maxRecDepth 100000 in
set_option maxHeartbeats 3200000 in
theorem standsOf_none (how : ByteArray) (hn : ∀ i, i < 6 → how ≠ stdT i) (a b : Vl) (W : World) (ha : a.Low) (hb : b.Low) :
    Calls Tryd.prog 6 #[.agg #[.int .i64 a.k, .int .i64 a.n, .string a.s], .string how, .agg #[.int .i64 b.k, .int .i64 b.n, .string b.s]] W fun e w' => e = .returned (.tuple #[.bool false, .bool false]) ∧ Below W.heap.size W w' := by
  unfold Vl.Low at ha hb
  have h0 := str_ne (l := [60]) (hn 0 (by omega))
  have h1 := str_ne (l := [60, 61]) (hn 1 (by omega))
  have h2 := str_ne (l := [61]) (hn 2 (by omega))
  have h3 := str_ne (l := [33, 61]) (hn 3 (by omega))
  have h4 := str_ne (l := [62]) (hn 4 (by omega))
  have h5 := str_ne (l := [62, 61]) (hn 5 (by omega))
  obtain ⟨w0, HW0, HX, HY, HB⟩ := two_boxes W #[.int .i64 a.k, .int .i64 a.n, .string a.s] #[.int .i64 b.k, .int .i64 b.n, .string b.s] 23 23
  obtain ⟨x0, x1, x2⟩ := row_three HX.out
  obtain ⟨y0, y1, y2⟩ := row_three HY.out
  go_enter Tryd.func6, Tryd.ntmps6
  go_wp2_with fail
  rw [HW0.out]
  refine (lessOf_any a.k a.n a.s b.k b.n b.s w0 ha hb).mono ?_
  rintro e w1 ⟨rfl, hb1⟩
  have HB1 : Hid (Below W.heap.size W w1) := HB.out.trans (hb1.mono HB.out.size)
  clear x0 x1 x2 y0 y1 y2
  obtain ⟨x0, x1, x2⟩ := row_three (blk_keep hb1 HX.out)
  obtain ⟨y0, y1, y2⟩ := row_three (blk_keep hb1 HY.out)
  clear hb1 HX HY HB HW0
  go_wp2_with fail
  refine (lessOf_any b.k b.n b.s a.k a.n a.s w1 hb ha).mono ?_
  rintro e w2 ⟨rfl, hb2⟩
  have HB2 : Hid (Below W.heap.size W w2) := HB1.out.trans (hb2.mono HB1.out.size)
  clear x0 x1 x2 y0 y1 y2 hb2 HB1
  go_wp2
  go_ret2
  exact ⟨rfl, HB2.out⟩
set_option maxRecDepth 100000 in
set_option maxHeartbeats 3200000 in
theorem may_none (how : ByteArray) (hn : ∀ i, i < 6 → how ≠ stdT i) (s : St) (v : Vl) (W : World) (tt : TypeId) (tp : Value) (ht : W.cell? ⟨0, 0, none⟩ = some (.iface tt tp)) :
    Calls Tryd.prog 8 #[.agg #[.int .i64 s.e, .int .i64 s.u, .bool s.h, .int .i64 s.mn.k, .int .i64 s.mn.n, .string s.mn.s, .int .i64 s.mx.k, .int .i64 s.mx.n, .string s.mx.s], .string how, .agg #[.int .i64 v.k, .int .i64 v.n, .string v.s]] W fun e w' => e = .returned (.tuple #[.bool false, .iface tt tp]) ∧ Below W.heap.size W w' := by
  obtain ⟨w0, HW0, HX, HY, HB⟩ := two_boxes W #[.int .i64 s.e, .int .i64 s.u, .bool s.h, .int .i64 s.mn.k, .int .i64 s.mn.n, .string s.mn.s, .int .i64 s.mx.k, .int .i64 s.mx.n, .string s.mx.s] #[.int .i64 v.k, .int .i64 v.n, .string v.s] 34 23
  have HKE : Hid (∀ X, Below W.heap.size W X → X.cell? ⟨0, 0, none⟩ = some (.iface tt tp)) := fun X hX => ckB ht hX
  clear ht HX HY
  go_enter Tryd.func8, Tryd.ntmps8
  go_wp2_with fail
  rw [HW0.out]
  refine (standing_none how hn w0).mono ?_
  rintro e w1 ⟨rfl, hb1⟩
  have HB1 : Hid (Below W.heap.size W w1) := HB.out.trans (hb1.mono HB.out.size)
  have hbe := HKE.out _ HB1.out
  clear hb1 HW0 HB
  go_wp2_with fail
  go_quiet (fail)
  go_wp2
  go_ret2
  exact ⟨rfl, blw_drewN HB1.out _⟩
end Go.Proofs.YthlnjnoeaicjjaaDoor

namespace Go.Proofs.YthlnjnoeaicjjaaDoor
open Go.RowKit
/-- What the reference answers. -/
def mayR (i : Nat) (s : St) (v : Vl) : Bool := if s.h then (if i = 2 then !lss v s.mn && !lss s.mx v else stdB i s.mn v || stdB i s.mx v) else false
theorem may_same (i : Nat) (hi : i < 6) (s : St) (v : Vl) (hs : s.Low) (hv : v.Low) (hh : s.h = true) (hg : GoodS s v) (ho : okV v.k v.k v.n v.s.size = true) : mayB i s v = mayR i s v := by
  obtain ⟨g1, g2, g3⟩ := hg
  have hir : lss v v = false := lss_irr hv v.k ho
  have hmm : ∀ (h1 : lss s.mn v = false) (h2 : lss v s.mn = false), lss s.mx v = false := fun h1 h2 => by
    have e := lss_same hs.1 hv v.k g1 ho h1 h2
    rw [e] at g3
    exact g3
  have hxx : ∀ (h1 : lss s.mx v = false) (h2 : lss v s.mx = false), lss v s.mn = false := fun h1 h2 => by
    have e := lss_same hs.2 hv v.k g2 ho h1 h2
    rw [e] at g3
    exact g3
  unfold mayB mayR
  rw [hh]
  rcases (show i = 0 ∨ i = 1 ∨ i = 2 ∨ i = 3 ∨ i = 4 ∨ i = 5 by omega) with rfl | rfl | rfl | rfl | rfl | rfl
  all_goals
    simp only [stdB, hir]
    revert hmm hxx
    generalize lss s.mn v = a
    generalize lss v s.mn = b
    generalize lss s.mx v = c
    generalize lss v s.mx = d
    revert a b c d
    decide
set_option maxRecDepth 100000 in
set_option maxHeartbeats 3200000 in
theorem mayOf_any (i : Nat) (hi6 : i < 6) (s : St) (v : Vl) (W : World) (hs : s.Low) (hv : v.Low) :
    Calls Tryd.prog 12 #[.agg #[.int .i64 s.e, .int .i64 s.u, .bool s.h, .int .i64 s.mn.k, .int .i64 s.mn.n, .string s.mn.s, .int .i64 s.mx.k, .int .i64 s.mx.n, .string s.mx.s], .string (stdT i), .agg #[.int .i64 v.k, .int .i64 v.n, .string v.s]] W fun e w' => e = .returned (.bool (mayR i s v)) ∧ Below W.heap.size W w' := by
  obtain ⟨w0, HW0, HX, HY, HB⟩ := two_boxes W #[.int .i64 s.e, .int .i64 s.u, .bool s.h, .int .i64 s.mn.k, .int .i64 s.mn.n, .string s.mn.s, .int .i64 s.mx.k, .int .i64 s.mx.n, .string s.mx.s] #[.int .i64 v.k, .int .i64 v.n, .string v.s] 25 23
  obtain ⟨⟨x0, x1, x2, x3, x4, x5, x6, x7, x8⟩, _⟩ := row_nine HX.out
  obtain ⟨y0, y1, y2⟩ := row_three HY.out
  obtain ⟨sh, hsh⟩ : ∃ sh, s.h = sh := ⟨_, rfl⟩
  have HMR : Hid (mayR i s v = if sh then (if i = 2 then !lss v s.mn && !lss s.mx v else stdB i s.mn v || stdB i s.mx v) else false) := (by show _ = _; unfold mayR; rw [hsh])
  rw [hsh] at x2
  have hs1 := hs.1
  have hs2 := hs.2
  clear hsh
  go_enter Tryd.func12, Tryd.ntmps12
  go_upto_region 1 with fail
  rw [HW0.out]
  cases sh
  · go_wp2
    go_ret
    exact ⟨by rw [HMR.out]; rfl, HB.out⟩
  · go_wp2_with fail
    refine (standsOf_any i hi6 s.mn v w0 hs1 hv).mono ?_
    obtain ⟨b1, HB1⟩ : ∃ b, Hid (stdB i s.mn v = b) := ⟨_, rfl⟩
    obtain ⟨b2, HB2⟩ : ∃ b, Hid (stdB i s.mx v = b) := ⟨_, rfl⟩
    rw [HB1.out]
    rintro e w1 ⟨rfl, hb1⟩
    have HX1 : Hid _ := blk_keep hb1 HX.out
    have HY1 : Hid _ := blk_keep hb1 HY.out
    have HBw : Hid (Below W.heap.size W w1) := HB.out.trans (hb1.mono HB.out.size)
    clear x0 x1 x2 x3 x4 x5 x6 x7 x8 y0 y1 y2 hb1 HX HY HB HW0
    obtain ⟨⟨x0, x1, x2, x3, x4, x5, x6, x7, x8⟩, _⟩ := row_nine HX1.out
    obtain ⟨y0, y1, y2⟩ := row_three HY1.out
    clear x2
    go_wp2_with fail
    refine (standsOf_any i hi6 s.mx v w1 hs2 hv).mono ?_
    rw [HB2.out]
    rintro e w2 ⟨rfl, hb2⟩
    have HX2 : Hid _ := blk_keep hb2 HX1.out
    have HY2 : Hid _ := blk_keep hb2 HY1.out
    have HBx : Hid (Below W.heap.size W w2) := HBw.out.trans (hb2.mono HBw.out.size)
    clear x0 x1 x3 x4 x5 x6 x7 x8 y0 y1 y2 hb2 HX1 HY1 HBw
    obtain ⟨⟨x0, x1, x2, x3, x4, x5, x6, x7, x8⟩, _⟩ := row_nine HX2.out
    obtain ⟨y0, y1, y2⟩ := row_three HY2.out
    clear x2
    have hvn : -9223372036854775808 ≤ v.n := hv
    have hn1 : -9223372036854775808 ≤ s.mn.n := hs1
    have hn2 : -9223372036854775808 ≤ s.mx.n := hs2
    rcases Decidable.em (i = 2) with h2 | h2
    · subst h2
      have HM2 : Hid (mayR 2 s v = (!lss v s.mn && !lss s.mx v)) := (by show _ = _; rw [HMR.out]; rfl)
      unfold stdT
      go_wp2_with fail
      refine (lessOf_any v.k v.n v.s s.mn.k s.mn.n s.mn.s w2 hvn hn1).mono ?_
      obtain ⟨r1, HR1⟩ : ∃ r, Hid (vless v.k v.n v.s s.mn.k s.mn.n s.mn.s = r) := ⟨_, rfl⟩
      obtain ⟨r2, HR2⟩ : ∃ r, Hid (vless s.mx.k s.mx.n s.mx.s v.k v.n v.s = r) := ⟨_, rfl⟩
      rw [HR1.out]
      rintro e w3 ⟨rfl, hb3⟩
      have HX3 : Hid _ := blk_keep hb3 HX2.out
      have HY3 : Hid _ := blk_keep hb3 HY2.out
      have HBy : Hid (Below W.heap.size W w3) := HBx.out.trans (hb3.mono HBx.out.size)
      clear x0 x1 x3 x4 x5 x6 x7 x8 y0 y1 y2 hb3 HX2 HY2 HBx
      obtain ⟨⟨x0, x1, x2, x3, x4, x5, x6, x7, x8⟩, _⟩ := row_nine HX3.out
      obtain ⟨y0, y1, y2⟩ := row_three HY3.out
      clear x2
      go_wp2_with fail
      refine (lessOf_any s.mx.k s.mx.n s.mx.s v.k v.n v.s w3 hn2 hvn).mono ?_
      rw [HR2.out]
      rintro e w4 ⟨rfl, hb4⟩
      have HBz : Hid (Below W.heap.size W w4) := HBy.out.trans (hb4.mono HBy.out.size)
      clear x0 x1 x3 x4 x5 x6 x7 x8 y0 y1 y2 hb4
      cases r1
      all_goals
        go_wp2
        go_ret
        exact ⟨by rw [HM2.out]; simp [lss, HR1.out, HR2.out], HBz.out⟩
    · have HM2 : Hid (mayR i s v = (b1 || b2)) := (by show _ = _; rw [HMR.out]; simp only [if_true]; rw [if_neg h2, HB1.out, HB2.out])
      have hq : ((stdT i).toList == [61]) = false := str_ne (l := [61]) (by
        rcases (show i = 0 ∨ i = 1 ∨ i = 3 ∨ i = 4 ∨ i = 5 by omega) with rfl | rfl | rfl | rfl | rfl <;> (intro h; have h1 := congrArg ByteArray.data h; simp [stdT] at h1))
      clear h2
      cases b1
      all_goals
        go_wp2
        go_ret
        exact ⟨by rw [HM2.out]; simp, HBx.out⟩
end Go.Proofs.YthlnjnoeaicjjaaDoor
