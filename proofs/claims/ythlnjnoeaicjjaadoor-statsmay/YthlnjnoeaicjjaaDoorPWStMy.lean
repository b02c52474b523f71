/-
  The walk of the law StatsMay.
-/
import Derived.Test.YthlnjnoeaicjjaaDoorPBStSd
import Derived.Test.YthlnjnoeaicjjaaDoorPStMy
import Derived.Test.YthlnjnoeaicjjaaDoorPBStEn
namespace Go.Proofs.YthlnjnoeaicjjaaDoor
open Go.RowKit
/-- What the law's boxes hold. -/
structure LyI (W : World) (s : St) (v : Vl) (X : World) : Prop where
  st : X.heap[W.heap.size]? = some (.cells #[.int .i64 s.e, .int .i64 s.u, .bool s.h, .int .i64 s.mn.k, .int .i64 s.mn.n, .string s.mn.s, .int .i64 s.mx.k, .int .i64 s.mx.n, .string s.mx.s] 25 (0, 0))
  va : X.heap[W.heap.size + 1]? = some (.cells #[.int .i64 v.k, .int .i64 v.n, .string v.s] 23 (0, 0))
  old : Below W.heap.size W X
theorem LyI.keep {W : World} {s : St} {v : Vl} {X w' : World} (h : LyI W s v X) (hb : Below X.heap.size X w') : LyI W s v w' :=
  ⟨blk_keep hb h.st, blk_keep hb h.va, h.old.trans (hb.mono h.old.size)⟩
theorem which (how : ByteArray) : (∃ i, i < 6 ∧ how = stdT i) ∨ ∀ i, i < 6 → how ≠ stdT i := by
  by_cases h : ∃ i, i < 6 ∧ how = stdT i
  · exact .inl h
  · exact .inr fun i hi e => h ⟨i, hi, e⟩
set_option maxRecDepth 100000 in
set_option maxHeartbeats 12800000 in
theorem statsMay_walk (s : St) (how : ByteArray) (v : Vl) (W : World) (A : Nat → Addr) (hE : Errs W A) (hs : s.In) (hv : v.In) :
    Calls Tryd.prog 3 #[.agg #[.int .i64 s.e, .int .i64 s.u, .bool s.h, .int .i64 s.mn.k, .int .i64 s.mn.n, .string s.mn.s, .int .i64 s.mx.k, .int .i64 s.mx.n, .string s.mx.s], .string how, .agg #[.int .i64 v.k, .int .i64 v.n, .string v.s]] W fun e w' => e = .returned (.bool true) ∧ Below W.heap.size W w' := by
  obtain ⟨w0, HW0, HX, HY, HB⟩ := two_boxes W #[.int .i64 s.e, .int .i64 s.u, .bool s.h, .int .i64 s.mn.k, .int .i64 s.mn.n, .string s.mn.s, .int .i64 s.mx.k, .int .i64 s.mx.n, .string s.mx.s] #[.int .i64 v.k, .int .i64 v.n, .string v.s] 25 23
  have HI0 : Hid (LyI W s v w0) := ⟨HX.out, HY.out, HB.out⟩
  have HA0 : Hid (∀ X, Below W.heap.size W X → Errs X A) := fun X hX => hE.keep hX
  have hsl : s.Low := hs.low
  have hvl : v.Low := hv.2.1.1
  clear HX HY HB hE
  go_enter Tryd.func3, Tryd.ntmps3
  go_wp2_with fail
  rw [HW0.out]
  clear HW0
  have hE0 := HA0.out _ HI0.out.old
  refine (two_any w0 _ _ _ _ _ _ (ecT hE0 2 (by omega)) (ecT hE0 3 (by omega)) (ecT hE0 1 (by omega))).mono ?_
  clear hE0
  rintro e w1 ⟨rfl, hb1⟩
  have HI1 : Hid _ := HI0.out.keep hb1
  clear HI0 hb1
  obtain ⟨y0, y1, y2⟩ := row_three HI1.out.va
  rcases Decidable.em (100 < how.size) with hl | hl
  · have q0 : decide ((100 : Int) < (how.size : Int)) = true := by rw [decide_eq_true_iff]; omega
    go_wp2
    go_ret
    exact ⟨rfl, HI1.out.old⟩
  have q0 : decide ((100 : Int) < (how.size : Int)) = false := by rw [decide_eq_false_iff_not]; omega
  clear hl
  have HIV : Hid (∀ X, Calls Tryd.prog 7 #[.int .i64 v.k, .agg #[.int .i64 v.k, .int .i64 v.n, .string v.s]] X fun e w' => e = .returned (.bool (okV v.k v.k v.n v.s.size)) ∧ Below X.heap.size X w') := fun X => isValueR_any v.k v.k v.n v.s X
  rcases which how with ⟨i, hi6, rfl⟩ | hn
  · go_wp2_with fail
    refine (standsOf_any i hi6 v v w1 hvl hvl).mono ?_
    rintro e w2 ⟨rfl, hb2⟩
    have HI2 : Hid _ := HI1.out.keep hb2
    clear HI1 hb2 y0 y1 y2
    obtain ⟨y0, y1, y2⟩ := row_three HI2.out.va
    go_wp2_with fail
    refine Calls.mono (HIV.out _) ?_
    obtain ⟨ok, HOK⟩ : ∃ ok, Hid (okV v.k v.k v.n v.s.size = ok) := ⟨_, rfl⟩
    rw [HOK.out]
    rintro e w3 ⟨rfl, hb3⟩
    have HI3 : Hid _ := HI2.out.keep hb3
    clear HI2 hb3 y0 y1 y2
    obtain ⟨⟨x0, x1, x2, x3, x4, x5, x6, x7, x8⟩, _⟩ := row_nine HI3.out.st
    obtain ⟨y0, y1, y2⟩ := row_three HI3.out.va
    obtain ⟨sh, hsh⟩ : ∃ sh, s.h = sh := ⟨_, rfl⟩
    have HSH : Hid _ := hsh
    rw [hsh] at x2
    clear hsh
    obtain ⟨bd, HBD⟩ : ∃ bd, Hid (myBad s v = bd) := ⟨_, rfl⟩
    have HBD2 : Hid ((!ok || (sh && !(s.mn.k == v.k))) = bd) := (by have h := HBD.out; unfold myBad at h; rw [HOK.out, HSH.out] at h; exact h)
    go_upto_region 9 with fail
    go_cut [51] (fun x w => x = .bool bd ∧ Hid (LyI W s v w))
    case first =>
      cases ok
      · obtain rfl : true = bd := HBD2.out
        go_wp2
        go_meet
        exact ⟨rfl, HI3⟩
      · cases sh
        · obtain rfl : false = bd := HBD2.out
          go_wp2
          go_meet
          exact ⟨rfl, HI3⟩
        · go_wp2
          go_meet
          exact ⟨by rw [← HBD2.out]; rfl, HI3⟩
    case rest =>
      obtain ⟨rfl, HI4⟩ := hcut
      rename World => wx
      clear HI3 x0 x1 x2 x3 x4 x5 x6 x7 x8 y0 y1 y2
      cases bd
      · go_upto_region 11 with fail
        have b0 : Below wx.heap.size wx wx := Below.refl _ _
        have HN : Hid (∀ X, Below wx.heap.size wx X → (X.cell? ⟨W.heap.size, 0, none⟩ = some (.int .i64 s.e) ∧ X.cell? ⟨W.heap.size, 1, none⟩ = some (.int .i64 s.u) ∧ X.cell? ⟨W.heap.size, 2, none⟩ = some (.bool s.h) ∧ X.cell? ⟨W.heap.size, 3, none⟩ = some (.int .i64 s.mn.k) ∧ X.cell? ⟨W.heap.size, 4, none⟩ = some (.int .i64 s.mn.n) ∧ X.cell? ⟨W.heap.size, 5, none⟩ = some (.string s.mn.s) ∧ X.cell? ⟨W.heap.size, 6, none⟩ = some (.int .i64 s.mx.k) ∧ X.cell? ⟨W.heap.size, 7, none⟩ = some (.int .i64 s.mx.n) ∧ X.cell? ⟨W.heap.size, 8, none⟩ = some (.string s.mx.s)) ∧ (X.cell? ⟨W.heap.size + 1, 0, none⟩ = some (.int .i64 v.k) ∧ X.cell? ⟨W.heap.size + 1, 1, none⟩ = some (.int .i64 v.n) ∧ X.cell? ⟨W.heap.size + 1, 2, none⟩ = some (.string v.s)) ∧ Below wx.heap.size wx X) := fun X hX => ⟨(row_nine (HI4.out.keep hX).st).1, row_three (HI4.out.keep hX).va, hX⟩
        have HOA : Hid (∀ X, Below wx.heap.size wx X → Calls Tryd.prog 9 #[.agg #[.int .i64 s.e, .int .i64 s.u, .bool s.h, .int .i64 s.mn.k, .int .i64 s.mn.n, .string s.mn.s, .int .i64 s.mx.k, .int .i64 s.mx.n, .string s.mx.s]] X fun e w' => e = .returned (.agg #[.int .i64 s.e, .int .i64 s.u, .bool s.h, .int .i64 s.mn.k, .int .i64 s.mn.n, .string s.mn.s, .int .i64 s.mx.k, .int .i64 s.mx.n, .string s.mx.s]) ∧ Below wx.heap.size wx w') := fun X hX => (statsOfL_any s X).mono fun _ _ h => ⟨h.1, bel_next hX (Nat.le_refl _) h.2⟩
        have HOM : Hid (∀ X, Below wx.heap.size wx X → Calls Tryd.prog 8 #[.agg #[.int .i64 s.e, .int .i64 s.u, .bool s.h, .int .i64 s.mn.k, .int .i64 s.mn.n, .string s.mn.s, .int .i64 s.mx.k, .int .i64 s.mx.n, .string s.mx.s], .string (stdT i), .agg #[.int .i64 v.k, .int .i64 v.n, .string v.s]] X fun e w' => (∃ (b : Bool) (ev : Value), e = .returned (.tuple #[.bool b, ev]) ∧ MyR i s v (errV (A 3)) b ev) ∧ Below wx.heap.size wx w') := fun X hX => (may_any i hi6 s v X _ _ (ecT (HA0.out _ (HI4.out.keep hX).old) 3 (by omega)) hs hv).mono fun _ _ h => ⟨h.1, bel_next hX (Nat.le_refl _) h.2⟩
        go_region_held3 (fun X => (X.cell? ⟨W.heap.size, 0, none⟩ = some (.int .i64 s.e) ∧ X.cell? ⟨W.heap.size, 1, none⟩ = some (.int .i64 s.u) ∧ X.cell? ⟨W.heap.size, 2, none⟩ = some (.bool s.h) ∧ X.cell? ⟨W.heap.size, 3, none⟩ = some (.int .i64 s.mn.k) ∧ X.cell? ⟨W.heap.size, 4, none⟩ = some (.int .i64 s.mn.n) ∧ X.cell? ⟨W.heap.size, 5, none⟩ = some (.string s.mn.s) ∧ X.cell? ⟨W.heap.size, 6, none⟩ = some (.int .i64 s.mx.k) ∧ X.cell? ⟨W.heap.size, 7, none⟩ = some (.int .i64 s.mx.n) ∧ X.cell? ⟨W.heap.size, 8, none⟩ = some (.string s.mx.s)) ∧ (X.cell? ⟨W.heap.size + 1, 0, none⟩ = some (.int .i64 v.k) ∧ X.cell? ⟨W.heap.size + 1, 1, none⟩ = some (.int .i64 v.n) ∧ X.cell? ⟨W.heap.size + 1, 2, none⟩ = some (.string v.s)) ∧ Below wx.heap.size wx X) (with_reducible refine HN.out _ ?_; repeat' (first | with_reducible assumption | with_reducible exact b0.drew | with_reducible exact b0 | with_reducible refine Below.drew ?_ | with_reducible exact Nat.le_refl _ | with_reducible refine Below.setCell ?_ ?_ _ | with_reducible refine Below.alloc ?_ ?_ _ | with_reducible exact Below.size (by assumption) | (simp; done) | (simp; omega) | omega)) (first | (go_at_call 9; (with_reducible refine Calls.mono (HOA.out _ ?_) ?_); (repeat' (first | with_reducible assumption | with_reducible exact b0.drew | with_reducible exact b0 | with_reducible refine Below.drew ?_ | with_reducible refine Below.alloc ?_ ?_ _ | with_reducible exact Below.size (by assumption) | with_reducible exact Nat.le_refl _ | (simp; done) | (simp; omega))); rintro e z1 ⟨rfl, hbz1⟩) | (go_at_call 8; (with_reducible refine Calls.mono (HOM.out _ ?_) ?_); (repeat' (first | with_reducible assumption | with_reducible exact b0.drew | with_reducible exact b0 | with_reducible refine Below.drew ?_ | with_reducible refine Below.alloc ?_ ?_ _ | with_reducible exact Below.size (by assumption) | with_reducible exact Nat.le_refl _ | (simp; done) | (simp; omega))); rintro e z2 ⟨⟨b, ev, rfl, hmy⟩, hbz2⟩; have HMY : Hid (MyR i s v (errV (A 3)) b ev) := hmy; clear hmy))
        all_goals
          have HI5 : Hid _ := HI4.out.keep hbz2
          obtain ⟨rfl, hb0, hb1⟩ : ev = .nilIface ∧ (s.h = false → b = false) ∧ (s.h = true → GoodS s v → b = mayB i s v) := (by
            rcases HMY.out with ⟨h, _⟩ | ⟨_, h1, h2, h3⟩
            · rw [HBD.out] at h; cases h
            · exact ⟨h1, h2, h3⟩)
          obtain rfl : ok = true := (by have h := HBD2.out; cases ok <;> simp_all)
          have HB0 : Hid _ := hb0
          have HB1 : Hid _ := hb1
          clear hb0 hb1 HMY HI4 hbz1 hbz2
          obtain ⟨⟨x0, x1, x2, x3, x4, x5, x6, x7, x8⟩, _⟩ := row_nine HI5.out.st
          obtain ⟨y0, y1, y2⟩ := row_three HI5.out.va
          rw [HSH.out] at x2
          go_wp2_with fail
          refine (isValueR_any v.k s.mn.k s.mn.n s.mn.s _).mono ?_
          obtain ⟨ol, HOL⟩ : ∃ ok, Hid (okV v.k s.mn.k s.mn.n s.mn.s.size = ok) := ⟨_, rfl⟩
          obtain ⟨oh, HOH⟩ : ∃ ok, Hid (okV v.k s.mx.k s.mx.n s.mx.s.size = ok) := ⟨_, rfl⟩
          rw [HOL.out]
          rintro e w6 ⟨rfl, hb6⟩
          have HI6 : Hid _ := HI5.out.keep hb6
          clear HI5 hb6 x0 x1 x2 x3 x4 x5 x6 x7 x8 y0 y1 y2
          obtain ⟨⟨x0, x1, x2, x3, x4, x5, x6, x7, x8⟩, _⟩ := row_nine HI6.out.st
          obtain ⟨y0, y1, y2⟩ := row_three HI6.out.va
          rw [HSH.out] at x2
          go_wp2_with fail
          refine (isValueR_any v.k s.mx.k s.mx.n s.mx.s _).mono ?_
          rw [HOH.out]
          rintro e w7 ⟨rfl, hb7⟩
          have HI7 : Hid _ := HI6.out.keep hb7
          clear HI6 hb7 x0 x1 x2 x3 x4 x5 x6 x7 x8 y0 y1 y2
          obtain ⟨⟨x0, x1, x2, x3, x4, x5, x6, x7, x8⟩, _⟩ := row_nine HI7.out.st
          obtain ⟨y0, y1, y2⟩ := row_three HI7.out.va
          have HX2 : Hid _ := x2
          rw [HSH.out] at x2
          have hn1 : -9223372036854775808 ≤ s.mn.n := hsl.1
          have hn2 : -9223372036854775808 ≤ s.mx.n := hsl.2
          have HMO : Hid (∀ X, Calls Tryd.prog 12 #[.agg #[.int .i64 s.e, .int .i64 s.u, .bool sh, .int .i64 s.mn.k, .int .i64 s.mn.n, .string s.mn.s, .int .i64 s.mx.k, .int .i64 s.mx.n, .string s.mx.s], .string (stdT i), .agg #[.int .i64 v.k, .int .i64 v.n, .string v.s]] X fun e w' => e = .returned (.bool (mayR i s v)) ∧ Below X.heap.size X w') := fun X => (by have h := mayOf_any i hi6 s v X hsl hvl; rw [HSH.out] at h; exact h)
          cases sh
          · have HE1 : Hid (mayR i s v = b) := (by show _ = _; rw [HB0.out HSH.out]; unfold mayR; rw [HSH.out]; rfl)
            go_wp2_with fail
            refine Calls.mono (HMO.out _) ?_
            rw [HE1.out]
            rintro e w8 ⟨rfl, hb8⟩
            go_wp2
            go_ret
            exact ⟨by simp, (HI7.out.keep hb8).old⟩
          · cases ol
            · go_wp2
              go_ret
              exact ⟨rfl, HI7.out.old⟩
            · cases oh
              · go_wp2
                go_ret
                exact ⟨rfl, HI7.out.old⟩
              · go_wp2_with fail
                refine (lessOf_any s.mx.k s.mx.n s.mx.s s.mn.k s.mn.n s.mn.s _ hn2 hn1).mono ?_
                obtain ⟨r, HR⟩ : ∃ r, Hid (vless s.mx.k s.mx.n s.mx.s s.mn.k s.mn.n s.mn.s = r) := ⟨_, rfl⟩
                rw [HR.out]
                rintro e w8 ⟨rfl, hb8⟩
                have HI8 : Hid _ := HI7.out.keep hb8
                clear HI7 HX2 hb8 x0 x1 x2 x3 x4 x5 x6 x7 x8 y0 y1 y2
                obtain ⟨⟨x0, x1, x2, x3, x4, x5, x6, x7, x8⟩, _⟩ := row_nine HI8.out.st
                obtain ⟨y0, y1, y2⟩ := row_three HI8.out.va
                rw [HSH.out] at x2
                cases r
                · have HE1 : Hid (mayR i s v = b) := (by
                    show _ = _
                    have hg : GoodS s v := ⟨HOL.out, HOH.out, HR.out⟩
                    rw [HB1.out HSH.out hg]
                    exact (may_same i hi6 s v hsl hvl HSH.out hg HOK.out).symm)
                  go_wp2_with fail
                  refine Calls.mono (HMO.out _) ?_
                  rw [HE1.out]
                  rintro e w9 ⟨rfl, hb9⟩
                  go_wp2
                  go_ret
                  exact ⟨by simp, (HI8.out.keep hb9).old⟩
                · go_wp2
                  go_ret
                  exact ⟨rfl, HI8.out.old⟩
      · go_upto_region 11 with fail
        have b0 : Below wx.heap.size wx wx := Below.refl _ _
        have HN : Hid (∀ X, Below wx.heap.size wx X → (X.cell? ⟨W.heap.size, 0, none⟩ = some (.int .i64 s.e) ∧ X.cell? ⟨W.heap.size, 1, none⟩ = some (.int .i64 s.u) ∧ X.cell? ⟨W.heap.size, 2, none⟩ = some (.bool s.h) ∧ X.cell? ⟨W.heap.size, 3, none⟩ = some (.int .i64 s.mn.k) ∧ X.cell? ⟨W.heap.size, 4, none⟩ = some (.int .i64 s.mn.n) ∧ X.cell? ⟨W.heap.size, 5, none⟩ = some (.string s.mn.s) ∧ X.cell? ⟨W.heap.size, 6, none⟩ = some (.int .i64 s.mx.k) ∧ X.cell? ⟨W.heap.size, 7, none⟩ = some (.int .i64 s.mx.n) ∧ X.cell? ⟨W.heap.size, 8, none⟩ = some (.string s.mx.s)) ∧ (X.cell? ⟨W.heap.size + 1, 0, none⟩ = some (.int .i64 v.k) ∧ X.cell? ⟨W.heap.size + 1, 1, none⟩ = some (.int .i64 v.n) ∧ X.cell? ⟨W.heap.size + 1, 2, none⟩ = some (.string v.s)) ∧ Below wx.heap.size wx X) := fun X hX => ⟨(row_nine (HI4.out.keep hX).st).1, row_three (HI4.out.keep hX).va, hX⟩
        have HOA : Hid (∀ X, Below wx.heap.size wx X → Calls Tryd.prog 9 #[.agg #[.int .i64 s.e, .int .i64 s.u, .bool s.h, .int .i64 s.mn.k, .int .i64 s.mn.n, .string s.mn.s, .int .i64 s.mx.k, .int .i64 s.mx.n, .string s.mx.s]] X fun e w' => e = .returned (.agg #[.int .i64 s.e, .int .i64 s.u, .bool s.h, .int .i64 s.mn.k, .int .i64 s.mn.n, .string s.mn.s, .int .i64 s.mx.k, .int .i64 s.mx.n, .string s.mx.s]) ∧ Below wx.heap.size wx w') := fun X hX => (statsOfL_any s X).mono fun _ _ h => ⟨h.1, bel_next hX (Nat.le_refl _) h.2⟩
        have HOM : Hid (∀ X, Below wx.heap.size wx X → Calls Tryd.prog 8 #[.agg #[.int .i64 s.e, .int .i64 s.u, .bool s.h, .int .i64 s.mn.k, .int .i64 s.mn.n, .string s.mn.s, .int .i64 s.mx.k, .int .i64 s.mx.n, .string s.mx.s], .string (stdT i), .agg #[.int .i64 v.k, .int .i64 v.n, .string v.s]] X fun e w' => (∃ (b : Bool) (ev : Value), e = .returned (.tuple #[.bool b, ev]) ∧ MyR i s v (errV (A 3)) b ev) ∧ Below wx.heap.size wx w') := fun X hX => (may_any i hi6 s v X _ _ (ecT (HA0.out _ (HI4.out.keep hX).old) 3 (by omega)) hs hv).mono fun _ _ h => ⟨h.1, bel_next hX (Nat.le_refl _) h.2⟩
        go_region_held3 (fun X => (X.cell? ⟨W.heap.size, 0, none⟩ = some (.int .i64 s.e) ∧ X.cell? ⟨W.heap.size, 1, none⟩ = some (.int .i64 s.u) ∧ X.cell? ⟨W.heap.size, 2, none⟩ = some (.bool s.h) ∧ X.cell? ⟨W.heap.size, 3, none⟩ = some (.int .i64 s.mn.k) ∧ X.cell? ⟨W.heap.size, 4, none⟩ = some (.int .i64 s.mn.n) ∧ X.cell? ⟨W.heap.size, 5, none⟩ = some (.string s.mn.s) ∧ X.cell? ⟨W.heap.size, 6, none⟩ = some (.int .i64 s.mx.k) ∧ X.cell? ⟨W.heap.size, 7, none⟩ = some (.int .i64 s.mx.n) ∧ X.cell? ⟨W.heap.size, 8, none⟩ = some (.string s.mx.s)) ∧ (X.cell? ⟨W.heap.size + 1, 0, none⟩ = some (.int .i64 v.k) ∧ X.cell? ⟨W.heap.size + 1, 1, none⟩ = some (.int .i64 v.n) ∧ X.cell? ⟨W.heap.size + 1, 2, none⟩ = some (.string v.s)) ∧ Below wx.heap.size wx X) (with_reducible refine HN.out _ ?_; repeat' (first | with_reducible assumption | with_reducible exact b0.drew | with_reducible exact b0 | with_reducible refine Below.drew ?_ | with_reducible exact Nat.le_refl _ | with_reducible refine Below.setCell ?_ ?_ _ | with_reducible refine Below.alloc ?_ ?_ _ | with_reducible exact Below.size (by assumption) | (simp; done) | (simp; omega) | omega)) (first | (go_at_call 9; (with_reducible refine Calls.mono (HOA.out _ ?_) ?_); (repeat' (first | with_reducible assumption | with_reducible exact b0.drew | with_reducible exact b0 | with_reducible refine Below.drew ?_ | with_reducible refine Below.alloc ?_ ?_ _ | with_reducible exact Below.size (by assumption) | with_reducible exact Nat.le_refl _ | (simp; done) | (simp; omega))); rintro e z1 ⟨rfl, hbz1⟩) | (go_at_call 8; (with_reducible refine Calls.mono (HOM.out _ ?_) ?_); (repeat' (first | with_reducible assumption | with_reducible exact b0.drew | with_reducible exact b0 | with_reducible refine Below.drew ?_ | with_reducible refine Below.alloc ?_ ?_ _ | with_reducible exact Below.size (by assumption) | with_reducible exact Nat.le_refl _ | (simp; done) | (simp; omega))); rintro e z2 ⟨⟨b, ev, rfl, hmy⟩, hbz2⟩; have HMY : Hid (MyR i s v (errV (A 3)) b ev) := hmy; clear hmy))
        all_goals
          have HI5 : Hid _ := HI4.out.keep hbz2
          obtain ⟨rfl, rfl⟩ : b = false ∧ ev = errV (A 3) := (by
            rcases HMY.out with ⟨_, h⟩ | ⟨h, _⟩
            · exact h
            · rw [HBD.out] at h; cases h)
          go_wp2_with fail
          refine (coded_sent _ A (HA0.out _ HI5.out.old) 3 (by omega) 4 true rfl).mono ?_
          rintro e w6 ⟨rfl, hb6⟩
          go_wp2
          go_ret
          exact ⟨rfl, (HI5.out.keep hb6).old⟩
  · go_wp2_with fail
    refine (standsOf_none how hn v v w1 hvl hvl).mono ?_
    rintro e w2 ⟨rfl, hb2⟩
    have HI2 : Hid _ := HI1.out.keep hb2
    clear HI1 hb2 y0 y1 y2
    obtain ⟨y0, y1, y2⟩ := row_three HI2.out.va
    go_wp2_with fail
    refine Calls.mono (HIV.out _) ?_
    rintro e w3 ⟨rfl, hb3⟩
    have HI3 : Hid _ := HI2.out.keep hb3
    clear HI2 hb3 y0 y1 y2
    go_upto_region 11 with fail
    have b0 : Below w3.heap.size w3 w3 := Below.refl _ _
    have HN : Hid (∀ X, Below w3.heap.size w3 X → (X.cell? ⟨W.heap.size, 0, none⟩ = some (.int .i64 s.e) ∧ X.cell? ⟨W.heap.size, 1, none⟩ = some (.int .i64 s.u) ∧ X.cell? ⟨W.heap.size, 2, none⟩ = some (.bool s.h) ∧ X.cell? ⟨W.heap.size, 3, none⟩ = some (.int .i64 s.mn.k) ∧ X.cell? ⟨W.heap.size, 4, none⟩ = some (.int .i64 s.mn.n) ∧ X.cell? ⟨W.heap.size, 5, none⟩ = some (.string s.mn.s) ∧ X.cell? ⟨W.heap.size, 6, none⟩ = some (.int .i64 s.mx.k) ∧ X.cell? ⟨W.heap.size, 7, none⟩ = some (.int .i64 s.mx.n) ∧ X.cell? ⟨W.heap.size, 8, none⟩ = some (.string s.mx.s)) ∧ (X.cell? ⟨W.heap.size + 1, 0, none⟩ = some (.int .i64 v.k) ∧ X.cell? ⟨W.heap.size + 1, 1, none⟩ = some (.int .i64 v.n) ∧ X.cell? ⟨W.heap.size + 1, 2, none⟩ = some (.string v.s)) ∧ Below w3.heap.size w3 X) := fun X hX => ⟨(row_nine (HI3.out.keep hX).st).1, row_three (HI3.out.keep hX).va, hX⟩
    have HOA : Hid (∀ X, Below w3.heap.size w3 X → Calls Tryd.prog 9 #[.agg #[.int .i64 s.e, .int .i64 s.u, .bool s.h, .int .i64 s.mn.k, .int .i64 s.mn.n, .string s.mn.s, .int .i64 s.mx.k, .int .i64 s.mx.n, .string s.mx.s]] X fun e w' => e = .returned (.agg #[.int .i64 s.e, .int .i64 s.u, .bool s.h, .int .i64 s.mn.k, .int .i64 s.mn.n, .string s.mn.s, .int .i64 s.mx.k, .int .i64 s.mx.n, .string s.mx.s]) ∧ Below w3.heap.size w3 w') := fun X hX => (statsOfL_any s X).mono fun _ _ h => ⟨h.1, bel_next hX (Nat.le_refl _) h.2⟩
    have HOM : Hid (∀ X, Below w3.heap.size w3 X → Calls Tryd.prog 8 #[.agg #[.int .i64 s.e, .int .i64 s.u, .bool s.h, .int .i64 s.mn.k, .int .i64 s.mn.n, .string s.mn.s, .int .i64 s.mx.k, .int .i64 s.mx.n, .string s.mx.s], .string how, .agg #[.int .i64 v.k, .int .i64 v.n, .string v.s]] X fun e w' => (e = .returned (.tuple #[.bool false, errV (A 0)])) ∧ Below w3.heap.size w3 w') := fun X hX => (may_none how hn s v X _ _ (ecT (HA0.out _ (HI3.out.keep hX).old) 0 (by omega))).mono fun _ _ h => ⟨h.1, bel_next hX (Nat.le_refl _) h.2⟩
    go_region_held3 (fun X => (X.cell? ⟨W.heap.size, 0, none⟩ = some (.int .i64 s.e) ∧ X.cell? ⟨W.heap.size, 1, none⟩ = some (.int .i64 s.u) ∧ X.cell? ⟨W.heap.size, 2, none⟩ = some (.bool s.h) ∧ X.cell? ⟨W.heap.size, 3, none⟩ = some (.int .i64 s.mn.k) ∧ X.cell? ⟨W.heap.size, 4, none⟩ = some (.int .i64 s.mn.n) ∧ X.cell? ⟨W.heap.size, 5, none⟩ = some (.string s.mn.s) ∧ X.cell? ⟨W.heap.size, 6, none⟩ = some (.int .i64 s.mx.k) ∧ X.cell? ⟨W.heap.size, 7, none⟩ = some (.int .i64 s.mx.n) ∧ X.cell? ⟨W.heap.size, 8, none⟩ = some (.string s.mx.s)) ∧ (X.cell? ⟨W.heap.size + 1, 0, none⟩ = some (.int .i64 v.k) ∧ X.cell? ⟨W.heap.size + 1, 1, none⟩ = some (.int .i64 v.n) ∧ X.cell? ⟨W.heap.size + 1, 2, none⟩ = some (.string v.s)) ∧ Below w3.heap.size w3 X) (with_reducible refine HN.out _ ?_; repeat' (first | with_reducible assumption | with_reducible exact b0.drew | with_reducible exact b0 | with_reducible refine Below.drew ?_ | with_reducible exact Nat.le_refl _ | with_reducible refine Below.setCell ?_ ?_ _ | with_reducible refine Below.alloc ?_ ?_ _ | with_reducible exact Below.size (by assumption) | (simp; done) | (simp; omega) | omega)) (first | (go_at_call 9; (with_reducible refine Calls.mono (HOA.out _ ?_) ?_); (repeat' (first | with_reducible assumption | with_reducible exact b0.drew | with_reducible exact b0 | with_reducible refine Below.drew ?_ | with_reducible refine Below.alloc ?_ ?_ _ | with_reducible exact Below.size (by assumption) | with_reducible exact Nat.le_refl _ | (simp; done) | (simp; omega))); rintro e z1 ⟨rfl, hbz1⟩) | (go_at_call 8; (with_reducible refine Calls.mono (HOM.out _ ?_) ?_); (repeat' (first | with_reducible assumption | with_reducible exact b0.drew | with_reducible exact b0 | with_reducible refine Below.drew ?_ | with_reducible refine Below.alloc ?_ ?_ _ | with_reducible exact Below.size (by assumption) | with_reducible exact Nat.le_refl _ | (simp; done) | (simp; omega))); rintro e z2 ⟨rfl, hbz2⟩))
    all_goals
      have HI4 : Hid _ := HI3.out.keep hbz2
      go_wp2_with fail
      refine (coded_sent _ A (HA0.out _ HI4.out.old) 0 (by omega) 1 true rfl).mono ?_
      rintro e w5 ⟨rfl, hb5⟩
      go_wp2
      go_ret
      exact ⟨rfl, (HI4.out.keep hb5).old⟩
end Go.Proofs.YthlnjnoeaicjjaaDoor
