/-
  What is known of values, as nine cells; boxes of it.
  (stats.Stats).around and kind, walked.
  stats.firstOf, lastOf, shortFrom, leastFrom, greatestTo, walked.
-/
import Derived.Test.YthlnjnoeaicjjaaDoorQColT
import Derived.Test.YthlnjnoeaicjjaaDoorQBLess
import Derived.Test.YthlnjnoeaicjjaaDoorShelf
namespace Go.Proofs.YthlnjnoeaicjjaaDoor
open Go.RowKit
def Vl.val (v : Vl) : Value := .agg #[.int .i64 v.k, .int .i64 v.n, .string v.s]
def Vl.zero : Vl := ⟨0, 0, ⟨#[]⟩⟩
/-- What is known of values. -/
structure St where
  e : Int
  u : Int
  h : Bool
  mn : Vl
  mx : Vl
def St.cs (s : St) : Array Value := #[.int .i64 s.e, .int .i64 s.u, .bool s.h, .int .i64 s.mn.k, .int .i64 s.mn.n, .string s.mn.s, .int .i64 s.mx.k, .int .i64 s.mx.n, .string s.mx.s]
def St.val (s : St) : Value := .agg s.cs
def St.zero : St := ⟨0, 0, false, Vl.zero, Vl.zero⟩
def Vl.Low (v : Vl) : Prop := -9223372036854775808 ≤ v.n
def St.Low (s : St) : Prop := s.mn.Low ∧ s.mx.Low
def lss (a b : Vl) : Bool := vless a.k a.n a.s b.k b.n b.s
/-- around, as a function. -/
def St.around (s : St) (l g : Vl) : St := ⟨s.e, s.u, true, if !s.h || lss l s.mn then l else s.mn, if !s.h || lss s.mx g then g else s.mx⟩
theorem row_nine {w : World} {g t : Nat} {x0 x1 x2 x3 x4 x5 x6 x7 x8 : Value} (h : w.heap[g]? = some (.cells #[x0, x1, x2, x3, x4, x5, x6, x7, x8] t (0, 0))) :
    (w.cell? ⟨g, 0, none⟩ = some x0 ∧ w.cell? ⟨g, 1, none⟩ = some x1 ∧ w.cell? ⟨g, 2, none⟩ = some x2 ∧ w.cell? ⟨g, 3, none⟩ = some x3 ∧ w.cell? ⟨g, 4, none⟩ = some x4 ∧ w.cell? ⟨g, 5, none⟩ = some x5 ∧ w.cell? ⟨g, 6, none⟩ = some x6 ∧ w.cell? ⟨g, 7, none⟩ = some x7 ∧ w.cell? ⟨g, 8, none⟩ = some x8) ∧
    w.frozen? ⟨g, 0, none⟩ = false ∧ w.frozen? ⟨g, 1, none⟩ = false ∧ w.frozen? ⟨g, 2, none⟩ = false ∧ w.frozen? ⟨g, 3, none⟩ = false ∧ w.frozen? ⟨g, 4, none⟩ = false ∧ w.frozen? ⟨g, 5, none⟩ = false ∧ w.frozen? ⟨g, 6, none⟩ = false ∧ w.frozen? ⟨g, 7, none⟩ = false ∧ w.frozen? ⟨g, 8, none⟩ = false := by
  refine ⟨⟨?_, ?_, ?_, ?_, ?_, ?_, ?_, ?_, ?_⟩, ?_, ?_, ?_, ?_, ?_, ?_, ?_, ?_, ?_⟩ <;> first | simp [World.frozen?, h] | simp [World.cell?, h]
theorem st_row {w : World} {g : Nat} {s : St} {t : Nat} (h : w.heap[g]? = some (.cells s.cs t (0, 0))) :
    (w.cell? ⟨g, 0, none⟩ = some (.int .i64 s.e) ∧ w.cell? ⟨g, 1, none⟩ = some (.int .i64 s.u) ∧ w.cell? ⟨g, 2, none⟩ = some (.bool s.h) ∧ w.cell? ⟨g, 3, none⟩ = some (.int .i64 s.mn.k) ∧ w.cell? ⟨g, 4, none⟩ = some (.int .i64 s.mn.n) ∧ w.cell? ⟨g, 5, none⟩ = some (.string s.mn.s) ∧ w.cell? ⟨g, 6, none⟩ = some (.int .i64 s.mx.k) ∧ w.cell? ⟨g, 7, none⟩ = some (.int .i64 s.mx.n) ∧ w.cell? ⟨g, 8, none⟩ = some (.string s.mx.s)) ∧
    w.frozen? ⟨g, 0, none⟩ = false ∧ w.frozen? ⟨g, 1, none⟩ = false ∧ w.frozen? ⟨g, 2, none⟩ = false ∧ w.frozen? ⟨g, 3, none⟩ = false ∧ w.frozen? ⟨g, 4, none⟩ = false ∧ w.frozen? ⟨g, 5, none⟩ = false ∧ w.frozen? ⟨g, 6, none⟩ = false ∧ w.frozen? ⟨g, 7, none⟩ = false ∧ w.frozen? ⟨g, 8, none⟩ = false := row_nine h
/-- Nine cells of a box are written. -/
def set9 (w : World) (g : Nat) (y0 y1 y2 y3 y4 y5 y6 y7 y8 : Value) : World := ((((((((w.setCell ⟨g, 0, none⟩ y0).setCell ⟨g, 1, none⟩ y1).setCell ⟨g, 2, none⟩ y2).setCell ⟨g, 3, none⟩ y3).setCell ⟨g, 4, none⟩ y4).setCell ⟨g, 5, none⟩ y5).setCell ⟨g, 6, none⟩ y6).setCell ⟨g, 7, none⟩ y7).setCell ⟨g, 8, none⟩ y8
theorem set9_row {w : World} {g t : Nat} {x0 x1 x2 x3 x4 x5 x6 x7 x8 : Value} (h : w.heap[g]? = some (.cells #[x0, x1, x2, x3, x4, x5, x6, x7, x8] t (0, 0))) (y0 y1 y2 y3 y4 y5 y6 y7 y8 : Value) :
    (set9 w g y0 y1 y2 y3 y4 y5 y6 y7 y8).heap[g]? = some (.cells #[y0, y1, y2, y3, y4, y5, y6, y7, y8] t (0, 0)) := by
  have h0 : (w.setCell ⟨g, 0, none⟩ y0).heap[g]? = some (.cells #[y0, x1, x2, x3, x4, x5, x6, x7, x8] t (0, 0)) := row_setCell h y0
  have h1 : ((w.setCell ⟨g, 0, none⟩ y0).setCell ⟨g, 1, none⟩ y1).heap[g]? = some (.cells #[y0, y1, x2, x3, x4, x5, x6, x7, x8] t (0, 0)) := row_setCell h0 y1
  have h2 : (((w.setCell ⟨g, 0, none⟩ y0).setCell ⟨g, 1, none⟩ y1).setCell ⟨g, 2, none⟩ y2).heap[g]? = some (.cells #[y0, y1, y2, x3, x4, x5, x6, x7, x8] t (0, 0)) := row_setCell h1 y2
  have h3 : ((((w.setCell ⟨g, 0, none⟩ y0).setCell ⟨g, 1, none⟩ y1).setCell ⟨g, 2, none⟩ y2).setCell ⟨g, 3, none⟩ y3).heap[g]? = some (.cells #[y0, y1, y2, y3, x4, x5, x6, x7, x8] t (0, 0)) := row_setCell h2 y3
  have h4 : (((((w.setCell ⟨g, 0, none⟩ y0).setCell ⟨g, 1, none⟩ y1).setCell ⟨g, 2, none⟩ y2).setCell ⟨g, 3, none⟩ y3).setCell ⟨g, 4, none⟩ y4).heap[g]? = some (.cells #[y0, y1, y2, y3, y4, x5, x6, x7, x8] t (0, 0)) := row_setCell h3 y4
  have h5 : ((((((w.setCell ⟨g, 0, none⟩ y0).setCell ⟨g, 1, none⟩ y1).setCell ⟨g, 2, none⟩ y2).setCell ⟨g, 3, none⟩ y3).setCell ⟨g, 4, none⟩ y4).setCell ⟨g, 5, none⟩ y5).heap[g]? = some (.cells #[y0, y1, y2, y3, y4, y5, x6, x7, x8] t (0, 0)) := row_setCell h4 y5
  have h6 : (((((((w.setCell ⟨g, 0, none⟩ y0).setCell ⟨g, 1, none⟩ y1).setCell ⟨g, 2, none⟩ y2).setCell ⟨g, 3, none⟩ y3).setCell ⟨g, 4, none⟩ y4).setCell ⟨g, 5, none⟩ y5).setCell ⟨g, 6, none⟩ y6).heap[g]? = some (.cells #[y0, y1, y2, y3, y4, y5, y6, x7, x8] t (0, 0)) := row_setCell h5 y6
  have h7 : ((((((((w.setCell ⟨g, 0, none⟩ y0).setCell ⟨g, 1, none⟩ y1).setCell ⟨g, 2, none⟩ y2).setCell ⟨g, 3, none⟩ y3).setCell ⟨g, 4, none⟩ y4).setCell ⟨g, 5, none⟩ y5).setCell ⟨g, 6, none⟩ y6).setCell ⟨g, 7, none⟩ y7).heap[g]? = some (.cells #[y0, y1, y2, y3, y4, y5, y6, y7, x8] t (0, 0)) := row_setCell h6 y7
  have h8 : (((((((((w.setCell ⟨g, 0, none⟩ y0).setCell ⟨g, 1, none⟩ y1).setCell ⟨g, 2, none⟩ y2).setCell ⟨g, 3, none⟩ y3).setCell ⟨g, 4, none⟩ y4).setCell ⟨g, 5, none⟩ y5).setCell ⟨g, 6, none⟩ y6).setCell ⟨g, 7, none⟩ y7).setCell ⟨g, 8, none⟩ y8).heap[g]? = some (.cells #[y0, y1, y2, y3, y4, y5, y6, y7, y8] t (0, 0)) := row_setCell h7 y8
  exact h8
theorem set9_other {w : World} {g b : Nat} {o : Obj} (h : w.heap[b]? = some o) (hn : b ≠ g) (y0 y1 y2 y3 y4 y5 y6 y7 y8 : Value) : (set9 w g y0 y1 y2 y3 y4 y5 y6 y7 y8).heap[b]? = some o :=
  blk_other (blk_other (blk_other (blk_other (blk_other (blk_other (blk_other (blk_other (blk_other h hn y0) hn y1) hn y2) hn y3) hn y4) hn y5) hn y6) hn y7) hn y8
theorem set9_below {B g : Nat} {w X : World} (h : Below B w X) (hg : B ≤ g) (y0 y1 y2 y3 y4 y5 y6 y7 y8 : Value) : Below B w (set9 X g y0 y1 y2 y3 y4 y5 y6 y7 y8) :=
  ((((((((h.setCell hg _).setCell hg _).setCell hg _).setCell hg _).setCell hg _).setCell hg _).setCell hg _).setCell hg _).setCell hg _
end Go.Proofs.YthlnjnoeaicjjaaDoor

namespace Go.Proofs.YthlnjnoeaicjjaaDoor
open Go.RowKit
/-- What around's boxes hold. -/
structure ArI (W : World) (s : St) (l g : Vl) (X : World) : Prop where
  st : X.heap[W.heap.size]? = some (.cells s.cs 34 (0, 0))
  lo : X.heap[W.heap.size + 1]? = some (.cells #[.int .i64 l.k, .int .i64 l.n, .string l.s] 23 (0, 0))
  hi : X.heap[W.heap.size + 1 + 1]? = some (.cells #[.int .i64 g.k, .int .i64 g.n, .string g.s] 23 (0, 0))
  re : X.heap[W.heap.size + 1 + 1 + 1]? = some (.cells #[.int .i64 0, .int .i64 0, .bool false, .int .i64 0, .int .i64 0, .string ⟨#[]⟩, .int .i64 0, .int .i64 0, .string ⟨#[]⟩] 34 (0, 0))
  old : Below W.heap.size W X
theorem ArI.keep {W : World} {s : St} {l g : Vl} {X w' : World} (h : ArI W s l g X) (hb : Below X.heap.size X w') : ArI W s l g w' :=
  ⟨blk_keep hb h.st, blk_keep hb h.lo, blk_keep hb h.hi, blk_keep hb h.re, h.old.trans (hb.mono h.old.size)⟩
theorem ArI.put {W : World} {s s' : St} {l g : Vl} {X w' : World} (h : ArI W s l g X) (h0 : w'.heap[W.heap.size]? = some (.cells s'.cs 34 (0, 0))) (hr : ∀ b o, b ≠ W.heap.size → X.heap[b]? = some o → w'.heap[b]? = some o) (hb : Below W.heap.size X w') : ArI W s' l g w' :=
  ⟨h0, hr _ _ (by omega) h.lo, hr _ _ (by omega) h.hi, hr _ _ (by omega) h.re, h.old.trans hb⟩
theorem ArI.setMn {W : World} {s : St} {l g : Vl} {X : World} (h : ArI W s l g X) : ArI W { s with mn := l } l g (((X.setCell ⟨W.heap.size, 3, none⟩ (.int .i64 l.k)).setCell ⟨W.heap.size, 4, none⟩ (.int .i64 l.n)).setCell ⟨W.heap.size, 5, none⟩ (.string l.s)) :=
  h.put (row_setCell (row_setCell (row_setCell h.st _) _) _) (fun b o hn hx => blk_other (blk_other (blk_other hx hn _) hn _) hn _) ((((Below.refl _ _).setCell (by simp) _).setCell (by simp) _).setCell (by simp) _)
theorem ArI.setMx {W : World} {s : St} {l g : Vl} {X : World} (h : ArI W s l g X) : ArI W { s with mx := g } l g (((X.setCell ⟨W.heap.size, 6, none⟩ (.int .i64 g.k)).setCell ⟨W.heap.size, 7, none⟩ (.int .i64 g.n)).setCell ⟨W.heap.size, 8, none⟩ (.string g.s)) :=
  h.put (row_setCell (row_setCell (row_setCell h.st _) _) _) (fun b o hn hx => blk_other (blk_other (blk_other hx hn _) hn _) hn _) ((((Below.refl _ _).setCell (by simp) _).setCell (by simp) _).setCell (by simp) _)
theorem ArI.setH {W : World} {s : St} {l g : Vl} {X : World} (h : ArI W s l g X) : ArI W { s with h := true } l g (X.setCell ⟨W.heap.size, 2, none⟩ (.bool true)) :=
  h.put (row_setCell h.st _) (fun b o hn hx => blk_other hx hn _) ((Below.refl _ _).setCell (by simp) _)
set_option maxRecDepth 100000 in
set_option maxHeartbeats 1600000 in
/-- From behind the two tests on: Has is set, and all is handed out. -/
theorem around_any (s : St) (l g : Vl) (W : World) (hs : s.Low) (hl : l.Low) (hg : g.Low) :
    Calls Tryd.prog 28 #[s.val, l.val, g.val] W fun e w' => e = .returned (s.around l g).val ∧ Below W.heap.size W w' := by
  obtain ⟨w0, HW0, H1, H2, H3, H4, HB⟩ := four_boxes W s.cs #[.int .i64 l.k, .int .i64 l.n, .string l.s] #[.int .i64 g.k, .int .i64 g.n, .string g.s] #[.int .i64 0, .int .i64 0, .bool false, .int .i64 0, .int .i64 0, .string ⟨#[]⟩, .int .i64 0, .int .i64 0, .string ⟨#[]⟩] 34 23 23 34
  have HI : Hid (ArI W s l g w0) := ⟨H1.out, H2.out, H3.out, H4.out, HB.out⟩
  clear H1 H2 H3 H4 HB
  obtain ⟨h1, h2⟩ := hs
  unfold Vl.Low at h1 h2 hl hg
  have HE : Hid (∀ (t : St) (X : World), ArI W t l g X → (set9 X (W.heap.size + 1 + 1 + 1) (.int .i64 t.e) (.int .i64 t.u) (.bool t.h) (.int .i64 t.mn.k) (.int .i64 t.mn.n) (.string t.mn.s) (.int .i64 t.mx.k) (.int .i64 t.mx.n) (.string t.mx.s)).heap[W.heap.size + 1 + 1 + 1]? = some (.cells t.cs 34 (0, 0)) ∧ Below W.heap.size W (set9 X (W.heap.size + 1 + 1 + 1) (.int .i64 t.e) (.int .i64 t.u) (.bool t.h) (.int .i64 t.mn.k) (.int .i64 t.mn.n) (.string t.mn.s) (.int .i64 t.mx.k) (.int .i64 t.mx.n) (.string t.mx.s))) := fun t X hX =>
    ⟨set9_row hX.re _ _ _ _ _ _ _ _ _, set9_below hX.old (by omega) _ _ _ _ _ _ _ _ _⟩
  unfold St.cs at HW0
  obtain ⟨se, su, sh, sm, sx⟩ := s
  show Calls Tryd.prog 28 #[.agg #[.int .i64 se, .int .i64 su, .bool sh, .int .i64 sm.k, .int .i64 sm.n, .string sm.s, .int .i64 sx.k, .int .i64 sx.n, .string sx.s], .agg #[.int .i64 l.k, .int .i64 l.n, .string l.s], .agg #[.int .i64 g.k, .int .i64 g.n, .string g.s]] W fun e w' => e = .returned (St.around ⟨se, su, sh, sm, sx⟩ l g).val ∧ Below W.heap.size W w'
  go_enter Tryd.func28, Tryd.ntmps28
  obtain ⟨z1, z2⟩ := row_nine HI.out.re
  cases sh
  · obtain ⟨p1, p2⟩ := st_row HI.out.st
    obtain ⟨a0, a1, a2⟩ := row_three HI.out.lo
    obtain ⟨b0, b1, b2⟩ := row_three HI.out.hi
    go_upto_region 1 with fail
    rw [HW0.out]
    go_wp2
    have ht : (⟨se, su, true, l, g⟩ : St) = St.around ⟨se, su, false, sm, sx⟩ l g := rfl
    rw [← ht]
    have h := HE.out _ _ (ArI.setH (ArI.setMx (ArI.setMn HI.out)))
    exact bodyPost_ret (v := .agg (St.cs ⟨se, su, true, l, g⟩)) (results_cell_row Tryd.results28 _ _ (W.heap.size + 1 + 1 + 1) 34 (St.cs ⟨se, su, true, l, g⟩) (0, 0) _ rfl h.1 Tryd.underlying34 rfl (by kernel_rfl)) rfl ⟨rfl, h.2⟩
  · go_wp2_with fail
    rw [HW0.out]
    refine (less_any l.k l.n l.s sm.k sm.n sm.s w0 hl h1).mono ?_
    obtain ⟨b1, HB1⟩ : ∃ b, Hid (vless l.k l.n l.s sm.k sm.n sm.s = b) := ⟨_, rfl⟩
    obtain ⟨b2, HB2⟩ : ∃ b, Hid (vless sx.k sx.n sx.s g.k g.n g.s = b) := ⟨_, rfl⟩
    rw [HB1.out]
    rintro e w1 ⟨rfl, hb1⟩
    have HI1 : Hid _ := HI.out.keep hb1
    clear HI HW0 z1 z2 hb1
    obtain ⟨p1, p2⟩ := st_row HI1.out.st
    obtain ⟨a0, a1, a2⟩ := row_three HI1.out.lo
    obtain ⟨d0, d1, d2⟩ := row_three HI1.out.hi
    obtain ⟨z1, z2⟩ := row_nine HI1.out.re
    have HT : Hid (∀ m x, (if b1 = true then l else sm) = m → (if b2 = true then g else sx) = x → (⟨se, su, true, m, x⟩ : St) = St.around ⟨se, su, true, sm, sx⟩ l g) := fun m x hm hx => by
      subst hm hx
      simp [St.around, lss, HB1.out, HB2.out]
    clear HB1
    cases b1
    all_goals
      go_wp2_with fail
      refine (less_any sx.k sx.n sx.s g.k g.n g.s _ h2 hg).mono ?_
      rw [HB2.out]
      rintro e w2 ⟨rfl, hb2⟩
    · have HI2 : Hid _ := HI1.out.keep hb2
      clear HI1 p1 p2 a0 a1 a2 d0 d1 d2 z1 z2 hb2 HB2
      obtain ⟨p1, p2⟩ := st_row HI2.out.st
      obtain ⟨a0, a1, a2⟩ := row_three HI2.out.lo
      obtain ⟨d0, d1, d2⟩ := row_three HI2.out.hi
      obtain ⟨z1, z2⟩ := row_nine HI2.out.re
      cases b2
      · go_wp2
        rw [← HT.out _ _ rfl rfl]
        have h := HE.out _ _ (ArI.setH HI2.out)
        exact bodyPost_ret (v := .agg (St.cs ⟨se, su, true, sm, sx⟩)) (results_cell_row Tryd.results28 _ _ (W.heap.size + 1 + 1 + 1) 34 (St.cs ⟨se, su, true, sm, sx⟩) (0, 0) _ rfl h.1 Tryd.underlying34 rfl (by kernel_rfl)) rfl ⟨rfl, h.2⟩
      · go_wp2
        rw [← HT.out _ _ rfl rfl]
        have h := HE.out _ _ (ArI.setH (ArI.setMx HI2.out))
        exact bodyPost_ret (v := .agg (St.cs ⟨se, su, true, sm, g⟩)) (results_cell_row Tryd.results28 _ _ (W.heap.size + 1 + 1 + 1) 34 (St.cs ⟨se, su, true, sm, g⟩) (0, 0) _ rfl h.1 Tryd.underlying34 rfl (by kernel_rfl)) rfl ⟨rfl, h.2⟩
    · have HI2 : Hid _ := (ArI.setMn HI1.out).keep hb2
      clear HI1 p1 p2 a0 a1 a2 d0 d1 d2 z1 z2 hb2 HB2
      obtain ⟨p1, p2⟩ := st_row HI2.out.st
      obtain ⟨a0, a1, a2⟩ := row_three HI2.out.lo
      obtain ⟨d0, d1, d2⟩ := row_three HI2.out.hi
      obtain ⟨z1, z2⟩ := row_nine HI2.out.re
      cases b2
      · go_wp2
        rw [← HT.out _ _ rfl rfl]
        have h := HE.out _ _ (ArI.setH HI2.out)
        exact bodyPost_ret (v := .agg (St.cs ⟨se, su, true, l, sx⟩)) (results_cell_row Tryd.results28 _ _ (W.heap.size + 1 + 1 + 1) 34 (St.cs ⟨se, su, true, l, sx⟩) (0, 0) _ rfl h.1 Tryd.underlying34 rfl (by kernel_rfl)) rfl ⟨rfl, h.2⟩
      · go_wp2
        rw [← HT.out _ _ rfl rfl]
        have h := HE.out _ _ (ArI.setH (ArI.setMx HI2.out))
        exact bodyPost_ret (v := .agg (St.cs ⟨se, su, true, l, g⟩)) (results_cell_row Tryd.results28 _ _ (W.heap.size + 1 + 1 + 1) 34 (St.cs ⟨se, su, true, l, g⟩) (0, 0) _ rfl h.1 Tryd.underlying34 rfl (by kernel_rfl)) rfl ⟨rfl, h.2⟩
theorem around_x (s : St) (l g : Vl) (W : World) (hs : s.Low) (hl : l.Low) (hg : g.Low) :
    Calls Tryd.prog 28 #[.agg #[.int .i64 s.e, .int .i64 s.u, .bool s.h, .int .i64 s.mn.k, .int .i64 s.mn.n, .string s.mn.s, .int .i64 s.mx.k, .int .i64 s.mx.n, .string s.mx.s], .agg #[.int .i64 l.k, .int .i64 l.n, .string l.s], .agg #[.int .i64 g.k, .int .i64 g.n, .string g.s]] W fun e w' => (∃ t : St, Hid (t = s.around l g) ∧ e = .returned (.agg #[.int .i64 t.e, .int .i64 t.u, .bool t.h, .int .i64 t.mn.k, .int .i64 t.mn.n, .string t.mn.s, .int .i64 t.mx.k, .int .i64 t.mx.n, .string t.mx.s])) ∧ Below W.heap.size W w' :=
  (around_any s l g W hs hl hg).mono fun _ _ h => ⟨⟨s.around l g, rfl, h.1⟩, h.2⟩
set_option maxRecDepth 100000 in
theorem kindS_any (s : St) (W : World) : Calls Tryd.prog 21 #[s.val] W fun e w' => e = .returned (.int .i64 s.mn.k) ∧ Below W.heap.size W w' := by
  unfold St.val St.cs
  go_enter Tryd.func21, Tryd.ntmps21
  go_wp2
  go_ret
  exact ⟨rfl, (Below.refl _ _).alloc (Nat.le_refl _) _⟩
end Go.Proofs.YthlnjnoeaicjjaaDoor

namespace Go.Proofs.YthlnjnoeaicjjaaDoor
open Go.RowKit
/-- Three cells of a box are written. -/
abbrev set3 (w : World) (g : Nat) (y0 y1 y2 : Value) : World := ((w.setCell ⟨g, 0, none⟩ y0).setCell ⟨g, 1, none⟩ y1).setCell ⟨g, 2, none⟩ y2
theorem set3_row {w : World} {g t : Nat} {x0 x1 x2 : Value} (h : w.heap[g]? = some (.cells #[x0, x1, x2] t (0, 0))) (y0 y1 y2 : Value) : (set3 w g y0 y1 y2).heap[g]? = some (.cells #[y0, y1, y2] t (0, 0)) := by
  have h0 : (w.setCell ⟨g, 0, none⟩ y0).heap[g]? = some (.cells #[y0, x1, x2] t (0, 0)) := row_setCell h y0
  have h1 : ((w.setCell ⟨g, 0, none⟩ y0).setCell ⟨g, 1, none⟩ y1).heap[g]? = some (.cells #[y0, y1, x2] t (0, 0)) := row_setCell h0 y1
  exact row_setCell h1 y2
theorem set3_below {B g : Nat} {w X : World} (h : Below B w X) (hg : B ≤ g) (y0 y1 y2 : Value) : Below B w (set3 X g y0 y1 y2) := ((h.setCell hg _).setCell hg _).setCell hg _
theorem set3_other {w : World} {g b : Nat} {o : Obj} (h : w.heap[b]? = some o) (hn : b ≠ g) (y0 y1 y2 : Value) : (set3 w g y0 y1 y2).heap[b]? = some o := blk_other (blk_other (blk_other h hn y0) hn y1) hn y2
theorem row_threeF {w : World} {g e : Nat} {x y z : Value} (h : w.heap[g]? = some (.cells #[x, y, z] e (0, 0))) : w.frozen? ⟨g, 0, none⟩ = false ∧ w.frozen? ⟨g, 1, none⟩ = false ∧ w.frozen? ⟨g, 2, none⟩ = false := by
  refine ⟨?_, ?_, ?_⟩ <;> simp [World.frozen?, h]
/-- The first value of a kind. -/
def fstV (k : Int) : Vl := ⟨k, if k = 2 then -2147483648 else if k = 3 then -9223372036854775808 else if k = 5 then -1 else 0, ⟨#[]⟩⟩
set_option maxRecDepth 100000 in
set_option maxHeartbeats 1600000 in
theorem firstOf_any (k : Int) (W : World) : Calls Tryd.prog 33 #[.int .i64 k] W fun e w' => e = .returned (.agg #[.int .i64 (fstV k).k, .int .i64 (fstV k).n, .string (fstV k).s]) ∧ Below W.heap.size W w' := by
  obtain ⟨w0, HW0, HX, HY, HB⟩ := two_boxes W #[.int .i64 0, .int .i64 0, .string ⟨#[]⟩] #[.int .i64 k, .int .i64 0, .string ⟨#[]⟩] 23 23
  obtain ⟨x0, x1, x2⟩ := row_three HX.out
  obtain ⟨x3, x4, x5⟩ := row_threeF HX.out
  obtain ⟨y0, y1, y2⟩ := row_three HY.out
  obtain ⟨y3, y4, y5⟩ := row_threeF HY.out
  go_enter Tryd.func33, Tryd.ntmps33
  go_upto_region 2 with fail
  rw [HW0.out]
  have HE : Hid (∀ (X : World) (n : Int), X.heap[W.heap.size]? = some (.cells #[.int .i64 0, .int .i64 0, .string ⟨#[]⟩] 23 (0, 0)) → Below W.heap.size W X → (set3 X W.heap.size (.int .i64 k) (.int .i64 n) (.string ⟨#[]⟩)).heap[W.heap.size]? = some (.cells #[.int .i64 k, .int .i64 n, .string ⟨#[]⟩] 23 (0, 0)) ∧ Below W.heap.size W (set3 X W.heap.size (.int .i64 k) (.int .i64 n) (.string ⟨#[]⟩))) := fun X n h1 h2 => ⟨set3_row h1 _ _ _, set3_below h2 (Nat.le_refl _) _ _ _⟩
  rcases Decidable.em (k = 2) with h2 | h2
  · subst h2
    go_wp2
    have h := HE.out (w0.setCell ⟨W.heap.size + 1, 1, none⟩ (.int .i64 (-2147483648))) (-2147483648) (blk_other HX.out (by omega) _) (HB.out.setCell (by simp) _)
    exact bodyPost_ret (v := .agg #[.int .i64 2, .int .i64 (-2147483648), .string ⟨#[]⟩]) (results_cell_row Tryd.results33 _ _ W.heap.size 23 #[.int .i64 2, .int .i64 (-2147483648), .string ⟨#[]⟩] (0, 0) _ rfl h.1 Tryd.underlying23 rfl (by kernel_rfl)) rfl ⟨rfl, h.2⟩
  have q2 : (k == 2) = false := by simp [h2]
  rcases Decidable.em (k = 3) with h3 | h3
  · subst h3
    go_wp2
    have h := HE.out (w0.setCell ⟨W.heap.size + 1, 1, none⟩ (.int .i64 (-9223372036854775808))) (-9223372036854775808) (blk_other HX.out (by omega) _) (HB.out.setCell (by simp) _)
    exact bodyPost_ret (v := .agg #[.int .i64 3, .int .i64 (-9223372036854775808), .string ⟨#[]⟩]) (results_cell_row Tryd.results33 _ _ W.heap.size 23 #[.int .i64 3, .int .i64 (-9223372036854775808), .string ⟨#[]⟩] (0, 0) _ rfl h.1 Tryd.underlying23 rfl (by kernel_rfl)) rfl ⟨rfl, h.2⟩
  have q3 : (k == 3) = false := by simp [h3]
  rcases Decidable.em (k = 5) with h5 | h5
  · subst h5
    go_wp2
    have h := HE.out (w0.setCell ⟨W.heap.size + 1, 1, none⟩ (.int .i64 (-1))) (-1) (blk_other HX.out (by omega) _) (HB.out.setCell (by simp) _)
    exact bodyPost_ret (v := .agg #[.int .i64 5, .int .i64 (-1), .string ⟨#[]⟩]) (results_cell_row Tryd.results33 _ _ W.heap.size 23 #[.int .i64 5, .int .i64 (-1), .string ⟨#[]⟩] (0, 0) _ rfl h.1 Tryd.underlying23 rfl (by kernel_rfl)) rfl ⟨rfl, h.2⟩
  have q5 : (k == 5) = false := by simp [h5]
  have HF : Hid (fstV k = ⟨k, 0, ⟨#[]⟩⟩) := (by show _ = _; unfold fstV; rw [if_neg h2, if_neg h3, if_neg h5])
  clear h2 h3 h5
  go_wp2
  have h := HE.out w0 0 HX.out HB.out
  exact bodyPost_ret (v := .agg #[.int .i64 k, .int .i64 (0), .string ⟨#[]⟩]) (results_cell_row Tryd.results33 _ _ W.heap.size 23 #[.int .i64 k, .int .i64 (0), .string ⟨#[]⟩] (0, 0) _ rfl h.1 Tryd.underlying23 rfl (by kernel_rfl)) rfl ⟨by rw [HF.out], h.2⟩
def ffS : ByteArray := ⟨(Lib.repeatL [255] 100).toArray⟩
/-- The last value of a kind. -/
def lstV (k : Int) : Vl := ⟨k, if k = 1 then 1 else if k = 2 then 2147483647 else if k = 3 ∨ k = 5 then 9223372036854775807 else 0, if k = 4 then ffS else ⟨#[]⟩⟩
set_option maxRecDepth 100000 in
set_option maxHeartbeats 1600000 in
theorem lastOf_any (k : Int) (W : World) : Calls Tryd.prog 35 #[.int .i64 k] W fun e w' => e = .returned (.agg #[.int .i64 (lstV k).k, .int .i64 (lstV k).n, .string (lstV k).s]) ∧ Below W.heap.size W w' := by
  obtain ⟨w0, HW0, HX, HY, HB⟩ := two_boxes W #[.int .i64 0, .int .i64 0, .string ⟨#[]⟩] #[.int .i64 k, .int .i64 0, .string ⟨#[]⟩] 23 23
  obtain ⟨x0, x1, x2⟩ := row_three HX.out
  obtain ⟨x3, x4, x5⟩ := row_threeF HX.out
  obtain ⟨y0, y1, y2⟩ := row_three HY.out
  obtain ⟨y3, y4, y5⟩ := row_threeF HY.out
  go_enter Tryd.func35, Tryd.ntmps35
  go_upto_region 2 with fail
  rw [HW0.out]
  have HE : Hid (∀ (X : World) (n : Int), X.heap[W.heap.size]? = some (.cells #[.int .i64 0, .int .i64 0, .string ⟨#[]⟩] 23 (0, 0)) → Below W.heap.size W X → (set3 X W.heap.size (.int .i64 k) (.int .i64 n) (.string ⟨#[]⟩)).heap[W.heap.size]? = some (.cells #[.int .i64 k, .int .i64 n, .string ⟨#[]⟩] 23 (0, 0)) ∧ Below W.heap.size W (set3 X W.heap.size (.int .i64 k) (.int .i64 n) (.string ⟨#[]⟩))) := fun X n h1 h2 => ⟨set3_row h1 _ _ _, set3_below h2 (Nat.le_refl _) _ _ _⟩
  rcases Decidable.em (k = 1) with h1 | h1
  · subst h1
    go_wp2
    have h := HE.out (w0.setCell ⟨W.heap.size + 1, 1, none⟩ (.int .i64 (1))) (1) (blk_other HX.out (by omega) _) (HB.out.setCell (by simp) _)
    exact bodyPost_ret (v := .agg #[.int .i64 1, .int .i64 (1), .string ⟨#[]⟩]) (results_cell_row Tryd.results35 _ _ W.heap.size 23 #[.int .i64 1, .int .i64 (1), .string ⟨#[]⟩] (0, 0) _ rfl h.1 Tryd.underlying23 rfl (by kernel_rfl)) rfl ⟨rfl, h.2⟩
  have q1 : (k == 1) = false := by simp [h1]
  rcases Decidable.em (k = 2) with h2 | h2
  · subst h2
    go_wp2
    have h := HE.out (w0.setCell ⟨W.heap.size + 1, 1, none⟩ (.int .i64 (2147483647))) (2147483647) (blk_other HX.out (by omega) _) (HB.out.setCell (by simp) _)
    exact bodyPost_ret (v := .agg #[.int .i64 2, .int .i64 (2147483647), .string ⟨#[]⟩]) (results_cell_row Tryd.results35 _ _ W.heap.size 23 #[.int .i64 2, .int .i64 (2147483647), .string ⟨#[]⟩] (0, 0) _ rfl h.1 Tryd.underlying23 rfl (by kernel_rfl)) rfl ⟨rfl, h.2⟩
  have q2 : (k == 2) = false := by simp [h2]
  rcases Decidable.em (k = 3) with h3 | h3
  · subst h3
    go_wp2
    have h := HE.out (w0.setCell ⟨W.heap.size + 1, 1, none⟩ (.int .i64 (9223372036854775807))) (9223372036854775807) (blk_other HX.out (by omega) _) (HB.out.setCell (by simp) _)
    exact bodyPost_ret (v := .agg #[.int .i64 3, .int .i64 (9223372036854775807), .string ⟨#[]⟩]) (results_cell_row Tryd.results35 _ _ W.heap.size 23 #[.int .i64 3, .int .i64 (9223372036854775807), .string ⟨#[]⟩] (0, 0) _ rfl h.1 Tryd.underlying23 rfl (by kernel_rfl)) rfl ⟨rfl, h.2⟩
  have q3 : (k == 3) = false := by simp [h3]
  rcases Decidable.em (k = 5) with h5 | h5
  · subst h5
    go_wp2
    have h := HE.out (w0.setCell ⟨W.heap.size + 1, 1, none⟩ (.int .i64 (9223372036854775807))) (9223372036854775807) (blk_other HX.out (by omega) _) (HB.out.setCell (by simp) _)
    exact bodyPost_ret (v := .agg #[.int .i64 5, .int .i64 (9223372036854775807), .string ⟨#[]⟩]) (results_cell_row Tryd.results35 _ _ W.heap.size 23 #[.int .i64 5, .int .i64 (9223372036854775807), .string ⟨#[]⟩] (0, 0) _ rfl h.1 Tryd.underlying23 rfl (by kernel_rfl)) rfl ⟨rfl, h.2⟩
  have q5 : (k == 5) = false := by simp [h5]
  rcases Decidable.em (k = 4) with h4 | h4
  · subst h4
    go_wp2_with fail
    refine (Tryd.strings_Repeat ⟨#[255]⟩ 100 w0 (by omega) (by decide)).mono ?_
    rintro e w1 ⟨rfl, hb1⟩
    clear x0 x1 x2 x3 x4 x5 y0 y1 y2 y3 y4 y5
    have HX1 : Hid _ := blk_keep hb1 HX.out
    have HY1 : Hid _ := blk_keep hb1 HY.out
    have HB1 : Hid (Below W.heap.size W w1) := HB.out.trans (hb1.mono HB.out.size)
    obtain ⟨x0, x1, x2⟩ := row_three HX1.out
    obtain ⟨x3, x4, x5⟩ := row_threeF HX1.out
    obtain ⟨y0, y1, y2⟩ := row_three HY1.out
    obtain ⟨y3, y4, y5⟩ := row_threeF HY1.out
    go_wp2
    have h1 : (w1.setCell ⟨W.heap.size + 1, 2, none⟩ (.string ffS)).heap[W.heap.size]? = _ := blk_other HX1.out (by omega) _
    exact bodyPost_ret (v := .agg #[.int .i64 4, .int .i64 0, .string ffS]) (results_cell_row Tryd.results35 _ _ W.heap.size 23 #[.int .i64 4, .int .i64 0, .string ffS] (0, 0) _ rfl (set3_row h1 _ _ _) Tryd.underlying23 rfl (by kernel_rfl)) rfl ⟨rfl, set3_below (HB1.out.setCell (by simp) _) (Nat.le_refl _) _ _ _⟩
  have q4 : (k == 4) = false := by simp [h4]
  have HF : Hid (lstV k = ⟨k, 0, ⟨#[]⟩⟩) := (by show _ = _; unfold lstV; rw [if_neg h1, if_neg h2, if_neg (by omega), if_neg h4])
  clear h1 h2 h3 h5 h4
  go_wp2
  have h := HE.out w0 0 HX.out HB.out
  exact bodyPost_ret (v := .agg #[.int .i64 k, .int .i64 (0), .string ⟨#[]⟩]) (results_cell_row Tryd.results35 _ _ W.heap.size 23 #[.int .i64 k, .int .i64 (0), .string ⟨#[]⟩] (0, 0) _ rfl h.1 Tryd.underlying23 rfl (by kernel_rfl)) rfl ⟨by rw [HF.out], h.2⟩
end Go.Proofs.YthlnjnoeaicjjaaDoor
