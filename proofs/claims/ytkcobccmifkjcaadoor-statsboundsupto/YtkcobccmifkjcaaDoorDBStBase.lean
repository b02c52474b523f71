/-
  What is known of values, as nine cells; boxes of it.
  (stats.Stats).around and kind, walked.
  stats.firstOf, lastOf, shortFrom, leastFrom, greatestTo, walked.
  stats.Of, walked.
  stats.Merge, walked.
-/
import Derived.Test.YtkcobccmifkjcaaDoorDBColS
import Derived.Test.YtkcobccmifkjcaaDoorDBLess
import Derived.Test.YtkcobccmifkjcaaDoorShelf
import Derived.BigQuiet
namespace Go.Proofs.YtkcobccmifkjcaaDoor
open Go.RowKit
def Vl.val (v : Vl) : Value := .agg #[.int .i64 v.k, .int .i64 v.n, .string v.s]
def Vl.zero : Vl := ⟨0, 0, ⟨#[]⟩⟩
/-- What is known of values. -/
structure St where
  e : Int
  u : Int
  h : Bool
  mn : Vl
  mx : Vl
def St.cs (s : St) : Array Value := #[.int .i64 s.e, .int .i64 s.u, .bool s.h, .int .i64 s.mn.k, .int .i64 s.mn.n, .string s.mn.s, .int .i64 s.mx.k, .int .i64 s.mx.n, .string s.mx.s]
def St.val (s : St) : Value := .agg s.cs
def St.zero : St := ⟨0, 0, false, Vl.zero, Vl.zero⟩
def Vl.Low (v : Vl) : Prop := -9223372036854775808 ≤ v.n
def St.Low (s : St) : Prop := s.mn.Low ∧ s.mx.Low
def lss (a b : Vl) : Bool := vless a.k a.n a.s b.k b.n b.s
/-- around, as a function. -/
def St.around (s : St) (l g : Vl) : St := ⟨s.e, s.u, true, if !s.h || lss l s.mn then l else s.mn, if !s.h || lss s.mx g then g else s.mx⟩
theorem row_nine {w : World} {g t : Nat} {x0 x1 x2 x3 x4 x5 x6 x7 x8 : Value} (h : w.heap[g]? = some (.cells #[x0, x1, x2, x3, x4, x5, x6, x7, x8] t (0, 0))) :
    (w.cell? ⟨g, 0, none⟩ = some x0 ∧ w.cell? ⟨g, 1, none⟩ = some x1 ∧ w.cell? ⟨g, 2, none⟩ = some x2 ∧ w.cell? ⟨g, 3, none⟩ = some x3 ∧ w.cell? ⟨g, 4, none⟩ = some x4 ∧ w.cell? ⟨g, 5, none⟩ = some x5 ∧ w.cell? ⟨g, 6, none⟩ = some x6 ∧ w.cell? ⟨g, 7, none⟩ = some x7 ∧ w.cell? ⟨g, 8, none⟩ = some x8) ∧
    w.frozen? ⟨g, 0, none⟩ = false ∧ w.frozen? ⟨g, 1, none⟩ = false ∧ w.frozen? ⟨g, 2, none⟩ = false ∧ w.frozen? ⟨g, 3, none⟩ = false ∧ w.frozen? ⟨g, 4, none⟩ = false ∧ w.frozen? ⟨g, 5, none⟩ = false ∧ w.frozen? ⟨g, 6, none⟩ = false ∧ w.frozen? ⟨g, 7, none⟩ = false ∧ w.frozen? ⟨g, 8, none⟩ = false := by
  refine ⟨⟨?_, ?_, ?_, ?_, ?_, ?_, ?_, ?_, ?_⟩, ?_, ?_, ?_, ?_, ?_, ?_, ?_, ?_, ?_⟩ <;> first | simp [World.frozen?, h] | simp [World.cell?, h]
theorem st_row {w : World} {g : Nat} {s : St} {t : Nat} (h : w.heap[g]? = some (.cells s.cs t (0, 0))) :
    (w.cell? ⟨g, 0, none⟩ = some (.int .i64 s.e) ∧ w.cell? ⟨g, 1, none⟩ = some (.int .i64 s.u) ∧ w.cell? ⟨g, 2, none⟩ = some (.bool s.h) ∧ w.cell? ⟨g, 3, none⟩ = some (.int .i64 s.mn.k) ∧ w.cell? ⟨g, 4, none⟩ = some (.int .i64 s.mn.n) ∧ w.cell? ⟨g, 5, none⟩ = some (.string s.mn.s) ∧ w.cell? ⟨g, 6, none⟩ = some (.int .i64 s.mx.k) ∧ w.cell? ⟨g, 7, none⟩ = some (.int .i64 s.mx.n) ∧ w.cell? ⟨g, 8, none⟩ = some (.string s.mx.s)) ∧
    w.frozen? ⟨g, 0, none⟩ = false ∧ w.frozen? ⟨g, 1, none⟩ = false ∧ w.frozen? ⟨g, 2, none⟩ = false ∧ w.frozen? ⟨g, 3, none⟩ = false ∧ w.frozen? ⟨g, 4, none⟩ = false ∧ w.frozen? ⟨g, 5, none⟩ = false ∧ w.frozen? ⟨g, 6, none⟩ = false ∧ w.frozen? ⟨g, 7, none⟩ = false ∧ w.frozen? ⟨g, 8, none⟩ = false := row_nine h
/-- Nine cells of a box are written. -/
def set9 (w : World) (g : Nat) (y0 y1 y2 y3 y4 y5 y6 y7 y8 : Value) : World := ((((((((w.setCell ⟨g, 0, none⟩ y0).setCell ⟨g, 1, none⟩ y1).setCell ⟨g, 2, none⟩ y2).setCell ⟨g, 3, none⟩ y3).setCell ⟨g, 4, none⟩ y4).setCell ⟨g, 5, none⟩ y5).setCell ⟨g, 6, none⟩ y6).setCell ⟨g, 7, none⟩ y7).setCell ⟨g, 8, none⟩ y8
theorem set9_row {w : World} {g t : Nat} {x0 x1 x2 x3 x4 x5 x6 x7 x8 : Value} (h : w.heap[g]? = some (.cells #[x0, x1, x2, x3, x4, x5, x6, x7, x8] t (0, 0))) (y0 y1 y2 y3 y4 y5 y6 y7 y8 : Value) :
    (set9 w g y0 y1 y2 y3 y4 y5 y6 y7 y8).heap[g]? = some (.cells #[y0, y1, y2, y3, y4, y5, y6, y7, y8] t (0, 0)) := by
  have h0 : (w.setCell ⟨g, 0, none⟩ y0).heap[g]? = some (.cells #[y0, x1, x2, x3, x4, x5, x6, x7, x8] t (0, 0)) := row_setCell h y0
  have h1 : ((w.setCell ⟨g, 0, none⟩ y0).setCell ⟨g, 1, none⟩ y1).heap[g]? = some (.cells #[y0, y1, x2, x3, x4, x5, x6, x7, x8] t (0, 0)) := row_setCell h0 y1
  have h2 : (((w.setCell ⟨g, 0, none⟩ y0).setCell ⟨g, 1, none⟩ y1).setCell ⟨g, 2, none⟩ y2).heap[g]? = some (.cells #[y0, y1, y2, x3, x4, x5, x6, x7, x8] t (0, 0)) := row_setCell h1 y2
  have h3 : ((((w.setCell ⟨g, 0, none⟩ y0).setCell ⟨g, 1, none⟩ y1).setCell ⟨g, 2, none⟩ y2).setCell ⟨g, 3, none⟩ y3).heap[g]? = some (.cells #[y0, y1, y2, y3, x4, x5, x6, x7, x8] t (0, 0)) := row_setCell h2 y3
  have h4 : (((((w.setCell ⟨g, 0, none⟩ y0).setCell ⟨g, 1, none⟩ y1).setCell ⟨g, 2, none⟩ y2).setCell ⟨g, 3, none⟩ y3).setCell ⟨g, 4, none⟩ y4).heap[g]? = some (.cells #[y0, y1, y2, y3, y4, x5, x6, x7, x8] t (0, 0)) := row_setCell h3 y4
  have h5 : ((((((w.setCell ⟨g, 0, none⟩ y0).setCell ⟨g, 1, none⟩ y1).setCell ⟨g, 2, none⟩ y2).setCell ⟨g, 3, none⟩ y3).setCell ⟨g, 4, none⟩ y4).setCell ⟨g, 5, none⟩ y5).heap[g]? = some (.cells #[y0, y1, y2, y3, y4, y5, x6, x7, x8] t (0, 0)) := row_setCell h4 y5
  have h6 : (((((((w.setCell ⟨g, 0, none⟩ y0).setCell ⟨g, 1, none⟩ y1).setCell ⟨g, 2, none⟩ y2).setCell ⟨g, 3, none⟩ y3).setCell ⟨g, 4, none⟩ y4).setCell ⟨g, 5, none⟩ y5).setCell ⟨g, 6, none⟩ y6).heap[g]? = some (.cells #[y0, y1, y2, y3, y4, y5, y6, x7, x8] t (0, 0)) := row_setCell h5 y6
  have h7 : ((((((((w.setCell ⟨g, 0, none⟩ y0).setCell ⟨g, 1, none⟩ y1).setCell ⟨g, 2, none⟩ y2).setCell ⟨g, 3, none⟩ y3).setCell ⟨g, 4, none⟩ y4).setCell ⟨g, 5, none⟩ y5).setCell ⟨g, 6, none⟩ y6).setCell ⟨g, 7, none⟩ y7).heap[g]? = some (.cells #[y0, y1, y2, y3, y4, y5, y6, y7, x8] t (0, 0)) := row_setCell h6 y7
  have h8 : (((((((((w.setCell ⟨g, 0, none⟩ y0).setCell ⟨g, 1, none⟩ y1).setCell ⟨g, 2, none⟩ y2).setCell ⟨g, 3, none⟩ y3).setCell ⟨g, 4, none⟩ y4).setCell ⟨g, 5, none⟩ y5).setCell ⟨g, 6, none⟩ y6).setCell ⟨g, 7, none⟩ y7).setCell ⟨g, 8, none⟩ y8).heap[g]? = some (.cells #[y0, y1, y2, y3, y4, y5, y6, y7, y8] t (0, 0)) := row_setCell h7 y8
  exact h8
theorem set9_other {w : World} {g b : Nat} {o : Obj} (h : w.heap[b]? = some o) (hn : b ≠ g) (y0 y1 y2 y3 y4 y5 y6 y7 y8 : Value) : (set9 w g y0 y1 y2 y3 y4 y5 y6 y7 y8).heap[b]? = some o :=
  blk_other (blk_other (blk_other (blk_other (blk_other (blk_other (blk_other (blk_other (blk_other h hn y0) hn y1) hn y2) hn y3) hn y4) hn y5) hn y6) hn y7) hn y8
theorem set9_below {B g : Nat} {w X : World} (h : Below B w X) (hg : B ≤ g) (y0 y1 y2 y3 y4 y5 y6 y7 y8 : Value) : Below B w (set9 X g y0 y1 y2 y3 y4 y5 y6 y7 y8) :=
  ((((((((h.setCell hg _).setCell hg _).setCell hg _).setCell hg _).setCell hg _).setCell hg _).setCell hg _).setCell hg _).setCell hg _
theorem four_boxes (W : World) (c1 c2 c3 c4 : Array Value) (t1 t2 t3 t4 : TypeId) : ∃ w0, Hid ((((W.alloc (.cells c1 t1)).alloc (.cells c2 t2)).alloc (.cells c3 t3)).alloc (.cells c4 t4) = w0) ∧ Hid (w0.heap[W.heap.size]? = some (.cells c1 t1 (0, 0))) ∧ Hid (w0.heap[W.heap.size + 1]? = some (.cells c2 t2 (0, 0))) ∧ Hid (w0.heap[W.heap.size + 1 + 1]? = some (.cells c3 t3 (0, 0))) ∧ Hid (w0.heap[W.heap.size + 1 + 1 + 1]? = some (.cells c4 t4 (0, 0))) ∧ Hid (Below W.heap.size W w0) := by
  obtain ⟨w0, H, H1, H2, H3, HB⟩ := three_boxes W c1 c2 c3 t1 t2 t3
  have hs : w0.heap.size = W.heap.size + 1 + 1 + 1 := by rw [← H.out]; simp
  refine ⟨w0.alloc (.cells c4 t4), by show _ = _; rw [H.out], blk_alloc H1.out, blk_alloc H2.out, blk_alloc H3.out, ?_, HB.out.alloc HB.out.size _⟩
  have h := heap_alloc_new w0 (.cells c4 t4)
  rw [hs] at h
  exact h
end Go.Proofs.YtkcobccmifkjcaaDoor

namespace Go.Proofs.YtkcobccmifkjcaaDoor
open Go.RowKit
/-- What around's boxes hold. -/
structure ArI (W : World) (s : St) (l g : Vl) (X : World) : Prop where
  st : X.heap[W.heap.size]? = some (.cells s.cs 36 (0, 0))
  lo : X.heap[W.heap.size + 1]? = some (.cells #[.int .i64 l.k, .int .i64 l.n, .string l.s] 34 (0, 0))
  hi : X.heap[W.heap.size + 1 + 1]? = some (.cells #[.int .i64 g.k, .int .i64 g.n, .string g.s] 34 (0, 0))
  re : X.heap[W.heap.size + 1 + 1 + 1]? = some (.cells #[.int .i64 0, .int .i64 0, .bool false, .int .i64 0, .int .i64 0, .string ⟨#[]⟩, .int .i64 0, .int .i64 0, .string ⟨#[]⟩] 36 (0, 0))
  old : Below W.heap.size W X
theorem ArI.keep {W : World} {s : St} {l g : Vl} {X w' : World} (h : ArI W s l g X) (hb : Below X.heap.size X w') : ArI W s l g w' :=
  ⟨blk_keep hb h.st, blk_keep hb h.lo, blk_keep hb h.hi, blk_keep hb h.re, h.old.trans (hb.mono h.old.size)⟩
theorem ArI.put {W : World} {s s' : St} {l g : Vl} {X w' : World} (h : ArI W s l g X) (h0 : w'.heap[W.heap.size]? = some (.cells s'.cs 36 (0, 0))) (hr : ∀ b o, b ≠ W.heap.size → X.heap[b]? = some o → w'.heap[b]? = some o) (hb : Below W.heap.size X w') : ArI W s' l g w' :=
  ⟨h0, hr _ _ (by omega) h.lo, hr _ _ (by omega) h.hi, hr _ _ (by omega) h.re, h.old.trans hb⟩
theorem ArI.setMn {W : World} {s : St} {l g : Vl} {X : World} (h : ArI W s l g X) : ArI W { s with mn := l } l g (((X.setCell ⟨W.heap.size, 3, none⟩ (.int .i64 l.k)).setCell ⟨W.heap.size, 4, none⟩ (.int .i64 l.n)).setCell ⟨W.heap.size, 5, none⟩ (.string l.s)) :=
  h.put (row_setCell (row_setCell (row_setCell h.st _) _) _) (fun b o hn hx => blk_other (blk_other (blk_other hx hn _) hn _) hn _) ((((Below.refl _ _).setCell (by simp) _).setCell (by simp) _).setCell (by simp) _)
theorem ArI.setMx {W : World} {s : St} {l g : Vl} {X : World} (h : ArI W s l g X) : ArI W { s with mx := g } l g (((X.setCell ⟨W.heap.size, 6, none⟩ (.int .i64 g.k)).setCell ⟨W.heap.size, 7, none⟩ (.int .i64 g.n)).setCell ⟨W.heap.size, 8, none⟩ (.string g.s)) :=
  h.put (row_setCell (row_setCell (row_setCell h.st _) _) _) (fun b o hn hx => blk_other (blk_other (blk_other hx hn _) hn _) hn _) ((((Below.refl _ _).setCell (by simp) _).setCell (by simp) _).setCell (by simp) _)
theorem ArI.setH {W : World} {s : St} {l g : Vl} {X : World} (h : ArI W s l g X) : ArI W { s with h := true } l g (X.setCell ⟨W.heap.size, 2, none⟩ (.bool true)) :=
  h.put (row_setCell h.st _) (fun b o hn hx => blk_other hx hn _) ((Below.refl _ _).setCell (by simp) _)
set_option maxRecDepth 100000 in
set_option maxHeartbeats 1600000 in
/-- From behind the two tests on: Has is set, and all is handed out. -/
theorem around_any (s : St) (l g : Vl) (W : World) (hs : s.Low) (hl : l.Low) (hg : g.Low) :
    Calls Tryd.prog 30 #[s.val, l.val, g.val] W fun e w' => e = .returned (s.around l g).val ∧ Below W.heap.size W w' := by
  obtain ⟨w0, HW0, H1, H2, H3, H4, HB⟩ := four_boxes W s.cs #[.int .i64 l.k, .int .i64 l.n, .string l.s] #[.int .i64 g.k, .int .i64 g.n, .string g.s] #[.int .i64 0, .int .i64 0, .bool false, .int .i64 0, .int .i64 0, .string ⟨#[]⟩, .int .i64 0, .int .i64 0, .string ⟨#[]⟩] 36 34 34 36
  have HI : Hid (ArI W s l g w0) := ⟨H1.out, H2.out, H3.out, H4.out, HB.out⟩
  clear H1 H2 H3 H4 HB
  obtain ⟨h1, h2⟩ := hs
  unfold Vl.Low at h1 h2 hl hg
  have HE : Hid (∀ (t : St) (X : World), ArI W t l g X → (set9 X (W.heap.size + 1 + 1 + 1) (.int .i64 t.e) (.int .i64 t.u) (.bool t.h) (.int .i64 t.mn.k) (.int .i64 t.mn.n) (.string t.mn.s) (.int .i64 t.mx.k) (.int .i64 t.mx.n) (.string t.mx.s)).heap[W.heap.size + 1 + 1 + 1]? = some (.cells t.cs 36 (0, 0)) ∧ Below W.heap.size W (set9 X (W.heap.size + 1 + 1 + 1) (.int .i64 t.e) (.int .i64 t.u) (.bool t.h) (.int .i64 t.mn.k) (.int .i64 t.mn.n) (.string t.mn.s) (.int .i64 t.mx.k) (.int .i64 t.mx.n) (.string t.mx.s))) := fun t X hX =>
    ⟨set9_row hX.re _ _ _ _ _ _ _ _ _, set9_below hX.old (by omega) _ _ _ _ _ _ _ _ _⟩
  unfold St.cs at HW0
  obtain ⟨se, su, sh, sm, sx⟩ := s
  show Calls Tryd.prog 30 #[.agg #[.int .i64 se, .int .i64 su, .bool sh, .int .i64 sm.k, .int .i64 sm.n, .string sm.s, .int .i64 sx.k, .int .i64 sx.n, .string sx.s], .agg #[.int .i64 l.k, .int .i64 l.n, .string l.s], .agg #[.int .i64 g.k, .int .i64 g.n, .string g.s]] W fun e w' => e = .returned (St.around ⟨se, su, sh, sm, sx⟩ l g).val ∧ Below W.heap.size W w'
  go_enter Tryd.func30, Tryd.ntmps30
  obtain ⟨z1, z2⟩ := row_nine HI.out.re
  cases sh
  · obtain ⟨p1, p2⟩ := st_row HI.out.st
    obtain ⟨a0, a1, a2⟩ := row_three HI.out.lo
    obtain ⟨b0, b1, b2⟩ := row_three HI.out.hi
    go_upto_region 1 with fail
    rw [HW0.out]
    go_wp2
    have ht : (⟨se, su, true, l, g⟩ : St) = St.around ⟨se, su, false, sm, sx⟩ l g := rfl
    rw [← ht]
    have h := HE.out _ _ (ArI.setH (ArI.setMx (ArI.setMn HI.out)))
    exact bodyPost_ret (v := .agg (St.cs ⟨se, su, true, l, g⟩)) (results_cell_row Tryd.results30 _ _ (W.heap.size + 1 + 1 + 1) 36 (St.cs ⟨se, su, true, l, g⟩) (0, 0) _ rfl h.1 Tryd.underlying36 rfl (by kernel_rfl)) rfl ⟨rfl, h.2⟩
  · go_wp2_with fail
    rw [HW0.out]
    refine (less_any l.k l.n l.s sm.k sm.n sm.s w0 hl h1).mono ?_
    obtain ⟨b1, HB1⟩ : ∃ b, Hid (vless l.k l.n l.s sm.k sm.n sm.s = b) := ⟨_, rfl⟩
    obtain ⟨b2, HB2⟩ : ∃ b, Hid (vless sx.k sx.n sx.s g.k g.n g.s = b) := ⟨_, rfl⟩
    rw [HB1.out]
    rintro e w1 ⟨rfl, hb1⟩
    have HI1 : Hid _ := HI.out.keep hb1
    clear HI HW0 z1 z2 hb1
    obtain ⟨p1, p2⟩ := st_row HI1.out.st
    obtain ⟨a0, a1, a2⟩ := row_three HI1.out.lo
    obtain ⟨d0, d1, d2⟩ := row_three HI1.out.hi
    obtain ⟨z1, z2⟩ := row_nine HI1.out.re
    have HT : Hid (∀ m x, (if b1 = true then l else sm) = m → (if b2 = true then g else sx) = x → (⟨se, su, true, m, x⟩ : St) = St.around ⟨se, su, true, sm, sx⟩ l g) := fun m x hm hx => by
      subst hm hx
      simp [St.around, lss, HB1.out, HB2.out]
    clear HB1
    cases b1
    all_goals
      go_wp2_with fail
      refine (less_any sx.k sx.n sx.s g.k g.n g.s _ h2 hg).mono ?_
      rw [HB2.out]
      rintro e w2 ⟨rfl, hb2⟩
    · have HI2 : Hid _ := HI1.out.keep hb2
      clear HI1 p1 p2 a0 a1 a2 d0 d1 d2 z1 z2 hb2 HB2
      obtain ⟨p1, p2⟩ := st_row HI2.out.st
      obtain ⟨a0, a1, a2⟩ := row_three HI2.out.lo
      obtain ⟨d0, d1, d2⟩ := row_three HI2.out.hi
      obtain ⟨z1, z2⟩ := row_nine HI2.out.re
      cases b2
      · go_wp2
        rw [← HT.out _ _ rfl rfl]
        have h := HE.out _ _ (ArI.setH HI2.out)
        exact bodyPost_ret (v := .agg (St.cs ⟨se, su, true, sm, sx⟩)) (results_cell_row Tryd.results30 _ _ (W.heap.size + 1 + 1 + 1) 36 (St.cs ⟨se, su, true, sm, sx⟩) (0, 0) _ rfl h.1 Tryd.underlying36 rfl (by kernel_rfl)) rfl ⟨rfl, h.2⟩
      · go_wp2
        rw [← HT.out _ _ rfl rfl]
        have h := HE.out _ _ (ArI.setH (ArI.setMx HI2.out))
        exact bodyPost_ret (v := .agg (St.cs ⟨se, su, true, sm, g⟩)) (results_cell_row Tryd.results30 _ _ (W.heap.size + 1 + 1 + 1) 36 (St.cs ⟨se, su, true, sm, g⟩) (0, 0) _ rfl h.1 Tryd.underlying36 rfl (by kernel_rfl)) rfl ⟨rfl, h.2⟩
    · have HI2 : Hid _ := (ArI.setMn HI1.out).keep hb2
      clear HI1 p1 p2 a0 a1 a2 d0 d1 d2 z1 z2 hb2 HB2
      obtain ⟨p1, p2⟩ := st_row HI2.out.st
      obtain ⟨a0, a1, a2⟩ := row_three HI2.out.lo
      obtain ⟨d0, d1, d2⟩ := row_three HI2.out.hi
      obtain ⟨z1, z2⟩ := row_nine HI2.out.re
      cases b2
      · go_wp2
        rw [← HT.out _ _ rfl rfl]
        have h := HE.out _ _ (ArI.setH HI2.out)
        exact bodyPost_ret (v := .agg (St.cs ⟨se, su, true, l, sx⟩)) (results_cell_row Tryd.results30 _ _ (W.heap.size + 1 + 1 + 1) 36 (St.cs ⟨se, su, true, l, sx⟩) (0, 0) _ rfl h.1 Tryd.underlying36 rfl (by kernel_rfl)) rfl ⟨rfl, h.2⟩
      · go_wp2
        rw [← HT.out _ _ rfl rfl]
        have h := HE.out _ _ (ArI.setH (ArI.setMx HI2.out))
        exact bodyPost_ret (v := .agg (St.cs ⟨se, su, true, l, g⟩)) (results_cell_row Tryd.results30 _ _ (W.heap.size + 1 + 1 + 1) 36 (St.cs ⟨se, su, true, l, g⟩) (0, 0) _ rfl h.1 Tryd.underlying36 rfl (by kernel_rfl)) rfl ⟨rfl, h.2⟩
theorem around_x (s : St) (l g : Vl) (W : World) (hs : s.Low) (hl : l.Low) (hg : g.Low) :
    Calls Tryd.prog 30 #[.agg #[.int .i64 s.e, .int .i64 s.u, .bool s.h, .int .i64 s.mn.k, .int .i64 s.mn.n, .string s.mn.s, .int .i64 s.mx.k, .int .i64 s.mx.n, .string s.mx.s], .agg #[.int .i64 l.k, .int .i64 l.n, .string l.s], .agg #[.int .i64 g.k, .int .i64 g.n, .string g.s]] W fun e w' => (∃ t : St, Hid (t = s.around l g) ∧ e = .returned (.agg #[.int .i64 t.e, .int .i64 t.u, .bool t.h, .int .i64 t.mn.k, .int .i64 t.mn.n, .string t.mn.s, .int .i64 t.mx.k, .int .i64 t.mx.n, .string t.mx.s])) ∧ Below W.heap.size W w' :=
  (around_any s l g W hs hl hg).mono fun _ _ h => ⟨⟨s.around l g, rfl, h.1⟩, h.2⟩
set_option maxRecDepth 100000 in
theorem kindS_any (s : St) (W : World) : Calls Tryd.prog 33 #[s.val] W fun e w' => e = .returned (.int .i64 s.mn.k) ∧ Below W.heap.size W w' := by
  unfold St.val St.cs
  go_enter Tryd.func33, Tryd.ntmps33
  go_wp2
  go_ret
  exact ⟨rfl, (Below.refl _ _).alloc (Nat.le_refl _) _⟩
end Go.Proofs.YtkcobccmifkjcaaDoor

namespace Go.Proofs.YtkcobccmifkjcaaDoor
open Go.RowKit
/-- Three cells of a box are written. -/
abbrev set3 (w : World) (g : Nat) (y0 y1 y2 : Value) : World := ((w.setCell ⟨g, 0, none⟩ y0).setCell ⟨g, 1, none⟩ y1).setCell ⟨g, 2, none⟩ y2
theorem set3_row {w : World} {g t : Nat} {x0 x1 x2 : Value} (h : w.heap[g]? = some (.cells #[x0, x1, x2] t (0, 0))) (y0 y1 y2 : Value) : (set3 w g y0 y1 y2).heap[g]? = some (.cells #[y0, y1, y2] t (0, 0)) := by
  have h0 : (w.setCell ⟨g, 0, none⟩ y0).heap[g]? = some (.cells #[y0, x1, x2] t (0, 0)) := row_setCell h y0
  have h1 : ((w.setCell ⟨g, 0, none⟩ y0).setCell ⟨g, 1, none⟩ y1).heap[g]? = some (.cells #[y0, y1, x2] t (0, 0)) := row_setCell h0 y1
  exact row_setCell h1 y2
theorem set3_below {B g : Nat} {w X : World} (h : Below B w X) (hg : B ≤ g) (y0 y1 y2 : Value) : Below B w (set3 X g y0 y1 y2) := ((h.setCell hg _).setCell hg _).setCell hg _
theorem set3_other {w : World} {g b : Nat} {o : Obj} (h : w.heap[b]? = some o) (hn : b ≠ g) (y0 y1 y2 : Value) : (set3 w g y0 y1 y2).heap[b]? = some o := blk_other (blk_other (blk_other h hn y0) hn y1) hn y2
theorem row_threeF {w : World} {g e : Nat} {x y z : Value} (h : w.heap[g]? = some (.cells #[x, y, z] e (0, 0))) : w.frozen? ⟨g, 0, none⟩ = false ∧ w.frozen? ⟨g, 1, none⟩ = false ∧ w.frozen? ⟨g, 2, none⟩ = false := by
  refine ⟨?_, ?_, ?_⟩ <;> simp [World.frozen?, h]
/-- The first value of a kind. -/
def fstV (k : Int) : Vl := ⟨k, if k = 2 then -2147483648 else if k = 3 then -9223372036854775808 else if k = 5 then -1 else 0, ⟨#[]⟩⟩
set_option maxRecDepth 100000 in
set_option maxHeartbeats 1600000 in
theorem firstOf_any (k : Int) (W : World) : Calls Tryd.prog 52 #[.int .i64 k] W fun e w' => e = .returned (.agg #[.int .i64 (fstV k).k, .int .i64 (fstV k).n, .string (fstV k).s]) ∧ Below W.heap.size W w' := by
  obtain ⟨w0, HW0, HX, HY, HB⟩ := two_boxes W #[.int .i64 0, .int .i64 0, .string ⟨#[]⟩] #[.int .i64 k, .int .i64 0, .string ⟨#[]⟩] 34 34
  obtain ⟨x0, x1, x2⟩ := row_three HX.out
  obtain ⟨x3, x4, x5⟩ := row_threeF HX.out
  obtain ⟨y0, y1, y2⟩ := row_three HY.out
  obtain ⟨y3, y4, y5⟩ := row_threeF HY.out
  go_enter Tryd.func52, Tryd.ntmps52
  go_upto_region 2 with fail
  rw [HW0.out]
  have HE : Hid (∀ (X : World) (n : Int), X.heap[W.heap.size]? = some (.cells #[.int .i64 0, .int .i64 0, .string ⟨#[]⟩] 34 (0, 0)) → Below W.heap.size W X → (set3 X W.heap.size (.int .i64 k) (.int .i64 n) (.string ⟨#[]⟩)).heap[W.heap.size]? = some (.cells #[.int .i64 k, .int .i64 n, .string ⟨#[]⟩] 34 (0, 0)) ∧ Below W.heap.size W (set3 X W.heap.size (.int .i64 k) (.int .i64 n) (.string ⟨#[]⟩))) := fun X n h1 h2 => ⟨set3_row h1 _ _ _, set3_below h2 (Nat.le_refl _) _ _ _⟩
  rcases Decidable.em (k = 2) with h2 | h2
  · subst h2
    go_wp2
    have h := HE.out (w0.setCell ⟨W.heap.size + 1, 1, none⟩ (.int .i64 (-2147483648))) (-2147483648) (blk_other HX.out (by omega) _) (HB.out.setCell (by simp) _)
    exact bodyPost_ret (v := .agg #[.int .i64 2, .int .i64 (-2147483648), .string ⟨#[]⟩]) (results_cell_row Tryd.results52 _ _ W.heap.size 34 #[.int .i64 2, .int .i64 (-2147483648), .string ⟨#[]⟩] (0, 0) _ rfl h.1 Tryd.underlying34 rfl (by kernel_rfl)) rfl ⟨rfl, h.2⟩
  have q2 : (k == 2) = false := by simp [h2]
  rcases Decidable.em (k = 3) with h3 | h3
  · subst h3
    go_wp2
    have h := HE.out (w0.setCell ⟨W.heap.size + 1, 1, none⟩ (.int .i64 (-9223372036854775808))) (-9223372036854775808) (blk_other HX.out (by omega) _) (HB.out.setCell (by simp) _)
    exact bodyPost_ret (v := .agg #[.int .i64 3, .int .i64 (-9223372036854775808), .string ⟨#[]⟩]) (results_cell_row Tryd.results52 _ _ W.heap.size 34 #[.int .i64 3, .int .i64 (-9223372036854775808), .string ⟨#[]⟩] (0, 0) _ rfl h.1 Tryd.underlying34 rfl (by kernel_rfl)) rfl ⟨rfl, h.2⟩
  have q3 : (k == 3) = false := by simp [h3]
  rcases Decidable.em (k = 5) with h5 | h5
  · subst h5
    go_wp2
    have h := HE.out (w0.setCell ⟨W.heap.size + 1, 1, none⟩ (.int .i64 (-1))) (-1) (blk_other HX.out (by omega) _) (HB.out.setCell (by simp) _)
    exact bodyPost_ret (v := .agg #[.int .i64 5, .int .i64 (-1), .string ⟨#[]⟩]) (results_cell_row Tryd.results52 _ _ W.heap.size 34 #[.int .i64 5, .int .i64 (-1), .string ⟨#[]⟩] (0, 0) _ rfl h.1 Tryd.underlying34 rfl (by kernel_rfl)) rfl ⟨rfl, h.2⟩
  have q5 : (k == 5) = false := by simp [h5]
  have HF : Hid (fstV k = ⟨k, 0, ⟨#[]⟩⟩) := (by show _ = _; unfold fstV; rw [if_neg h2, if_neg h3, if_neg h5])
  clear h2 h3 h5
  go_wp2
  have h := HE.out w0 0 HX.out HB.out
  exact bodyPost_ret (v := .agg #[.int .i64 k, .int .i64 (0), .string ⟨#[]⟩]) (results_cell_row Tryd.results52 _ _ W.heap.size 34 #[.int .i64 k, .int .i64 (0), .string ⟨#[]⟩] (0, 0) _ rfl h.1 Tryd.underlying34 rfl (by kernel_rfl)) rfl ⟨by rw [HF.out], h.2⟩
def ffS : ByteArray := ⟨(Lib.repeatL [255] 100).toArray⟩
/-- The last value of a kind. -/
def lstV (k : Int) : Vl := ⟨k, if k = 1 then 1 else if k = 2 then 2147483647 else if k = 3 ∨ k = 5 then 9223372036854775807 else 0, if k = 4 then ffS else ⟨#[]⟩⟩
set_option maxRecDepth 100000 in
set_option maxHeartbeats 1600000 in
theorem lastOf_any (k : Int) (W : World) : Calls Tryd.prog 54 #[.int .i64 k] W fun e w' => e = .returned (.agg #[.int .i64 (lstV k).k, .int .i64 (lstV k).n, .string (lstV k).s]) ∧ Below W.heap.size W w' := by
  obtain ⟨w0, HW0, HX, HY, HB⟩ := two_boxes W #[.int .i64 0, .int .i64 0, .string ⟨#[]⟩] #[.int .i64 k, .int .i64 0, .string ⟨#[]⟩] 34 34
  obtain ⟨x0, x1, x2⟩ := row_three HX.out
  obtain ⟨x3, x4, x5⟩ := row_threeF HX.out
  obtain ⟨y0, y1, y2⟩ := row_three HY.out
  obtain ⟨y3, y4, y5⟩ := row_threeF HY.out
  go_enter Tryd.func54, Tryd.ntmps54
  go_upto_region 2 with fail
  rw [HW0.out]
  have HE : Hid (∀ (X : World) (n : Int), X.heap[W.heap.size]? = some (.cells #[.int .i64 0, .int .i64 0, .string ⟨#[]⟩] 34 (0, 0)) → Below W.heap.size W X → (set3 X W.heap.size (.int .i64 k) (.int .i64 n) (.string ⟨#[]⟩)).heap[W.heap.size]? = some (.cells #[.int .i64 k, .int .i64 n, .string ⟨#[]⟩] 34 (0, 0)) ∧ Below W.heap.size W (set3 X W.heap.size (.int .i64 k) (.int .i64 n) (.string ⟨#[]⟩))) := fun X n h1 h2 => ⟨set3_row h1 _ _ _, set3_below h2 (Nat.le_refl _) _ _ _⟩
  rcases Decidable.em (k = 1) with h1 | h1
  · subst h1
    go_wp2
    have h := HE.out (w0.setCell ⟨W.heap.size + 1, 1, none⟩ (.int .i64 (1))) (1) (blk_other HX.out (by omega) _) (HB.out.setCell (by simp) _)
    exact bodyPost_ret (v := .agg #[.int .i64 1, .int .i64 (1), .string ⟨#[]⟩]) (results_cell_row Tryd.results54 _ _ W.heap.size 34 #[.int .i64 1, .int .i64 (1), .string ⟨#[]⟩] (0, 0) _ rfl h.1 Tryd.underlying34 rfl (by kernel_rfl)) rfl ⟨rfl, h.2⟩
  have q1 : (k == 1) = false := by simp [h1]
  rcases Decidable.em (k = 2) with h2 | h2
  · subst h2
    go_wp2
    have h := HE.out (w0.setCell ⟨W.heap.size + 1, 1, none⟩ (.int .i64 (2147483647))) (2147483647) (blk_other HX.out (by omega) _) (HB.out.setCell (by simp) _)
    exact bodyPost_ret (v := .agg #[.int .i64 2, .int .i64 (2147483647), .string ⟨#[]⟩]) (results_cell_row Tryd.results54 _ _ W.heap.size 34 #[.int .i64 2, .int .i64 (2147483647), .string ⟨#[]⟩] (0, 0) _ rfl h.1 Tryd.underlying34 rfl (by kernel_rfl)) rfl ⟨rfl, h.2⟩
  have q2 : (k == 2) = false := by simp [h2]
  rcases Decidable.em (k = 3) with h3 | h3
  · subst h3
    go_wp2
    have h := HE.out (w0.setCell ⟨W.heap.size + 1, 1, none⟩ (.int .i64 (9223372036854775807))) (9223372036854775807) (blk_other HX.out (by omega) _) (HB.out.setCell (by simp) _)
    exact bodyPost_ret (v := .agg #[.int .i64 3, .int .i64 (9223372036854775807), .string ⟨#[]⟩]) (results_cell_row Tryd.results54 _ _ W.heap.size 34 #[.int .i64 3, .int .i64 (9223372036854775807), .string ⟨#[]⟩] (0, 0) _ rfl h.1 Tryd.underlying34 rfl (by kernel_rfl)) rfl ⟨rfl, h.2⟩
  have q3 : (k == 3) = false := by simp [h3]
  rcases Decidable.em (k = 5) with h5 | h5
  · subst h5
    go_wp2
    have h := HE.out (w0.setCell ⟨W.heap.size + 1, 1, none⟩ (.int .i64 (9223372036854775807))) (9223372036854775807) (blk_other HX.out (by omega) _) (HB.out.setCell (by simp) _)
    exact bodyPost_ret (v := .agg #[.int .i64 5, .int .i64 (9223372036854775807), .string ⟨#[]⟩]) (results_cell_row Tryd.results54 _ _ W.heap.size 34 #[.int .i64 5, .int .i64 (9223372036854775807), .string ⟨#[]⟩] (0, 0) _ rfl h.1 Tryd.underlying34 rfl (by kernel_rfl)) rfl ⟨rfl, h.2⟩
  have q5 : (k == 5) = false := by simp [h5]
  rcases Decidable.em (k = 4) with h4 | h4
  · subst h4
    go_wp2_with fail
    refine (Tryd.strings_Repeat ⟨#[255]⟩ 100 w0 (by omega) (by decide)).mono ?_
    rintro e w1 ⟨rfl, hb1⟩
    clear x0 x1 x2 x3 x4 x5 y0 y1 y2 y3 y4 y5
    have HX1 : Hid _ := blk_keep hb1 HX.out
    have HY1 : Hid _ := blk_keep hb1 HY.out
    have HB1 : Hid (Below W.heap.size W w1) := HB.out.trans (hb1.mono HB.out.size)
    obtain ⟨x0, x1, x2⟩ := row_three HX1.out
    obtain ⟨x3, x4, x5⟩ := row_threeF HX1.out
    obtain ⟨y0, y1, y2⟩ := row_three HY1.out
    obtain ⟨y3, y4, y5⟩ := row_threeF HY1.out
    go_wp2
    have h1 : (w1.setCell ⟨W.heap.size + 1, 2, none⟩ (.string ffS)).heap[W.heap.size]? = _ := blk_other HX1.out (by omega) _
    exact bodyPost_ret (v := .agg #[.int .i64 4, .int .i64 0, .string ffS]) (results_cell_row Tryd.results54 _ _ W.heap.size 34 #[.int .i64 4, .int .i64 0, .string ffS] (0, 0) _ rfl (set3_row h1 _ _ _) Tryd.underlying34 rfl (by kernel_rfl)) rfl ⟨rfl, set3_below (HB1.out.setCell (by simp) _) (Nat.le_refl _) _ _ _⟩
  have q4 : (k == 4) = false := by simp [h4]
  have HF : Hid (lstV k = ⟨k, 0, ⟨#[]⟩⟩) := (by show _ = _; unfold lstV; rw [if_neg h1, if_neg h2, if_neg (by omega), if_neg h4])
  clear h1 h2 h3 h5 h4
  go_wp2
  have h := HE.out w0 0 HX.out HB.out
  exact bodyPost_ret (v := .agg #[.int .i64 k, .int .i64 (0), .string ⟨#[]⟩]) (results_cell_row Tryd.results54 _ _ W.heap.size 34 #[.int .i64 k, .int .i64 (0), .string ⟨#[]⟩] (0, 0) _ rfl h.1 Tryd.underlying34 rfl (by kernel_rfl)) rfl ⟨by rw [HF.out], h.2⟩
end Go.Proofs.YtkcobccmifkjcaaDoor

namespace Go.Proofs.YtkcobccmifkjcaaDoor
open Go.RowKit
def zCl : Cl := ⟨0, none, [], 0, none, [], 0, none, [], 0⟩
/-- What Part of all records answers. -/
def PaR (N : Nat) (lid kind mr md : Int) (c : Cl) (sv kv : Value) (k : Cl) (ev : Value) (w : World) : Prop :=
  ((isLfB kind mr md && fitB lid mr md c.id c.rs c.ds c.vs.length) = false ∧ k = zCl ∧ ev = sv) ∨
  ((isLfB kind mr md && fitB lid mr md c.id c.rs c.ds c.vs.length) = true ∧ (∃ p : Nat, ∃ hp : p < c.vs.length, badV kind c.vs[p] = true ∧ (∀ j (h : j < c.vs.length), j < p → badV kind c.vs[j] = false) ∧ ∃ q, N ≤ q ∧ k = zCl ∧ ev = .iface 87 (.pointer (some ⟨q, 0, none⟩)) ∧ w.cell? ⟨q, 0, none⟩ = some (.int .i64 p) ∧ w.cell? ⟨q, 1, none⟩ = some kv)) ∨
  (GoodC lid kind mr md c ∧ ev = .nilIface ∧ k.At w ∧ k.Fr N ∧ k.rs = c.rs ∧ k.ds = c.ds ∧ k.vs = c.vs)
theorem PaR.off {N : Nat} {lid kind mr md : Int} {c : Cl} {sv kv : Value} {k : Cl} {ev : Value} {w : World} (h : PaR N lid kind mr md c sv kv k ev w) {g j : Nat} {v : Value} (hg : g < N) : PaR N lid kind mr md c sv kv k ev (w.setCell ⟨g, j, none⟩ v) := by
  rcases h with h | ⟨h0, p, hp, h1, h2, q, h3, h4, h5, h6, h7⟩ | ⟨h1, h2, h3, h4, h5⟩
  · exact .inl h
  · exact .inr (.inl ⟨h0, p, hp, h1, h2, q, h3, h4, h5, by rw [cell_off (by omega)]; exact h6, by rw [cell_off (by omega)]; exact h7⟩)
  · exact .inr (.inr ⟨h1, h2, h3.off h4 hg, h4, h5⟩)
theorem PaR.keep {N : Nat} {lid kind mr md : Int} {c : Cl} {sv kv : Value} {k : Cl} {ev : Value} {w w' : World} (h : PaR N lid kind mr md c sv kv k ev w) (hb : Below w.heap.size w w') : PaR N lid kind mr md c sv kv k ev w' := by
  rcases h with h | ⟨h0, p, hp, h1, h2, q, h3, h4, h5, h6, h7⟩ | ⟨h1, h2, h3, h4, h5⟩
  · exact .inl h
  · exact .inr (.inl ⟨h0, p, hp, h1, h2, q, h3, h4, h5, (hb.cell (World.block_lt_of_cell? w _ h6)).trans h6, (hb.cell (World.block_lt_of_cell? w _ h7)).trans h7⟩)
  · exact .inr (.inr ⟨h1, h2, h3.keep hb, h4, h5⟩)
theorem PaR.low {N M : Nat} {lid kind mr md : Int} {c : Cl} {sv kv : Value} {k : Cl} {ev : Value} {w : World} (h : PaR N lid kind mr md c sv kv k ev w) (hm : M ≤ N) : PaR M lid kind mr md c sv kv k ev w := by
  rcases h with h | ⟨h0, p, hp, h1, h2, q, h3, h4⟩ | ⟨h1, h2, h3, h4, h5⟩
  · exact .inl h
  · exact .inr (.inl ⟨h0, p, hp, h1, h2, q, Nat.le_trans hm h3, h4⟩)
  · exact .inr (.inr ⟨h1, h2, h3, h4.low hm, h5⟩)
theorem stAt_zero {rs : List Int} {a : Nat} (hh : headB rs = false) (h : StAt rs 0 a) : a = 0 := by
  rcases Nat.eq_zero_or_pos a with h0 | h0
  · exact h0
  · exfalso
    have h1 := h.2.1 0 h0
    have hl := h.1
    match rs, hh, h1, hl with
    | [], _, _, hl => simp at hl; omega
    | x :: xs, hh, h1, _ =>
      have hx : x = 0 := by unfold headB at hh; simpa using hh
      subst hx
      simp [cntE] at h1
theorem stAt_all {rs : List Int} {b : Nat} (h : StAt rs (cntE 0 rs : Nat) b) : b = rs.length := by
  rcases Nat.lt_or_ge b rs.length with h0 | h0
  · exfalso
    have h1 := h.2.2 h0
    have h2 := cntE_all 0 rs (b + 1)
    omega
  · have := h.1; omega
theorem cutL_all {α : Type} (l : List α) (n : Nat) (h : n = l.length) : cutL l 0 n = l := by subst h; simp [cutL]
theorem part_all (lid kind mr md : Int) (pa : Option Addr) (pn pc : Nat) (c : Cl) (W : World) (st kt bt : TypeId) (sp kp bp : Value)
    (hn : c.rs.length ≤ 1048576) (hn2 : c.ds.length ≤ 1048576) (hv : c.vs.length ≤ 1048576) (hcr : c.rs.length ≤ c.rc) (hcd : c.ds.length ≤ c.dc) (hcv : c.vs.length ≤ c.vc)
    (hs : W.cell? ⟨3, 0, none⟩ = some (.iface st sp)) (hk : W.cell? ⟨0, 0, none⟩ = some (.iface kt kp)) (hbd : W.cell? ⟨2, 0, none⟩ = some (.iface bt bp)) (hat : c.At W) :
    Calls Tryd.prog 28 #[leafV lid kind mr md pa pn pc, c.val, .int .i64 0, .int .i64 (cntE 0 c.rs : Nat)] W fun e w' => (∃ (k : Cl) (ev : Value), e = .returned (.tuple #[.agg #[.int .i64 k.id, .slice k.ra k.rs.length k.rc, .slice k.da k.ds.length k.dc, .slice k.va k.vs.length k.vc], ev]) ∧ PaR W.heap.size lid kind mr md c (.iface st sp) (.iface kt kp) k ev w') ∧ Below W.heap.size W w' := by
  refine (part_any lid kind mr md 0 (cntE 0 c.rs : Nat) pa pn pc c W st kt bt sp kp bp hn hn2 hv hcr hcd hcv hs hk hbd hat).mono ?_
  rintro e w' ⟨h, hb⟩
  refine ⟨?_, hb⟩
  rcases h with (⟨h1, rfl⟩ | ⟨h1, p, hp, h2, h3, q, h4, rfl, h5, h6⟩) | ⟨_, h, _⟩ | ⟨hg, _, k, a, b, rfl, hk1, hk2, ha, hb2, _, e1, e2, e3⟩
  · exact ⟨zCl, _, rfl, .inl ⟨h1, rfl, rfl⟩⟩
  · exact ⟨zCl, _, rfl, .inr (.inl ⟨h1, p, hp, h2, h3, q, h4, rfl, rfl, h5, h6⟩)⟩
  · exact absurd (⟨by omega, by omega, by omega⟩) h
  · have hf := hg.1
    rw [Bool.and_eq_true, fitB_iff] at hf
    obtain ⟨_, _, f2, f3, _, _, f6⟩ := hf
    obtain rfl := stAt_zero f3 ha
    obtain rfl := stAt_all hb2
    refine ⟨k, .nilIface, rfl, .inr (.inr ⟨hg, rfl, hk1, hk2, ?_, ?_, ?_⟩)⟩
    · rw [e1, cutL_all _ _ rfl]
    · rw [e2, cutL_all _ _ f2]
    · rw [e3, f2, List.take_length, List.take_zero, show cntE md [] = 0 from rfl, cutL_all _ _ f6.symm]
/-- Of, as a function. -/
def ofC (c : Cl) : St := c.vs.foldl (fun s v => s.around v v) ⟨(c.rs.length : Nat), (c.rs.length : Int) - (c.vs.length : Nat), false, Vl.zero, Vl.zero⟩
/-- What Of answers. -/
def OfR (N : Nat) (lid kind mr md : Int) (c : Cl) (sv kv : Value) (s : St) (ev : Value) (w : World) : Prop :=
  ((isLfB kind mr md && fitB lid mr md c.id c.rs c.ds c.vs.length) = false ∧ s = St.zero ∧ ev = sv) ∨
  ((isLfB kind mr md && fitB lid mr md c.id c.rs c.ds c.vs.length) = true ∧ (∃ p : Nat, ∃ hp : p < c.vs.length, badV kind c.vs[p] = true ∧ (∀ j (h : j < c.vs.length), j < p → badV kind c.vs[j] = false) ∧ ∃ q, N ≤ q ∧ s = St.zero ∧ ev = .iface 87 (.pointer (some ⟨q, 0, none⟩)) ∧ w.cell? ⟨q, 0, none⟩ = some (.int .i64 p) ∧ w.cell? ⟨q, 1, none⟩ = some kv)) ∨
  (GoodC lid kind mr md c ∧ ev = .nilIface ∧ s = ofC c)
/-- What Of's boxes hold. -/
structure OfI (W : World) (lid kind mr md : Int) (pa : Option Addr) (pn pc : Nat) (c : Cl) (X : World) : Prop where
  lf : X.heap[W.heap.size]? = some (.cells #[.int .i64 lid, .int .i64 kind, .int .i64 mr, .int .i64 md, .slice pa pn pc] 41 (0, 0))
  co : X.heap[W.heap.size + 1]? = some (.cells #[.int .i64 c.id, .slice c.ra c.rs.length c.rc, .slice c.da c.ds.length c.dc, .slice c.va c.vs.length c.vc] 27 (0, 0))
  re : X.heap[W.heap.size + 1 + 1]? = some (.cells #[.int .i64 0, .int .i64 0, .bool false, .int .i64 0, .int .i64 0, .string ⟨#[]⟩, .int .i64 0, .int .i64 0, .string ⟨#[]⟩] 36 (0, 0))
  old : Below W.heap.size W X
theorem OfI.keep {W : World} {lid kind mr md : Int} {pa : Option Addr} {pn pc : Nat} {c : Cl} {X w' : World} (h : OfI W lid kind mr md pa pn pc c X) (hb : Below X.heap.size X w') : OfI W lid kind mr md pa pn pc c w' :=
  ⟨blk_keep hb h.lf, blk_keep hb h.co, blk_keep hb h.re, h.old.trans (hb.mono h.old.size)⟩
theorem OfI.put {W : World} {lid kind mr md : Int} {pa : Option Addr} {pn pc : Nat} {c : Cl} {X : World} (h : OfI W lid kind mr md pa pn pc c X) (k : Cl) : OfI W lid kind mr md pa pn pc k ((((X.setCell ⟨W.heap.size + 1, 0, none⟩ (.int .i64 k.id)).setCell ⟨W.heap.size + 1, 1, none⟩ (.slice k.ra k.rs.length k.rc)).setCell ⟨W.heap.size + 1, 2, none⟩ (.slice k.da k.ds.length k.dc)).setCell ⟨W.heap.size + 1, 3, none⟩ (.slice k.va k.vs.length k.vc)) :=
  ⟨blk_other (blk_other (blk_other (blk_other h.lf (by omega) _) (by omega) _) (by omega) _) (by omega) _, row_setCell (row_setCell (row_setCell (row_setCell h.co _) _) _) _, blk_other (blk_other (blk_other (blk_other h.re (by omega) _) (by omega) _) (by omega) _) (by omega) _, (((h.old.setCell (by simp) _).setCell (by simp) _).setCell (by simp) _).setCell (by simp) _⟩
/-- Of, up to a value. -/
def ofK (c : Cl) (i : Nat) : St := (c.vs.take i).foldl (fun s v => s.around v v) ⟨(c.rs.length : Nat), (c.rs.length : Int) - (c.vs.length : Nat), false, Vl.zero, Vl.zero⟩
theorem ofK_succ (c : Cl) {i : Nat} (h : i < c.vs.length) : ofK c (i + 1) = (ofK c i).around c.vs[i] c.vs[i] := by
  unfold ofK
  rw [List.take_succ_eq_append_getElem h, List.foldl_append]
  rfl
theorem Vl.zero_low : Vl.zero.Low := by unfold Vl.zero Vl.Low; simp
theorem St.Low.around {s : St} {l g : Vl} (h : s.Low) (hl : l.Low) (hg : g.Low) : (s.around l g).Low := by
  unfold St.around
  refine ⟨?_, ?_⟩
  · show Vl.Low (if _ then l else s.mn)
    split
    · exact hl
    · exact h.1
  · show Vl.Low (if _ then g else s.mx)
    split
    · exact hg
    · exact h.2
theorem ofK_low (c : Cl) (h : ∀ v ∈ c.vs, v.Low) : ∀ i, i ≤ c.vs.length → (ofK c i).Low
  | 0, _ => ⟨Vl.zero_low, Vl.zero_low⟩
  | i + 1, hi => by
    rw [ofK_succ c hi]
    have hx := h c.vs[i] (List.getElem_mem _)
    exact (ofK_low c h i (by omega)).around hx hx
set_option maxRecDepth 100000 in
set_option maxHeartbeats 6400000 in
theorem of_any (lid kind mr md : Int) (pa : Option Addr) (pn pc : Nat) (c : Cl) (W : World) (st kt bt : TypeId) (sp kp bp : Value)
    (hn : c.rs.length ≤ 1048576) (hn2 : c.ds.length ≤ 1048576) (hv : c.vs.length ≤ 1048576) (hcr : c.rs.length ≤ c.rc) (hcd : c.ds.length ≤ c.dc) (hcv : c.vs.length ≤ c.vc)
    (hs : W.cell? ⟨3, 0, none⟩ = some (.iface st sp)) (hk : W.cell? ⟨0, 0, none⟩ = some (.iface kt kp)) (hbd : W.cell? ⟨2, 0, none⟩ = some (.iface bt bp)) (hat : c.At W) (hlo : ∀ v ∈ c.vs, v.Low) :
    Calls Tryd.prog 10 #[leafV lid kind mr md pa pn pc, c.val] W fun e w' => (∃ (s : St) (ev : Value), e = .returned (.tuple #[s.val, ev]) ∧ OfR W.heap.size lid kind mr md c (.iface st sp) (.iface kt kp) s ev w') ∧ Below W.heap.size W w' := by
  unfold leafV Cl.val colV
  obtain ⟨w0, HW0, HX, HY, HZ, HB⟩ := three_boxes W #[.int .i64 lid, .int .i64 kind, .int .i64 mr, .int .i64 md, .slice pa pn pc] #[.int .i64 c.id, .slice c.ra c.rs.length c.rc, .slice c.da c.ds.length c.dc, .slice c.va c.vs.length c.vc] #[.int .i64 0, .int .i64 0, .bool false, .int .i64 0, .int .i64 0, .string ⟨#[]⟩, .int .i64 0, .int .i64 0, .string ⟨#[]⟩] 41 27 36
  have HI0 : Hid (OfI W lid kind mr md pa pn pc c w0) := ⟨HX.out, HY.out, HZ.out, HB.out⟩
  have HCt : Hid (∀ X, Below W.heap.size W X → Calls Tryd.prog 29 #[.agg #[.int .i64 c.id, .slice c.ra c.rs.length c.rc, .slice c.da c.ds.length c.dc, .slice c.va c.vs.length c.vc]] X fun e w' => e = .returned (.int .i64 (cntE 0 c.rs : Nat)) ∧ Below X.heap.size X w') := fun X hX => count_any c.id c.ra c.rs c.rc c.da c.ds.length c.dc c.va c.vs.length c.vc hn X (hat.keep hX).r
  have HPt : Hid (∀ X, Below W.heap.size W X → Calls Tryd.prog 28 #[.agg #[.int .i64 lid, .int .i64 kind, .int .i64 mr, .int .i64 md, .slice pa pn pc], .agg #[.int .i64 c.id, .slice c.ra c.rs.length c.rc, .slice c.da c.ds.length c.dc, .slice c.va c.vs.length c.vc], .int .i64 0, .int .i64 (cntE 0 c.rs : Nat)] X fun e w' => (∃ (k : Cl) (ev : Value), e = .returned (.tuple #[.agg #[.int .i64 k.id, .slice k.ra k.rs.length k.rc, .slice k.da k.ds.length k.dc, .slice k.va k.vs.length k.vc], ev]) ∧ PaR X.heap.size lid kind mr md c (.iface st sp) (.iface kt kp) k ev w') ∧ Below X.heap.size X w') := fun X hX => part_all lid kind mr md pa pn pc c X st kt bt sp kp bp hn hn2 hv hcr hcd hcv (ckB hs hX) (ckB hk hX) (ckB hbd hX) (hat.keep hX)
  have HLO : Hid _ := hlo
  clear hlo hat hs hk hbd HX HY HZ HB hcr hcd hcv
  go_enter Tryd.func10, Tryd.ntmps10
  go_upto_region 1 with fail
  rw [HW0.out]
  clear HW0
  obtain ⟨⟨p0, p1, p2, p3, p4⟩, _⟩ := row_five HI0.out.lf
  obtain ⟨k0, k1, k2, k3⟩ := row_four HI0.out.co
  obtain ⟨m0, m1, m2, m3⟩ := row_fourA HI0.out.co
  go_cut [6] (fun x wx => ∃ (k : Cl), Hid (OfI W lid kind mr md pa pn pc k wx) ∧ Hid (PaR W.heap.size lid kind mr md c (.iface st sp) (.iface kt kp) k x wx))
  case first =>
    have hbx : Below w0.heap.size w0 w0.drew := (Below.refl _ _).drew
    have hW0 : Below W.heap.size W w0.drew := HI0.out.old.drew
    go_region_law (first
      | (go_simp; go_at_call 29; (with_reducible refine Calls.mono (HCt.out _ hW0) ?_); rintro e w1 ⟨rfl, hb1⟩; have HI1 : Hid _ := HI0.out.keep (hbx.trans hb1); have hW1 : Below W.heap.size W w1 := HI1.out.old; clear p0 p1 p2 p3 p4 k0 k1 k2 k3 m0 m1 m2 m3 hb1; obtain ⟨⟨p0, p1, p2, p3, p4⟩, _⟩ := row_five HI1.out.lf; obtain ⟨k0, k1, k2, k3⟩ := row_four HI1.out.co; obtain ⟨m0, m1, m2, m3⟩ := row_fourA HI1.out.co)
      | (go_simp; go_at_call 28; (with_reducible refine Calls.mono (HPt.out _ hW1) ?_); rintro e w2 ⟨⟨⟨kid, kra, krs, krc, kda, kds, kdc, kva, kvs, kvc⟩, ev, rfl, hpr⟩, hb2⟩; have HI2 : Hid _ := HI1.out.keep hb2; have HPR : Hid (PaR w1.heap.size lid kind mr md c (.iface st sp) (.iface kt kp) ⟨kid, kra, krs, krc, kda, kds, kdc, kva, kvs, kvc⟩ ev w2) := hpr; clear p0 p1 p2 p3 p4 k0 k1 k2 k3 m0 m1 m2 m3 hb2 hpr; obtain ⟨k0, k1, k2, k3⟩ := row_four HI2.out.co; obtain ⟨m0, m1, m2, m3⟩ := row_fourA HI2.out.co))
    all_goals
      go_wp2
      go_meet
      have hlt : W.heap.size + 1 < w1.heap.size := lt_of_block HI1.out.co
      exact ⟨⟨kid, kra, krs, krc, kda, kds, kdc, kva, kvs, kvc⟩, OfI.put HI2.out _, ((((HPR.out.off hlt).off hlt).off hlt).off hlt).low (by omega)⟩
  case rest =>
    obtain ⟨k, HI, HPR⟩ := hcut
    rename Value => ev
    rename World => wx
    clear HI0 HCt HPt p0 p1 p2 p3 p4 k0 k1 k2 k3 m0 m1 m2 m3
    obtain ⟨z1, z2⟩ := row_nine HI.out.re
    obtain ⟨k0, k1, k2, k3⟩ := row_four HI.out.co
    have HPR2 : Hid _ := HPR
    rcases HPR.out with ⟨h1, h2, h3⟩ | ⟨h0, p, hp, h1, h2, q, h3, h4, h5, h6, h7⟩ | ⟨h1, h2, h3, h4, h5, h6, h7⟩
    · subst h3
      have HG : Hid _ := h1
      clear h1 h2 HPR HPR2
      go_wp2
      exact bodyPost_ret (v := .tuple #[St.zero.val, .iface st sp]) (results_cR Tryd.results10 _ _ (W.heap.size + 1 + 1) 36 #[.int .i64 0, .int .i64 0, .bool false, .int .i64 0, .int .i64 0, .string ⟨#[]⟩, .int .i64 0, .int .i64 0, .string ⟨#[]⟩] (0, 0) _ (.iface st sp) rfl rfl (set9_row HI.out.re _ _ _ _ _ _ _ _ _) Tryd.underlying36 rfl (by kernel_rfl)) rfl ⟨⟨St.zero, _, rfl, .inl ⟨HG.out, rfl, rfl⟩⟩, set9_below HI.out.old (by omega) _ _ _ _ _ _ _ _ _⟩
    · subst h5
      have HG : Hid _ := h0
      have H1 : Hid _ := h1
      have H2 : Hid _ := h2
      have H3 : Hid _ := h3
      have H6 : Hid _ := h6
      have H7 : Hid _ := h7
      have HQ : Hid (q ≠ W.heap.size + 1 + 1) := (fun e => by
        subst e
        have hz := (row_nine HI.out.re).1.2.1
        rw [h7] at hz
        cases hz)
      clear h0 h1 h2 h3 h4 h6 h7 HPR HPR2
      go_wp2
      have hoff : ∀ (X : World) (o j : Nat) (v : Value), (X.setCell ⟨W.heap.size + 1 + 1, j, none⟩ v).cell? ⟨q, o, none⟩ = X.cell? ⟨q, o, none⟩ := fun X o j v => cell_off HQ.out
      exact bodyPost_ret (v := .tuple #[St.zero.val, .iface 87 (.pointer (some ⟨q, 0, none⟩))]) (results_cR Tryd.results10 _ _ (W.heap.size + 1 + 1) 36 #[.int .i64 0, .int .i64 0, .bool false, .int .i64 0, .int .i64 0, .string ⟨#[]⟩, .int .i64 0, .int .i64 0, .string ⟨#[]⟩] (0, 0) _ (.iface 87 (.pointer (some ⟨q, 0, none⟩))) rfl rfl (set9_row HI.out.re _ _ _ _ _ _ _ _ _) Tryd.underlying36 rfl (by kernel_rfl)) rfl ⟨⟨St.zero, _, rfl, .inr (.inl ⟨HG.out, p, hp, H1.out, H2.out, q, H3.out, rfl, rfl, by rw [hoff, hoff, hoff, hoff, hoff, hoff, hoff, hoff, hoff]; exact H6.out, by rw [hoff, hoff, hoff, hoff, hoff, hoff, hoff, hoff, hoff]; exact H7.out⟩)⟩, set9_below HI.out.old (by omega) _ _ _ _ _ _ _ _ _⟩
    · subst h2
      obtain ⟨kid, kra, krs, krc, kda, kds, kdc, kva, kvs, kvc⟩ := k
      have HG : Hid _ := h1
      have h8 : krs = c.rs := h5
      have h9 : kvs = c.vs := h7
      have h10 : kds = c.ds := h6
      subst h8 h9 h10
      have HAV : Hid (LiesV wx kva c.vs) := h3.v
      clear h1 h3 h4 h5 h6 h7 HPR HPR2
      have hwr : IntKind.i64.wrap ((c.rs.length : Int) - (c.vs.length : Int)) = (c.rs.length : Int) - (c.vs.length : Int) := by rw [IntKind.wrap_i64]; omega
      go_upto_region 5 with fail
      obtain ⟨wy, HWY⟩ : ∃ w, Hid (wx.alloc (.cells #[.int .i64 (c.rs.length : Nat), .int .i64 ((c.rs.length : Int) - (c.vs.length : Int)), .bool false, .int .i64 0, .int .i64 0, .string ⟨#[]⟩, .int .i64 0, .int .i64 0, .string ⟨#[]⟩] 36) = w) := ⟨_, rfl⟩
      have HBZ : Hid (Below wx.heap.size wx wy) := (by show Below _ _ _; rw [← HWY.out]; exact (Below.refl _ _).alloc (Nat.le_refl _) _)
      have HSY : Hid (wy.heap[wx.heap.size]? = some (.cells (ofK c 0).cs 36 (0, 0))) := (by show _ = _; rw [← HWY.out]; exact heap_alloc_new wx _)
      rw [HWY.out]
      have HII : Hid (∀ X, Below wx.heap.size wx X → OfI W lid kind mr md pa pn pc ⟨kid, kra, c.rs, krc, kda, c.ds, kdc, kva, c.vs, kvc⟩ X ∧ LiesV X kva c.vs) := fun X hX => ⟨HI.out.keep hX, HAV.out.keep hX⟩
      have HGX : Hid (W.heap.size + 1 + 1 < wx.heap.size) := lt_of_block HI.out.re
      clear HWY HI HAV k0 k1 k2 k3 z1 z2 hwr
      generalize wx.heap.size = g at *
      obtain ⟨k0, k1, k2, k3⟩ := row_four (HII.out _ HBZ.out).1.co
      go_wp2
      go_loopw [36] (fun x wr => ∃ i : Nat, i ≤ c.vs.length ∧ x = .int .i64 i ∧ Hid (Below g wx wr) ∧ Hid (wr.heap[g]? = some (.cells (ofK c i).cs 36 (0, 0)))) (fun x _ => c.vs.length - (intOf x).toNat)
      case atStart => exact ⟨0, Nat.zero_le _, rfl, HBZ, HSY⟩
      case round =>
        obtain ⟨i, hi, rfl, HBW, HS⟩ := hrel
        clear HBZ HSY k0 k1 k2 k3
        have HI : Hid _ := (HII.out _ HBW.out).1
        by_cases hlt : i < c.vs.length
        · obtain ⟨b, o, rfl, c0, c1, c2⟩ := (HII.out _ HBW.out).2 i hlt
          have HK : Hid (ofK c (i + 1) = (ofK c i).around c.vs[i] c.vs[i]) := ofK_succ c hlt
          have HL : Hid ((ofK c i).Low) := ofK_low c HLO.out i hi
          have HV : Hid (c.vs[i].Low) := HLO.out _ (List.getElem_mem _)
          generalize c.vs[i] = v at *
          obtain ⟨s, HSs⟩ : ∃ s, Hid (ofK c i = s) := ⟨_, rfl⟩
          rw [HSs.out] at HK HL HS
          clear HSs
          have HB1 : Hid (Below wr.heap.size wr (wr.alloc (.cells #[.int .i64 v.k, .int .i64 v.n, .string v.s] 34))) := (Below.refl _ _).alloc (Nat.le_refl _) _
          have HS1 : Hid _ := blk_keep HB1.out HS.out
          obtain ⟨⟨s0, s1, s2, s3, s4, s5, s6, s7, s8⟩, _⟩ := st_row HS1.out
          go_wp2_with fail
          refine (around_x s v v _ HL.out HV.out HV.out).mono ?_
          rintro e w2 ⟨⟨t, HT, rfl⟩, hb2⟩
          have HB2 : Hid (Below wr.heap.size wr w2) := HB1.out.trans (hb2.mono HB1.out.size)
          have HS2 : Hid _ := blk_keep hb2 HS1.out
          clear hb2 s0 s1 s2 s3 s4 s5 s6 s7 s8 c0 c1 c2
          obtain ⟨⟨s0, s1, s2, s3, s4, s5, s6, s7, s8⟩, s9⟩ := st_row HS2.out
          have HLT : Hid (g < wr.heap.size) := lt_of_block HS.out
          go_wp2
          go_roundw
          case rel =>
            refine ⟨i + 1, by omega, by go_num, ?_, ?_⟩
            · exact set9_below (HBW.out.trans (HB2.out.mono (by have := HLT.out; omega))) (Nat.le_refl _) _ _ _ _ _ _ _ _ _
            · show _ = _
              rw [HK.out, ← HT.out]
              exact set9_row HS2.out _ _ _ _ _ _ _ _ _
          case measure => simp [intOf]; omega
        · obtain rfl : i = c.vs.length := by omega
          have HO : Hid (ofK c c.vs.length = ofC c) := (by show _ = _; unfold ofK ofC; rw [List.take_length])
          rw [HO.out] at HS
          obtain ⟨s, HSs⟩ : ∃ s, Hid (s = ofC c) := ⟨_, rfl⟩
          rw [← HSs.out] at HS
          obtain ⟨⟨s0, s1, s2, s3, s4, s5, s6, s7, s8⟩, s9⟩ := st_row HS.out
          obtain ⟨z1, z2⟩ := row_nine HI.out.re
          go_wp2
          exact bodyPost_ret (v := .tuple #[s.val, .nilIface]) (results_cR Tryd.results10 _ _ (W.heap.size + 1 + 1) 36 s.cs (0, 0) _ .nilIface rfl rfl (set9_row HI.out.re _ _ _ _ _ _ _ _ _) Tryd.underlying36 rfl (by kernel_rfl)) rfl ⟨⟨s, _, rfl, .inr (.inr ⟨HG.out, rfl, HSs.out⟩)⟩, set9_below HI.out.old (by omega) _ _ _ _ _ _ _ _ _⟩
end Go.Proofs.YtkcobccmifkjcaaDoor

namespace Go.Proofs.YtkcobccmifkjcaaDoor
open Go.RowKit
/-- What Merge's boxes hold. -/
structure MgI (W : World) (a b : St) (X : World) : Prop where
  fst : X.heap[W.heap.size]? = some (.cells a.cs 36 (0, 0))
  snd : X.heap[W.heap.size + 1]? = some (.cells b.cs 36 (0, 0))
  re : X.heap[W.heap.size + 1 + 1]? = some (.cells #[.int .i64 0, .int .i64 0, .bool false, .int .i64 0, .int .i64 0, .string ⟨#[]⟩, .int .i64 0, .int .i64 0, .string ⟨#[]⟩] 36 (0, 0))
  old : Below W.heap.size W X
theorem MgI.keep {W : World} {a b : St} {X w' : World} (h : MgI W a b X) (hb : Below X.heap.size X w') : MgI W a b w' :=
  ⟨blk_keep hb h.fst, blk_keep hb h.snd, blk_keep hb h.re, h.old.trans (hb.mono h.old.size)⟩
theorem MgI.keep3 {W : World} {a b : St} {X w' : World} (h : MgI W a b X) (hb : Below (W.heap.size + 1 + 1 + 1) X w') : MgI W a b w' :=
  ⟨(hb.block _ (by omega)).trans h.fst, (hb.block _ (by omega)).trans h.snd, (hb.block _ (by omega)).trans h.re, h.old.trans (hb.mono (by omega))⟩
/-- The cells of two, one behind the other. -/
theorem row_two9 {w : World} {g t : Nat} {a b : St} (h : w.heap[g]? = some (.cells #[.int .i64 a.e, .int .i64 a.u, .bool a.h, .int .i64 a.mn.k, .int .i64 a.mn.n, .string a.mn.s, .int .i64 a.mx.k, .int .i64 a.mx.n, .string a.mx.s, .int .i64 b.e, .int .i64 b.u, .bool b.h, .int .i64 b.mn.k, .int .i64 b.mn.n, .string b.mn.s, .int .i64 b.mx.k, .int .i64 b.mx.n, .string b.mx.s] t (0, 0))) :
    (w.cell? ⟨g, 0, none⟩ = some (.int .i64 a.e) ∧ w.cell? ⟨g, 1, none⟩ = some (.int .i64 a.u) ∧ w.cell? ⟨g, 2, none⟩ = some (.bool a.h) ∧ w.cell? ⟨g, 3, none⟩ = some (.int .i64 a.mn.k) ∧ w.cell? ⟨g, 4, none⟩ = some (.int .i64 a.mn.n) ∧ w.cell? ⟨g, 5, none⟩ = some (.string a.mn.s) ∧ w.cell? ⟨g, 6, none⟩ = some (.int .i64 a.mx.k) ∧ w.cell? ⟨g, 7, none⟩ = some (.int .i64 a.mx.n) ∧ w.cell? ⟨g, 8, none⟩ = some (.string a.mx.s)) ∧ (w.cell? ⟨g, 9, none⟩ = some (.int .i64 b.e) ∧ w.cell? ⟨g, 10, none⟩ = some (.int .i64 b.u) ∧ w.cell? ⟨g, 11, none⟩ = some (.bool b.h) ∧ w.cell? ⟨g, 12, none⟩ = some (.int .i64 b.mn.k) ∧ w.cell? ⟨g, 13, none⟩ = some (.int .i64 b.mn.n) ∧ w.cell? ⟨g, 14, none⟩ = some (.string b.mn.s) ∧ w.cell? ⟨g, 15, none⟩ = some (.int .i64 b.mx.k) ∧ w.cell? ⟨g, 16, none⟩ = some (.int .i64 b.mx.n) ∧ w.cell? ⟨g, 17, none⟩ = some (.string b.mx.s)) := by
  refine ⟨⟨?_, ?_, ?_, ?_, ?_, ?_, ?_, ?_, ?_⟩, ?_, ?_, ?_, ?_, ?_, ?_, ?_, ?_, ?_⟩ <;> simp [World.cell?, h]
/-- Merge, as a function: both have values of one kind, or one has none. -/
def St.plus (s : St) (a : St) : St := if a.h then s.around a.mn a.mx else s
def St.merge (a b : St) : St := (St.plus ⟨a.e + b.e, a.u + b.u, false, Vl.zero, Vl.zero⟩ a).plus b
def St.unlike (a b : St) : Bool := a.h && b.h && !(a.mn.k == b.mn.k)
def MgR (a b : St) (kv : Value) (s : St) (ev : Value) : Prop := (St.unlike a b = true ∧ s = St.zero ∧ ev = kv) ∨ (St.unlike a b = false ∧ s = a.merge b ∧ ev = .nilIface)
set_option maxRecDepth 100000 in
set_option maxHeartbeats 6400000 in
theorem merge_any (a b : St) (W : World) (kt : TypeId) (kp : Value) (hk : W.cell? ⟨0, 0, none⟩ = some (.iface kt kp)) (ha : a.Low) (hb : b.Low)
    (b1 : -4611686018427387904 ≤ a.e ∧ a.e ≤ 4611686018427387904) (b2 : -4611686018427387904 ≤ b.e ∧ b.e ≤ 4611686018427387904) (b3 : -4611686018427387904 ≤ a.u ∧ a.u ≤ 4611686018427387904) (b4 : -4611686018427387904 ≤ b.u ∧ b.u < 4611686018427387904) (b5 : b.e < 4611686018427387904) :
    Calls Tryd.prog 16 #[a.val, b.val] W fun e w' => (∃ (s : St) (ev : Value), e = .returned (.tuple #[s.val, ev]) ∧ MgR a b (.iface kt kp) s ev) ∧ Below W.heap.size W w' := by
  obtain ⟨w0, HW0, HX, HY, HZ, HB⟩ := three_boxes W a.cs b.cs #[.int .i64 0, .int .i64 0, .bool false, .int .i64 0, .int .i64 0, .string ⟨#[]⟩, .int .i64 0, .int .i64 0, .string ⟨#[]⟩] 36 36 36
  have HI0 : Hid (MgI W a b w0) := ⟨HX.out, HY.out, HZ.out, HB.out⟩
  have HKE : Hid (∀ X, Below W.heap.size W X → X.cell? ⟨0, 0, none⟩ = some (.iface kt kp)) := fun X hX => ckB hk hX
  have hgN : 0 < W.heap.size := World.block_lt_of_cell? W _ hk
  clear HX HY HZ HB hk
  unfold St.cs at HW0
  show Calls Tryd.prog 16 #[.agg #[.int .i64 a.e, .int .i64 a.u, .bool a.h, .int .i64 a.mn.k, .int .i64 a.mn.n, .string a.mn.s, .int .i64 a.mx.k, .int .i64 a.mx.n, .string a.mx.s], .agg #[.int .i64 b.e, .int .i64 b.u, .bool b.h, .int .i64 b.mn.k, .int .i64 b.mn.n, .string b.mn.s, .int .i64 b.mx.k, .int .i64 b.mx.n, .string b.mx.s]] W fun e w' => (∃ (s : St) (ev : Value), e = .returned (.tuple #[s.val, ev]) ∧ MgR a b (.iface kt kp) s ev) ∧ Below W.heap.size W w'
  go_enter Tryd.func16, Tryd.ntmps16
  go_upto_region 1 with fail
  rw [HW0.out]
  clear HW0
  obtain ⟨ub, HUB⟩ : ∃ ub, Hid (St.unlike a b = ub) := ⟨_, rfl⟩
  go_cut [21] (fun x wx => x = .bool ub ∧ Hid (MgI W a b wx))
  case first =>
    obtain ⟨⟨x0, x1, x2, x3, x4, x5, x6, x7, x8⟩, _⟩ := st_row HI0.out.fst
    obtain ⟨⟨y0, y1, y2, y3, y4, y5, y6, y7, y8⟩, _⟩ := st_row HI0.out.snd
    have HU : Hid (a.h = true → b.h = true → ub = !(a.mn.k == b.mn.k)) := fun h1 h2 => by rw [← HUB.out]; simp [St.unlike, h1, h2]
    have HU1 : Hid (a.h = false → ub = false) := fun h1 => by rw [← HUB.out]; simp [St.unlike, h1]
    have HU2 : Hid (b.h = false → ub = false) := fun h1 => by rw [← HUB.out]; simp [St.unlike, h1]
    clear HUB
    by_cases h1 : a.h = true
    · rw [h1] at x2
      by_cases h2 : b.h = true
      · rw [h2] at y2
        have b0 : Below (W.heap.size + 1 + 1 + 1) w0 w0 := Below.refl _ _
        have hsz : W.heap.size + 1 + 1 + 1 ≤ w0.heap.size := lt_of_block HI0.out.re
        have HKA : Hid (∀ X, Below (W.heap.size + 1 + 1 + 1) w0 X → Calls Tryd.prog 33 #[.agg #[.int .i64 a.e, .int .i64 a.u, .bool true, .int .i64 a.mn.k, .int .i64 a.mn.n, .string a.mn.s, .int .i64 a.mx.k, .int .i64 a.mx.n, .string a.mx.s]] X fun e w' => e = .returned (.int .i64 a.mn.k) ∧ Below (W.heap.size + 1 + 1 + 1) w0 w') := fun X hX => (by have h := kindS_any a X; unfold St.val St.cs at h; rw [h1] at h; exact h.mono fun _ _ h => ⟨h.1, bel_next hX hsz h.2⟩)
        have HKB : Hid (∀ X, Below (W.heap.size + 1 + 1 + 1) w0 X → Calls Tryd.prog 33 #[.agg #[.int .i64 b.e, .int .i64 b.u, .bool true, .int .i64 b.mn.k, .int .i64 b.mn.n, .string b.mn.s, .int .i64 b.mx.k, .int .i64 b.mx.n, .string b.mx.s]] X fun e w' => e = .returned (.int .i64 b.mn.k) ∧ Below (W.heap.size + 1 + 1 + 1) w0 w') := fun X hX => (by have h := kindS_any b X; unfold St.val St.cs at h; rw [h2] at h; exact h.mono fun _ _ h => ⟨h.1, bel_next hX hsz h.2⟩)
        have HN : Hid (∀ X, Below (W.heap.size + 1 + 1 + 1) w0 X → (X.cell? ⟨W.heap.size, 0, none⟩ = some (.int .i64 a.e) ∧ X.cell? ⟨W.heap.size, 1, none⟩ = some (.int .i64 a.u) ∧ X.cell? ⟨W.heap.size, 2, none⟩ = some (.bool true) ∧ X.cell? ⟨W.heap.size, 3, none⟩ = some (.int .i64 a.mn.k) ∧ X.cell? ⟨W.heap.size, 4, none⟩ = some (.int .i64 a.mn.n) ∧ X.cell? ⟨W.heap.size, 5, none⟩ = some (.string a.mn.s) ∧ X.cell? ⟨W.heap.size, 6, none⟩ = some (.int .i64 a.mx.k) ∧ X.cell? ⟨W.heap.size, 7, none⟩ = some (.int .i64 a.mx.n) ∧ X.cell? ⟨W.heap.size, 8, none⟩ = some (.string a.mx.s)) ∧ (X.cell? ⟨W.heap.size + 1, 0, none⟩ = some (.int .i64 b.e) ∧ X.cell? ⟨W.heap.size + 1, 1, none⟩ = some (.int .i64 b.u) ∧ X.cell? ⟨W.heap.size + 1, 2, none⟩ = some (.bool true) ∧ X.cell? ⟨W.heap.size + 1, 3, none⟩ = some (.int .i64 b.mn.k) ∧ X.cell? ⟨W.heap.size + 1, 4, none⟩ = some (.int .i64 b.mn.n) ∧ X.cell? ⟨W.heap.size + 1, 5, none⟩ = some (.string b.mn.s) ∧ X.cell? ⟨W.heap.size + 1, 6, none⟩ = some (.int .i64 b.mx.k) ∧ X.cell? ⟨W.heap.size + 1, 7, none⟩ = some (.int .i64 b.mx.n) ∧ X.cell? ⟨W.heap.size + 1, 8, none⟩ = some (.string b.mx.s)) ∧ Below (W.heap.size + 1 + 1 + 1) w0 X) := fun X hX => ⟨by have h := (st_row ((hX.block _ (by omega)).trans HI0.out.fst)).1; rw [h1] at h; exact h, by have h := (st_row ((hX.block _ (by omega)).trans HI0.out.snd)).1; rw [h2] at h; exact h, hX⟩
        have HUb : Hid (ub = !(a.mn.k == b.mn.k)) := HU.out h1 h2
        clear HU HU1 HU2 h1 h2
        go_region_held3 (fun X => (X.cell? ⟨W.heap.size, 0, none⟩ = some (.int .i64 a.e) ∧ X.cell? ⟨W.heap.size, 1, none⟩ = some (.int .i64 a.u) ∧ X.cell? ⟨W.heap.size, 2, none⟩ = some (.bool true) ∧ X.cell? ⟨W.heap.size, 3, none⟩ = some (.int .i64 a.mn.k) ∧ X.cell? ⟨W.heap.size, 4, none⟩ = some (.int .i64 a.mn.n) ∧ X.cell? ⟨W.heap.size, 5, none⟩ = some (.string a.mn.s) ∧ X.cell? ⟨W.heap.size, 6, none⟩ = some (.int .i64 a.mx.k) ∧ X.cell? ⟨W.heap.size, 7, none⟩ = some (.int .i64 a.mx.n) ∧ X.cell? ⟨W.heap.size, 8, none⟩ = some (.string a.mx.s)) ∧ (X.cell? ⟨W.heap.size + 1, 0, none⟩ = some (.int .i64 b.e) ∧ X.cell? ⟨W.heap.size + 1, 1, none⟩ = some (.int .i64 b.u) ∧ X.cell? ⟨W.heap.size + 1, 2, none⟩ = some (.bool true) ∧ X.cell? ⟨W.heap.size + 1, 3, none⟩ = some (.int .i64 b.mn.k) ∧ X.cell? ⟨W.heap.size + 1, 4, none⟩ = some (.int .i64 b.mn.n) ∧ X.cell? ⟨W.heap.size + 1, 5, none⟩ = some (.string b.mn.s) ∧ X.cell? ⟨W.heap.size + 1, 6, none⟩ = some (.int .i64 b.mx.k) ∧ X.cell? ⟨W.heap.size + 1, 7, none⟩ = some (.int .i64 b.mx.n) ∧ X.cell? ⟨W.heap.size + 1, 8, none⟩ = some (.string b.mx.s)) ∧ Below (W.heap.size + 1 + 1 + 1) w0 X) (with_reducible refine HN.out _ ?_; repeat' (first | with_reducible assumption | with_reducible exact b0.drew | with_reducible exact b0)) (first | (go_at_call 33; (first | (with_reducible refine Calls.mono (HKA.out _ ?_) ?_) | (with_reducible refine Calls.mono (HKB.out _ ?_) ?_)); (first | with_reducible assumption | with_reducible exact b0.drew | with_reducible exact b0); rintro e xv ⟨rfl, hbv⟩))
        all_goals
          go_wp2
          go_meet
          exact ⟨by rw [HUb.out]; rfl, HI0.out.keep3 (by assumption)⟩
      · have hub := HU2.out (by simpa using h2)
        have h2' : b.h = false := by simpa using h2
        rw [h2'] at y2
        subst hub
        clear h1 h2 h2' HU HU1 HU2
        go_quiet (fail)
        go_wp2
        go_meet
        exact ⟨rfl, HI0.out.keep (blw_drewN (Below.refl _ _) _)⟩
    · have hub := HU1.out (by simpa using h1)
      have h1' : a.h = false := by simpa using h1
      rw [h1'] at x2
      subst hub
      clear h1 h1' HU HU1 HU2
      go_quiet (fail)
      go_wp2
      go_meet
      exact ⟨rfl, HI0.out.keep (blw_drewN (Below.refl _ _) _)⟩
  case rest =>
    obtain ⟨rfl, HI⟩ := hcut
    rename World => wx
    clear HI0
    obtain ⟨z1, z2⟩ := row_nine HI.out.re
    cases ub
    · obtain ⟨⟨x0, x1, x2, x3, x4, x5, x6, x7, x8⟩, _⟩ := st_row HI.out.fst
      obtain ⟨⟨y0, y1, y2, y3, y4, y5, y6, y7, y8⟩, _⟩ := st_row HI.out.snd
      have hw1 : IntKind.i64.wrap (a.e + b.e) = a.e + b.e := by rw [IntKind.wrap_i64]; omega
      have hw2 : IntKind.i64.wrap (a.u + b.u) = a.u + b.u := by rw [IntKind.wrap_i64]; omega
      go_upto_region 4 with fail
      obtain ⟨wy, HWY, HSY, HEY, HBY⟩ := two_boxes wx #[.int .i64 (a.e + b.e), .int .i64 (a.u + b.u), .bool false, .int .i64 0, .int .i64 0, .string ⟨#[]⟩, .int .i64 0, .int .i64 0, .string ⟨#[]⟩] #[.int .i64 a.e, .int .i64 a.u, .bool a.h, .int .i64 a.mn.k, .int .i64 a.mn.n, .string a.mn.s, .int .i64 a.mx.k, .int .i64 a.mx.n, .string a.mx.s, .int .i64 b.e, .int .i64 b.u, .bool b.h, .int .i64 b.mn.k, .int .i64 b.mn.n, .string b.mn.s, .int .i64 b.mx.k, .int .i64 b.mx.n, .string b.mx.s] 36 36
      have HB1 : Hid (Below wx.heap.size wx (wx.alloc (.cells #[.int .i64 (a.e + b.e), .int .i64 (a.u + b.u), .bool false, .int .i64 0, .int .i64 0, .string ⟨#[]⟩, .int .i64 0, .int .i64 0, .string ⟨#[]⟩] 36))) := (Below.refl _ _).alloc (Nat.le_refl _) _
      clear x0 x1 x2 x3 x4 x5 x6 x7 x8 y0 y1 y2 y3 y4 y5 y6 y7 y8 hw1 hw2
      obtain ⟨⟨x0, x1, x2, x3, x4, x5, x6, x7, x8⟩, _⟩ := st_row (blk_keep HB1.out HI.out.fst)
      obtain ⟨⟨y0, y1, y2, y3, y4, y5, y6, y7, y8⟩, _⟩ := st_row (blk_keep HB1.out HI.out.snd)
      go_wp2
      rw [HWY.out]
      have HSZ : Hid (W.heap.size + 1 + 1 < wx.heap.size) := lt_of_block HI.out.re
      clear x0 x1 x2 x3 x4 x5 x6 x7 x8 y0 y1 y2 y3 y4 y5 y6 y7 y8 HWY HB1 z1 z2
      obtain ⟨s0, HS0⟩ : ∃ s : St, Hid (s = ⟨a.e + b.e, a.u + b.u, false, Vl.zero, Vl.zero⟩) := ⟨_, rfl⟩
      have HSY2 : Hid (wy.heap[wx.heap.size]? = some (.cells s0.cs 36 (0, 0))) := (by show _ = _; rw [HS0.out]; exact HSY.out)
      have HMg : Hid (a.merge b = (s0.plus a).plus b) := (by show _ = _; rw [HS0.out]; rfl)
      have HL0 : Hid (s0.Low) := (by show St.Low _; rw [HS0.out]; exact ⟨Vl.zero_low, Vl.zero_low⟩)
      have HL1 : Hid ((s0.plus a).Low) := (by
        show St.Low _
        unfold St.plus
        split
        · exact HL0.out.around ha.1 ha.2
        · exact HL0.out)
      clear HSY HS0
      go_loopw [39] (fun x wr => Hid (Below wx.heap.size wx wr) ∧ Hid (wr.heap[wx.heap.size + 1]? = some (.cells #[.int .i64 a.e, .int .i64 a.u, .bool a.h, .int .i64 a.mn.k, .int .i64 a.mn.n, .string a.mn.s, .int .i64 a.mx.k, .int .i64 a.mx.n, .string a.mx.s, .int .i64 b.e, .int .i64 b.u, .bool b.h, .int .i64 b.mn.k, .int .i64 b.mn.n, .string b.mn.s, .int .i64 b.mx.k, .int .i64 b.mx.n, .string b.mx.s] 36 (0, 0))) ∧ ((x = .int .i64 0 ∧ Hid (wr.heap[wx.heap.size]? = some (.cells s0.cs 36 (0, 0)))) ∨ (x = .int .i64 1 ∧ Hid (wr.heap[wx.heap.size]? = some (.cells (s0.plus a).cs 36 (0, 0)))) ∨ (x = .int .i64 2 ∧ Hid (wr.heap[wx.heap.size]? = some (.cells (a.merge b).cs 36 (0, 0)))))) (fun x _ => 2 - (intOf x).toNat)
      case atStart => exact ⟨HBY, HEY, .inl ⟨rfl, HSY2⟩⟩
      case round =>
        obtain ⟨HBW, HE, ⟨rfl, HS⟩ | ⟨rfl, HS⟩ | ⟨rfl, HS⟩⟩ := hrel
        · clear HSY2 HEY HBY
          obtain ⟨⟨e0, e1, e2, e3, e4, e5, e6, e7, e8⟩, f0, f1, f2, f3, f4, f5, f6, f7, f8⟩ := row_two9 HE.out
          obtain ⟨s, HSs⟩ : ∃ s, Hid (s0 = s) := ⟨_, rfl⟩
          have HLs : Hid (s.Low) := (by show St.Low _; rw [← HSs.out]; exact HL0.out)
          rw [HSs.out] at HS
          have HLT : Hid (wx.heap.size + 1 < wr.heap.size) := lt_of_block HE.out
          obtain ⟨bh, hh⟩ : ∃ bh, a.h = bh := ⟨_, rfl⟩
          rw [hh] at e2
          cases bh
          · have HNx : Hid (s0.plus a = s) := (by show _ = _;  rw [HSs.out]; unfold St.plus; rw [hh]; rfl)
            clear hh
            have HB1 : Hid (Below wr.heap.size wr (wr.alloc (.cells #[.int .i64 a.e, .int .i64 a.u, .bool false, .int .i64 a.mn.k, .int .i64 a.mn.n, .string a.mn.s, .int .i64 a.mx.k, .int .i64 a.mx.n, .string a.mx.s] 36))) := (Below.refl _ _).alloc (Nat.le_refl _) _
            go_wp2
            go_roundw
            case rel => exact ⟨HBW.out.trans (HB1.out.mono (by have := HLT.out; omega)), blk_keep HB1.out HE.out, .inr <| .inl ⟨by go_num, by rw [HNx.out]; exact blk_keep HB1.out HS.out⟩⟩
            case measure => simp [intOf]
          · have HNx : Hid (s0.plus a = s.around a.mn a.mx) := (by show _ = _;  rw [HSs.out]; unfold St.plus; rw [hh]; rfl)
            clear hh
            have HB1 : Hid (Below wr.heap.size wr (wr.alloc (.cells #[.int .i64 a.e, .int .i64 a.u, .bool true, .int .i64 a.mn.k, .int .i64 a.mn.n, .string a.mn.s, .int .i64 a.mx.k, .int .i64 a.mx.n, .string a.mx.s] 36))) := (Below.refl _ _).alloc (Nat.le_refl _) _
            have HS1 : Hid _ := blk_keep HB1.out HS.out
            obtain ⟨⟨s0, s1, s2, s3, s4, s5, s6, s7, s8⟩, _⟩ := st_row HS1.out
            go_wp2_with fail
            refine (around_x s a.mn a.mx _ HLs.out ha.1 ha.2).mono ?_
            rintro e w2 ⟨⟨t, HT, rfl⟩, hb2⟩
            have HB2 : Hid (Below wr.heap.size wr w2) := HB1.out.trans (hb2.mono HB1.out.size)
            have HS2 : Hid _ := blk_keep hb2 HS1.out
            clear hb2 s0 s1 s2 s3 s4 s5 s6 s7 s8 e0 e1 e2 e3 e4 e5 e6 e7 e8 f0 f1 f2 f3 f4 f5 f6 f7 f8
            obtain ⟨⟨s0, s1, s2, s3, s4, s5, s6, s7, s8⟩, s9⟩ := st_row HS2.out
            go_wp2
            go_roundw
            case rel =>
              refine ⟨set9_below (HBW.out.trans (HB2.out.mono (by have := HLT.out; omega))) (Nat.le_refl _) _ _ _ _ _ _ _ _ _, set9_other (blk_keep HB2.out HE.out) (by omega) _ _ _ _ _ _ _ _ _, .inr <| .inl ⟨by go_num, ?_⟩⟩
              show _ = _
              rw [HNx.out, ← HT.out]
              exact set9_row HS2.out _ _ _ _ _ _ _ _ _
            case measure => simp [intOf]
        · clear HSY2 HEY HBY
          obtain ⟨⟨e0, e1, e2, e3, e4, e5, e6, e7, e8⟩, f0, f1, f2, f3, f4, f5, f6, f7, f8⟩ := row_two9 HE.out
          obtain ⟨s, HSs⟩ : ∃ s, Hid (s0.plus a = s) := ⟨_, rfl⟩
          have HLs : Hid (s.Low) := (by show St.Low _; rw [← HSs.out]; exact HL1.out)
          rw [HSs.out] at HS
          have HLT : Hid (wx.heap.size + 1 < wr.heap.size) := lt_of_block HE.out
          obtain ⟨bh, hh⟩ : ∃ bh, b.h = bh := ⟨_, rfl⟩
          rw [hh] at f2
          cases bh
          · have HNx : Hid (a.merge b = s) := (by show _ = _; rw [HMg.out];  rw [HSs.out]; unfold St.plus; rw [hh]; rfl)
            clear hh
            have HB1 : Hid (Below wr.heap.size wr (wr.alloc (.cells #[.int .i64 b.e, .int .i64 b.u, .bool false, .int .i64 b.mn.k, .int .i64 b.mn.n, .string b.mn.s, .int .i64 b.mx.k, .int .i64 b.mx.n, .string b.mx.s] 36))) := (Below.refl _ _).alloc (Nat.le_refl _) _
            go_wp2
            go_roundw
            case rel => exact ⟨HBW.out.trans (HB1.out.mono (by have := HLT.out; omega)), blk_keep HB1.out HE.out, .inr <| .inr ⟨by go_num, by rw [HNx.out]; exact blk_keep HB1.out HS.out⟩⟩
            case measure => simp [intOf]
          · have HNx : Hid (a.merge b = s.around b.mn b.mx) := (by show _ = _; rw [HMg.out];  rw [HSs.out]; unfold St.plus; rw [hh]; rfl)
            clear hh
            have HB1 : Hid (Below wr.heap.size wr (wr.alloc (.cells #[.int .i64 b.e, .int .i64 b.u, .bool true, .int .i64 b.mn.k, .int .i64 b.mn.n, .string b.mn.s, .int .i64 b.mx.k, .int .i64 b.mx.n, .string b.mx.s] 36))) := (Below.refl _ _).alloc (Nat.le_refl _) _
            have HS1 : Hid _ := blk_keep HB1.out HS.out
            obtain ⟨⟨s0, s1, s2, s3, s4, s5, s6, s7, s8⟩, _⟩ := st_row HS1.out
            go_wp2_with fail
            refine (around_x s b.mn b.mx _ HLs.out hb.1 hb.2).mono ?_
            rintro e w2 ⟨⟨t, HT, rfl⟩, hb2⟩
            have HB2 : Hid (Below wr.heap.size wr w2) := HB1.out.trans (hb2.mono HB1.out.size)
            have HS2 : Hid _ := blk_keep hb2 HS1.out
            clear hb2 s0 s1 s2 s3 s4 s5 s6 s7 s8 e0 e1 e2 e3 e4 e5 e6 e7 e8 f0 f1 f2 f3 f4 f5 f6 f7 f8
            obtain ⟨⟨s0, s1, s2, s3, s4, s5, s6, s7, s8⟩, s9⟩ := st_row HS2.out
            go_wp2
            go_roundw
            case rel =>
              refine ⟨set9_below (HBW.out.trans (HB2.out.mono (by have := HLT.out; omega))) (Nat.le_refl _) _ _ _ _ _ _ _ _ _, set9_other (blk_keep HB2.out HE.out) (by omega) _ _ _ _ _ _ _ _ _, .inr <| .inr ⟨by go_num, ?_⟩⟩
              show _ = _
              rw [HNx.out, ← HT.out]
              exact set9_row HS2.out _ _ _ _ _ _ _ _ _
            case measure => simp [intOf]
        · clear HL0 HL1 HMg HSY2 HEY HBY
          obtain ⟨s, HSs⟩ : ∃ s, Hid (a.merge b = s) := ⟨_, rfl⟩
          rw [HSs.out] at HS
          obtain ⟨⟨s0, s1, s2, s3, s4, s5, s6, s7, s8⟩, s9⟩ := st_row HS.out
          have HI2 : Hid _ := HI.out.keep HBW.out
          obtain ⟨z1, z2⟩ := row_nine HI2.out.re
          go_wp2
          exact bodyPost_ret (v := .tuple #[s.val, .nilIface]) (results_cR Tryd.results16 _ _ (W.heap.size + 1 + 1) 36 s.cs (0, 0) _ .nilIface rfl rfl (set9_row HI2.out.re _ _ _ _ _ _ _ _ _) Tryd.underlying36 rfl (by kernel_rfl)) rfl ⟨⟨s, _, rfl, .inr ⟨HUB.out, HSs.out.symm, rfl⟩⟩, set9_below HI2.out.old (by omega) _ _ _ _ _ _ _ _ _⟩
    · have hbe := HKE.out _ HI.out.old
      have hgN1 : ¬ (0 = W.heap.size + 1 + 1) := by omega
      go_wp2_with fail
      go_region
      all_goals
        go_wp2
        exact bodyPost_ret (v := .tuple #[St.zero.val, .iface kt kp]) (results_cR Tryd.results16 _ _ (W.heap.size + 1 + 1) 36 #[.int .i64 0, .int .i64 0, .bool false, .int .i64 0, .int .i64 0, .string ⟨#[]⟩, .int .i64 0, .int .i64 0, .string ⟨#[]⟩] (0, 0) _ (.iface kt kp) rfl rfl (blk_drew (set9_row HI.out.re _ _ _ _ _ _ _ _ _)) Tryd.underlying36 rfl (by kernel_rfl)) rfl ⟨⟨St.zero, _, rfl, .inl ⟨HUB.out, rfl, rfl⟩⟩, (set9_below HI.out.old (by omega) _ _ _ _ _ _ _ _ _).drew⟩
end Go.Proofs.YtkcobccmifkjcaaDoor
