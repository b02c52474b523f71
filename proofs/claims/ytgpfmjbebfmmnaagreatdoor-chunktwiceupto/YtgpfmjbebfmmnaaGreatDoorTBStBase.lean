/-
  What is known of values, as nine cells; boxes of it.
  (stats.Stats).around and kind, walked.
  stats.Of, walked.
  Chunks: where records end, how many entries a page has, and a column in two parts: mathematics, without the program.
  The least and the greatest of values.
  chunk.checkColumn: exact.
  chunk.recordEnd, chunk.pageSize: exact.
  Columns that stay where they lie while other rows grow; marks in a row of the call's own.
  chunk.pageSize: exact.
  What the boxes of a law over a leaf and a column hold.
  Marks in a cell of the call's own.
  Columns and leaves that came in, and how bulky they are.
  slim of stage 9's laws.
-/
import Derived.Test.YtgpfmjbebfmmnaaGreatDoorTBColS
import Derived.Test.YtgpfmjbebfmmnaaGreatDoorTBTree
import Derived.Deep.DeepCutAuto
import Derived.Deep.RegionHeld3
import Derived.Test.YtgpfmjbebfmmnaaGreatDoorTBColB
import Derived.Test.YtgpfmjbebfmmnaaGreatDoorTBRefVals
import Derived.Test.YtgpfmjbebfmmnaaGreatDoorTOpenNode
namespace Go.Proofs.YtgpfmjbebfmmnaaGreatDoor
open Go.RowKit
def Vl.val (v : Vl) : Value := .agg #[.int .i64 v.k, .int .i64 v.n, .string v.s]
def Vl.zero : Vl := ⟨0, 0, ⟨#[]⟩⟩
/-- What is known of values. -/
structure St where
  e : Int
  u : Int
  h : Bool
  mn : Vl
  mx : Vl
def St.cs (s : St) : Array Value := #[.int .i64 s.e, .int .i64 s.u, .bool s.h, .int .i64 s.mn.k, .int .i64 s.mn.n, .string s.mn.s, .int .i64 s.mx.k, .int .i64 s.mx.n, .string s.mx.s]
def St.val (s : St) : Value := .agg s.cs
def St.zero : St := ⟨0, 0, false, Vl.zero, Vl.zero⟩
def Vl.Low (v : Vl) : Prop := -9223372036854775808 ≤ v.n
def St.Low (s : St) : Prop := s.mn.Low ∧ s.mx.Low
def lss (a b : Vl) : Bool := vless a.k a.n a.s b.k b.n b.s
/-- around, as a function. -/
def St.around (s : St) (l g : Vl) : St := ⟨s.e, s.u, true, if !s.h || lss l s.mn then l else s.mn, if !s.h || lss s.mx g then g else s.mx⟩
theorem row_nine {w : World} {g t : Nat} {x0 x1 x2 x3 x4 x5 x6 x7 x8 : Value} (h : w.heap[g]? = some (.cells #[x0, x1, x2, x3, x4, x5, x6, x7, x8] t (0, 0))) :
    (w.cell? ⟨g, 0, none⟩ = some x0 ∧ w.cell? ⟨g, 1, none⟩ = some x1 ∧ w.cell? ⟨g, 2, none⟩ = some x2 ∧ w.cell? ⟨g, 3, none⟩ = some x3 ∧ w.cell? ⟨g, 4, none⟩ = some x4 ∧ w.cell? ⟨g, 5, none⟩ = some x5 ∧ w.cell? ⟨g, 6, none⟩ = some x6 ∧ w.cell? ⟨g, 7, none⟩ = some x7 ∧ w.cell? ⟨g, 8, none⟩ = some x8) ∧
    w.frozen? ⟨g, 0, none⟩ = false ∧ w.frozen? ⟨g, 1, none⟩ = false ∧ w.frozen? ⟨g, 2, none⟩ = false ∧ w.frozen? ⟨g, 3, none⟩ = false ∧ w.frozen? ⟨g, 4, none⟩ = false ∧ w.frozen? ⟨g, 5, none⟩ = false ∧ w.frozen? ⟨g, 6, none⟩ = false ∧ w.frozen? ⟨g, 7, none⟩ = false ∧ w.frozen? ⟨g, 8, none⟩ = false := by
  refine ⟨⟨?_, ?_, ?_, ?_, ?_, ?_, ?_, ?_, ?_⟩, ?_, ?_, ?_, ?_, ?_, ?_, ?_, ?_, ?_⟩ <;> first | simp [World.frozen?, h] | simp [World.cell?, h]
theorem st_row {w : World} {g : Nat} {s : St} {t : Nat} (h : w.heap[g]? = some (.cells s.cs t (0, 0))) :
    (w.cell? ⟨g, 0, none⟩ = some (.int .i64 s.e) ∧ w.cell? ⟨g, 1, none⟩ = some (.int .i64 s.u) ∧ w.cell? ⟨g, 2, none⟩ = some (.bool s.h) ∧ w.cell? ⟨g, 3, none⟩ = some (.int .i64 s.mn.k) ∧ w.cell? ⟨g, 4, none⟩ = some (.int .i64 s.mn.n) ∧ w.cell? ⟨g, 5, none⟩ = some (.string s.mn.s) ∧ w.cell? ⟨g, 6, none⟩ = some (.int .i64 s.mx.k) ∧ w.cell? ⟨g, 7, none⟩ = some (.int .i64 s.mx.n) ∧ w.cell? ⟨g, 8, none⟩ = some (.string s.mx.s)) ∧
    w.frozen? ⟨g, 0, none⟩ = false ∧ w.frozen? ⟨g, 1, none⟩ = false ∧ w.frozen? ⟨g, 2, none⟩ = false ∧ w.frozen? ⟨g, 3, none⟩ = false ∧ w.frozen? ⟨g, 4, none⟩ = false ∧ w.frozen? ⟨g, 5, none⟩ = false ∧ w.frozen? ⟨g, 6, none⟩ = false ∧ w.frozen? ⟨g, 7, none⟩ = false ∧ w.frozen? ⟨g, 8, none⟩ = false := row_nine h
/-- Nine cells of a box are written. -/
def set9 (w : World) (g : Nat) (y0 y1 y2 y3 y4 y5 y6 y7 y8 : Value) : World := ((((((((w.setCell ⟨g, 0, none⟩ y0).setCell ⟨g, 1, none⟩ y1).setCell ⟨g, 2, none⟩ y2).setCell ⟨g, 3, none⟩ y3).setCell ⟨g, 4, none⟩ y4).setCell ⟨g, 5, none⟩ y5).setCell ⟨g, 6, none⟩ y6).setCell ⟨g, 7, none⟩ y7).setCell ⟨g, 8, none⟩ y8
theorem set9_row {w : World} {g t : Nat} {x0 x1 x2 x3 x4 x5 x6 x7 x8 : Value} (h : w.heap[g]? = some (.cells #[x0, x1, x2, x3, x4, x5, x6, x7, x8] t (0, 0))) (y0 y1 y2 y3 y4 y5 y6 y7 y8 : Value) :
    (set9 w g y0 y1 y2 y3 y4 y5 y6 y7 y8).heap[g]? = some (.cells #[y0, y1, y2, y3, y4, y5, y6, y7, y8] t (0, 0)) := by
  have h0 : (w.setCell ⟨g, 0, none⟩ y0).heap[g]? = some (.cells #[y0, x1, x2, x3, x4, x5, x6, x7, x8] t (0, 0)) := row_setCell h y0
  have h1 : ((w.setCell ⟨g, 0, none⟩ y0).setCell ⟨g, 1, none⟩ y1).heap[g]? = some (.cells #[y0, y1, x2, x3, x4, x5, x6, x7, x8] t (0, 0)) := row_setCell h0 y1
  have h2 : (((w.setCell ⟨g, 0, none⟩ y0).setCell ⟨g, 1, none⟩ y1).setCell ⟨g, 2, none⟩ y2).heap[g]? = some (.cells #[y0, y1, y2, x3, x4, x5, x6, x7, x8] t (0, 0)) := row_setCell h1 y2
  have h3 : ((((w.setCell ⟨g, 0, none⟩ y0).setCell ⟨g, 1, none⟩ y1).setCell ⟨g, 2, none⟩ y2).setCell ⟨g, 3, none⟩ y3).heap[g]? = some (.cells #[y0, y1, y2, y3, x4, x5, x6, x7, x8] t (0, 0)) := row_setCell h2 y3
  have h4 : (((((w.setCell ⟨g, 0, none⟩ y0).setCell ⟨g, 1, none⟩ y1).setCell ⟨g, 2, none⟩ y2).setCell ⟨g, 3, none⟩ y3).setCell ⟨g, 4, none⟩ y4).heap[g]? = some (.cells #[y0, y1, y2, y3, y4, x5, x6, x7, x8] t (0, 0)) := row_setCell h3 y4
  have h5 : ((((((w.setCell ⟨g, 0, none⟩ y0).setCell ⟨g, 1, none⟩ y1).setCell ⟨g, 2, none⟩ y2).setCell ⟨g, 3, none⟩ y3).setCell ⟨g, 4, none⟩ y4).setCell ⟨g, 5, none⟩ y5).heap[g]? = some (.cells #[y0, y1, y2, y3, y4, y5, x6, x7, x8] t (0, 0)) := row_setCell h4 y5
  have h6 : (((((((w.setCell ⟨g, 0, none⟩ y0).setCell ⟨g, 1, none⟩ y1).setCell ⟨g, 2, none⟩ y2).setCell ⟨g, 3, none⟩ y3).setCell ⟨g, 4, none⟩ y4).setCell ⟨g, 5, none⟩ y5).setCell ⟨g, 6, none⟩ y6).heap[g]? = some (.cells #[y0, y1, y2, y3, y4, y5, y6, x7, x8] t (0, 0)) := row_setCell h5 y6
  have h7 : ((((((((w.setCell ⟨g, 0, none⟩ y0).setCell ⟨g, 1, none⟩ y1).setCell ⟨g, 2, none⟩ y2).setCell ⟨g, 3, none⟩ y3).setCell ⟨g, 4, none⟩ y4).setCell ⟨g, 5, none⟩ y5).setCell ⟨g, 6, none⟩ y6).setCell ⟨g, 7, none⟩ y7).heap[g]? = some (.cells #[y0, y1, y2, y3, y4, y5, y6, y7, x8] t (0, 0)) := row_setCell h6 y7
  have h8 : (((((((((w.setCell ⟨g, 0, none⟩ y0).setCell ⟨g, 1, none⟩ y1).setCell ⟨g, 2, none⟩ y2).setCell ⟨g, 3, none⟩ y3).setCell ⟨g, 4, none⟩ y4).setCell ⟨g, 5, none⟩ y5).setCell ⟨g, 6, none⟩ y6).setCell ⟨g, 7, none⟩ y7).setCell ⟨g, 8, none⟩ y8).heap[g]? = some (.cells #[y0, y1, y2, y3, y4, y5, y6, y7, y8] t (0, 0)) := row_setCell h7 y8
  exact h8
theorem set9_below {B g : Nat} {w X : World} (h : Below B w X) (hg : B ≤ g) (y0 y1 y2 y3 y4 y5 y6 y7 y8 : Value) : Below B w (set9 X g y0 y1 y2 y3 y4 y5 y6 y7 y8) :=
  ((((((((h.setCell hg _).setCell hg _).setCell hg _).setCell hg _).setCell hg _).setCell hg _).setCell hg _).setCell hg _).setCell hg _
theorem four_boxes (W : World) (c1 c2 c3 c4 : Array Value) (t1 t2 t3 t4 : TypeId) : ∃ w0, Hid ((((W.alloc (.cells c1 t1)).alloc (.cells c2 t2)).alloc (.cells c3 t3)).alloc (.cells c4 t4) = w0) ∧ Hid (w0.heap[W.heap.size]? = some (.cells c1 t1 (0, 0))) ∧ Hid (w0.heap[W.heap.size + 1]? = some (.cells c2 t2 (0, 0))) ∧ Hid (w0.heap[W.heap.size + 1 + 1]? = some (.cells c3 t3 (0, 0))) ∧ Hid (w0.heap[W.heap.size + 1 + 1 + 1]? = some (.cells c4 t4 (0, 0))) ∧ Hid (Below W.heap.size W w0) := by
  obtain ⟨w0, H, H1, H2, H3, HB⟩ := three_boxes W c1 c2 c3 t1 t2 t3
  have hs : w0.heap.size = W.heap.size + 1 + 1 + 1 := by rw [← H.out]; simp
  refine ⟨w0.alloc (.cells c4 t4), by show _ = _; rw [H.out], blk_alloc H1.out, blk_alloc H2.out, blk_alloc H3.out, ?_, HB.out.alloc HB.out.size _⟩
  have h := heap_alloc_new w0 (.cells c4 t4)
  rw [hs] at h
  exact h
end Go.Proofs.YtgpfmjbebfmmnaaGreatDoor

namespace Go.Proofs.YtgpfmjbebfmmnaaGreatDoor
open Go.RowKit
/-- What around's boxes hold. -/
structure ArI (W : World) (s : St) (l g : Vl) (X : World) : Prop where
  st : X.heap[W.heap.size]? = some (.cells s.cs 54 (0, 0))
  lo : X.heap[W.heap.size + 1]? = some (.cells #[.int .i64 l.k, .int .i64 l.n, .string l.s] 52 (0, 0))
  hi : X.heap[W.heap.size + 1 + 1]? = some (.cells #[.int .i64 g.k, .int .i64 g.n, .string g.s] 52 (0, 0))
  re : X.heap[W.heap.size + 1 + 1 + 1]? = some (.cells #[.int .i64 0, .int .i64 0, .bool false, .int .i64 0, .int .i64 0, .string ⟨#[]⟩, .int .i64 0, .int .i64 0, .string ⟨#[]⟩] 54 (0, 0))
  old : Below W.heap.size W X
theorem ArI.keep {W : World} {s : St} {l g : Vl} {X w' : World} (h : ArI W s l g X) (hb : Below X.heap.size X w') : ArI W s l g w' :=
  ⟨blk_keep hb h.st, blk_keep hb h.lo, blk_keep hb h.hi, blk_keep hb h.re, h.old.trans (hb.mono h.old.size)⟩
theorem ArI.put {W : World} {s s' : St} {l g : Vl} {X w' : World} (h : ArI W s l g X) (h0 : w'.heap[W.heap.size]? = some (.cells s'.cs 54 (0, 0))) (hr : ∀ b o, b ≠ W.heap.size → X.heap[b]? = some o → w'.heap[b]? = some o) (hb : Below W.heap.size X w') : ArI W s' l g w' :=
  ⟨h0, hr _ _ (by omega) h.lo, hr _ _ (by omega) h.hi, hr _ _ (by omega) h.re, h.old.trans hb⟩
theorem ArI.setMn {W : World} {s : St} {l g : Vl} {X : World} (h : ArI W s l g X) : ArI W { s with mn := l } l g (((X.setCell ⟨W.heap.size, 3, none⟩ (.int .i64 l.k)).setCell ⟨W.heap.size, 4, none⟩ (.int .i64 l.n)).setCell ⟨W.heap.size, 5, none⟩ (.string l.s)) :=
  h.put (row_setCell (row_setCell (row_setCell h.st _) _) _) (fun b o hn hx => blk_other (blk_other (blk_other hx hn _) hn _) hn _) ((((Below.refl _ _).setCell (by simp) _).setCell (by simp) _).setCell (by simp) _)
theorem ArI.setMx {W : World} {s : St} {l g : Vl} {X : World} (h : ArI W s l g X) : ArI W { s with mx := g } l g (((X.setCell ⟨W.heap.size, 6, none⟩ (.int .i64 g.k)).setCell ⟨W.heap.size, 7, none⟩ (.int .i64 g.n)).setCell ⟨W.heap.size, 8, none⟩ (.string g.s)) :=
  h.put (row_setCell (row_setCell (row_setCell h.st _) _) _) (fun b o hn hx => blk_other (blk_other (blk_other hx hn _) hn _) hn _) ((((Below.refl _ _).setCell (by simp) _).setCell (by simp) _).setCell (by simp) _)
theorem ArI.setH {W : World} {s : St} {l g : Vl} {X : World} (h : ArI W s l g X) : ArI W { s with h := true } l g (X.setCell ⟨W.heap.size, 2, none⟩ (.bool true)) :=
  h.put (row_setCell h.st _) (fun b o hn hx => blk_other hx hn _) ((Below.refl _ _).setCell (by simp) _)
set_option maxRecDepth 100000 in
set_option maxHeartbeats 1600000 in
/-- From behind the two tests on: Has is set, and all is handed out. -/
theorem around_any (s : St) (l g : Vl) (W : World) (hs : s.Low) (hl : l.Low) (hg : g.Low) :
    Calls Tryz.prog 64 #[s.val, l.val, g.val] W fun e w' => e = .returned (s.around l g).val ∧ Below W.heap.size W w' := by
  obtain ⟨w0, HW0, H1, H2, H3, H4, HB⟩ := four_boxes W s.cs #[.int .i64 l.k, .int .i64 l.n, .string l.s] #[.int .i64 g.k, .int .i64 g.n, .string g.s] #[.int .i64 0, .int .i64 0, .bool false, .int .i64 0, .int .i64 0, .string ⟨#[]⟩, .int .i64 0, .int .i64 0, .string ⟨#[]⟩] 54 52 52 54
  have HI : Hid (ArI W s l g w0) := ⟨H1.out, H2.out, H3.out, H4.out, HB.out⟩
  clear H1 H2 H3 H4 HB
  obtain ⟨h1, h2⟩ := hs
  unfold Vl.Low at h1 h2 hl hg
  have HE : Hid (∀ (t : St) (X : World), ArI W t l g X → (set9 X (W.heap.size + 1 + 1 + 1) (.int .i64 t.e) (.int .i64 t.u) (.bool t.h) (.int .i64 t.mn.k) (.int .i64 t.mn.n) (.string t.mn.s) (.int .i64 t.mx.k) (.int .i64 t.mx.n) (.string t.mx.s)).heap[W.heap.size + 1 + 1 + 1]? = some (.cells t.cs 54 (0, 0)) ∧ Below W.heap.size W (set9 X (W.heap.size + 1 + 1 + 1) (.int .i64 t.e) (.int .i64 t.u) (.bool t.h) (.int .i64 t.mn.k) (.int .i64 t.mn.n) (.string t.mn.s) (.int .i64 t.mx.k) (.int .i64 t.mx.n) (.string t.mx.s))) := fun t X hX =>
    ⟨set9_row hX.re _ _ _ _ _ _ _ _ _, set9_below hX.old (by omega) _ _ _ _ _ _ _ _ _⟩
  unfold St.cs at HW0
  obtain ⟨se, su, sh, sm, sx⟩ := s
  show Calls Tryz.prog 64 #[.agg #[.int .i64 se, .int .i64 su, .bool sh, .int .i64 sm.k, .int .i64 sm.n, .string sm.s, .int .i64 sx.k, .int .i64 sx.n, .string sx.s], .agg #[.int .i64 l.k, .int .i64 l.n, .string l.s], .agg #[.int .i64 g.k, .int .i64 g.n, .string g.s]] W fun e w' => e = .returned (St.around ⟨se, su, sh, sm, sx⟩ l g).val ∧ Below W.heap.size W w'
  go_enter Tryz.func64, Tryz.ntmps64
  obtain ⟨z1, z2⟩ := row_nine HI.out.re
  cases sh
  · obtain ⟨p1, p2⟩ := st_row HI.out.st
    obtain ⟨a0, a1, a2⟩ := row_three HI.out.lo
    obtain ⟨b0, b1, b2⟩ := row_three HI.out.hi
    go_upto_region 1 with fail
    rw [HW0.out]
    go_wp2
    have ht : (⟨se, su, true, l, g⟩ : St) = St.around ⟨se, su, false, sm, sx⟩ l g := rfl
    rw [← ht]
    have h := HE.out _ _ (ArI.setH (ArI.setMx (ArI.setMn HI.out)))
    exact bodyPost_ret (v := .agg (St.cs ⟨se, su, true, l, g⟩)) (results_cell_row Tryz.results64 _ _ (W.heap.size + 1 + 1 + 1) 54 (St.cs ⟨se, su, true, l, g⟩) (0, 0) _ rfl h.1 Tryz.underlying54 rfl (by kernel_rfl)) rfl ⟨rfl, h.2⟩
  · go_wp2_with fail
    rw [HW0.out]
    refine (less_any l.k l.n l.s sm.k sm.n sm.s w0 hl h1).mono ?_
    obtain ⟨b1, HB1⟩ : ∃ b, Hid (vless l.k l.n l.s sm.k sm.n sm.s = b) := ⟨_, rfl⟩
    obtain ⟨b2, HB2⟩ : ∃ b, Hid (vless sx.k sx.n sx.s g.k g.n g.s = b) := ⟨_, rfl⟩
    rw [HB1.out]
    rintro e w1 ⟨rfl, hb1⟩
    have HI1 : Hid _ := HI.out.keep hb1
    clear HI HW0 z1 z2 hb1
    obtain ⟨p1, p2⟩ := st_row HI1.out.st
    obtain ⟨a0, a1, a2⟩ := row_three HI1.out.lo
    obtain ⟨d0, d1, d2⟩ := row_three HI1.out.hi
    obtain ⟨z1, z2⟩ := row_nine HI1.out.re
    have HT : Hid (∀ m x, (if b1 = true then l else sm) = m → (if b2 = true then g else sx) = x → (⟨se, su, true, m, x⟩ : St) = St.around ⟨se, su, true, sm, sx⟩ l g) := fun m x hm hx => by
      subst hm hx
      simp [St.around, lss, HB1.out, HB2.out]
    clear HB1
    cases b1
    all_goals
      go_wp2_with fail
      refine (less_any sx.k sx.n sx.s g.k g.n g.s _ h2 hg).mono ?_
      rw [HB2.out]
      rintro e w2 ⟨rfl, hb2⟩
    · have HI2 : Hid _ := HI1.out.keep hb2
      clear HI1 p1 p2 a0 a1 a2 d0 d1 d2 z1 z2 hb2 HB2
      obtain ⟨p1, p2⟩ := st_row HI2.out.st
      obtain ⟨a0, a1, a2⟩ := row_three HI2.out.lo
      obtain ⟨d0, d1, d2⟩ := row_three HI2.out.hi
      obtain ⟨z1, z2⟩ := row_nine HI2.out.re
      cases b2
      · go_wp2
        rw [← HT.out _ _ rfl rfl]
        have h := HE.out _ _ (ArI.setH HI2.out)
        exact bodyPost_ret (v := .agg (St.cs ⟨se, su, true, sm, sx⟩)) (results_cell_row Tryz.results64 _ _ (W.heap.size + 1 + 1 + 1) 54 (St.cs ⟨se, su, true, sm, sx⟩) (0, 0) _ rfl h.1 Tryz.underlying54 rfl (by kernel_rfl)) rfl ⟨rfl, h.2⟩
      · go_wp2
        rw [← HT.out _ _ rfl rfl]
        have h := HE.out _ _ (ArI.setH (ArI.setMx HI2.out))
        exact bodyPost_ret (v := .agg (St.cs ⟨se, su, true, sm, g⟩)) (results_cell_row Tryz.results64 _ _ (W.heap.size + 1 + 1 + 1) 54 (St.cs ⟨se, su, true, sm, g⟩) (0, 0) _ rfl h.1 Tryz.underlying54 rfl (by kernel_rfl)) rfl ⟨rfl, h.2⟩
    · have HI2 : Hid _ := (ArI.setMn HI1.out).keep hb2
      clear HI1 p1 p2 a0 a1 a2 d0 d1 d2 z1 z2 hb2 HB2
      obtain ⟨p1, p2⟩ := st_row HI2.out.st
      obtain ⟨a0, a1, a2⟩ := row_three HI2.out.lo
      obtain ⟨d0, d1, d2⟩ := row_three HI2.out.hi
      obtain ⟨z1, z2⟩ := row_nine HI2.out.re
      cases b2
      · go_wp2
        rw [← HT.out _ _ rfl rfl]
        have h := HE.out _ _ (ArI.setH HI2.out)
        exact bodyPost_ret (v := .agg (St.cs ⟨se, su, true, l, sx⟩)) (results_cell_row Tryz.results64 _ _ (W.heap.size + 1 + 1 + 1) 54 (St.cs ⟨se, su, true, l, sx⟩) (0, 0) _ rfl h.1 Tryz.underlying54 rfl (by kernel_rfl)) rfl ⟨rfl, h.2⟩
      · go_wp2
        rw [← HT.out _ _ rfl rfl]
        have h := HE.out _ _ (ArI.setH (ArI.setMx HI2.out))
        exact bodyPost_ret (v := .agg (St.cs ⟨se, su, true, l, g⟩)) (results_cell_row Tryz.results64 _ _ (W.heap.size + 1 + 1 + 1) 54 (St.cs ⟨se, su, true, l, g⟩) (0, 0) _ rfl h.1 Tryz.underlying54 rfl (by kernel_rfl)) rfl ⟨rfl, h.2⟩
theorem around_x (s : St) (l g : Vl) (W : World) (hs : s.Low) (hl : l.Low) (hg : g.Low) :
    Calls Tryz.prog 64 #[.agg #[.int .i64 s.e, .int .i64 s.u, .bool s.h, .int .i64 s.mn.k, .int .i64 s.mn.n, .string s.mn.s, .int .i64 s.mx.k, .int .i64 s.mx.n, .string s.mx.s], .agg #[.int .i64 l.k, .int .i64 l.n, .string l.s], .agg #[.int .i64 g.k, .int .i64 g.n, .string g.s]] W fun e w' => (∃ t : St, Hid (t = s.around l g) ∧ e = .returned (.agg #[.int .i64 t.e, .int .i64 t.u, .bool t.h, .int .i64 t.mn.k, .int .i64 t.mn.n, .string t.mn.s, .int .i64 t.mx.k, .int .i64 t.mx.n, .string t.mx.s])) ∧ Below W.heap.size W w' :=
  (around_any s l g W hs hl hg).mono fun _ _ h => ⟨⟨s.around l g, rfl, h.1⟩, h.2⟩
set_option maxRecDepth 100000 in
theorem kindS_any (s : St) (W : World) : Calls Tryz.prog 158 #[s.val] W fun e w' => e = .returned (.int .i64 s.mn.k) ∧ Below W.heap.size W w' := by
  unfold St.val St.cs
  go_enter Tryz.func158, Tryz.ntmps158
  go_wp2
  go_ret
  exact ⟨rfl, (Below.refl _ _).alloc (Nat.le_refl _) _⟩
end Go.Proofs.YtgpfmjbebfmmnaaGreatDoor

namespace Go.Proofs.YtgpfmjbebfmmnaaGreatDoor
open Go.RowKit
def zCl : Cl := ⟨0, none, [], 0, none, [], 0, none, [], 0⟩
/-- What Part of all records answers. -/
def PaR (N : Nat) (lid kind mr md : Int) (c : Cl) (sv kv : Value) (k : Cl) (ev : Value) (w : World) : Prop :=
  ((isLfB kind mr md && fitB lid mr md c.id c.rs c.ds c.vs.length) = false ∧ k = zCl ∧ ev = sv) ∨
  ((isLfB kind mr md && fitB lid mr md c.id c.rs c.ds c.vs.length) = true ∧ (∃ p : Nat, ∃ hp : p < c.vs.length, badV kind c.vs[p] = true ∧ (∀ j (h : j < c.vs.length), j < p → badV kind c.vs[j] = false) ∧ ∃ q, N ≤ q ∧ k = zCl ∧ ev = .iface 96 (.pointer (some ⟨q, 0, none⟩)) ∧ w.cell? ⟨q, 0, none⟩ = some (.int .i64 p) ∧ w.cell? ⟨q, 1, none⟩ = some kv)) ∨
  (GoodC lid kind mr md c ∧ ev = .nilIface ∧ k.At w ∧ k.Fr N ∧ k.rs = c.rs ∧ k.ds = c.ds ∧ k.vs = c.vs)
theorem PaR.off {N : Nat} {lid kind mr md : Int} {c : Cl} {sv kv : Value} {k : Cl} {ev : Value} {w : World} (h : PaR N lid kind mr md c sv kv k ev w) {g j : Nat} {v : Value} (hg : g < N) : PaR N lid kind mr md c sv kv k ev (w.setCell ⟨g, j, none⟩ v) := by
  rcases h with h | ⟨h0, p, hp, h1, h2, q, h3, h4, h5, h6, h7⟩ | ⟨h1, h2, h3, h4, h5⟩
  · exact .inl h
  · exact .inr (.inl ⟨h0, p, hp, h1, h2, q, h3, h4, h5, by rw [cell_off (by omega)]; exact h6, by rw [cell_off (by omega)]; exact h7⟩)
  · exact .inr (.inr ⟨h1, h2, h3.off h4 hg, h4, h5⟩)
theorem PaR.keep {N : Nat} {lid kind mr md : Int} {c : Cl} {sv kv : Value} {k : Cl} {ev : Value} {w w' : World} (h : PaR N lid kind mr md c sv kv k ev w) (hb : Below w.heap.size w w') : PaR N lid kind mr md c sv kv k ev w' := by
  rcases h with h | ⟨h0, p, hp, h1, h2, q, h3, h4, h5, h6, h7⟩ | ⟨h1, h2, h3, h4, h5⟩
  · exact .inl h
  · exact .inr (.inl ⟨h0, p, hp, h1, h2, q, h3, h4, h5, (hb.cell (World.block_lt_of_cell? w _ h6)).trans h6, (hb.cell (World.block_lt_of_cell? w _ h7)).trans h7⟩)
  · exact .inr (.inr ⟨h1, h2, h3.keep hb, h4, h5⟩)
theorem PaR.low {N M : Nat} {lid kind mr md : Int} {c : Cl} {sv kv : Value} {k : Cl} {ev : Value} {w : World} (h : PaR N lid kind mr md c sv kv k ev w) (hm : M ≤ N) : PaR M lid kind mr md c sv kv k ev w := by
  rcases h with h | ⟨h0, p, hp, h1, h2, q, h3, h4⟩ | ⟨h1, h2, h3, h4, h5⟩
  · exact .inl h
  · exact .inr (.inl ⟨h0, p, hp, h1, h2, q, Nat.le_trans hm h3, h4⟩)
  · exact .inr (.inr ⟨h1, h2, h3, h4.low hm, h5⟩)
theorem stAt_zero {rs : List Int} {a : Nat} (hh : headB rs = false) (h : StAt rs 0 a) : a = 0 := by
  rcases Nat.eq_zero_or_pos a with h0 | h0
  · exact h0
  · exfalso
    have h1 := h.2.1 0 h0
    have hl := h.1
    match rs, hh, h1, hl with
    | [], _, _, hl => simp at hl; omega
    | x :: xs, hh, h1, _ =>
      have hx : x = 0 := by unfold headB at hh; simpa using hh
      subst hx
      simp [cntE] at h1
theorem stAt_all {rs : List Int} {b : Nat} (h : StAt rs (cntE 0 rs : Nat) b) : b = rs.length := by
  rcases Nat.lt_or_ge b rs.length with h0 | h0
  · exfalso
    have h1 := h.2.2 h0
    have h2 := cntE_all 0 rs (b + 1)
    omega
  · have := h.1; omega
theorem cutL_all {α : Type} (l : List α) (n : Nat) (h : n = l.length) : cutL l 0 n = l := by subst h; simp [cutL]
theorem part_all (lid kind mr md : Int) (pa : Option Addr) (pn pc : Nat) (c : Cl) (W : World) (st kt bt : TypeId) (sp kp bp : Value)
    (hn : c.rs.length ≤ 1048576) (hn2 : c.ds.length ≤ 1048576) (hv : c.vs.length ≤ 1048576) (hcr : c.rs.length ≤ c.rc) (hcd : c.ds.length ≤ c.dc) (hcv : c.vs.length ≤ c.vc)
    (hs : W.cell? ⟨0, 0, none⟩ = some (.iface st sp)) (hk : W.cell? ⟨3, 0, none⟩ = some (.iface kt kp)) (hbd : W.cell? ⟨1, 0, none⟩ = some (.iface bt bp)) (hat : c.At W) :
    Calls Tryz.prog 46 #[leafV lid kind mr md pa pn pc, c.val, .int .i64 0, .int .i64 (cntE 0 c.rs : Nat)] W fun e w' => (∃ (k : Cl) (ev : Value), e = .returned (.tuple #[.agg #[.int .i64 k.id, .slice k.ra k.rs.length k.rc, .slice k.da k.ds.length k.dc, .slice k.va k.vs.length k.vc], ev]) ∧ PaR W.heap.size lid kind mr md c (.iface st sp) (.iface kt kp) k ev w') ∧ Below W.heap.size W w' := by
  refine (part_any lid kind mr md 0 (cntE 0 c.rs : Nat) pa pn pc c W st kt bt sp kp bp hn hn2 hv hcr hcd hcv hs hk hbd hat).mono ?_
  rintro e w' ⟨h, hb⟩
  refine ⟨?_, hb⟩
  rcases h with (⟨h1, rfl⟩ | ⟨h1, p, hp, h2, h3, q, h4, rfl, h5, h6⟩) | ⟨_, h, _⟩ | ⟨hg, _, k, a, b, rfl, hk1, hk2, ha, hb2, _, e1, e2, e3⟩
  · exact ⟨zCl, _, rfl, .inl ⟨h1, rfl, rfl⟩⟩
  · exact ⟨zCl, _, rfl, .inr (.inl ⟨h1, p, hp, h2, h3, q, h4, rfl, rfl, h5, h6⟩)⟩
  · exact absurd (⟨by omega, by omega, by omega⟩) h
  · have hf := hg.1
    rw [Bool.and_eq_true, fitB_iff] at hf
    obtain ⟨_, _, f2, f3, _, _, f6⟩ := hf
    obtain rfl := stAt_zero f3 ha
    obtain rfl := stAt_all hb2
    refine ⟨k, .nilIface, rfl, .inr (.inr ⟨hg, rfl, hk1, hk2, ?_, ?_, ?_⟩)⟩
    · rw [e1, cutL_all _ _ rfl]
    · rw [e2, cutL_all _ _ f2]
    · rw [e3, f2, List.take_length, List.take_zero, show cntE md [] = 0 from rfl, cutL_all _ _ f6.symm]
/-- Of, as a function. -/
def ofC (c : Cl) : St := c.vs.foldl (fun s v => s.around v v) ⟨(c.rs.length : Nat), (c.rs.length : Int) - (c.vs.length : Nat), false, Vl.zero, Vl.zero⟩
/-- What Of answers. -/
def OfR (N : Nat) (lid kind mr md : Int) (c : Cl) (sv kv : Value) (s : St) (ev : Value) (w : World) : Prop :=
  ((isLfB kind mr md && fitB lid mr md c.id c.rs c.ds c.vs.length) = false ∧ s = St.zero ∧ ev = sv) ∨
  ((isLfB kind mr md && fitB lid mr md c.id c.rs c.ds c.vs.length) = true ∧ (∃ p : Nat, ∃ hp : p < c.vs.length, badV kind c.vs[p] = true ∧ (∀ j (h : j < c.vs.length), j < p → badV kind c.vs[j] = false) ∧ ∃ q, N ≤ q ∧ s = St.zero ∧ ev = .iface 96 (.pointer (some ⟨q, 0, none⟩)) ∧ w.cell? ⟨q, 0, none⟩ = some (.int .i64 p) ∧ w.cell? ⟨q, 1, none⟩ = some kv)) ∨
  (GoodC lid kind mr md c ∧ ev = .nilIface ∧ s = ofC c)
/-- What Of's boxes hold. -/
structure OfI (W : World) (lid kind mr md : Int) (pa : Option Addr) (pn pc : Nat) (c : Cl) (X : World) : Prop where
  lf : X.heap[W.heap.size]? = some (.cells #[.int .i64 lid, .int .i64 kind, .int .i64 mr, .int .i64 md, .slice pa pn pc] 39 (0, 0))
  co : X.heap[W.heap.size + 1]? = some (.cells #[.int .i64 c.id, .slice c.ra c.rs.length c.rc, .slice c.da c.ds.length c.dc, .slice c.va c.vs.length c.vc] 27 (0, 0))
  re : X.heap[W.heap.size + 1 + 1]? = some (.cells #[.int .i64 0, .int .i64 0, .bool false, .int .i64 0, .int .i64 0, .string ⟨#[]⟩, .int .i64 0, .int .i64 0, .string ⟨#[]⟩] 54 (0, 0))
  old : Below W.heap.size W X
theorem OfI.keep {W : World} {lid kind mr md : Int} {pa : Option Addr} {pn pc : Nat} {c : Cl} {X w' : World} (h : OfI W lid kind mr md pa pn pc c X) (hb : Below X.heap.size X w') : OfI W lid kind mr md pa pn pc c w' :=
  ⟨blk_keep hb h.lf, blk_keep hb h.co, blk_keep hb h.re, h.old.trans (hb.mono h.old.size)⟩
theorem OfI.put {W : World} {lid kind mr md : Int} {pa : Option Addr} {pn pc : Nat} {c : Cl} {X : World} (h : OfI W lid kind mr md pa pn pc c X) (k : Cl) : OfI W lid kind mr md pa pn pc k ((((X.setCell ⟨W.heap.size + 1, 0, none⟩ (.int .i64 k.id)).setCell ⟨W.heap.size + 1, 1, none⟩ (.slice k.ra k.rs.length k.rc)).setCell ⟨W.heap.size + 1, 2, none⟩ (.slice k.da k.ds.length k.dc)).setCell ⟨W.heap.size + 1, 3, none⟩ (.slice k.va k.vs.length k.vc)) :=
  ⟨blk_other (blk_other (blk_other (blk_other h.lf (by omega) _) (by omega) _) (by omega) _) (by omega) _, row_setCell (row_setCell (row_setCell (row_setCell h.co _) _) _) _, blk_other (blk_other (blk_other (blk_other h.re (by omega) _) (by omega) _) (by omega) _) (by omega) _, (((h.old.setCell (by simp) _).setCell (by simp) _).setCell (by simp) _).setCell (by simp) _⟩
/-- Of, up to a value. -/
def ofK (c : Cl) (i : Nat) : St := (c.vs.take i).foldl (fun s v => s.around v v) ⟨(c.rs.length : Nat), (c.rs.length : Int) - (c.vs.length : Nat), false, Vl.zero, Vl.zero⟩
theorem ofK_succ (c : Cl) {i : Nat} (h : i < c.vs.length) : ofK c (i + 1) = (ofK c i).around c.vs[i] c.vs[i] := by
  unfold ofK
  rw [List.take_succ_eq_append_getElem h, List.foldl_append]
  rfl
theorem Vl.zero_low : Vl.zero.Low := by unfold Vl.zero Vl.Low; simp
theorem St.Low.around {s : St} {l g : Vl} (h : s.Low) (hl : l.Low) (hg : g.Low) : (s.around l g).Low := by
  unfold St.around
  refine ⟨?_, ?_⟩
  · show Vl.Low (if _ then l else s.mn)
    split
    · exact hl
    · exact h.1
  · show Vl.Low (if _ then g else s.mx)
    split
    · exact hg
    · exact h.2
theorem ofK_low (c : Cl) (h : ∀ v ∈ c.vs, v.Low) : ∀ i, i ≤ c.vs.length → (ofK c i).Low
  | 0, _ => ⟨Vl.zero_low, Vl.zero_low⟩
  | i + 1, hi => by
    rw [ofK_succ c hi]
    have hx := h c.vs[i] (List.getElem_mem _)
    exact (ofK_low c h i (by omega)).around hx hx
set_option maxRecDepth 100000 in
set_option maxHeartbeats 6400000 in
theorem of_any (lid kind mr md : Int) (pa : Option Addr) (pn pc : Nat) (c : Cl) (W : World) (st kt bt : TypeId) (sp kp bp : Value)
    (hn : c.rs.length ≤ 1048576) (hn2 : c.ds.length ≤ 1048576) (hv : c.vs.length ≤ 1048576) (hcr : c.rs.length ≤ c.rc) (hcd : c.ds.length ≤ c.dc) (hcv : c.vs.length ≤ c.vc)
    (hs : W.cell? ⟨0, 0, none⟩ = some (.iface st sp)) (hk : W.cell? ⟨3, 0, none⟩ = some (.iface kt kp)) (hbd : W.cell? ⟨1, 0, none⟩ = some (.iface bt bp)) (hat : c.At W) (hlo : ∀ v ∈ c.vs, v.Low) :
    Calls Tryz.prog 39 #[leafV lid kind mr md pa pn pc, c.val] W fun e w' => (∃ (s : St) (ev : Value), e = .returned (.tuple #[s.val, ev]) ∧ OfR W.heap.size lid kind mr md c (.iface st sp) (.iface kt kp) s ev w') ∧ Below W.heap.size W w' := by
  unfold leafV Cl.val colV
  obtain ⟨w0, HW0, HX, HY, HZ, HB⟩ := three_boxes W #[.int .i64 lid, .int .i64 kind, .int .i64 mr, .int .i64 md, .slice pa pn pc] #[.int .i64 c.id, .slice c.ra c.rs.length c.rc, .slice c.da c.ds.length c.dc, .slice c.va c.vs.length c.vc] #[.int .i64 0, .int .i64 0, .bool false, .int .i64 0, .int .i64 0, .string ⟨#[]⟩, .int .i64 0, .int .i64 0, .string ⟨#[]⟩] 39 27 54
  have HI0 : Hid (OfI W lid kind mr md pa pn pc c w0) := ⟨HX.out, HY.out, HZ.out, HB.out⟩
  have HCt : Hid (∀ X, Below W.heap.size W X → Calls Tryz.prog 40 #[.agg #[.int .i64 c.id, .slice c.ra c.rs.length c.rc, .slice c.da c.ds.length c.dc, .slice c.va c.vs.length c.vc]] X fun e w' => e = .returned (.int .i64 (cntE 0 c.rs : Nat)) ∧ Below X.heap.size X w') := fun X hX => count_any c.id c.ra c.rs c.rc c.da c.ds.length c.dc c.va c.vs.length c.vc hn X (hat.keep hX).r
  have HPt : Hid (∀ X, Below W.heap.size W X → Calls Tryz.prog 46 #[.agg #[.int .i64 lid, .int .i64 kind, .int .i64 mr, .int .i64 md, .slice pa pn pc], .agg #[.int .i64 c.id, .slice c.ra c.rs.length c.rc, .slice c.da c.ds.length c.dc, .slice c.va c.vs.length c.vc], .int .i64 0, .int .i64 (cntE 0 c.rs : Nat)] X fun e w' => (∃ (k : Cl) (ev : Value), e = .returned (.tuple #[.agg #[.int .i64 k.id, .slice k.ra k.rs.length k.rc, .slice k.da k.ds.length k.dc, .slice k.va k.vs.length k.vc], ev]) ∧ PaR X.heap.size lid kind mr md c (.iface st sp) (.iface kt kp) k ev w') ∧ Below X.heap.size X w') := fun X hX => part_all lid kind mr md pa pn pc c X st kt bt sp kp bp hn hn2 hv hcr hcd hcv (ckB hs hX) (ckB hk hX) (ckB hbd hX) (hat.keep hX)
  have HLO : Hid _ := hlo
  clear hlo hat hs hk hbd HX HY HZ HB hcr hcd hcv
  go_enter Tryz.func39, Tryz.ntmps39
  go_upto_region 1 with fail
  rw [HW0.out]
  clear HW0
  obtain ⟨⟨p0, p1, p2, p3, p4⟩, _⟩ := row_five HI0.out.lf
  obtain ⟨k0, k1, k2, k3⟩ := row_four HI0.out.co
  obtain ⟨m0, m1, m2, m3⟩ := row_fourA HI0.out.co
  go_cut [6] (fun x wx => ∃ (k : Cl), Hid (OfI W lid kind mr md pa pn pc k wx) ∧ Hid (PaR W.heap.size lid kind mr md c (.iface st sp) (.iface kt kp) k x wx))
  case first =>
    have hbx : Below w0.heap.size w0 w0.drew := (Below.refl _ _).drew
    have hW0 : Below W.heap.size W w0.drew := HI0.out.old.drew
    go_region_law (first
      | (go_simp; go_at_call 40; (with_reducible refine Calls.mono (HCt.out _ hW0) ?_); rintro e w1 ⟨rfl, hb1⟩; have HI1 : Hid _ := HI0.out.keep (hbx.trans hb1); have hW1 : Below W.heap.size W w1 := HI1.out.old; clear p0 p1 p2 p3 p4 k0 k1 k2 k3 m0 m1 m2 m3 hb1; obtain ⟨⟨p0, p1, p2, p3, p4⟩, _⟩ := row_five HI1.out.lf; obtain ⟨k0, k1, k2, k3⟩ := row_four HI1.out.co; obtain ⟨m0, m1, m2, m3⟩ := row_fourA HI1.out.co)
      | (go_simp; go_at_call 46; (with_reducible refine Calls.mono (HPt.out _ hW1) ?_); rintro e w2 ⟨⟨⟨kid, kra, krs, krc, kda, kds, kdc, kva, kvs, kvc⟩, ev, rfl, hpr⟩, hb2⟩; have HI2 : Hid _ := HI1.out.keep hb2; have HPR : Hid (PaR w1.heap.size lid kind mr md c (.iface st sp) (.iface kt kp) ⟨kid, kra, krs, krc, kda, kds, kdc, kva, kvs, kvc⟩ ev w2) := hpr; clear p0 p1 p2 p3 p4 k0 k1 k2 k3 m0 m1 m2 m3 hb2 hpr; obtain ⟨k0, k1, k2, k3⟩ := row_four HI2.out.co; obtain ⟨m0, m1, m2, m3⟩ := row_fourA HI2.out.co))
    all_goals
      go_wp2
      go_meet
      have hlt : W.heap.size + 1 < w1.heap.size := lt_of_block HI1.out.co
      exact ⟨⟨kid, kra, krs, krc, kda, kds, kdc, kva, kvs, kvc⟩, OfI.put HI2.out _, ((((HPR.out.off hlt).off hlt).off hlt).off hlt).low (by omega)⟩
  case rest =>
    obtain ⟨k, HI, HPR⟩ := hcut
    rename Value => ev
    rename World => wx
    clear HI0 HCt HPt p0 p1 p2 p3 p4 k0 k1 k2 k3 m0 m1 m2 m3
    obtain ⟨z1, z2⟩ := row_nine HI.out.re
    obtain ⟨k0, k1, k2, k3⟩ := row_four HI.out.co
    have HPR2 : Hid _ := HPR
    rcases HPR.out with ⟨h1, h2, h3⟩ | ⟨h0, p, hp, h1, h2, q, h3, h4, h5, h6, h7⟩ | ⟨h1, h2, h3, h4, h5, h6, h7⟩
    · subst h3
      have HG : Hid _ := h1
      clear h1 h2 HPR HPR2
      go_wp2
      exact bodyPost_ret (v := .tuple #[St.zero.val, .iface st sp]) (results_cR Tryz.results39 _ _ (W.heap.size + 1 + 1) 54 #[.int .i64 0, .int .i64 0, .bool false, .int .i64 0, .int .i64 0, .string ⟨#[]⟩, .int .i64 0, .int .i64 0, .string ⟨#[]⟩] (0, 0) _ (.iface st sp) rfl rfl (set9_row HI.out.re _ _ _ _ _ _ _ _ _) Tryz.underlying54 rfl (by kernel_rfl)) rfl ⟨⟨St.zero, _, rfl, .inl ⟨HG.out, rfl, rfl⟩⟩, set9_below HI.out.old (by omega) _ _ _ _ _ _ _ _ _⟩
    · subst h5
      have HG : Hid _ := h0
      have H1 : Hid _ := h1
      have H2 : Hid _ := h2
      have H3 : Hid _ := h3
      have H6 : Hid _ := h6
      have H7 : Hid _ := h7
      have HQ : Hid (q ≠ W.heap.size + 1 + 1) := (fun e => by
        subst e
        have hz := (row_nine HI.out.re).1.2.1
        rw [h7] at hz
        cases hz)
      clear h0 h1 h2 h3 h4 h6 h7 HPR HPR2
      go_wp2
      have hoff : ∀ (X : World) (o j : Nat) (v : Value), (X.setCell ⟨W.heap.size + 1 + 1, j, none⟩ v).cell? ⟨q, o, none⟩ = X.cell? ⟨q, o, none⟩ := fun X o j v => cell_off HQ.out
      exact bodyPost_ret (v := .tuple #[St.zero.val, .iface 96 (.pointer (some ⟨q, 0, none⟩))]) (results_cR Tryz.results39 _ _ (W.heap.size + 1 + 1) 54 #[.int .i64 0, .int .i64 0, .bool false, .int .i64 0, .int .i64 0, .string ⟨#[]⟩, .int .i64 0, .int .i64 0, .string ⟨#[]⟩] (0, 0) _ (.iface 96 (.pointer (some ⟨q, 0, none⟩))) rfl rfl (set9_row HI.out.re _ _ _ _ _ _ _ _ _) Tryz.underlying54 rfl (by kernel_rfl)) rfl ⟨⟨St.zero, _, rfl, .inr (.inl ⟨HG.out, p, hp, H1.out, H2.out, q, H3.out, rfl, rfl, by rw [hoff, hoff, hoff, hoff, hoff, hoff, hoff, hoff, hoff]; exact H6.out, by rw [hoff, hoff, hoff, hoff, hoff, hoff, hoff, hoff, hoff]; exact H7.out⟩)⟩, set9_below HI.out.old (by omega) _ _ _ _ _ _ _ _ _⟩
    · subst h2
      obtain ⟨kid, kra, krs, krc, kda, kds, kdc, kva, kvs, kvc⟩ := k
      have HG : Hid _ := h1
      have h8 : krs = c.rs := h5
      have h9 : kvs = c.vs := h7
      have h10 : kds = c.ds := h6
      subst h8 h9 h10
      have HAV : Hid (LiesV wx kva c.vs) := h3.v
      clear h1 h3 h4 h5 h6 h7 HPR HPR2
      have hwr : IntKind.i64.wrap ((c.rs.length : Int) - (c.vs.length : Int)) = (c.rs.length : Int) - (c.vs.length : Int) := by rw [IntKind.wrap_i64]; omega
      go_upto_region 5 with fail
      obtain ⟨wy, HWY⟩ : ∃ w, Hid (wx.alloc (.cells #[.int .i64 (c.rs.length : Nat), .int .i64 ((c.rs.length : Int) - (c.vs.length : Int)), .bool false, .int .i64 0, .int .i64 0, .string ⟨#[]⟩, .int .i64 0, .int .i64 0, .string ⟨#[]⟩] 54) = w) := ⟨_, rfl⟩
      have HBZ : Hid (Below wx.heap.size wx wy) := (by show Below _ _ _; rw [← HWY.out]; exact (Below.refl _ _).alloc (Nat.le_refl _) _)
      have HSY : Hid (wy.heap[wx.heap.size]? = some (.cells (ofK c 0).cs 54 (0, 0))) := (by show _ = _; rw [← HWY.out]; exact heap_alloc_new wx _)
      rw [HWY.out]
      have HII : Hid (∀ X, Below wx.heap.size wx X → OfI W lid kind mr md pa pn pc ⟨kid, kra, c.rs, krc, kda, c.ds, kdc, kva, c.vs, kvc⟩ X ∧ LiesV X kva c.vs) := fun X hX => ⟨HI.out.keep hX, HAV.out.keep hX⟩
      have HGX : Hid (W.heap.size + 1 + 1 < wx.heap.size) := lt_of_block HI.out.re
      clear HWY HI HAV k0 k1 k2 k3 z1 z2 hwr
      generalize wx.heap.size = g at *
      obtain ⟨k0, k1, k2, k3⟩ := row_four (HII.out _ HBZ.out).1.co
      go_wp2
      go_loopw [36] (fun x wr => ∃ i : Nat, i ≤ c.vs.length ∧ x = .int .i64 i ∧ Hid (Below g wx wr) ∧ Hid (wr.heap[g]? = some (.cells (ofK c i).cs 54 (0, 0)))) (fun x _ => c.vs.length - (intOf x).toNat)
      case atStart => exact ⟨0, Nat.zero_le _, rfl, HBZ, HSY⟩
      case round =>
        obtain ⟨i, hi, rfl, HBW, HS⟩ := hrel
        clear HBZ HSY k0 k1 k2 k3
        have HI : Hid _ := (HII.out _ HBW.out).1
        by_cases hlt : i < c.vs.length
        · obtain ⟨b, o, rfl, c0, c1, c2⟩ := (HII.out _ HBW.out).2 i hlt
          have HK : Hid (ofK c (i + 1) = (ofK c i).around c.vs[i] c.vs[i]) := ofK_succ c hlt
          have HL : Hid ((ofK c i).Low) := ofK_low c HLO.out i hi
          have HV : Hid (c.vs[i].Low) := HLO.out _ (List.getElem_mem _)
          generalize c.vs[i] = v at *
          obtain ⟨s, HSs⟩ : ∃ s, Hid (ofK c i = s) := ⟨_, rfl⟩
          rw [HSs.out] at HK HL HS
          clear HSs
          have HB1 : Hid (Below wr.heap.size wr (wr.alloc (.cells #[.int .i64 v.k, .int .i64 v.n, .string v.s] 52))) := (Below.refl _ _).alloc (Nat.le_refl _) _
          have HS1 : Hid _ := blk_keep HB1.out HS.out
          obtain ⟨⟨s0, s1, s2, s3, s4, s5, s6, s7, s8⟩, _⟩ := st_row HS1.out
          go_wp2_with fail
          refine (around_x s v v _ HL.out HV.out HV.out).mono ?_
          rintro e w2 ⟨⟨t, HT, rfl⟩, hb2⟩
          have HB2 : Hid (Below wr.heap.size wr w2) := HB1.out.trans (hb2.mono HB1.out.size)
          have HS2 : Hid _ := blk_keep hb2 HS1.out
          clear hb2 s0 s1 s2 s3 s4 s5 s6 s7 s8 c0 c1 c2
          obtain ⟨⟨s0, s1, s2, s3, s4, s5, s6, s7, s8⟩, s9⟩ := st_row HS2.out
          have HLT : Hid (g < wr.heap.size) := lt_of_block HS.out
          go_wp2
          go_roundw
          case rel =>
            refine ⟨i + 1, by omega, by go_num, ?_, ?_⟩
            · exact set9_below (HBW.out.trans (HB2.out.mono (by have := HLT.out; omega))) (Nat.le_refl _) _ _ _ _ _ _ _ _ _
            · show _ = _
              rw [HK.out, ← HT.out]
              exact set9_row HS2.out _ _ _ _ _ _ _ _ _
          case measure => simp [intOf]; omega
        · obtain rfl : i = c.vs.length := by omega
          have HO : Hid (ofK c c.vs.length = ofC c) := (by show _ = _; unfold ofK ofC; rw [List.take_length])
          rw [HO.out] at HS
          obtain ⟨s, HSs⟩ : ∃ s, Hid (s = ofC c) := ⟨_, rfl⟩
          rw [← HSs.out] at HS
          obtain ⟨⟨s0, s1, s2, s3, s4, s5, s6, s7, s8⟩, s9⟩ := st_row HS.out
          obtain ⟨z1, z2⟩ := row_nine HI.out.re
          go_wp2
          exact bodyPost_ret (v := .tuple #[s.val, .nilIface]) (results_cR Tryz.results39 _ _ (W.heap.size + 1 + 1) 54 s.cs (0, 0) _ .nilIface rfl rfl (set9_row HI.out.re _ _ _ _ _ _ _ _ _) Tryz.underlying54 rfl (by kernel_rfl)) rfl ⟨⟨s, _, rfl, .inr (.inr ⟨HG.out, rfl, HSs.out⟩)⟩, set9_below HI.out.old (by omega) _ _ _ _ _ _ _ _ _⟩
end Go.Proofs.YtgpfmjbebfmmnaaGreatDoor

namespace Go.Proofs.YtgpfmjbebfmmnaaGreatDoor
open Go.RowKit
/-- Where the record that begins at b ends. -/
def rEnd (rs : List Int) (b : Nat) : Nat := b + 1 + ((rs.drop (b + 1)).takeWhile fun x => !(x == 0)).length
theorem rEnd_gt (rs : List Int) (b : Nat) : b < rEnd rs b := by unfold rEnd; omega
theorem takeWhile_le {α : Type} (f : α → Bool) : ∀ l : List α, (l.takeWhile f).length ≤ l.length
  | [] => by simp
  | a :: l => by
    rw [List.takeWhile_cons]
    split
    · simp only [List.length_cons]
      have := takeWhile_le f l
      omega
    · simp
theorem rEnd_le {rs : List Int} {b : Nat} (h : b < rs.length) : rEnd rs b ≤ rs.length := by
  unfold rEnd
  have := takeWhile_le (fun x : Int => !(x == 0)) (rs.drop (b + 1))
  rw [List.length_drop] at this
  omega
theorem takeWhile_stop {α : Type} (f : α → Bool) : ∀ (l : List α) (h : (l.takeWhile f).length < l.length), f (l[(l.takeWhile f).length]) = false
  | [], h => by simp at h
  | a :: l, h => by
    by_cases ha : f a = true
    · have e : (a :: l).takeWhile f = a :: l.takeWhile f := by rw [List.takeWhile_cons, if_pos ha]
      have hl : (l.takeWhile f).length < l.length := by rw [e] at h; simpa using h
      have := takeWhile_stop f l hl
      simp only [e, List.length_cons, List.getElem_cons_succ]
      exact this
    · have e : (a :: l).takeWhile f = [] := by rw [List.takeWhile_cons, if_neg ha]
      simp only [e, List.length_nil, List.getElem_cons_zero]
      simpa using ha
/-- A record ends where another one begins, or at the end. -/
theorem rEnd_zero {rs : List Int} {b : Nat} (h : rEnd rs b < rs.length) : rs[rEnd rs b] = 0 := by
  have hl : ((rs.drop (b + 1)).takeWhile fun x => !(x == 0)).length < (rs.drop (b + 1)).length := by
    rw [List.length_drop]
    unfold rEnd at h
    omega
  have h1 := takeWhile_stop (fun x : Int => !(x == 0)) (rs.drop (b + 1)) hl
  rw [List.getElem_drop] at h1
  simpa [rEnd] using h1
/-- At this place a record begins, or it is the end. -/
def Zr (rs : List Int) (k : Nat) : Prop := ∀ x, rs[k]? = some x → x = 0
theorem rEnd_zr (rs : List Int) (b : Nat) : Zr rs (rEnd rs b) := fun x hx => by
  obtain ⟨h, e⟩ := List.getElem?_eq_some_iff.1 hx
  rw [← e]
  exact rEnd_zero h
/-- How many entries the next page has, from a size on. -/
def szF : Nat → List Int → Nat → Nat → Nat
  | 0, _, _, n => n
  | f + 1, rs, most, n => if n < rs.length then (if most < rEnd rs n then n else szF f rs most (rEnd rs n)) else n
def pSz (rs : List Int) (most : Nat) : Nat := szF rs.length rs most (rEnd rs 0)
theorem szF_ok : ∀ (f : Nat) (rs : List Int) (most n : Nat), n ≤ rs.length → Zr rs n → n ≤ szF f rs most n ∧ szF f rs most n ≤ rs.length ∧ Zr rs (szF f rs most n)
  | 0, rs, most, n, hn, hz => ⟨Nat.le_refl _, hn, hz⟩
  | f + 1, rs, most, n, hn, hz => by
    unfold szF
    by_cases h : n < rs.length
    · rw [if_pos h]
      by_cases hm : most < rEnd rs n
      · rw [if_pos hm]
        exact ⟨Nat.le_refl _, hn, hz⟩
      · rw [if_neg hm]
        have ih := szF_ok f rs most (rEnd rs n) (rEnd_le h) (rEnd_zr _ _)
        exact ⟨Nat.le_trans (Nat.le_of_lt (rEnd_gt rs n)) ih.1, ih.2.1, ih.2.2⟩
    · rw [if_neg h]
      exact ⟨Nat.le_refl _, hn, hz⟩
theorem pSz_ok {rs : List Int} (most : Nat) (h : rs ≠ []) : 0 < pSz rs most ∧ pSz rs most ≤ rs.length ∧ Zr rs (pSz rs most) := by
  have hl := List.length_pos_iff.2 h
  have := szF_ok rs.length rs most (rEnd rs 0) (rEnd_le hl) (rEnd_zr _ _)
  exact ⟨Nat.lt_of_lt_of_le (rEnd_gt rs 0) this.1, this.2.1, this.2.2⟩
theorem szF_most : ∀ (f : Nat) (rs : List Int) (most n : Nat), szF f rs most n = n ∨ szF f rs most n ≤ most
  | 0, _, _, _ => .inl rfl
  | f + 1, rs, most, n => by
    unfold szF
    by_cases h : n < rs.length
    · rw [if_pos h]
      by_cases hm : most < rEnd rs n
      · rw [if_pos hm]; exact .inl rfl
      · rw [if_neg hm]
        rcases szF_most f rs most (rEnd rs n) with h2 | h2
        · rw [h2]; exact .inr (by omega)
        · exact .inr h2
    · rw [if_neg h]; exact .inl rfl
/-- No page but of one record has more entries than are allowed. -/
theorem pSz_most (rs : List Int) (most : Nat) : pSz rs most = rEnd rs 0 ∨ pSz rs most ≤ most := szF_most _ _ _ _
/-- The first entries of a column, with their values, and the rest. -/
def Cl.fst (c : Cl) (md : Int) (n : Nat) : Cl := ⟨c.id, c.ra, c.rs.take n, c.rc, c.da, c.ds.take n, c.dc, c.va, c.vs.take (cntE md (c.ds.take n)), c.vc⟩
def Cl.snd (c : Cl) (md : Int) (n : Nat) : Cl := ⟨c.id, c.ra, c.rs.drop n, c.rc, c.da, c.ds.drop n, c.dc, c.va, c.vs.drop (cntE md (c.ds.take n)), c.vc⟩
theorem headB_iff {rs : List Int} : headB rs = false ↔ Zr rs 0 := by
  cases rs with
  | nil => simp [headB, Zr]
  | cons x xs => simp [headB, Zr]
theorem goodC_two {lid kind mr md : Int} {c : Cl} {n : Nat} (h : GoodC lid kind mr md c) (hz : Zr c.rs n) : GoodC lid kind mr md (c.fst md n) ∧ GoodC lid kind mr md (c.snd md n) ∧ cntE md (c.ds.take n) ≤ c.vs.length := by
  obtain ⟨h1, h2⟩ := h
  rw [Bool.and_eq_true, fitB_iff] at h1
  obtain ⟨hl, hid, hlen, hh, hr, hd, hv⟩ := h1
  have hsp : cntE md c.ds = cntE md (c.ds.take n) + cntE md (c.ds.drop n) := by
    rw [← cntE_app, List.take_append_drop]
  refine ⟨⟨?_, fun j hj => ?_⟩, ⟨?_, fun j hj => ?_⟩, by omega⟩
  · rw [Bool.and_eq_true, fitB_iff]
    refine ⟨hl, hid, ?_, ?_, fun x hx => hr x (List.mem_of_mem_take hx), fun x hx => hd x (List.mem_of_mem_take hx), ?_⟩
    · show (c.rs.take n).length = (c.ds.take n).length
      rw [List.length_take, List.length_take, hlen]
    · rw [headB_iff] at hh ⊢
      intro x hx
      have hx2 : (c.rs.take n)[0]? = some x := hx
      rw [List.getElem?_take] at hx2
      split at hx2
      · exact hh x hx2
      · cases hx2
    · show (c.vs.take _).length = cntE md (c.ds.take n)
      rw [List.length_take]
      omega
  · have hj2 : j < (c.vs.take (cntE md (c.ds.take n))).length := hj
    rw [List.length_take] at hj2
    have e : (c.vs.take (cntE md (c.ds.take n)))[j]'hj = c.vs[j]'(by omega) := List.getElem_take
    exact (congrArg (badV kind) e).trans (h2 j (by omega))
  · rw [Bool.and_eq_true, fitB_iff]
    refine ⟨hl, hid, ?_, ?_, fun x hx => hr x (List.mem_of_mem_drop hx), fun x hx => hd x (List.mem_of_mem_drop hx), ?_⟩
    · show (c.rs.drop n).length = (c.ds.drop n).length
      rw [List.length_drop, List.length_drop, hlen]
    · rw [headB_iff]
      intro x hx
      have hx2 : (c.rs.drop n)[0]? = some x := hx
      rw [List.getElem?_drop, Nat.add_zero] at hx2
      exact hz x hx2
    · show (c.vs.drop _).length = cntE md (c.ds.drop n)
      rw [List.length_drop]
      omega
  · have hj2 : j < (c.vs.drop (cntE md (c.ds.take n))).length := hj
    rw [List.length_drop] at hj2
    have e : (c.vs.drop (cntE md (c.ds.take n)))[j]'hj = c.vs[cntE md (c.ds.take n) + j]'(by omega) := List.getElem_drop
    exact (congrArg (badV kind) e).trans (h2 _ (by omega))
/-- The parts that make one page each. -/
def pgs : Nat → Nat → Int → Cl → List Cl
  | 0, _, _, _ => []
  | f + 1, most, md, c => if c.rs = [] then [] else c.fst md (pSz c.rs most) :: pgs f most md (c.snd md (pSz c.rs most))
/-- The parts, one behind the other, are the whole. -/
theorem pgs_whole {lid kind mr md : Int} (most : Nat) : ∀ (f : Nat) (c : Cl), c.rs.length ≤ f → GoodC lid kind mr md c → jR (pgs f most md c) = c.rs ∧ jD (pgs f most md c) = c.ds ∧ jV (pgs f most md c) = c.vs ∧ ∀ p ∈ pgs f most md c, GoodC lid kind mr md p ∧ p.rs ≠ []
  | f, c, hf, hg => by
    have hg1 := hg.1
    rw [Bool.and_eq_true, fitB_iff] at hg1
    obtain ⟨_, _, hlen, _, _, _, hv⟩ := hg1
    by_cases h0 : c.rs = []
    · have hd0 : c.ds = [] := List.eq_nil_of_length_eq_zero (by rw [← hlen, h0]; rfl)
      have hv0 : c.vs = [] := List.eq_nil_of_length_eq_zero (by rw [hv, hd0]; rfl)
      have hp : pgs f most md c = [] := by
        cases f with
        | zero => rfl
        | succ f => unfold pgs; rw [if_pos h0]
      rw [hp, h0, hd0, hv0]
      exact ⟨rfl, rfl, rfl, fun p hp => by cases hp⟩
    · obtain ⟨s1, s2, s3⟩ := pSz_ok most h0
      match f, hf with
      | 0, hf => exact absurd (List.eq_nil_of_length_eq_zero (by omega)) h0
      | f + 1, hf =>
        obtain ⟨g1, g2, g3⟩ := goodC_two hg s3
        have ih := pgs_whole (lid := lid) (kind := kind) (mr := mr) (md := md) most f (c.snd md (pSz c.rs most)) (by show (c.rs.drop _).length ≤ f; rw [List.length_drop]; omega) g2
        have hp : pgs (f + 1) most md c = c.fst md (pSz c.rs most) :: pgs f most md (c.snd md (pSz c.rs most)) := by
          rw [pgs, if_neg h0]
        rw [hp]
        refine ⟨?_, ?_, ?_, fun p hpm => ?_⟩
        · show c.rs.take _ ++ jR (pgs f most md (c.snd md (pSz c.rs most))) = c.rs
          rw [ih.1]
          exact List.take_append_drop _ _
        · show c.ds.take _ ++ jD (pgs f most md (c.snd md (pSz c.rs most))) = c.ds
          rw [ih.2.1]
          exact List.take_append_drop _ _
        · show c.vs.take _ ++ jV (pgs f most md (c.snd md (pSz c.rs most))) = c.vs
          rw [ih.2.2.1]
          exact List.take_append_drop _ _
        · rcases List.mem_cons.1 hpm with rfl | hpm
          · refine ⟨g1, fun h => ?_⟩
            have h5 : (c.rs.take (pSz c.rs most)).length = 0 := by
              have h6 : (c.fst md (pSz c.rs most)).rs = c.rs.take (pSz c.rs most) := rfl
              rw [← h6, h]
              rfl
            rw [List.length_take] at h5
            omega
          · exact ih.2.2.2 p hpm
end Go.Proofs.YtgpfmjbebfmmnaaGreatDoor

namespace Go.Proofs.YtgpfmjbebfmmnaaGreatDoor
open Go.RowKit
theorem okV_kind {k : Int} {v : Vl} (h : okV k v.k v.n v.s.size = true) : v.k = k := (okV_iff.1 h).1
theorem lss_tri {a b : Vl} (ha : a.Low) (hb : b.Low) (k : Int) (o1 : okV k a.k a.n a.s.size = true) (o2 : okV k b.k b.n b.s.size = true) : (lss a b && lss b a) = false ∧ ((lss a b || lss b a) = true ↔ a ≠ b) := by
  obtain ⟨ak, an, asx⟩ := a
  obtain ⟨bk, bn, bsx⟩ := b
  have e1 := okV_kind (v := ⟨ak, an, asx⟩) o1
  have e2 := okV_kind (v := ⟨bk, bn, bsx⟩) o2
  simp only at e1 e2 o1 o2
  subst e1
  subst e2
  have h := vless_tri _ an bn asx bsx ha hb (okV_iff.1 o1) (okV_iff.1 o2)
  refine ⟨h.1, h.2.trans ?_⟩
  simp
theorem lss_same {a b : Vl} (ha : a.Low) (hb : b.Low) (k : Int) (o1 : okV k a.k a.n a.s.size = true) (o2 : okV k b.k b.n b.s.size = true) (h1 : lss a b = false) (h2 : lss b a = false) : a = b := by
  have h := (lss_tri ha hb k o1 o2).2
  rw [h1, h2] at h
  exact Classical.byContradiction fun hn => by have := h.2 hn; cases this
theorem lss_irr {a : Vl} (ha : a.Low) (k : Int) (o1 : okV k a.k a.n a.s.size = true) : lss a a = false := by
  have h := (lss_tri ha ha k o1 o1).1
  rwa [Bool.and_self] at h
/-- A right value of a kind. -/
def Rv (k : Int) (v : Vl) : Prop := okV k v.k v.n v.s.size = true ∧ v.Low
theorem Rv.tri {k : Int} {a b : Vl} (ha : Rv k a) (hb : Rv k b) : (lss a b && lss b a) = false ∧ ((lss a b || lss b a) = true ↔ a ≠ b) := lss_tri ha.2 hb.2 k ha.1 hb.1
theorem Rv.same {k : Int} {a b : Vl} (ha : Rv k a) (hb : Rv k b) (h1 : lss a b = false) (h2 : lss b a = false) : a = b := lss_same ha.2 hb.2 k ha.1 hb.1 h1 h2
theorem Rv.irr {k : Int} {a : Vl} (ha : Rv k a) : lss a a = false := lss_irr ha.2 k ha.1
theorem Rv.trans {k : Int} {a b c : Vl} (ha : Rv k a) (hb : Rv k b) (hc : Rv k c) (h1 : lss a b = true) (h2 : lss b c = true) : lss a c = true := by
  have e1 := okV_kind ha.1
  have e2 := okV_kind hb.1
  have e3 := okV_kind hc.1
  unfold lss at *
  rw [e1, e2] at h1
  rw [e2, e3] at h2
  rw [e1, e3]
  exact vless_trans k _ _ _ _ _ _ h1 h2
/-- a is at most b, b at most c. -/
theorem Rv.le {k : Int} {a b c : Vl} (ha : Rv k a) (hb : Rv k b) (hc : Rv k c) (h1 : lss b a = false) (h2 : lss c b = false) : lss c a = false := by
  cases h : lss c a
  · rfl
  · cases h3 : lss a b
    · have e := Rv.same ha hb h3 h1
      rw [e, h2] at h
      exact h.symm
    · have h4 := Rv.trans hc ha hb h h3
      rw [h2] at h4
      exact h4.symm
theorem Rv.asym {k : Int} {a b : Vl} (ha : Rv k a) (hb : Rv k b) (h : lss a b = true) : lss b a = false := by
  have h1 := (Rv.tri ha hb).1
  rw [h, Bool.true_and] at h1
  exact h1
/-- The least and the greatest of values. -/
structure Ends (l : List Vl) (m x : Vl) : Prop where
  mi : m ∈ l
  mb : ∀ y ∈ l, lss y m = false
  xi : x ∈ l
  xb : ∀ y ∈ l, lss x y = false
theorem Ends.one {k : Int} {l : List Vl} {m x m' x' : Vl} (hl : ∀ y ∈ l, Rv k y) (h : Ends l m x) (h' : Ends l m' x') : m = m' ∧ x = x' :=
  ⟨Rv.same (hl _ h.mi) (hl _ h'.mi) (h'.mb _ h.mi) (h.mb _ h'.mi), Rv.same (hl _ h.xi) (hl _ h'.xi) (h.xb _ h'.xi) (h'.xb _ h.xi)⟩
/-- Two together. -/
theorem Ends.app {k : Int} {l l' : List Vl} {m x m' x' : Vl} (hl : ∀ y ∈ l, Rv k y) (hl' : ∀ y ∈ l', Rv k y) (h : Ends l m x) (h' : Ends l' m' x') : Ends (l ++ l') (if lss m' m then m' else m) (if lss x x' then x' else x) := by
  refine ⟨?_, fun y hy => ?_, ?_, fun y hy => ?_⟩
  · split
    · exact List.mem_append.2 (.inr h'.mi)
    · exact List.mem_append.2 (.inl h.mi)
  · rcases List.mem_append.1 hy with hy | hy
    · cases hc : lss m' m
      · simpa using h.mb y hy
      · have h1 := Rv.asym (hl' _ h'.mi) (hl _ h.mi) hc
        simpa using Rv.le (hl' _ h'.mi) (hl _ h.mi) (hl _ hy) h1 (h.mb y hy)
    · cases hc : lss m' m
      · simpa using Rv.le (hl _ h.mi) (hl' _ h'.mi) (hl' _ hy) hc (h'.mb y hy)
      · simpa using h'.mb y hy
  · split
    · exact List.mem_append.2 (.inr h'.xi)
    · exact List.mem_append.2 (.inl h.xi)
  · rcases List.mem_append.1 hy with hy | hy
    · cases hc : lss x x'
      · simpa using h.xb y hy
      · have h1 := Rv.asym (hl _ h.xi) (hl' _ h'.xi) hc
        simpa using Rv.le (hl _ hy) (hl _ h.xi) (hl' _ h'.xi) (h.xb y hy) h1
    · cases hc : lss x x'
      · simpa using Rv.le (hl' _ hy) (hl' _ h'.xi) (hl _ h.xi) (h'.xb y hy) hc
      · simpa using h'.xb y hy
theorem Ends.single {k : Int} {v : Vl} (h : Rv k v) : Ends [v] v v := ⟨by simp, fun y hy => by simp at hy; subst hy; exact h.irr, by simp, fun y hy => by simp at hy; subst hy; exact h.irr⟩
/-- Of tells the ends. -/
theorem ofK_ends {k : Int} (c : Cl) (hc : ∀ y ∈ c.vs, Rv k y) : ∀ i, 0 < i → i ≤ c.vs.length → (ofK c i).h = true ∧ Ends (c.vs.take i) (ofK c i).mn (ofK c i).mx
  | 1, _, h1 => by
    rw [ofK_succ c h1]
    have e : c.vs.take 1 = [c.vs[0]] := by rw [List.take_succ_eq_append_getElem h1]; rfl
    rw [e]
    exact ⟨rfl, Ends.single (hc _ (List.getElem_mem _))⟩
  | i + 2, _, h1 => by
    obtain ⟨h2, h3⟩ := ofK_ends c hc (i + 1) (by omega) (by omega)
    rw [ofK_succ c h1, List.take_succ_eq_append_getElem h1]
    have h4 := h3.app (fun y hy => hc y (List.mem_of_mem_take hy)) (fun y hy => by simp at hy; subst hy; exact hc _ (List.getElem_mem _)) (Ends.single (hc _ (List.getElem_mem h1)))
    unfold St.around
    simp only [h2, Bool.not_true, Bool.false_or]
    exact ⟨trivial, h4⟩
theorem ofC_ends {k : Int} (c : Cl) (hc : ∀ y ∈ c.vs, Rv k y) (h : 0 < c.vs.length) : (ofC c).h = true ∧ Ends c.vs (ofC c).mn (ofC c).mx := by
  have h1 := ofK_ends c hc c.vs.length h (Nat.le_refl _)
  have e : ofK c c.vs.length = ofC c := by unfold ofK ofC; rw [List.take_length]
  rw [e, List.take_length] at h1
  exact h1
theorem ofC_none (c : Cl) (h : c.vs.length = 0) : ofC c = ⟨(c.rs.length : Nat), (c.rs.length : Int) - (c.vs.length : Nat), false, Vl.zero, Vl.zero⟩ := by
  unfold ofC
  rw [List.eq_nil_of_length_eq_zero h]
  rfl
end Go.Proofs.YtgpfmjbebfmmnaaGreatDoor

namespace Go.Proofs.YtgpfmjbebfmmnaaGreatDoor
open Go.RowKit
/-- What the boxes of the chunk's calls hold. -/
structure ChI (W : World) (lid kind mr md : Int) (pa : Option Addr) (pn pc : Nat) (c : Cl) (X : World) : Prop where
  lf : X.heap[W.heap.size]? = some (.cells #[.int .i64 lid, .int .i64 kind, .int .i64 mr, .int .i64 md, .slice pa pn pc] 39 (0, 0))
  co : X.heap[W.heap.size + 1]? = some (.cells #[.int .i64 c.id, .slice c.ra c.rs.length c.rc, .slice c.da c.ds.length c.dc, .slice c.va c.vs.length c.vc] 27 (0, 0))
  old : Below W.heap.size W X
theorem ChI.keep {W X w' : World} {lid kind mr md : Int} {pa : Option Addr} {pn pc : Nat} {c : Cl} (h : ChI W lid kind mr md pa pn pc c X) (hb : Below X.heap.size X w') : ChI W lid kind mr md pa pn pc c w' := ⟨blk_keep hb h.lf, blk_keep hb h.co, h.old.trans (hb.mono h.old.size)⟩
/-- What checkColumn answers. -/
def CkW (N : Nat) (lid kind mr md : Int) (c : Cl) (most : Int) (sv kv bv : Value) (ev : Value) (w : World) : Prop :=
  ((isLfB kind mr md && fitB lid mr md c.id c.rs c.ds c.vs.length) = false ∧ ev = sv) ∨
  ((isLfB kind mr md && fitB lid mr md c.id c.rs c.ds c.vs.length) = true ∧ (∃ p : Nat, ∃ hp : p < c.vs.length, badV kind c.vs[p] = true ∧ (∀ j (h : j < c.vs.length), j < p → badV kind c.vs[j] = false) ∧ ∃ q, N ≤ q ∧ ev = .iface 96 (.pointer (some ⟨q, 0, none⟩)) ∧ w.cell? ⟨q, 0, none⟩ = some (.int .i64 p) ∧ w.cell? ⟨q, 1, none⟩ = some kv)) ∨
  (GoodC lid kind mr md c ∧ c.rs = [] ∧ ev = sv) ∨
  (GoodC lid kind mr md c ∧ c.rs ≠ [] ∧ ¬ (1 ≤ most ∧ most ≤ 20000) ∧ ev = bv) ∨
  (GoodC lid kind mr md c ∧ c.rs ≠ [] ∧ (1 ≤ most ∧ most ≤ 20000) ∧ ev = .nilIface)
set_option maxRecDepth 100000 in
set_option maxHeartbeats 6400000 in
theorem checkColumn_any (lid kind mr md : Int) (pa : Option Addr) (pn pc : Nat) (c : Cl) (most : Int) (hbk : c.rs.length + c.ds.length + c.vs.length ≤ 2000) (hcr : c.rs.length ≤ c.rc) (hcd : c.ds.length ≤ c.dc) (hcv : c.vs.length ≤ c.vc) (W : World) (st kt bt : TypeId) (sp kp bp : Value) (hs : W.cell? ⟨0, 0, none⟩ = some (.iface st sp)) (hk : W.cell? ⟨3, 0, none⟩ = some (.iface kt kp)) (hbd : W.cell? ⟨1, 0, none⟩ = some (.iface bt bp)) (hat : c.At W) :
    Calls Tryz.prog 26 #[.agg #[.int .i64 lid, .int .i64 kind, .int .i64 mr, .int .i64 md, .slice pa pn pc], .agg #[.int .i64 c.id, .slice c.ra c.rs.length c.rc, .slice c.da c.ds.length c.dc, .slice c.va c.vs.length c.vc], .int .i64 most] W fun e w' => (∃ ev, e = .returned ev ∧ CkW W.heap.size lid kind mr md c most (.iface st sp) (.iface kt kp) (.iface bt bp) ev w') ∧ Below W.heap.size W w' := by
  obtain ⟨w0, HW0, HX, HY, HB⟩ := two_boxes W #[.int .i64 lid, .int .i64 kind, .int .i64 mr, .int .i64 md, .slice pa pn pc] #[.int .i64 c.id, .slice c.ra c.rs.length c.rc, .slice c.da c.ds.length c.dc, .slice c.va c.vs.length c.vc] 39 27
  have HI0 : Hid (ChI W lid kind mr md pa pn pc c w0) := ⟨HX.out, HY.out, HB.out⟩
  have hsz0 : W.heap.size ≤ w0.heap.size := HB.out.size
  have HCt : Hid (∀ X, Below w0.heap.size w0 X → Calls Tryz.prog 40 #[.agg #[.int .i64 c.id, .slice c.ra c.rs.length c.rc, .slice c.da c.ds.length c.dc, .slice c.va c.vs.length c.vc]] X fun e w' => e = .returned (.int .i64 (cntE 0 c.rs : Nat)) ∧ Below w0.heap.size w0 w' ∧ Below X.heap.size X w') := fun X hX => (count_any c.id c.ra c.rs c.rc c.da c.ds.length c.dc c.va c.vs.length c.vc (by omega) X (hat.keep (HB.out.trans (hX.mono hsz0))).r).mono fun e w' h => ⟨h.1, bel_next hX (Nat.le_refl _) h.2, h.2⟩
  have HPt : Hid (∀ X, Below w0.heap.size w0 X → Calls Tryz.prog 46 #[.agg #[.int .i64 lid, .int .i64 kind, .int .i64 mr, .int .i64 md, .slice pa pn pc], .agg #[.int .i64 c.id, .slice c.ra c.rs.length c.rc, .slice c.da c.ds.length c.dc, .slice c.va c.vs.length c.vc], .int .i64 0, .int .i64 (cntE 0 c.rs : Nat)] X fun e w' => (∃ (k : Cl) (ev : Value), e = .returned (.tuple #[.agg #[.int .i64 k.id, .slice k.ra k.rs.length k.rc, .slice k.da k.ds.length k.dc, .slice k.va k.vs.length k.vc], ev]) ∧ PaR X.heap.size lid kind mr md c (.iface st sp) (.iface kt kp) k ev w') ∧ Below w0.heap.size w0 w' ∧ Below X.heap.size X w') := fun X hX => (by
    have hX2 := HB.out.trans (hX.mono hsz0)
    exact (part_all lid kind mr md pa pn pc c X st kt bt sp kp bp (by omega) (by omega) (by omega) hcr hcd hcv (ckB hs hX2) (ckB hk hX2) (ckB hbd hX2) (hat.keep hX2)).mono fun e w' h => ⟨h.1, bel_next hX (Nat.le_refl _) h.2, h.2⟩)
  have HS : Hid (∀ X, Below W.heap.size W X → X.cell? ⟨0, 0, none⟩ = some (.iface st sp)) := fun X hX => ckB hs hX
  have HBd : Hid (∀ X, Below W.heap.size W X → X.cell? ⟨1, 0, none⟩ = some (.iface bt bp)) := fun X hX => ckB hbd hX
  clear HX HY HB hat hs hk hbd hcr hcd hcv
  go_enter Tryz.func26, Tryz.ntmps26
  go_upto_region 1 with fail
  rw [HW0.out]
  clear HW0
  obtain ⟨⟨p0, p1, p2, p3, p4⟩, _⟩ := row_five HI0.out.lf
  obtain ⟨k0, k1, k2, k3⟩ := row_four HI0.out.co
  go_cut [8] (fun x wx => Hid (ChI W lid kind mr md pa pn pc c wx) ∧ Hid (∃ k : Cl, PaR W.heap.size lid kind mr md c (.iface st sp) (.iface kt kp) k x wx))
  case first =>
    have b0 : Below w0.heap.size w0 w0 := Below.refl _ _
    have HN : Hid (∀ X, Below w0.heap.size w0 X → (X.cell? ⟨W.heap.size, 0, none⟩ = some (.int .i64 lid) ∧ X.cell? ⟨W.heap.size, 1, none⟩ = some (.int .i64 kind) ∧ X.cell? ⟨W.heap.size, 2, none⟩ = some (.int .i64 mr) ∧ X.cell? ⟨W.heap.size, 3, none⟩ = some (.int .i64 md) ∧ X.cell? ⟨W.heap.size, 4, none⟩ = some (.slice pa pn pc)) ∧ (X.cell? ⟨W.heap.size + 1, 0, none⟩ = some (.int .i64 c.id) ∧ X.cell? ⟨W.heap.size + 1, 1, none⟩ = some (.slice c.ra c.rs.length c.rc) ∧ X.cell? ⟨W.heap.size + 1, 2, none⟩ = some (.slice c.da c.ds.length c.dc) ∧ X.cell? ⟨W.heap.size + 1, 3, none⟩ = some (.slice c.va c.vs.length c.vc)) ∧ Below w0.heap.size w0 X) := fun X hX => ⟨(row_five (blk_keep hX HI0.out.lf)).1, row_four (blk_keep hX HI0.out.co), hX⟩
    go_region_held3 (fun X => (X.cell? ⟨W.heap.size, 0, none⟩ = some (.int .i64 lid) ∧ X.cell? ⟨W.heap.size, 1, none⟩ = some (.int .i64 kind) ∧ X.cell? ⟨W.heap.size, 2, none⟩ = some (.int .i64 mr) ∧ X.cell? ⟨W.heap.size, 3, none⟩ = some (.int .i64 md) ∧ X.cell? ⟨W.heap.size, 4, none⟩ = some (.slice pa pn pc)) ∧ (X.cell? ⟨W.heap.size + 1, 0, none⟩ = some (.int .i64 c.id) ∧ X.cell? ⟨W.heap.size + 1, 1, none⟩ = some (.slice c.ra c.rs.length c.rc) ∧ X.cell? ⟨W.heap.size + 1, 2, none⟩ = some (.slice c.da c.ds.length c.dc) ∧ X.cell? ⟨W.heap.size + 1, 3, none⟩ = some (.slice c.va c.vs.length c.vc)) ∧ Below w0.heap.size w0 X) (with_reducible refine HN.out _ ?_; repeat' (first | with_reducible assumption | with_reducible exact b0.drew | with_reducible exact b0 | with_reducible refine Below.drew ?_ | with_reducible exact Nat.le_refl _ | with_reducible refine Below.setCell ?_ ?_ _ | with_reducible refine Below.alloc ?_ ?_ _ | with_reducible exact Below.size (by assumption) | (simp; done) | (simp; omega) | omega)) (first
      | (go_at_call 40; (with_reducible refine Calls.mono (HCt.out _ ?_) ?_); (repeat' (first | with_reducible assumption | with_reducible exact b0.drew | with_reducible exact b0 | with_reducible refine Below.drew ?_ | with_reducible refine Below.alloc ?_ ?_ _ | with_reducible exact Below.size (by assumption) | with_reducible exact Nat.le_refl _ | (simp; done) | (simp; omega))); rintro e x1 ⟨rfl, hbx1, hraw1⟩; (first | (have hzz := blk_keep hraw1 hzz0; clear hzz0; have hzz0 := hzz; clear hzz) | (have hzz0 := blk_keep hraw1 (blk_drew (heap_alloc_new _ (.cells #[.int .i64 0, .slice none 0 0, .slice none 0 0, .slice none 0 0] 27)))) | (have hzz0 := blk_keep hraw1 (heap_alloc_new _ (.cells #[.int .i64 0, .slice none 0 0, .slice none 0 0, .slice none 0 0] 27))) | skip))
      | (go_at_call 46; (with_reducible refine Calls.mono (HPt.out _ ?_) ?_); (repeat' (first | with_reducible assumption | with_reducible exact b0.drew | with_reducible exact b0 | with_reducible refine Below.drew ?_ | with_reducible refine Below.alloc ?_ ?_ _ | with_reducible exact Below.size (by assumption) | with_reducible exact Nat.le_refl _ | (simp; done) | (simp; omega))); rintro e x2 ⟨⟨k, ev, rfl, hpr⟩, hbx2, hraw2⟩; have HPR : Hid (PaR _ lid kind mr md c (.iface st sp) (.iface kt kp) k ev x2) := hpr; have HBX2 : Hid (Below w0.heap.size w0 x2) := hbx2; clear hpr; (first | (have hzz := blk_keep hraw2 hzz0; clear hzz0; have hzz0 := hzz; clear hzz) | (have hzz0 := blk_keep hraw2 (blk_drew (heap_alloc_new _ (.cells #[.int .i64 0, .slice none 0 0, .slice none 0 0, .slice none 0 0] 27)))) | (have hzz0 := blk_keep hraw2 (heap_alloc_new _ (.cells #[.int .i64 0, .slice none 0 0, .slice none 0 0, .slice none 0 0] 27))) | skip); (first | (obtain ⟨z0, z1, z2, z3⟩ := row_four hzz0; obtain ⟨f0, f1, f2, f3⟩ := row_fourA hzz0; have HZZ : Hid _ := hzz0; clear hzz0) | skip)))
    all_goals
      go_wp2_with fail
      go_meet
      first
      | exact ⟨HI0.out.keep (HBX2.out.alloc HBX2.out.size _), k, (HPR.out.keep ((Below.refl _ _).alloc (Nat.le_refl _) _)).low (by first | (simp; omega) | exact Nat.le_trans hsz0 (Below.size (by assumption)))⟩
      | exact ⟨HI0.out.keep ((((HBX2.out.setCell (by first | exact Nat.le_refl _ | exact Below.size (by assumption)) _).setCell (by first | exact Nat.le_refl _ | exact Below.size (by assumption)) _).setCell (by first | exact Nat.le_refl _ | exact Below.size (by assumption)) _).setCell (by first | exact Nat.le_refl _ | exact Below.size (by assumption)) _), k, ((((HPR.out.off (by first | (simp; done) | (have hq := Below.size hraw1; simp at hq ⊢; omega))).off (by first | (simp; done) | (have hq := Below.size hraw1; simp at hq ⊢; omega))).off (by first | (simp; done) | (have hq := Below.size hraw1; simp at hq ⊢; omega))).off (by first | (simp; done) | (have hq := Below.size hraw1; simp at hq ⊢; omega))).low (by first | (simp; omega) | (have hq := Below.size hbx1; simp at hq ⊢; omega))⟩
  case rest =>
    obtain ⟨HI, HPR⟩ := hcut
    rename Value => ev
    rename World => wx
    clear HI0 HCt HPt p0 p1 p2 p3 p4 k0 k1 k2 k3
    obtain ⟨k0, k1, k2, k3⟩ := row_four HI.out.co
    have hes := HS.out wx HI.out.old
    have heb := HBd.out wx HI.out.old
    obtain ⟨k, hpr⟩ := HPR.out
    rcases hpr with ⟨h1, h2, h3⟩ | ⟨h0, p, hp, h1, h2, q, h3, h4, h5, h6, h7⟩ | ⟨h1, h2, _⟩
    · subst h3
      have HG : Hid _ := h1
      clear h1 h2 HPR
      go_wp2
      go_ret
      exact ⟨⟨_, rfl, .inl ⟨HG.out, rfl⟩⟩, HI.out.old⟩
    · subst h5
      have HG : Hid (CkW W.heap.size lid kind mr md c most (.iface st sp) (.iface kt kp) (.iface bt bp) (.iface 96 (.pointer (some ⟨q, 0, none⟩))) wx) := .inr (.inl ⟨h0, p, hp, h1, h2, q, h3, rfl, h6, h7⟩)
      clear h0 h1 h2 h3 h4 h6 h7 HPR
      go_wp2
      go_ret
      exact ⟨⟨_, rfl, HG.out⟩, HI.out.old⟩
    · subst h2
      have HG : Hid _ := h1
      clear h1 HPR
      by_cases e0 : c.rs = []
      · have q0 : (((c.rs.length : Nat) : Int) == 0) = true := by rw [e0]; rfl
        have HE0 : Hid _ := e0
        clear e0
        go_wp2
        go_ret
        exact ⟨⟨_, rfl, .inr (.inr (.inl ⟨HG.out, HE0.out, rfl⟩))⟩, HI.out.old⟩
      · have hpos : 0 < c.rs.length := List.length_pos_iff.2 e0
        have q0 : (((c.rs.length : Nat) : Int) == 0) = false := by simp; omega
        have HE0 : Hid _ := e0
        have q3 : decide (((c.rs.length : Nat) : Int) > 20000) = false := by simp; omega
        have q4 : decide ((20000 : Int) < ((c.rs.length : Nat) : Int)) = false := by simp; omega
        clear e0
        by_cases m1 : most < 1
        · have q1 : decide (most < 1) = true := decide_eq_true m1
          have HM : Hid (¬ (1 ≤ most ∧ most ≤ 20000)) := (by show ¬ _; omega)
          clear m1
          go_wp2
          go_ret
          exact ⟨⟨_, rfl, .inr (.inr (.inr (.inl ⟨HG.out, HE0.out, HM.out, rfl⟩)))⟩, HI.out.old⟩
        · have q1 : decide (most < 1) = false := decide_eq_false m1
          by_cases m2 : 20000 < most
          · have q2 : decide ((20000 : Int) < most) = true := decide_eq_true m2
            have q2' : decide (most > (20000 : Int)) = true := decide_eq_true m2
            have HM : Hid (¬ (1 ≤ most ∧ most ≤ 20000)) := (by show ¬ _; omega)
            clear m1 m2
            go_wp2
            go_ret
            exact ⟨⟨_, rfl, .inr (.inr (.inr (.inl ⟨HG.out, HE0.out, HM.out, rfl⟩)))⟩, HI.out.old⟩
          · have q2 : decide ((20000 : Int) < most) = false := decide_eq_false m2
            have q2' : decide (most > (20000 : Int)) = false := decide_eq_false m2
            have HM : Hid (1 ≤ most ∧ most ≤ 20000) := (by show _ ∧ _; omega)
            clear m1 m2
            go_wp2
            go_ret
            exact ⟨⟨_, rfl, .inr (.inr (.inr (.inr ⟨HG.out, HE0.out, HM.out, rfl⟩)))⟩, HI.out.old⟩
end Go.Proofs.YtgpfmjbebfmmnaaGreatDoor

namespace Go.Proofs.YtgpfmjbebfmmnaaGreatDoor
open Go.RowKit
theorem tw_len {α : Type} (f : α → Bool) : ∀ (l : List α) (m : Nat) (_ : m ≤ l.length), (∀ j (h : j < l.length), j < m → f l[j] = true) → (∀ h : m < l.length, f l[m] = false) → (l.takeWhile f).length = m
  | [], m, hm, _, _ => by simp at hm; simp [hm]
  | a :: l, 0, _, _, h2 => by
    have h := h2 (by simp)
    rw [List.takeWhile_cons, if_neg (by simpa using h)]
    rfl
  | a :: l, m + 1, hm, h1, h2 => by
    have h := h1 0 (by simp) (by omega)
    rw [List.takeWhile_cons, if_pos (by simpa using h), List.length_cons, tw_len f l m (by simpa using hm) (fun j hj hjm => by have h3 := h1 (j + 1) (by simpa using hj) (by omega); rw [List.getElem_cons_succ] at h3; exact h3) (fun hl => by have h3 := h2 (by simpa using hl); rw [List.getElem_cons_succ] at h3; exact h3)]
theorem rEnd_is {rs : List Int} {b k : Nat} (hb : b < k) (hk : k ≤ rs.length) (h1 : ∀ j (h : j < rs.length), b < j → j < k → rs[j] ≠ 0) (h2 : ∀ h : k < rs.length, rs[k] = 0) : rEnd rs b = k := by
  have h := tw_len (fun x : Int => !(x == 0)) (rs.drop (b + 1)) (k - (b + 1)) (by rw [List.length_drop]; omega) (fun j hj hjm => by
    rw [List.length_drop] at hj
    have := h1 (b + 1 + j) (by omega) (by omega) (by omega)
    rw [List.getElem_drop]
    simpa using this) (fun hl => by
    rw [List.length_drop] at hl
    have := h2 (by omega)
    rw [List.getElem_drop]
    have e : b + 1 + (k - (b + 1)) = k := by omega
    simp only [e, this]
    rfl)
  unfold rEnd
  rw [h]
  omega
set_option maxRecDepth 100000 in
set_option maxHeartbeats 1600000 in
theorem recordEnd_any (a : Option Addr) (rs : List Int) (c b : Nat) (hn : rs.length ≤ 1048576) (hb : b < rs.length) (W : World) (hl : Lies W a (i64s rs)) :
    Calls Tryz.prog 71 #[.slice a rs.length c, .int .i64 b] W fun e w' => e = .returned (.int .i64 (rEnd rs b : Nat)) ∧ Below W.heap.size W w' := by
  have HL : Hid _ := hl
  clear hl
  go_enter Tryz.func71, Tryz.ntmps71
  go_wp2
  go_loopw [5] (fun x wr => ∃ k : Nat, b < k ∧ k ≤ rs.length ∧ x = .int .i64 k ∧ Hid (∀ j (h : j < rs.length), b < j → j < k → rs[j] ≠ 0) ∧ Hid (Below W.heap.size W wr)) (fun x _ => rs.length - (intOf x).toNat)
  case atStart => exact ⟨b + 1, by omega, by omega, by go_num, fun j h h1 h2 => by omega, Below.refl _ _⟩
  case round =>
    obtain ⟨k, hbk, hk, rfl, HA, HB⟩ := hrel
    by_cases hlt : k < rs.length
    · obtain ⟨bl, o, rfl, hc⟩ := HL.out k (by rw [i64s_len]; exact hlt)
      have hc2 : W.cell? ⟨bl, o + k, none⟩ = some (.int .i64 rs[k]) := by rw [hc]; simp [i64s]
      have hc3 := (HB.out.cell (World.block_lt_of_cell? W _ hc2)).trans hc2
      clear hc hc2
      have HLt : Hid _ := hlt
      by_cases h0 : rs[k] = 0
      · have HZ : Hid _ := h0
        have q : (rs[k] != 0) = false := by simp [h0]
        have HE : Hid (rEnd rs b = k) := rEnd_is hbk hk HA.out (fun _ => HZ.out)
        clear h0
        go_wp2
        go_ret
        exact ⟨by rw [HE.out]; rfl, HB.out⟩
      · have HZ : Hid _ := h0
        have q : (rs[k] != 0) = true := by simpa using h0
        clear h0
        have HA2 : Hid (∀ j (h : j < rs.length), b < j → j < k + 1 → rs[j] ≠ 0) := fun j hj h1 h2 => (by
          by_cases e : j = k
          · subst e
            exact HZ.out
          · exact HA.out j hj h1 (by omega))
        go_wp2
        go_roundw
        case rel => exact ⟨k + 1, by omega, by omega, by go_num, HA2, HB⟩
        case measure => simp [intOf]; omega
    · have hk2 : k = rs.length := by omega
      have HE : Hid (rEnd rs b = k) := rEnd_is hbk hk HA.out (fun h => absurd h hlt)
      go_wp2
      go_ret
      exact ⟨by rw [HE.out]; rfl, HB.out⟩
end Go.Proofs.YtgpfmjbebfmmnaaGreatDoor

namespace Go.Proofs.YtgpfmjbebfmmnaaGreatDoor
open Go.RowKit
theorem Cl.At.same {c : Cl} {W X : World} {M : Nat} (h : c.At W) (hf : c.Fr M) (hk : ∀ b, M ≤ b → b < W.heap.size → X.heap[b]? = W.heap[b]?) : c.At X := by
  have hc : ∀ {b i : Nat} {v : Value}, M ≤ b → W.cell? ⟨b, i, none⟩ = some v → X.cell? ⟨b, i, none⟩ = some v := fun {b i v} hb hv => by
    have h2 := hk b hb (World.block_lt_of_cell? W _ hv)
    rw [← hv]
    simp [World.cell?, h2]
  refine ⟨fun j hj => ?_, fun j hj => ?_, fun j hj => ?_⟩
  · obtain ⟨b, o, e, hv⟩ := h.r j hj
    exact ⟨b, o, e, hc (hf.r _ e) hv⟩
  · obtain ⟨b, o, e, hv⟩ := h.d j hj
    exact ⟨b, o, e, hc (hf.d _ e) hv⟩
  · obtain ⟨b, o, e, h0, h1, h2⟩ := h.v j hj
    exact ⟨b, o, e, hc (hf.v _ e) h0, hc (hf.v _ e) h1, hc (hf.v _ e) h2⟩
theorem Cl.Fr.mono {c : Cl} {M N : Nat} (h : c.Fr N) (hm : M ≤ N) : c.Fr M := ⟨fun p hp => Nat.le_trans hm (h.r p hp), fun p hp => Nat.le_trans hm (h.d p hp), fun p hp => Nat.le_trans hm (h.v p hp)⟩
/-- One mark. -/
structure Mk where
  at_ : Int
  len : Int
  first : Int
  recs : Int
  st : St
def Mk.cs (m : Mk) : List Value := [.int .i64 m.at_, .int .i64 m.len, .int .i64 m.first, .int .i64 m.recs, .int .i64 m.st.e, .int .i64 m.st.u, .bool m.st.h, .int .i64 m.st.mn.k, .int .i64 m.st.mn.n, .string m.st.mn.s, .int .i64 m.st.mx.k, .int .i64 m.st.mx.n, .string m.st.mx.s]
theorem Mk.cs_len (m : Mk) : m.cs.length = 13 := rfl
def mkF (ms : List Mk) : List Value := ms.flatMap Mk.cs
theorem mkF_len (ms : List Mk) : (mkF ms).length = ms.length * 13 := by
  induction ms with
  | nil => rfl
  | cons m ms ih => simp only [mkF, List.flatMap_cons, List.length_append, Mk.cs_len, List.length_cons] at *; omega
theorem mkF_at : ∀ (ms : List Mk) (j k : Nat) (h : j < ms.length), k < 13 → (mkF ms)[j * 13 + k]? = (ms[j].cs)[k]?
  | [], j, k, h, _ => absurd h (Nat.not_lt_zero _)
  | m :: ms, 0, k, h, hk => by
    have e : mkF (m :: ms) = m.cs ++ mkF ms := by simp [mkF]
    rw [e, List.getElem?_append_left (by rw [Mk.cs_len]; omega)]
    simp
  | m :: ms, j + 1, k, h, hk => by
    have e : mkF (m :: ms) = m.cs ++ mkF ms := by simp [mkF]
    rw [e, List.getElem?_append_right (by rw [Mk.cs_len]; omega), Mk.cs_len, show (j + 1) * 13 + k - 13 = j * 13 + k by omega, mkF_at ms j k (by simpa using h) hk]
    simp
theorem mkF_snoc (ms : List Mk) (m : Mk) : mkF (ms ++ [m]) = mkF ms ++ m.cs := by simp [mkF]
/-- Where a slice of marks lies. -/
def LiesM (w : World) (a : Option Addr) (ms : List Mk) : Prop := ∀ j (h : j < ms.length), ∃ b o, a = some ⟨b, o, none⟩ ∧ ∀ k v, (ms[j].cs)[k]? = some v → w.cell? ⟨b, o + j * 13 + k, none⟩ = some v
theorem LiesM.keep {w w' : World} {a : Option Addr} {ms : List Mk} (h : LiesM w a ms) (hb : Below w.heap.size w w') : LiesM w' a ms := fun j hj => by
  obtain ⟨b, o, e, hc⟩ := h j hj
  exact ⟨b, o, e, fun k v hv => (hb.cell (World.block_lt_of_cell? w _ (hc k v hv))).trans (hc k v hv)⟩
theorem liesM_own {w : World} {base e n : Nat} {v : Value} {ms : List Mk} (h : w.ownsRow base e 13 v n (mkF ms)) : ∃ a c, v = .slice a ms.length c ∧ LiesM w a ms ∧ ms.length ≤ c ∧ Fsh base a := by
  have hl := h.1
  rw [mkF_len] at hl
  have hl' : ms.length = n := by omega
  obtain ⟨a, c, hv⟩ := own_slC h
  obtain ⟨hc, hf⟩ := own_capS h a n c hv
  refine ⟨a, c, by rw [hv, hl'], fun j hj => ?_, by omega, hf⟩
  rcases h.2 with ⟨_, h0⟩ | ⟨g, cap, cur, hv2, _⟩
  · omega
  · rw [hv] at hv2
    injection hv2 with ha _ _
    refine ⟨g, 0, ha, fun k u hu => ?_⟩
    have hk : k < 13 := by have := (List.getElem?_eq_some_iff.1 hu).1; rw [Mk.cs_len] at this; exact this
    have h5 := h.cells (g := g) (by rw [hv, ha]; rfl) (j * 13 + k) u (by rw [mkF_at ms j k hj hk]; exact hu)
    rw [addr_up] at h5
    rw [Nat.add_assoc]
    exact h5
end Go.Proofs.YtgpfmjbebfmmnaaGreatDoor

namespace Go.Proofs.YtgpfmjbebfmmnaaGreatDoor
open Go.RowKit
set_option maxRecDepth 100000 in
set_option maxHeartbeats 6400000 in
theorem pageSize_any (a : Option Addr) (rs : List Int) (c most : Nat) (hn : rs.length ≤ 1048576) (h0 : rs ≠ []) (W : World) (hl : Lies W a (i64s rs)) :
    Calls Tryz.prog 47 #[.slice a rs.length c, .int .i64 most] W fun e w' => e = .returned (.int .i64 (pSz rs most : Nat)) ∧ Below W.heap.size W w' := by
  have HL : Hid (Lies W a (i64s rs)) := hl
  have hpos : 0 < rs.length := List.length_pos_iff.2 h0
  have hr0 := rEnd_le hpos
  have HR : Hid (∀ (b : Nat) X, b < rs.length → Below W.heap.size W X → Calls Tryz.prog 71 #[.slice a rs.length c, .int .i64 b] X fun e w' => e = .returned (.int .i64 (rEnd rs b : Nat)) ∧ Below X.heap.size X w') := fun b X hb hX => recordEnd_any a rs c b hn hb X (HL.out.keep hX)
  clear hl h0
  go_enter Tryz.func47, Tryz.ntmps47
  go_wp2_with fail
  refine Calls.mono (HR.out 0 W hpos (Below.refl _ _)) ?_
  rintro e w1 ⟨rfl, hb1⟩
  have HB1 : Hid _ := hb1
  clear hb1
  go_wp2
  go_loopw [5] (fun x wr => ∃ (n f : Nat), n ≤ rs.length ∧ x = .int .i64 n ∧ Hid (pSz rs most = szF f rs most n) ∧ Hid (rs.length ≤ f + n) ∧ Hid (Below W.heap.size W wr)) (fun x _ => rs.length - (intOf x).toNat)
  case atStart => exact ⟨rEnd rs 0, rs.length, hr0, rfl, rfl, Nat.le_add_right _ _, HB1⟩
  case round =>
    clear HB1 hr0 hpos
    obtain ⟨n, f, hnl, rfl, HP, HF, HB⟩ := hrel
    by_cases hlt : n < rs.length
    · obtain ⟨f', rfl⟩ : ∃ f', f = f' + 1 := ⟨f - 1, by have := HF.out; omega⟩
      have hgt := rEnd_gt rs n
      have hle := rEnd_le hlt
      have HS : Hid (szF (f' + 1) rs most n = if most < rEnd rs n then n else szF f' rs most (rEnd rs n)) := (by show _ = _; rw [szF, if_pos hlt])
      go_wp2_with fail
      refine Calls.mono (HR.out n wr hlt HB.out) ?_
      rintro e w2 ⟨rfl, hb2⟩
      have HB2 : Hid (Below W.heap.size W w2) := HB.out.trans (hb2.mono HB.out.size)
      clear hb2 HB
      obtain ⟨r, HRE⟩ : ∃ r, Hid (rEnd rs n = r) := ⟨_, rfl⟩
      rw [HRE.out] at hgt hle HS ⊢
      by_cases hm2 : most < r
      · have q : decide (((r : Nat) : Int) > ((most : Nat) : Int)) = true := by simp; omega
        have q2 : decide (((most : Nat) : Int) < ((r : Nat) : Int)) = true := by simp; omega
        have HE : Hid (pSz rs most = n) := (by show _ = _; rw [HP.out, HS.out, if_pos hm2])
        go_wp2
        go_ret
        exact ⟨by rw [HE.out]; rfl, HB2.out⟩
      · have q : decide (((r : Nat) : Int) > ((most : Nat) : Int)) = false := by simp; omega
        have q2 : decide (((most : Nat) : Int) < ((r : Nat) : Int)) = false := by simp; omega
        have HE : Hid (pSz rs most = szF f' rs most r) := (by show _ = _; rw [HP.out, HS.out, if_neg hm2])
        go_wp2
        go_roundw
        case rel => exact ⟨r, f', hle, rfl, HE, by have := HF.out; show _ ≤ _; omega, HB2⟩
        case measure => simp [intOf]; omega
    · have HE : Hid (pSz rs most = n) := (by
        show _ = _
        rw [HP.out]
        cases f with
        | zero => rfl
        | succ f => rw [szF, if_neg hlt])
      go_wp2
      go_ret
      exact ⟨by rw [HE.out]; rfl, HB.out⟩
end Go.Proofs.YtgpfmjbebfmmnaaGreatDoor

namespace Go.Proofs.YtgpfmjbebfmmnaaGreatDoor
open Go.RowKit
/-- What the law's boxes hold. -/
structure LsI (W : World) (lid kind mr md : Int) (pa : Option Addr) (pn pc : Nat) (c : Cl) (X : World) : Prop where
  lf : X.heap[W.heap.size]? = some (.cells #[.int .i64 lid, .int .i64 kind, .int .i64 mr, .int .i64 md, .slice pa pn pc] 24 (0, 0))
  co : X.heap[W.heap.size + 1]? = some (.cells #[.int .i64 c.id, .slice c.ra c.rs.length c.rc, .slice c.da c.ds.length c.dc, .slice c.va c.vs.length c.vc] 27 (0, 0))
  old : Below W.heap.size W X
theorem LsI.keep {W : World} {lid kind mr md : Int} {pa : Option Addr} {pn pc : Nat} {c : Cl} {X w' : World} (h : LsI W lid kind mr md pa pn pc c X) (hb : Below X.heap.size X w') : LsI W lid kind mr md pa pn pc c w' :=
  ⟨blk_keep hb h.lf, blk_keep hb h.co, h.old.trans (hb.mono h.old.size)⟩
end Go.Proofs.YtgpfmjbebfmmnaaGreatDoor

namespace Go.Proofs.YtgpfmjbebfmmnaaGreatDoor
open Go.RowKit
theorem row_oneC {w : World} {g e : Nat} {x : Value} (h : w.heap[g]? = some (.cells #[x] e (0, 0))) : w.cell? ⟨g, 0, none⟩ = some x ∧ w.frozen? ⟨g, 0, none⟩ = false := by
  constructor <;> simp [World.cell?, World.frozen?, h]
theorem row_setOneC {w : World} {g e : Nat} {x v : Value} (h : w.heap[g]? = some (.cells #[x] e (0, 0))) : (w.setCell ⟨g, 0, none⟩ v).heap[g]? = some (.cells #[v] e (0, 0)) := row_setCell h v
/-- What the closure of Marks keeps. -/
structure MFr (g1 g2 N : Nat) (W w' : World) : Prop where
  os : w'.os = W.os
  tape : w'.tape = W.tape
  output : w'.output = W.output
  size : W.heap.size ≤ w'.heap.size
  keep : ∀ k, k < W.heap.size → k ≠ g1 → k ≠ g2 → (N ≤ k → ∀ cs e z, W.heap[k]? = some (.cells cs e z) → e ≠ 56) → w'.heap[k]? = W.heap[k]?
theorem MFr.trans {g1 g2 N : Nat} {W w1 w2 : World} (h : MFr g1 g2 N W w1) (h2 : MFr g1 g2 N w1 w2) : MFr g1 g2 N W w2 :=
  ⟨h2.os.trans h.os, h2.tape.trans h.tape, h2.output.trans h.output, Nat.le_trans h.size h2.size, fun k hk hn1 hn2 ht => by
    have e := h.keep k hk hn1 hn2 ht
    rw [h2.keep k (Nat.lt_of_lt_of_le hk h.size) hn1 hn2 (fun hN cs e2 z hc => ht hN cs e2 z (e ▸ hc)), e]⟩
theorem MFr.of_below {g1 g2 N : Nat} {W w' : World} (hb : Below W.heap.size W w') : MFr g1 g2 N W w' := ⟨hb.os, hb.tape, hb.output, hb.size, fun k hk _ _ _ => hb.block k hk⟩
theorem MFr.below {g1 g2 N B : Nat} {W w' : World} (h : MFr g1 g2 N W w') (hB : B ≤ W.heap.size) (h1 : B ≤ g1) (h2 : B ≤ g2) (hN : B ≤ N) : Below B W w' := ⟨h.os, h.tape, h.output, h.size, fun k hk => h.keep k (by omega) (by omega) (by omega) (fun h2 => by omega)⟩
theorem MFr.box {g1 g2 N k : Nat} {W w' : World} {cs : Array Value} {e : TypeId} {z : Nat × Nat} (h : MFr g1 g2 N W w') (hk : W.heap[k]? = some (.cells cs e z)) (h1 : k ≠ g1) (h2 : k ≠ g2) (he : e ≠ 56) : w'.heap[k]? = some (.cells cs e z) :=
  (h.keep k (lt_of_block hk) h1 h2 (fun _ cs' e' z' hc => by rw [hc] at hk; injection hk with hk; injection hk with _ hk _; subst hk; exact he)).trans hk
/-- What the closure of Marks holds. -/
structure MkS (gL g1 g2 N : Nat) (lid kind mr md : Int) (pa : Option Addr) (pn pc : Nat) (fst : Int) (lv : Value) (ms : List Mk) (X : World) : Prop where
  lf : X.heap[gL]? = some (.cells #[.int .i64 lid, .int .i64 kind, .int .i64 mr, .int .i64 md, .slice pa pn pc] 39 (0, 0))
  lc : X.heap[g1]? = some (.cells #[lv] 47 (0, 0))
  fc : X.heap[g2]? = some (.cells #[.int .i64 fst] 3 (0, 0))
  row : X.ownsRow N 56 13 lv ms.length (mkF ms)
theorem MkS.keep {gL g1 g2 N : Nat} {lid kind mr md : Int} {pa : Option Addr} {pn pc : Nat} {fst : Int} {lv : Value} {ms : List Mk} {X w' : World} (h : MkS gL g1 g2 N lid kind mr md pa pn pc fst lv ms X) (hb : Below X.heap.size X w') : MkS gL g1 g2 N lid kind mr md pa pn pc fst lv ms w' := ⟨blk_keep hb h.lf, blk_keep hb h.lc, blk_keep hb h.fc, ow_kept h.row hb⟩
theorem MkS.setF {gL g1 g2 N : Nat} {lid kind mr md : Int} {pa : Option Addr} {pn pc : Nat} {fst : Int} {lv : Value} {ms : List Mk} {X : World} (h : MkS gL g1 g2 N lid kind mr md pa pn pc fst lv ms X) (h1 : g2 ≠ g1) (h2 : g2 ≠ gL) (x : Int) : MkS gL g1 g2 N lid kind mr md pa pn pc x lv ms (X.setCell ⟨g2, 0, none⟩ (.int .i64 x)) ∧ MFr g1 g2 N X (X.setCell ⟨g2, 0, none⟩ (.int .i64 x)) := by
  have hset : ∀ k, k ≠ g2 → (X.setCell ⟨g2, 0, none⟩ (.int .i64 x)).heap[k]? = X.heap[k]? := fun k hk => Below.heap_setCell _ ⟨g2, 0, none⟩ _ _ hk
  refine ⟨⟨by rw [hset _ (Ne.symm h2)]; exact h.lf, by rw [hset _ (Ne.symm h1)]; exact h.lc, row_setOneC h.fc, own_same h.row fun k hk => hset k (fun e => ?_)⟩, ⟨rfl, rfl, rfl, by simp, fun k _ _ h4 _ => hset k h4⟩⟩
  subst e
  exact own_type h.row h.fc (by decide) hk.symm
theorem MkS.app {gL g1 g2 N : Nat} {lid kind mr md : Int} {pa : Option Addr} {pn pc : Nat} {fst : Int} {lv v1 : Value} {ms : List Mk} {m : Mk} {X x1 : World} (h : MkS gL g1 g2 N lid kind mr md pa pn pc fst lv ms X) (h1 : g1 ≠ g2) (h2 : g1 ≠ gL) (hown : x1.ownsRow N 56 13 v1 (ms.length + 1) (mkF ms ++ m.cs)) (hg : X.grownBy x1 lv.ownBlock) (hw : v1.ownBlock = lv.ownBlock ∨ v1.ownBlock = some X.heap.size) :
    x1.heap[g1]? = some (.cells #[lv] 47 (0, 0)) ∧ MkS gL g1 g2 N lid kind mr md pa pn pc fst v1 (ms ++ [m]) (x1.setCell ⟨g1, 0, none⟩ v1) ∧ MFr g1 g2 N X (x1.setCell ⟨g1, 0, none⟩ v1) := by
  have hkp : ∀ {k : Nat} {cs : Array Value} {e : TypeId}, X.heap[k]? = some (.cells cs e (0, 0)) → 56 ≠ e → x1.heap[k]? = some (.cells cs e (0, 0)) := fun hk he => by
    rw [hg.block _ (lt_of_block hk) (own_type h.row hk he)]
    exact hk
  have hset : ∀ k, k ≠ g1 → (x1.setCell ⟨g1, 0, none⟩ v1).heap[k]? = x1.heap[k]? := fun k hk => Below.heap_setCell _ ⟨g1, 0, none⟩ _ _ hk
  have hl := hkp h.lc (by decide)
  refine ⟨hl, ⟨by rw [hset _ (Ne.symm h2)]; exact hkp h.lf (by decide), row_setOneC hl, by rw [hset _ (Ne.symm h1)]; exact hkp h.fc (by decide), ?_⟩, ⟨hg.os, hg.tape, hg.output, by have := hg.size; simp; omega, fun k hk hn1 hn2 ht => ?_⟩⟩
  · rw [List.length_append, mkF_snoc]
    exact own_same hown fun k hk => hset k (fun e => by
      subst e
      rcases hw with e | e
      · exact own_type h.row h.lc (by decide) (hk.symm.trans e)
      · rw [e] at hk
        have := lt_of_block h.lc
        simp at hk
        omega)
  · rw [hset k hn1, hg.block k hk (fun e => ?_)]
    obtain ⟨q1, _, cs, q3⟩ := own_block h.row e.symm
    exact absurd rfl (ht q1 cs _ _ q3)
theorem row_mk {w : World} {g t : Nat} {x0 x1 x2 x3 x4 x5 x6 x7 x8 x9 xa xb xc : Value} (h : w.heap[g]? = some (.cells #[x0, x1, x2, x3, x4, x5, x6, x7, x8, x9, xa, xb, xc] t (0, 0))) :
    (w.cell? ⟨g, 0, none⟩ = some x0 ∧ w.cell? ⟨g, 1, none⟩ = some x1 ∧ w.cell? ⟨g, 2, none⟩ = some x2 ∧ w.cell? ⟨g, 3, none⟩ = some x3 ∧ w.cell? ⟨g, 4, none⟩ = some x4 ∧ w.cell? ⟨g, 5, none⟩ = some x5 ∧ w.cell? ⟨g, 6, none⟩ = some x6 ∧ w.cell? ⟨g, 7, none⟩ = some x7 ∧ w.cell? ⟨g, 8, none⟩ = some x8 ∧ w.cell? ⟨g, 9, none⟩ = some x9 ∧ w.cell? ⟨g, 10, none⟩ = some xa ∧ w.cell? ⟨g, 11, none⟩ = some xb ∧ w.cell? ⟨g, 12, none⟩ = some xc) ∧
    (w.frozen? ⟨g, 0, none⟩ = false ∧ w.frozen? ⟨g, 1, none⟩ = false ∧ w.frozen? ⟨g, 2, none⟩ = false ∧ w.frozen? ⟨g, 3, none⟩ = false ∧ w.frozen? ⟨g, 4, none⟩ = false ∧ w.frozen? ⟨g, 5, none⟩ = false ∧ w.frozen? ⟨g, 6, none⟩ = false ∧ w.frozen? ⟨g, 7, none⟩ = false ∧ w.frozen? ⟨g, 8, none⟩ = false ∧ w.frozen? ⟨g, 9, none⟩ = false ∧ w.frozen? ⟨g, 10, none⟩ = false ∧ w.frozen? ⟨g, 11, none⟩ = false ∧ w.frozen? ⟨g, 12, none⟩ = false) := by
  refine ⟨⟨?_, ?_, ?_, ?_, ?_, ?_, ?_, ?_, ?_, ?_, ?_, ?_, ?_⟩, ?_, ?_, ?_, ?_, ?_, ?_, ?_, ?_, ?_, ?_, ?_, ?_, ?_⟩ <;> first | simp [World.frozen?, h] | simp [World.cell?, h]
def set13 (w : World) (g : Nat) (y0 y1 y2 y3 y4 y5 y6 y7 y8 y9 y10 y11 y12 : Value) : World := ((((((((((((w.setCell ⟨g, 0, none⟩ y0).setCell ⟨g, 1, none⟩ y1).setCell ⟨g, 2, none⟩ y2).setCell ⟨g, 3, none⟩ y3).setCell ⟨g, 4, none⟩ y4).setCell ⟨g, 5, none⟩ y5).setCell ⟨g, 6, none⟩ y6).setCell ⟨g, 7, none⟩ y7).setCell ⟨g, 8, none⟩ y8).setCell ⟨g, 9, none⟩ y9).setCell ⟨g, 10, none⟩ y10).setCell ⟨g, 11, none⟩ y11).setCell ⟨g, 12, none⟩ y12
theorem set13_row {w : World} {g t : Nat} {x0 x1 x2 x3 x4 x5 x6 x7 x8 x9 x10 x11 x12 : Value} (h : w.heap[g]? = some (.cells #[x0, x1, x2, x3, x4, x5, x6, x7, x8, x9, x10, x11, x12] t (0, 0))) (y0 y1 y2 y3 y4 y5 y6 y7 y8 y9 y10 y11 y12 : Value) : (set13 w g y0 y1 y2 y3 y4 y5 y6 y7 y8 y9 y10 y11 y12).heap[g]? = some (.cells #[y0, y1, y2, y3, y4, y5, y6, y7, y8, y9, y10, y11, y12] t (0, 0)) := by
  have h0 : (w.setCell ⟨g, 0, none⟩ y0).heap[g]? = some (.cells #[y0, x1, x2, x3, x4, x5, x6, x7, x8, x9, x10, x11, x12] t (0, 0)) := row_setCell h y0
  have h1 : ((w.setCell ⟨g, 0, none⟩ y0).setCell ⟨g, 1, none⟩ y1).heap[g]? = some (.cells #[y0, y1, x2, x3, x4, x5, x6, x7, x8, x9, x10, x11, x12] t (0, 0)) := row_setCell h0 y1
  have h2 : (((w.setCell ⟨g, 0, none⟩ y0).setCell ⟨g, 1, none⟩ y1).setCell ⟨g, 2, none⟩ y2).heap[g]? = some (.cells #[y0, y1, y2, x3, x4, x5, x6, x7, x8, x9, x10, x11, x12] t (0, 0)) := row_setCell h1 y2
  have h3 : ((((w.setCell ⟨g, 0, none⟩ y0).setCell ⟨g, 1, none⟩ y1).setCell ⟨g, 2, none⟩ y2).setCell ⟨g, 3, none⟩ y3).heap[g]? = some (.cells #[y0, y1, y2, y3, x4, x5, x6, x7, x8, x9, x10, x11, x12] t (0, 0)) := row_setCell h2 y3
  have h4 : (((((w.setCell ⟨g, 0, none⟩ y0).setCell ⟨g, 1, none⟩ y1).setCell ⟨g, 2, none⟩ y2).setCell ⟨g, 3, none⟩ y3).setCell ⟨g, 4, none⟩ y4).heap[g]? = some (.cells #[y0, y1, y2, y3, y4, x5, x6, x7, x8, x9, x10, x11, x12] t (0, 0)) := row_setCell h3 y4
  have h5 : ((((((w.setCell ⟨g, 0, none⟩ y0).setCell ⟨g, 1, none⟩ y1).setCell ⟨g, 2, none⟩ y2).setCell ⟨g, 3, none⟩ y3).setCell ⟨g, 4, none⟩ y4).setCell ⟨g, 5, none⟩ y5).heap[g]? = some (.cells #[y0, y1, y2, y3, y4, y5, x6, x7, x8, x9, x10, x11, x12] t (0, 0)) := row_setCell h4 y5
  have h6 : (((((((w.setCell ⟨g, 0, none⟩ y0).setCell ⟨g, 1, none⟩ y1).setCell ⟨g, 2, none⟩ y2).setCell ⟨g, 3, none⟩ y3).setCell ⟨g, 4, none⟩ y4).setCell ⟨g, 5, none⟩ y5).setCell ⟨g, 6, none⟩ y6).heap[g]? = some (.cells #[y0, y1, y2, y3, y4, y5, y6, x7, x8, x9, x10, x11, x12] t (0, 0)) := row_setCell h5 y6
  have h7 : ((((((((w.setCell ⟨g, 0, none⟩ y0).setCell ⟨g, 1, none⟩ y1).setCell ⟨g, 2, none⟩ y2).setCell ⟨g, 3, none⟩ y3).setCell ⟨g, 4, none⟩ y4).setCell ⟨g, 5, none⟩ y5).setCell ⟨g, 6, none⟩ y6).setCell ⟨g, 7, none⟩ y7).heap[g]? = some (.cells #[y0, y1, y2, y3, y4, y5, y6, y7, x8, x9, x10, x11, x12] t (0, 0)) := row_setCell h6 y7
  have h8 : (((((((((w.setCell ⟨g, 0, none⟩ y0).setCell ⟨g, 1, none⟩ y1).setCell ⟨g, 2, none⟩ y2).setCell ⟨g, 3, none⟩ y3).setCell ⟨g, 4, none⟩ y4).setCell ⟨g, 5, none⟩ y5).setCell ⟨g, 6, none⟩ y6).setCell ⟨g, 7, none⟩ y7).setCell ⟨g, 8, none⟩ y8).heap[g]? = some (.cells #[y0, y1, y2, y3, y4, y5, y6, y7, y8, x9, x10, x11, x12] t (0, 0)) := row_setCell h7 y8
  have h9 : ((((((((((w.setCell ⟨g, 0, none⟩ y0).setCell ⟨g, 1, none⟩ y1).setCell ⟨g, 2, none⟩ y2).setCell ⟨g, 3, none⟩ y3).setCell ⟨g, 4, none⟩ y4).setCell ⟨g, 5, none⟩ y5).setCell ⟨g, 6, none⟩ y6).setCell ⟨g, 7, none⟩ y7).setCell ⟨g, 8, none⟩ y8).setCell ⟨g, 9, none⟩ y9).heap[g]? = some (.cells #[y0, y1, y2, y3, y4, y5, y6, y7, y8, y9, x10, x11, x12] t (0, 0)) := row_setCell h8 y9
  have h10 : (((((((((((w.setCell ⟨g, 0, none⟩ y0).setCell ⟨g, 1, none⟩ y1).setCell ⟨g, 2, none⟩ y2).setCell ⟨g, 3, none⟩ y3).setCell ⟨g, 4, none⟩ y4).setCell ⟨g, 5, none⟩ y5).setCell ⟨g, 6, none⟩ y6).setCell ⟨g, 7, none⟩ y7).setCell ⟨g, 8, none⟩ y8).setCell ⟨g, 9, none⟩ y9).setCell ⟨g, 10, none⟩ y10).heap[g]? = some (.cells #[y0, y1, y2, y3, y4, y5, y6, y7, y8, y9, y10, x11, x12] t (0, 0)) := row_setCell h9 y10
  have h11 : ((((((((((((w.setCell ⟨g, 0, none⟩ y0).setCell ⟨g, 1, none⟩ y1).setCell ⟨g, 2, none⟩ y2).setCell ⟨g, 3, none⟩ y3).setCell ⟨g, 4, none⟩ y4).setCell ⟨g, 5, none⟩ y5).setCell ⟨g, 6, none⟩ y6).setCell ⟨g, 7, none⟩ y7).setCell ⟨g, 8, none⟩ y8).setCell ⟨g, 9, none⟩ y9).setCell ⟨g, 10, none⟩ y10).setCell ⟨g, 11, none⟩ y11).heap[g]? = some (.cells #[y0, y1, y2, y3, y4, y5, y6, y7, y8, y9, y10, y11, x12] t (0, 0)) := row_setCell h10 y11
  have h12 : (((((((((((((w.setCell ⟨g, 0, none⟩ y0).setCell ⟨g, 1, none⟩ y1).setCell ⟨g, 2, none⟩ y2).setCell ⟨g, 3, none⟩ y3).setCell ⟨g, 4, none⟩ y4).setCell ⟨g, 5, none⟩ y5).setCell ⟨g, 6, none⟩ y6).setCell ⟨g, 7, none⟩ y7).setCell ⟨g, 8, none⟩ y8).setCell ⟨g, 9, none⟩ y9).setCell ⟨g, 10, none⟩ y10).setCell ⟨g, 11, none⟩ y11).setCell ⟨g, 12, none⟩ y12).heap[g]? = some (.cells #[y0, y1, y2, y3, y4, y5, y6, y7, y8, y9, y10, y11, y12] t (0, 0)) := row_setCell h11 y12
  exact h12
theorem set13_below {B g : Nat} {w X : World} (h : Below B w X) (hg : B ≤ g) (y0 y1 y2 y3 y4 y5 y6 y7 y8 y9 y10 y11 y12 : Value) : Below B w (set13 X g y0 y1 y2 y3 y4 y5 y6 y7 y8 y9 y10 y11 y12) :=
  ((((((((((((h.setCell hg _).setCell hg _).setCell hg _).setCell hg _).setCell hg _).setCell hg _).setCell hg _).setCell hg _).setCell hg _).setCell hg _).setCell hg _).setCell hg _).setCell hg _
end Go.Proofs.YtgpfmjbebfmmnaaGreatDoor

namespace Go.Proofs.YtgpfmjbebfmmnaaGreatDoor
open Go.ChangeShapes Go.WideShapes Go.ChangeAt Go.RowKit
def sumV : List Vl → Nat
  | [] => 0
  | v :: vs => v.s.size + 1 + sumV vs
theorem sumV_bulk {H : Type} : ∀ (ts : List Vl) (l : List (DataW H)), ts.length = l.length → (∀ j (h : j < ts.length) (h' : j < l.length), ts[j].s.size + 1 ≤ Rows.uptoBulk l[j]) → sumV ts ≤ Rows.uptoBulkAll l
  | [], [], _, _ => by simp [sumV]
  | [], _ :: _, h, _ => by simp at h
  | _ :: _, [], h, _ => by simp at h
  | t :: ts, d :: l, hl, h => by
    have h0 := h 0 (by simp) (by simp)
    have ih := sumV_bulk ts l (by simpa using hl) (fun j hj hj' => h (j + 1) (by simp; omega) (by simp; omega))
    simp only [List.getElem_cons_zero] at h0
    rw [sumV]
    simp only [Rows.uptoBulkAll]
    omega
theorem sumV_len : ∀ vs : List Vl, vs.length ≤ sumV vs
  | [] => Nat.le_refl _
  | v :: vs => by have := sumV_len vs; rw [sumV, List.length_cons]; omega
set_option maxRecDepth 100000 in
/-- What the cells of a value hold, and how bulky they are. -/
theorem valB_cells {H : Type} {enc : TypeId × Value → H} {W : World} {base n : Nat} {sp : Nat → Bool} {held : Bool} {cs : List Value} {x : DataW H × List MemPlace} (h : DataW.trod enc Tryz.prog W base sp held n 52 cs = some x) :
    ∃ v : Vl, cs = [.int .i64 v.k, .int .i64 v.n, .string v.s] ∧ v.In ∧ v.s.size + 1 ≤ Rows.uptoBulk x.1 := by
  obtain ⟨xs, m, _, rfl, hl, hlen, hf⟩ := DataW.trod_struct Tryz.underlying52 h
  rw [Tryz.cellsV] at hl
  match cs, hl with
  | [c0, c1, c2], _ =>
    match xs, hlen with
    | [y0, y1, y2], _ =>
      have g0 := hf 0 _ rfl
      have g1 := hf 1 _ rfl
      have g2 := hf 2 _ rfl
      simp [Tryz.cellsI, Tryz.cellsI64, Tryz.cellsS] at g0 g1 g2
      obtain ⟨k, e0, _, h0⟩ := DataW.trod_int Tryz.underlying3 g0
      obtain ⟨n, e1, _, h1⟩ := DataW.trod_int Tryz.underlying2 g1
      obtain ⟨s, e2, hy2, h2⟩ := DataW.trod_string Tryz.underlying9 g2
      simp at e0 e1 e2
      subst e0 e1 e2
      refine ⟨⟨k, n, s⟩, rfl, ⟨bounds_i64 h0, bounds_i64 h1, h2⟩, ?_⟩
      have e1 : Rows.uptoBulk y2.1 = s.size + 1 := by rw [hy2]; simp [Rows.uptoBulk]
      simp only [Rows.uptoBulk, Rows.uptoBulkAll, List.map_cons, List.map_nil]
      omega
set_option maxRecDepth 100000 in
theorem intsB_cells {H : Type} {enc : TypeId × Value → H} {W : World} {n : Nat} {cs : List Value} {x : DataW H × List MemPlace} (hf : DataW.trod enc Tryz.prog W 0 (fun _ => true) true n 22 cs = some x) :
    ∃ a c xs, cs = [.slice a (List.length xs) c] ∧ Lies W a (i64s xs) ∧ List.length xs + 1 ≤ Rows.uptoBulk x.1 + 1 := by
  rcases DataW.trod_slice Tryz.underlying22 hf with ⟨rfl, rfl⟩ | ⟨a, len, cap, elems, rest, m, rfl, rfl, rfl, _, hl, hm, hlen, hel, _, _⟩
  · exact ⟨none, 0, [], rfl, fun j hj => absurd hj (by simp [i64s]), by simp⟩
  · rw [Tryz.cellsI] at hel
    have each : ∀ i, i < len → ∃ z : Int, W.cell? (a.add i) = some (.int .i64 z) := fun i hi => by
      have h1 := hel i hi
      have h2 : elems[i]? = some (elems[i]'(by omega)) := List.getElem?_eq_getElem (by omega)
      rw [h2] at h1
      obtain ⟨cs', h3, h4⟩ := Option.bind_eq_some_iff.1 h1
      obtain ⟨k, e0, _, _⟩ := DataW.trod_int Tryz.underlying3 h4
      subst e0
      obtain ⟨_, _, hcell⟩ := World.cells?_some h3
      have e0 := hcell 0 (by omega)
      have z : (a.add (i * 1)).add 0 = a.add i := by unfold Addr.add; simp
      rw [z] at e0
      exact ⟨k, by simpa using e0⟩
    obtain ⟨f, hfx⟩ := Deep.choose_lt each
    refine ⟨some a, cap, (List.range len).map f, by simp, fun j hj => ?_, ?_⟩
    · have hj' : j < len := by simpa [i64s] using hj
      have h0 := hfx j hj'
      obtain ⟨b, off, spot⟩ := a
      have hspot : spot = none := by
        have := World.cell?_spot (hfx 0 (by omega))
        simpa [Addr.add] using this
      subst hspot
      rw [addr_add] at h0
      exact ⟨b, off, rfl, by simpa [i64s] using h0⟩
    · have h1 := bulk_len (elems.map (·.1))
      rw [List.length_map, hlen] at h1
      simp only [Rows.uptoBulk]
      simp
      omega
set_option maxRecDepth 100000 in
theorem valsB_cells {H : Type} {enc : TypeId × Value → H} {W : World} {n : Nat} {cs : List Value} {x : DataW H × List MemPlace} (hf : DataW.trod enc Tryz.prog W 0 (fun _ => true) true n 25 cs = some x) :
    ∃ a c vs, cs = [.slice a (List.length vs) c] ∧ LiesV W a vs ∧ (∀ v ∈ vs, v.In) ∧ sumV vs ≤ Rows.uptoBulk x.1 := by
  rcases DataW.trod_slice Tryz.underlying25 hf with ⟨rfl, rfl⟩ | ⟨a, len, cap, elems, rest, m, rfl, rfl, rfl, _, hl, hm, hlen, hel, _, _⟩
  · exact ⟨none, 0, [], rfl, fun j hj => absurd hj (by simp), fun v hv => absurd hv (by simp), by simp [sumV]⟩
  · rw [Tryz.cellsV] at hel
    have each : ∀ i, i < len → ∃ v : Vl, (W.cell? (a.add (i * 3)) = some (.int .i64 v.k) ∧ W.cell? ((a.add (i * 3)).add 1) = some (.int .i64 v.n) ∧ W.cell? ((a.add (i * 3)).add 2) = some (.string v.s)) ∧ v.In ∧ ∀ h : i < elems.length, v.s.size + 1 ≤ Rows.uptoBulk elems[i].1 := fun i hi => by
      have h1 := hel i hi
      have h2 : elems[i]? = some (elems[i]'(by omega)) := List.getElem?_eq_getElem (by omega)
      rw [h2] at h1
      obtain ⟨cs', h3, h4⟩ := Option.bind_eq_some_iff.1 h1
      obtain ⟨v, rfl, hin, hbk⟩ := valB_cells h4
      obtain ⟨_, _, hcell⟩ := World.cells?_some h3
      have e0 := hcell 0 (by omega)
      have e1 := hcell 1 (by omega)
      have e2 := hcell 2 (by omega)
      have z : (a.add (i * 3)).add 0 = a.add (i * 3) := by unfold Addr.add; simp
      rw [z] at e0
      exact ⟨v, ⟨by simpa using e0, by simpa using e1, by simpa using e2⟩, hin, fun _ => hbk⟩
    have : Inhabited Vl := ⟨⟨0, 0, ⟨#[]⟩⟩⟩
    obtain ⟨f, hfx⟩ := Deep.choose_lt each
    refine ⟨some a, cap, (List.range len).map f, by simp, fun j hj => ?_, fun v hv => ?_, ?_⟩
    · have hj' : j < len := by simpa using hj
      obtain ⟨⟨h0, h1, h2⟩, _⟩ := hfx j hj'
      obtain ⟨b, off, spot⟩ := a
      have hspot : spot = none := by
        have := World.cell?_spot (hfx 0 (by omega)).1.1
        simpa [Addr.add] using this
      subst hspot
      rw [addr_plus] at h0 h1 h2
      rw [addr_plus] at h1 h2
      refine ⟨b, off, rfl, ?_, ?_, ?_⟩
      · simpa using h0
      · simpa using h1
      · simpa using h2
    · obtain ⟨i, hi, rfl⟩ := List.mem_map.1 hv
      exact (hfx i (by simpa using hi)).2.1
    · have h1 := sumV_bulk ((List.range len).map f) (elems.map (·.1)) (by simp [hlen]) (fun j hj hj' => by
        have hj2 : j < len := by simpa using hj
        simpa using (hfx j hj2).2.2 (by omega))
      simp only [Rows.uptoBulk]
      omega
/-- How bulky a column is. -/
def Cl.bulk (c : Cl) : Nat := c.rs.length + c.ds.length + sumV c.vs
set_option maxRecDepth 100000 in
/-- What a column holds. -/
theorem open_columnB {H : Type} {enc : TypeId × Value → H} {W : World} {base : Nat} {v : Value} {d : DataW H} {ps : List MemPlace} (hv : Value.okWide Tryz.prog W .any base 27 v) (h : DataW.Trod enc Tryz.prog W 0 (fun _ => true) true 27 v d ps) :
    ∃ c : Cl, v = c.val ∧ c.At W ∧ (∀ v ∈ c.vs, v.In) ∧ c.bulk ≤ Rows.uptoBulk d := by
  obtain ⟨cs, rfl, _⟩ := okWide_struct Tryz.underlying27 hv
  obtain ⟨fuel, hf0⟩ := h
  obtain ⟨xs, m, _, hdp, hl, hlen, hf⟩ := DataW.trod_struct Tryz.underlying27 hf0
  obtain ⟨rfl, rfl⟩ := Prod.mk.inj hdp
  rw [Tryz.cellsC] at hl
  obtain ⟨cl, hcl⟩ : ∃ cl, (Value.agg cs).cells.toList = cl := ⟨_, rfl⟩
  have hcs : cs.toList = cl := hcl
  rw [hcl] at hl hf
  match cl, hl, hcs, hf with
  | [c0, c1, c2, c3], _, hcs, hf =>
    match xs, hlen, hf with
    | [y0, y1, y2, y3], _, hf =>
      have g0 := hf 0 _ rfl
      have g1 := hf 1 _ rfl
      have g2 := hf 2 _ rfl
      have g3 := hf 3 _ rfl
      simp [Tryz.cellsI, Tryz.cellsIs, Tryz.cellsVs] at g0 g1 g2 g3
      obtain ⟨k, e0, _, _⟩ := DataW.trod_int Tryz.underlying3 g0
      obtain ⟨ra, rc, rs, e1, l1, m1⟩ := intsB_cells g1
      obtain ⟨da, dc, ds, e2, l2, m2⟩ := intsB_cells g2
      obtain ⟨va, vc, vs, e3, l3, i3, m3⟩ := valsB_cells g3
      simp at e0 e1 e2 e3
      subst e0 e1 e2 e3
      refine ⟨⟨k, ra, rs, rc, da, ds, dc, va, vs, vc⟩, ?_, ⟨l1, l2, l3⟩, i3, ?_⟩
      · show Value.agg cs = Value.agg _
        congr 1
        exact Array.toList_inj.1 hcs
      · simp only [Rows.uptoBulk, Rows.uptoBulkAll, List.map_cons, List.map_nil, Cl.bulk]
        omega
end Go.Proofs.YtgpfmjbebfmmnaaGreatDoor

namespace Go.Proofs.YtgpfmjbebfmmnaaGreatDoor
open Go.RowKit
/-- The letters of values. -/
def letV : List Vl → Nat
  | [] => 0
  | v :: vs => v.s.size + letV vs
theorem letV_sum : ∀ vs : List Vl, letV vs + vs.length = sumV vs
  | [] => rfl
  | v :: vs => by have := letV_sum vs; rw [sumV, letV, List.length_cons]; omega
theorem letV_app : ∀ (xs ys : List Vl), letV (xs ++ ys) = letV xs + letV ys
  | [], ys => by simp [letV]
  | x :: xs, ys => by rw [List.cons_append, letV, letV, letV_app xs ys]; omega
theorem letV_succ {vs : List Vl} {i : Nat} (h : i < vs.length) : letV (vs.take (i + 1)) = letV (vs.take i) + vs[i].s.size := by
  rw [List.take_succ_eq_append_getElem h, letV_app]
  simp [letV]
theorem letV_le (vs : List Vl) (i : Nat) : letV (vs.take i) ≤ letV vs := by
  have h := letV_app (vs.take i) (vs.drop i)
  rw [List.take_append_drop] at h
  omega
/-- The law says something. -/
def slimB (c : Cl) (pn : Nat) : Bool := decide (c.bulk ≤ 2000) && decide (pn ≤ 100)
set_option maxRecDepth 100000 in
set_option maxHeartbeats 1600000 in
theorem slim3_any (lid kind mr md : Int) (pa : Option Addr) (pn pc : Nat) (c : Cl) (hn : c.bulk ≤ 1048576) (W : World) (hat : c.At W) :
    Calls Tryz.prog 7 #[.agg #[.int .i64 lid, .int .i64 kind, .int .i64 mr, .int .i64 md, .slice pa pn pc], .agg #[.int .i64 c.id, .slice c.ra c.rs.length c.rc, .slice c.da c.ds.length c.dc, .slice c.va c.vs.length c.vc]] W fun e w' => e = .returned (.bool (slimB c pn)) ∧ Below W.heap.size W w' := by
  obtain ⟨w0, HW0, HX, HY, HB⟩ := two_boxes W #[.int .i64 lid, .int .i64 kind, .int .i64 mr, .int .i64 md, .slice pa pn pc] #[.int .i64 c.id, .slice c.ra c.rs.length c.rc, .slice c.da c.ds.length c.dc, .slice c.va c.vs.length c.vc] 24 27
  have HL : Hid (LiesV w0 c.va c.vs) := (hat.keep HB.out).v
  have hls := letV_sum c.vs
  have hcb : c.bulk = c.rs.length + c.ds.length + sumV c.vs := rfl
  rw [← hls] at hcb
  have HCB : Hid _ := hcb
  have hbb : c.rs.length + c.ds.length + (letV c.vs + c.vs.length) ≤ 1048576 := by rw [← hcb]; exact hn
  clear hat hls hcb hn
  obtain ⟨⟨p0, p1, p2, p3, p4⟩, _⟩ := row_five HX.out
  obtain ⟨k0, k1, k2, k3⟩ := row_four HY.out
  obtain ⟨rn, HRN⟩ : ∃ n, Hid (c.rs.length = n) := ⟨_, rfl⟩
  obtain ⟨dn, HDN⟩ : ∃ n, Hid (c.ds.length = n) := ⟨_, rfl⟩
  rw [HRN.out] at HW0 HY k1 hbb HCB ⊢
  rw [HDN.out] at HW0 HY k2 hbb HCB ⊢
  have hw1 : IntKind.i64.wrap ((rn : Int) + (dn : Int)) = ((rn + dn : Nat) : Int) := by rw [IntKind.wrap_i64]; omega
  have hw2 : IntKind.i64.wrap (((rn + dn : Nat) : Int) + (c.vs.length : Int)) = ((rn + dn + c.vs.length : Nat) : Int) := by rw [IntKind.wrap_i64]; omega
  go_enter Tryz.func7, Tryz.ntmps7
  go_upto_region 1 with fail
  rw [HW0.out]
  go_wp2
  go_loop [5, 6] (fun y x => ∃ i : Nat, i ≤ c.vs.length ∧ x = .int .i64 i ∧ y = .int .i64 ((rn + dn + c.vs.length + letV (c.vs.take i) : Nat) : Int)) (fun _ x => c.vs.length - (intOf x).toNat)
  case atStart => exact ⟨0, Nat.zero_le _, rfl, rfl⟩
  case round =>
    obtain ⟨i, hi, rfl, rfl⟩ := hrel
    have hle := letV_le c.vs i
    obtain ⟨q, HQ⟩ : ∃ q, Hid (letV (c.vs.take i) = q) := ⟨_, rfl⟩
    by_cases hlt : i < c.vs.length
    · have HN : Hid (letV (c.vs.take (i + 1)) = q + c.vs[i].s.size) := (by show _ = _; rw [letV_succ hlt, HQ.out])
      have hle2 := letV_le c.vs (i + 1)
      rw [HN.out] at hle2
      rw [HQ.out] at hle ⊢
      obtain ⟨b, o, hva, c0, c1, c2⟩ := HL.out i hlt
      rw [hva] at k3 ⊢
      generalize c.vs[i] = v at *
      clear hva
      go_wp2
      go_round
      case rel => exact ⟨i + 1, by omega, by go_num, by rw [HN.out]; go_num⟩
      case measure => simp [intOf]; omega
    · obtain rfl : i = c.vs.length := by omega
      have HE : Hid (c.bulk = rn + dn + c.vs.length + q) := (by have h := HCB.out; have h2 := HQ.out; rw [List.take_length] at h2; show _ = _; rw [h, h2]; omega)
      rw [HQ.out]
      by_cases h1 : rn + dn + c.vs.length + q ≤ 2000
      · have q1 : decide ((rn : Int) + (dn : Int) + (c.vs.length : Int) + (q : Int) ≤ 2000) = true := by rw [decide_eq_true_iff]; omega
        have HF : Hid (slimB c pn = decide ((pn : Int) ≤ 100)) := (by
          show _ = _
          unfold slimB
          rw [HE.out, decide_eq_true h1, Bool.true_and, decide_eq_decide]
          omega)
        clear h1 hbb hle hw1 hw2
        go_wp2
        go_ret
        exact ⟨by rw [HF.out]; try simp, HB.out⟩
      · have q1 : decide ((rn : Int) + (dn : Int) + (c.vs.length : Int) + (q : Int) ≤ 2000) = false := by rw [decide_eq_false_iff_not]; omega
        have HF : Hid (slimB c pn = false) := (by
          show _ = _
          unfold slimB
          rw [HE.out, decide_eq_false h1, Bool.false_and])
        clear h1 hbb hle hw1 hw2
        go_wp2
        go_ret
        exact ⟨by rw [HF.out]; try simp, HB.out⟩
end Go.Proofs.YtgpfmjbebfmmnaaGreatDoor
