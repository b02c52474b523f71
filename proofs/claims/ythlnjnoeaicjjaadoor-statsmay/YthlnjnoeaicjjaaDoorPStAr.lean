/-
  (stats.Stats).around and kind, walked.
-/
import Derived.Test.YthlnjnoeaicjjaaDoorPStBase
namespace Go.Proofs.YthlnjnoeaicjjaaDoor
open Go.RowKit
/-- What around's boxes hold. -/
structure ArI (W : World) (s : St) (l g : Vl) (X : World) : Prop where
  st : X.heap[W.heap.size]? = some (.cells s.cs 34 (0, 0))
  lo : X.heap[W.heap.size + 1]? = some (.cells #[.int .i64 l.k, .int .i64 l.n, .string l.s] 23 (0, 0))
  hi : X.heap[W.heap.size + 1 + 1]? = some (.cells #[.int .i64 g.k, .int .i64 g.n, .string g.s] 23 (0, 0))
  re : X.heap[W.heap.size + 1 + 1 + 1]? = some (.cells #[.int .i64 0, .int .i64 0, .bool false, .int .i64 0, .int .i64 0, .string ⟨#[]⟩, .int .i64 0, .int .i64 0, .string ⟨#[]⟩] 34 (0, 0))
  old : Below W.heap.size W X
theorem ArI.keep {W : World} {s : St} {l g : Vl} {X w' : World} (h : ArI W s l g X) (hb : Below X.heap.size X w') : ArI W s l g w' :=
  ⟨blk_keep hb h.st, blk_keep hb h.lo, blk_keep hb h.hi, blk_keep hb h.re, h.old.trans (hb.mono h.old.size)⟩
theorem ArI.put {W : World} {s s' : St} {l g : Vl} {X w' : World} (h : ArI W s l g X) (h0 : w'.heap[W.heap.size]? = some (.cells s'.cs 34 (0, 0))) (hr : ∀ b o, b ≠ W.heap.size → X.heap[b]? = some o → w'.heap[b]? = some o) (hb : Below W.heap.size X w') : ArI W s' l g w' :=
  ⟨h0, hr _ _ (by omega) h.lo, hr _ _ (by omega) h.hi, hr _ _ (by omega) h.re, h.old.trans hb⟩
theorem ArI.setMn {W : World} {s : St} {l g : Vl} {X : World} (h : ArI W s l g X) : ArI W { s with mn := l } l g (((X.setCell ⟨W.heap.size, 3, none⟩ (.int .i64 l.k)).setCell ⟨W.heap.size, 4, none⟩ (.int .i64 l.n)).setCell ⟨W.heap.size, 5, none⟩ (.string l.s)) :=
  h.put (row_setCell (row_setCell (row_setCell h.st _) _) _) (fun b o hn hx => blk_other (blk_other (blk_other hx hn _) hn _) hn _) ((((Below.refl _ _).setCell (by simp) _).setCell (by simp) _).setCell (by simp) _)
theorem ArI.setMx {W : World} {s : St} {l g : Vl} {X : World} (h : ArI W s l g X) : ArI W { s with mx := g } l g (((X.setCell ⟨W.heap.size, 6, none⟩ (.int .i64 g.k)).setCell ⟨W.heap.size, 7, none⟩ (.int .i64 g.n)).setCell ⟨W.heap.size, 8, none⟩ (.string g.s)) :=
  h.put (row_setCell (row_setCell (row_setCell h.st _) _) _) (fun b o hn hx => blk_other (blk_other (blk_other hx hn _) hn _) hn _) ((((Below.refl _ _).setCell (by simp) _).setCell (by simp) _).setCell (by simp) _)
theorem ArI.setH {W : World} {s : St} {l g : Vl} {X : World} (h : ArI W s l g X) : ArI W { s with h := true } l g (X.setCell ⟨W.heap.size, 2, none⟩ (.bool true)) :=
  h.put (row_setCell h.st _) (fun b o hn hx => blk_other hx hn _) ((Below.refl _ _).setCell (by simp) _)
set_option maxRecDepth 100000 in
set_option maxHeartbeats 1600000 in
/-- From behind the two tests on: Has is set, and all is handed out. -/
theorem around_any (s : St) (l g : Vl) (W : World) (hs : s.Low) (hl : l.Low) (hg : g.Low) :
    Calls Tryd.prog 28 #[s.val, l.val, g.val] W fun e w' => e = .returned (s.around l g).val ∧ Below W.heap.size W w' := by
  obtain ⟨w0, HW0, H1, H2, H3, H4, HB⟩ := four_boxes W s.cs #[.int .i64 l.k, .int .i64 l.n, .string l.s] #[.int .i64 g.k, .int .i64 g.n, .string g.s] #[.int .i64 0, .int .i64 0, .bool false, .int .i64 0, .int .i64 0, .string ⟨#[]⟩, .int .i64 0, .int .i64 0, .string ⟨#[]⟩] 34 23 23 34
  have HI : Hid (ArI W s l g w0) := ⟨H1.out, H2.out, H3.out, H4.out, HB.out⟩
  clear H1 H2 H3 H4 HB
  obtain ⟨h1, h2⟩ := hs
  unfold Vl.Low at h1 h2 hl hg
  have HE : Hid (∀ (t : St) (X : World), ArI W t l g X → (set9 X (W.heap.size + 1 + 1 + 1) (.int .i64 t.e) (.int .i64 t.u) (.bool t.h) (.int .i64 t.mn.k) (.int .i64 t.mn.n) (.string t.mn.s) (.int .i64 t.mx.k) (.int .i64 t.mx.n) (.string t.mx.s)).heap[W.heap.size + 1 + 1 + 1]? = some (.cells t.cs 34 (0, 0)) ∧ Below W.heap.size W (set9 X (W.heap.size + 1 + 1 + 1) (.int .i64 t.e) (.int .i64 t.u) (.bool t.h) (.int .i64 t.mn.k) (.int .i64 t.mn.n) (.string t.mn.s) (.int .i64 t.mx.k) (.int .i64 t.mx.n) (.string t.mx.s))) := fun t X hX =>
    ⟨set9_row hX.re _ _ _ _ _ _ _ _ _, set9_below hX.old (by omega) _ _ _ _ _ _ _ _ _⟩
  unfold St.cs at HW0
  obtain ⟨se, su, sh, sm, sx⟩ := s
  show Calls Tryd.prog 28 #[.agg #[.int .i64 se, .int .i64 su, .bool sh, .int .i64 sm.k, .int .i64 sm.n, .string sm.s, .int .i64 sx.k, .int .i64 sx.n, .string sx.s], .agg #[.int .i64 l.k, .int .i64 l.n, .string l.s], .agg #[.int .i64 g.k, .int .i64 g.n, .string g.s]] W fun e w' => e = .returned (St.around ⟨se, su, sh, sm, sx⟩ l g).val ∧ Below W.heap.size W w'
  go_enter Tryd.func28, Tryd.ntmps28
  obtain ⟨z1, z2⟩ := row_nine HI.out.re
  cases sh
  · obtain ⟨p1, p2⟩ := st_row HI.out.st
    obtain ⟨a0, a1, a2⟩ := row_three HI.out.lo
    obtain ⟨b0, b1, b2⟩ := row_three HI.out.hi
    go_upto_region 1 with fail
    rw [HW0.out]
    go_wp2
    have ht : (⟨se, su, true, l, g⟩ : St) = St.around ⟨se, su, false, sm, sx⟩ l g := rfl
    rw [← ht]
    have h := HE.out _ _ (ArI.setH (ArI.setMx (ArI.setMn HI.out)))
    exact bodyPost_ret (v := .agg (St.cs ⟨se, su, true, l, g⟩)) (results_cell_row Tryd.results28 _ _ (W.heap.size + 1 + 1 + 1) 34 (St.cs ⟨se, su, true, l, g⟩) (0, 0) _ rfl h.1 Tryd.underlying34 rfl (by kernel_rfl)) rfl ⟨rfl, h.2⟩
  · go_wp2_with fail
    rw [HW0.out]
    refine (less_any l.k l.n l.s sm.k sm.n sm.s w0 hl h1).mono ?_
    obtain ⟨b1, HB1⟩ : ∃ b, Hid (vless l.k l.n l.s sm.k sm.n sm.s = b) := ⟨_, rfl⟩
    obtain ⟨b2, HB2⟩ : ∃ b, Hid (vless sx.k sx.n sx.s g.k g.n g.s = b) := ⟨_, rfl⟩
    rw [HB1.out]
    rintro e w1 ⟨rfl, hb1⟩
    have HI1 : Hid _ := HI.out.keep hb1
    clear HI HW0 z1 z2 hb1
    obtain ⟨p1, p2⟩ := st_row HI1.out.st
    obtain ⟨a0, a1, a2⟩ := row_three HI1.out.lo
    obtain ⟨d0, d1, d2⟩ := row_three HI1.out.hi
    obtain ⟨z1, z2⟩ := row_nine HI1.out.re
    have HT : Hid (∀ m x, (if b1 = true then l else sm) = m → (if b2 = true then g else sx) = x → (⟨se, su, true, m, x⟩ : St) = St.around ⟨se, su, true, sm, sx⟩ l g) := fun m x hm hx => by
      subst hm hx
      simp [St.around, lss, HB1.out, HB2.out]
    clear HB1
    cases b1
    all_goals
      go_wp2_with fail
      refine (less_any sx.k sx.n sx.s g.k g.n g.s _ h2 hg).mono ?_
      rw [HB2.out]
      rintro e w2 ⟨rfl, hb2⟩
    · have HI2 : Hid _ := HI1.out.keep hb2
      clear HI1 p1 p2 a0 a1 a2 d0 d1 d2 z1 z2 hb2 HB2
      obtain ⟨p1, p2⟩ := st_row HI2.out.st
      obtain ⟨a0, a1, a2⟩ := row_three HI2.out.lo
      obtain ⟨d0, d1, d2⟩ := row_three HI2.out.hi
      obtain ⟨z1, z2⟩ := row_nine HI2.out.re
      cases b2
      · go_wp2
        rw [← HT.out _ _ rfl rfl]
        have h := HE.out _ _ (ArI.setH HI2.out)
        exact bodyPost_ret (v := .agg (St.cs ⟨se, su, true, sm, sx⟩)) (results_cell_row Tryd.results28 _ _ (W.heap.size + 1 + 1 + 1) 34 (St.cs ⟨se, su, true, sm, sx⟩) (0, 0) _ rfl h.1 Tryd.underlying34 rfl (by kernel_rfl)) rfl ⟨rfl, h.2⟩
      · go_wp2
        rw [← HT.out _ _ rfl rfl]
        have h := HE.out _ _ (ArI.setH (ArI.setMx HI2.out))
        exact bodyPost_ret (v := .agg (St.cs ⟨se, su, true, sm, g⟩)) (results_cell_row Tryd.results28 _ _ (W.heap.size + 1 + 1 + 1) 34 (St.cs ⟨se, su, true, sm, g⟩) (0, 0) _ rfl h.1 Tryd.underlying34 rfl (by kernel_rfl)) rfl ⟨rfl, h.2⟩
    · have HI2 : Hid _ := (ArI.setMn HI1.out).keep hb2
      clear HI1 p1 p2 a0 a1 a2 d0 d1 d2 z1 z2 hb2 HB2
      obtain ⟨p1, p2⟩ := st_row HI2.out.st
      obtain ⟨a0, a1, a2⟩ := row_three HI2.out.lo
      obtain ⟨d0, d1, d2⟩ := row_three HI2.out.hi
      obtain ⟨z1, z2⟩ := row_nine HI2.out.re
      cases b2
      · go_wp2
        rw [← HT.out _ _ rfl rfl]
        have h := HE.out _ _ (ArI.setH HI2.out)
        exact bodyPost_ret (v := .agg (St.cs ⟨se, su, true, l, sx⟩)) (results_cell_row Tryd.results28 _ _ (W.heap.size + 1 + 1 + 1) 34 (St.cs ⟨se, su, true, l, sx⟩) (0, 0) _ rfl h.1 Tryd.underlying34 rfl (by kernel_rfl)) rfl ⟨rfl, h.2⟩
      · go_wp2
        rw [← HT.out _ _ rfl rfl]
        have h := HE.out _ _ (ArI.setH (ArI.setMx HI2.out))
        exact bodyPost_ret (v := .agg (St.cs ⟨se, su, true, l, g⟩)) (results_cell_row Tryd.results28 _ _ (W.heap.size + 1 + 1 + 1) 34 (St.cs ⟨se, su, true, l, g⟩) (0, 0) _ rfl h.1 Tryd.underlying34 rfl (by kernel_rfl)) rfl ⟨rfl, h.2⟩
theorem around_x (s : St) (l g : Vl) (W : World) (hs : s.Low) (hl : l.Low) (hg : g.Low) :
    Calls Tryd.prog 28 #[.agg #[.int .i64 s.e, .int .i64 s.u, .bool s.h, .int .i64 s.mn.k, .int .i64 s.mn.n, .string s.mn.s, .int .i64 s.mx.k, .int .i64 s.mx.n, .string s.mx.s], .agg #[.int .i64 l.k, .int .i64 l.n, .string l.s], .agg #[.int .i64 g.k, .int .i64 g.n, .string g.s]] W fun e w' => (∃ t : St, Hid (t = s.around l g) ∧ e = .returned (.agg #[.int .i64 t.e, .int .i64 t.u, .bool t.h, .int .i64 t.mn.k, .int .i64 t.mn.n, .string t.mn.s, .int .i64 t.mx.k, .int .i64 t.mx.n, .string t.mx.s])) ∧ Below W.heap.size W w' :=
  (around_any s l g W hs hl hg).mono fun _ _ h => ⟨⟨s.around l g, rfl, h.1⟩, h.2⟩
set_option maxRecDepth 100000 in
theorem kindS_any (s : St) (W : World) : Calls Tryd.prog 21 #[s.val] W fun e w' => e = .returned (.int .i64 s.mn.k) ∧ Below W.heap.size W w' := by
  unfold St.val St.cs
  go_enter Tryd.func21, Tryd.ntmps21
  go_wp2
  go_ret
  exact ⟨rfl, (Below.refl _ _).alloc (Nat.le_refl _) _⟩
end Go.Proofs.YthlnjnoeaicjjaaDoor
