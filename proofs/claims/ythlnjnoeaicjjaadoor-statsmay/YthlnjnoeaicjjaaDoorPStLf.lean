/-
  stats.firstOf, lastOf, shortFrom, leastFrom, greatestTo, walked.
-/
import Derived.Test.YthlnjnoeaicjjaaDoorPStAr
import Derived.Test.YthlnjnoeaicjjaaDoorShelf
namespace Go.Proofs.YthlnjnoeaicjjaaDoor
open Go.RowKit
/-- Three cells of a box are written. -/
abbrev set3 (w : World) (g : Nat) (y0 y1 y2 : Value) : World := ((w.setCell ⟨g, 0, none⟩ y0).setCell ⟨g, 1, none⟩ y1).setCell ⟨g, 2, none⟩ y2
theorem set3_row {w : World} {g t : Nat} {x0 x1 x2 : Value} (h : w.heap[g]? = some (.cells #[x0, x1, x2] t (0, 0))) (y0 y1 y2 : Value) : (set3 w g y0 y1 y2).heap[g]? = some (.cells #[y0, y1, y2] t (0, 0)) := by
  have h0 : (w.setCell ⟨g, 0, none⟩ y0).heap[g]? = some (.cells #[y0, x1, x2] t (0, 0)) := row_setCell h y0
  have h1 : ((w.setCell ⟨g, 0, none⟩ y0).setCell ⟨g, 1, none⟩ y1).heap[g]? = some (.cells #[y0, y1, x2] t (0, 0)) := row_setCell h0 y1
  exact row_setCell h1 y2
theorem set3_below {B g : Nat} {w X : World} (h : Below B w X) (hg : B ≤ g) (y0 y1 y2 : Value) : Below B w (set3 X g y0 y1 y2) := ((h.setCell hg _).setCell hg _).setCell hg _
theorem set3_other {w : World} {g b : Nat} {o : Obj} (h : w.heap[b]? = some o) (hn : b ≠ g) (y0 y1 y2 : Value) : (set3 w g y0 y1 y2).heap[b]? = some o := blk_other (blk_other (blk_other h hn y0) hn y1) hn y2
theorem row_threeF {w : World} {g e : Nat} {x y z : Value} (h : w.heap[g]? = some (.cells #[x, y, z] e (0, 0))) : w.frozen? ⟨g, 0, none⟩ = false ∧ w.frozen? ⟨g, 1, none⟩ = false ∧ w.frozen? ⟨g, 2, none⟩ = false := by
  refine ⟨?_, ?_, ?_⟩ <;> simp [World.frozen?, h]
/-- The first value of a kind. -/
def fstV (k : Int) : Vl := ⟨k, if k = 2 then -2147483648 else if k = 3 then -9223372036854775808 else if k = 5 then -1 else 0, ⟨#[]⟩⟩
set_option maxRecDepth 100000 in
set_option maxHeartbeats 1600000 in
theorem firstOf_any (k : Int) (W : World) : Calls Tryd.prog 33 #[.int .i64 k] W fun e w' => e = .returned (.agg #[.int .i64 (fstV k).k, .int .i64 (fstV k).n, .string (fstV k).s]) ∧ Below W.heap.size W w' := by
  obtain ⟨w0, HW0, HX, HY, HB⟩ := two_boxes W #[.int .i64 0, .int .i64 0, .string ⟨#[]⟩] #[.int .i64 k, .int .i64 0, .string ⟨#[]⟩] 23 23
  obtain ⟨x0, x1, x2⟩ := row_three HX.out
  obtain ⟨x3, x4, x5⟩ := row_threeF HX.out
  obtain ⟨y0, y1, y2⟩ := row_three HY.out
  obtain ⟨y3, y4, y5⟩ := row_threeF HY.out
  go_enter Tryd.func33, Tryd.ntmps33
  go_upto_region 2 with fail
  rw [HW0.out]
  have HE : Hid (∀ (X : World) (n : Int), X.heap[W.heap.size]? = some (.cells #[.int .i64 0, .int .i64 0, .string ⟨#[]⟩] 23 (0, 0)) → Below W.heap.size W X → (set3 X W.heap.size (.int .i64 k) (.int .i64 n) (.string ⟨#[]⟩)).heap[W.heap.size]? = some (.cells #[.int .i64 k, .int .i64 n, .string ⟨#[]⟩] 23 (0, 0)) ∧ Below W.heap.size W (set3 X W.heap.size (.int .i64 k) (.int .i64 n) (.string ⟨#[]⟩))) := fun X n h1 h2 => ⟨set3_row h1 _ _ _, set3_below h2 (Nat.le_refl _) _ _ _⟩
  rcases Decidable.em (k = 2) with h2 | h2
  · subst h2
    go_wp2
    have h := HE.out (w0.setCell ⟨W.heap.size + 1, 1, none⟩ (.int .i64 (-2147483648))) (-2147483648) (blk_other HX.out (by omega) _) (HB.out.setCell (by simp) _)
    exact bodyPost_ret (v := .agg #[.int .i64 2, .int .i64 (-2147483648), .string ⟨#[]⟩]) (results_cell_row Tryd.results33 _ _ W.heap.size 23 #[.int .i64 2, .int .i64 (-2147483648), .string ⟨#[]⟩] (0, 0) _ rfl h.1 Tryd.underlying23 rfl (by kernel_rfl)) rfl ⟨rfl, h.2⟩
  have q2 : (k == 2) = false := by simp [h2]
  rcases Decidable.em (k = 3) with h3 | h3
  · subst h3
    go_wp2
    have h := HE.out (w0.setCell ⟨W.heap.size + 1, 1, none⟩ (.int .i64 (-9223372036854775808))) (-9223372036854775808) (blk_other HX.out (by omega) _) (HB.out.setCell (by simp) _)
    exact bodyPost_ret (v := .agg #[.int .i64 3, .int .i64 (-9223372036854775808), .string ⟨#[]⟩]) (results_cell_row Tryd.results33 _ _ W.heap.size 23 #[.int .i64 3, .int .i64 (-9223372036854775808), .string ⟨#[]⟩] (0, 0) _ rfl h.1 Tryd.underlying23 rfl (by kernel_rfl)) rfl ⟨rfl, h.2⟩
  have q3 : (k == 3) = false := by simp [h3]
  rcases Decidable.em (k = 5) with h5 | h5
  · subst h5
    go_wp2
    have h := HE.out (w0.setCell ⟨W.heap.size + 1, 1, none⟩ (.int .i64 (-1))) (-1) (blk_other HX.out (by omega) _) (HB.out.setCell (by simp) _)
    exact bodyPost_ret (v := .agg #[.int .i64 5, .int .i64 (-1), .string ⟨#[]⟩]) (results_cell_row Tryd.results33 _ _ W.heap.size 23 #[.int .i64 5, .int .i64 (-1), .string ⟨#[]⟩] (0, 0) _ rfl h.1 Tryd.underlying23 rfl (by kernel_rfl)) rfl ⟨rfl, h.2⟩
  have q5 : (k == 5) = false := by simp [h5]
  have HF : Hid (fstV k = ⟨k, 0, ⟨#[]⟩⟩) := (by show _ = _; unfold fstV; rw [if_neg h2, if_neg h3, if_neg h5])
  clear h2 h3 h5
  go_wp2
  have h := HE.out w0 0 HX.out HB.out
  exact bodyPost_ret (v := .agg #[.int .i64 k, .int .i64 (0), .string ⟨#[]⟩]) (results_cell_row Tryd.results33 _ _ W.heap.size 23 #[.int .i64 k, .int .i64 (0), .string ⟨#[]⟩] (0, 0) _ rfl h.1 Tryd.underlying23 rfl (by kernel_rfl)) rfl ⟨by rw [HF.out], h.2⟩
def ffS : ByteArray := ⟨(Lib.repeatL [255] 100).toArray⟩
/-- The last value of a kind. -/
def lstV (k : Int) : Vl := ⟨k, if k = 1 then 1 else if k = 2 then 2147483647 else if k = 3 ∨ k = 5 then 9223372036854775807 else 0, if k = 4 then ffS else ⟨#[]⟩⟩
set_option maxRecDepth 100000 in
set_option maxHeartbeats 1600000 in
theorem lastOf_any (k : Int) (W : World) : Calls Tryd.prog 35 #[.int .i64 k] W fun e w' => e = .returned (.agg #[.int .i64 (lstV k).k, .int .i64 (lstV k).n, .string (lstV k).s]) ∧ Below W.heap.size W w' := by
  obtain ⟨w0, HW0, HX, HY, HB⟩ := two_boxes W #[.int .i64 0, .int .i64 0, .string ⟨#[]⟩] #[.int .i64 k, .int .i64 0, .string ⟨#[]⟩] 23 23
  obtain ⟨x0, x1, x2⟩ := row_three HX.out
  obtain ⟨x3, x4, x5⟩ := row_threeF HX.out
  obtain ⟨y0, y1, y2⟩ := row_three HY.out
  obtain ⟨y3, y4, y5⟩ := row_threeF HY.out
  go_enter Tryd.func35, Tryd.ntmps35
  go_upto_region 2 with fail
  rw [HW0.out]
  have HE : Hid (∀ (X : World) (n : Int), X.heap[W.heap.size]? = some (.cells #[.int .i64 0, .int .i64 0, .string ⟨#[]⟩] 23 (0, 0)) → Below W.heap.size W X → (set3 X W.heap.size (.int .i64 k) (.int .i64 n) (.string ⟨#[]⟩)).heap[W.heap.size]? = some (.cells #[.int .i64 k, .int .i64 n, .string ⟨#[]⟩] 23 (0, 0)) ∧ Below W.heap.size W (set3 X W.heap.size (.int .i64 k) (.int .i64 n) (.string ⟨#[]⟩))) := fun X n h1 h2 => ⟨set3_row h1 _ _ _, set3_below h2 (Nat.le_refl _) _ _ _⟩
  rcases Decidable.em (k = 1) with h1 | h1
  · subst h1
    go_wp2
    have h := HE.out (w0.setCell ⟨W.heap.size + 1, 1, none⟩ (.int .i64 (1))) (1) (blk_other HX.out (by omega) _) (HB.out.setCell (by simp) _)
    exact bodyPost_ret (v := .agg #[.int .i64 1, .int .i64 (1), .string ⟨#[]⟩]) (results_cell_row Tryd.results35 _ _ W.heap.size 23 #[.int .i64 1, .int .i64 (1), .string ⟨#[]⟩] (0, 0) _ rfl h.1 Tryd.underlying23 rfl (by kernel_rfl)) rfl ⟨rfl, h.2⟩
  have q1 : (k == 1) = false := by simp [h1]
  rcases Decidable.em (k = 2) with h2 | h2
  · subst h2
    go_wp2
    have h := HE.out (w0.setCell ⟨W.heap.size + 1, 1, none⟩ (.int .i64 (2147483647))) (2147483647) (blk_other HX.out (by omega) _) (HB.out.setCell (by simp) _)
    exact bodyPost_ret (v := .agg #[.int .i64 2, .int .i64 (2147483647), .string ⟨#[]⟩]) (results_cell_row Tryd.results35 _ _ W.heap.size 23 #[.int .i64 2, .int .i64 (2147483647), .string ⟨#[]⟩] (0, 0) _ rfl h.1 Tryd.underlying23 rfl (by kernel_rfl)) rfl ⟨rfl, h.2⟩
  have q2 : (k == 2) = false := by simp [h2]
  rcases Decidable.em (k = 3) with h3 | h3
  · subst h3
    go_wp2
    have h := HE.out (w0.setCell ⟨W.heap.size + 1, 1, none⟩ (.int .i64 (9223372036854775807))) (9223372036854775807) (blk_other HX.out (by omega) _) (HB.out.setCell (by simp) _)
    exact bodyPost_ret (v := .agg #[.int .i64 3, .int .i64 (9223372036854775807), .string ⟨#[]⟩]) (results_cell_row Tryd.results35 _ _ W.heap.size 23 #[.int .i64 3, .int .i64 (9223372036854775807), .string ⟨#[]⟩] (0, 0) _ rfl h.1 Tryd.underlying23 rfl (by kernel_rfl)) rfl ⟨rfl, h.2⟩
  have q3 : (k == 3) = false := by simp [h3]
  rcases Decidable.em (k = 5) with h5 | h5
  · subst h5
    go_wp2
    have h := HE.out (w0.setCell ⟨W.heap.size + 1, 1, none⟩ (.int .i64 (9223372036854775807))) (9223372036854775807) (blk_other HX.out (by omega) _) (HB.out.setCell (by simp) _)
    exact bodyPost_ret (v := .agg #[.int .i64 5, .int .i64 (9223372036854775807), .string ⟨#[]⟩]) (results_cell_row Tryd.results35 _ _ W.heap.size 23 #[.int .i64 5, .int .i64 (9223372036854775807), .string ⟨#[]⟩] (0, 0) _ rfl h.1 Tryd.underlying23 rfl (by kernel_rfl)) rfl ⟨rfl, h.2⟩
  have q5 : (k == 5) = false := by simp [h5]
  rcases Decidable.em (k = 4) with h4 | h4
  · subst h4
    go_wp2_with fail
    refine (Tryd.strings_Repeat ⟨#[255]⟩ 100 w0 (by omega) (by decide)).mono ?_
    rintro e w1 ⟨rfl, hb1⟩
    clear x0 x1 x2 x3 x4 x5 y0 y1 y2 y3 y4 y5
    have HX1 : Hid _ := blk_keep hb1 HX.out
    have HY1 : Hid _ := blk_keep hb1 HY.out
    have HB1 : Hid (Below W.heap.size W w1) := HB.out.trans (hb1.mono HB.out.size)
    obtain ⟨x0, x1, x2⟩ := row_three HX1.out
    obtain ⟨x3, x4, x5⟩ := row_threeF HX1.out
    obtain ⟨y0, y1, y2⟩ := row_three HY1.out
    obtain ⟨y3, y4, y5⟩ := row_threeF HY1.out
    go_wp2
    have h1 : (w1.setCell ⟨W.heap.size + 1, 2, none⟩ (.string ffS)).heap[W.heap.size]? = _ := blk_other HX1.out (by omega) _
    exact bodyPost_ret (v := .agg #[.int .i64 4, .int .i64 0, .string ffS]) (results_cell_row Tryd.results35 _ _ W.heap.size 23 #[.int .i64 4, .int .i64 0, .string ffS] (0, 0) _ rfl (set3_row h1 _ _ _) Tryd.underlying23 rfl (by kernel_rfl)) rfl ⟨rfl, set3_below (HB1.out.setCell (by simp) _) (Nat.le_refl _) _ _ _⟩
  have q4 : (k == 4) = false := by simp [h4]
  have HF : Hid (lstV k = ⟨k, 0, ⟨#[]⟩⟩) := (by show _ = _; unfold lstV; rw [if_neg h1, if_neg h2, if_neg (by omega), if_neg h4])
  clear h1 h2 h3 h5 h4
  go_wp2
  have h := HE.out w0 0 HX.out HB.out
  exact bodyPost_ret (v := .agg #[.int .i64 k, .int .i64 (0), .string ⟨#[]⟩]) (results_cell_row Tryd.results35 _ _ W.heap.size 23 #[.int .i64 k, .int .i64 (0), .string ⟨#[]⟩] (0, 0) _ rfl h.1 Tryd.underlying23 rfl (by kernel_rfl)) rfl ⟨by rw [HF.out], h.2⟩
end Go.Proofs.YthlnjnoeaicjjaaDoor
