/-
  The walk of the law StatsMerge.
-/
import Derived.Test.YtkcobccmifkjcaaDoorCBStMg
import Derived.Test.YtkcobccmifkjcaaDoorCBCode
namespace Go.Proofs.YtkcobccmifkjcaaDoor
open Go.RowKit
theorem ecT {w : World} {A : Nat → Addr} (h : Errs w A) (i : Nat) (hi : i < 8) : w.cell? ⟨errG i, 0, none⟩ = some (errV (A i)) := (h.at_ i hi).var
/-- What the law's boxes hold. -/
structure LmI (W : World) (a b : St) (X : World) : Prop where
  fst : X.heap[W.heap.size]? = some (.cells a.cs 46 (0, 0))
  snd : X.heap[W.heap.size + 1]? = some (.cells b.cs 46 (0, 0))
  old : Below W.heap.size W X
theorem LmI.keep {W : World} {a b : St} {X w' : World} (h : LmI W a b X) (hb : Below X.heap.size X w') : LmI W a b w' :=
  ⟨blk_keep hb h.fst, blk_keep hb h.snd, h.old.trans (hb.mono h.old.size)⟩
theorem LmI.keep2 {W : World} {a b : St} {X w' : World} (h : LmI W a b X) (hb : Below (W.heap.size + 1 + 1) X w') : LmI W a b w' :=
  ⟨(hb.block _ (by omega)).trans h.fst, (hb.block _ (by omega)).trans h.snd, h.old.trans (hb.mono (by omega))⟩
theorem LmI.fin {W : World} {a b : St} {w1 x3 : World} {g : Nat} (h : LmI W a b w1) (hB : Below w1.heap.size w1 x3) (hz : x3.heap[g]? = some (.cells #[.int .i64 0, .int .i64 0, .bool false, .int .i64 0, .int .i64 0, .string ⟨#[]⟩, .int .i64 0, .int .i64 0, .string ⟨#[]⟩] 36 (0, 0))) (hg : w1.heap.size ≤ g) (s : St) :
    W.heap.size + 1 < g ∧ LmI W a b (set9 x3 g (.int .i64 s.e) (.int .i64 s.u) (.bool s.h) (.int .i64 s.mn.k) (.int .i64 s.mn.n) (.string s.mn.s) (.int .i64 s.mx.k) (.int .i64 s.mx.n) (.string s.mx.s)) ∧ (set9 x3 g (.int .i64 s.e) (.int .i64 s.u) (.bool s.h) (.int .i64 s.mn.k) (.int .i64 s.mn.n) (.string s.mn.s) (.int .i64 s.mx.k) (.int .i64 s.mx.n) (.string s.mx.s)).heap[g]? = some (.cells s.cs 36 (0, 0)) :=
  ⟨Nat.lt_of_lt_of_le (lt_of_block h.snd) hg, h.keep (set9_below hB hg _ _ _ _ _ _ _ _ _), set9_row hz _ _ _ _ _ _ _ _ _⟩
set_option maxRecDepth 100000 in
set_option maxHeartbeats 6400000 in
theorem statsMerge_walk (a b : St) (W : World) (A : Nat → Addr) (hE : Errs W A) (ha : a.Low) (hb : b.Low) :
    Calls Tryd.prog 4 #[.agg #[.int .i64 a.e, .int .i64 a.u, .bool a.h, .int .i64 a.mn.k, .int .i64 a.mn.n, .string a.mn.s, .int .i64 a.mx.k, .int .i64 a.mx.n, .string a.mx.s], .agg #[.int .i64 b.e, .int .i64 b.u, .bool b.h, .int .i64 b.mn.k, .int .i64 b.mn.n, .string b.mn.s, .int .i64 b.mx.k, .int .i64 b.mx.n, .string b.mx.s]] W fun e w' => e = .returned (.bool true) ∧ Below W.heap.size W w' := by
  obtain ⟨w0, HW0, HX, HY, HB⟩ := two_boxes W #[.int .i64 a.e, .int .i64 a.u, .bool a.h, .int .i64 a.mn.k, .int .i64 a.mn.n, .string a.mn.s, .int .i64 a.mx.k, .int .i64 a.mx.n, .string a.mx.s] #[.int .i64 b.e, .int .i64 b.u, .bool b.h, .int .i64 b.mn.k, .int .i64 b.mn.n, .string b.mn.s, .int .i64 b.mx.k, .int .i64 b.mx.n, .string b.mx.s] 46 46
  have HI0 : Hid (LmI W a b w0) := ⟨HX.out, HY.out, HB.out⟩
  have HA0 : Hid (∀ X, Below W.heap.size W X → Errs X A) := fun X hX => hE.keep hX
  clear HX HY HB hE
  go_enter Tryd.func4, Tryd.ntmps4
  go_wp2_with fail
  rw [HW0.out]
  clear HW0
  have hE0 := HA0.out _ HI0.out.old
  refine (two_any w0 _ _ _ _ _ _ (ecT hE0 2 (by omega)) (ecT hE0 3 (by omega)) (ecT hE0 1 (by omega))).mono ?_
  clear hE0
  rintro e w1 ⟨rfl, hb1⟩
  have HI1 : Hid _ := HI0.out.keep hb1
  clear HI0 hb1
  obtain ⟨⟨x0, x1, x2, x3, x4, x5, x6, x7, x8⟩, _⟩ := st_row HI1.out.fst
  obtain ⟨⟨y0, y1, y2, y3, y4, y5, y6, y7, y8⟩, _⟩ := st_row HI1.out.snd
  rcases Decidable.em ((1099511627776 : Int) < a.e) with t0 | t0
  · have q0 : decide ((1099511627776 : Int) < a.e) = true := decide_eq_true t0
    clear t0
    go_wp2
    go_ret
    exact ⟨rfl, HI1.out.old⟩
  have q0 : decide ((1099511627776 : Int) < a.e) = false := decide_eq_false t0
  rcases Decidable.em ((1099511627776 : Int) < b.e) with t1 | t1
  · have q1 : decide ((1099511627776 : Int) < b.e) = true := decide_eq_true t1
    clear t1
    go_wp2
    go_ret
    exact ⟨rfl, HI1.out.old⟩
  have q1 : decide ((1099511627776 : Int) < b.e) = false := decide_eq_false t1
  rcases Decidable.em ((1099511627776 : Int) < a.u) with t2 | t2
  · have q2 : decide ((1099511627776 : Int) < a.u) = true := decide_eq_true t2
    clear t2
    go_wp2
    go_ret
    exact ⟨rfl, HI1.out.old⟩
  have q2 : decide ((1099511627776 : Int) < a.u) = false := decide_eq_false t2
  rcases Decidable.em ((1099511627776 : Int) < b.u) with t3 | t3
  · have q3 : decide ((1099511627776 : Int) < b.u) = true := decide_eq_true t3
    clear t3
    go_wp2
    go_ret
    exact ⟨rfl, HI1.out.old⟩
  have q3 : decide ((1099511627776 : Int) < b.u) = false := decide_eq_false t3
  rcases Decidable.em (a.e < (0 : Int)) with t4 | t4
  · have q4 : decide (a.e < (0 : Int)) = true := decide_eq_true t4
    clear t4
    go_wp2
    go_ret
    exact ⟨rfl, HI1.out.old⟩
  have q4 : decide (a.e < (0 : Int)) = false := decide_eq_false t4
  rcases Decidable.em (b.e < (0 : Int)) with t5 | t5
  · have q5 : decide (b.e < (0 : Int)) = true := decide_eq_true t5
    clear t5
    go_wp2
    go_ret
    exact ⟨rfl, HI1.out.old⟩
  have q5 : decide (b.e < (0 : Int)) = false := decide_eq_false t5
  rcases Decidable.em (a.u < (0 : Int)) with t6 | t6
  · have q6 : decide (a.u < (0 : Int)) = true := decide_eq_true t6
    clear t6
    go_wp2
    go_ret
    exact ⟨rfl, HI1.out.old⟩
  have q6 : decide (a.u < (0 : Int)) = false := decide_eq_false t6
  rcases Decidable.em (b.u < (0 : Int)) with t7 | t7
  · have q7 : decide (b.u < (0 : Int)) = true := decide_eq_true t7
    clear t7
    go_wp2
    go_ret
    exact ⟨rfl, HI1.out.old⟩
  have q7 : decide (b.u < (0 : Int)) = false := decide_eq_false t7
  go_upto_region 6 with fail
  clear q0 q1 q2 q3 q4 q5 q6 q7
  have c1 : -4611686018427387904 ≤ a.e ∧ a.e ≤ 4611686018427387904 := by omega
  have c2 : -4611686018427387904 ≤ b.e ∧ b.e ≤ 4611686018427387904 := by omega
  have c3 : -4611686018427387904 ≤ a.u ∧ a.u ≤ 4611686018427387904 := by omega
  have c4 : -4611686018427387904 ≤ b.u ∧ b.u < 4611686018427387904 := by omega
  have c5 : b.e < 4611686018427387904 := by omega
  clear t0 t1 t2 t3 t4 t5 t6 t7
  have hE1 := HA0.out _ HI1.out.old
  go_cut [6, 7] (fun x y wx => ∃ (s : St) (g : Nat), x = .pointer (some ⟨g, 0, none⟩) ∧ Hid (W.heap.size + 1 < g) ∧ Hid (LmI W a b wx) ∧ Hid (wx.heap[g]? = some (.cells s.cs 36 (0, 0))) ∧ Hid (MgR a b (errV (A 3)) s y))
  case first =>
    clear hE1
    have b0 : Below w1.heap.size w1 w1 := Below.refl _ _
    have HN : Hid (∀ X, Below w1.heap.size w1 X → (X.cell? ⟨W.heap.size, 0, none⟩ = some (.int .i64 a.e) ∧ X.cell? ⟨W.heap.size, 1, none⟩ = some (.int .i64 a.u) ∧ X.cell? ⟨W.heap.size, 2, none⟩ = some (.bool a.h) ∧ X.cell? ⟨W.heap.size, 3, none⟩ = some (.int .i64 a.mn.k) ∧ X.cell? ⟨W.heap.size, 4, none⟩ = some (.int .i64 a.mn.n) ∧ X.cell? ⟨W.heap.size, 5, none⟩ = some (.string a.mn.s) ∧ X.cell? ⟨W.heap.size, 6, none⟩ = some (.int .i64 a.mx.k) ∧ X.cell? ⟨W.heap.size, 7, none⟩ = some (.int .i64 a.mx.n) ∧ X.cell? ⟨W.heap.size, 8, none⟩ = some (.string a.mx.s)) ∧ (X.cell? ⟨W.heap.size + 1, 0, none⟩ = some (.int .i64 b.e) ∧ X.cell? ⟨W.heap.size + 1, 1, none⟩ = some (.int .i64 b.u) ∧ X.cell? ⟨W.heap.size + 1, 2, none⟩ = some (.bool b.h) ∧ X.cell? ⟨W.heap.size + 1, 3, none⟩ = some (.int .i64 b.mn.k) ∧ X.cell? ⟨W.heap.size + 1, 4, none⟩ = some (.int .i64 b.mn.n) ∧ X.cell? ⟨W.heap.size + 1, 5, none⟩ = some (.string b.mn.s) ∧ X.cell? ⟨W.heap.size + 1, 6, none⟩ = some (.int .i64 b.mx.k) ∧ X.cell? ⟨W.heap.size + 1, 7, none⟩ = some (.int .i64 b.mx.n) ∧ X.cell? ⟨W.heap.size + 1, 8, none⟩ = some (.string b.mx.s)) ∧ Below w1.heap.size w1 X) := fun X hX => ⟨(st_row (blk_keep hX HI1.out.fst)).1, (st_row (blk_keep hX HI1.out.snd)).1, hX⟩
    have HOA : Hid (∀ X, Below w1.heap.size w1 X → Calls Tryd.prog 14 #[.agg #[.int .i64 a.e, .int .i64 a.u, .bool a.h, .int .i64 a.mn.k, .int .i64 a.mn.n, .string a.mn.s, .int .i64 a.mx.k, .int .i64 a.mx.n, .string a.mx.s]] X fun e w' => e = .returned (.agg #[.int .i64 a.e, .int .i64 a.u, .bool a.h, .int .i64 a.mn.k, .int .i64 a.mn.n, .string a.mn.s, .int .i64 a.mx.k, .int .i64 a.mx.n, .string a.mx.s]) ∧ Below w1.heap.size w1 w' ∧ Below X.heap.size X w') := fun X hX => (statsOfL_any a X).mono fun _ _ h => ⟨h.1, bel_next hX (Nat.le_refl _) h.2, h.2⟩
    have HOB : Hid (∀ X, Below w1.heap.size w1 X → Calls Tryd.prog 14 #[.agg #[.int .i64 b.e, .int .i64 b.u, .bool b.h, .int .i64 b.mn.k, .int .i64 b.mn.n, .string b.mn.s, .int .i64 b.mx.k, .int .i64 b.mx.n, .string b.mx.s]] X fun e w' => e = .returned (.agg #[.int .i64 b.e, .int .i64 b.u, .bool b.h, .int .i64 b.mn.k, .int .i64 b.mn.n, .string b.mn.s, .int .i64 b.mx.k, .int .i64 b.mx.n, .string b.mx.s]) ∧ Below w1.heap.size w1 w' ∧ Below X.heap.size X w') := fun X hX => (statsOfL_any b X).mono fun _ _ h => ⟨h.1, bel_next hX (Nat.le_refl _) h.2, h.2⟩
    have HOM : Hid (∀ X, Below w1.heap.size w1 X → Calls Tryd.prog 16 #[.agg #[.int .i64 a.e, .int .i64 a.u, .bool a.h, .int .i64 a.mn.k, .int .i64 a.mn.n, .string a.mn.s, .int .i64 a.mx.k, .int .i64 a.mx.n, .string a.mx.s], .agg #[.int .i64 b.e, .int .i64 b.u, .bool b.h, .int .i64 b.mn.k, .int .i64 b.mn.n, .string b.mn.s, .int .i64 b.mx.k, .int .i64 b.mx.n, .string b.mx.s]] X fun e w' => (∃ (s : St) (ev : Value), e = .returned (.tuple #[.agg #[.int .i64 s.e, .int .i64 s.u, .bool s.h, .int .i64 s.mn.k, .int .i64 s.mn.n, .string s.mn.s, .int .i64 s.mx.k, .int .i64 s.mx.n, .string s.mx.s], ev]) ∧ MgR a b (errV (A 3)) s ev) ∧ Below w1.heap.size w1 w' ∧ Below X.heap.size X w') := fun X hX => (merge_any a b X _ _ (ecT (HA0.out _ (HI1.out.keep hX).old) 3 (by omega)) ha hb c1 c2 c3 c4 c5).mono fun _ _ h => ⟨h.1, bel_next hX (Nat.le_refl _) h.2, h.2⟩
    go_region_held3 (fun X => (X.cell? ⟨W.heap.size, 0, none⟩ = some (.int .i64 a.e) ∧ X.cell? ⟨W.heap.size, 1, none⟩ = some (.int .i64 a.u) ∧ X.cell? ⟨W.heap.size, 2, none⟩ = some (.bool a.h) ∧ X.cell? ⟨W.heap.size, 3, none⟩ = some (.int .i64 a.mn.k) ∧ X.cell? ⟨W.heap.size, 4, none⟩ = some (.int .i64 a.mn.n) ∧ X.cell? ⟨W.heap.size, 5, none⟩ = some (.string a.mn.s) ∧ X.cell? ⟨W.heap.size, 6, none⟩ = some (.int .i64 a.mx.k) ∧ X.cell? ⟨W.heap.size, 7, none⟩ = some (.int .i64 a.mx.n) ∧ X.cell? ⟨W.heap.size, 8, none⟩ = some (.string a.mx.s)) ∧ (X.cell? ⟨W.heap.size + 1, 0, none⟩ = some (.int .i64 b.e) ∧ X.cell? ⟨W.heap.size + 1, 1, none⟩ = some (.int .i64 b.u) ∧ X.cell? ⟨W.heap.size + 1, 2, none⟩ = some (.bool b.h) ∧ X.cell? ⟨W.heap.size + 1, 3, none⟩ = some (.int .i64 b.mn.k) ∧ X.cell? ⟨W.heap.size + 1, 4, none⟩ = some (.int .i64 b.mn.n) ∧ X.cell? ⟨W.heap.size + 1, 5, none⟩ = some (.string b.mn.s) ∧ X.cell? ⟨W.heap.size + 1, 6, none⟩ = some (.int .i64 b.mx.k) ∧ X.cell? ⟨W.heap.size + 1, 7, none⟩ = some (.int .i64 b.mx.n) ∧ X.cell? ⟨W.heap.size + 1, 8, none⟩ = some (.string b.mx.s)) ∧ Below w1.heap.size w1 X) (with_reducible refine HN.out _ ?_; repeat' (first | with_reducible assumption | with_reducible exact b0.drew | with_reducible exact b0 | with_reducible refine Below.drew ?_ | with_reducible exact Nat.le_refl _ | with_reducible refine Below.setCell ?_ ?_ _ | with_reducible refine Below.alloc ?_ ?_ _ | with_reducible exact Below.size (by assumption) | (simp; done) | (simp; omega) | omega)) (first | (go_at_call 14; (first | (with_reducible refine Calls.mono (HOA.out _ ?_) ?_) | (with_reducible refine Calls.mono (HOB.out _ ?_) ?_)); (repeat' (first | with_reducible assumption | with_reducible exact b0.drew | with_reducible exact b0 | with_reducible refine Below.drew ?_ | with_reducible refine Below.alloc ?_ ?_ _ | with_reducible exact Below.size (by assumption) | with_reducible exact Nat.le_refl _)); rintro e x1 ⟨rfl, hbx1, hraw1⟩; (first | (have hzz := blk_keep hraw1 hzz0; clear hzz0; have hzz0 := hzz; clear hzz) | (have hzz0 := blk_keep hraw1 (blk_drew (heap_alloc_new _ (.cells #[.int .i64 0, .int .i64 0, .bool false, .int .i64 0, .int .i64 0, .string ⟨#[]⟩, .int .i64 0, .int .i64 0, .string ⟨#[]⟩] 36)))) | (have hzz0 := blk_keep hraw1 (heap_alloc_new _ (.cells #[.int .i64 0, .int .i64 0, .bool false, .int .i64 0, .int .i64 0, .string ⟨#[]⟩, .int .i64 0, .int .i64 0, .string ⟨#[]⟩] 36))) | skip)) | (go_at_call 16; (with_reducible refine Calls.mono (HOM.out _ ?_) ?_); (repeat' (first | with_reducible assumption | with_reducible exact b0.drew | with_reducible exact b0 | with_reducible refine Below.drew ?_ | with_reducible refine Below.alloc ?_ ?_ _ | with_reducible exact Below.size (by assumption) | with_reducible exact Nat.le_refl _)); rintro e x3 ⟨⟨s, ev, rfl, hmr⟩, hbx3, hraw3⟩; have HMR : Hid (MgR a b (errV (A 3)) s ev) := hmr; have HBX3 : Hid _ := hbx3; clear hmr; (first | (have hzz := blk_keep hraw3 hzz0; clear hzz0; have hzz0 := hzz; clear hzz) | (have hzz0 := blk_keep hraw3 (blk_drew (heap_alloc_new _ (.cells #[.int .i64 0, .int .i64 0, .bool false, .int .i64 0, .int .i64 0, .string ⟨#[]⟩, .int .i64 0, .int .i64 0, .string ⟨#[]⟩] 36)))) | (have hzz0 := blk_keep hraw3 (heap_alloc_new _ (.cells #[.int .i64 0, .int .i64 0, .bool false, .int .i64 0, .int .i64 0, .string ⟨#[]⟩, .int .i64 0, .int .i64 0, .string ⟨#[]⟩] 36))) | skip); (first | (obtain ⟨z1, z2⟩ := row_nine hzz0; have HZZ : Hid _ := hzz0; clear hzz0) | skip)))
    · go_wp2_with fail
      go_meet
      exact ⟨s, x3.heap.size, rfl, Nat.lt_of_lt_of_le (lt_of_block HI1.out.snd) HBX3.out.size, HI1.out.keep (HBX3.out.alloc HBX3.out.size _), heap_alloc_new _ _, HMR⟩
    all_goals
      go_wp2_with fail
      go_meet
      have h := LmI.fin HI1.out HBX3.out HZZ.out (by first | exact Nat.le_refl _ | exact Below.size (by assumption)) s
      exact ⟨s, _, rfl, h.1, h.2.1, h.2.2, HMR⟩
  case rest =>
    obtain ⟨s, g, rfl, HG, HI, HS, HMR⟩ := hcut
    rename World => wx
    rename Value => ev
    clear HI1 hE1 x0 x1 x2 x3 x4 x5 x6 x7 x8 y0 y1 y2 y3 y4 y5 y6 y7 y8
    obtain ⟨⟨x0, x1, x2, x3, x4, x5, x6, x7, x8⟩, _⟩ := st_row HI.out.fst
    obtain ⟨⟨y0, y1, y2, y3, y4, y5, y6, y7, y8⟩, _⟩ := st_row HI.out.snd
    go_wp2_with fail
    refine (mergedOf_any a b wx ha hb c1 c2 c3 c4 c5).mono ?_
    rintro e w3 ⟨⟨t, c, rfl, hmo⟩, hb3⟩
    have HI3 : Hid _ := HI.out.keep hb3
    have HS3 : Hid _ := blk_keep hb3 HS.out
    rcases HMR.out with ⟨hu, rfl, rfl⟩ | ⟨hu, rfl, rfl⟩
    · obtain ⟨rfl, rfl⟩ : t = St.zero ∧ c = 4 := by
        rcases hmo with ⟨_, h1, h2⟩ | ⟨h0, _⟩
        · exact ⟨h1, h2⟩
        · rw [hu] at h0; cases h0
      clear hmo hu HMR x0 x1 x2 x3 x4 x5 x6 x7 x8 y0 y1 y2 y3 y4 y5 y6 y7 y8 HI HS
      have HB4 : Hid (Below w3.heap.size w3 (w3.alloc (.cells #[.int .i64 0, .int .i64 0, .bool false, .int .i64 0, .int .i64 0, .string ⟨#[]⟩, .int .i64 0, .int .i64 0, .string ⟨#[]⟩] 46))) := (Below.refl _ _).alloc (Nat.le_refl _) _
      have HI4 : Hid _ := HI3.out.keep HB4.out
      have HS4 : Hid ((w3.alloc (.cells #[.int .i64 0, .int .i64 0, .bool false, .int .i64 0, .int .i64 0, .string ⟨#[]⟩, .int .i64 0, .int .i64 0, .string ⟨#[]⟩] 46)).heap[g]? = some (.cells #[.int .i64 0, .int .i64 0, .bool false, .int .i64 0, .int .i64 0, .string ⟨#[]⟩, .int .i64 0, .int .i64 0, .string ⟨#[]⟩] 36 (0, 0))) := blk_keep HB4.out HS3.out
      unfold St.val St.cs St.zero Vl.zero
      go_wp2_with fail
      refine (coded_sent _ A (HA0.out _ HI4.out.old) 3 (by omega) 4 true rfl).mono ?_
      rintro e w5 ⟨rfl, hb5⟩
      have HI5 : Hid _ := HI4.out.keep hb5
      have HS5 : Hid _ := blk_keep hb5 HS4.out
      clear hb5
      obtain ⟨⟨x0, x1, x2, x3, x4, x5, x6, x7, x8⟩, _⟩ := row_nine HS5.out
      go_wp2
      go_ret
      exact ⟨rfl, HI5.out.old⟩
    · obtain ⟨rfl, rfl⟩ : t = a.merge b ∧ c = 0 := by
        rcases hmo with ⟨h0, _⟩ | ⟨_, h1, h2⟩
        · rw [hu] at h0; cases h0
        · exact ⟨h1, h2⟩
      clear hmo hu HMR x0 x1 x2 x3 x4 x5 x6 x7 x8 y0 y1 y2 y3 y4 y5 y6 y7 y8 HI HS
      generalize a.merge b = t at *
      have HB4 : Hid (Below w3.heap.size w3 (w3.alloc (.cells #[.int .i64 t.e, .int .i64 t.u, .bool t.h, .int .i64 t.mn.k, .int .i64 t.mn.n, .string t.mn.s, .int .i64 t.mx.k, .int .i64 t.mx.n, .string t.mx.s] 46))) := (Below.refl _ _).alloc (Nat.le_refl _) _
      have HI4 : Hid _ := HI3.out.keep HB4.out
      have HS4 : Hid _ := blk_keep HB4.out HS3.out
      have HT4 : Hid _ := heap_alloc_new w3 (.cells #[.int .i64 t.e, .int .i64 t.u, .bool t.h, .int .i64 t.mn.k, .int .i64 t.mn.n, .string t.mn.s, .int .i64 t.mx.k, .int .i64 t.mx.n, .string t.mx.s] 46)
      unfold St.val St.cs
      go_wp2_with fail
      obtain ⟨wq, HWQ⟩ : ∃ w, Hid (w3.alloc (.cells #[.int .i64 t.e, .int .i64 t.u, .bool t.h, .int .i64 t.mn.k, .int .i64 t.mn.n, .string t.mn.s, .int .i64 t.mx.k, .int .i64 t.mx.n, .string t.mx.s] 46) = w) := ⟨_, rfl⟩
      rw [HWQ.out] at HI4 HS4 HT4
      rw [HWQ.out]
      clear HB4 HWQ
      have b0 : Below wq.heap.size wq wq := Below.refl _ _
      have HN : Hid (∀ X, Below wq.heap.size wq X → (X.cell? ⟨g, 0, none⟩ = some (.int .i64 t.e) ∧ X.cell? ⟨g, 1, none⟩ = some (.int .i64 t.u) ∧ X.cell? ⟨g, 2, none⟩ = some (.bool t.h) ∧ X.cell? ⟨g, 3, none⟩ = some (.int .i64 t.mn.k) ∧ X.cell? ⟨g, 4, none⟩ = some (.int .i64 t.mn.n) ∧ X.cell? ⟨g, 5, none⟩ = some (.string t.mn.s) ∧ X.cell? ⟨g, 6, none⟩ = some (.int .i64 t.mx.k) ∧ X.cell? ⟨g, 7, none⟩ = some (.int .i64 t.mx.n) ∧ X.cell? ⟨g, 8, none⟩ = some (.string t.mx.s)) ∧ (X.cell? ⟨w3.heap.size, 0, none⟩ = some (.int .i64 t.e) ∧ X.cell? ⟨w3.heap.size, 1, none⟩ = some (.int .i64 t.u) ∧ X.cell? ⟨w3.heap.size, 2, none⟩ = some (.bool t.h) ∧ X.cell? ⟨w3.heap.size, 3, none⟩ = some (.int .i64 t.mn.k) ∧ X.cell? ⟨w3.heap.size, 4, none⟩ = some (.int .i64 t.mn.n) ∧ X.cell? ⟨w3.heap.size, 5, none⟩ = some (.string t.mn.s) ∧ X.cell? ⟨w3.heap.size, 6, none⟩ = some (.int .i64 t.mx.k) ∧ X.cell? ⟨w3.heap.size, 7, none⟩ = some (.int .i64 t.mx.n) ∧ X.cell? ⟨w3.heap.size, 8, none⟩ = some (.string t.mx.s)) ∧ Below wq.heap.size wq X) := fun X hX => ⟨(st_row (blk_keep hX HS4.out)).1, (st_row (s := t) (blk_keep hX HT4.out)).1, hX⟩
      have HOA : Hid (∀ X, Below wq.heap.size wq X → Calls Tryd.prog 14 #[.agg #[.int .i64 t.e, .int .i64 t.u, .bool t.h, .int .i64 t.mn.k, .int .i64 t.mn.n, .string t.mn.s, .int .i64 t.mx.k, .int .i64 t.mx.n, .string t.mx.s]] X fun e w' => e = .returned (.agg #[.int .i64 t.e, .int .i64 t.u, .bool t.h, .int .i64 t.mn.k, .int .i64 t.mn.n, .string t.mn.s, .int .i64 t.mx.k, .int .i64 t.mx.n, .string t.mx.s]) ∧ Below wq.heap.size wq w') := fun X hX => (statsOfL_any t X).mono fun _ _ h => ⟨h.1, bel_next hX (Nat.le_refl _) h.2⟩
      go_region_held3 (fun X => (X.cell? ⟨g, 0, none⟩ = some (.int .i64 t.e) ∧ X.cell? ⟨g, 1, none⟩ = some (.int .i64 t.u) ∧ X.cell? ⟨g, 2, none⟩ = some (.bool t.h) ∧ X.cell? ⟨g, 3, none⟩ = some (.int .i64 t.mn.k) ∧ X.cell? ⟨g, 4, none⟩ = some (.int .i64 t.mn.n) ∧ X.cell? ⟨g, 5, none⟩ = some (.string t.mn.s) ∧ X.cell? ⟨g, 6, none⟩ = some (.int .i64 t.mx.k) ∧ X.cell? ⟨g, 7, none⟩ = some (.int .i64 t.mx.n) ∧ X.cell? ⟨g, 8, none⟩ = some (.string t.mx.s)) ∧ (X.cell? ⟨w3.heap.size, 0, none⟩ = some (.int .i64 t.e) ∧ X.cell? ⟨w3.heap.size, 1, none⟩ = some (.int .i64 t.u) ∧ X.cell? ⟨w3.heap.size, 2, none⟩ = some (.bool t.h) ∧ X.cell? ⟨w3.heap.size, 3, none⟩ = some (.int .i64 t.mn.k) ∧ X.cell? ⟨w3.heap.size, 4, none⟩ = some (.int .i64 t.mn.n) ∧ X.cell? ⟨w3.heap.size, 5, none⟩ = some (.string t.mn.s) ∧ X.cell? ⟨w3.heap.size, 6, none⟩ = some (.int .i64 t.mx.k) ∧ X.cell? ⟨w3.heap.size, 7, none⟩ = some (.int .i64 t.mx.n) ∧ X.cell? ⟨w3.heap.size, 8, none⟩ = some (.string t.mx.s)) ∧ Below wq.heap.size wq X) (with_reducible refine HN.out _ ?_; repeat' (first | with_reducible assumption | with_reducible exact b0.drew | with_reducible exact b0 | with_reducible refine Below.drew ?_ | with_reducible exact Nat.le_refl _ | with_reducible refine Below.setCell ?_ ?_ _ | with_reducible refine Below.alloc ?_ ?_ _ | with_reducible exact Below.size (by assumption) | (simp; done) | (simp; omega) | omega)) (first | (go_at_call 14; (with_reducible refine Calls.mono (HOA.out _ ?_) ?_); (repeat' (first | with_reducible assumption | with_reducible exact b0.drew | with_reducible exact b0 | with_reducible refine Below.drew ?_ | with_reducible refine Below.alloc ?_ ?_ _ | with_reducible exact Below.size (by assumption) | with_reducible exact Nat.le_refl _)); rintro e x1 ⟨rfl, hbx1⟩))
      all_goals
        go_wp2
        go_ret
        exact ⟨rfl, HI4.out.old.trans (hbx1.mono HI4.out.old.size)⟩
end Go.Proofs.YtkcobccmifkjcaaDoor
