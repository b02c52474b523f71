/-
  The reference's ManyError and ValuesError: what they answer.
-/
import Derived.Test.YtjchkhdmjbojjaaDoorKRefErr
import Derived.Test.YtjchkhdmjbojjaaDoorKSmall
import Derived.Test.YtjchkhdmjbojjaaDoorKBWordsMath
namespace Go.Proofs.YtjchkhdmjbojjaaDoor
open Go.RowKit
/-- The number of the error of a kind and a count: 0, none. -/
def manyC (kd n : Int) : Int := if 1 ≤ kd ∧ kd ≤ 5 then (if 0 ≤ n ∧ n ≤ 20000 then 0 else 2) else 4
set_option maxRecDepth 100000 in
set_option maxHeartbeats 800000 in
theorem manyError_any (kd n : Int) (w : World) :
    Calls Tryd.prog 22 #[.int .i64 kd, .int .i64 n] w fun e w' => e = .returned (.agg (rfl2 (manyC kd n) (-1))) ∧ Below w.heap.size w w' := by
  have hcase : (manyC kd n = 4 ∧ kd < 1) ∨ (manyC kd n = 4 ∧ ¬ kd < 1 ∧ 5 < kd) ∨ (manyC kd n = 2 ∧ ¬ kd < 1 ∧ ¬ 5 < kd ∧ n < 0) ∨ (manyC kd n = 2 ∧ ¬ kd < 1 ∧ ¬ 5 < kd ∧ ¬ n < 0 ∧ 20000 < n) ∨ (manyC kd n = 0 ∧ ¬ kd < 1 ∧ ¬ 5 < kd ∧ ¬ n < 0 ∧ ¬ 20000 < n) := by
    unfold manyC; split <;> (try split) <;> omega
  rcases hcase with ⟨e, h⟩ | ⟨e, h, h'⟩ | ⟨e, h, h', h''⟩ | ⟨e, h, h', h'', h3⟩ | ⟨e, h, h', h'', h3⟩
  all_goals
    rw [e]
    clear e
    go_enter Tryd.func22, Tryd.ntmps22
    go_wp2_with (first | (go_at_call 60; refine (bare_any _ _).mono ?_; rintro e w1 ⟨rfl, rfl⟩) | (go_at_call 61; refine (fine_any _).mono ?_; rintro e w1 ⟨rfl, rfl⟩))
    exact bodyPost_ret (v := .agg (rfl2 _ (-1))) (results_cell_row Tryd.results22 _ _ w.heap.size 26 (rfl2 _ (-1)) (0, 0) _ rfl (heap_alloc2_old w _ _) Tryd.underlying26 rfl (by kernel_rfl)) rfl ⟨rfl, ((Below.refl _ _).alloc (Nat.le_refl _) _).alloc (by simp) _⟩
/-- What ValuesError says of the values up to a place. -/
def VE (kd : Int) (vs : List Vl) (i : Nat) (c at_ : Int) : Prop :=
  (c = 0 ∧ at_ = -1 ∧ (1 ≤ kd ∧ kd ≤ 5) ∧ ∀ j (h : j < vs.length), j < i → vs[j].Ok kd) ∨ (c = 4 ∧ at_ = -1 ∧ ¬ (1 ≤ kd ∧ kd ≤ 5)) ∨
  (∃ p : Nat, ∃ hp : p < vs.length, c = 4 ∧ at_ = p ∧ (1 ≤ kd ∧ kd ≤ 5) ∧ ¬ vs[p].Ok kd ∧ ∀ j (h : j < vs.length), j < p → vs[j].Ok kd)
def RetVE (kd : Int) (vs : List Vl) (e : Ending) : Prop := ∃ c at_, e = .returned (.agg (rfl2 c at_)) ∧ VE kd vs vs.length c at_
/-- What the loop keeps. -/
structure VL (kd : Int) (vs : List Vl) (w : World) (g : Nat) (i : Nat) (c at_ : Int) (wr : World) : Prop where
  res : wr.heap[w.heap.size]? = some (.cells (rfl2 0 0) 26 (0, 0))
  f : wr.heap[g]? = some (.cells (rfl2 c at_) 26 (0, 0))
  ve : VE kd vs i c at_
  old : Below w.heap.size w wr
theorem VL.keep {kd : Int} {vs : List Vl} {w : World} {g i j : Nat} {c at_ : Int} {wr w' : World} (h : VL kd vs w g i c at_ wr) (hb : Below wr.heap.size wr w') (hve : VE kd vs j c at_) : VL kd vs w g j c at_ w' :=
  ⟨blk_keep hb h.res, blk_keep hb h.f, hve, h.old.trans (hb.mono h.old.size)⟩
theorem blk_other {w : World} {g k j : Nat} {o : Obj} (h : w.heap[g]? = some o) (hne : g ≠ k) (v : Value) : (w.setCell ⟨k, j, none⟩ v).heap[g]? = some o := by
  rw [Below.heap_setCell _ _ _ _ hne]; exact h
set_option maxRecDepth 100000 in
set_option maxHeartbeats 1600000 in
theorem valuesError_any (a : Option Addr) (c : Nat) (vs : List Vl) (kd : Int) (w : World) (hn : vs.length ≤ 20000) (h : LiesV w a vs) :
    Calls Tryd.prog 8 #[.int .i64 kd, .slice a vs.length c] w fun e w' => RetVE kd vs e ∧ Below w.heap.size w w' := by
  have HL : Hid (LiesV w a vs) := h
  clear h
  have hb0 : Below w.heap.size w (w.alloc (.cells (rfl2 0 0) 26)) := (Below.refl _ _).alloc (Nat.le_refl _) _
  have HR0 : Hid _ := heap_alloc_new w (.cells (rfl2 0 0) 26)
  have HV0 : Hid (VE kd vs 0 (manyC kd vs.length) (-1)) := by
    show VE _ _ _ _ _
    unfold VE manyC
    by_cases hk : 1 ≤ kd ∧ kd ≤ 5
    · left; rw [if_pos hk, if_pos (by omega)]; exact ⟨rfl, rfl, hk, fun j _ hj => absurd hj (by omega)⟩
    · right; left; rw [if_neg hk]; exact ⟨rfl, rfl, hk⟩
  go_enter Tryd.func8, Tryd.ntmps8
  go_wp2_with fail
  refine (manyError_any _ _ _).mono ?_
  rintro e w1 ⟨rfl, hb1⟩
  generalize manyC kd vs.length = c0 at HV0 ⊢
  have HR1 : Hid _ := blk_keep hb1 HR0.out
  have hbb1 := hb0.trans (hb1.mono hb0.size)
  have hsz : w.heap.size < w1.heap.size := lt_of_block HR1.out
  have HV : Hid (VL kd vs w w1.heap.size 0 c0 (-1) (w1.alloc (.cells (rfl2 c0 (-1)) 26))) := ⟨blk_alloc HR1.out, heap_alloc_new w1 _, HV0.out, hbb1.alloc hbb1.size _⟩
  clear HR0 HR1 HV0
  go_wp2_with fail
  go_loopw [6] (fun x wr => ∃ (i : Nat) (c at_ : Int), i ≤ vs.length ∧ x = .int .i64 i ∧ Hid (VL kd vs w w1.heap.size i c at_ wr)) (fun x _ => vs.length - (intOf x).toNat)
  case atStart => exact ⟨0, c0, -1, Nat.zero_le _, rfl, HV⟩
  case round =>
    clear HV
    obtain ⟨i, c2, at2, hi, rfl, HV⟩ := hrel
    obtain ⟨⟨x0, x1⟩, f0, f1⟩ := row_two HV.out.f
    obtain ⟨⟨y0, y1⟩, g0, g1⟩ := row_two HV.out.res
    by_cases hgo : i < vs.length ∧ c2 = 0
    · obtain ⟨hlt, rfl⟩ := hgo
      obtain ⟨b, o, rfl, hc0, hc1, hc2⟩ := (HL.out.keep HV.out.old) i hlt
      generalize hv : vs[i] = v at hc0 hc1 hc2
      obtain ⟨k, n, s⟩ := v
      have HE : Hid (vs[i] = ⟨k, n, s⟩) := hv
      clear hv
      simp only at hc0 hc1 hc2
      go_wp2_with fail
      refine (isValueR_any _ _ _ _ _).mono ?_
      rintro e w2 ⟨rfl, hb2⟩
      have HV2 : Hid _ := HV.out.keep hb2 HV.out.ve
      clear x0 x1 f0 f1 y0 y1 g0 g1 hc0 hc1 hc2
      obtain ⟨⟨x0, x1⟩, f0, f1⟩ := row_two HV2.out.f
      obtain ⟨⟨y0, y1⟩, g0, g1⟩ := row_two HV2.out.res
      by_cases hok : OkV kd k n s.size
      · have hd := okV_iff.2 hok
        have HO : Hid (OkV kd k n s.size) := hok
        clear hok
        go_wp2_with fail
        go_roundw
        case rel =>
          refine ⟨i + 1, 0, at2, by omega, by go_num, HV2.out.keep (Below.refl _ _) ?_⟩
          rcases HV.out.ve with ⟨_, h2, h3, h4⟩ | ⟨h, _⟩ | ⟨p, hp, h, _⟩
          · exact Or.inl ⟨rfl, h2, h3, fun j h hj => if e : j = i then (by subst e; show OkV _ _ _ _; rw [HE.out]; exact HO.out) else h4 j h (by omega)⟩
          · simp at h
          · simp at h
        case measure => simp [intOf]; omega
      · have hd := okV_no hok
        have HO : Hid (¬ OkV kd k n s.size) := hok
        clear hok
        go_wp2_with fail
        go_roundw
        case rel =>
          refine ⟨i + 1, 4, i, by omega, by go_num, ?_⟩
          have hne : w.heap.size ≠ w1.heap.size := by omega
          refine ⟨blk_other (blk_other HV2.out.res hne _) hne _, row_put HV2.out.f 4 i, ?_, (HV2.out.old.setCell (Nat.le_of_lt hsz) _).setCell (Nat.le_of_lt hsz) _⟩
          rcases HV.out.ve with ⟨_, h2, h3, h4⟩ | ⟨h, _⟩ | ⟨p, hp, h, _⟩
          · exact Or.inr (Or.inr ⟨i, hlt, rfl, rfl, h3, (by show ¬ OkV _ _ _ _; rw [HE.out]; exact HO.out), fun j h hj => h4 j h hj⟩)
          · simp at h
          · simp at h
        case measure => simp [intOf]; omega
    · have HW : Hid (VE kd vs vs.length c2 at2) := by
        show VE _ _ _ _ _
        rcases HV.out.ve with ⟨h1, h2, h3, h4⟩ | h | h
        · exact Or.inl ⟨h1, h2, h3, fun j h _ => h4 j h (by omega)⟩
        · exact Or.inr (Or.inl h)
        · exact Or.inr (Or.inr h)
      by_cases hlt : i < vs.length
      · have hc : ¬ c2 = 0 := fun e => hgo ⟨hlt, e⟩
        go_wp2_with fail
        exact bodyPost_ret (v := .agg (rfl2 c2 at2)) (results_cell_row Tryd.results8 _ _ w.heap.size 26 (rfl2 c2 at2) (0, 0) _ rfl (row_put HV.out.res c2 at2) Tryd.underlying26 rfl (by kernel_rfl)) rfl ⟨⟨c2, at2, rfl, HW.out⟩, (HV.out.old.setCell (Nat.le_refl _) _).setCell (Nat.le_refl _) _⟩
      · go_wp2_with fail
        exact bodyPost_ret (v := .agg (rfl2 c2 at2)) (results_cell_row Tryd.results8 _ _ w.heap.size 26 (rfl2 c2 at2) (0, 0) _ rfl (row_put HV.out.res c2 at2) Tryd.underlying26 rfl (by kernel_rfl)) rfl ⟨⟨c2, at2, rfl, HW.out⟩, (HV.out.old.setCell (Nat.le_refl _) _).setCell (Nat.le_refl _) _⟩
end Go.Proofs.YtjchkhdmjbojjaaDoor
