/-
  plain.Code of a *api.Fault round one of the eight errors: the error's number, and the place; of a new error: -1, and no place.
  From what the rows list to what the walks use: the eight errors and the handle of the type error.
-/
import Derived.Test.YtjchkhdmjbojjaaDoorKBCode
namespace Go.Proofs.YtjchkhdmjbojjaaDoor
open Go.RowKit Go.Extern.Stop Go.Stop Go.Extern
/-- errors.Is of a fault round one of them and another one. -/
theorem is_fault_errs {W : World} {A : Nat → Addr} (h : Errs W A) {i j p : Nat} (hi : i < 8) (hj : j < 8) (hne : i ≠ j) (h1 : W.cell? ⟨p, 1, none⟩ = some (errV (A i))) :
    Calls Tryd.prog 70 #[.iface 84 (.pointer (some ⟨p, 0, none⟩)), errV (A j)] W fun e w' => e = .returned (.bool false) ∧ w' = W := by
  obtain ⟨c1, t1, r1⟩ := (h.at_ i hi).row
  obtain ⟨c2, t2, r2⟩ := (h.at_ j hj).row
  exact is_fault_other p (A i) (A j) c1 c2 t1 t2 W h1 (h.ne hi hj hne) r1 r2
set_option maxHeartbeats 1000000 in
set_option maxRecDepth 100000 in
theorem code_fault (w : World) (A : Nat → Addr) (h : Errs w A) (i p : Nat) (hi : i < 8) (at_ : Int) (h0 : w.cell? ⟨p, 0, none⟩ = some (.int .i64 at_)) (h1 : w.cell? ⟨p, 1, none⟩ = some (errV (A i))) :
    Calls Tryd.prog 30 #[.iface 84 (.pointer (some ⟨p, 0, none⟩))] w fun e w' => e = .returned (.tuple #[.int .i64 ((i : Int) + 1), .int .i64 at_]) ∧ Below w.heap.size w w' := by
  have hp := World.block_lt_of_cell? w _ h0
  have hb0 : Below w.heap.size w (w.alloc (.cells #[.pointer none] 84)) := (Below.refl _ _).alloc (Nat.le_refl _) _
  have k1 := h.keep hb0
  have HA : Hid (Errs w A) := h
  have H0 : Hid (w.cell? ⟨p, 0, none⟩ = some (.int .i64 at_)) := h0
  have H1 : Hid (w.cell? ⟨p, 1, none⟩ = some (errV (A i))) := h1
  clear h h0 h1
  go_enter Tryd.func30, Tryd.ntmps30
  go_wp2_with fail
  refine (as_hit _ _ (.pointer none) _ k1.handle (by simp) (by simp)).mono ?_
  rintro e w0 ⟨rfl, w1, hb1, hw⟩
  have hb2 : Below w.heap.size w w1 := hb0.trans (hb1.mono hb0.size)
  have hb3 : Below w.heap.size w w0 := by rw [hw]; exact hb2.setCell (Nat.le_refl _) _
  have hf : w0.cell? ⟨w.heap.size, 0, none⟩ = some (.pointer (some ⟨p, 0, none⟩)) := by
    have h5 : w1.cell? ⟨w.heap.size, 0, none⟩ = some (.pointer none) := by rw [hb1.cell (by simp)]; simp
    rw [hw]; exact World.cell?_setCell_same _ _ _ h5
  have c0 := (hb3.cell hp).trans H0.out
  have c1 : w0.cell? ⟨p, 1, none⟩ = some (errV (A i)) := (hb3.cell hp).trans H1.out
  have h2 := HA.out.keep hb3
  have g0 := (h2.at_ 0 (by omega)).var
  have g1 := (h2.at_ 1 (by omega)).var
  have g2 := (h2.at_ 2 (by omega)).var
  have g3 := (h2.at_ 3 (by omega)).var
  have g4 := (h2.at_ 4 (by omega)).var
  have g5 := (h2.at_ 5 (by omega)).var
  have g6 := (h2.at_ 6 (by omega)).var
  have g7 := (h2.at_ 7 (by omega)).var
  simp only [errG] at g0 g1 g2 g3 g4 g5 g6 g7
  clear k1 hb0 hb1 hb2 hw
  go_wp2_with fail
  clear g0 g1 g2 g3 g4 g5 g6 g7
  have HS : Hid (Eight w A w0.heap.size (w0.alloc (.cells (eightV A) 29))) := Eight.start hb3 h2
  have HC : Hid ((w0.alloc (.cells (eightV A) 29)).cell? ⟨p, 1, none⟩ = some (errV (A i))) := (World.cell?_alloc_lt _ _ _ (World.block_lt_of_cell? _ _ c1)).trans c1
  clear h2 hb3 c1 c0 hf
  go_loopw [3, 26] (fun y x wr => ∃ k : Nat, k ≤ i ∧ y = .int .i64 at_ ∧ x = .int .i64 k ∧ Hid (Eight w A w0.heap.size wr) ∧ Hid (wr.cell? ⟨p, 1, none⟩ = some (errV (A i)))) (fun _ x _ => 8 - (intOf x).toNat)
  case atStart => exact ⟨0, Nat.zero_le _, rfl, rfl, HS, HC⟩
  case round =>
    obtain ⟨k, hk, rfl, rfl, HE, HP⟩ := hrel
    have hck := HE.out.cell k (by omega)
    by_cases hki : k = i
    · subst hki
      go_wp2_with (go_at_call 70; refine (is_fault_same p _ _ HP.out).mono ?_; rintro e w' ⟨rfl, rfl⟩)
      go_ret2
      exact ⟨rfl, HE.out.old⟩
    · go_wp2_with (go_at_call 70; refine (is_fault_errs HE.out.errs hi (by omega) (fun e => hki e.symm) HP.out).mono ?_; rintro e w' ⟨rfl, hw'⟩; subst hw')
      go_roundw
      case rel => exact ⟨k + 1, by omega, rfl, by go_num, HE, HP⟩
      case measure => simp [intOf]; omega
set_option maxHeartbeats 1000000 in
set_option maxRecDepth 100000 in
/-- A new error, none of the eight. -/
theorem code_new (w : World) (A : Nat → Addr) (h : Errs w A) (a : Addr) (c : Array Value) (ty : TypeId) (ha : w.heap[a.block]? = some (.cells c ty (0, 0))) (hne : ∀ i, i < 8 → a ≠ A i) :
    Calls Tryd.prog 30 #[errV a] w fun e w' => e = .returned (.tuple #[.int .i64 (-1), .int .i64 (-1)]) ∧ Below w.heap.size w w' := by
  have hb0 : Below w.heap.size w (w.alloc (.cells #[.pointer none] 84)) := (Below.refl _ _).alloc (Nat.le_refl _) _
  have h1 := h.keep hb0
  have hal : a.block < w.heap.size := (Array.getElem?_eq_some_iff.1 ha).1
  have HA : Hid (Errs w A) := h
  have HX : Hid (w.heap[a.block]? = some (.cells c ty (0, 0))) := ha
  have HN : Hid (∀ i, i < 8 → a ≠ A i) := hne
  clear h ha hne
  go_enter Tryd.func30, Tryd.ntmps30
  go_wp2_with fail
  refine (as_miss _ _ _ h1.handle).mono ?_
  rintro e w1 ⟨rfl, hb1⟩
  have hb2 : Below w.heap.size w w1 := hb0.trans (hb1.mono hb0.size)
  have h2 := HA.out.keep hb2
  have g0 := (h2.at_ 0 (by omega)).var
  have g1 := (h2.at_ 1 (by omega)).var
  have g2 := (h2.at_ 2 (by omega)).var
  have g3 := (h2.at_ 3 (by omega)).var
  have g4 := (h2.at_ 4 (by omega)).var
  have g5 := (h2.at_ 5 (by omega)).var
  have g6 := (h2.at_ 6 (by omega)).var
  have g7 := (h2.at_ 7 (by omega)).var
  simp only [errG] at g0 g1 g2 g3 g4 g5 g6 g7
  clear h1 hb0 hb1
  go_wp2_with fail
  clear g0 g1 g2 g3 g4 g5 g6 g7
  have HS : Hid (Eight w A w1.heap.size (w1.alloc (.cells (eightV A) 29))) := Eight.start hb2 h2
  clear h2 hb2
  go_loopw [3, 26] (fun y x wr => ∃ k : Nat, k ≤ 8 ∧ y = .int .i64 (-1) ∧ x = .int .i64 k ∧ Hid (Eight w A w1.heap.size wr)) (fun _ x _ => 8 - (intOf x).toNat)
  case atStart => exact ⟨0, Nat.zero_le _, rfl, rfl, HS⟩
  case round =>
    obtain ⟨k, hk, rfl, rfl, HE⟩ := hrel
    by_cases hki : k < 8
    · have hck := HE.out.cell k hki
      have HR : Hid (∃ cb tb, wr.heap[(A k).block]? = some (.cells cb tb (0, 0))) := (HE.out.errs.at_ k hki).row
      have HY : Hid (wr.heap[a.block]? = some (.cells c ty (0, 0))) := (HE.out.old.block _ hal).trans HX.out
      obtain ⟨cb, tb, hr⟩ := HR.out
      have HRR : Hid (wr.heap[(A k).block]? = some (.cells cb tb (0, 0))) := hr
      clear hr
      go_wp2_with (go_at_call 70; refine (is_other a (A k) c cb ty tb _ (HN.out k hki) HY.out HRR.out).mono ?_; rintro e w' ⟨rfl, hw'⟩; subst hw')
      go_roundw
      case rel => exact ⟨k + 1, by omega, rfl, by go_num, HE⟩
      case measure => simp [intOf]; omega
    · go_wp2
      go_ret2
      exact ⟨rfl, HE.out.old⟩
end Go.Proofs.YtjchkhdmjbojjaaDoor

namespace Go.Proofs.YtjchkhdmjbojjaaDoor
open Go.RowKit
theorem Tryd.gErr : ∀ i : Fin 8, Tryd.prog.globalNamed (["shredcol/api.ErrText", "shredcol/api.ErrBound", "shredcol/api.ErrShape", "shredcol/api.ErrKind", "shredcol/api.ErrName", "shredcol/api.ErrNone", "shredcol/api.ErrSum", "shredcol/api.ErrSpace"].getD i "") = some (errG i)
  | ⟨0, _⟩ => by kernel_rfl | ⟨1, _⟩ => by kernel_rfl | ⟨2, _⟩ => by kernel_rfl | ⟨3, _⟩ => by kernel_rfl | ⟨4, _⟩ => by kernel_rfl | ⟨5, _⟩ => by kernel_rfl | ⟨6, _⟩ => by kernel_rfl | ⟨7, _⟩ => by kernel_rfl
theorem Tryd.gErrType : ∀ i : Fin 8, (Tryd.prog.globals[errG i]?).map (·.type) = some 29
  | ⟨0, _⟩ => by kernel_rfl | ⟨1, _⟩ => by kernel_rfl | ⟨2, _⟩ => by kernel_rfl | ⟨3, _⟩ => by kernel_rfl | ⟨4, _⟩ => by kernel_rfl | ⟨5, _⟩ => by kernel_rfl | ⟨6, _⟩ => by kernel_rfl | ⟨7, _⟩ => by kernel_rfl
theorem Tryd.gHandle : Tryd.prog.globalNamed "errors.errorType" = some 8 := by kernel_rfl
theorem Tryd.rt : (Tryd.prog.cutTypes.find? (·.1 == "internal/reflectlite.rtype")).map (·.2) = some 148 := by kernel_rfl
theorem Tryd.oneRow : ((List.range 195).filter fun t => Tryd.prog.rowNamed t [101, 114, 114, 111, 114]) = [29] := by kernel_rfl
theorem Tryd.ntypes : Tryd.prog.types.size = 195 := by kernel_rfl
theorem handle_of {W : World} (h : handlesMet Tryd.prog [("errors.errorType", Rows.laid_errors_errorType)] W) : W.cell? ⟨8, 0, none⟩ = some handleV := by
  obtain ⟨name, u, ty, e1, e2, e3, e4, e5⟩ := h _ (List.mem_singleton.2 rfl)
  have en : name = [101, 114, 114, 111, 114] := (Option.some.inj e1).symm
  subst en
  obtain rfl := Option.some.inj (Tryd.rt.symm.trans e2)
  have hm : ty ∈ (List.range 195).filter fun t => Tryd.prog.rowNamed t [101, 114, 114, 111, 114] := List.mem_filter.2 ⟨List.mem_range.2 (by rw [← Tryd.ntypes]; exact e3), e4⟩
  rw [Tryd.oneRow] at hm
  obtain rfl := List.mem_singleton.1 hm
  have hh : typeHandle Tryd.prog 29 = .pointer (some ⟨9, 29, none⟩) := by kernel_rfl
  rw [hh] at e5
  simpa using World.var?_cell Tryd.gHandle e5 0
/-- The eight errors as the rows list them. -/
def eightL : List (String × DataW Unit) := [("shredcol/api.ErrText", Rows.laid_shredcol_api_ErrText), ("shredcol/api.ErrBound", Rows.laid_shredcol_api_ErrBound), ("shredcol/api.ErrShape", Rows.laid_shredcol_api_ErrShape), ("shredcol/api.ErrKind", Rows.laid_shredcol_api_ErrKind), ("shredcol/api.ErrName", Rows.laid_shredcol_api_ErrName), ("shredcol/api.ErrNone", Rows.laid_shredcol_api_ErrNone), ("shredcol/api.ErrSum", Rows.laid_shredcol_api_ErrSum), ("shredcol/api.ErrSpace", Rows.laid_shredcol_api_ErrSpace)]
theorem eightL_get (i : Fin 8) : eightL[i.val]? = some (["shredcol/api.ErrText", "shredcol/api.ErrBound", "shredcol/api.ErrShape", "shredcol/api.ErrKind", "shredcol/api.ErrName", "shredcol/api.ErrNone", "shredcol/api.ErrSum", "shredcol/api.ErrSpace"].getD i "", sentD (errT i)) := by
  match i with
  | ⟨0, _⟩ => rfl | ⟨1, _⟩ => rfl | ⟨2, _⟩ => rfl | ⟨3, _⟩ => rfl | ⟨4, _⟩ => rfl | ⟨5, _⟩ => rfl | ⟨6, _⟩ => rfl | ⟨7, _⟩ => rfl
theorem errs_of {W : World} (h : laidMet Tryd.prog eightL W ∧ handlesMet Tryd.prog [("errors.errorType", Rows.laid_errors_errorType)] W) : ∃ A, Errs W A := by
  have hs : ∀ i : Fin 8, ∃ a, Sent W (errG i) (errT i) a := fun i =>
    sent_of (Tryd.gErr i) (Tryd.gErrType i) eightL (List.mem_of_getElem? (eightL_get i)) h.1
  refine ⟨fun i => if hi : i < 8 then (hs ⟨i, hi⟩).choose else ⟨0, 0, none⟩, fun i hi => ?_, handle_of h.2⟩
  rw [dif_pos hi]
  exact (hs ⟨i, hi⟩).choose_spec
end Go.Proofs.YtjchkhdmjbojjaaDoor
