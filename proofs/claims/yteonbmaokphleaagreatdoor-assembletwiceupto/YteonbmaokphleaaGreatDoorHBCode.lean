/-
  plain.Code of nil and of each bare error: its number, and no place.
  From what the rows list to what the walks use: the eight errors and the handle of the type error.
-/
import Derived.Test.YteonbmaokphleaaGreatDoorHBErrAs
import Derived.Test.YteonbmaokphleaaGreatDoorHSent
namespace Go.Proofs.YteonbmaokphleaaGreatDoor
open Go.RowKit Go.Extern.Stop Go.Stop Go.Extern
def errG : Nat → Nat
 | 0 => 3 | 1 => 0 | 2 => 1 | 3 => 4 | 4 => 5 | 5 => 2 | 6 => 6 | _ => 7
def errT : Nat → List UInt8
 | 0 => [115, 104, 114, 101, 100, 99, 111, 108, 58, 32, 116, 101, 120, 116]
 | 1 => [115, 104, 114, 101, 100, 99, 111, 108, 58, 32, 98, 111, 117, 110, 100]
 | 2 => [115, 104, 114, 101, 100, 99, 111, 108, 58, 32, 115, 104, 97, 112, 101]
 | 3 => [115, 104, 114, 101, 100, 99, 111, 108, 58, 32, 107, 105, 110, 100]
 | 4 => [115, 104, 114, 101, 100, 99, 111, 108, 58, 32, 110, 97, 109, 101]
 | 5 => [115, 104, 114, 101, 100, 99, 111, 108, 58, 32, 110, 111, 110, 101]
 | 6 => [115, 104, 114, 101, 100, 99, 111, 108, 58, 32, 115, 117, 109]
 | _ => [115, 104, 114, 101, 100, 99, 111, 108, 58, 32, 115, 112, 97, 99, 101]
theorem errT_ne : ∀ i j : Fin 8, i ≠ j → errT i ≠ errT j := by decide
abbrev errV (a : Addr) : Value := .iface 190 (.pointer (some a))
structure Errs (W : World) (A : Nat → Addr) : Prop where
 at_ : ∀ i, i < 8 → Sent W (errG i) (errT i) (A i)
 handle : W.cell? ⟨8, 0, none⟩ = some handleV
theorem Errs.keep {W W' : World} {A : Nat → Addr} (h : Errs W A) (hb : Below W.heap.size W W') : Errs W' A :=
 ⟨fun i hi => (h.at_ i hi).keep hb, (hb.cell (World.block_lt_of_cell? W _ h.handle)).trans h.handle⟩
theorem Errs.ne {W : World} {A : Nat → Addr} (h : Errs W A) {i j : Nat} (hi : i < 8) (hj : j < 8) (hne : i ≠ j) : A i ≠ A j :=
 (h.at_ i hi).ne (h.at_ j hj) (errT_ne ⟨i, hi⟩ ⟨j, hj⟩ (fun e => hne (Fin.mk.inj e)))
theorem is_errs {W : World} {A : Nat → Addr} (h : Errs W A) {i j : Nat} (hi : i < 8) (hj : j < 8) (hne : i ≠ j) :
    Calls Tryz.prog 61 #[errV (A i), errV (A j)] W fun e w' => e = .returned (.bool false) ∧ w' = W := by
 obtain ⟨c1, t1, r1⟩ := (h.at_ i hi).row
 obtain ⟨c2, t2, r2⟩ := (h.at_ j hj).row
 exact is_other (A i) (A j) c1 c2 t1 t2 W (h.ne hi hj hne) r1 r2
def eightV (A : Nat → Addr) : Array Value := #[errV (A 0), errV (A 1), errV (A 2), errV (A 3), errV (A 4), errV (A 5), errV (A 6), errV (A 7)]
theorem eight_at (A : Nat → Addr) (k : Nat) (hk : k < 8) : (eightV A)[k]? = some (errV (A k)) := by
 have h : k = 0 ∨ k = 1 ∨ k = 2 ∨ k = 3 ∨ k = 4 ∨ k = 5 ∨ k = 6 ∨ k = 7 := by omega
 rcases h with rfl | rfl | rfl | rfl | rfl | rfl | rfl | rfl <;> rfl
structure Eight (w : World) (A : Nat → Addr) (g : Nat) (wr : World) : Prop where
 errs : Errs wr A
 cell : ∀ k, k < 8 → wr.cell? ⟨g, k, none⟩ = some (errV (A k))
 old : Below w.heap.size w wr
theorem Eight.start {w w1 : World} {A : Nat → Addr} (hb : Below w.heap.size w w1) (h : Errs w1 A) : Eight w A w1.heap.size (w1.alloc (.cells (eightV A) 32)) := by
 have hb3 : Below w1.heap.size w1 (w1.alloc (.cells (eightV A) 32)) := (Below.refl _ _).alloc (Nat.le_refl _) _
 refine ⟨h.keep hb3, fun k hk => ?_, hb.trans (hb3.mono hb.size)⟩
 rw [cell_of_row _ w1.heap.size k (eightV A) 32 (0, 0) (heap_alloc_new w1 _)]
 exact eight_at A k hk
set_option maxHeartbeats 1000000 in
set_option maxRecDepth 100000 in
theorem code_sent (w : World) (A : Nat → Addr) (h : Errs w A) (i : Nat) (hi : i < 8) :
    Calls Tryz.prog 34 #[errV (A i)] w fun e w' => e = .returned (.tuple #[.int .i64 ((i : Int) + 1), .int .i64 (-1)]) ∧ Below w.heap.size w w' := by
 have hb0 : Below w.heap.size w (w.alloc (.cells #[.pointer none] 68)) := (Below.refl _ _).alloc (Nat.le_refl _) _
 have h1 := h.keep hb0
 have HA : Hid (Errs w A) := h
 clear h
 go_enter Tryz.func34, Tryz.ntmps34
 go_wp2_with fail
 refine (as_miss _ _ _ h1.handle).mono ?_
 rintro e w1 ⟨rfl, hb1⟩
 have hb2 : Below w.heap.size w w1 := hb0.trans (hb1.mono hb0.size)
 have h2 := HA.out.keep hb2
 have g0 := (h2.at_ 0 (by omega)).var
 have g1 := (h2.at_ 1 (by omega)).var
 have g2 := (h2.at_ 2 (by omega)).var
 have g3 := (h2.at_ 3 (by omega)).var
 have g4 := (h2.at_ 4 (by omega)).var
 have g5 := (h2.at_ 5 (by omega)).var
 have g6 := (h2.at_ 6 (by omega)).var
 have g7 := (h2.at_ 7 (by omega)).var
 simp only [errG] at g0 g1 g2 g3 g4 g5 g6 g7
 clear h1 hb0 hb1
 go_wp2_with fail
 clear g0 g1 g2 g3 g4 g5 g6 g7
 have HS : Hid (Eight w A w1.heap.size (w1.alloc (.cells (eightV A) 32))) := Eight.start hb2 h2
 clear h2 hb2
 go_loopw [3, 26] (fun y x wr => ∃ k : Nat, k ≤ i ∧ y = .int .i64 (-1) ∧ x = .int .i64 k ∧ Hid (Eight w A w1.heap.size wr)) (fun _ x _ => 8 - (intOf x).toNat)
 case atStart => exact ⟨0, Nat.zero_le _, rfl, rfl, HS⟩
 case round =>
  obtain ⟨k, hk, rfl, rfl, HE⟩ := hrel
  have hck := HE.out.cell k (by omega)
  by_cases hki : k = i
  · subst hki
    go_wp2_with (go_at_call 61; refine (is_same _ _).mono ?_; rintro e w' ⟨rfl, rfl⟩)
    go_ret2
    exact ⟨rfl, HE.out.old⟩
  · go_wp2_with (go_at_call 61; refine (is_errs HE.out.errs hi (by omega) (fun e => hki e.symm)).mono ?_; rintro e w' ⟨rfl, hw'⟩; subst hw')
    go_roundw
    case rel => exact ⟨k + 1, by omega, rfl, by go_num, HE⟩
    case measure => simp [intOf]; omega
end Go.Proofs.YteonbmaokphleaaGreatDoor
namespace Go.Proofs.YteonbmaokphleaaGreatDoor
open Go.RowKit
theorem Tryz.gErr : ∀ i : Fin 8, Tryz.prog.globalNamed (["shredcol/api.ErrText", "shredcol/api.ErrBound", "shredcol/api.ErrShape", "shredcol/api.ErrKind", "shredcol/api.ErrName", "shredcol/api.ErrNone", "shredcol/api.ErrSum", "shredcol/api.ErrSpace"].getD i "") = some (errG i)
 | ⟨0, _⟩ => by kernel_rfl | ⟨1, _⟩ => by kernel_rfl | ⟨2, _⟩ => by kernel_rfl | ⟨3, _⟩ => by kernel_rfl | ⟨4, _⟩ => by kernel_rfl | ⟨5, _⟩ => by kernel_rfl | ⟨6, _⟩ => by kernel_rfl | ⟨7, _⟩ => by kernel_rfl
theorem Tryz.gErrType : ∀ i : Fin 8, (Tryz.prog.globals[errG i]?).map (·.type) = some 32
 | ⟨0, _⟩ => by kernel_rfl | ⟨1, _⟩ => by kernel_rfl | ⟨2, _⟩ => by kernel_rfl | ⟨3, _⟩ => by kernel_rfl | ⟨4, _⟩ => by kernel_rfl | ⟨5, _⟩ => by kernel_rfl | ⟨6, _⟩ => by kernel_rfl | ⟨7, _⟩ => by kernel_rfl
theorem Tryz.gHandle : Tryz.prog.globalNamed "errors.errorType" = some 8 := by kernel_rfl
theorem Tryz.rt : (Tryz.prog.cutTypes.find? (·.1 == "internal/reflectlite.rtype")).map (·.2) = some 169 := by kernel_rfl
theorem Tryz.oneRow : ((List.range 223).filter fun t => Tryz.prog.rowNamed t [101, 114, 114, 111, 114]) = [32] := by kernel_rfl
theorem Tryz.ntypes : Tryz.prog.types.size = 223 := by kernel_rfl
theorem handle_of {W : World} (h : handlesMet Tryz.prog [("errors.errorType", Rows.laid_errors_errorType)] W) : W.cell? ⟨8, 0, none⟩ = some handleV := by
 obtain ⟨name, u, ty, e1, e2, e3, e4, e5⟩ := h _ (List.mem_singleton.2 rfl)
 have en : name = [101, 114, 114, 111, 114] := (Option.some.inj e1).symm
 subst en
 obtain rfl := Option.some.inj (Tryz.rt.symm.trans e2)
 have hm : ty ∈ (List.range 223).filter fun t => Tryz.prog.rowNamed t [101, 114, 114, 111, 114] := List.mem_filter.2 ⟨List.mem_range.2 (by rw [← Tryz.ntypes]; exact e3), e4⟩
 rw [Tryz.oneRow] at hm
 obtain rfl := List.mem_singleton.1 hm
 have hh : typeHandle Tryz.prog 32 = .pointer (some ⟨9, 32, none⟩) := by kernel_rfl
 rw [hh] at e5
 simpa using World.var?_cell Tryz.gHandle e5 0
def eightL : List (String × DataW Unit) := [("shredcol/api.ErrText", Rows.laid_shredcol_api_ErrText), ("shredcol/api.ErrBound", Rows.laid_shredcol_api_ErrBound), ("shredcol/api.ErrShape", Rows.laid_shredcol_api_ErrShape), ("shredcol/api.ErrKind", Rows.laid_shredcol_api_ErrKind), ("shredcol/api.ErrName", Rows.laid_shredcol_api_ErrName), ("shredcol/api.ErrNone", Rows.laid_shredcol_api_ErrNone), ("shredcol/api.ErrSum", Rows.laid_shredcol_api_ErrSum), ("shredcol/api.ErrSpace", Rows.laid_shredcol_api_ErrSpace)]
theorem eightL_get (i : Fin 8) : eightL[i.val]? = some (["shredcol/api.ErrText", "shredcol/api.ErrBound", "shredcol/api.ErrShape", "shredcol/api.ErrKind", "shredcol/api.ErrName", "shredcol/api.ErrNone", "shredcol/api.ErrSum", "shredcol/api.ErrSpace"].getD i "", sentD (errT i)) := by
 match i with
 | ⟨0, _⟩ => rfl | ⟨1, _⟩ => rfl | ⟨2, _⟩ => rfl | ⟨3, _⟩ => rfl | ⟨4, _⟩ => rfl | ⟨5, _⟩ => rfl | ⟨6, _⟩ => rfl | ⟨7, _⟩ => rfl
theorem errs_of {W : World} (h : laidMet Tryz.prog eightL W ∧ handlesMet Tryz.prog [("errors.errorType", Rows.laid_errors_errorType)] W) : ∃ A, Errs W A := by
 have hs : ∀ i : Fin 8, ∃ a, Sent W (errG i) (errT i) a := fun i =>
  sent_of (Tryz.gErr i) (Tryz.gErrType i) eightL (List.mem_of_getElem? (eightL_get i)) h.1
 refine ⟨fun i => if hi : i < 8 then (hs ⟨i, hi⟩).choose else ⟨0, 0, none⟩, fun i hi => ?_, handle_of h.2⟩
 rw [dif_pos hi]
 exact (hs ⟨i, hi⟩).choose_spec
end Go.Proofs.YteonbmaokphleaaGreatDoor
