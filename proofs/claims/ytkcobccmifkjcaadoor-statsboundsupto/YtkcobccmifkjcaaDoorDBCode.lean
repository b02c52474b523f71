/-
  plain.Code of nil and of each bare error: its number, and no place.
  errors.As and errors.Is at a *api.Fault round an error of errors.New's make; plain.Code of it: the error's number and the place.
  plain.Code of a *api.Fault round one of the eight errors: the error's number, and the place; of a new error: -1, and no place.
  From what the rows list to what the walks use: the eight errors and the handle of the type error.
-/
import Derived.Test.YtkcobccmifkjcaaDoorDBErrAs
import Derived.Test.YtkcobccmifkjcaaDoorDSent
namespace Go.Proofs.YtkcobccmifkjcaaDoor
open Go.RowKit Go.Extern.Stop Go.Stop Go.Extern
/-- The number of each error's variable, and its text. -/
def errG : Nat → Nat
  | 0 => 1 | 1 => 2 | 2 => 3 | 3 => 0 | 4 => 4 | 5 => 5 | 6 => 6 | _ => 7
def errT : Nat → List UInt8
  | 0 => [115, 104, 114, 101, 100, 99, 111, 108, 58, 32, 116, 101, 120, 116]
  | 1 => [115, 104, 114, 101, 100, 99, 111, 108, 58, 32, 98, 111, 117, 110, 100]
  | 2 => [115, 104, 114, 101, 100, 99, 111, 108, 58, 32, 115, 104, 97, 112, 101]
  | 3 => [115, 104, 114, 101, 100, 99, 111, 108, 58, 32, 107, 105, 110, 100]
  | 4 => [115, 104, 114, 101, 100, 99, 111, 108, 58, 32, 110, 97, 109, 101]
  | 5 => [115, 104, 114, 101, 100, 99, 111, 108, 58, 32, 110, 111, 110, 101]
  | 6 => [115, 104, 114, 101, 100, 99, 111, 108, 58, 32, 115, 117, 109]
  | _ => [115, 104, 114, 101, 100, 99, 111, 108, 58, 32, 115, 112, 97, 99, 101]
theorem errT_ne : ∀ i j : Fin 8, i ≠ j → errT i ≠ errT j := by decide
/-- The error that lies at a. -/
abbrev errV (a : Addr) : Value := .iface 154 (.pointer (some a))
/-- What the listed variables hold in a world. -/
structure Errs (W : World) (A : Nat → Addr) : Prop where
  at_ : ∀ i, i < 8 → Sent W (errG i) (errT i) (A i)
  handle : W.cell? ⟨8, 0, none⟩ = some handleV
theorem Errs.keep {W W' : World} {A : Nat → Addr} (h : Errs W A) (hb : Below W.heap.size W W') : Errs W' A :=
  ⟨fun i hi => (h.at_ i hi).keep hb, (hb.cell (World.block_lt_of_cell? W _ h.handle)).trans h.handle⟩
theorem Errs.ne {W : World} {A : Nat → Addr} (h : Errs W A) {i j : Nat} (hi : i < 8) (hj : j < 8) (hne : i ≠ j) : A i ≠ A j :=
  (h.at_ i hi).ne (h.at_ j hj) (errT_ne ⟨i, hi⟩ ⟨j, hj⟩ (fun e => hne (Fin.mk.inj e)))
/-- errors.Is of two of them. -/
theorem is_errs {W : World} {A : Nat → Addr} (h : Errs W A) {i j : Nat} (hi : i < 8) (hj : j < 8) (hne : i ≠ j) :
    Calls Tryd.prog 46 #[errV (A i), errV (A j)] W fun e w' => e = .returned (.bool false) ∧ w' = W := by
  obtain ⟨c1, t1, r1⟩ := (h.at_ i hi).row
  obtain ⟨c2, t2, r2⟩ := (h.at_ j hj).row
  exact is_other (A i) (A j) c1 c2 t1 t2 W (h.ne hi hj hne) r1 r2
def eightV (A : Nat → Addr) : Array Value := #[errV (A 0), errV (A 1), errV (A 2), errV (A 3), errV (A 4), errV (A 5), errV (A 6), errV (A 7)]
theorem eight_at (A : Nat → Addr) (k : Nat) (hk : k < 8) : (eightV A)[k]? = some (errV (A k)) := by
  have h : k = 0 ∨ k = 1 ∨ k = 2 ∨ k = 3 ∨ k = 4 ∨ k = 5 ∨ k = 6 ∨ k = 7 := by omega
  rcases h with rfl | rfl | rfl | rfl | rfl | rfl | rfl | rfl <;> rfl
/-- What the loop over the eight errors keeps. -/
structure Eight (w : World) (A : Nat → Addr) (g : Nat) (wr : World) : Prop where
  errs : Errs wr A
  cell : ∀ k, k < 8 → wr.cell? ⟨g, k, none⟩ = some (errV (A k))
  old : Below w.heap.size w wr
theorem Eight.start {w w1 : World} {A : Nat → Addr} (hb : Below w.heap.size w w1) (h : Errs w1 A) : Eight w A w1.heap.size (w1.alloc (.cells (eightV A) 38)) := by
  have hb3 : Below w1.heap.size w1 (w1.alloc (.cells (eightV A) 38)) := (Below.refl _ _).alloc (Nat.le_refl _) _
  refine ⟨h.keep hb3, fun k hk => ?_, hb.trans (hb3.mono hb.size)⟩
  rw [cell_of_row _ w1.heap.size k (eightV A) 38 (0, 0) (heap_alloc_new w1 _)]
  exact eight_at A k hk
set_option maxHeartbeats 400000 in
theorem code_nil (w : World) : Calls Tryd.prog 32 #[.nilIface] w fun e w' => e = .returned (.tuple #[.int .i64 0, .int .i64 (-1)]) ∧ w' = w := by
  go_enter Tryd.func32, Tryd.ntmps32
  go_wp2
  go_ret2
  exact ⟨rfl, rfl⟩
set_option maxHeartbeats 1000000 in
set_option maxRecDepth 100000 in
theorem code_sent (w : World) (A : Nat → Addr) (h : Errs w A) (i : Nat) (hi : i < 8) :
    Calls Tryd.prog 32 #[errV (A i)] w fun e w' => e = .returned (.tuple #[.int .i64 ((i : Int) + 1), .int .i64 (-1)]) ∧ Below w.heap.size w w' := by
  have hb0 : Below w.heap.size w (w.alloc (.cells #[.pointer none] 87)) := (Below.refl _ _).alloc (Nat.le_refl _) _
  have h1 := h.keep hb0
  have HA : Hid (Errs w A) := h
  clear h
  go_enter Tryd.func32, Tryd.ntmps32
  go_wp2_with fail
  refine (as_miss _ _ _ h1.handle).mono ?_
  rintro e w1 ⟨rfl, hb1⟩
  have hb2 : Below w.heap.size w w1 := hb0.trans (hb1.mono hb0.size)
  have h2 := HA.out.keep hb2
  have g0 := (h2.at_ 0 (by omega)).var
  have g1 := (h2.at_ 1 (by omega)).var
  have g2 := (h2.at_ 2 (by omega)).var
  have g3 := (h2.at_ 3 (by omega)).var
  have g4 := (h2.at_ 4 (by omega)).var
  have g5 := (h2.at_ 5 (by omega)).var
  have g6 := (h2.at_ 6 (by omega)).var
  have g7 := (h2.at_ 7 (by omega)).var
  simp only [errG] at g0 g1 g2 g3 g4 g5 g6 g7
  clear h1 hb0 hb1
  go_wp2_with fail
  clear g0 g1 g2 g3 g4 g5 g6 g7
  have HS : Hid (Eight w A w1.heap.size (w1.alloc (.cells (eightV A) 38))) := Eight.start hb2 h2
  clear h2 hb2
  go_loopw [3, 26] (fun y x wr => ∃ k : Nat, k ≤ i ∧ y = .int .i64 (-1) ∧ x = .int .i64 k ∧ Hid (Eight w A w1.heap.size wr)) (fun _ x _ => 8 - (intOf x).toNat)
  case atStart => exact ⟨0, Nat.zero_le _, rfl, rfl, HS⟩
  case round =>
    obtain ⟨k, hk, rfl, rfl, HE⟩ := hrel
    have hck := HE.out.cell k (by omega)
    by_cases hki : k = i
    · subst hki
      go_wp2_with (go_at_call 46; refine (is_same _ _).mono ?_; rintro e w' ⟨rfl, rfl⟩)
      go_ret2
      exact ⟨rfl, HE.out.old⟩
    · go_wp2_with (go_at_call 46; refine (is_errs HE.out.errs hi (by omega) (fun e => hki e.symm)).mono ?_; rintro e w' ⟨rfl, hw'⟩; subst hw')
      go_roundw
      case rel => exact ⟨k + 1, by omega, rfl, by go_num, HE⟩
      case measure => simp [intOf]; omega
set_option maxHeartbeats 400000 in
/-- 'coded' of a bare error: whether the number is its. -/
theorem coded_sent (w : World) (A : Nat → Addr) (h : Errs w A) (i : Nat) (hi : i < 8) (c : Int) (b : Bool) (hc : ((i : Int) + 1 == c) = b) :
    Calls Tryd.prog 18 #[errV (A i), .int .i64 c] w fun e w' => e = .returned (.bool b) ∧ Below w.heap.size w w' := by
  have HA : Hid (Errs w A) := h
  clear h
  go_enter Tryd.func18, Tryd.ntmps18
  cases b
  all_goals
    go_wp2_with (go_at_call 32; refine (code_sent w A HA.out i hi).mono ?_; rintro e w1 ⟨rfl, hb1⟩)
    go_ret
    exact ⟨rfl, hb1⟩
set_option maxHeartbeats 400000 in
/-- 'coded' of nil. -/
theorem coded_nil (w : World) (c : Int) (b : Bool) (hc : ((0 : Int) == c) = b) :
    Calls Tryd.prog 18 #[.nilIface, .int .i64 c] w fun e w' => e = .returned (.bool b) ∧ w' = w := by
  go_enter Tryd.func18, Tryd.ntmps18
  cases b
  all_goals
    go_wp2_with (go_at_call 32; refine (code_nil w).mono ?_; rintro e w1 ⟨rfl, rfl⟩)
    go_ret
    exact ⟨rfl, rfl⟩
end Go.Proofs.YtkcobccmifkjcaaDoor

namespace Go.Proofs.YtkcobccmifkjcaaDoor
open Go.RowKit Go.Extern.Stop Go.Stop Go.Extern
theorem Tryd.noIsF (v : Value) (xT : TypeId) (w : World) : (Instr.typeAssert (.iface 87 v) xT 131 true).run Tryd.prog w = .ok (.tuple #[.nilIface, .bool false]) w := run_typeAssert_lacksB Tryd.underlying131 (by kernel_rfl) (by kernel_rfl) v xT w
theorem Tryd.hasUnwrapF (v : Value) (xT : TypeId) (w : World) : (Instr.typeAssert (.iface 87 v) xT 127 true).run Tryd.prog w = .ok (.tuple #[.iface 87 v, .bool true]) w := run_typeAssert_hasB Tryd.underlying127 (by kernel_rfl) v xT w
theorem Tryd.methodUnwrapF (v : Value) (w : World) : (Go.method 284 87 v "Unwrap").run Tryd.prog w = .ok (107, v) w := by kernel_rfl
set_option maxHeartbeats 4000000 in
theorem as_hit (e t : Addr) (old : Value) (w : World) (hg : w.cell? ⟨8, 0, none⟩ = some handleV) (ht0 : w.cell? t = some old) (hf0 : w.frozen? t = false) :
    Calls Tryd.prog 45 #[.iface 87 (.pointer (some e)), .iface 89 (.pointer (some t))] w fun ev w' => ev = .returned (.bool true) ∧ ∃ w1, Below w.heap.size w w1 ∧ w' = w1.setCell t (.pointer (some e)) := by
  have x1 := @run_callFunc_extern Tryd.prog 63 _ (fun args => ReflectliteValue.unpack (args.getD 0 (.tuple #[]))) Tryd.func63 (by kernel_rfl) (by kernel_rfl) (by kernel_rfl) (by kernel_rfl)
  have x2 := @run_callFunc_extern Tryd.prog 64 _ (ReflectliteValue.methodAny (ReflectliteValue.valueError "reflectlite.Value.Type" 0) (fun t _ _ _ => ReflectliteType.toType t)) Tryd.func64 (by kernel_rfl) (by kernel_rfl) (by kernel_rfl) (by kernel_rfl)
  have x3 := @run_callFunc_extern Tryd.prog 65 _ (ReflectliteValue.method (ReflectliteValue.valueError "reflectlite.Value.IsNil" 0) ReflectliteValue.isNil) Tryd.func65 (by kernel_rfl) (by kernel_rfl) (by kernel_rfl) (by kernel_rfl)
  have x4 := @run_callFunc_extern Tryd.prog 103 _ (ReflectliteType.abiMethod fun t => do pure (.int .u8 (← Rtype.kind t))) Tryd.func103 (by kernel_rfl) (by kernel_rfl) (by kernel_rfl) (by kernel_rfl)
  have x5 := @run_callFunc_extern Tryd.prog 114 _ (ReflectliteType.method ReflectliteType.elem) Tryd.func114 (by kernel_rfl) (by kernel_rfl) (by kernel_rfl) (by kernel_rfl)
  have x6 := @run_callFunc_extern Tryd.prog 115 _ (ReflectliteType.relation "Implements" ReflectliteType.implements_) Tryd.func115 (by kernel_rfl) (by kernel_rfl) (by kernel_rfl) (by kernel_rfl)
  have x7 := @run_callFunc_extern Tryd.prog 67 _ ReflectliteType.typeOf Tryd.func67 (by kernel_rfl) (by kernel_rfl) (by kernel_rfl) (by kernel_rfl)
  have x8 := @run_callFunc_extern Tryd.prog 112 _ (ReflectliteType.relation "AssignableTo" ReflectliteType.assignableTo) Tryd.func112 (by kernel_rfl) (by kernel_rfl) (by kernel_rfl) (by kernel_rfl)
  have x9 := @run_callFunc_extern Tryd.prog 74 _ (ReflectliteValue.method (ReflectliteValue.valueError "reflectlite.Value.Elem" 0) ReflectliteValue.elem) Tryd.func74 (by kernel_rfl) (by kernel_rfl) (by kernel_rfl) (by kernel_rfl)
  have x0 := @run_callFunc_extern Tryd.prog 75 _ ReflectliteValue.set Tryd.func75 (by kernel_rfl) (by kernel_rfl) (by kernel_rfl) (by kernel_rfl)
  have y1 := Tryd.asTypeOfP
  have y2 := Tryd.asMethodAssignable
  have y3 := Tryd.asAssignableP
  have y4 := Tryd.asValueOf
  have y5 := Tryd.asType
  have y6 := Tryd.asMethodKind
  have y7 := Tryd.asMethodElem
  have y8 := Tryd.asMethodImplements
  have y9 := Tryd.asKindPP
  have z1 := Tryd.asKindP
  have z2 := Tryd.asElem
  have z3 := Tryd.asImplements
  have z4 := Tryd.asValueOfP
  obtain ⟨o1, ho1⟩ : ∃ o, o = Obj.cells #[.pointer (some t)] 89 := ⟨_, rfl⟩
  obtain ⟨o2, ho2⟩ : ∃ o, o = Obj.cells #[.pointer (some ⟨10, 89, none⟩), .pointer (some ⟨w.heap.size, 0, none⟩), .int .u64 150] 103 := ⟨_, rfl⟩
  have n8 := Tryd.asIsNil ⟨w.heap.size, 0, none⟩ t ((w.alloc o1).alloc o2) (by subst ho1; simp)
  have hlt : 8 < w.heap.size := World.block_lt_of_cell? w _ hg
  have htl : t.block < w.heap.size := World.block_lt_of_cell? w _ ht0
  have hg2 : ((w.alloc o1).alloc o2).cell? ⟨8, 0, none⟩ = some handleV := by
    rw [World.cell?_alloc_lt _ _ ⟨8, 0, none⟩ (by simp; omega), World.cell?_alloc_lt _ _ ⟨8, 0, none⟩ hlt]; exact hg
  have el := Tryd.asElemV ⟨w.heap.size, 0, none⟩ t (((w.alloc o1).alloc o2).alloc o2) (by rw [World.cell?_alloc_lt _ _ ⟨w.heap.size, 0, none⟩ (by simp; omega)]; subst ho1; simp)
  have st := Tryd.asSet t ⟨w.heap.size + 1 + 1 + 1, 0, none⟩ e old ((((w.alloc o1).alloc o2).alloc o2).alloc (.cells #[.pointer (some e)] 87))
    (by rw [World.cell?_alloc_at _ _ _ _ (by simp)]; rfl)
    (by rw [World.cell?_alloc_lt _ _ t (by simp; omega), World.cell?_alloc_lt _ _ t (by simp; omega), World.cell?_alloc_lt _ _ t (by simp; omega), World.cell?_alloc_lt _ _ t htl]; exact ht0)
    (by rw [World.frozen?_alloc_old _ _ t (by simp; omega), World.frozen?_alloc_old _ _ t (by simp; omega), World.frozen?_alloc_old _ _ t (by simp; omega), World.frozen?_alloc_old _ _ t (Nat.ne_of_lt htl)]; exact hf0)
  subst ho1 ho2
  go_enter Tryd.func45, Tryd.ntmps45
  go_wp2
  refine wp_loop_rounds 1 ?_
  rw [rounds_succ]
  go_wp2
  go_ret
  exact ⟨rfl, _, ((((Below.refl _ _).alloc (Nat.le_refl _) _).alloc (by simp) _).alloc (by simp; omega) _).alloc (by simp; omega) _, rfl⟩
set_option maxHeartbeats 1000000 in
/-- errors.Is(e, x), e a *api.Fault round x itself. -/
theorem is_fault_same (p : Nat) (b : Addr) (w : World) (h1 : w.cell? ⟨p, 1, none⟩ = some (errV b)) :
    Calls Tryd.prog 46 #[.iface 87 (.pointer (some ⟨p, 0, none⟩)), errV b] w fun e w' => e = .returned (.bool true) ∧ w' = w := by
  obtain ⟨i, hi, hcmp⟩ := Option.map_eq_some_iff.1 Tryd.isComp
  obtain ⟨j, hj, hjs⟩ := Option.map_eq_some_iff.1 Tryd.isSize
  have x7 := @run_callFunc_extern Tryd.prog 67 _ ReflectliteType.typeOf Tryd.func67 (by kernel_rfl) (by kernel_rfl) (by kernel_rfl) (by kernel_rfl)
  have x8 := @run_callFunc_extern Tryd.prog 113 _ (Extern.ReflectliteType.method fun t => do Rtype.noPackHeld "Comparable" t; pure (.bool (← typeInfo t).comparable)) Tryd.func113 (by kernel_rfl) (by kernel_rfl) (by kernel_rfl) (by kernel_rfl)
  have y1 := Tryd.asTypeOfE
  have y2 := Tryd.isComparable
  have y3 := Tryd.isMethodComparable
  have y4 := Tryd.noIsF
  have y5 := Tryd.hasUnwrapF
  have y6 := Tryd.methodUnwrapF
  have heq := run_eql_iface_ptr_same (P := Tryd.prog) w b Tryd.underlying38 Tryd.underlying154 hi hcmp hj
  have hty := run_eql_iface_types (P := Tryd.prog) 87 154 (.pointer (some ⟨p, 0, none⟩)) (.pointer (some b)) Tryd.underlying38 (by decide) w
  go_enter Tryd.func46, Tryd.ntmps46
  go_wp2
  refine wp_loop_rounds 2 ?_
  rw [rounds_succ]
  go_wp2
  rw [rounds_succ]
  go_wp2
  go_ret
  exact ⟨rfl, rfl⟩
set_option maxHeartbeats 1000000 in
/-- errors.Is(e, x), e a *api.Fault round another error. -/
theorem is_fault_other (p : Nat) (a b : Addr) (ca cb : Array Value) (ta tb : TypeId) (w : World) (h1 : w.cell? ⟨p, 1, none⟩ = some (errV a)) (hne : a ≠ b) (ha : w.heap[a.block]? = some (.cells ca ta (0, 0))) (hb : w.heap[b.block]? = some (.cells cb tb (0, 0))) :
    Calls Tryd.prog 46 #[.iface 87 (.pointer (some ⟨p, 0, none⟩)), errV b] w fun e w' => e = .returned (.bool false) ∧ w' = w := by
  obtain ⟨i, hi, hcmp⟩ := Option.map_eq_some_iff.1 Tryd.isComp
  obtain ⟨j, hj, hjs⟩ := Option.map_eq_some_iff.1 Tryd.isSize
  have x7 := @run_callFunc_extern Tryd.prog 67 _ ReflectliteType.typeOf Tryd.func67 (by kernel_rfl) (by kernel_rfl) (by kernel_rfl) (by kernel_rfl)
  have x8 := @run_callFunc_extern Tryd.prog 113 _ (Extern.ReflectliteType.method fun t => do Rtype.noPackHeld "Comparable" t; pure (.bool (← typeInfo t).comparable)) Tryd.func113 (by kernel_rfl) (by kernel_rfl) (by kernel_rfl) (by kernel_rfl)
  have y1 := Tryd.asTypeOfE
  have y2 := Tryd.isComparable
  have y3 := Tryd.isMethodComparable
  have y4 := Tryd.noIsF
  have y5 := Tryd.hasUnwrapF
  have y6 := Tryd.methodUnwrapF
  have z4 := Tryd.noIsE
  have z5 := Tryd.asNoUnwrap
  have z6 := Tryd.asNoUnwraps
  have heq := run_eql_iface_ptr_other (P := Tryd.prog) w Tryd.underlying38 Tryd.underlying154 hi hcmp hj (by rw [hjs]; decide) hne ha hb
  have hty := run_eql_iface_types (P := Tryd.prog) 87 154 (.pointer (some ⟨p, 0, none⟩)) (.pointer (some b)) Tryd.underlying38 (by decide) w
  go_enter Tryd.func46, Tryd.ntmps46
  go_wp2
  refine wp_loop_rounds 2 ?_
  rw [rounds_succ]
  go_wp2
  rw [rounds_succ]
  go_wp2
  go_ret
  exact ⟨rfl, rfl⟩
end Go.Proofs.YtkcobccmifkjcaaDoor

namespace Go.Proofs.YtkcobccmifkjcaaDoor
open Go.RowKit Go.Extern.Stop Go.Stop Go.Extern
/-- errors.Is of a fault round one of them and another one. -/
theorem is_fault_errs {W : World} {A : Nat → Addr} (h : Errs W A) {i j p : Nat} (hi : i < 8) (hj : j < 8) (hne : i ≠ j) (h1 : W.cell? ⟨p, 1, none⟩ = some (errV (A i))) :
    Calls Tryd.prog 46 #[.iface 87 (.pointer (some ⟨p, 0, none⟩)), errV (A j)] W fun e w' => e = .returned (.bool false) ∧ w' = W := by
  obtain ⟨c1, t1, r1⟩ := (h.at_ i hi).row
  obtain ⟨c2, t2, r2⟩ := (h.at_ j hj).row
  exact is_fault_other p (A i) (A j) c1 c2 t1 t2 W h1 (h.ne hi hj hne) r1 r2
set_option maxHeartbeats 1000000 in
set_option maxRecDepth 100000 in
theorem code_fault (w : World) (A : Nat → Addr) (h : Errs w A) (i p : Nat) (hi : i < 8) (at_ : Int) (h0 : w.cell? ⟨p, 0, none⟩ = some (.int .i64 at_)) (h1 : w.cell? ⟨p, 1, none⟩ = some (errV (A i))) :
    Calls Tryd.prog 32 #[.iface 87 (.pointer (some ⟨p, 0, none⟩))] w fun e w' => e = .returned (.tuple #[.int .i64 ((i : Int) + 1), .int .i64 at_]) ∧ Below w.heap.size w w' := by
  have hp := World.block_lt_of_cell? w _ h0
  have hb0 : Below w.heap.size w (w.alloc (.cells #[.pointer none] 87)) := (Below.refl _ _).alloc (Nat.le_refl _) _
  have k1 := h.keep hb0
  have HA : Hid (Errs w A) := h
  have H0 : Hid (w.cell? ⟨p, 0, none⟩ = some (.int .i64 at_)) := h0
  have H1 : Hid (w.cell? ⟨p, 1, none⟩ = some (errV (A i))) := h1
  clear h h0 h1
  go_enter Tryd.func32, Tryd.ntmps32
  go_wp2_with fail
  refine (as_hit _ _ (.pointer none) _ k1.handle (by simp) (by simp)).mono ?_
  rintro e w0 ⟨rfl, w1, hb1, hw⟩
  have hb2 : Below w.heap.size w w1 := hb0.trans (hb1.mono hb0.size)
  have hb3 : Below w.heap.size w w0 := by rw [hw]; exact hb2.setCell (Nat.le_refl _) _
  have hf : w0.cell? ⟨w.heap.size, 0, none⟩ = some (.pointer (some ⟨p, 0, none⟩)) := by
    have h5 : w1.cell? ⟨w.heap.size, 0, none⟩ = some (.pointer none) := by rw [hb1.cell (by simp)]; simp
    rw [hw]; exact World.cell?_setCell_same _ _ _ h5
  have c0 := (hb3.cell hp).trans H0.out
  have c1 : w0.cell? ⟨p, 1, none⟩ = some (errV (A i)) := (hb3.cell hp).trans H1.out
  have h2 := HA.out.keep hb3
  have g0 := (h2.at_ 0 (by omega)).var
  have g1 := (h2.at_ 1 (by omega)).var
  have g2 := (h2.at_ 2 (by omega)).var
  have g3 := (h2.at_ 3 (by omega)).var
  have g4 := (h2.at_ 4 (by omega)).var
  have g5 := (h2.at_ 5 (by omega)).var
  have g6 := (h2.at_ 6 (by omega)).var
  have g7 := (h2.at_ 7 (by omega)).var
  simp only [errG] at g0 g1 g2 g3 g4 g5 g6 g7
  clear k1 hb0 hb1 hb2 hw
  go_wp2_with fail
  clear g0 g1 g2 g3 g4 g5 g6 g7
  have HS : Hid (Eight w A w0.heap.size (w0.alloc (.cells (eightV A) 38))) := Eight.start hb3 h2
  have HC : Hid ((w0.alloc (.cells (eightV A) 38)).cell? ⟨p, 1, none⟩ = some (errV (A i))) := (World.cell?_alloc_lt _ _ _ (World.block_lt_of_cell? _ _ c1)).trans c1
  clear h2 hb3 c1 c0 hf
  go_loopw [3, 26] (fun y x wr => ∃ k : Nat, k ≤ i ∧ y = .int .i64 at_ ∧ x = .int .i64 k ∧ Hid (Eight w A w0.heap.size wr) ∧ Hid (wr.cell? ⟨p, 1, none⟩ = some (errV (A i)))) (fun _ x _ => 8 - (intOf x).toNat)
  case atStart => exact ⟨0, Nat.zero_le _, rfl, rfl, HS, HC⟩
  case round =>
    obtain ⟨k, hk, rfl, rfl, HE, HP⟩ := hrel
    have hck := HE.out.cell k (by omega)
    by_cases hki : k = i
    · subst hki
      go_wp2_with (go_at_call 46; refine (is_fault_same p _ _ HP.out).mono ?_; rintro e w' ⟨rfl, rfl⟩)
      go_ret2
      exact ⟨rfl, HE.out.old⟩
    · go_wp2_with (go_at_call 46; refine (is_fault_errs HE.out.errs hi (by omega) (fun e => hki e.symm) HP.out).mono ?_; rintro e w' ⟨rfl, hw'⟩; subst hw')
      go_roundw
      case rel => exact ⟨k + 1, by omega, rfl, by go_num, HE, HP⟩
      case measure => simp [intOf]; omega
set_option maxHeartbeats 1000000 in
set_option maxRecDepth 100000 in
/-- A new error, none of the eight. -/
theorem code_new (w : World) (A : Nat → Addr) (h : Errs w A) (a : Addr) (c : Array Value) (ty : TypeId) (ha : w.heap[a.block]? = some (.cells c ty (0, 0))) (hne : ∀ i, i < 8 → a ≠ A i) :
    Calls Tryd.prog 32 #[errV a] w fun e w' => e = .returned (.tuple #[.int .i64 (-1), .int .i64 (-1)]) ∧ Below w.heap.size w w' := by
  have hb0 : Below w.heap.size w (w.alloc (.cells #[.pointer none] 87)) := (Below.refl _ _).alloc (Nat.le_refl _) _
  have h1 := h.keep hb0
  have hal : a.block < w.heap.size := (Array.getElem?_eq_some_iff.1 ha).1
  have HA : Hid (Errs w A) := h
  have HX : Hid (w.heap[a.block]? = some (.cells c ty (0, 0))) := ha
  have HN : Hid (∀ i, i < 8 → a ≠ A i) := hne
  clear h ha hne
  go_enter Tryd.func32, Tryd.ntmps32
  go_wp2_with fail
  refine (as_miss _ _ _ h1.handle).mono ?_
  rintro e w1 ⟨rfl, hb1⟩
  have hb2 : Below w.heap.size w w1 := hb0.trans (hb1.mono hb0.size)
  have h2 := HA.out.keep hb2
  have g0 := (h2.at_ 0 (by omega)).var
  have g1 := (h2.at_ 1 (by omega)).var
  have g2 := (h2.at_ 2 (by omega)).var
  have g3 := (h2.at_ 3 (by omega)).var
  have g4 := (h2.at_ 4 (by omega)).var
  have g5 := (h2.at_ 5 (by omega)).var
  have g6 := (h2.at_ 6 (by omega)).var
  have g7 := (h2.at_ 7 (by omega)).var
  simp only [errG] at g0 g1 g2 g3 g4 g5 g6 g7
  clear h1 hb0 hb1
  go_wp2_with fail
  clear g0 g1 g2 g3 g4 g5 g6 g7
  have HS : Hid (Eight w A w1.heap.size (w1.alloc (.cells (eightV A) 38))) := Eight.start hb2 h2
  clear h2 hb2
  go_loopw [3, 26] (fun y x wr => ∃ k : Nat, k ≤ 8 ∧ y = .int .i64 (-1) ∧ x = .int .i64 k ∧ Hid (Eight w A w1.heap.size wr)) (fun _ x _ => 8 - (intOf x).toNat)
  case atStart => exact ⟨0, Nat.zero_le _, rfl, rfl, HS⟩
  case round =>
    obtain ⟨k, hk, rfl, rfl, HE⟩ := hrel
    by_cases hki : k < 8
    · have hck := HE.out.cell k hki
      have HR : Hid (∃ cb tb, wr.heap[(A k).block]? = some (.cells cb tb (0, 0))) := (HE.out.errs.at_ k hki).row
      have HY : Hid (wr.heap[a.block]? = some (.cells c ty (0, 0))) := (HE.out.old.block _ hal).trans HX.out
      obtain ⟨cb, tb, hr⟩ := HR.out
      have HRR : Hid (wr.heap[(A k).block]? = some (.cells cb tb (0, 0))) := hr
      clear hr
      go_wp2_with (go_at_call 46; refine (is_other a (A k) c cb ty tb _ (HN.out k hki) HY.out HRR.out).mono ?_; rintro e w' ⟨rfl, hw'⟩; subst hw')
      go_roundw
      case rel => exact ⟨k + 1, by omega, rfl, by go_num, HE⟩
      case measure => simp [intOf]; omega
    · go_wp2
      go_ret2
      exact ⟨rfl, HE.out.old⟩
end Go.Proofs.YtkcobccmifkjcaaDoor

namespace Go.Proofs.YtkcobccmifkjcaaDoor
open Go.RowKit
theorem Tryd.gErr : ∀ i : Fin 8, Tryd.prog.globalNamed (["shredcol/api.ErrText", "shredcol/api.ErrBound", "shredcol/api.ErrShape", "shredcol/api.ErrKind", "shredcol/api.ErrName", "shredcol/api.ErrNone", "shredcol/api.ErrSum", "shredcol/api.ErrSpace"].getD i "") = some (errG i)
  | ⟨0, _⟩ => by kernel_rfl | ⟨1, _⟩ => by kernel_rfl | ⟨2, _⟩ => by kernel_rfl | ⟨3, _⟩ => by kernel_rfl | ⟨4, _⟩ => by kernel_rfl | ⟨5, _⟩ => by kernel_rfl | ⟨6, _⟩ => by kernel_rfl | ⟨7, _⟩ => by kernel_rfl
theorem Tryd.gErrType : ∀ i : Fin 8, (Tryd.prog.globals[errG i]?).map (·.type) = some 38
  | ⟨0, _⟩ => by kernel_rfl | ⟨1, _⟩ => by kernel_rfl | ⟨2, _⟩ => by kernel_rfl | ⟨3, _⟩ => by kernel_rfl | ⟨4, _⟩ => by kernel_rfl | ⟨5, _⟩ => by kernel_rfl | ⟨6, _⟩ => by kernel_rfl | ⟨7, _⟩ => by kernel_rfl
theorem Tryd.gHandle : Tryd.prog.globalNamed "errors.errorType" = some 8 := by kernel_rfl
theorem Tryd.rt : (Tryd.prog.cutTypes.find? (·.1 == "internal/reflectlite.rtype")).map (·.2) = some 120 := by kernel_rfl
theorem Tryd.oneRow : ((List.range 184).filter fun t => Tryd.prog.rowNamed t [101, 114, 114, 111, 114]) = [38] := by kernel_rfl
theorem Tryd.ntypes : Tryd.prog.types.size = 184 := by kernel_rfl
theorem handle_of {W : World} (h : handlesMet Tryd.prog [("errors.errorType", Rows.laid_errors_errorType)] W) : W.cell? ⟨8, 0, none⟩ = some handleV := by
  obtain ⟨name, u, ty, e1, e2, e3, e4, e5⟩ := h _ (List.mem_singleton.2 rfl)
  have en : name = [101, 114, 114, 111, 114] := (Option.some.inj e1).symm
  subst en
  obtain rfl := Option.some.inj (Tryd.rt.symm.trans e2)
  have hm : ty ∈ (List.range 184).filter fun t => Tryd.prog.rowNamed t [101, 114, 114, 111, 114] := List.mem_filter.2 ⟨List.mem_range.2 (by rw [← Tryd.ntypes]; exact e3), e4⟩
  rw [Tryd.oneRow] at hm
  obtain rfl := List.mem_singleton.1 hm
  have hh : typeHandle Tryd.prog 38 = .pointer (some ⟨10, 38, none⟩) := by kernel_rfl
  rw [hh] at e5
  simpa using World.var?_cell Tryd.gHandle e5 0
/-- The eight errors as the rows list them. -/
def eightL : List (String × DataW Unit) := [("shredcol/api.ErrText", Rows.laid_shredcol_api_ErrText), ("shredcol/api.ErrBound", Rows.laid_shredcol_api_ErrBound), ("shredcol/api.ErrShape", Rows.laid_shredcol_api_ErrShape), ("shredcol/api.ErrKind", Rows.laid_shredcol_api_ErrKind), ("shredcol/api.ErrName", Rows.laid_shredcol_api_ErrName), ("shredcol/api.ErrNone", Rows.laid_shredcol_api_ErrNone), ("shredcol/api.ErrSum", Rows.laid_shredcol_api_ErrSum), ("shredcol/api.ErrSpace", Rows.laid_shredcol_api_ErrSpace)]
theorem eightL_get (i : Fin 8) : eightL[i.val]? = some (["shredcol/api.ErrText", "shredcol/api.ErrBound", "shredcol/api.ErrShape", "shredcol/api.ErrKind", "shredcol/api.ErrName", "shredcol/api.ErrNone", "shredcol/api.ErrSum", "shredcol/api.ErrSpace"].getD i "", sentD (errT i)) := by
  match i with
  | ⟨0, _⟩ => rfl | ⟨1, _⟩ => rfl | ⟨2, _⟩ => rfl | ⟨3, _⟩ => rfl | ⟨4, _⟩ => rfl | ⟨5, _⟩ => rfl | ⟨6, _⟩ => rfl | ⟨7, _⟩ => rfl
theorem errs_of {W : World} (h : laidMet Tryd.prog eightL W ∧ handlesMet Tryd.prog [("errors.errorType", Rows.laid_errors_errorType)] W) : ∃ A, Errs W A := by
  have hs : ∀ i : Fin 8, ∃ a, Sent W (errG i) (errT i) a := fun i =>
    sent_of (Tryd.gErr i) (Tryd.gErrType i) eightL (List.mem_of_getElem? (eightL_get i)) h.1
  refine ⟨fun i => if hi : i < 8 then (hs ⟨i, hi⟩).choose else ⟨0, 0, none⟩, fun i hi => ?_, handle_of h.2⟩
  rw [dif_pos hi]
  exact (hs ⟨i, hi⟩).choose_spec
end Go.Proofs.YtkcobccmifkjcaaDoor
