/-
  plain.Code of nil and of each bare error: its number, and no place.
  errors.As and errors.Is at a *api.Fault round an error of errors.New's make; plain.Code of it: the error's number and the place.
-/
import Derived.Test.YtjchkhdmjbojjaaDoorKBErrAs
import Derived.Test.YtjchkhdmjbojjaaDoorKSent
namespace Go.Proofs.YtjchkhdmjbojjaaDoor
open Go.RowKit Go.Extern.Stop Go.Stop Go.Extern
/-- The number of each error's variable, and its text. -/
def errG : Nat → Nat
  | 0 => 0 | 1 => 3 | 2 => 1 | 3 => 2 | 4 => 4 | 5 => 5 | 6 => 6 | _ => 7
def errT : Nat → List UInt8
  | 0 => [115, 104, 114, 101, 100, 99, 111, 108, 58, 32, 116, 101, 120, 116]
  | 1 => [115, 104, 114, 101, 100, 99, 111, 108, 58, 32, 98, 111, 117, 110, 100]
  | 2 => [115, 104, 114, 101, 100, 99, 111, 108, 58, 32, 115, 104, 97, 112, 101]
  | 3 => [115, 104, 114, 101, 100, 99, 111, 108, 58, 32, 107, 105, 110, 100]
  | 4 => [115, 104, 114, 101, 100, 99, 111, 108, 58, 32, 110, 97, 109, 101]
  | 5 => [115, 104, 114, 101, 100, 99, 111, 108, 58, 32, 110, 111, 110, 101]
  | 6 => [115, 104, 114, 101, 100, 99, 111, 108, 58, 32, 115, 117, 109]
  | _ => [115, 104, 114, 101, 100, 99, 111, 108, 58, 32, 115, 112, 97, 99, 101]
theorem errT_ne : ∀ i j : Fin 8, i ≠ j → errT i ≠ errT j := by decide
/-- The error that lies at a. -/
abbrev errV (a : Addr) : Value := .iface 163 (.pointer (some a))
/-- What the listed variables hold in a world. -/
structure Errs (W : World) (A : Nat → Addr) : Prop where
  at_ : ∀ i, i < 8 → Sent W (errG i) (errT i) (A i)
  handle : W.cell? ⟨8, 0, none⟩ = some handleV
theorem Errs.keep {W W' : World} {A : Nat → Addr} (h : Errs W A) (hb : Below W.heap.size W W') : Errs W' A :=
  ⟨fun i hi => (h.at_ i hi).keep hb, (hb.cell (World.block_lt_of_cell? W _ h.handle)).trans h.handle⟩
theorem Errs.ne {W : World} {A : Nat → Addr} (h : Errs W A) {i j : Nat} (hi : i < 8) (hj : j < 8) (hne : i ≠ j) : A i ≠ A j :=
  (h.at_ i hi).ne (h.at_ j hj) (errT_ne ⟨i, hi⟩ ⟨j, hj⟩ (fun e => hne (Fin.mk.inj e)))
/-- errors.Is of two of them. -/
theorem is_errs {W : World} {A : Nat → Addr} (h : Errs W A) {i j : Nat} (hi : i < 8) (hj : j < 8) (hne : i ≠ j) :
    Calls Tryd.prog 70 #[errV (A i), errV (A j)] W fun e w' => e = .returned (.bool false) ∧ w' = W := by
  obtain ⟨c1, t1, r1⟩ := (h.at_ i hi).row
  obtain ⟨c2, t2, r2⟩ := (h.at_ j hj).row
  exact is_other (A i) (A j) c1 c2 t1 t2 W (h.ne hi hj hne) r1 r2
def eightV (A : Nat → Addr) : Array Value := #[errV (A 0), errV (A 1), errV (A 2), errV (A 3), errV (A 4), errV (A 5), errV (A 6), errV (A 7)]
theorem eight_at (A : Nat → Addr) (k : Nat) (hk : k < 8) : (eightV A)[k]? = some (errV (A k)) := by
  have h : k = 0 ∨ k = 1 ∨ k = 2 ∨ k = 3 ∨ k = 4 ∨ k = 5 ∨ k = 6 ∨ k = 7 := by omega
  rcases h with rfl | rfl | rfl | rfl | rfl | rfl | rfl | rfl <;> rfl
/-- What the loop over the eight errors keeps. -/
structure Eight (w : World) (A : Nat → Addr) (g : Nat) (wr : World) : Prop where
  errs : Errs wr A
  cell : ∀ k, k < 8 → wr.cell? ⟨g, k, none⟩ = some (errV (A k))
  old : Below w.heap.size w wr
theorem Eight.start {w w1 : World} {A : Nat → Addr} (hb : Below w.heap.size w w1) (h : Errs w1 A) : Eight w A w1.heap.size (w1.alloc (.cells (eightV A) 29)) := by
  have hb3 : Below w1.heap.size w1 (w1.alloc (.cells (eightV A) 29)) := (Below.refl _ _).alloc (Nat.le_refl _) _
  refine ⟨h.keep hb3, fun k hk => ?_, hb.trans (hb3.mono hb.size)⟩
  rw [cell_of_row _ w1.heap.size k (eightV A) 29 (0, 0) (heap_alloc_new w1 _)]
  exact eight_at A k hk
set_option maxHeartbeats 400000 in
theorem code_nil (w : World) : Calls Tryd.prog 30 #[.nilIface] w fun e w' => e = .returned (.tuple #[.int .i64 0, .int .i64 (-1)]) ∧ w' = w := by
  go_enter Tryd.func30, Tryd.ntmps30
  go_wp2
  go_ret2
  exact ⟨rfl, rfl⟩
set_option maxHeartbeats 1000000 in
set_option maxRecDepth 100000 in
theorem code_sent (w : World) (A : Nat → Addr) (h : Errs w A) (i : Nat) (hi : i < 8) :
    Calls Tryd.prog 30 #[errV (A i)] w fun e w' => e = .returned (.tuple #[.int .i64 ((i : Int) + 1), .int .i64 (-1)]) ∧ Below w.heap.size w w' := by
  have hb0 : Below w.heap.size w (w.alloc (.cells #[.pointer none] 84)) := (Below.refl _ _).alloc (Nat.le_refl _) _
  have h1 := h.keep hb0
  have HA : Hid (Errs w A) := h
  clear h
  go_enter Tryd.func30, Tryd.ntmps30
  go_wp2_with fail
  refine (as_miss _ _ _ h1.handle).mono ?_
  rintro e w1 ⟨rfl, hb1⟩
  have hb2 : Below w.heap.size w w1 := hb0.trans (hb1.mono hb0.size)
  have h2 := HA.out.keep hb2
  have g0 := (h2.at_ 0 (by omega)).var
  have g1 := (h2.at_ 1 (by omega)).var
  have g2 := (h2.at_ 2 (by omega)).var
  have g3 := (h2.at_ 3 (by omega)).var
  have g4 := (h2.at_ 4 (by omega)).var
  have g5 := (h2.at_ 5 (by omega)).var
  have g6 := (h2.at_ 6 (by omega)).var
  have g7 := (h2.at_ 7 (by omega)).var
  simp only [errG] at g0 g1 g2 g3 g4 g5 g6 g7
  clear h1 hb0 hb1
  go_wp2_with fail
  clear g0 g1 g2 g3 g4 g5 g6 g7
  have HS : Hid (Eight w A w1.heap.size (w1.alloc (.cells (eightV A) 29))) := Eight.start hb2 h2
  clear h2 hb2
  go_loopw [3, 26] (fun y x wr => ∃ k : Nat, k ≤ i ∧ y = .int .i64 (-1) ∧ x = .int .i64 k ∧ Hid (Eight w A w1.heap.size wr)) (fun _ x _ => 8 - (intOf x).toNat)
  case atStart => exact ⟨0, Nat.zero_le _, rfl, rfl, HS⟩
  case round =>
    obtain ⟨k, hk, rfl, rfl, HE⟩ := hrel
    have hck := HE.out.cell k (by omega)
    by_cases hki : k = i
    · subst hki
      go_wp2_with (go_at_call 70; refine (is_same _ _).mono ?_; rintro e w' ⟨rfl, rfl⟩)
      go_ret2
      exact ⟨rfl, HE.out.old⟩
    · go_wp2_with (go_at_call 70; refine (is_errs HE.out.errs hi (by omega) (fun e => hki e.symm)).mono ?_; rintro e w' ⟨rfl, hw'⟩; subst hw')
      go_roundw
      case rel => exact ⟨k + 1, by omega, rfl, by go_num, HE⟩
      case measure => simp [intOf]; omega
end Go.Proofs.YtjchkhdmjbojjaaDoor

namespace Go.Proofs.YtjchkhdmjbojjaaDoor
open Go.RowKit Go.Extern.Stop Go.Stop Go.Extern
theorem Tryd.noIsF (v : Value) (xT : TypeId) (w : World) : (Instr.typeAssert (.iface 84 v) xT 159 true).run Tryd.prog w = .ok (.tuple #[.nilIface, .bool false]) w := run_typeAssert_lacksB Tryd.underlying159 (by kernel_rfl) (by kernel_rfl) v xT w
theorem Tryd.hasUnwrapF (v : Value) (xT : TypeId) (w : World) : (Instr.typeAssert (.iface 84 v) xT 155 true).run Tryd.prog w = .ok (.tuple #[.iface 84 v, .bool true]) w := run_typeAssert_hasB Tryd.underlying155 (by kernel_rfl) v xT w
theorem Tryd.methodUnwrapF (v : Value) (w : World) : (Go.method 295 84 v "Unwrap").run Tryd.prog w = .ok (137, v) w := by kernel_rfl
set_option maxHeartbeats 4000000 in
theorem as_hit (e t : Addr) (old : Value) (w : World) (hg : w.cell? ⟨8, 0, none⟩ = some handleV) (ht0 : w.cell? t = some old) (hf0 : w.frozen? t = false) :
    Calls Tryd.prog 69 #[.iface 84 (.pointer (some e)), .iface 95 (.pointer (some t))] w fun ev w' => ev = .returned (.bool true) ∧ ∃ w1, Below w.heap.size w w1 ∧ w' = w1.setCell t (.pointer (some e)) := by
  have x1 := @run_callFunc_extern Tryd.prog 98 _ (fun args => ReflectliteValue.unpack (args.getD 0 (.tuple #[]))) Tryd.func98 (by kernel_rfl) (by kernel_rfl) (by kernel_rfl) (by kernel_rfl)
  have x2 := @run_callFunc_extern Tryd.prog 99 _ (ReflectliteValue.methodAny (ReflectliteValue.valueError "reflectlite.Value.Type" 0) (fun t _ _ _ => ReflectliteType.toType t)) Tryd.func99 (by kernel_rfl) (by kernel_rfl) (by kernel_rfl) (by kernel_rfl)
  have x3 := @run_callFunc_extern Tryd.prog 100 _ (ReflectliteValue.method (ReflectliteValue.valueError "reflectlite.Value.IsNil" 0) ReflectliteValue.isNil) Tryd.func100 (by kernel_rfl) (by kernel_rfl) (by kernel_rfl) (by kernel_rfl)
  have x4 := @run_callFunc_extern Tryd.prog 133 _ (ReflectliteType.abiMethod fun t => do pure (.int .u8 (← Rtype.kind t))) Tryd.func133 (by kernel_rfl) (by kernel_rfl) (by kernel_rfl) (by kernel_rfl)
  have x5 := @run_callFunc_extern Tryd.prog 144 _ (ReflectliteType.method ReflectliteType.elem) Tryd.func144 (by kernel_rfl) (by kernel_rfl) (by kernel_rfl) (by kernel_rfl)
  have x6 := @run_callFunc_extern Tryd.prog 145 _ (ReflectliteType.relation "Implements" ReflectliteType.implements_) Tryd.func145 (by kernel_rfl) (by kernel_rfl) (by kernel_rfl) (by kernel_rfl)
  have x7 := @run_callFunc_extern Tryd.prog 102 _ ReflectliteType.typeOf Tryd.func102 (by kernel_rfl) (by kernel_rfl) (by kernel_rfl) (by kernel_rfl)
  have x8 := @run_callFunc_extern Tryd.prog 142 _ (ReflectliteType.relation "AssignableTo" ReflectliteType.assignableTo) Tryd.func142 (by kernel_rfl) (by kernel_rfl) (by kernel_rfl) (by kernel_rfl)
  have x9 := @run_callFunc_extern Tryd.prog 116 _ (ReflectliteValue.method (ReflectliteValue.valueError "reflectlite.Value.Elem" 0) ReflectliteValue.elem) Tryd.func116 (by kernel_rfl) (by kernel_rfl) (by kernel_rfl) (by kernel_rfl)
  have x0 := @run_callFunc_extern Tryd.prog 117 _ ReflectliteValue.set Tryd.func117 (by kernel_rfl) (by kernel_rfl) (by kernel_rfl) (by kernel_rfl)
  have y1 := Tryd.asTypeOfP
  have y2 := Tryd.asMethodAssignable
  have y3 := Tryd.asAssignableP
  have y4 := Tryd.asValueOf
  have y5 := Tryd.asType
  have y6 := Tryd.asMethodKind
  have y7 := Tryd.asMethodElem
  have y8 := Tryd.asMethodImplements
  have y9 := Tryd.asKindPP
  have z1 := Tryd.asKindP
  have z2 := Tryd.asElem
  have z3 := Tryd.asImplements
  have z4 := Tryd.asValueOfP
  obtain ⟨o1, ho1⟩ : ∃ o, o = Obj.cells #[.pointer (some t)] 95 := ⟨_, rfl⟩
  obtain ⟨o2, ho2⟩ : ∃ o, o = Obj.cells #[.pointer (some ⟨9, 95, none⟩), .pointer (some ⟨w.heap.size, 0, none⟩), .int .u64 150] 127 := ⟨_, rfl⟩
  have n8 := Tryd.asIsNil ⟨w.heap.size, 0, none⟩ t ((w.alloc o1).alloc o2) (by subst ho1; simp)
  have hlt : 8 < w.heap.size := World.block_lt_of_cell? w _ hg
  have htl : t.block < w.heap.size := World.block_lt_of_cell? w _ ht0
  have hg2 : ((w.alloc o1).alloc o2).cell? ⟨8, 0, none⟩ = some handleV := by
    rw [World.cell?_alloc_lt _ _ ⟨8, 0, none⟩ (by simp; omega), World.cell?_alloc_lt _ _ ⟨8, 0, none⟩ hlt]; exact hg
  have el := Tryd.asElemV ⟨w.heap.size, 0, none⟩ t (((w.alloc o1).alloc o2).alloc o2) (by rw [World.cell?_alloc_lt _ _ ⟨w.heap.size, 0, none⟩ (by simp; omega)]; subst ho1; simp)
  have st := Tryd.asSet t ⟨w.heap.size + 1 + 1 + 1, 0, none⟩ e old ((((w.alloc o1).alloc o2).alloc o2).alloc (.cells #[.pointer (some e)] 84))
    (by rw [World.cell?_alloc_at _ _ _ _ (by simp)]; rfl)
    (by rw [World.cell?_alloc_lt _ _ t (by simp; omega), World.cell?_alloc_lt _ _ t (by simp; omega), World.cell?_alloc_lt _ _ t (by simp; omega), World.cell?_alloc_lt _ _ t htl]; exact ht0)
    (by rw [World.frozen?_alloc_old _ _ t (by simp; omega), World.frozen?_alloc_old _ _ t (by simp; omega), World.frozen?_alloc_old _ _ t (by simp; omega), World.frozen?_alloc_old _ _ t (Nat.ne_of_lt htl)]; exact hf0)
  subst ho1 ho2
  go_enter Tryd.func69, Tryd.ntmps69
  go_wp2
  refine wp_loop_rounds 1 ?_
  rw [rounds_succ]
  go_wp2
  go_ret
  exact ⟨rfl, _, ((((Below.refl _ _).alloc (Nat.le_refl _) _).alloc (by simp) _).alloc (by simp; omega) _).alloc (by simp; omega) _, rfl⟩
set_option maxHeartbeats 1000000 in
/-- errors.Is(e, x), e a *api.Fault round x itself. -/
theorem is_fault_same (p : Nat) (b : Addr) (w : World) (h1 : w.cell? ⟨p, 1, none⟩ = some (errV b)) :
    Calls Tryd.prog 70 #[.iface 84 (.pointer (some ⟨p, 0, none⟩)), errV b] w fun e w' => e = .returned (.bool true) ∧ w' = w := by
  obtain ⟨i, hi, hcmp⟩ := Option.map_eq_some_iff.1 Tryd.isComp
  obtain ⟨j, hj, hjs⟩ := Option.map_eq_some_iff.1 Tryd.isSize
  have x7 := @run_callFunc_extern Tryd.prog 102 _ ReflectliteType.typeOf Tryd.func102 (by kernel_rfl) (by kernel_rfl) (by kernel_rfl) (by kernel_rfl)
  have x8 := @run_callFunc_extern Tryd.prog 143 _ (Extern.ReflectliteType.method fun t => do Rtype.noPackHeld "Comparable" t; pure (.bool (← typeInfo t).comparable)) Tryd.func143 (by kernel_rfl) (by kernel_rfl) (by kernel_rfl) (by kernel_rfl)
  have y1 := Tryd.asTypeOfE
  have y2 := Tryd.isComparable
  have y3 := Tryd.isMethodComparable
  have y4 := Tryd.noIsF
  have y5 := Tryd.hasUnwrapF
  have y6 := Tryd.methodUnwrapF
  have heq := run_eql_iface_ptr_same (P := Tryd.prog) w b Tryd.underlying29 Tryd.underlying163 hi hcmp hj
  have hty := run_eql_iface_types (P := Tryd.prog) 84 163 (.pointer (some ⟨p, 0, none⟩)) (.pointer (some b)) Tryd.underlying29 (by decide) w
  go_enter Tryd.func70, Tryd.ntmps70
  go_wp2
  refine wp_loop_rounds 2 ?_
  rw [rounds_succ]
  go_wp2
  rw [rounds_succ]
  go_wp2
  go_ret
  exact ⟨rfl, rfl⟩
set_option maxHeartbeats 1000000 in
/-- errors.Is(e, x), e a *api.Fault round another error. -/
theorem is_fault_other (p : Nat) (a b : Addr) (ca cb : Array Value) (ta tb : TypeId) (w : World) (h1 : w.cell? ⟨p, 1, none⟩ = some (errV a)) (hne : a ≠ b) (ha : w.heap[a.block]? = some (.cells ca ta (0, 0))) (hb : w.heap[b.block]? = some (.cells cb tb (0, 0))) :
    Calls Tryd.prog 70 #[.iface 84 (.pointer (some ⟨p, 0, none⟩)), errV b] w fun e w' => e = .returned (.bool false) ∧ w' = w := by
  obtain ⟨i, hi, hcmp⟩ := Option.map_eq_some_iff.1 Tryd.isComp
  obtain ⟨j, hj, hjs⟩ := Option.map_eq_some_iff.1 Tryd.isSize
  have x7 := @run_callFunc_extern Tryd.prog 102 _ ReflectliteType.typeOf Tryd.func102 (by kernel_rfl) (by kernel_rfl) (by kernel_rfl) (by kernel_rfl)
  have x8 := @run_callFunc_extern Tryd.prog 143 _ (Extern.ReflectliteType.method fun t => do Rtype.noPackHeld "Comparable" t; pure (.bool (← typeInfo t).comparable)) Tryd.func143 (by kernel_rfl) (by kernel_rfl) (by kernel_rfl) (by kernel_rfl)
  have y1 := Tryd.asTypeOfE
  have y2 := Tryd.isComparable
  have y3 := Tryd.isMethodComparable
  have y4 := Tryd.noIsF
  have y5 := Tryd.hasUnwrapF
  have y6 := Tryd.methodUnwrapF
  have z4 := Tryd.noIsE
  have z5 := Tryd.asNoUnwrap
  have z6 := Tryd.asNoUnwraps
  have heq := run_eql_iface_ptr_other (P := Tryd.prog) w Tryd.underlying29 Tryd.underlying163 hi hcmp hj (by rw [hjs]; decide) hne ha hb
  have hty := run_eql_iface_types (P := Tryd.prog) 84 163 (.pointer (some ⟨p, 0, none⟩)) (.pointer (some b)) Tryd.underlying29 (by decide) w
  go_enter Tryd.func70, Tryd.ntmps70
  go_wp2
  refine wp_loop_rounds 2 ?_
  rw [rounds_succ]
  go_wp2
  rw [rounds_succ]
  go_wp2
  go_ret
  exact ⟨rfl, rfl⟩
end Go.Proofs.YtjchkhdmjbojjaaDoor
