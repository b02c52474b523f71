/-
  errors.As at a target of type **api.Fault, walked: an error of errors.New's make is none; a *api.Fault is one, and the target is set to it.
  What the listed variables hold: each error variable a pointer to its text; no two of them the same.
  The four listed errors in a world.
  plain.Code of nil and of each bare error: its number, and no place.
-/
import Derived.Test.YtgpfmjbebfmmnaaGreatDoorRows
import Derived.WalkKit
import Derived.LaidEql
import Derived.Stop.Asserts
import Derived.RowKitTokens
import Derived.Below
import Derived.LaidLaws
import Derived.LaidHandle
import Derived.Stop.LaidErr
import Derived.OpenShut
namespace Go.Proofs.YtgpfmjbebfmmnaaGreatDoor
open Go.RowKit Go.Extern.Stop Go.Stop Go.Extern
/-- What the variable errors.errorType holds. -/
abbrev handleV : Value := .iface 173 (.agg #[.pointer (some ⟨9, 36, none⟩)])
end Go.Proofs.YtgpfmjbebfmmnaaGreatDoor

namespace Go.Proofs.YtgpfmjbebfmmnaaGreatDoor
open Go.RowKit
theorem Tryz.star : "*errors.errorString" = "*" ++ "errors.errorString" := by decide
theorem Tryz.rowErr (u : TypeId) (h : Tryz.prog.typeName? 3 u = some "*errors.errorString") : u = 255 :=
  typeName_ptr_named (nm := "errors.errorString") (by rw [← Tryz.star]; kernel_rfl) (by kernel_rfl) (by decide) u (by rw [← Tryz.star]; exact h)
theorem Tryz.cellsErr : Tryz.prog.cellsOf 273 = 1 := by kernel_rfl
theorem Tryz.cellsStr : Tryz.prog.cellsOf 9 = 1 := by kernel_rfl
/-- The listed variable's datum: an error of errors.New's make. -/
abbrev sentD (text : List UInt8) : DataW Unit := .iface "*errors.errorString" (.ptr (.agg [.lit (.string text)]))
/-- What a world holds of an error variable: its cell, the text behind it, a row that is nowhere frozen. -/
structure Sent (W : World) (g : Nat) (text : List UInt8) (a : Addr) : Prop where
  var : W.cell? ⟨g, 0, none⟩ = some (.iface 255 (.pointer (some a)))
  str : ∃ s : ByteArray, W.cell? a = some (.string s) ∧ s.data.toList = text
  row : ∃ c t, W.heap[a.block]? = some (.cells c t (0, 0))
set_option maxRecDepth 100000 in
theorem sent_of {n : String} {g : Nat} {text : List UInt8} {W : World} (hg : Tryz.prog.globalNamed n = some g) (ht : (Tryz.prog.globals[g]?).map (·.type) = some 36) :
    ∀ (l : List (String × DataW Unit)), (n, sentD text) ∈ l → laidMet Tryz.prog l W → ∃ a, Sent W g text a
  | [], hm, _ => absurd hm (by simp)
  | (n1, d1) :: r, hm, h => by
    obtain ⟨ps, ⟨g0, t0, cs0, f0, p0, q0, hg0, ht0, hv0, hd0, hr, e0⟩, hnd, hrows⟩ := h
    subst e0
    by_cases hx : (n, sentD text) = (n1, d1)
    · obtain ⟨rfl, rfl⟩ := Prod.mk.inj hx
      obtain rfl := Option.some.inj (hg.symm.trans hg0)
      obtain rfl := Option.some.inj (ht.symm.trans ht0)
      obtain ⟨l0⟩ := cs0
      have ok0 : ∀ u v, l0 = [.iface u v] → Value.okWide Tryz.prog W .any 0 u v := fun u v e => by
        subst e
        exact (hrows g 0 (by simp [MemPlace.row])).2 u v (by simpa using World.var?_cell hg0 hv0 0)
      obtain ⟨a0, s0, rfl, hc0, hs0, hz0, rfl⟩ := errorString_of_trod Tryz.underlying36 Tryz.rowErr Tryz.underlying255 Tryz.underlying273 rfl rfl Tryz.underlying9 Tryz.cellsErr Tryz.cellsStr hd0 ok0
      exact ⟨a0, by simpa using World.var?_cell hg0 hv0 0, ⟨s0, hc0, hs0⟩, (hrows a0.block a0.off (by simp [MemPlace.row])).1⟩
    · have hm' : (n, sentD text) ∈ r := by
        rcases List.mem_cons.1 hm with h | h
        · exact absurd h hx
        · exact h
      exact sent_of hg ht r hm' ⟨q0, hr, (List.nodup_append.1 hnd).2.1, fun b off hb => hrows b off (List.mem_append_right _ hb)⟩
/-- Two of them with different texts lie apart. -/
theorem Sent.ne {W : World} {g1 g2 : Nat} {t1 t2 : List UInt8} {a1 a2 : Addr} (h1 : Sent W g1 t1 a1) (h2 : Sent W g2 t2 a2) (hne : t1 ≠ t2) : a1 ≠ a2 := by
  rintro rfl
  obtain ⟨s1, e1, d1⟩ := h1.str
  obtain ⟨s2, e2, d2⟩ := h2.str
  rw [e1] at e2
  cases e2
  exact hne (d1.symm.trans d2)
/-- What is below a call's own blocks stays. -/
theorem Sent.keep {W W' : World} {g : Nat} {t : List UInt8} {a : Addr} (h : Sent W g t a) (hb : Below W.heap.size W W') : Sent W' g t a := by
  obtain ⟨s, e, d⟩ := h.str
  obtain ⟨c, ty, hr⟩ := h.row
  have hl := World.block_lt_of_cell? W a e
  exact ⟨(hb.cell (World.block_lt_of_cell? W _ h.var)).trans h.var, ⟨s, (hb.cell hl).trans e, d⟩, ⟨c, ty, (hb.block _ hl).trans hr⟩⟩
end Go.Proofs.YtgpfmjbebfmmnaaGreatDoor

namespace Go.Proofs.YtgpfmjbebfmmnaaGreatDoor
open Go.RowKit
theorem ckA {w w' : World} {g : Nat} {v : Value} (h : w.cell? ⟨g, 0, none⟩ = some v) (hb : Below w.heap.size w w') : w'.cell? ⟨g, 0, none⟩ = some v := (hb.cell (World.block_lt_of_cell? w _ h)).trans h
/-- The listed errors in a world. -/
structure Four4 (w : World) (tt bt st kt : TypeId) (tp bp sp kp : Value) : Prop where
  text : w.cell? ⟨2, 0, none⟩ = some (.iface tt tp)
  bound : w.cell? ⟨1, 0, none⟩ = some (.iface bt bp)
  shape : w.cell? ⟨0, 0, none⟩ = some (.iface st sp)
  kind : w.cell? ⟨3, 0, none⟩ = some (.iface kt kp)
theorem Four4.keep {w w' : World} {tt bt st kt : TypeId} {tp bp sp kp : Value} (h : Four4 w tt bt st kt tp bp sp kp) (hb : Below w.heap.size w w') : Four4 w' tt bt st kt tp bp sp kp :=
  ⟨ckA h.text hb, ckA h.bound hb, ckA h.shape hb, ckA h.kind hb⟩
end Go.Proofs.YtgpfmjbebfmmnaaGreatDoor

namespace Go.Proofs.YtgpfmjbebfmmnaaGreatDoor
open Go.RowKit Go.Extern.Stop Go.Stop Go.Extern
/-- The number of each error's variable, and its text. -/
def errG : Nat → Nat
  | 0 => 2 | 1 => 1 | 2 => 0 | 3 => 3 | 4 => 4 | 5 => 5 | 6 => 6 | _ => 7
def errT : Nat → List UInt8
  | 0 => [115, 104, 114, 101, 100, 99, 111, 108, 58, 32, 116, 101, 120, 116]
  | 1 => [115, 104, 114, 101, 100, 99, 111, 108, 58, 32, 98, 111, 117, 110, 100]
  | 2 => [115, 104, 114, 101, 100, 99, 111, 108, 58, 32, 115, 104, 97, 112, 101]
  | 3 => [115, 104, 114, 101, 100, 99, 111, 108, 58, 32, 107, 105, 110, 100]
  | 4 => [115, 104, 114, 101, 100, 99, 111, 108, 58, 32, 110, 97, 109, 101]
  | 5 => [115, 104, 114, 101, 100, 99, 111, 108, 58, 32, 110, 111, 110, 101]
  | 6 => [115, 104, 114, 101, 100, 99, 111, 108, 58, 32, 115, 117, 109]
  | _ => [115, 104, 114, 101, 100, 99, 111, 108, 58, 32, 115, 112, 97, 99, 101]
theorem errT_ne : ∀ i j : Fin 8, i ≠ j → errT i ≠ errT j := by decide
/-- The error that lies at a. -/
abbrev errV (a : Addr) : Value := .iface 255 (.pointer (some a))
/-- What the listed variables hold in a world. -/
structure Errs (W : World) (A : Nat → Addr) : Prop where
  at_ : ∀ i, i < 8 → Sent W (errG i) (errT i) (A i)
  handle : W.cell? ⟨8, 0, none⟩ = some handleV
theorem Errs.keep {W W' : World} {A : Nat → Addr} (h : Errs W A) (hb : Below W.heap.size W W') : Errs W' A :=
  ⟨fun i hi => (h.at_ i hi).keep hb, (hb.cell (World.block_lt_of_cell? W _ h.handle)).trans h.handle⟩
theorem Errs.ne {W : World} {A : Nat → Addr} (h : Errs W A) {i j : Nat} (hi : i < 8) (hj : j < 8) (hne : i ≠ j) : A i ≠ A j :=
  (h.at_ i hi).ne (h.at_ j hj) (errT_ne ⟨i, hi⟩ ⟨j, hj⟩ (fun e => hne (Fin.mk.inj e)))
def eightV (A : Nat → Addr) : Array Value := #[errV (A 0), errV (A 1), errV (A 2), errV (A 3), errV (A 4), errV (A 5), errV (A 6), errV (A 7)]
theorem eight_at (A : Nat → Addr) (k : Nat) (hk : k < 8) : (eightV A)[k]? = some (errV (A k)) := by
  have h : k = 0 ∨ k = 1 ∨ k = 2 ∨ k = 3 ∨ k = 4 ∨ k = 5 ∨ k = 6 ∨ k = 7 := by omega
  rcases h with rfl | rfl | rfl | rfl | rfl | rfl | rfl | rfl <;> rfl
/-- What the loop over the eight errors keeps. -/
structure Eight (w : World) (A : Nat → Addr) (g : Nat) (wr : World) : Prop where
  errs : Errs wr A
  cell : ∀ k, k < 8 → wr.cell? ⟨g, k, none⟩ = some (errV (A k))
  old : Below w.heap.size w wr
theorem Eight.start {w w1 : World} {A : Nat → Addr} (hb : Below w.heap.size w w1) (h : Errs w1 A) : Eight w A w1.heap.size (w1.alloc (.cells (eightV A) 36)) := by
  have hb3 : Below w1.heap.size w1 (w1.alloc (.cells (eightV A) 36)) := (Below.refl _ _).alloc (Nat.le_refl _) _
  refine ⟨h.keep hb3, fun k hk => ?_, hb.trans (hb3.mono hb.size)⟩
  rw [cell_of_row _ w1.heap.size k (eightV A) 36 (0, 0) (heap_alloc_new w1 _)]
  exact eight_at A k hk
end Go.Proofs.YtgpfmjbebfmmnaaGreatDoor
