/-
  Values (api.Value): isValue of the program and IsValue of the reference: what they answer.
  enc.isCount, checkCount, check: which kinds, counts and values are right, and where one is not.
  wire.ReadUvarint answers the number that the mathematics names, and its length, or the error that ErrText holds, for every text.
-/
import Derived.Test.YteonbmaokphleaaGreatDoorHBase
import Derived.RegionTactic
import Derived.Lib.Strings
import Derived.Test.YteonbmaokphleaaGreatDoorHBMath
namespace Go.Proofs.YteonbmaokphleaaGreatDoor
open Go.RowKit
theorem ret_b {a b : Bool} (h : a = b) : Ending.returned (.bool a) = .returned (.bool b) := by rw [h]
def OkV (kd k n : Int) (len : Nat) : Prop := k = kd ∧ (kd = 1 ∧ len = 0 ∧ (n = 0 ∨ n = 1) ∨ kd = 2 ∧ len = 0 ∧ -2147483648 ≤ n ∧ n ≤ 2147483647 ∨ (kd = 3 ∨ kd = 5) ∧ len = 0 ∨ kd = 4 ∧ n = 0 ∧ len ≤ 100)
def okV (kd k n : Int) (len : Nat) : Bool := decide (k = kd ∧ (kd = 1 ∧ len = 0 ∧ (n = 0 ∨ n = 1) ∨ kd = 2 ∧ len = 0 ∧ -2147483648 ≤ n ∧ n ≤ 2147483647 ∨ (kd = 3 ∨ kd = 5) ∧ len = 0 ∨ kd = 4 ∧ n = 0 ∧ len ≤ 100))
theorem okV_iff {kd k n : Int} {len : Nat} : okV kd k n len = true ↔ OkV kd k n len := by unfold okV OkV; exact decide_eq_true_iff
theorem toList_nil (s : ByteArray) : s.toList = [] ↔ s.size = 0 := by
 rw [Lib.toList_data, ← List.length_eq_zero_iff, Array.length_toList]; rfl
theorem toList_isEmpty (s : ByteArray) : s.toList.isEmpty = decide (s.size = 0) := by
 rw [Bool.eq_iff_iff, List.isEmpty_iff, toList_nil, decide_eq_true_iff]
set_option maxRecDepth 100000 in
set_option maxHeartbeats 800000 in
theorem isValue_any (k n : Int) (s : ByteArray) (w : World) : Calls Tryz.prog 107 #[.agg #[.int .i64 k, .int .i64 n, .string s]] w fun e w' => e = .returned (.bool (okV k k n s.size)) ∧ Below w.heap.size w w' := by
 go_enter Tryz.func107, Tryz.ntmps107
 go_wp2
 all_goals go_ret
 all_goals refine ⟨ret_b ?_, (Below.refl _ _).alloc (Nat.le_refl _) _⟩
 all_goals (unfold okV; grind [toList_nil, toList_isEmpty])
structure Vl where
 k : Int
 n : Int
 s : ByteArray
def LiesV (w : World) (a : Option Addr) (vs : List Vl) : Prop := ∀ j (h : j < vs.length), ∃ b o, a = some ⟨b, o, none⟩ ∧ w.cell? ⟨b, o + j * 3, none⟩ = some (.int .i64 vs[j].k) ∧ w.cell? ⟨b, o + j * 3 + 1, none⟩ = some (.int .i64 vs[j].n) ∧ w.cell? ⟨b, o + j * 3 + 2, none⟩ = some (.string vs[j].s)
theorem LiesV.keep {w w' : World} {a : Option Addr} {vs : List Vl} (h : LiesV w a vs) (hb : Below w.heap.size w w') : LiesV w' a vs := fun j hj => by
 obtain ⟨b, o, e, h0, h1, h2⟩ := h j hj
 exact ⟨b, o, e, (hb.cell (World.block_lt_of_cell? w _ h0)).trans h0, (hb.cell (World.block_lt_of_cell? w _ h1)).trans h1, (hb.cell (World.block_lt_of_cell? w _ h2)).trans h2⟩
theorem cell_alloc_at {w : World} {cs : Array Value} {T : TypeId} {i b : Nat} {v : Value} (h : cs[i]? = some v) (hb : b = w.heap.size) : (w.alloc (.cells cs T)).cell? ⟨b, i, none⟩ = some v := by
 subst hb
 rw [cell_of_row _ w.heap.size i _ T (0, 0) (heap_alloc_new w _)]
 exact h
def Vl.Ok (kd : Int) (v : Vl) : Prop := OkV kd v.k v.n v.s.size
def Fsh (N : Nat) (a : Option Addr) : Prop := ∀ p, a = some p → N ≤ p.block
theorem Fsh.at {N g o : Nat} (h : N ≤ g) : Fsh N (some ⟨g, o, none⟩) := fun p e => by
 injection e with e
 subst e
 exact h
theorem Fsh.low {N M : Nat} {a : Option Addr} (h : Fsh N a) (hm : M ≤ N) : Fsh M a := fun p e => Nat.le_trans hm (h p e)
def acc (n b k : Nat) : Nat := n ||| (b % 128 * 2 ^ (7 * k) % 18446744073709551616)
end Go.Proofs.YteonbmaokphleaaGreatDoor
