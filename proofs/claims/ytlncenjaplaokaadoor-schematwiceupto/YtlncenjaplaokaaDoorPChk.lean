/-
  enc.isCount, checkCount, check: which kinds, counts and values are right, and where one is not.
-/
import Derived.Test.YtlncenjaplaokaaDoorPVal
namespace Go.Proofs.YtlncenjaplaokaaDoor
open Go.RowKit
/-- A value: its kind, its number, its text. -/
structure Vl where
  k : Int
  n : Int
  s : ByteArray
/-- Where a slice of values lies: three cells each. -/
def LiesV (w : World) (a : Option Addr) (vs : List Vl) : Prop := ∀ j (h : j < vs.length), ∃ b o, a = some ⟨b, o, none⟩ ∧ w.cell? ⟨b, o + j * 3, none⟩ = some (.int .i64 vs[j].k) ∧ w.cell? ⟨b, o + j * 3 + 1, none⟩ = some (.int .i64 vs[j].n) ∧ w.cell? ⟨b, o + j * 3 + 2, none⟩ = some (.string vs[j].s)
theorem LiesV.keep {w w' : World} {a : Option Addr} {vs : List Vl} (h : LiesV w a vs) (hb : Below w.heap.size w w') : LiesV w' a vs := fun j hj => by
  obtain ⟨b, o, e, h0, h1, h2⟩ := h j hj
  exact ⟨b, o, e, (hb.cell (World.block_lt_of_cell? w _ h0)).trans h0, (hb.cell (World.block_lt_of_cell? w _ h1)).trans h1, (hb.cell (World.block_lt_of_cell? w _ h2)).trans h2⟩
/-- A cell of a row that is new. -/
theorem cell_alloc_at {w : World} {cs : Array Value} {T : TypeId} {i b : Nat} {v : Value} (h : cs[i]? = some v) (hb : b = w.heap.size) : (w.alloc (.cells cs T)).cell? ⟨b, i, none⟩ = some v := by
  subst hb
  rw [cell_of_row _ w.heap.size i _ T (0, 0) (heap_alloc_new w _)]
  exact h
def Vl.Ok (kd : Int) (v : Vl) : Prop := OkV kd v.k v.n v.s.size
end Go.Proofs.YtlncenjaplaokaaDoor
