/-
  A column that is put together: its rows grow.
  shred.joined: columns, one behind the other.
-/
import Derived.Test.YtnceknbodpimiaaDoorVBColH
import Derived.Test.YtnceknbodpimiaaDoorVDFrm
import Derived.Test.YtnceknbodpimiaaDoorVAppAny
import Derived.Test.YtnceknbodpimiaaDoorVBWriter
import Derived.Test.YtnceknbodpimiaaDoorVOwn
import Derived.RegionTactic
import Derived.Deep.QuietTactic
import Derived.BigQuiet
import Derived.Deep.RegionWith
import Derived.Deep.RegionHeld3
import Derived.Test.YtnceknbodpimiaaDoorVSameInts
import Derived.Test.YtnceknbodpimiaaDoorVBSmall
namespace Go.Proofs.YtnceknbodpimiaaDoor
open Go.RowKit
theorem vcells_app (xs ys : List Vl) : vcells (xs ++ ys) = vcells xs ++ vcells ys := by simp [vcells]
end Go.Proofs.YtnceknbodpimiaaDoor

namespace Go.Proofs.YtnceknbodpimiaaDoor
open Go.RowKit
/-- A column that lies somewhere. -/
structure Cl where
  id : Int
  ra : Option Addr
  rs : List Int
  rc : Nat
  da : Option Addr
  ds : List Int
  dc : Nat
  va : Option Addr
  vs : List Vl
  vc : Nat
/-- Its rows lie in a world. -/
structure Cl.At (w : World) (c : Cl) : Prop where
  r : Lies w c.ra (i64s c.rs)
  d : Lies w c.da (i64s c.ds)
  v : LiesV w c.va c.vs
theorem Cl.At.keep {w w' : World} {c : Cl} (h : c.At w) (hb : Below w.heap.size w w') : c.At w' := ⟨h.r.keep hb, h.d.keep hb, h.v.keep hb⟩
/-- Its rows lie in blocks from one on. -/
structure Cl.Fr (N : Nat) (c : Cl) : Prop where
  r : ∀ p, c.ra = some p → N ≤ p.block
  d : ∀ p, c.da = some p → N ≤ p.block
  v : ∀ p, c.va = some p → N ≤ p.block
theorem Cl.At.off {w : World} {c : Cl} {N : Nat} (h : c.At w) (hf : c.Fr N) {g j : Nat} {v : Value} (hg : g < N) : c.At (w.setCell ⟨g, j, none⟩ v) :=
  ⟨h.r.off fun p hp => Nat.lt_of_lt_of_le hg (hf.r p hp), h.d.off fun p hp => Nat.lt_of_lt_of_le hg (hf.d p hp), h.v.off fun p hp => Nat.lt_of_lt_of_le hg (hf.v p hp)⟩
/-- Where a slice of columns lies. -/
def LiesC (w : World) (a : Option Addr) (cs : List Cl) : Prop := ∀ j (h : j < cs.length), (∃ b o, a = some ⟨b, o, none⟩ ∧ w.cell? ⟨b, o + j * 4, none⟩ = some (.int .i64 cs[j].id) ∧ w.cell? ⟨b, o + j * 4 + 1, none⟩ = some (.slice cs[j].ra cs[j].rs.length cs[j].rc) ∧ w.cell? ⟨b, o + j * 4 + 2, none⟩ = some (.slice cs[j].da cs[j].ds.length cs[j].dc) ∧ w.cell? ⟨b, o + j * 4 + 3, none⟩ = some (.slice cs[j].va cs[j].vs.length cs[j].vc)) ∧ cs[j].At w
theorem LiesC.keep {w w' : World} {a : Option Addr} {cs : List Cl} (h : LiesC w a cs) (hb : Below w.heap.size w w') : LiesC w' a cs := fun j hj => by
  obtain ⟨⟨b, o, e, h0, h1, h2, h3⟩, h4⟩ := h j hj
  exact ⟨⟨b, o, e, (hb.cell (World.block_lt_of_cell? w _ h0)).trans h0, (hb.cell (World.block_lt_of_cell? w _ h1)).trans h1, (hb.cell (World.block_lt_of_cell? w _ h2)).trans h2, (hb.cell (World.block_lt_of_cell? w _ h3)).trans h3⟩, h4.keep hb⟩
end Go.Proofs.YtnceknbodpimiaaDoor
