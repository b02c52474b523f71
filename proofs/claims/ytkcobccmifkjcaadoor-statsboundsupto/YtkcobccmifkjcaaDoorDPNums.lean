/-
  enc.sizeOf and enc.plainNumbers: the bytes of numbers.
-/
import Derived.Test.YtkcobccmifkjcaaDoorDBVal
import Derived.Test.YtkcobccmifkjcaaDoorDBMath
import Derived.Laws.MakeOwn
import Derived.Test.YtkcobccmifkjcaaDoorDOwn
namespace Go.Proofs.YtkcobccmifkjcaaDoor
open Go.RowKit
/-- The numbers of values. -/
def vns (vs : List Vl) : List Int := vs.map (·.n)
theorem vns_len (vs : List Vl) : (vns vs).length = vs.length := by simp [vns]
/-- The texts of values. -/
def vss (vs : List Vl) : List (List UInt8) := vs.map (·.s.data.toList)
theorem vss_len (vs : List Vl) : (vss vs).length = vs.length := by simp [vss]
theorem own_num_snoc {w : World} {base e N q : Nat} {v : Value} {n : Int} {l : List UInt8} (hn : n = (Um.by_ N q : Nat)) (h : w.ownsRow base e 1 v (l.length + q + 1) (cellsOf (l ++ Um.lit N q) ++ [.int .u8 n])) : w.ownsRow base e 1 v (l.length + (q + 1)) (cellsOf (l ++ Um.lit N (q + 1))) := by
  have hlt := Um.by_lt N q
  rw [Um.lit_succ, ← List.append_assoc, cells_snoc, Um.bt_int (by omega) (by omega), ← hn]; exact h
end Go.Proofs.YtkcobccmifkjcaaDoor
