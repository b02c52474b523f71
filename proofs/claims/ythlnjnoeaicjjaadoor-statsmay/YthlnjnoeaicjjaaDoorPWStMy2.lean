/-
  StatsMay, for whatever stats, text and value.
-/
import Derived.Test.YthlnjnoeaicjjaaDoorPWStMy
import Derived.Test.YthlnjnoeaicjjaaDoorPOpenSt
import Derived.Test.YthlnjnoeaicjjaaDoorRows
namespace Go.Proofs.YthlnjnoeaicjjaaDoor
open Go.RowKit
theorem statsMay_top (s : St) (how : ByteArray) (v : Vl) (W : World) (hs : s.In) (hv : v.In) (hL : laidMetH Tryd.prog Rows.statsMayRow.laid W) :
    Calls Tryd.prog 3 #[.agg #[.int .i64 s.e, .int .i64 s.u, .bool s.h, .int .i64 s.mn.k, .int .i64 s.mn.n, .string s.mn.s, .int .i64 s.mx.k, .int .i64 s.mx.n, .string s.mx.s], .string how, .agg #[.int .i64 v.k, .int .i64 v.n, .string v.s]] W fun e w' => e = .returned (.bool true) ∧ Below W.heap.size W w' := by
  obtain ⟨A, hE⟩ := errs_of hL
  exact statsMay_walk s how v W A hE hs hv
end Go.Proofs.YthlnjnoeaicjjaaDoor
