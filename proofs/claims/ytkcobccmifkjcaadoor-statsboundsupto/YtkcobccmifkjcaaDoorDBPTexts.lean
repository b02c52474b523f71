/-
  enc.plainTexts and enc.plainBools: the bytes of texts; of numbers 0 or 1.
  enc.plainBools and enc.Plain: the bytes of values.
-/
import Derived.Test.YtkcobccmifkjcaaDoorDPNums
import Derived.Test.YtkcobccmifkjcaaDoorDBPack
import Derived.Test.YtkcobccmifkjcaaDoorDRd2
namespace Go.Proofs.YtkcobccmifkjcaaDoor
open Go.RowKit
theorem text_bytes (s : ByteArray) : ((⟨(Um.uv s.size).toArray⟩ : ByteArray) ++ s).data.toList = Um.txt s.data.toList := by
  rw [ByteArray.data_append, Array.toList_append]
  show _ = Um.uv s.data.toList.length ++ _
  rw [Array.length_toList]; rfl
end Go.Proofs.YtkcobccmifkjcaaDoor

namespace Go.Proofs.YtkcobccmifkjcaaDoor
open Go.RowKit
theorem GRow.keep {f : Nat → Value} {k g : Nat} {w wr w' : World} {i : Nat} (h : GRow f k g w wr i) (hg : g < wr.heap.size) (hb : Below wr.heap.size wr w') : GRow f k g w w' i :=
  ⟨fun j hj => (hb.cell hg).trans (h.done j hj), fun j hj => (h.any j hj).imp fun _ hv => (hb.cell hg).trans hv, fun j hj => (hb.frozen hg).trans (h.froz j hj), h.old.trans (hb.mono h.old.size)⟩
theorem room_one {n : Int} (h : n = 0 ∨ n = 1) : Room 1 n := by unfold Room; omega
theorem ret_pl {a b : List UInt8} {x : Value} (h : a = b) : Ending.returned (.tuple #[.string ⟨b.toArray⟩, x]) = .returned (.tuple #[.string ⟨a.toArray⟩, x]) := by rw [h]
/-- The bytes of right values of a kind. -/
def plainB (kd : Int) (vs : List Vl) : List UInt8 := if kd = 1 then packed 1 (vns vs) else if kd = 4 then Um.txts (vss vs) else Um.nums (if kd = 2 then 4 else 8) (vns vs)
end Go.Proofs.YtkcobccmifkjcaaDoor
