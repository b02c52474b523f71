/-
  What the program knows of the type string.
-/
import Derived.Test.YtjpdghpkbpdmeaaDoorGPref
namespace Go.Proofs.YtjpdghpkbpdmeaaDoor
theorem Tryd.infoS : (Tryd.prog.info? 9).map (fun i => (i.zero, i.size, i.bytes)) = some (some (.string ⟨#[]⟩), 1, 16) := by kernel_rfl
end Go.Proofs.YtjpdghpkbpdmeaaDoor
