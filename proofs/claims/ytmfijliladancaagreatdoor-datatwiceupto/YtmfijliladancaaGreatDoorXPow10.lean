/-
  What a row lists: the table of powers of ten; the tail of a list.
-/
import Derived.Test.YtmfijliladancaaGreatDoorXSent
import Derived.Lib.LaidTab
import Derived.Lib.ItoaNum
namespace Go.Proofs.YtmfijliladancaaGreatDoor
open Go.RowKit
theorem laid_rest {P : Program} {W : World} {x : String × DataW Unit} {r : List (String × DataW Unit)} (h : laidMet P (x :: r) W) : laidMet P r W := by
  obtain ⟨n1, d1⟩ := x
  obtain ⟨ps, ⟨g0, t0, cs0, f0, p0, q0, hg0, ht0, hv0, hd0, hr, e0⟩, hnd, hrows⟩ := h
  subst e0
  exact ⟨q0, hr, (List.nodup_append.1 hnd).2.1, fun b off hb => hrows b off (List.mem_append_right _ hb)⟩
theorem Tryz.g10 : Tryz.prog.globalNamed "internal/strconv.uint64pow10" = some 5 := by kernel_rfl
theorem Tryz.g10Type : (Tryz.prog.globals[5]?).map (·.type) = some 114 := by kernel_rfl
theorem Tryz.cells10 : Tryz.prog.cellsOf 85 = 1 := by kernel_rfl
theorem Tryz.cells10s : Tryz.prog.cellsOf 114 = 20 := by kernel_rfl
theorem pow10_of {W : World} {rest : List (String × DataW Unit)} (h : laidMet Tryz.prog (("internal/strconv.uint64pow10", Rows.laid_internal_strconv_uint64pow10) :: rest) W) : Lib.TabIs Tryz.prog W "internal/strconv.uint64pow10" .u64 Lib.pow10Tab :=
  Lib.tabIs_of_head (zs := Lib.pow10Tab) Tryz.g10 Tryz.g10Type Tryz.underlying114 Tryz.underlying85 Tryz.cells10 Tryz.cells10s h
end Go.Proofs.YtmfijliladancaaGreatDoor
