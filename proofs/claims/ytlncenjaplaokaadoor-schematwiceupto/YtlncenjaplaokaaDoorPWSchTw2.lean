/-
  SchemaTwice, from what its row lists.
-/
import Derived.Test.YtlncenjaplaokaaDoorPWSchTw
import Derived.Test.YtlncenjaplaokaaDoorPSent
import Derived.Lib.LaidTab
namespace Go.Proofs.YtlncenjaplaokaaDoor
open Go.RowKit
theorem laid_tail {P : Program} {W : World} {x : String × DataW Unit} {r : List (String × DataW Unit)} (h : laidMet P (x :: r) W) : laidMet P r W := by
  obtain ⟨n1, d1⟩ := x
  obtain ⟨ps, ⟨g0, t0, cs0, f0, p0, q0, hg0, ht0, hv0, hd0, hr, e0⟩, hnd, hrows⟩ := h
  subst e0
  exact ⟨q0, hr, (List.nodup_append.1 hnd).2.1, fun b off hb => hrows b off (List.mem_append_right _ hb)⟩
theorem Tryd.gPow : Tryd.prog.globalNamed "internal/strconv.uint64pow10" = some 4 := by kernel_rfl
theorem Tryd.gPowType : (Tryd.prog.globals[4]?).map (·.type) = some 106 := by kernel_rfl
theorem Tryd.cellsU64 : Tryd.prog.cellsOf 92 = 1 := by kernel_rfl
theorem Tryd.cellsPow : Tryd.prog.cellsOf 106 = 20 := by kernel_rfl
theorem Tryd.gEb : Tryd.prog.globalNamed "shredcol/api.ErrBound" = some 0 := by kernel_rfl
theorem Tryd.gEbType : (Tryd.prog.globals[0]?).map (·.type) = some 28 := by kernel_rfl
theorem Tryd.gEs : Tryd.prog.globalNamed "shredcol/api.ErrShape" = some 1 := by kernel_rfl
theorem Tryd.gEsType : (Tryd.prog.globals[1]?).map (·.type) = some 28 := by kernel_rfl
theorem Tryd.gEn : Tryd.prog.globalNamed "shredcol/api.ErrName" = some 2 := by kernel_rfl
theorem Tryd.gEnType : (Tryd.prog.globals[2]?).map (·.type) = some 28 := by kernel_rfl
theorem tw_laid {W : World} (h : laidMetH Tryd.prog Rows.schemaTwiceUptoRow.laid W) : (∃ eb es en : TypeId × Value, Er3 W eb es en) ∧ Lib.TabIs Tryd.prog W "internal/strconv.uint64pow10" .u64 Lib.pow10Tab := by
  have h0 : laidMet Tryd.prog Rows.schemaTwiceUptoRow.laid W := h
  obtain ⟨ab, sb⟩ := sent_of Tryd.gEb Tryd.gEbType (text := [115, 104, 114, 101, 100, 99, 111, 108, 58, 32, 98, 111, 117, 110, 100]) _ (List.mem_of_getElem? (i := 4) rfl) h0
  obtain ⟨ash, ss⟩ := sent_of Tryd.gEs Tryd.gEsType (text := [115, 104, 114, 101, 100, 99, 111, 108, 58, 32, 115, 104, 97, 112, 101]) _ (List.mem_of_getElem? (i := 5) rfl) h0
  obtain ⟨an, sn⟩ := sent_of Tryd.gEn Tryd.gEnType (text := [115, 104, 114, 101, 100, 99, 111, 108, 58, 32, 110, 97, 109, 101]) _ (List.mem_of_getElem? (i := 6) rfl) h0
  refine ⟨⟨(_, _), (_, _), (_, _), ⟨sb.var, ss.var, sn.var⟩⟩, ?_⟩
  exact Lib.tabIs_of_head (zs := Lib.pow10Tab) Tryd.gPow Tryd.gPowType Tryd.underlying106 Tryd.underlying92 Tryd.cellsU64 Tryd.cellsPow (laid_tail (laid_tail h0))
theorem schemaTwice_top (t : Tr) (a : Option Addr) (c n : Nat) (P : Nat → Prop) (W : World) (hd : t.Dp n) (hn : n ≤ 1100000) (hs : t.Sm) (hl : LiesN W P a t.sub) (hcap : t.sub.length ≤ c) (hL : laidMetH Tryd.prog Rows.schemaTwiceUptoRow.laid W) :
    Calls Tryd.prog 3 #[nodeV t a c] W fun e w' => e = .returned (.bool true) ∧ Below W.heap.size W w' := by
  obtain ⟨⟨eb, es, en, he⟩, ht⟩ := tw_laid hL
  exact schemaTwice_walk t a c P n hd hn hs W hl hcap eb es en he ht
end Go.Proofs.YtlncenjaplaokaaDoor
