/-
  DataTwice, from what its row lists.
-/
import Derived.Test.YtmfijliladancaaGreatDoorXWDtw
import Derived.Test.YtmfijliladancaaGreatDoorXSent
import Derived.Test.YtmfijliladancaaGreatDoorXPow10
import Derived.Test.YtmfijliladancaaGreatDoorRows
import Derived.Test.YtmfijliladancaaGreatDoorXBOpenNode
namespace Go.Proofs.YtmfijliladancaaGreatDoor
open Go.RowKit
theorem Tryz.xEb : Tryz.prog.globalNamed "shredcol/api.ErrBound" = some 0 := by kernel_rfl
theorem Tryz.xEbType : (Tryz.prog.globals[0]?).map (·.type) = some 34 := by kernel_rfl
theorem Tryz.xEs : Tryz.prog.globalNamed "shredcol/api.ErrShape" = some 2 := by kernel_rfl
theorem Tryz.xEsType : (Tryz.prog.globals[2]?).map (·.type) = some 34 := by kernel_rfl
theorem Tryz.xEk : Tryz.prog.globalNamed "shredcol/api.ErrKind" = some 4 := by kernel_rfl
theorem Tryz.xEkType : (Tryz.prog.globals[4]?).map (·.type) = some 34 := by kernel_rfl
theorem Tryz.xEn : Tryz.prog.globalNamed "shredcol/api.ErrName" = some 3 := by kernel_rfl
theorem Tryz.xEnType : (Tryz.prog.globals[3]?).map (·.type) = some 34 := by kernel_rfl
theorem dtw_laid {W : World} (h : laidMetH Tryz.prog Rows.dataTwiceUptoRow.laid W) : ∃ eb es ek en : TypeId × Value, EC W eb es ek ∧ W.cell? ⟨3, 0, none⟩ = some (.iface en.1 en.2) ∧ Lib.TabIs Tryz.prog W "internal/strconv.uint64pow10" .u64 Lib.pow10Tab := by
  have h0 : laidMet Tryz.prog Rows.dataTwiceUptoRow.laid W := h
  obtain ⟨aEb, sEb⟩ := sent_of Tryz.xEb Tryz.xEbType (text := [115, 104, 114, 101, 100, 99, 111, 108, 58, 32, 98, 111, 117, 110, 100]) _ (List.mem_of_getElem? (i := 4) rfl) h0
  obtain ⟨aEs, sEs⟩ := sent_of Tryz.xEs Tryz.xEsType (text := [115, 104, 114, 101, 100, 99, 111, 108, 58, 32, 115, 104, 97, 112, 101]) _ (List.mem_of_getElem? (i := 5) rfl) h0
  obtain ⟨aEk, sEk⟩ := sent_of Tryz.xEk Tryz.xEkType (text := [115, 104, 114, 101, 100, 99, 111, 108, 58, 32, 107, 105, 110, 100]) _ (List.mem_of_getElem? (i := 6) rfl) h0
  obtain ⟨aEn, sEn⟩ := sent_of Tryz.xEn Tryz.xEnType (text := [115, 104, 114, 101, 100, 99, 111, 108, 58, 32, 110, 97, 109, 101]) _ (List.mem_of_getElem? (i := 7) rfl) h0
  exact ⟨(_, _), (_, _), (_, _), (_, _), ⟨sEb.var, sEs.var, sEk.var⟩, sEn.var, pow10_of (laid_rest (laid_rest h0))⟩
theorem dataTwice_top (t : Tr) (a : Option Addr) (c n : Nat) (P PD : Nat → Prop) (d : Dt) (al : Option Addr) (cl : Nat) (af : Option Addr) (cf : Nat) (W : World) (hd : t.Dp n) (hn : n ≤ 1100000) (hs : t.Sm) (hl : LiesN W P a t.sub) (hds : d.Sm) (hin : d.In) (hdw : wt d ≤ 1048576) (hd1 : LiesD W PD al d.l) (hd2 : LiesD W PD af d.f) (hL : laidMetH Tryz.prog Rows.dataTwiceUptoRow.laid W) :
    Calls Tryz.prog 3 #[nodeV t a c, datumV d al cl af cf] W fun e w' => e = .returned (.bool true) ∧ Below W.heap.size W w' := by
  obtain ⟨eb, es, ek, en, h3, h4, h5⟩ := dtw_laid hL
  exact dataTwice_walk eb es ek en t n hd hn hs P PD a c d hds hin hdw al cl af cf W h3 h4 h5 hl hd1 hd2
end Go.Proofs.YtmfijliladancaaGreatDoor
