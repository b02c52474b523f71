/-
  ShredSplits, from what its row lists.
-/
import Derived.Test.YtdpedailookcjaaDoorSWShS
import Derived.Test.YtdpedailookcjaaDoorSSent
import Derived.Test.YtdpedailookcjaaDoorRows
import Derived.Test.YtdpedailookcjaaDoorSBOpenNode
namespace Go.Proofs.YtdpedailookcjaaDoor
open Go.RowKit
theorem Tryd.xEb : Tryd.prog.globalNamed "shredcol/api.ErrBound" = some 0 := by kernel_rfl
theorem Tryd.xEbType : (Tryd.prog.globals[0]?).map (·.type) = some 31 := by kernel_rfl
theorem Tryd.xEs : Tryd.prog.globalNamed "shredcol/api.ErrShape" = some 2 := by kernel_rfl
theorem Tryd.xEsType : (Tryd.prog.globals[2]?).map (·.type) = some 31 := by kernel_rfl
theorem Tryd.xEk : Tryd.prog.globalNamed "shredcol/api.ErrKind" = some 3 := by kernel_rfl
theorem Tryd.xEkType : (Tryd.prog.globals[3]?).map (·.type) = some 31 := by kernel_rfl
theorem Tryd.xEn : Tryd.prog.globalNamed "shredcol/api.ErrName" = some 4 := by kernel_rfl
theorem Tryd.xEnType : (Tryd.prog.globals[4]?).map (·.type) = some 31 := by kernel_rfl
theorem shs_laid {W : World} (h : laidMetH Tryd.prog Rows.shredSplitsUptoRow.laid W) : ∃ eb es ek en : TypeId × Value, EC W eb es ek ∧ W.cell? ⟨4, 0, none⟩ = some (.iface en.1 en.2) := by
  have h0 : laidMet Tryd.prog Rows.shredSplitsUptoRow.laid W := h
  obtain ⟨aEb, sEb⟩ := sent_of Tryd.xEb Tryd.xEbType (text := [115, 104, 114, 101, 100, 99, 111, 108, 58, 32, 98, 111, 117, 110, 100]) _ (List.mem_of_getElem? (i := 0) rfl) h0
  obtain ⟨aEs, sEs⟩ := sent_of Tryd.xEs Tryd.xEsType (text := [115, 104, 114, 101, 100, 99, 111, 108, 58, 32, 115, 104, 97, 112, 101]) _ (List.mem_of_getElem? (i := 1) rfl) h0
  obtain ⟨aEk, sEk⟩ := sent_of Tryd.xEk Tryd.xEkType (text := [115, 104, 114, 101, 100, 99, 111, 108, 58, 32, 107, 105, 110, 100]) _ (List.mem_of_getElem? (i := 2) rfl) h0
  obtain ⟨aEn, sEn⟩ := sent_of Tryd.xEn Tryd.xEnType (text := [115, 104, 114, 101, 100, 99, 111, 108, 58, 32, 110, 97, 109, 101]) _ (List.mem_of_getElem? (i := 3) rfl) h0
  exact ⟨(_, _), (_, _), (_, _), (_, _), ⟨sEb.var, sEs.var, sEk.var⟩, sEn.var⟩
theorem shredSplits_top (t : Tr) (a : Option Addr) (c n : Nat) (P PA PB : Nat → Prop) (A : List Dt) (aa : Option Addr) (ac : Nat) (B : List Dt) (ba : Option Addr) (bc : Nat) (at_ : Int) (W : World) (hd : t.Dp n) (hn : n ≤ 1100000) (hs : t.Sm) (hl : LiesN W P a t.sub) (hlA : LiesD W PA aa A) (hlB : LiesD W PB ba B) (hA : A.length ≤ 1048576 ∧ ∀ j (h : j < A.length), A[j].Sm) (hA2 : wtL A ≤ 1048576) (hB : B.length ≤ 1048576 ∧ ∀ j (h : j < B.length), B[j].Sm) (hB2 : wtL B ≤ 1048576) (hL : laidMetH Tryd.prog Rows.shredSplitsUptoRow.laid W) :
    Calls Tryd.prog 3 #[nodeV t a c, .slice aa A.length ac, .slice ba B.length bc, .int .i64 at_] W fun e w' => e = .returned (.bool true) ∧ Below W.heap.size W w' := by
  obtain ⟨eb, es, ek, en, h3, h4⟩ := shs_laid hL
  exact shredSplits_walk eb es ek en t n hd hn hs P PA PB a c A aa ac B ba bc at_ W h3 h4 hl hlA hlB hA.1 hA2 hA.2 hB.1 hB2 hB.2
end Go.Proofs.YtdpedailookcjaaDoor
