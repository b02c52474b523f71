/-
  DataCutTwice, from what its row lists.
-/
import Derived.Test.YtnceknbodpimiaaDoorVWDct
import Derived.Test.YtnceknbodpimiaaDoorVSent
import Derived.Test.YtnceknbodpimiaaDoorRows
import Derived.Test.YtnceknbodpimiaaDoorVBOpenNode
import Derived.Test.YtnceknbodpimiaaDoorVOpenInts
namespace Go.Proofs.YtnceknbodpimiaaDoor
open Go.RowKit
theorem Tryd.xEb : Tryd.prog.globalNamed "shredcol/api.ErrBound" = some 2 := by kernel_rfl
theorem Tryd.xEbType : (Tryd.prog.globals[2]?).map (·.type) = some 35 := by kernel_rfl
theorem Tryd.xEs : Tryd.prog.globalNamed "shredcol/api.ErrShape" = some 1 := by kernel_rfl
theorem Tryd.xEsType : (Tryd.prog.globals[1]?).map (·.type) = some 35 := by kernel_rfl
theorem Tryd.xEk : Tryd.prog.globalNamed "shredcol/api.ErrKind" = some 4 := by kernel_rfl
theorem Tryd.xEkType : (Tryd.prog.globals[4]?).map (·.type) = some 35 := by kernel_rfl
theorem Tryd.xEn : Tryd.prog.globalNamed "shredcol/api.ErrName" = some 3 := by kernel_rfl
theorem Tryd.xEnType : (Tryd.prog.globals[3]?).map (·.type) = some 35 := by kernel_rfl
theorem Tryd.xEo : Tryd.prog.globalNamed "shredcol/api.ErrNone" = some 0 := by kernel_rfl
theorem Tryd.xEoType : (Tryd.prog.globals[0]?).map (·.type) = some 35 := by kernel_rfl
theorem dct_laid {W : World} (h : laidMetH Tryd.prog Rows.dataCutTwiceUptoRow.laid W) : ∃ eb es ek en eo : TypeId × Value, EC W eb es ek ∧ W.cell? ⟨3, 0, none⟩ = some (.iface en.1 en.2) ∧ W.cell? ⟨0, 0, none⟩ = some (.iface eo.1 eo.2) := by
  have h0 : laidMet Tryd.prog Rows.dataCutTwiceUptoRow.laid W := h
  obtain ⟨aEb, sEb⟩ := sent_of Tryd.xEb Tryd.xEbType (text := [115, 104, 114, 101, 100, 99, 111, 108, 58, 32, 98, 111, 117, 110, 100]) _ (List.mem_of_getElem? (i := 3) rfl) h0
  obtain ⟨aEs, sEs⟩ := sent_of Tryd.xEs Tryd.xEsType (text := [115, 104, 114, 101, 100, 99, 111, 108, 58, 32, 115, 104, 97, 112, 101]) _ (List.mem_of_getElem? (i := 4) rfl) h0
  obtain ⟨aEk, sEk⟩ := sent_of Tryd.xEk Tryd.xEkType (text := [115, 104, 114, 101, 100, 99, 111, 108, 58, 32, 107, 105, 110, 100]) _ (List.mem_of_getElem? (i := 5) rfl) h0
  obtain ⟨aEn, sEn⟩ := sent_of Tryd.xEn Tryd.xEnType (text := [115, 104, 114, 101, 100, 99, 111, 108, 58, 32, 110, 97, 109, 101]) _ (List.mem_of_getElem? (i := 6) rfl) h0
  obtain ⟨aEo, sEo⟩ := sent_of Tryd.xEo Tryd.xEoType (text := [115, 104, 114, 101, 100, 99, 111, 108, 58, 32, 110, 111, 110, 101]) _ (List.mem_of_getElem? (i := 7) rfl) h0
  exact ⟨(_, _), (_, _), (_, _), (_, _), (_, _), ⟨sEb.var, sEs.var, sEk.var⟩, sEn.var, sEo.var⟩
theorem dataCutTwice_top (t : Tr) (a : Option Addr) (c n : Nat) (P PD : Nat → Prop) (ia : Option Addr) (il ic : Nat) (ids : List Int) (d : Dt) (al : Option Addr) (cl : Nat) (af : Option Addr) (cf : Nat) (W : World) (hd : t.Dp n) (hn : n ≤ 1100000) (hs : t.Sm) (hl : LiesN W P a t.sub) (he : List.length ids = il) (_hm : il ≤ maxLen) (hli : Lies W ia (i64s ids)) (hb : ∀ j (h : j < ids.length), -9223372036854775808 ≤ ids[j] ∧ ids[j] ≤ 9223372036854775807) (hds : d.Sm) (hdw : wt d ≤ 1048576) (hd1 : LiesD W PD al d.l) (hd2 : LiesD W PD af d.f) (hL : laidMetH Tryd.prog Rows.dataCutTwiceUptoRow.laid W) :
    Calls Tryd.prog 3 #[nodeV t a c, .slice ia il ic, datumV d al cl af cf] W fun e w' => e = .returned (.bool true) ∧ Below W.heap.size W w' := by
  subst he
  obtain ⟨eb, es, ek, en, eo, h3, h4, h5⟩ := dct_laid hL
  exact dataCutTwice_walk eb es ek en eo t n hd hn hs P PD a c ids ia ic (fun x hx => by obtain ⟨j, hj, rfl⟩ := List.getElem_of_mem hx; exact hb j hj) d hds hdw al cl af cf W h3 h4 h5 hl hli hd1 hd2
end Go.Proofs.YtnceknbodpimiaaDoor
