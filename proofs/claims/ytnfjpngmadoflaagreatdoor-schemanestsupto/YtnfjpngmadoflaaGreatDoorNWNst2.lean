/-
  SchemaNests, from what its row lists.
-/
import Derived.Test.YtnfjpngmadoflaaGreatDoorNWNst
import Derived.Test.YtnfjpngmadoflaaGreatDoorNSent
import Derived.Test.YtnfjpngmadoflaaGreatDoorNPow10
namespace Go.Proofs.YtnfjpngmadoflaaGreatDoor
open Go.RowKit
theorem Tryz.nEb : Tryz.prog.globalNamed "shredcol/api.ErrBound" = some 2 := by kernel_rfl
theorem Tryz.nEbType : (Tryz.prog.globals[2]?).map (·.type) = some 29 := by kernel_rfl
theorem Tryz.nEs : Tryz.prog.globalNamed "shredcol/api.ErrShape" = some 1 := by kernel_rfl
theorem Tryz.nEsType : (Tryz.prog.globals[1]?).map (·.type) = some 29 := by kernel_rfl
theorem Tryz.nEn : Tryz.prog.globalNamed "shredcol/api.ErrName" = some 3 := by kernel_rfl
theorem Tryz.nEnType : (Tryz.prog.globals[3]?).map (·.type) = some 29 := by kernel_rfl
theorem Tryz.nEo : Tryz.prog.globalNamed "shredcol/api.ErrNone" = some 0 := by kernel_rfl
theorem Tryz.nEoType : (Tryz.prog.globals[0]?).map (·.type) = some 29 := by kernel_rfl
theorem nst_laid {W : World} (h : laidMetH Tryz.prog Rows.schemaNestsUptoRow.laid W) : (∃ eb es en eo : TypeId × Value, Er3 W eb es en ∧ W.cell? ⟨0, 0, none⟩ = some (.iface eo.1 eo.2)) ∧ Lib.TabIs Tryz.prog W "internal/strconv.uint64pow10" .u64 Lib.pow10Tab := by
  have h0 : laidMet Tryz.prog Rows.schemaNestsUptoRow.laid W := h
  obtain ⟨ab, sb⟩ := sent_of Tryz.nEb Tryz.nEbType (text := [115, 104, 114, 101, 100, 99, 111, 108, 58, 32, 98, 111, 117, 110, 100]) _ (List.mem_of_getElem? (i := 4) rfl) h0
  obtain ⟨ash, ss⟩ := sent_of Tryz.nEs Tryz.nEsType (text := [115, 104, 114, 101, 100, 99, 111, 108, 58, 32, 115, 104, 97, 112, 101]) _ (List.mem_of_getElem? (i := 5) rfl) h0
  obtain ⟨an, sn⟩ := sent_of Tryz.nEn Tryz.nEnType (text := [115, 104, 114, 101, 100, 99, 111, 108, 58, 32, 110, 97, 109, 101]) _ (List.mem_of_getElem? (i := 6) rfl) h0
  obtain ⟨ao, so⟩ := sent_of Tryz.nEo Tryz.nEoType (text := [115, 104, 114, 101, 100, 99, 111, 108, 58, 32, 110, 111, 110, 101]) _ (List.mem_of_getElem? (i := 7) rfl) h0
  exact ⟨⟨(_, _), (_, _), (_, _), (_, _), ⟨sb.var, ss.var, sn.var⟩, so.var⟩, pow10_of (laid_rest (laid_rest h0))⟩
theorem schemaNests_top (t : Tr) (a : Option Addr) (c n : Nat) (P : Nat → Prop) (ia : Option Addr) (il ic : Nat) (ids : List Int) (W : World) (hd : t.Dp n) (hn : n ≤ 1100000) (hs : t.Sm) (hl : LiesN W P a t.sub) (he : List.length ids = il) (hm : il ≤ maxLen) (hli : Lies W ia (i64s ids)) (hb : ∀ j (h : j < ids.length), -9223372036854775808 ≤ ids[j] ∧ ids[j] ≤ 9223372036854775807) (hL : laidMetH Tryz.prog Rows.schemaNestsUptoRow.laid W) :
    Calls Tryz.prog 3 #[nodeV t a c, .slice ia il ic] W fun e w' => e = .returned (.bool true) ∧ Below W.heap.size W w' := by
  subst he
  obtain ⟨⟨eb, es, en, eo, h3, ho⟩, ht⟩ := nst_laid hL
  exact schemaNests_walk t ids ia ic hm (fun x hx => by obtain ⟨j, hj, rfl⟩ := List.getElem_of_mem hx; exact hb j hj) a c P n hd hn hs W hl hli eb es en eo h3 ho ht
end Go.Proofs.YtnfjpngmadoflaaGreatDoor
