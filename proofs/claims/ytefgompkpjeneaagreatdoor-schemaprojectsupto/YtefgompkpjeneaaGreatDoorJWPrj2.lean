/-
  SchemaProjects, from what its row lists.
-/
import Derived.Test.YtefgompkpjeneaaGreatDoorJWPrj
import Derived.Test.YtefgompkpjeneaaGreatDoorJTxL
import Derived.Test.YtefgompkpjeneaaGreatDoorJOpenNode
import Derived.Test.YtefgompkpjeneaaGreatDoorJOpenInts
namespace Go.Proofs.YtefgompkpjeneaaGreatDoor
open Go.RowKit
theorem schemaProjects_top (t : Tr) (a : Option Addr) (c n : Nat) (P : Nat → Prop) (ia : Option Addr) (il ic : Nat) (ids : List Int) (W : World) (hd : t.Dp n) (hn : n ≤ 1100000) (hs : t.Sm) (hl : LiesN W P a t.sub) (hcp : t.sub.length ≤ c) (he : List.length ids = il) (hm : il ≤ maxLen) (hli : Lies W ia (i64s ids)) (hb : ∀ j (h : j < ids.length), -9223372036854775808 ≤ ids[j] ∧ ids[j] ≤ 9223372036854775807) (hL : laidMetH Tryz.prog Rows.schemaProjectsUptoRow.laid W) :
    Calls Tryz.prog 3 #[nodeV t a c, .slice ia il ic] W fun e w' => e = .returned (.bool true) ∧ Below W.heap.size W w' := by
  subst he
  have h0 : laidMet Tryz.prog txL W ∧ handlesMet Tryz.prog [("errors.errorType", Rows.laid_errors_errorType)] W := hL
  obtain ⟨A, hA⟩ := txErrs h0
  exact schemaProjects_walk t ids ia ic hm (fun x hx => by obtain ⟨j, hj, rfl⟩ := List.getElem_of_mem hx; exact hb j hj) a c P n hd hn hs hcp W hl hli A hA (pow10_of (laid_rest (laid_rest h0.1)))
end Go.Proofs.YtefgompkpjeneaaGreatDoor
