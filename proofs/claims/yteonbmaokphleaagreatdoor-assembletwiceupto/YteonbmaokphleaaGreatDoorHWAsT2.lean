/-
  AssembleTwice, from what its row lists.
-/
import Derived.Test.YteonbmaokphleaaGreatDoorHWAsT
import Derived.Test.YteonbmaokphleaaGreatDoorHBCode
import Derived.Test.YteonbmaokphleaaGreatDoorHBOpenVals
import Derived.Test.YteonbmaokphleaaGreatDoorHOpenInts
import Derived.Test.YteonbmaokphleaaGreatDoorRows
namespace Go.Proofs.YteonbmaokphleaaGreatDoor
open Go.RowKit
theorem assembleTwice_top (t : Tr) (a : Option Addr) (c n : Nat) (P PA : Nat → Prop) (ia : Option Addr) (il ic : Nat) (ids : List Int) (A : List Dt) (aa : Option Addr) (ac : Nat) (W : World) (hd : t.Dp n) (hn : n ≤ 1100000) (hs : t.Sm) (hl : LiesN W P a t.sub) (hcap : t.sub.length ≤ c) (he : List.length ids = il) (_hm : il ≤ maxLen) (hli : Lies W ia (i64s ids)) (hb : ∀ j (h : j < ids.length), -9223372036854775808 ≤ ids[j] ∧ ids[j] ≤ 9223372036854775807) (hlA : LiesD W PA aa A) (hA : A.length ≤ 1048576 ∧ ∀ j (h : j < A.length), A[j].Sm) (hA2 : wtL A ≤ 1048576) (hL : laidMetH Tryz.prog Rows.assembleTwiceUptoRow.laid W) :
    Calls Tryz.prog 3 #[nodeV t a c, .slice ia il ic, .slice aa A.length ac] W fun e w' => e = .returned (.bool true) ∧ Below W.heap.size W w' := by
 subst he
 obtain ⟨E, hE⟩ := errs_of hL
 exact assembleTwice_walk t n hd hn hs P PA a c ids ia ic (fun x hx => by obtain ⟨j, hj, rfl⟩ := List.getElem_of_mem hx; exact hb j hj) A aa ac W E hE hl hcap hli hlA hA.1 hA2 hA.2
end Go.Proofs.YteonbmaokphleaaGreatDoor
