/-
  EncWords, for whatever kind and slices of values.
-/
import Derived.Test.YtjpdghpkbpdmeabDoorCWWords
import Derived.Test.YtjpdghpkbpdmeabDoorCOpenVals2
import Derived.Test.YtjpdghpkbpdmeabDoorCLaid4
namespace Go.Proofs.YtjpdghpkbpdmeabDoor
open Go.RowKit
theorem encWords_top (kd : Int) (a1 : Option Addr) (n1 c1 : Nat) (xs : List Vl) (a2 : Option Addr) (n2 c2 : Nat) (ys : List Vl) (w : World) (e1 : xs.length = n1) (m1 : n1 ≤ maxLen) (l1 : LiesV w a1 xs) (b1 : ∀ v ∈ xs, v.In) (e2 : ys.length = n2) (m2 : n2 ≤ maxLen) (l2 : LiesV w a2 ys) (b2 : ∀ v ∈ ys, v.In) (hL : laidMetH Tryd.prog Rows.encWordsRow.laid w) :
    Calls Tryd.prog 5 #[.int .i64 kd, .slice a1 n1 c1, .slice a2 n2 c2] w fun e w' => e = .returned (.bool true) ∧ Below w.heap.size w w' := by
  have hL' : laidMet Tryd.prog Rows.encWordsRow.laid w := hL
  obtain ⟨a, ha⟩ := kind_of hL' (List.mem_of_getElem? (i := 2) rfl)
  obtain ⟨b, hb⟩ := shape_of hL' (List.mem_of_getElem? (i := 1) rfl)
  subst e1 e2
  exact encWords_walk kd a1 a2 c1 c2 xs ys w m1 m2 l1 l2 b1 b2 _ _ _ _ ha hb
end Go.Proofs.YtjpdghpkbpdmeabDoor
