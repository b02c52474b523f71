/-
  The walk of the law WirePrefix.
-/
import Derived.Test.YtfdcadlhapcddabBase
import Derived.Test.YtfdcadlhapcddabPrefix
import Derived.Lib.Strings
import Derived.OpenShut
namespace Go.Proofs.Ytfdcadlhapcddab
open Go.RowKit
theorem ret_bool {a b : Bool} (h : a = b) : Ending.returned (.bool a) = .returned (.bool b) := by rw [h]
theorem prefix_end (a b : Nat) : ((((⟨(Um.uv b).toArray⟩ : ByteArray).extract 0 (Um.uv a).length).toList == Um.uv a) == ((a : Int) == (b : Int))) = true := by
  rw [Lib.extract_toList]
  by_cases h : a = b
  · subst h
    simp
  · have h1 : ((a : Int) == (b : Int)) = false := by simp; omega
    rw [h1]
    have : ¬ (Um.uv b).take (Um.uv a).length = Um.uv a := fun k => h ((Um.uv_take a b).1 k)
    simpa using this
set_option maxHeartbeats 400000 in
theorem wirePrefix_nat (a b : Nat) (w : World) (ha : a < 18446744073709551616) (hb : b < 18446744073709551616) :
    Calls Try.prog 4 #[.int .u64 a, .int .u64 b] w fun e w' => e = .returned (.bool true) ∧ Below w.heap.size w w' := by
  have la := Um.uv_ten ha
  have lb := Um.uv_ten hb
  go_enter Try.func4, Try.ntmps4
  go_wp2_with fail
  refine (three_any _).mono ?_
  rintro e w1 ⟨rfl, hb1⟩
  go_wp2_with fail
  refine (uvarint_any _ _ ha).mono ?_
  rintro e w2 ⟨rfl, hb2⟩
  go_wp2_with fail
  refine (uvarint_any _ _ hb).mono ?_
  rintro e w3 ⟨rfl, hb3⟩
  have hall : Below w.heap.size w w3 := (hb1.trans (hb2.mono hb1.size)).trans (hb3.mono (Nat.le_trans hb1.size hb2.size))
  go_wp2_with fail
  · go_ret
    exact ⟨rfl, hall⟩
  · go_ret
    exact ⟨ret_bool (prefix_end a b), hall⟩
theorem wirePrefix_walk (x y : Int) (w : World) (hx : (Lit.int .u64 x).wf = true) (hy : (Lit.int .u64 y).wf = true) :
    Calls Try.prog 4 #[.int .u64 x, .int .u64 y] w fun e w' => e = .returned (.bool true) ∧ Below w.heap.size w w' := by
  have h1 := bounds_u64 hx
  have h2 := bounds_u64 hy
  obtain ⟨a, rfl⟩ := Int.eq_ofNat_of_zero_le h1.1
  obtain ⟨b, rfl⟩ := Int.eq_ofNat_of_zero_le h2.1
  exact wirePrefix_nat a b w (by omega) (by omega)
end Go.Proofs.Ytfdcadlhapcddab
