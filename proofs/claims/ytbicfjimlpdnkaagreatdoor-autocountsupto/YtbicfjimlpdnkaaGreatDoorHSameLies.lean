/-
  The reference's SameInts of two slices, wherever they lie.
-/
import Derived.Test.YtbicfjimlpdnkaaGreatDoorHSameInts
import Derived.Test.YtbicfjimlpdnkaaGreatDoorHBPackF
namespace Go.Proofs.YtbicfjimlpdnkaaGreatDoor
open Go.RowKit
theorem sameInts_lies (w : World) (a1 a2 : Option Addr) (c1 c2 : Nat) (xs ys : List Int) (hm : xs.length ≤ maxLen) (h1 : Lies w a1 (i64s xs)) (h2 : Lies w a2 (i64s ys)) {b : Bool} (hb : decide (xs = ys) = b) :
    Calls Tryz.prog 13 #[.slice a1 xs.length c1, .slice a2 ys.length c2] w fun e w' => e = .returned (.bool b) ∧ Below w.heap.size w w' := by
  subst hb
  by_cases hl : xs.length = ys.length
  · by_cases h0 : xs.length = 0
    · have e1 : xs = [] := List.eq_nil_of_length_eq_zero h0
      have e2 : ys = [] := List.eq_nil_of_length_eq_zero (by omega)
      subst e1 e2
      refine (sameInts_empty w a1 a2 c1 c2).mono ?_
      rintro e w' ⟨rfl, rfl⟩
      exact ⟨rfl, Below.refl _ _⟩
    · obtain ⟨b1, o1, rfl, _⟩ := h1 0 (by simp [i64s]; omega)
      obtain ⟨b2, o2, rfl, _⟩ := h2 0 (by simp [i64s]; omega)
      refine sameInts_loop w b1 o1 c1 b2 o2 c2 xs ys hl hm (fun j h => ?_) (fun j h => ?_)
      · obtain ⟨b, o, e, hc⟩ := h1 j (by simpa [i64s] using h)
        simp only [Option.some.injEq, Addr.mk.injEq] at e
        obtain ⟨rfl, rfl, _⟩ := e
        rw [hc]; simp [i64s]
      · obtain ⟨b, o, e, hc⟩ := h2 j (by simpa [i64s] using h)
        simp only [Option.some.injEq, Addr.mk.injEq] at e
        obtain ⟨rfl, rfl, _⟩ := e
        rw [hc]; simp [i64s]
  · refine (sameInts_len w a1 a2 xs.length c1 ys.length c2 hl).mono ?_
    rintro e w' ⟨rfl, rfl⟩
    exact ⟨ret_bool' (not_same_len hl), Below.refl _ _⟩
end Go.Proofs.YtbicfjimlpdnkaaGreatDoor
