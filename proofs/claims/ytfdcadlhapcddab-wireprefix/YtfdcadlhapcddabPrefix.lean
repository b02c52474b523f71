/-
  No number's bytes begin another one's: the mathematics, without the program.
-/
import Derived.Test.YtfdcadlhapcddabMath
namespace Go.Proofs.Ytfdcadlhapcddab
namespace Um
theorem bt_inj {a b : Int} (ha0 : 0 ≤ a) (ha : a < 256) (hb0 : 0 ≤ b) (hb : b < 256) (h : bt a = bt b) : a = b := by
  rw [← bt_int ha0 ha, ← bt_int hb0 hb, h]
theorem uv_prefix (a : Nat) : ∀ (b : Nat) (r : List UInt8), uv a ++ r = uv b → a = b := by
  induction a using Nat.strongRecOn with
  | ind a ih =>
    intro b r h
    by_cases ha : a < 128
    · rw [uv_small ha] at h
      by_cases hb : b < 128
      · rw [uv_small hb] at h
        have h1 := (List.cons.inj h).1
        have := bt_inj (by omega) (by omega) (by omega) (by omega) h1
        omega
      · rw [uv_big hb] at h
        have h1 := (List.cons.inj h).1
        have := bt_inj (by omega) (by omega) (by omega) (by omega) h1
        omega
    · rw [uv_big ha] at h
      by_cases hb : b < 128
      · rw [uv_small hb] at h
        have h1 := (List.cons.inj h).1
        have := bt_inj (by omega) (by omega) (by omega) (by omega) h1
        omega
      · rw [uv_big hb] at h
        have h1 := (List.cons.inj h).1
        have h2 := ih (a / 128) (by omega) (b / 128) r (List.cons.inj h).2
        have := bt_inj (by omega) (by omega) (by omega) (by omega) h1
        omega
/-- The first bytes of b's, as many as a has, are a's, if and only if a is b. -/
theorem uv_take (a b : Nat) : (uv b).take (uv a).length = uv a ↔ a = b := by
  constructor
  · intro h
    have := List.take_append_drop (uv a).length (uv b)
    rw [h] at this
    exact uv_prefix a b _ this
  · rintro rfl
    simp
end Um
end Go.Proofs.Ytfdcadlhapcddab
