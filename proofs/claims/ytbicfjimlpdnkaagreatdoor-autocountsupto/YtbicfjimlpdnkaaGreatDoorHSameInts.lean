/-
  The reference's SameInts: whether two slices of ints hold the same numbers.
-/
import Derived.Test.YtbicfjimlpdnkaaGreatDoorRows
import Derived.WalkKit
import Derived.WalkSpells
import Derived.WalkLawsBesides
import Derived.RegionTactic
import Derived.Below
namespace Go.Proofs.YtbicfjimlpdnkaaGreatDoor
open Go.RowKit
/-- A slice value that holds these ints in a world (nil: none). -/
def IntsAt (w : World) (v : Value) (xs : List Int) : Prop :=
  (v = .slice none 0 0 ∧ xs = []) ∨ ∃ b o cap, v = .slice (some ⟨b, o, none⟩) xs.length cap ∧ ∀ j (h : j < xs.length), w.cell? ⟨b, o + j, none⟩ = some (.int .i64 xs[j])
theorem IntsAt.keep {w w' : World} {v : Value} {xs : List Int} (h : IntsAt w v xs) (hb : Below w.heap.size w w') : IntsAt w' v xs := by
  rcases h with h | ⟨b, o, cap, e, hc⟩
  · exact Or.inl h
  · exact Or.inr ⟨b, o, cap, e, fun j hj => (hb.cell (World.block_lt_of_cell? w _ (hc j hj))).trans (hc j hj)⟩
theorem ret_bool' {a b : Bool} (h : a = b) : Ending.returned (.bool a) = .returned (.bool b) := by rw [h]
theorem not_same_len {xs ys : List Int} (h : xs.length ≠ ys.length) : false = decide (xs = ys) := by
  symm; rw [decide_eq_false_iff_not]; rintro rfl; exact h rfl
theorem not_same_at {xs ys : List Int} {k : Nat} (h1 : k < xs.length) (h2 : k < ys.length) (h : xs[k] ≠ ys[k]) : false = decide (xs = ys) := by
  symm; rw [decide_eq_false_iff_not]; rintro rfl; exact h rfl
theorem same_all {xs ys : List Int} (hl : xs.length = ys.length) (h : ∀ j (h1 : j < xs.length) (h2 : j < ys.length), xs[j] = ys[j]) : true = decide (xs = ys) := by
  symm; rw [decide_eq_true_iff]; exact List.ext_getElem hl h
set_option maxHeartbeats 800000 in
/-- Two slices that are not nil, of one length. -/
theorem sameInts_loop (w : World) (b1 o1 c1 b2 o2 c2 : Nat) (xs ys : List Int) (hl : xs.length = ys.length) (hm : xs.length ≤ maxLen)
    (h1 : ∀ j (h : j < xs.length), w.cell? ⟨b1, o1 + j, none⟩ = some (.int .i64 xs[j])) (h2 : ∀ j (h : j < ys.length), w.cell? ⟨b2, o2 + j, none⟩ = some (.int .i64 ys[j])) :
    Calls Tryz.prog 13 #[.slice (some ⟨b1, o1, none⟩) xs.length c1, .slice (some ⟨b2, o2, none⟩) ys.length c2] w fun e w' => e = .returned (.bool (decide (xs = ys))) ∧ Below w.heap.size w w' := by
  unfold maxLen at hm
  rw [← hl]
  have HL : Hid (xs.length = ys.length) := hl
  have HW : Hid (∀ j (h : j < xs.length), w.cell? ⟨b1, o1 + j, none⟩ = some (.int .i64 xs[j])) := h1
  have HY : Hid (∀ j (h : j < ys.length), w.cell? ⟨b2, o2 + j, none⟩ = some (.int .i64 ys[j])) := h2
  clear hl h1 h2
  go_enter Tryz.func13, Tryz.ntmps13
  go_wp2
  go_loopw [5] (fun x wr => ∃ k : Nat, k ≤ xs.length ∧ x = .int .i64 k ∧ Hid (∀ j (h1 : j < xs.length) (h2 : j < ys.length), j < k → xs[j] = ys[j]) ∧ Below w.heap.size w wr) (fun x _ => xs.length - (intOf x).toNat)
  case atStart => exact ⟨0, Nat.zero_le _, rfl, fun j _ _ h => absurd h (Nat.not_lt_zero _), Below.refl _ _⟩
  case round =>
    obtain ⟨k, hk, rfl, HP, hb⟩ := hrel
    by_cases hlt : k < xs.length
    · have hlt2 : k < ys.length := by rw [← HL.out]; exact hlt
      have d1 := HW.out k hlt
      have d2 := HY.out k hlt2
      have e1 := (hb.cell (World.block_lt_of_cell? w _ d1)).trans d1
      have e2 := (hb.cell (World.block_lt_of_cell? w _ d2)).trans d2
      clear d1 d2
      by_cases hv : xs[k] = ys[k]
      · have HV : Hid (xs[k] = ys[k]) := hv
        have hbne : (xs[k] != ys[k]) = false := by simpa using hv
        clear hv
        go_wp2
        go_region
        all_goals (try go_wp2)
        all_goals go_roundw
        all_goals first
          | (exact ⟨k + 1, by omega, by go_num, fun j h1 h2 hj => if e : j = k then (by subst e; exact HV.out) else HP.out j h1 h2 (by omega), hb.drew⟩)
          | (simp [intOf]; omega)
      · have hbne : (xs[k] != ys[k]) = true := by simpa using hv
        have HV : Hid (xs[k] ≠ ys[k]) := hv
        clear hv
        go_wp2
        go_region
        all_goals (try go_wp2)
        all_goals go_ret
        all_goals exact ⟨ret_bool' (not_same_at hlt hlt2 HV.out), hb.drew⟩
    · go_wp2
      go_ret
      exact ⟨ret_bool' (same_all HL.out (fun j h1 h2 => HP.out j h1 h2 (by omega))), hb⟩
set_option maxHeartbeats 800000 in
theorem sameInts_len (w : World) (a1 a2 : Option Addr) (n1 c1 n2 c2 : Nat) (hl : n1 ≠ n2) :
    Calls Tryz.prog 13 #[.slice a1 n1 c1, .slice a2 n2 c2] w fun e w' => e = .returned (.bool false) ∧ w' = w := by
  have hd : ((n1 : Int) != (n2 : Int)) = true := by simp; omega
  go_enter Tryz.func13, Tryz.ntmps13
  go_wp2
  go_ret
  exact ⟨rfl, rfl⟩
set_option maxHeartbeats 800000 in
theorem sameInts_empty (w : World) (a1 a2 : Option Addr) (c1 c2 : Nat) :
    Calls Tryz.prog 13 #[.slice a1 0 c1, .slice a2 0 c2] w fun e w' => e = .returned (.bool true) ∧ w' = w := by
  go_enter Tryz.func13, Tryz.ntmps13
  go_wp2
  refine wp_loop_rounds 1 ?_
  rw [rounds_succ]
  go_wp2
  go_ret
  exact ⟨rfl, rfl⟩
end Go.Proofs.YtbicfjimlpdnkaaGreatDoor
