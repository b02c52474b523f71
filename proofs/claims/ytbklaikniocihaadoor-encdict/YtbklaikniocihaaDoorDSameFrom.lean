/-
  bitrun.sameFrom: how many of one number follow.
-/
import Derived.Test.YtbklaikniocihaaDoorDRW
import Derived.Test.YtbklaikniocihaaDoorDRefBits
import Derived.RegionTactic
namespace Go.Proofs.YtbklaikniocihaaDoor
open Go.RowKit
set_option linter.unusedVariables false
theorem lead_drop {xs : List Int} {i m : Nat} (hi : i < xs.length) (him : i < m) (hm : m ≤ xs.length) (h1 : ∀ j (h : j < xs.length), i < j → j < m → xs[j] = xs[i]) (h2 : ∀ h : m < xs.length, xs[m] ≠ xs[i]) : Um.lead (xs.drop i) = m - i := by
  rw [List.drop_eq_getElem_cons hi]
  simp only [Um.lead]
  rw [Um.lead_of (k := m - i - 1) (x := xs[i])]
  · omega
  · intro j h hj
    rw [List.getElem_drop]
    exact h1 _ _ (by omega) (by omega)
  · rw [List.length_drop]; omega
  · intro h
    rw [List.getElem_drop]
    have e : i + 1 + (m - i - 1) = m := by omega
    have := h2 (by rw [List.length_drop] at h; omega)
    simpa only [e] using this
set_option maxRecDepth 100000 in
set_option maxHeartbeats 1600000 in
theorem sameFrom_any (a : Option Addr) (c : Nat) (xs : List Int) (i : Nat) (w : World) (hn : xs.length ≤ 20000) (hi : i < xs.length) (h : Lies w a (i64s xs)) :
    Calls Tryd.prog 80 #[.slice a xs.length c, .int .i64 i] w fun e w' => e = .returned (.int .i64 (Um.lead (xs.drop i) : Nat)) ∧ Below w.heap.size w w' := by
  have HL : Hid (∀ j (h : j < xs.length), ∃ b o, a = some ⟨b, o, none⟩ ∧ w.cell? ⟨b, o + j, none⟩ = some (.int .i64 xs[j])) := lies_ints h
  obtain ⟨b, o, rfl, hci⟩ := HL.out i hi
  clear h
  have HLb : Hid (∀ j (h : j < xs.length), w.cell? ⟨b, o + j, none⟩ = some (.int .i64 xs[j])) := fun j hj => by
    obtain ⟨b2, o2, e2, hc2⟩ := HL.out j hj
    obtain ⟨rfl, rfl⟩ : b = b2 ∧ o = o2 := by injection e2 with e2; injection e2 with x y; exact ⟨x, y⟩
    exact hc2
  have HCi : Hid (w.cell? ⟨b, o + i, none⟩ = some (.int .i64 xs[i])) := hci
  clear hci HL
  go_enter Tryd.func80, Tryd.ntmps80
  go_wp2
  go_loopw [5] (fun x wr => ∃ m : Nat, i < m ∧ m ≤ xs.length ∧ x = .int .i64 m ∧ Hid (∀ j (h : j < xs.length), i < j → j < m → xs[j] = xs[i]) ∧ Below w.heap.size w wr) (fun x _ => xs.length - (intOf x).toNat)
  case atStart => exact ⟨i + 1, by omega, by omega, by go_num, fun j _ h1 h2 => absurd h1 (by omega), Below.refl _ _⟩
  case round =>
    obtain ⟨m, him, hm, rfl, HP, hb⟩ := hrel
    have hci := (hb.cell (World.block_lt_of_cell? w _ HCi.out)).trans HCi.out
    by_cases hlt : m < xs.length
    · have hd := HLb.out m hlt
      have hcm := (hb.cell (World.block_lt_of_cell? w _ hd)).trans hd
      clear hd
      by_cases he : xs[m] = xs[i]
      · have HE : Hid (xs[m] = xs[i]) := he
        have hbe : (xs[m] == xs[i]) = true := by simpa using he
        clear he
        go_wp2
        go_region
        all_goals (try go_wp2)
        all_goals go_roundw
        all_goals first
          | (exact ⟨m + 1, by omega, by omega, by go_num, fun j h h1 h2 => if e : j = m then (by subst e; exact HE.out) else HP.out j h h1 (by omega), hb.drew⟩)
          | (simp [intOf]; omega)
      · have HE : Hid (Um.lead (xs.drop i) = m - i) := lead_drop hi him hm HP.out (fun _ => he)
        have hbe : (xs[m] == xs[i]) = false := by simpa using he
        clear he
        go_wp2
        go_region
        all_goals (try go_wp2)
        all_goals go_ret
        all_goals exact ⟨by rw [HE.out]; go_num, hb.drew⟩
    · have HE : Hid (Um.lead (xs.drop i) = m - i) := lead_drop hi him hm HP.out (fun h => absurd h hlt)
      go_wp2
      go_region
      all_goals (try go_wp2)
      all_goals go_ret
      all_goals exact ⟨by rw [HE.out]; go_num, hb.drew⟩
end Go.Proofs.YtbklaikniocihaaDoor
