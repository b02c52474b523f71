/-
  wire.Fixed and the reference's Little; wire.ReadFixed and the reference's ReadLittle: what they answer.
-/
import Derived.Test.YtfdcadlhapcddaaDoorFixMath
import Derived.Test.YtfdcadlhapcddaaDoorBase
import Derived.Test.YtfdcadlhapcddaaDoorSeven
import Derived.Laws.MakeOwn
import Derived.RegionTactic
namespace Go.Proofs.YtfdcadlhapcddaaDoor
open Go.RowKit
set_option maxRecDepth 100000 in
set_option maxHeartbeats 800000 in
theorem fixed_bad (n : Nat) (k : Int) (w : World) (ev : Value) (hg : w.cell? ⟨1, 0, none⟩ = some ev) (_h0 : -9223372036854775808 ≤ k) (_h1 : k ≤ 9223372036854775807) (hk : k < 1 ∨ 8 < k) :
    Calls Tryd.prog 16 #[.int .u64 n, .int .i64 k] w fun e w' => e = .returned (.tuple #[.string ⟨#[]⟩, ev]) ∧ Below w.heap.size w w' := by
  have hcase : decide (1 ≤ k) = false ∨ (decide (1 ≤ k) = true ∧ decide (k ≤ 8) = false) := by
    by_cases h : 1 ≤ k
    · right; exact ⟨by simpa using h, by simp; omega⟩
    · left; simpa using h
  clear hk
  rcases hcase with h | ⟨h, h'⟩
  all_goals
    go_enter Tryd.func16, Tryd.ntmps16
    go_wp2
    go_region
    all_goals (try go_wp2)
    all_goals go_ret2
    all_goals exact ⟨rfl, (Below.refl _ _).drew⟩
set_option maxRecDepth 100000 in
set_option maxHeartbeats 800000 in
theorem fixed_room (n k : Nat) (w : World) (ev : Value) (hg : w.cell? ⟨1, 0, none⟩ = some ev) (h1 : 1 ≤ k) (h8 : k ≤ 8) (hf : ¬ n / 2 ^ (8 * (k - 1)) ≤ 255) :
    Calls Tryd.prog 16 #[.int .u64 n, .int .i64 k] w fun e w' => e = .returned (.tuple #[.string ⟨#[]⟩, ev]) ∧ Below w.heap.size w w' := by
  have hd1 : decide (1 ≤ (k : Int)) = true := by simp; omega
  have hd2 : decide ((k : Int) ≤ 8) = true := by simp; omega
  have hd3 : decide (255 < (n : Int) / 2 ^ (8 * (k - 1))) = true := by
    have e : ((n / 2 ^ (8 * (k - 1)) : Nat) : Int) = (n : Int) / 2 ^ (8 * (k - 1)) := by simp
    rw [← e]
    generalize n / 2 ^ (8 * (k - 1)) = q at hf
    simp
    omega
  clear hf
  go_enter Tryd.func16, Tryd.ntmps16
  go_wp2
  go_region
  all_goals (try go_wp2)
  all_goals go_ret2
  all_goals exact ⟨rfl, (Below.refl _ _).drew⟩
/-- What the loop of Fixed keeps. -/
structure FRow (n k g : Nat) (w wr : World) (i : Nat) : Prop where
  done : ∀ j, j < i → wr.cell? ⟨g, j, none⟩ = some (.int .u8 (Um.by_ n j : Nat))
  any : ∀ j, j < k → ∃ v, wr.cell? ⟨g, j, none⟩ = some v
  froz : ∀ j, j < k → wr.frozen? ⟨g, j, none⟩ = false
  old : Below w.heap.size w wr
theorem FRow.start (n k : Nat) (w : World) (M : Array Value) (hM : M.size = k) : FRow n k w.heap.size w (w.alloc (.cells M 5)) 0 := by
  refine ⟨fun j h => absurd h (Nat.not_lt_zero _), fun j hj => ?_, fun j _ => ?_, (Below.refl _ _).alloc (Nat.le_refl _) _⟩
  · rw [cell_of_row _ w.heap.size j M 5 (0, 0) (heap_alloc_new w _)]
    exact ⟨_, Array.getElem?_eq_getElem (by omega)⟩
  · exact frozen_of_row _ w.heap.size j M 5 (heap_alloc_new w _)
theorem FRow.next {n k g : Nat} {w wr : World} {i : Nat} (h : FRow n k g w wr i) (hg : w.heap.size ≤ g) (hi : i < k) : FRow n k g w (wr.setCell ⟨g, i, none⟩ (.int .u8 (Um.by_ n i : Nat))) (i + 1) := by
  obtain ⟨v, hv⟩ := h.any i hi
  have hother : ∀ j, j ≠ i → (wr.setCell ⟨g, i, none⟩ (.int .u8 (Um.by_ n i : Nat))).cell? ⟨g, j, none⟩ = wr.cell? ⟨g, j, none⟩ := fun j hj =>
    World.cell?_setCell_other _ _ _ _ (fun e => hj (by injection e with _ e; exact e.symm))
  refine ⟨fun j hj => ?_, fun j hj => ?_, fun j hj => by simpa using h.froz j hj, h.old.setCell hg _⟩
  · by_cases e : j = i
    · subst e; exact World.cell?_setCell_same _ _ _ hv
    · rw [hother j e]; exact h.done j (by omega)
  · by_cases e : j = i
    · subst e; exact ⟨_, World.cell?_setCell_same _ _ _ hv⟩
    · rw [hother j e]; exact h.any j hj
theorem FRow.conv {n k g : Nat} {w wr : World} (h : FRow n k g w wr k) : (convert 70 9 (.slice (some ⟨g, 0, none⟩) k k)).run Tryd.prog wr = .ok (.string ⟨(Um.lit n k).toArray⟩) wr := by
  have := run_convert_bytes_back (P := Tryd.prog) wr 70 9 5 ⟨g, 0, none⟩ k (Um.lit n k) Tryd.underlying70 Tryd.underlying5 Tryd.underlying9 (fun j hj => by
    have e : (⟨g, 0, none⟩ : Addr).add j = ⟨g, j, none⟩ := by unfold Addr.add; split <;> simp_all
    have hj' : j < k := by rw [Um.lit_len] at hj; exact hj
    rw [e, h.done j hj', Um.lit_get n k j hj', Um.bt_nat (Um.by_lt n j)])
  rw [Um.lit_len] at this
  exact this
theorem by_int (n j : Nat) : (n : Int) / 2 ^ (8 * j) % 256 = ((Um.by_ n j : Nat) : Int) := by unfold Um.by_; simp
set_option maxRecDepth 100000 in
set_option maxHeartbeats 1000000 in
theorem fixed_ok (n k : Nat) (w : World) (_hn : n < 18446744073709551616) (h1 : 1 ≤ k) (h8 : k ≤ 8) (hf : n / 2 ^ (8 * (k - 1)) ≤ 255) :
    Calls Tryd.prog 16 #[.int .u64 n, .int .i64 k] w fun e w' => e = .returned (.tuple #[.string ⟨(Um.lit n k).toArray⟩, .nilIface]) ∧ Below w.heap.size w w' := by
  obtain ⟨i0, hi, hz0, hz1, hz2⟩ := info_parts Tryd.info5
  obtain ⟨M, hM⟩ : ∃ M, M = madeCells (Value.int .u8 0).cells (((k : Nat) : Int).toNat * i0.size) := ⟨_, rfl⟩
  have hMs : M.size = k := by rw [hM, size_madeCells, hz1]; simp
  have hmk : ∀ W : World, (Instr.makeSlice 70 (.int .i64 (k : Int)) (.int .i64 (k : Int))).run Tryd.prog W = .ok (.slice (some ⟨W.heap.size, 0, none⟩) k k) (W.alloc (.cells M 5)) := fun W => by
    have h := run_make (P := Tryd.prog) W 70 5 i0 (.int .u8 0) Tryd.underlying70 hi hz0 .i64 .i64 (k : Int) (k : Int) (by omega) (by omega) (by rw [hz2]; omega) (by omega)
    rw [← hM] at h
    simpa using h
  have HS : Hid (FRow n k w.heap.size w (w.alloc (.cells M 5)) 0) := FRow.start n k w M hMs
  clear hM hMs hi hz0 hz1 hz2
  have hd1 : decide (1 ≤ (k : Int)) = true := by simp; omega
  have hd2 : decide ((k : Int) ≤ 8) = true := by simp; omega
  have hd3 : decide (255 < (n : Int) / 2 ^ (8 * (k - 1))) = false := by
    have e : ((n / 2 ^ (8 * (k - 1)) : Nat) : Int) = (n : Int) / 2 ^ (8 * (k - 1)) := by simp
    rw [← e]
    generalize n / 2 ^ (8 * (k - 1)) = q at hf
    simp
    omega
  clear hf
  go_enter Tryd.func16, Tryd.ntmps16
  go_wp2
  clear hmk hd1 hd2 hd3
  go_loopw [24] (fun x wr => ∃ i : Nat, i ≤ k ∧ x = .int .i64 i ∧ Hid (FRow n k w.heap.size w wr i)) (fun x _ => k - (intOf x).toNat)
  case atStart => exact ⟨0, Nat.zero_le _, rfl, HS⟩
  case round =>
    obtain ⟨i, hik, rfl, HR⟩ := hrel
    by_cases hlt : i < k
    · obtain ⟨v, hv⟩ := HR.out.any i hlt
      have hfz := HR.out.froz i hlt
      have hby := by_int n i
      go_wp2
      go_roundw
      case rel => exact ⟨i + 1, by omega, by go_num, HR.out.next (Nat.le_refl _) hlt⟩
      case measure => simp [intOf]; omega
    · obtain rfl : i = k := by omega
      have hcv := HR.out.conv
      go_wp2
      go_ret2
      exact ⟨rfl, HR.out.old⟩
end Go.Proofs.YtfdcadlhapcddaaDoor
