/-
  bitrun's isWidth, isCount, eights and fits: what they answer.
  bitrun.check: which numbers are right for a width, and where one is not.
-/
import Derived.Test.YtjchkhdmjbojjaaDoorLBBase
import Derived.Test.YtjchkhdmjbojjaaDoorLBMath
import Derived.Laws.MakeOwn
import Derived.RegionTactic
namespace Go.Proofs.YtjchkhdmjbojjaaDoor
open Go.RowKit
theorem retb {a b : Bool} (h : a = b) : Ending.returned (.bool a) = .returned (.bool b) := by rw [h]
set_option maxRecDepth 100000 in
theorem isWidth_any (k : Int) (w : World) : Calls Tryd.prog 85 #[.int .i64 k] w fun e w' => e = .returned (.bool (decide (0 ≤ k ∧ k ≤ 32))) ∧ w' = w := by
  have hcase : decide (0 ≤ k) = false ∨ (decide (0 ≤ k) = true ∧ decide (k ≤ 32) = false) ∨ (decide (0 ≤ k) = true ∧ decide (k ≤ 32) = true) := by
    by_cases h : 0 ≤ k <;> by_cases h' : k ≤ 32 <;> simp [h, h']
  rcases hcase with h | ⟨h, h'⟩ | ⟨h, h'⟩
  all_goals
    go_enter Tryd.func85, Tryd.ntmps85
    go_wp2
    all_goals go_ret
    all_goals exact ⟨retb (by simp at *; omega), rfl⟩
set_option maxRecDepth 100000 in
theorem isCount_any (k : Int) (w : World) : Calls Tryd.prog 86 #[.int .i64 k] w fun e w' => e = .returned (.bool (decide (0 ≤ k ∧ k ≤ 20000))) ∧ w' = w := by
  have hcase : decide (0 ≤ k) = false ∨ (decide (0 ≤ k) = true ∧ decide (k ≤ 20000) = false) ∨ (decide (0 ≤ k) = true ∧ decide (k ≤ 20000) = true) := by
    by_cases h : 0 ≤ k <;> by_cases h' : k ≤ 20000 <;> simp [h, h']
  rcases hcase with h | ⟨h, h'⟩ | ⟨h, h'⟩
  all_goals
    go_enter Tryd.func86, Tryd.ntmps86
    go_wp2
    all_goals go_ret
    all_goals exact ⟨retb (by simp at *; omega), rfl⟩
set_option maxRecDepth 100000 in
theorem eights_any (k : Nat) (w : World) (hk : k < 9000000000000000000) : Calls Tryd.prog 65 #[.int .i64 k] w fun e w' => e = .returned (.int .i64 ((k + 7) / 8 : Nat)) ∧ w' = w := by
  go_enter Tryd.func65, Tryd.ntmps65
  go_wp2
  go_ret
  exact ⟨by go_num, rfl⟩
theorem fits_iff (n : Int) (k : Nat) (h0 : -9223372036854775808 ≤ n) (h1 : n ≤ 9223372036854775807) (hk : k ≤ 32) : (n % 18446744073709551616 / 2 ^ k = 0) ↔ (0 ≤ n ∧ n < 2 ^ k) := by
  have hp : (0 : Int) < 2 ^ k := Int.pow_pos (by omega)
  have hp2 : (2 : Int) ^ k ≤ 4294967296 := by
    have h := Nat.pow_le_pow_right (n := 2) (by omega) hk
    have e : ((2 ^ k : Nat) : Int) = (2 : Int) ^ k := by simp
    have h32 : (2 : Nat) ^ 32 = 4294967296 := by decide
    rw [← e]
    omega
  generalize (2 : Int) ^ k = p at hp hp2
  have hm : 0 ≤ n % 18446744073709551616 := Int.emod_nonneg _ (by omega)
  have hz : n % 18446744073709551616 / p = 0 ↔ n % 18446744073709551616 < p := by
    have hd := Int.emod_add_mul_ediv (n % 18446744073709551616) p
    have hl := Int.emod_lt_of_pos (n % 18446744073709551616) hp
    have hn := Int.emod_nonneg (n % 18446744073709551616) (show p ≠ 0 by omega)
    constructor
    · intro h
      rw [h, Int.mul_zero] at hd
      omega
    · intro h
      exact Int.ediv_eq_zero_of_lt hm h
  rw [hz]
  omega
set_option maxRecDepth 100000 in
theorem fits_any (n : Int) (k : Nat) (w : World) (h0 : -9223372036854775808 ≤ n) (h1 : n ≤ 9223372036854775807) (hk : k ≤ 32) :
    Calls Tryd.prog 96 #[.int .i64 n, .int .i64 k] w fun e w' => e = .returned (.bool (decide (0 ≤ n ∧ n < 2 ^ k))) ∧ w' = w := by
  have hf := fits_iff n k h0 h1 hk
  go_enter Tryd.func96, Tryd.ntmps96
  go_wp2
  go_ret
  refine ⟨retb ?_, rfl⟩
  rw [IntKind.wrap_u64, Bool.eq_iff_iff, decide_eq_true_iff, beq_iff_eq]
  exact hf
end Go.Proofs.YtjchkhdmjbojjaaDoor

namespace Go.Proofs.YtjchkhdmjbojjaaDoor
open Go.RowKit
set_option maxHeartbeats 800000 in
set_option maxRecDepth 100000 in
/-- The width, or how many they are, is out of its bounds. -/
theorem check_bound (a : Option Addr) (n c : Nat) (k : Int) (w : World) (ev : Value) (_hn : n ≤ maxLen) (hg : w.cell? ⟨3, 0, none⟩ = some ev) (hk : decide (0 ≤ k ∧ k ≤ 32) = false ∨ decide (0 ≤ k ∧ k ≤ 32) = true ∧ decide ((n : Int) ≤ 20000) = false) :
    Calls Tryd.prog 63 #[.slice a n c, .int .i64 k] w fun e w' => e = .returned ev ∧ w' = w := by
  rcases hk with h | ⟨h, h'⟩
  all_goals
    go_enter Tryd.func63, Tryd.ntmps63
    go_wp2_with (first | (go_at_call 85; refine (isWidth_any _ _).mono ?_; rw [h]; rintro e w1 ⟨rfl, rfl⟩) | (go_at_call 86; refine (isCount_any _ _).mono ?_; rintro e w1 ⟨rfl, rfl⟩))
    go_ret
    exact ⟨rfl, rfl⟩
/-- Has a number room in so many bits? -/
def Room (k : Nat) (n : Int) : Prop := 0 ≤ n ∧ n < 2 ^ k
set_option maxHeartbeats 800000 in
set_option maxRecDepth 100000 in
/-- A right width: each number has room, or the first that has none is told. -/
theorem check_any (a : Option Addr) (xs : List Int) (c k : Nat) (w : World) (st : TypeId) (sp : Value) (hn : xs.length ≤ 20000) (hk : k ≤ 32) (hg : w.cell? ⟨1, 0, none⟩ = some (.iface st sp))
    (hx : ∀ j (h : j < xs.length), -9223372036854775808 ≤ xs[j] ∧ xs[j] ≤ 9223372036854775807)
    (ha : ∀ j (h : j < xs.length), ∃ b o, a = some ⟨b, o, none⟩ ∧ w.cell? ⟨b, o + j, none⟩ = some (.int .i64 xs[j])) :
    Calls Tryd.prog 63 #[.slice a xs.length c, .int .i64 k] w fun e w' =>
      ((e = .returned .nilIface ∧ ∀ j (h : j < xs.length), Room k xs[j]) ∨
       (∃ i p, ∃ hi : i < xs.length, e = .returned (.iface 84 (.pointer (some ⟨p, 0, none⟩))) ∧ (∀ j (h : j < xs.length), j < i → Room k xs[j]) ∧ ¬ Room k xs[i] ∧ w'.cell? ⟨p, 0, none⟩ = some (.int .i64 i) ∧ w'.cell? ⟨p, 1, none⟩ = some (.iface st sp))) ∧ Below w.heap.size w w' := by
  have hd1 : decide (0 ≤ (k : Int) ∧ (k : Int) ≤ 32) = true := by simp; omega
  have hd2 : decide (0 ≤ (xs.length : Int) ∧ (xs.length : Int) ≤ 20000) = true := by simp; omega
  have HX : Hid (∀ j (h : j < xs.length), -9223372036854775808 ≤ xs[j] ∧ xs[j] ≤ 9223372036854775807) := hx
  have HA : Hid (∀ j (h : j < xs.length), ∃ b o, a = some ⟨b, o, none⟩ ∧ w.cell? ⟨b, o + j, none⟩ = some (.int .i64 xs[j])) := ha
  clear hx ha
  go_enter Tryd.func63, Tryd.ntmps63
  go_wp2_with (first | (go_at_call 85; refine (isWidth_any _ _).mono ?_; rw [hd1]; rintro e w1 ⟨rfl, hw⟩; obtain rfl := hw.symm) | (go_at_call 86; refine (isCount_any _ _).mono ?_; rw [hd2]; rintro e w1 ⟨rfl, hw⟩; obtain rfl := hw.symm))
  go_loopw [19] (fun x wr => ∃ i : Nat, i ≤ xs.length ∧ x = .int .i64 i ∧ wr = w ∧ Hid (∀ j (h : j < xs.length), j < i → Room k xs[j])) (fun x _ => xs.length - (intOf x).toNat)
  case atStart => exact ⟨0, Nat.zero_le _, rfl, rfl, fun j _ h => absurd h (Nat.not_lt_zero _)⟩
  case round =>
    obtain ⟨i, hi, rfl, hwr, HP⟩ := hrel
    obtain rfl := hwr.symm
    by_cases hlt : i < xs.length
    · obtain ⟨b, o, rfl, hc⟩ := HA.out i hlt
      have hr := HX.out i hlt
      by_cases hf : Room k xs[i]
      · have HF : Hid (Room k xs[i]) := hf
        have hd : decide (0 ≤ xs[i] ∧ xs[i] < 2 ^ k) = true := decide_eq_true hf
        clear hf
        go_wp2_with (go_at_call 96; refine (fits_any _ _ _ hr.1 hr.2 hk).mono ?_; rw [hd]; rintro e w1 ⟨rfl, hw⟩; obtain rfl := hw.symm)
        go_roundw
        case rel => exact ⟨i + 1, by omega, by go_num, trivial, fun j h hj => if e : j = i then (by subst e; exact HF.out) else HP.out j h (by omega)⟩
        case measure => simp [intOf]; omega
      · have HF : Hid (¬ Room k xs[i]) := hf
        have hd : decide (0 ≤ xs[i] ∧ xs[i] < 2 ^ k) = false := decide_eq_false hf
        clear hf
        go_wp2_with (go_at_call 96; refine (fits_any _ _ _ hr.1 hr.2 hk).mono ?_; rw [hd]; rintro e w1 ⟨rfl, hw⟩; obtain rfl := hw.symm)
        go_ret
        refine ⟨Or.inr ⟨i, w.heap.size, hlt, rfl, HP.out, HF.out, ?_, ?_⟩, (Below.refl _ _).alloc (Nat.le_refl _) _⟩
        · rw [cell_of_row _ w.heap.size 0 _ 86 (0, 0) (heap_alloc_new w _)]; rfl
        · rw [cell_of_row _ w.heap.size 1 _ 86 (0, 0) (heap_alloc_new w _)]; rfl
    · go_wp2
      go_ret
      exact ⟨Or.inl ⟨rfl, fun j h => HP.out j h (by omega)⟩, Below.refl _ _⟩
end Go.Proofs.YtjchkhdmjbojjaaDoor
