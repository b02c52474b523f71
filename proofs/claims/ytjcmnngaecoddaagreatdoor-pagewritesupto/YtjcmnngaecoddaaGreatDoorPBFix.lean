/-
  wire.Fixed and the reference's Little; wire.ReadFixed and the reference's ReadLittle: what they answer.
  bitrun's isWidth, isCount, eights and fits: what they answer.
  bitrun.check: which numbers are right for a width, and where one is not.
  wire.ReadUvarint answers the number that the mathematics names, and its length, or the error that ErrText holds, for every text.
  The reference's Long: bytes behind their length.
-/
import Derived.Test.YtjcmnngaecoddaaGreatDoorPBMath
import Derived.Test.YtjcmnngaecoddaaGreatDoorPBBase
import Derived.Laws.MakeOwn
import Derived.RegionTactic
namespace Go.Proofs.YtjcmnngaecoddaaGreatDoor
open Go.RowKit
/-- What the loop of Fixed keeps. -/
structure FRow (n k g : Nat) (w wr : World) (i : Nat) : Prop where
  done : ∀ j, j < i → wr.cell? ⟨g, j, none⟩ = some (.int .u8 (Um.by_ n j : Nat))
  any : ∀ j, j < k → ∃ v, wr.cell? ⟨g, j, none⟩ = some v
  froz : ∀ j, j < k → wr.frozen? ⟨g, j, none⟩ = false
  old : Below w.heap.size w wr
theorem FRow.start (n k : Nat) (w : World) (M : Array Value) (hM : M.size = k) : FRow n k w.heap.size w (w.alloc (.cells M 5)) 0 := by
  refine ⟨fun j h => absurd h (Nat.not_lt_zero _), fun j hj => ?_, fun j _ => ?_, (Below.refl _ _).alloc (Nat.le_refl _) _⟩
  · rw [cell_of_row _ w.heap.size j M 5 (0, 0) (heap_alloc_new w _)]
    exact ⟨_, Array.getElem?_eq_getElem (by omega)⟩
  · exact frozen_of_row _ w.heap.size j M 5 (heap_alloc_new w _)
theorem FRow.next {n k g : Nat} {w wr : World} {i : Nat} (h : FRow n k g w wr i) (hg : w.heap.size ≤ g) (hi : i < k) : FRow n k g w (wr.setCell ⟨g, i, none⟩ (.int .u8 (Um.by_ n i : Nat))) (i + 1) := by
  obtain ⟨v, hv⟩ := h.any i hi
  have hother : ∀ j, j ≠ i → (wr.setCell ⟨g, i, none⟩ (.int .u8 (Um.by_ n i : Nat))).cell? ⟨g, j, none⟩ = wr.cell? ⟨g, j, none⟩ := fun j hj =>
    World.cell?_setCell_other _ _ _ _ (fun e => hj (by injection e with _ e; exact e.symm))
  refine ⟨fun j hj => ?_, fun j hj => ?_, fun j hj => by simpa using h.froz j hj, h.old.setCell hg _⟩
  · by_cases e : j = i
    · subst e; exact World.cell?_setCell_same _ _ _ hv
    · rw [hother j e]; exact h.done j (by omega)
  · by_cases e : j = i
    · subst e; exact ⟨_, World.cell?_setCell_same _ _ _ hv⟩
    · rw [hother j e]; exact h.any j hj
theorem FRow.conv {n k g : Nat} {w wr : World} (h : FRow n k g w wr k) : (convert 80 9 (.slice (some ⟨g, 0, none⟩) k k)).run Tryz.prog wr = .ok (.string ⟨(Um.lit n k).toArray⟩) wr := by
  have := run_convert_bytes_back (P := Tryz.prog) wr 80 9 5 ⟨g, 0, none⟩ k (Um.lit n k) Tryz.underlying80 Tryz.underlying5 Tryz.underlying9 (fun j hj => by
    have e : (⟨g, 0, none⟩ : Addr).add j = ⟨g, j, none⟩ := by unfold Addr.add; split <;> simp_all
    have hj' : j < k := by rw [Um.lit_len] at hj; exact hj
    rw [e, h.done j hj', Um.lit_get n k j hj', Um.bt_nat (Um.by_lt n j)])
  rw [Um.lit_len] at this
  exact this
theorem by_int (n j : Nat) : (n : Int) / 2 ^ (8 * j) % 256 = ((Um.by_ n j : Nat) : Int) := by unfold Um.by_; simp
set_option maxRecDepth 100000 in
set_option maxHeartbeats 1000000 in
theorem fixed_ok (n k : Nat) (w : World) (_hn : n < 18446744073709551616) (h1 : 1 ≤ k) (h8 : k ≤ 8) (hf : n / 2 ^ (8 * (k - 1)) ≤ 255) :
    Calls Tryz.prog 40 #[.int .u64 n, .int .i64 k] w fun e w' => e = .returned (.tuple #[.string ⟨(Um.lit n k).toArray⟩, .nilIface]) ∧ Below w.heap.size w w' := by
  obtain ⟨i0, hi, hz0, hz1, hz2⟩ := info_parts Tryz.info5
  obtain ⟨M, hM⟩ : ∃ M, M = madeCells (Value.int .u8 0).cells (((k : Nat) : Int).toNat * i0.size) := ⟨_, rfl⟩
  have hMs : M.size = k := by rw [hM, size_madeCells, hz1]; simp
  have hmk : ∀ W : World, (Instr.makeSlice 80 (.int .i64 (k : Int)) (.int .i64 (k : Int))).run Tryz.prog W = .ok (.slice (some ⟨W.heap.size, 0, none⟩) k k) (W.alloc (.cells M 5)) := fun W => by
    have h := run_make (P := Tryz.prog) W 80 5 i0 (.int .u8 0) Tryz.underlying80 hi hz0 .i64 .i64 (k : Int) (k : Int) (by omega) (by omega) (by rw [hz2]; omega) (by omega)
    rw [← hM] at h
    simpa using h
  have HS : Hid (FRow n k w.heap.size w (w.alloc (.cells M 5)) 0) := FRow.start n k w M hMs
  clear hM hMs hi hz0 hz1 hz2
  have hd1 : decide (1 ≤ (k : Int)) = true := by simp; omega
  have hd2 : decide ((k : Int) ≤ 8) = true := by simp; omega
  have hd3 : decide (255 < (n : Int) / 2 ^ (8 * (k - 1))) = false := by
    have e : ((n / 2 ^ (8 * (k - 1)) : Nat) : Int) = (n : Int) / 2 ^ (8 * (k - 1)) := by simp
    rw [← e]
    generalize n / 2 ^ (8 * (k - 1)) = q at hf
    simp
    omega
  clear hf
  go_enter Tryz.func40, Tryz.ntmps40
  go_wp2
  clear hmk hd1 hd2 hd3
  go_loopw [24] (fun x wr => ∃ i : Nat, i ≤ k ∧ x = .int .i64 i ∧ Hid (FRow n k w.heap.size w wr i)) (fun x _ => k - (intOf x).toNat)
  case atStart => exact ⟨0, Nat.zero_le _, rfl, HS⟩
  case round =>
    obtain ⟨i, hik, rfl, HR⟩ := hrel
    by_cases hlt : i < k
    · obtain ⟨v, hv⟩ := HR.out.any i hlt
      have hfz := HR.out.froz i hlt
      have hby := by_int n i
      go_wp2
      go_roundw
      case rel => exact ⟨i + 1, by omega, by go_num, HR.out.next (Nat.le_refl _) hlt⟩
      case measure => simp [intOf]; omega
    · obtain rfl : i = k := by omega
      have hcv := HR.out.conv
      go_wp2
      go_ret2
      exact ⟨rfl, HR.out.old⟩
end Go.Proofs.YtjcmnngaecoddaaGreatDoor

namespace Go.Proofs.YtjcmnngaecoddaaGreatDoor
open Go.RowKit
theorem retb {a b : Bool} (h : a = b) : Ending.returned (.bool a) = .returned (.bool b) := by rw [h]
set_option maxRecDepth 100000 in
theorem isWidth_any (k : Int) (w : World) : Calls Tryz.prog 97 #[.int .i64 k] w fun e w' => e = .returned (.bool (decide (0 ≤ k ∧ k ≤ 32))) ∧ w' = w := by
  have hcase : decide (0 ≤ k) = false ∨ (decide (0 ≤ k) = true ∧ decide (k ≤ 32) = false) ∨ (decide (0 ≤ k) = true ∧ decide (k ≤ 32) = true) := by
    by_cases h : 0 ≤ k <;> by_cases h' : k ≤ 32 <;> simp [h, h']
  rcases hcase with h | ⟨h, h'⟩ | ⟨h, h'⟩
  all_goals
    go_enter Tryz.func97, Tryz.ntmps97
    go_wp2
    all_goals go_ret
    all_goals exact ⟨retb (by simp at *; omega), rfl⟩
set_option maxRecDepth 100000 in
theorem isCount_any (k : Int) (w : World) : Calls Tryz.prog 98 #[.int .i64 k] w fun e w' => e = .returned (.bool (decide (0 ≤ k ∧ k ≤ 20000))) ∧ w' = w := by
  have hcase : decide (0 ≤ k) = false ∨ (decide (0 ≤ k) = true ∧ decide (k ≤ 20000) = false) ∨ (decide (0 ≤ k) = true ∧ decide (k ≤ 20000) = true) := by
    by_cases h : 0 ≤ k <;> by_cases h' : k ≤ 20000 <;> simp [h, h']
  rcases hcase with h | ⟨h, h'⟩ | ⟨h, h'⟩
  all_goals
    go_enter Tryz.func98, Tryz.ntmps98
    go_wp2
    all_goals go_ret
    all_goals exact ⟨retb (by simp at *; omega), rfl⟩
set_option maxRecDepth 100000 in
theorem eights_any (k : Nat) (w : World) (hk : k < 9000000000000000000) : Calls Tryz.prog 63 #[.int .i64 k] w fun e w' => e = .returned (.int .i64 ((k + 7) / 8 : Nat)) ∧ w' = w := by
  go_enter Tryz.func63, Tryz.ntmps63
  go_wp2
  go_ret
  exact ⟨by go_num, rfl⟩
theorem fits_iff (n : Int) (k : Nat) (h0 : -9223372036854775808 ≤ n) (h1 : n ≤ 9223372036854775807) (hk : k ≤ 32) : (n % 18446744073709551616 / 2 ^ k = 0) ↔ (0 ≤ n ∧ n < 2 ^ k) := by
  have hp : (0 : Int) < 2 ^ k := Int.pow_pos (by omega)
  have hp2 : (2 : Int) ^ k ≤ 4294967296 := by
    have h := Nat.pow_le_pow_right (n := 2) (by omega) hk
    have e : ((2 ^ k : Nat) : Int) = (2 : Int) ^ k := by simp
    have h32 : (2 : Nat) ^ 32 = 4294967296 := by decide
    rw [← e]
    omega
  generalize (2 : Int) ^ k = p at hp hp2
  have hm : 0 ≤ n % 18446744073709551616 := Int.emod_nonneg _ (by omega)
  have hz : n % 18446744073709551616 / p = 0 ↔ n % 18446744073709551616 < p := by
    have hd := Int.emod_add_mul_ediv (n % 18446744073709551616) p
    have hl := Int.emod_lt_of_pos (n % 18446744073709551616) hp
    have hn := Int.emod_nonneg (n % 18446744073709551616) (show p ≠ 0 by omega)
    constructor
    · intro h
      rw [h, Int.mul_zero] at hd
      omega
    · intro h
      exact Int.ediv_eq_zero_of_lt hm h
  rw [hz]
  omega
set_option maxRecDepth 100000 in
theorem fits_any (n : Int) (k : Nat) (w : World) (h0 : -9223372036854775808 ≤ n) (h1 : n ≤ 9223372036854775807) (hk : k ≤ 32) :
    Calls Tryz.prog 99 #[.int .i64 n, .int .i64 k] w fun e w' => e = .returned (.bool (decide (0 ≤ n ∧ n < 2 ^ k))) ∧ w' = w := by
  have hf := fits_iff n k h0 h1 hk
  go_enter Tryz.func99, Tryz.ntmps99
  go_wp2
  go_ret
  refine ⟨retb ?_, rfl⟩
  rw [IntKind.wrap_u64, Bool.eq_iff_iff, decide_eq_true_iff, beq_iff_eq]
  exact hf
end Go.Proofs.YtjcmnngaecoddaaGreatDoor

namespace Go.Proofs.YtjcmnngaecoddaaGreatDoor
open Go.RowKit
/-- Has a number room in so many bits? -/
def Room (k : Nat) (n : Int) : Prop := 0 ≤ n ∧ n < 2 ^ k
set_option maxHeartbeats 800000 in
set_option maxRecDepth 100000 in
/-- A right width: each number has room, or the first that has none is told. -/
theorem check_any (a : Option Addr) (xs : List Int) (c k : Nat) (w : World) (st : TypeId) (sp : Value) (hn : xs.length ≤ 20000) (hk : k ≤ 32) (hg : w.cell? ⟨0, 0, none⟩ = some (.iface st sp))
    (hx : ∀ j (h : j < xs.length), -9223372036854775808 ≤ xs[j] ∧ xs[j] ≤ 9223372036854775807)
    (ha : ∀ j (h : j < xs.length), ∃ b o, a = some ⟨b, o, none⟩ ∧ w.cell? ⟨b, o + j, none⟩ = some (.int .i64 xs[j])) :
    Calls Tryz.prog 61 #[.slice a xs.length c, .int .i64 k] w fun e w' =>
      ((e = .returned .nilIface ∧ ∀ j (h : j < xs.length), Room k xs[j]) ∨
       (∃ i p, ∃ hi : i < xs.length, e = .returned (.iface 82 (.pointer (some ⟨p, 0, none⟩))) ∧ (∀ j (h : j < xs.length), j < i → Room k xs[j]) ∧ ¬ Room k xs[i] ∧ w'.cell? ⟨p, 0, none⟩ = some (.int .i64 i) ∧ w'.cell? ⟨p, 1, none⟩ = some (.iface st sp))) ∧ Below w.heap.size w w' := by
  have hd1 : decide (0 ≤ (k : Int) ∧ (k : Int) ≤ 32) = true := by simp; omega
  have hd2 : decide (0 ≤ (xs.length : Int) ∧ (xs.length : Int) ≤ 20000) = true := by simp; omega
  have HX : Hid (∀ j (h : j < xs.length), -9223372036854775808 ≤ xs[j] ∧ xs[j] ≤ 9223372036854775807) := hx
  have HA : Hid (∀ j (h : j < xs.length), ∃ b o, a = some ⟨b, o, none⟩ ∧ w.cell? ⟨b, o + j, none⟩ = some (.int .i64 xs[j])) := ha
  clear hx ha
  go_enter Tryz.func61, Tryz.ntmps61
  go_wp2_with (first | (go_at_call 97; refine (isWidth_any _ _).mono ?_; rw [hd1]; rintro e w1 ⟨rfl, hw⟩; obtain rfl := hw.symm) | (go_at_call 98; refine (isCount_any _ _).mono ?_; rw [hd2]; rintro e w1 ⟨rfl, hw⟩; obtain rfl := hw.symm))
  go_loopw [19] (fun x wr => ∃ i : Nat, i ≤ xs.length ∧ x = .int .i64 i ∧ wr = w ∧ Hid (∀ j (h : j < xs.length), j < i → Room k xs[j])) (fun x _ => xs.length - (intOf x).toNat)
  case atStart => exact ⟨0, Nat.zero_le _, rfl, rfl, fun j _ h => absurd h (Nat.not_lt_zero _)⟩
  case round =>
    obtain ⟨i, hi, rfl, hwr, HP⟩ := hrel
    obtain rfl := hwr.symm
    by_cases hlt : i < xs.length
    · obtain ⟨b, o, rfl, hc⟩ := HA.out i hlt
      have hr := HX.out i hlt
      by_cases hf : Room k xs[i]
      · have HF : Hid (Room k xs[i]) := hf
        have hd : decide (0 ≤ xs[i] ∧ xs[i] < 2 ^ k) = true := decide_eq_true hf
        clear hf
        go_wp2_with (go_at_call 99; refine (fits_any _ _ _ hr.1 hr.2 hk).mono ?_; rw [hd]; rintro e w1 ⟨rfl, hw⟩; obtain rfl := hw.symm)
        go_roundw
        case rel => exact ⟨i + 1, by omega, by go_num, trivial, fun j h hj => if e : j = i then (by subst e; exact HF.out) else HP.out j h (by omega)⟩
        case measure => simp [intOf]; omega
      · have HF : Hid (¬ Room k xs[i]) := hf
        have hd : decide (0 ≤ xs[i] ∧ xs[i] < 2 ^ k) = false := decide_eq_false hf
        clear hf
        go_wp2_with (go_at_call 99; refine (fits_any _ _ _ hr.1 hr.2 hk).mono ?_; rw [hd]; rintro e w1 ⟨rfl, hw⟩; obtain rfl := hw.symm)
        go_ret
        refine ⟨Or.inr ⟨i, w.heap.size, hlt, rfl, HP.out, HF.out, ?_, ?_⟩, (Below.refl _ _).alloc (Nat.le_refl _) _⟩
        · rw [cell_of_row _ w.heap.size 0 _ 86 (0, 0) (heap_alloc_new w _)]; rfl
        · rw [cell_of_row _ w.heap.size 1 _ 86 (0, 0) (heap_alloc_new w _)]; rfl
    · go_wp2
      go_ret
      exact ⟨Or.inl ⟨rfl, fun j h => HP.out j h (by omega)⟩, Below.refl _ _⟩
end Go.Proofs.YtjcmnngaecoddaaGreatDoor

namespace Go.Proofs.YtjcmnngaecoddaaGreatDoor
open Go.RowKit
/-- A number with 7 bits more, at their place, in 64 bits. -/
def acc (n b k : Nat) : Nat := n ||| (b % 128 * 2 ^ (7 * k) % 18446744073709551616)
end Go.Proofs.YtjcmnngaecoddaaGreatDoor

namespace Go.Proofs.YtjcmnngaecoddaaGreatDoor
open Go.RowKit
set_option maxHeartbeats 400000 in
theorem long_any (s : ByteArray) (w : World) (hs : s.size ≤ 140737488351232) :
    Calls Tryz.prog 25 #[.string s] w fun e w' => e = .returned (.string (⟨(Um.uv s.size).toArray⟩ ++ s)) ∧ Below w.heap.size w w' := by
  have hl := Um.uv_ten (n := s.size) (by omega)
  go_enter Tryz.func25, Tryz.ntmps25
  go_wp2_with fail
  refine (seven_any s.size _ (by omega)).mono ?_
  rintro e w1 ⟨rfl, hb1⟩
  go_wp2
  go_ret
  exact ⟨rfl, hb1⟩
end Go.Proofs.YtjcmnngaecoddaaGreatDoor
