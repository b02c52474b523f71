/-
  wire.Fixed and the reference's Little; wire.ReadFixed and the reference's ReadLittle: what they answer.
  wire.ReadFixed: what it answers.
-/
import Derived.Test.YtjchkhdmjbojjaaDoorLBMath
import Derived.Test.YtjchkhdmjbojjaaDoorLBBase
import Derived.Laws.MakeOwn
import Derived.RegionTactic
import Derived.Test.YtjchkhdmjbojjaaDoorLRd
namespace Go.Proofs.YtjchkhdmjbojjaaDoor
open Go.RowKit
/-- What the loop of Fixed keeps. -/
structure FRow (n k g : Nat) (w wr : World) (i : Nat) : Prop where
  done : ∀ j, j < i → wr.cell? ⟨g, j, none⟩ = some (.int .u8 (Um.by_ n j : Nat))
  any : ∀ j, j < k → ∃ v, wr.cell? ⟨g, j, none⟩ = some v
  froz : ∀ j, j < k → wr.frozen? ⟨g, j, none⟩ = false
  old : Below w.heap.size w wr
theorem FRow.start (n k : Nat) (w : World) (M : Array Value) (hM : M.size = k) : FRow n k w.heap.size w (w.alloc (.cells M 5)) 0 := by
  refine ⟨fun j h => absurd h (Nat.not_lt_zero _), fun j hj => ?_, fun j _ => ?_, (Below.refl _ _).alloc (Nat.le_refl _) _⟩
  · rw [cell_of_row _ w.heap.size j M 5 (0, 0) (heap_alloc_new w _)]
    exact ⟨_, Array.getElem?_eq_getElem (by omega)⟩
  · exact frozen_of_row _ w.heap.size j M 5 (heap_alloc_new w _)
theorem FRow.next {n k g : Nat} {w wr : World} {i : Nat} (h : FRow n k g w wr i) (hg : w.heap.size ≤ g) (hi : i < k) : FRow n k g w (wr.setCell ⟨g, i, none⟩ (.int .u8 (Um.by_ n i : Nat))) (i + 1) := by
  obtain ⟨v, hv⟩ := h.any i hi
  have hother : ∀ j, j ≠ i → (wr.setCell ⟨g, i, none⟩ (.int .u8 (Um.by_ n i : Nat))).cell? ⟨g, j, none⟩ = wr.cell? ⟨g, j, none⟩ := fun j hj =>
    World.cell?_setCell_other _ _ _ _ (fun e => hj (by injection e with _ e; exact e.symm))
  refine ⟨fun j hj => ?_, fun j hj => ?_, fun j hj => by simpa using h.froz j hj, h.old.setCell hg _⟩
  · by_cases e : j = i
    · subst e; exact World.cell?_setCell_same _ _ _ hv
    · rw [hother j e]; exact h.done j (by omega)
  · by_cases e : j = i
    · subst e; exact ⟨_, World.cell?_setCell_same _ _ _ hv⟩
    · rw [hother j e]; exact h.any j hj
theorem FRow.conv {n k g : Nat} {w wr : World} (h : FRow n k g w wr k) : (convert 76 9 (.slice (some ⟨g, 0, none⟩) k k)).run Tryd.prog wr = .ok (.string ⟨(Um.lit n k).toArray⟩) wr := by
  have := run_convert_bytes_back (P := Tryd.prog) wr 76 9 5 ⟨g, 0, none⟩ k (Um.lit n k) Tryd.underlying76 Tryd.underlying5 Tryd.underlying9 (fun j hj => by
    have e : (⟨g, 0, none⟩ : Addr).add j = ⟨g, j, none⟩ := by unfold Addr.add; split <;> simp_all
    have hj' : j < k := by rw [Um.lit_len] at hj; exact hj
    rw [e, h.done j hj', Um.lit_get n k j hj', Um.bt_nat (Um.by_lt n j)])
  rw [Um.lit_len] at this
  exact this
theorem by_int (n j : Nat) : (n : Int) / 2 ^ (8 * j) % 256 = ((Um.by_ n j : Nat) : Int) := by unfold Um.by_; simp
end Go.Proofs.YtjchkhdmjbojjaaDoor

namespace Go.Proofs.YtjchkhdmjbojjaaDoor
open Go.RowKit
set_option maxHeartbeats 800000 in
theorem readFixed_bad (s : ByteArray) (k : Int) (w : World) (ev : Value) (hg : w.cell? ⟨3, 0, none⟩ = some ev) (hk : k < 1 ∨ 8 < k) :
    Calls Tryd.prog 82 #[.string s, .int .i64 k] w fun e w' => e = .returned (.tuple #[.int .u64 0, ev]) ∧ Below w.heap.size w w' := by
  have hcase : decide (1 ≤ k) = false ∨ (decide (1 ≤ k) = true ∧ decide (k ≤ 8) = false) := by
    by_cases h : 1 ≤ k
    · right; exact ⟨by simpa using h, by simp; omega⟩
    · left; simpa using h
  clear hk
  rcases hcase with h | ⟨h, h'⟩
  all_goals
    go_enter Tryd.func82, Tryd.ntmps82
    go_wp2
    go_region
    all_goals (try go_wp2)
    all_goals go_ret2
    all_goals exact ⟨rfl, (Below.refl _ _).drew⟩
set_option maxHeartbeats 800000 in
theorem readFixed_short (s : ByteArray) (k : Nat) (w : World) (ev : Value) (hg : w.cell? ⟨0, 0, none⟩ = some ev) (h1 : 1 ≤ k) (h8 : k ≤ 8) (hs : s.size < k) :
    Calls Tryd.prog 82 #[.string s, .int .i64 k] w fun e w' => e = .returned (.tuple #[.int .u64 0, ev]) ∧ Below w.heap.size w w' := by
  have hd1 : decide (1 ≤ (k : Int)) = true := by simp; omega
  have hd2 : decide ((k : Int) ≤ 8) = true := by simp; omega
  have hd3 : decide ((s.size : Int) < (k : Int)) = true := by simp; omega
  go_enter Tryd.func82, Tryd.ntmps82
  go_wp2
  go_region
  all_goals (try go_wp2)
  all_goals go_ret2
  all_goals exact ⟨rfl, (Below.refl _ _).drew⟩
theorem take_snoc8 (s : ByteArray) (k : Nat) (h : k < s.size) : s.data.toList.take (k + 1) = s.data.toList.take k ++ [s[k]] := by
  rw [List.take_succ_eq_append_getElem (by simpa using h)]; rfl
theorem or_bits {n b i : Nat} (hi : i < 8) (hb : b < 256) (hn : n < 2 ^ (8 * i)) (hn2 : n < 18446744073709551616) : bits .or .u64 (n : Int) (IntKind.u64.wrap ((b : Int) * 2 ^ (8 * i))) = ((n + b * 2 ^ (8 * i) : Nat) : Int) := by
  have hr := Um.high_lt hb hi
  have e : IntKind.u64.wrap ((b : Int) * 2 ^ (8 * i)) = ((b * 2 ^ (8 * i) : Nat) : Int) := by
    have e1 : ((b * 2 ^ (8 * i) : Nat) : Int) = (b : Int) * 2 ^ (8 * i) := by simp
    rw [← e1]
    generalize b * 2 ^ (8 * i) = q at hr
    simp only [IntKind.wrap, IntKind.bits, IntKind.signed]
    simp
    omega
  rw [e, u64_or_nat n _ hn2 hr, Um.or_high hn]
set_option maxHeartbeats 800000 in
theorem readFixed_ok (s : ByteArray) (k : Nat) (w : World) (h1 : 1 ≤ k) (h8 : k ≤ 8) (hs : k ≤ s.size) (hm : s.size ≤ 1000000) :
    Calls Tryd.prog 82 #[.string s, .int .i64 k] w fun e w' => e = .returned (.tuple #[.int .u64 (Um.lev (s.data.toList.take k)), .nilIface]) ∧ w' = w := by
  have hd1 : decide (1 ≤ (k : Int)) = true := by simp; omega
  have hd2 : decide ((k : Int) ≤ 8) = true := by simp; omega
  have hd3 : decide ((s.size : Int) < (k : Int)) = false := by simp; omega
  go_enter Tryd.func82, Tryd.ntmps82
  go_wp2
  go_loop [6, 18] (fun x c => ∃ (i n : Nat), i ≤ k ∧ c = .int .i64 i ∧ x = .int .u64 n ∧ n < 18446744073709551616 ∧ Hid (n = Um.lev (s.data.toList.take i))) (fun _ c => k - (intOf c).toNat)
  case atStart => exact ⟨0, 0, Nat.zero_le _, rfl, rfl, by omega, rfl⟩
  case round =>
    obtain ⟨i, n, hik, rfl, rfl, hn, HN⟩ := hrel
    by_cases hlt : i < k
    · have hlt2 : i < s.size := by omega
      have hb8 : s[i].toNat < 256 := s[i].toNat_lt
      have hlen : (s.data.toList.take i).length = i := by simp; omega
      have hn2 : n < 2 ^ (8 * i) := by have := Um.lev_lt (s.data.toList.take i); rw [hlen, ← HN.out] at this; exact this
      have hor := or_bits (b := s[i].toNat) (show i < 8 by omega) hb8 hn2 hn
      have HX : Hid (n + s[i].toNat * 2 ^ (8 * i) = Um.lev (s.data.toList.take (i + 1))) := by
        show _ = _
        rw [take_snoc8 s i hlt2, Um.lev_snoc, hlen, HN.out]
      have hx2 : n + s[i].toNat * 2 ^ (8 * i) < 18446744073709551616 := by
        rw [HX.out]; exact Um.lev_eight (by simp; omega)
      generalize n + s[i].toNat * 2 ^ (8 * i) = q at *
      clear hn2 hlen
      go_wp2
      go_round
      case rel => exact ⟨i + 1, q, by omega, by go_num, rfl, hx2, HX⟩
      case measure => simp [intOf]; omega
    · obtain rfl : i = k := by omega
      go_wp2
      go_ret2
      exact ⟨by rw [← HN.out]; rfl, rfl⟩
end Go.Proofs.YtjchkhdmjbojjaaDoor
