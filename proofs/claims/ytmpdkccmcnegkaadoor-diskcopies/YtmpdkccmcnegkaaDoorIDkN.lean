/-
  A file's name: of the program and of the law.
-/
import Derived.Test.YtmpdkccmcnegkaaDoorIDkA
import Derived.Deep.QuietTactic
import Derived.BigQuiet
import Derived.Laws.Cover1
namespace Go.Proofs.YtmpdkccmcnegkaaDoor
open Go.RowKit
def fnB (b : UInt8) : Bool := decide (97 ≤ b.toNat ∧ b.toNat ≤ 122) || decide (48 ≤ b.toNat ∧ b.toNat ≤ 57)
def fnOk (s : ByteArray) : Bool := decide (1 ≤ s.size ∧ s.size ≤ 12) && (bl s).all fnB
theorem fnB_t {b : UInt8} (h : (97 ≤ b.toNat ∧ b.toNat ≤ 122) ∨ (48 ≤ b.toNat ∧ b.toNat ≤ 57)) : fnB b = true := by
  simp [fnB, h]
theorem fnB_f {b : UInt8} (h : ¬ (97 ≤ b.toNat ∧ b.toNat ≤ 122)) (h' : ¬ (48 ≤ b.toNat ∧ b.toNat ≤ 57)) : fnB b = false := by
  simp [fnB, h, h']
theorem below_dW {B : Nat} {a w : World} (h : Below B a w) (n : Nat) : Below B a (w.drewN n) := h.trans ⟨rfl, rfl, rfl, Nat.le_refl _, fun _ _ => rfl⟩
theorem hid_nm {α : Type} (x : α) : ∃ y, Hid (x = y) := ⟨x, rfl⟩
set_option maxRecDepth 100000 in
set_option maxHeartbeats 1600000 in
theorem isName_disk (s : ByteArray) (hs : s.size ≤ maxLen) (W : World) : Calls Tryd.prog 34 #[.string s] W fun e w' => e = .returned (.bool (fnOk s)) ∧ Below W.heap.size W w' := by
  have hsz : Hid ((bl s).length = s.size) := (by show _ = _; simp [bl])
  have hmx : Hid (s.size ≤ maxLen) := hs
  clear hs
  go_enter Tryd.func34, Tryd.ntmps34
  go_wp2
  go_loopw [8] (fun x wr => ∃ i : Nat, i ≤ s.size ∧ x = .int .i64 i ∧ Hid (∀ j (h : j < (bl s).length), j < i → fnB (bl s)[j] = true) ∧ Below W.heap.size W wr) (fun x _ => s.size - (intOf x).toNat)
  case atStart => exact ⟨0, Nat.zero_le _, rfl, fun j _ h => absurd h (Nat.not_lt_zero _), Below.refl _ _⟩
  case round =>
    obtain ⟨i, hi, rfl, HA, hb⟩ := hrel
    by_cases hlt : i < s.size
    · have hlt' : i < (bl s).length := by rw [hsz.out]; exact hlt
      have eb : s[i] = (bl s)[i] := rfl
      have hmm : s.size ≤ 9223372036854775807 := hmx.out
      have f1 : decide ((97 : Int) ≤ (s[i].toNat : Int)) = decide (97 ≤ s[i].toNat) := by rw [decide_eq_decide]; omega
      have f2 : decide ((s[i].toNat : Int) ≤ 122) = decide (s[i].toNat ≤ 122) := by rw [decide_eq_decide]; omega
      have f3 : decide ((48 : Int) ≤ (s[i].toNat : Int)) = decide (48 ≤ s[i].toNat) := by rw [decide_eq_decide]; omega
      have f4 : decide ((s[i].toNat : Int) ≤ 57) = decide (s[i].toNat ≤ 57) := by rw [decide_eq_decide]; omega
      by_cases h1 : 97 ≤ s[i].toNat
      all_goals
        by_cases h2 : s[i].toNat ≤ 122
        all_goals
          by_cases h3 : 48 ≤ s[i].toNat
          all_goals
            by_cases h4 : s[i].toNat ≤ 57
            all_goals
              try (exfalso; omega)
      all_goals
        simp only [h1, h2, h3, h4, decide_true, decide_false] at f1 f2 f3 f4
        have HC : Hid (∀ h : ¬ ((97 ≤ s[i].toNat ∧ s[i].toNat ≤ 122) ∨ (48 ≤ s[i].toNat ∧ s[i].toNat ≤ 57)), fnOk s = false) := (by
          intro h
          simp only [fnOk, Bool.and_eq_false_iff]
          refine .inr (List.all_eq_false.2 ⟨_, List.getElem_mem hlt', ?_⟩)
          rw [← eb, fnB_f (by omega) (by omega)]
          simp)
        have HT : Hid (∀ h : (97 ≤ s[i].toNat ∧ s[i].toNat ≤ 122) ∨ (48 ≤ s[i].toNat ∧ s[i].toNat ≤ 57), ∀ j (h : j < (bl s).length), j < i + 1 → fnB (bl s)[j] = true) := (by
          intro hx j h hj
          by_cases e : j = i
          · subst e; rw [← eb]; exact fnB_t hx
          · exact HA.out j h (by omega))
        clear eb
        go_wp2
        go_quiet (fail)
        go_wp2
        first
          | (go_roundw
             case rel => exact ⟨i + 1, by omega, by go_num, HT.out (by omega), below_dW hb _⟩
             case measure => simp [intOf]; omega)
          | (go_ret
             refine ⟨?_, below_dW hb _⟩
             rw [HC.out (by omega)]; rfl)
    · obtain rfl : i = s.size := by omega
      have hall : (bl s).all fnB = true := List.all_eq_true.2 (fun x hx => by
        obtain ⟨j, hj, rfl⟩ := List.getElem_of_mem hx
        exact HA.out j hj (by rw [← hsz.out]; exact hj))
      have HE : Hid (fnOk s = decide (1 ≤ s.size ∧ s.size ≤ 12)) := (by show _ = _; unfold fnOk; rw [hall, Bool.and_true])
      clear hall
      by_cases h1 : 1 ≤ s.size
      all_goals
        by_cases h2 : s.size ≤ 12
        all_goals
          try (exfalso; omega)
      all_goals
        go_wp2
        go_ret
        refine ⟨?_, hb⟩
        rw [HE.out]
        first | (simp [h1, h2]; done) | (simp [h1, h2]; omega)
set_option maxRecDepth 100000 in
set_option maxHeartbeats 1600000 in
theorem isFile_law (s : ByteArray) (hs : s.size ≤ maxLen) (W : World) : Calls Tryd.prog 18 #[.string s] W fun e w' => e = .returned (.bool (fnOk s)) ∧ Below W.heap.size W w' := by
  have hsz : Hid ((bl s).length = s.size) := (by show _ = _; simp [bl])
  have hmx : Hid (s.size ≤ maxLen) := hs
  clear hs
  go_enter Tryd.func18, Tryd.ntmps18
  go_wp2
  go_loopw [3] (fun x wr => ∃ i : Nat, i ≤ s.size ∧ x = .int .i64 i ∧ Hid (∀ j (h : j < (bl s).length), j < i → fnB (bl s)[j] = true) ∧ Below W.heap.size W wr) (fun x _ => s.size - (intOf x).toNat)
  case atStart => exact ⟨0, Nat.zero_le _, rfl, fun j _ h => absurd h (Nat.not_lt_zero _), Below.refl _ _⟩
  case round =>
    obtain ⟨i, hi, rfl, HA, hb⟩ := hrel
    by_cases hlt : i < s.size
    · have hlt' : i < (bl s).length := by rw [hsz.out]; exact hlt
      have eb : s[i] = (bl s)[i] := rfl
      have hmm : s.size ≤ 9223372036854775807 := hmx.out
      have f1 : decide ((s[i].toNat : Int) < 97) = decide (¬ 97 ≤ s[i].toNat) := by rw [decide_eq_decide]; omega
      have f2 : decide ((122 : Int) < (s[i].toNat : Int)) = decide (¬ s[i].toNat ≤ 122) := by rw [decide_eq_decide]; omega
      have f3 : decide ((s[i].toNat : Int) < 48) = decide (¬ 48 ≤ s[i].toNat) := by rw [decide_eq_decide]; omega
      have f4 : decide ((57 : Int) < (s[i].toNat : Int)) = decide (¬ s[i].toNat ≤ 57) := by rw [decide_eq_decide]; omega
      by_cases h1 : 97 ≤ s[i].toNat
      all_goals
        by_cases h2 : s[i].toNat ≤ 122
        all_goals
          by_cases h3 : 48 ≤ s[i].toNat
          all_goals
            by_cases h4 : s[i].toNat ≤ 57
            all_goals
              try (exfalso; omega)
      all_goals
        simp only [h1, h2, h3, h4, decide_true, decide_false, not_true_eq_false, not_false_eq_true] at f1 f2 f3 f4
        have HC : Hid (∀ h : ¬ ((97 ≤ s[i].toNat ∧ s[i].toNat ≤ 122) ∨ (48 ≤ s[i].toNat ∧ s[i].toNat ≤ 57)), fnOk s = false) := (by
          intro h
          simp only [fnOk, Bool.and_eq_false_iff]
          refine .inr (List.all_eq_false.2 ⟨_, List.getElem_mem hlt', ?_⟩)
          rw [← eb, fnB_f (by omega) (by omega)]
          simp)
        have HT : Hid (∀ h : (97 ≤ s[i].toNat ∧ s[i].toNat ≤ 122) ∨ (48 ≤ s[i].toNat ∧ s[i].toNat ≤ 57), ∀ j (h : j < (bl s).length), j < i + 1 → fnB (bl s)[j] = true) := (by
          intro hx j h hj
          by_cases e : j = i
          · subst e; rw [← eb]; exact fnB_t hx
          · exact HA.out j h (by omega))
        clear eb
        go_wp2
        first
          | (go_roundw
             case rel => exact ⟨i + 1, by omega, by go_num, HT.out (by omega), hb⟩
             case measure => simp [intOf]; omega)
          | (go_ret
             refine ⟨?_, hb⟩
             rw [HC.out (by omega)]; rfl)
    · obtain rfl : i = s.size := by omega
      have hall : (bl s).all fnB = true := List.all_eq_true.2 (fun x hx => by
        obtain ⟨j, hj, rfl⟩ := List.getElem_of_mem hx
        exact HA.out j hj (by rw [← hsz.out]; exact hj))
      have HE : Hid (fnOk s = decide (1 ≤ s.size ∧ s.size ≤ 12)) := (by show _ = _; unfold fnOk; rw [hall, Bool.and_true])
      clear hall
      by_cases h1 : 1 ≤ s.size
      all_goals
        by_cases h2 : s.size ≤ 12
        all_goals
          try (exfalso; omega)
      all_goals
        go_wp2
        go_ret
        refine ⟨?_, hb⟩
        rw [HE.out]
        first | (simp [h1, h2]; done) | (simp [h1, h2]; omega)
end Go.Proofs.YtmpdkccmcnegkaaDoor
