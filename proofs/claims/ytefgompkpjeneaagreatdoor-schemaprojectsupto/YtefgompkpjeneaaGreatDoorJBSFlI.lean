/-
  The flat list of a schema in memory.
  The reference's SchemaError: exact.
-/
import Derived.Test.YtefgompkpjeneaaGreatDoorJSErrM
import Derived.Test.YtefgompkpjeneaaGreatDoorJBSBase
import Derived.Deep.DeepCutAuto
import Derived.Deep.RegionHeld3
import Derived.Deep.RegionLaw
namespace Go.Proofs.YtefgompkpjeneaaGreatDoor
open Go.RowKit
/-- The flat list in memory. -/
structure FlI (t : Tr) (ps : List Pn) (g : Nat) (w1 : World) : Prop where
  co : ps.map Pn.core = fl t
  cell : ∀ X, Below w1.heap.size w1 X → ∀ i (h : i < ps.length) k u, k < 7 → (pnc ps[i])[k]? = some u → X.cell? ⟨g, i * 7 + k, none⟩ = some u
theorem FlI.len {t : Tr} {ps : List Pn} {g : Nat} {w1 : World} (h : FlI t ps g w1) : ps.length = (fl t).length := by rw [← h.co, List.length_map]
theorem FlI.at_ {t : Tr} {ps : List Pn} {g : Nat} {w1 : World} (h : FlI t ps g w1) (i : Nat) (hi : i < ps.length) : (fl t)[i]'(by rw [← h.len]; exact hi) = ps[i].core := by simp only [← h.co, List.getElem_map]
theorem FlI.tail {t : Tr} {ps : List Pn} {g : Nat} {w1 : World} (h : FlI t ps g w1) (i : Nat) (hi : i + 1 < ps.length) : ∃ hh : i < (fl t).tail.length, (fl t).tail[i] = ps[i + 1].core := by
  have h1 : i < (fl t).tail.length := by rw [List.length_tail, ← h.len]; omega
  exact ⟨h1, by rw [List.getElem_tail]; exact h.at_ (i + 1) hi⟩
theorem FlI.tl {t : Tr} {ps : List Pn} {g : Nat} {w1 : World} (h : FlI t ps g w1) (i : Nat) (h1 : 1 ≤ i) (hi : i < ps.length) : ∃ hh : i - 1 < (fl t).tail.length, (fl t).tail[i - 1] = ps[i].core := by
  obtain ⟨j, rfl⟩ : ∃ j, i = j + 1 := ⟨i - 1, by omega⟩
  exact h.tail j hi
theorem FlI.tln {t : Tr} {ps : List Pn} {g : Nat} {w1 : World} (h : FlI t ps g w1) : ps.length - 1 = (fl t).tail.length := by rw [List.length_tail, ← h.len]
theorem fl_pos (t : Tr) : 0 < (fl t).length := by
  unfold fl
  rw [flT_eq, if_neg (by simp)]
  obtain ⟨E, h⟩ := flL_ext t.sub ([] ++ [⟨t, (1 : Nat), -1⟩]) 2 ([] : List Pc).length
  rw [h]
  simp
end Go.Proofs.YtefgompkpjeneaaGreatDoor

namespace Go.Proofs.YtefgompkpjeneaaGreatDoor
open Go.RowKit
set_option maxRecDepth 100000 in
set_option maxHeartbeats 3200000 in
theorem refName_any (s : ByteArray) (hs : s.size ≤ 1048576) (W : World) : Calls Tryz.prog 15 #[.string s] W fun e w' => e = .returned (.bool (nameOk s)) ∧ w' = W := by
  have hsz : Hid (s.data.toList.length = s.size) := (by show _ = _; simp)
  go_enter Tryz.func15, Tryz.ntmps15
  go_wp2
  go_loop [3] (fun x => ∃ i : Nat, i ≤ s.size ∧ x = .int .i64 i ∧ Hid (∀ j (h : j < s.data.toList.length), j < i → smallB s.data.toList[j] = true)) (fun x => s.size - (intOf x).toNat)
  case atStart => exact ⟨0, Nat.zero_le _, rfl, fun j _ h => absurd h (Nat.not_lt_zero _)⟩
  case round =>
    obtain ⟨i, hi, rfl, HA⟩ := hrel
    by_cases hlt : i < s.size
    · have hlt' : i < s.data.toList.length := by rw [hsz.out]; exact hlt
      have eb : s[i] = s.data.toList[i] := rfl
      by_cases hb : smallB s.data.toList[i] = true
      · have hb' : 97 ≤ s[i].toNat ∧ s[i].toNat ≤ 122 := of_decide_eq_true hb
        have q1 : decide ((s[i].toNat : Int) < 97) = false := by simp; omega
        have q2 : decide ((122 : Int) < (s[i].toNat : Int)) = false := by simp; omega
        have HN : Hid (∀ j (h : j < s.data.toList.length), j < i + 1 → smallB s.data.toList[j] = true) := fun j h hj => by
          by_cases e : j = i
          · subst e; exact hb
          · exact HA.out j h (by omega)
        clear hb hb' eb
        go_wp2
        go_round
        case rel => exact ⟨i + 1, by omega, by go_num, HN⟩
        case measure => simp [intOf]; omega
      · have hb' : ¬ (97 ≤ s[i].toNat ∧ s[i].toNat ≤ 122) := fun h => hb (decide_eq_true h)
        have HT : Hid (nameOk s = false) := (by
          show _ = _
          rw [nameOk, Bool.and_eq_false_iff]
          right
          rw [List.all_eq_false]
          exact ⟨_, List.getElem_mem hlt', hb⟩)
        by_cases h1 : s[i].toNat < 97
        · have q1 : decide ((s[i].toNat : Int) < 97) = true := by simp; omega
          clear hb hb' eb
          go_wp2
          all_goals go_ret
          all_goals exact ⟨by rw [HT.out]; rfl, rfl⟩
        · have q1 : decide ((s[i].toNat : Int) < 97) = false := by simp; omega
          have q2 : decide ((122 : Int) < (s[i].toNat : Int)) = true := by simp; omega
          clear hb hb' eb
          go_wp2
          all_goals go_ret
          all_goals exact ⟨by rw [HT.out]; rfl, rfl⟩
    · obtain rfl : i = s.size := by omega
      have HT : Hid (nameOk s = decide (1 ≤ s.size ∧ s.size ≤ 12)) := (by
        show _ = _
        rw [nameOk, show s.data.toList.all smallB = true from List.all_eq_true.2 fun x hx => by
          obtain ⟨j, hj, rfl⟩ := List.getElem_of_mem hx
          exact HA.out j hj (by rw [← hsz.out]; exact hj), Bool.and_true])
      by_cases h1 : 1 ≤ s.size
      · have q1 : decide ((0 : Int) < (s.size : Int)) = true := by simp; omega
        by_cases h2 : s.size ≤ 12
        · have q2 : decide ((s.size : Int) ≤ 12) = true := by simp; omega
          go_wp2
          all_goals go_ret
          all_goals exact ⟨by rw [HT.out]; simp [h1, h2], rfl⟩
        · have q2 : decide ((s.size : Int) ≤ 12) = false := by simp; omega
          go_wp2
          all_goals go_ret
          all_goals exact ⟨by rw [HT.out]; simp [h2], rfl⟩
      · have q1 : decide ((0 : Int) < (s.size : Int)) = false := by rw [decide_eq_false_iff_not]; omega
        go_wp2
        all_goals go_ret
        all_goals exact ⟨by rw [HT.out]; simp [h1], rfl⟩
end Go.Proofs.YtefgompkpjeneaaGreatDoor
