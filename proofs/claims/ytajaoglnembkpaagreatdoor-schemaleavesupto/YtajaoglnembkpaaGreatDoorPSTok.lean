/-
  The words of a text that is told as a list of bytes.
-/
import Derived.Test.YtajaoglnembkpaaGreatDoorPSNodeM
import Derived.Lib.ItoaNum
namespace Go.Proofs.YtajaoglnembkpaaGreatDoor
open Go.RowKit
theorem ext_mid {s : ByteArray} {pre m rest : List UInt8} (hs : s.data.toList = pre ++ (m ++ rest)) : s.extract pre.length (pre.length + m.length) = ⟨m.toArray⟩ := by
  have h : (s.extract pre.length (pre.length + m.length)).data.toList = m := by
    rw [ByteArray.data_extract, Array.toList_extract, hs]
    simp [List.extract]
  have e : ∀ x : ByteArray, x = ⟨x.data.toList.toArray⟩ := fun x => by simp
  rw [e (s.extract _ _), h]
/-- Bytes that are blanks. -/
def Bls (l : List UInt8) : Prop := ∀ x ∈ l, isBl x = true
theorem Bls.nil : Bls [] := fun x h => by simp at h
theorem Bls.app {a b : List UInt8} (h1 : Bls a) (h2 : Bls b) : Bls (a ++ b) := fun x h => (List.mem_append.1 h).elim (h1 x) (h2 x)
theorem at_of {s : ByteArray} {pre m rest : List UInt8} (hs : s.data.toList = pre ++ (m ++ rest)) (k : Nat) (h : k < s.size) (h1 : pre.length ≤ k) (h2 : k < pre.length + m.length) : s[k] = m[k - pre.length]'(by omega) := by
  obtain ⟨h3, h4⟩ := at_mid hs (i := k - pre.length) (by omega)
  have e : pre.length + (k - pre.length) = k := by omega
  rw [← h4]
  congr 1
  omega
theorem stop_of {s : ByteArray} {pre m rest : List UInt8} (hs : s.data.toList = pre ++ (m ++ rest)) {p : UInt8 → Bool} (hp : Stop p rest) (h : pre.length + m.length < s.size) : p s[pre.length + m.length] = false := by
  cases rest with
  | nil =>
    have := sz_mid hs
    simp at this
    omega
  | cons c t =>
    have hs' : s.data.toList = (pre ++ m) ++ ([c] ++ t) := by rw [hs]; simp
    have := at_of hs' (pre.length + m.length) h (by simp) (by simp)
    rw [this]
    exact hp _ t (by simp)
/-- A word stands behind blanks. -/
theorem wd_tok {s : ByteArray} {pre bl w rest : List UInt8} (hs : s.data.toList = pre ++ (bl ++ (w ++ rest))) (hm : s.size ≤ 100000) (hb : Bls bl) (ht : IsTok w rest) (hnb : ∀ c t, w = c :: t → isBl c = false) : WdAt s pre.length (pre.length + bl.length) (pre.length + bl.length + w.length) := by
  have hs' : s.data.toList = (pre ++ bl) ++ (w ++ rest) := by rw [hs]; simp
  have hl : (pre ++ bl).length = pre.length + bl.length := by simp
  have hsz := sz_mid hs'
  rw [hl] at hsz
  refine ⟨by omega, by omega, by omega, fun k h h1 h2 => ?_, fun h => ?_, fun W => ?_⟩
  · rw [at_of hs k h h1 h2]
    exact hb _ (List.getElem_mem _)
  · rcases ht with ⟨rfl, rfl⟩ | ⟨c, t, rfl, _⟩
    · simp at hsz; omega
    · have := at_of hs' (pre.length + bl.length) h (by simp) (by simp)
      rw [this]
      exact hnb _ t (by simp [hl])
  · rcases ht with ⟨rfl, rfl⟩ | ⟨c, t, rfl, ht⟩
    · have e : pre.length + bl.length = s.size := by simp at hsz; omega
      rw [List.length_nil, Nat.add_zero, e]
      exact wordEnd_end s W
    · have hp : pre.length + bl.length < s.size := by rw [hsz]; simp; omega
      have e0 : s[pre.length + bl.length] = c := by
        have := at_of hs' (pre.length + bl.length) hp (by simp) (by simp)
        rw [this]
        simp [hl]
      have he : ∀ k (h : k < s.size), pre.length + bl.length < k → k < pre.length + bl.length + (c :: t).length → s[k] ∈ t := fun k h h1 h2 => by
        have := at_of hs' k h (by omega) (by omega)
        rw [this]
        obtain ⟨j, hj⟩ : ∃ j, k - (pre ++ bl).length = j + 1 := ⟨k - (pre ++ bl).length - 1, by omega⟩
        simp only [hj, List.getElem_cons_succ]
        exact List.getElem_mem _
      rcases ht with ⟨h1, h2, h3⟩ | ⟨h1, h2, h3⟩ | ⟨h1, h2, rfl⟩
      · refine wordEnd_lt s _ _ hm hp (by simp) (by omega) (by rw [e0]; exact h1) (fun k h ha hb => h2 _ (he k h ha hb)) (fun h => ?_) W
        have := stop_of hs' h3 (by rw [hl]; exact h)
        simp only [hl] at this
        exact this
      · refine wordEnd_dg s _ _ hm hp (by simp) (by omega) (by rw [e0]; simp [isLt, isSm, isBg]; omega) (by rw [e0]; exact h1) (fun k h ha hb => h2 _ (he k h ha hb)) (fun h => ?_) W
        have := stop_of hs' h3 (by rw [hl]; exact h)
        simp only [hl] at this
        exact this
      · exact wordEnd_one s _ hm hp (by rw [e0]; exact h1) (by rw [e0]; exact h2) W
/-! The digits of a number. -/
theorem dd_all : ∀ (n u : Nat), u < n → ∀ x ∈ Lib.decDigits u, isDg x = true
  | 0, u, h => absurd h (Nat.not_lt_zero _)
  | n + 1, u, h => fun x hx => by
    rw [Lib.decDigits] at hx
    split at hx
    · rename_i h10
      rw [List.mem_singleton.1 hx]
      simp [isDg, UInt8.toNat_ofNat']
      omega
    · rcases List.mem_append.1 hx with hx | hx
      · exact dd_all n (u / 10) (by omega) x hx
      · rw [List.mem_singleton.1 hx]
        simp [isDg, UInt8.toNat_ofNat']
        omega
theorem dd_head : ∀ (n u : Nat), u < n → 1 ≤ u → ∃ c t, Lib.decDigits u = c :: t ∧ c.toNat ≠ 48
  | 0, u, h => absurd h (Nat.not_lt_zero _)
  | n + 1, u, h => fun h1 => by
    rw [Lib.decDigits]
    split
    · exact ⟨_, [], rfl, by simp [UInt8.toNat_ofNat']; omega⟩
    · obtain ⟨c, t, e, hc⟩ := dd_head n (u / 10) (by omega) (by omega)
      exact ⟨c, t ++ [UInt8.ofNat (48 + u % 10)], by rw [e]; rfl, hc⟩
theorem decFrom_app : ∀ (l : List UInt8) (acc : Nat) (b : UInt8), Lib.decFrom acc (l ++ [b]) = (Lib.decFrom acc l).bind fun a => (Lib.digitVal b).map fun d => a * 10 + d
  | [], acc, b => by
    simp only [List.nil_append, Lib.decFrom, Option.bind_some]
    cases Lib.digitVal b <;> rfl
  | c :: l, acc, b => by
    simp only [List.cons_append, Lib.decFrom]
    cases Lib.digitVal c with
    | none => rfl
    | some d => exact decFrom_app l _ b
theorem dd_from : ∀ (n u : Nat), u < n → Lib.decFrom 0 (Lib.decDigits u) = some u
  | 0, u, h => absurd h (Nat.not_lt_zero _)
  | n + 1, u, h => by
    have hd : ∀ v, v < 10 → Lib.digitVal (UInt8.ofNat (48 + v)) = some v := fun v hv => by
      have : (UInt8.ofNat (48 + v)).toNat = 48 + v := by simp [UInt8.toNat_ofNat']; omega
      rw [Lib.digitVal, this, if_pos (by omega)]
      simp
    rw [Lib.decDigits]
    split
    · rename_i h10
      simp only [Lib.decFrom, hd u h10]
      simp
    · rw [decFrom_app, dd_from n (u / 10) (by omega), hd _ (by omega)]
      simp
      omega
theorem dd_atoi (u : Nat) (h : 1 ≤ u) : Lib.atoi (Lib.decDigits u) = some (u : Int) := by
  have h1 := dd_from (u + 1) u (by omega)
  have h2 := dd_all (u + 1) u (by omega)
  obtain ⟨c, t, e, _⟩ := dd_head (u + 1) u (by omega) h
  rw [e] at h1 h2 ⊢
  have hc := h2 c (by simp)
  have n1 : (c == 45) = false := by
    rw [beq_eq_false_iff_ne]
    rintro rfl
    simp [isDg] at hc
  have n2 : (c == 43) = false := by
    rw [beq_eq_false_iff_ne]
    rintro rfl
    simp [isDg] at hc
  simp only [Lib.atoi, n1, n2, Bool.false_eq_true, if_false, Lib.decNat, List.isEmpty_cons, h1, Option.map_some]
theorem dd_len (u : Nat) (h : u ≤ 1000) : 1 ≤ (Lib.decDigits u).length ∧ (Lib.decDigits u).length ≤ 4 := by
  rw [Lib.decDigits_length]
  refine ⟨Lib.nDigits_pos u, ?_⟩
  by_cases h1 : u < 10
  · rw [Lib.nDigits_small h1]; omega
  · rw [Lib.nDigits_big h1]
    by_cases h2 : u / 10 < 10
    · rw [Lib.nDigits_small h2]; omega
    · rw [Lib.nDigits_big h2]
      by_cases h3 : u / 10 / 10 < 10
      · rw [Lib.nDigits_small h3]; omega
      · rw [Lib.nDigits_big h3, Lib.nDigits_small (by omega)]; omega
end Go.Proofs.YtajaoglnembkpaaGreatDoor
