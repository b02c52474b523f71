/-
  Numbers as runs: the bytes that are written: the mathematics, without the program.
-/
import Derived.Test.YtjchkhdmjbojjaaDoorJPackF
import Derived.Test.YtjchkhdmjbojjaaDoorJBMath
namespace Go.Proofs.YtjchkhdmjbojjaaDoor
namespace Um
/-- How many of the first number follow. -/
def lead : List Int → Nat
  | [] => 0
  | x :: l => 1 + (l.takeWhile (· == x)).length
theorem lead_pos {l : List Int} (h : 0 < l.length) : 0 < lead l := by
  cases l with
  | nil => simp at h
  | cons x l => simp [lead]; omega
theorem lead_le (l : List Int) : lead l ≤ l.length := by
  cases l with
  | nil => simp [lead]
  | cons x l =>
    have : (l.takeWhile (· == x)).length ≤ l.length := by
      have h := List.takeWhile_append_dropWhile (p := (· == x)) (l := l)
      have h2 := congrArg List.length h
      rw [List.length_append] at h2
      omega
    simp [lead]; omega
/-- The first k are the same, the next one is another one, or none: so many follow. -/
theorem lead_of {x : Int} : ∀ {l : List Int} {k : Nat}, (∀ j (h : j < l.length), j < k → l[j] = x) → k ≤ l.length → (∀ h : k < l.length, l[k] ≠ x) → (l.takeWhile (· == x)).length = k
  | [], k, _, h2, _ => by simp at h2; simp [h2]
  | y :: l, 0, _, _, h3 => by
    have := h3 (by simp)
    simp at this
    simp [this]
  | y :: l, k + 1, h1, h2, h3 => by
    have hy : y = x := h1 0 (by simp) (by omega)
    have ih := lead_of (x := x) (l := l) (k := k) (fun j h hj => h1 (j + 1) (by simpa using h) (by omega)) (by simpa using h2) (fun h => h3 (by simpa using h))
    simp [hy, ih]
/-- Open numbers as a part of the second kind. -/
def flush (w : Nat) (p : List Int) : List UInt8 := if p.length = 0 then [] else uv (2 * ((p.length + 7) / 8) + 1) ++ lit (num w (nats p)) ((p.length + 7) / 8 * w)
/-- What is written of open numbers and the rest. -/
def wr (w : Nat) : Nat → List Int → List Int → List UInt8
  | 0, p, _ => flush w p
  | f + 1, p, r => if r.length = 0 then flush w p
    else if lead r < 8 then wr w f (p ++ r.take 8) (r.drop 8)
    else flush w p ++ (uv (2 * lead r) ++ lit (r.headD 0).toNat ((w + 7) / 8)) ++ wr w f [] (r.drop (lead r))
theorem wr_fuel (w : Nat) : ∀ (f g : Nat) (p r : List Int), r.length ≤ f → r.length ≤ g → wr w f p r = wr w g p r := by
  intro f
  induction f with
  | zero =>
    intro g p r hf hg
    have h0 : r.length = 0 := by omega
    cases g with
    | zero => rfl
    | succ g => simp only [wr]; rw [if_pos h0]
  | succ f ih =>
    intro g p r hf hg
    cases g with
    | zero =>
      have h0 : r.length = 0 := by omega
      simp only [wr]; rw [if_pos h0]
    | succ g =>
      simp only [wr]
      split
      · rfl
      · rename_i h0
        have hp := lead_pos (l := r) (by omega)
        split
        · rw [ih g _ _ (by rw [List.length_drop]; omega) (by rw [List.length_drop]; omega)]
        · rw [ih g _ _ (by rw [List.length_drop]; omega) (by rw [List.length_drop]; omega)]
def wrs (w : Nat) (p r : List Int) : List UInt8 := wr w r.length p r
theorem wrs_nil (w : Nat) (p : List Int) : wrs w p [] = flush w p := rfl
theorem wrs_short (w : Nat) (p r : List Int) (h0 : 0 < r.length) (h : lead r < 8) : wrs w p r = wrs w (p ++ r.take 8) (r.drop 8) := by
  unfold wrs
  obtain ⟨m, hm⟩ : ∃ m, r.length = m + 1 := ⟨r.length - 1, by omega⟩
  rw [hm]
  simp only [wr]
  rw [if_neg (by omega), if_pos h]
  exact wr_fuel w _ _ _ _ (by rw [List.length_drop]; omega) (Nat.le_refl _)
theorem wrs_long (w : Nat) (p r : List Int) (h : ¬ lead r < 8) : wrs w p r = flush w p ++ (uv (2 * lead r) ++ lit (r.headD 0).toNat ((w + 7) / 8)) ++ wrs w [] (r.drop (lead r)) := by
  have hl := lead_le r
  unfold wrs
  obtain ⟨m, hm⟩ : ∃ m, r.length = m + 1 := ⟨r.length - 1, by omega⟩
  rw [hm]
  simp only [wr]
  rw [if_neg (by omega), if_neg h]
  rw [wr_fuel w m (r.drop (lead r)).length _ _ (by rw [List.length_drop]; omega) (Nat.le_refl _)]
end Um
end Go.Proofs.YtjchkhdmjbojjaaDoor
