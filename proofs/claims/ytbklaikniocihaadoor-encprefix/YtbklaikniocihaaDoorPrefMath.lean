/-
  Texts by what they have in common with the one ahead: the mathematics, without the program.
-/
import Derived.Test.YtbklaikniocihaaDoorEncMath
namespace Go.Proofs.YtbklaikniocihaaDoor
namespace Um
/-- How many bytes both begin with. -/
def lcp : List UInt8 → List UInt8 → Nat
  | a :: x, b :: y => if a = b then lcp x y + 1 else 0
  | _, _ => 0
theorem lcp_le : ∀ (x y : List UInt8), lcp x y ≤ x.length ∧ lcp x y ≤ y.length
  | [], _ => by simp [lcp]
  | _ :: _, [] => by simp [lcp]
  | a :: x, b :: y => by
    have := lcp_le x y
    unfold lcp
    split <;> simp <;> omega
/-- So far both are the same, and here they part: so many are in common. -/
theorem lcp_eq : ∀ (x y : List UInt8) (k : Nat), k ≤ x.length → k ≤ y.length → x.take k = y.take k → (k = x.length ∨ k = y.length ∨ x[k]? ≠ y[k]?) → lcp x y = k
  | [], y, k, h1, _, _, _ => by have : k = 0 := by simpa using h1
                                subst this; unfold lcp; rfl
  | a :: x, [], k, _, h2, _, _ => by have : k = 0 := by simpa using h2
                                     subst this; unfold lcp; rfl
  | a :: x, b :: y, 0, _, _, _, h => by
    have hab : a ≠ b := by
      rcases h with h | h | h
      · simp at h
      · simp at h
      · intro e; subst e; exact h (by simp)
    unfold lcp
    rw [if_neg hab]
  | a :: x, b :: y, k + 1, h1, h2, ht, h => by
    simp only [List.take_succ_cons, List.cons.injEq] at ht
    have ih := lcp_eq x y k (by simpa using h1) (by simpa using h2) ht.2 (by simpa using h)
    unfold lcp
    rw [if_pos ht.1, ih]
theorem lcp_take : ∀ (x y : List UInt8), x.take (lcp x y) = y.take (lcp x y)
  | [], _ => by simp [lcp]
  | _ :: _, [] => by simp [lcp]
  | a :: x, b :: y => by
    unfold lcp
    split
    · rename_i h; subst h; simp [lcp_take x y]
    · simp
/-- One text behind another. -/
def one (ahead t : List UInt8) : List UInt8 := uv (lcp ahead t) ++ txt (t.drop (lcp ahead t))
/-- Texts, each by what it has in common with the one ahead. -/
def prefs : List UInt8 → List (List UInt8) → List UInt8
  | _, [] => []
  | a, t :: ts => one a t ++ prefs t ts
theorem prefs_snoc (l : List (List UInt8)) (t : List UInt8) : ∀ a, prefs a (l ++ [t]) = prefs a l ++ one (l.getLastD a) t := by
  induction l with
  | nil => intro a; simp [prefs]
  | cons x l ih => intro a; simp only [List.cons_append, prefs, ih, List.append_assoc, List.getLastD_cons]
/-- The text ahead of a place. -/
def ahd (ts : List (List UInt8)) (i : Nat) : List UInt8 := (ts.take i).getLastD []
theorem ahd_zero (ts : List (List UInt8)) : ahd ts 0 = [] := by simp [ahd]
theorem ahd_succ (ts : List (List UInt8)) (i : Nat) (h : i < ts.length) : ahd ts (i + 1) = ts[i] := by
  unfold ahd
  rw [List.take_succ_eq_append_getElem h, List.getLastD_concat]
theorem prefs_take (ts : List (List UInt8)) (i : Nat) (h : i < ts.length) : prefs [] (ts.take (i + 1)) = prefs [] (ts.take i) ++ one (ahd ts i) ts[i] := by
  rw [List.take_succ_eq_append_getElem h, prefs_snoc]; rfl
theorem one_len (a t : List UInt8) (ha : a.length ≤ 100) (ht : t.length ≤ 100) : (one a t).length ≤ 120 := by
  have h1 := lcp_le a t
  have h2 := uv_ten (n := lcp a t) (by omega)
  have h3 := txt_len (t.drop (lcp a t)) (by simp; omega)
  simp only [one, List.length_append] at *
  simp at h3
  omega
theorem prefs_len : ∀ (ts : List (List UInt8)) (a : List UInt8), a.length ≤ 100 → (∀ t ∈ ts, t.length ≤ 100) → (prefs a ts).length ≤ 120 * ts.length
  | [], a, _, _ => by simp [prefs]
  | t :: ts, a, ha, ht => by
    have h1 := one_len a t ha (ht t (by simp))
    have h2 := prefs_len ts t (ht t (by simp)) (fun x hx => ht x (by simp [hx]))
    simp only [prefs, List.length_append, List.length_cons] at *
    omega
end Um
end Go.Proofs.YtbklaikniocihaaDoor
