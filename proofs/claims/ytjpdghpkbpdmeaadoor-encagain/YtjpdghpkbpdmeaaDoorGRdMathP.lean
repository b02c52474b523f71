/-
  What texts bytes are, each read behind the one ahead: the mathematics, without the program.
-/
import Derived.Test.YtjpdghpkbpdmeaaDoorGRdMathT
import Derived.Test.YtjpdghpkbpdmeaaDoorGBMath
namespace Go.Proofs.YtjpdghpkbpdmeaaDoor
namespace Um
/-- The text that is read behind another, and how many bytes it took. -/
def rdb (a l : List UInt8) : Option (List UInt8 × Nat) :=
  let p := rdv l 0 0
  let q := rdv (l.drop p.2) 0 0
  let t := a.take p.1 ++ ((l.drop (p.2 + q.2)).take q.1)
  if 0 < p.2 ∧ p.1 ≤ a.length ∧ 0 < q.2 ∧ p.2 + q.2 + q.1 ≤ l.length ∧ t.length ≤ 100 ∧ lcp a t = p.1 then some (t, p.2 + q.2 + q.1) else none
theorem rdb_some {a l t : List UInt8} {k : Nat} (h : rdb a l = some (t, k)) : t.length ≤ 100 ∧ k ≤ l.length ∧ one a t ++ l.drop k = l := by
  unfold rdb at h
  generalize hp : rdv l 0 0 = p at h
  obtain ⟨m, i⟩ := p
  simp only at h
  generalize hq : rdv (l.drop i) 0 0 = q at h
  obtain ⟨m2, j⟩ := q
  simp only at h
  split at h
  · rename_i hc
    obtain ⟨h1, h2, h3, h4, h5, h6⟩ := hc
    have hh := Option.some.inj h
    injection hh with e1 e2
    subst e2
    have hdr : t.drop m = (l.drop (i + j)).take m2 := by
      rw [← e1, List.drop_left' (by rw [List.length_take]; omega)]
    rw [e1] at h5 h6
    refine ⟨h5, h4, ?_⟩
    have b1 := rdv_bytes hp h1
    have b2 := txt_split hq h3 (by rw [List.length_drop]; omega)
    unfold one
    rw [h6, hdr, ← b1, List.append_assoc]
    rw [List.drop_drop, List.drop_drop, ← Nat.add_assoc] at b2
    rw [b2, List.take_append_drop]
  · cases h
theorem rdb_back (a t r : List UInt8) (ha : a.length ≤ 100) (ht : t.length ≤ 100) : rdb a (one a t ++ r) = some (t, (one a t).length) := by
  have hl := lcp_le a t
  have e : one a t ++ r = uv (lcp a t) ++ (uv (t.drop (lcp a t)).length ++ (t.drop (lcp a t) ++ r)) := by simp [one, txt]
  have r1 := rdv_whole (lcp a t) (uv (t.drop (lcp a t)).length ++ (t.drop (lcp a t) ++ r)) (by omega)
  have r2 := rdv_whole (t.drop (lcp a t)).length (t.drop (lcp a t) ++ r) (by rw [List.length_drop]; omega)
  have p1 := uv_pos (lcp a t)
  have p2 := uv_pos (t.drop (lcp a t)).length
  have ho : (one a t).length = (uv (lcp a t)).length + (uv (t.drop (lcp a t)).length).length + (t.drop (lcp a t)).length := by simp [one, txt]; omega
  unfold rdb
  rw [ho, e, r1]
  simp only [List.drop_left]
  rw [r2]
  simp only [← List.drop_drop, List.drop_left, List.take_left]
  have et : a.take (lcp a t) ++ t.drop (lcp a t) = t := by rw [lcp_take, List.take_append_drop]
  rw [et, if_pos ⟨p1, hl.1, p2, by simp only [List.length_append]; omega, ht, rfl⟩]
/-- The texts that bytes are, each behind the one ahead. -/
def rdp : Nat → List UInt8 → List UInt8 → Option (List (List UInt8))
  | 0, _, l => if l = [] then some [] else none
  | n + 1, a, l => (rdb a l).bind fun p => (rdp n p.1 (l.drop p.2)).map fun r => p.1 :: r
theorem rdp_some : ∀ (n : Nat) (a l : List UInt8) (ss : List (List UInt8)), rdp n a l = some ss → ss.length = n ∧ (∀ s ∈ ss, s.length ≤ 100) ∧ prefs a ss = l
  | 0, a, l, ss, h => by
    unfold rdp at h
    split at h
    · rename_i e
      obtain rfl := Option.some.inj h
      exact ⟨rfl, fun s hs => by simp at hs, by rw [e]; rfl⟩
    · cases h
  | n + 1, a, l, ss, h => by
    unfold rdp at h
    obtain ⟨⟨t, k⟩, h1, h2⟩ := Option.bind_eq_some_iff.1 h
    obtain ⟨r, h3, rfl⟩ := Option.map_eq_some_iff.1 h2
    obtain ⟨g1, _, g3⟩ := rdb_some h1
    obtain ⟨i1, i2, i3⟩ := rdp_some n _ _ r h3
    refine ⟨by simp [i1], fun s hs => ?_, ?_⟩
    · rcases List.mem_cons.1 hs with rfl | hs
      · exact g1
      · exact i2 s hs
    · unfold prefs
      rw [i3]; exact g3
theorem rdp_back : ∀ (ss : List (List UInt8)) (a : List UInt8), a.length ≤ 100 → (∀ s ∈ ss, s.length ≤ 100) → rdp ss.length a (prefs a ss) = some ss
  | [], a, _, _ => by simp [rdp, prefs]
  | s :: ss, a, ha, h => by
    have hs := h s (by simp)
    show rdp (ss.length + 1) a (one a s ++ prefs s ss) = _
    unfold rdp
    rw [rdb_back a s _ ha hs]
    show (rdp ss.length s ((one a s ++ prefs s ss).drop (one a s).length)).map _ = _
    rw [List.drop_left, rdp_back ss s hs fun x hx => h x (by simp [hx])]
    rfl
end Um
end Go.Proofs.YtjpdghpkbpdmeaaDoor
