/-
  What texts bytes are: the mathematics, without the program.
  What texts bytes are, each read behind the one ahead: the mathematics, without the program.
-/
import Derived.Test.YtjchkhdmjbojjaaDoorLBWordsMath
import Derived.Test.YtjchkhdmjbojjaaDoorLBMath
namespace Go.Proofs.YtjchkhdmjbojjaaDoor
open Go.RowKit
namespace Um
/-- What is read as a number are that number's bytes. -/
theorem rdv_back : ∀ (l : List UInt8) (i n m k : Nat), i < 10 ∨ True → rdv l i n = (m, k) → 0 < k → ∃ x, m = n + x * 2 ^ (7 * i) ∧ (0 < i → 0 < x) ∧ i < k ∧ l.take (k - i) = uv x
  | [], i, n, m, k, _, h, hk => by
    have e : rdv [] i n = (0, 0) := by unfold rdv; rfl
    rw [e] at h
    injection h with _ h
    omega
  | b :: r, i, n, m, k, _, h, hk => by
    by_cases hi : i < 10
    · by_cases hb : b.toNat < 128
      · by_cases hw : (b.toNat = 0 ∧ 0 < i) ∨ (i = 9 ∧ 1 < b.toNat)
        · rw [rdv_bad hb hw] at h
          injection h with _ h
          omega
        · rw [rdv_end hi hb hw] at h
          injection h with h1 h2
          subst h1 h2
          refine ⟨b.toNat, rfl, fun h0 => by omega, by omega, ?_⟩
          rw [show i + 1 - i = 1 by omega, uv_small hb, bt_toNat]; rfl
      · rw [rdv_more hi hb] at h
        obtain ⟨x, h1, h2, h3, h4⟩ := rdv_back r (i + 1) _ m k (Or.inr trivial) h hk
        have hx := h2 (by omega)
        have h256 := b.toNat_lt
        refine ⟨b.toNat % 128 + 128 * x, ?_, fun _ => by omega, by omega, ?_⟩
        · rw [h1, show 7 * (i + 1) = 7 * i + 7 by omega, Nat.pow_add, Nat.add_mul, Nat.add_assoc]
          congr 2
          rw [Nat.mul_comm 128 x, Nat.mul_assoc, Nat.mul_comm (2 ^ (7 * i))]
        · have hb' : bt (((b.toNat % 128 + 128 * x : Nat) : Int) % 128 + 128) = b := by
            rw [show ((b.toNat % 128 + 128 * x : Nat) : Int) % 128 + 128 = (b.toNat : Int) by omega]; exact bt_toNat b
          rw [uv_big (by omega), show k - i = (k - (i + 1)) + 1 by omega, List.take_succ_cons, h4, hb', show (b.toNat % 128 + 128 * x) / 128 = x by omega]
    · rw [rdv_ten (b :: r) n (by omega)] at h
      injection h with _ h
      omega
theorem rdv_bytes {l : List UInt8} {m k : Nat} (h : rdv l 0 0 = (m, k)) (hk : 0 < k) : l.take k = uv m := by
  obtain ⟨x, h1, _, _, h4⟩ := rdv_back l 0 0 m k (Or.inr trivial) h hk
  have : m = x := by rw [h1]; simp
  rw [this]; exact h4
/-- No bytes: no number. -/
theorem rdv_zero {l : List UInt8} {m : Nat} (h : rdv l 0 0 = (m, 0)) : m = 0 := by
  have key : ∀ (l : List UInt8) (i n m : Nat), rdv l i n = (m, 0) → m = 0 := by
    intro l
    induction l with
    | nil => intro i n m h; rw [show rdv [] i n = (0, 0) from rfl] at h; injection h with h _; exact h.symm
    | cons b r ih =>
      intro i n m h
      by_cases hi : i < 10
      · by_cases hb : b.toNat < 128
        · by_cases hw : (b.toNat = 0 ∧ 0 < i) ∨ (i = 9 ∧ 1 < b.toNat)
          · rw [rdv_bad hb hw] at h; injection h with h _; exact h.symm
          · rw [rdv_end hi hb hw] at h; injection h with _ h; omega
        · rw [rdv_more hi hb] at h; exact ih _ _ _ h
      · rw [rdv_ten (b :: r) n (by omega)] at h; injection h with h _; exact h.symm
  exact key l 0 0 m h
theorem txt_split {l : List UInt8} {m k : Nat} (h : rdv l 0 0 = (m, k)) (hk : 0 < k) (hm : k + m ≤ l.length) : txt ((l.drop k).take m) ++ l.drop (k + m) = l := by
  have h1 := rdv_bytes h hk
  have hl : ((l.drop k).take m).length = m := by rw [List.length_take, List.length_drop]; omega
  unfold txt
  rw [hl, ← h1, List.append_assoc, ← List.drop_drop, List.take_append_drop, List.take_append_drop]
/-- The texts that bytes are. -/
def rdt : Nat → List UInt8 → Option (List (List UInt8))
  | 0, l => if l = [] then some [] else none
  | n + 1, l =>
    let p := rdv l 0 0
    if 0 < p.2 ∧ p.1 ≤ 100 ∧ p.2 + p.1 ≤ l.length then (rdt n (l.drop (p.2 + p.1))).map fun r => (l.drop p.2).take p.1 :: r else none
theorem rdt_some : ∀ (n : Nat) (l : List UInt8) (ss : List (List UInt8)), rdt n l = some ss → ss.length = n ∧ (∀ s ∈ ss, s.length ≤ 100) ∧ txts ss = l
  | 0, l, ss, h => by
    unfold rdt at h
    split at h
    · rename_i e
      obtain rfl := Option.some.inj h
      exact ⟨rfl, fun s hs => by simp at hs, by rw [e]; rfl⟩
    · cases h
  | n + 1, l, ss, h => by
    unfold rdt at h
    generalize hp : rdv l 0 0 = p at h
    obtain ⟨m, k⟩ := p
    simp only at h
    split at h
    · rename_i hc
      obtain ⟨hk, hm, hf⟩ := hc
      obtain ⟨r, hr, rfl⟩ := Option.map_eq_some_iff.1 h
      obtain ⟨h1, h2, h3⟩ := rdt_some n _ r hr
      have hl : ((l.drop k).take m).length = m := by rw [List.length_take, List.length_drop]; omega
      refine ⟨by simp [h1], fun s hs => ?_, ?_⟩
      · rcases List.mem_cons.1 hs with rfl | hs
        · omega
        · exact h2 s hs
      · have e : txts (((l.drop k).take m) :: r) = txt ((l.drop k).take m) ++ txts r := by simp [txts]
        rw [e, h3]
        exact txt_split hp hk hf
    · cases h
theorem rdt_back : ∀ (ss : List (List UInt8)), (∀ s ∈ ss, s.length ≤ 100) → rdt ss.length (txts ss) = some ss
  | [], _ => by simp [rdt, txts]
  | s :: ss, h => by
    have hs := h s (by simp)
    have e : txts (s :: ss) = uv s.length ++ (s ++ txts ss) := by simp [txts, txt]
    have hr := rdv_whole s.length (s ++ txts ss) (by omega)
    have hp := uv_pos s.length
    rw [← e] at hr
    have ih := rdt_back ss fun x hx => h x (by simp [hx])
    show rdt (ss.length + 1) (txts (s :: ss)) = _
    unfold rdt
    simp only [hr]
    have hlen : (txts (s :: ss)).length = (uv s.length).length + (s.length + (txts ss).length) := by rw [e]; simp
    rw [if_pos ⟨hp, hs, by omega⟩]
    have d1 : (txts (s :: ss)).drop (uv s.length).length = s ++ txts ss := by rw [e, List.drop_left]
    rw [← List.drop_drop, d1, List.drop_left, List.take_left, ih]
    rfl
end Um
/-- The texts that bytes are, as values. -/
def tvs (ss : List (List UInt8)) : List Vl := ss.map fun s => ⟨4, 0, ⟨s.toArray⟩⟩
theorem isPl_texts {l : List UInt8} {n : Nat} {ss : List (List UInt8)} (h : Um.rdt n l = some ss) : IsPl 4 l n (tvs ss) := by
  obtain ⟨h1, h2, h3⟩ := Um.rdt_some n l ss h
  have e : vss (tvs ss) = ss := by
    unfold vss tvs
    rw [List.map_map]
    exact (List.map_congr_left fun s _ => rfl).trans (List.map_id' ss)
  refine ⟨by simp [tvs, h1], ⟨by omega, fun v hm => ?_⟩, ?_⟩
  · obtain ⟨s, hs, rfl⟩ := List.mem_map.1 hm
    have h4 := h2 s hs
    have hz : (⟨s.toArray⟩ : ByteArray).size = s.length := by simp [ByteArray.size]
    refine ⟨?_, ⟨by simp, by simp, ?_⟩⟩
    · show OkV 4 4 0 _
      rw [hz]
      unfold OkV
      omega
    · show (⟨s.toArray⟩ : ByteArray).size ≤ maxLen
      rw [hz]; unfold maxLen; omega
  · show Um.txts (vss (tvs ss)) = l
    rw [e, h3]
theorem notPl_texts {l : List UInt8} {n : Nat} (h : Um.rdt n l = none) : ¬ ∃ vs, IsPl 4 l n vs := by
  rintro ⟨vs, h1, h2, h3⟩
  have h4 : Um.txts (vss vs) = l := h3
  have h5 := Um.rdt_back (vss vs) fun s hm => by
    obtain ⟨v, hv, rfl⟩ := List.mem_map.1 hm
    have ho := (h2.2 v hv).1
    unfold Vl.Ok OkV at ho
    rw [Array.length_toList]
    show v.s.size ≤ 100
    omega
  rw [h4, vss_len, h1, h] at h5
  cases h5
end Go.Proofs.YtjchkhdmjbojjaaDoor

namespace Go.Proofs.YtjchkhdmjbojjaaDoor
namespace Um
/-- The text that is read behind another, and how many bytes it took. -/
def rdb (a l : List UInt8) : Option (List UInt8 × Nat) :=
  let p := rdv l 0 0
  let q := rdv (l.drop p.2) 0 0
  let t := a.take p.1 ++ ((l.drop (p.2 + q.2)).take q.1)
  if 0 < p.2 ∧ p.1 ≤ a.length ∧ 0 < q.2 ∧ p.2 + q.2 + q.1 ≤ l.length ∧ t.length ≤ 100 ∧ lcp a t = p.1 then some (t, p.2 + q.2 + q.1) else none
theorem rdb_some {a l t : List UInt8} {k : Nat} (h : rdb a l = some (t, k)) : t.length ≤ 100 ∧ k ≤ l.length ∧ one a t ++ l.drop k = l := by
  unfold rdb at h
  generalize hp : rdv l 0 0 = p at h
  obtain ⟨m, i⟩ := p
  simp only at h
  generalize hq : rdv (l.drop i) 0 0 = q at h
  obtain ⟨m2, j⟩ := q
  simp only at h
  split at h
  · rename_i hc
    obtain ⟨h1, h2, h3, h4, h5, h6⟩ := hc
    have hh := Option.some.inj h
    injection hh with e1 e2
    subst e2
    have hdr : t.drop m = (l.drop (i + j)).take m2 := by
      rw [← e1, List.drop_left' (by rw [List.length_take]; omega)]
    rw [e1] at h5 h6
    refine ⟨h5, h4, ?_⟩
    have b1 := rdv_bytes hp h1
    have b2 := txt_split hq h3 (by rw [List.length_drop]; omega)
    unfold one
    rw [h6, hdr, ← b1, List.append_assoc]
    rw [List.drop_drop, List.drop_drop, ← Nat.add_assoc] at b2
    rw [b2, List.take_append_drop]
  · cases h
theorem rdb_back (a t r : List UInt8) (ha : a.length ≤ 100) (ht : t.length ≤ 100) : rdb a (one a t ++ r) = some (t, (one a t).length) := by
  have hl := lcp_le a t
  have e : one a t ++ r = uv (lcp a t) ++ (uv (t.drop (lcp a t)).length ++ (t.drop (lcp a t) ++ r)) := by simp [one, txt]
  have r1 := rdv_whole (lcp a t) (uv (t.drop (lcp a t)).length ++ (t.drop (lcp a t) ++ r)) (by omega)
  have r2 := rdv_whole (t.drop (lcp a t)).length (t.drop (lcp a t) ++ r) (by rw [List.length_drop]; omega)
  have p1 := uv_pos (lcp a t)
  have p2 := uv_pos (t.drop (lcp a t)).length
  have ho : (one a t).length = (uv (lcp a t)).length + (uv (t.drop (lcp a t)).length).length + (t.drop (lcp a t)).length := by simp [one, txt]; omega
  unfold rdb
  rw [ho, e, r1]
  simp only [List.drop_left]
  rw [r2]
  simp only [← List.drop_drop, List.drop_left, List.take_left]
  have et : a.take (lcp a t) ++ t.drop (lcp a t) = t := by rw [lcp_take, List.take_append_drop]
  rw [et, if_pos ⟨p1, hl.1, p2, by simp only [List.length_append]; omega, ht, rfl⟩]
/-- The texts that bytes are, each behind the one ahead. -/
def rdp : Nat → List UInt8 → List UInt8 → Option (List (List UInt8))
  | 0, _, l => if l = [] then some [] else none
  | n + 1, a, l => (rdb a l).bind fun p => (rdp n p.1 (l.drop p.2)).map fun r => p.1 :: r
theorem rdp_some : ∀ (n : Nat) (a l : List UInt8) (ss : List (List UInt8)), rdp n a l = some ss → ss.length = n ∧ (∀ s ∈ ss, s.length ≤ 100) ∧ prefs a ss = l
  | 0, a, l, ss, h => by
    unfold rdp at h
    split at h
    · rename_i e
      obtain rfl := Option.some.inj h
      exact ⟨rfl, fun s hs => by simp at hs, by rw [e]; rfl⟩
    · cases h
  | n + 1, a, l, ss, h => by
    unfold rdp at h
    obtain ⟨⟨t, k⟩, h1, h2⟩ := Option.bind_eq_some_iff.1 h
    obtain ⟨r, h3, rfl⟩ := Option.map_eq_some_iff.1 h2
    obtain ⟨g1, _, g3⟩ := rdb_some h1
    obtain ⟨i1, i2, i3⟩ := rdp_some n _ _ r h3
    refine ⟨by simp [i1], fun s hs => ?_, ?_⟩
    · rcases List.mem_cons.1 hs with rfl | hs
      · exact g1
      · exact i2 s hs
    · unfold prefs
      rw [i3]; exact g3
theorem rdp_back : ∀ (ss : List (List UInt8)) (a : List UInt8), a.length ≤ 100 → (∀ s ∈ ss, s.length ≤ 100) → rdp ss.length a (prefs a ss) = some ss
  | [], a, _, _ => by simp [rdp, prefs]
  | s :: ss, a, ha, h => by
    have hs := h s (by simp)
    show rdp (ss.length + 1) a (one a s ++ prefs s ss) = _
    unfold rdp
    rw [rdb_back a s _ ha hs]
    show (rdp ss.length s ((one a s ++ prefs s ss).drop (one a s).length)).map _ = _
    rw [List.drop_left, rdp_back ss s hs fun x hx => h x (by simp [hx])]
    rfl
end Um
end Go.Proofs.YtjchkhdmjbojjaaDoor
