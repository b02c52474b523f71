/-
  Parts of runs, and runs, out of bytes: the mathematics, without the program.
  Numbers as runs: the bytes that are written: the mathematics, without the program.
-/
import Derived.Test.YtbklaikniocihaaDoorDMA
import Derived.Test.YtbklaikniocihaaDoorDPackF
namespace Go.Proofs.YtbklaikniocihaaDoor
namespace Um
/-- Behind the head of a part of the first kind: c times one number. -/
def same (l : List UInt8) (w c left : Nat) : Option (List Nat × Nat) :=
  if (0 < c ∧ c ≤ left) ∧ ((w + 7) / 8 ≤ l.length ∧ lev (l.take ((w + 7) / 8)) < 2 ^ w) then some (List.replicate c (lev (l.take ((w + 7) / 8))), (w + 7) / 8) else none
/-- Behind the head of a part of the second kind: c times 8 numbers. -/
def grps (l : List UInt8) (w c left : Nat) : Option (List Nat × Nat) :=
  if (0 < c ∧ c ≤ (left + 7) / 8) ∧ (c * w ≤ l.length ∧ ∀ x ∈ (unp l w (8 * c)).drop left, x = 0) then some ((unp l w (8 * c)).take left, c * w) else none
/-- A part. -/
def part (l : List UInt8) (w left : Nat) : Option (List Nat × Nat) :=
  if (rdv l 0 0).2 = 0 then none
  else (if (rdv l 0 0).1 % 2 = 0 then same (l.drop (rdv l 0 0).2) w ((rdv l 0 0).1 / 2) left else grps (l.drop (rdv l 0 0).2) w ((rdv l 0 0).1 / 2) left).map fun p => (p.1, (rdv l 0 0).2 + p.2)
theorem same_len {l : List UInt8} {w c left : Nat} {p : List Nat × Nat} (h : same l w c left = some p) : (0 < p.1.length ∧ p.1.length ≤ left) ∧ p.2 ≤ l.length := by
  unfold same at h
  split at h
  · rename_i hc
    obtain rfl := Option.some.inj h
    simp
    omega
  · cases h
theorem grps_len {l : List UInt8} {w c left : Nat} {p : List Nat × Nat} (hl : 0 < left) (h : grps l w c left = some p) : (0 < p.1.length ∧ p.1.length ≤ left) ∧ p.2 ≤ l.length := by
  unfold grps at h
  split at h
  · rename_i hc
    obtain rfl := Option.some.inj h
    simp [unp_len]
    omega
  · cases h
theorem part_len {l : List UInt8} {w left : Nat} {p : List Nat × Nat} (hl : 0 < left) (h : part l w left = some p) : (0 < p.1.length ∧ p.1.length ≤ left) ∧ p.2 ≤ l.length := by
  have hr := (rdv_room l 0 0 (by simp)).2.2
  unfold part at h
  split at h
  · cases h
  · obtain ⟨q, hq, rfl⟩ := Option.map_eq_some_iff.1 h
    have : (0 < q.1.length ∧ q.1.length ≤ left) ∧ q.2 ≤ (l.drop (rdv l 0 0).2).length := by
      split at hq
      · exact same_len hq
      · exact grps_len hl hq
    rw [List.length_drop] at this
    simp only
    omega
/-- Runs: so many numbers, by parts. -/
def rds : Nat → List UInt8 → Nat → Nat → Option (List Nat × Nat)
  | 0, _, _, _ => some ([], 0)
  | f + 1, l, w, left => if left = 0 then some ([], 0) else (part l w left).bind fun p => (rds f (l.drop p.2) w (left - p.1.length)).map fun q => (p.1 ++ q.1, p.2 + q.2)
theorem rds_fuel (w : Nat) : ∀ (f g : Nat) (l : List UInt8) (left : Nat), left ≤ f → left ≤ g → rds f l w left = rds g l w left := by
  intro f
  induction f with
  | zero =>
    intro g l left hf hg
    obtain rfl : left = 0 := by omega
    cases g <;> simp [rds]
  | succ f ih =>
    intro g l left hf hg
    cases g with
    | zero =>
      obtain rfl : left = 0 := by omega
      simp [rds]
    | succ g =>
      unfold rds
      split
      · rfl
      · rename_i h0
        cases hp : part l w left with
        | none => rfl
        | some p =>
          have hl := part_len (by omega) hp
          simp only [Option.bind_some]
          rw [ih g (l.drop p.2) (left - p.1.length) (by omega) (by omega)]
/-- .. with as much fuel as there are numbers. -/
def runs (l : List UInt8) (w n : Nat) : Option (List Nat × Nat) := rds n l w n
theorem runs_zero (l : List UInt8) (w : Nat) : runs l w 0 = some ([], 0) := rfl
theorem runs_step (l : List UInt8) (w n : Nat) (hn : 0 < n) : runs l w n = (part l w n).bind fun p => (runs (l.drop p.2) w (n - p.1.length)).map fun q => (p.1 ++ q.1, p.2 + q.2) := by
  obtain ⟨m, rfl⟩ : ∃ m, n = m + 1 := ⟨n - 1, by omega⟩
  unfold runs
  rw [rds, if_neg (by omega)]
  cases hp : part l w (m + 1) with
  | none => rfl
  | some p =>
    have hl := part_len (by omega) hp
    simp only [Option.bind_some]
    rw [rds_fuel w m (m + 1 - p.1.length) _ _ (by omega) (Nat.le_refl _)]
/-- What is read so far, and what is left. -/
def Sofar (l : List UInt8) (w n : Nat) (acc : List Nat) (at_ : Nat) : Prop :=
  runs l w n = (runs (l.drop at_) w (n - acc.length)).map fun q => (acc ++ q.1, at_ + q.2)
theorem sofar_zero (l : List UInt8) (w n : Nat) : Sofar l w n [] 0 := by
  unfold Sofar
  cases h : runs l w n <;> simp [h]
theorem sofar_step {l : List UInt8} {w n : Nat} {acc : List Nat} {at_ : Nat} {p : List Nat × Nat} (h : Sofar l w n acc at_) (hn : acc.length < n) (hp : part (l.drop at_) w (n - acc.length) = some p) : Sofar l w n (acc ++ p.1) (at_ + p.2) := by
  unfold Sofar at h ⊢
  rw [h, runs_step _ _ _ (by omega), hp]
  simp only [Option.bind_some, List.drop_drop, List.length_append, Nat.sub_sub, Option.map_map]
  congr 1
  funext q
  simp [List.append_assoc, Nat.add_assoc]
theorem sofar_none {l : List UInt8} {w n : Nat} {acc : List Nat} {at_ : Nat} (h : Sofar l w n acc at_) (hn : acc.length < n) (hp : part (l.drop at_) w (n - acc.length) = none) : runs l w n = none := by
  unfold Sofar at h
  rw [h, runs_step _ _ _ (by omega), hp]
  rfl
theorem sofar_end {l : List UInt8} {w n : Nat} {acc : List Nat} {at_ : Nat} (h : Sofar l w n acc at_) (hn : acc.length = n) : runs l w n = some (acc, at_) := by
  unfold Sofar at h
  rw [h, hn, Nat.sub_self, runs_zero]
  simp
theorem same_lt {l : List UInt8} {w c left : Nat} {p : List Nat × Nat} (h : same l w c left = some p) : ∀ x ∈ p.1, x < 2 ^ w := by
  unfold same at h
  split at h
  · rename_i hc
    obtain rfl := Option.some.inj h
    intro x hx
    rw [(List.mem_replicate.1 hx).2]
    exact hc.2.2
  · cases h
theorem grps_lt {l : List UInt8} {w c left : Nat} {p : List Nat × Nat} (h : grps l w c left = some p) : ∀ x ∈ p.1, x < 2 ^ w := by
  unfold grps at h
  split at h
  · obtain rfl := Option.some.inj h
    intro x hx
    exact unp_lt _ _ _ x (List.mem_of_mem_take hx)
  · cases h
theorem rds_len (w : Nat) : ∀ (f : Nat) (l : List UInt8) (n : Nat) (p : List Nat × Nat), rds f l w n = some p → p.1.length ≤ n := by
  intro f
  induction f with
  | zero => intro l n p h; obtain rfl := Option.some.inj h; simp
  | succ f ih =>
    intro l n p h
    unfold rds at h
    split at h
    · obtain rfl := Option.some.inj h; simp
    · rename_i h0
      obtain ⟨q, hq, h⟩ := Option.bind_eq_some_iff.1 h
      obtain ⟨r, hr, rfl⟩ := Option.map_eq_some_iff.1 h
      have h1 := part_len (by omega) hq
      have h2 := ih _ _ _ hr
      simp
      omega
theorem runs_len {l : List UInt8} {w n : Nat} {p : List Nat} {u : Nat} (h : runs l w n = some (p, u)) : p.length ≤ n := rds_len w n l n (p, u) h
end Um
end Go.Proofs.YtbklaikniocihaaDoor

namespace Go.Proofs.YtbklaikniocihaaDoor
namespace Um
/-- How many of the first number follow. -/
def lead : List Int → Nat
  | [] => 0
  | x :: l => 1 + (l.takeWhile (· == x)).length
theorem lead_pos {l : List Int} (h : 0 < l.length) : 0 < lead l := by
  cases l with
  | nil => simp at h
  | cons x l => simp [lead]; omega
theorem lead_le (l : List Int) : lead l ≤ l.length := by
  cases l with
  | nil => simp [lead]
  | cons x l =>
    have : (l.takeWhile (· == x)).length ≤ l.length := by
      have h := List.takeWhile_append_dropWhile (p := (· == x)) (l := l)
      have h2 := congrArg List.length h
      rw [List.length_append] at h2
      omega
    simp [lead]; omega
/-- The first k are the same, the next one is another one, or none: so many follow. -/
theorem lead_of {x : Int} : ∀ {l : List Int} {k : Nat}, (∀ j (h : j < l.length), j < k → l[j] = x) → k ≤ l.length → (∀ h : k < l.length, l[k] ≠ x) → (l.takeWhile (· == x)).length = k
  | [], k, _, h2, _ => by simp at h2; simp [h2]
  | y :: l, 0, _, _, h3 => by
    have := h3 (by simp)
    simp at this
    simp [this]
  | y :: l, k + 1, h1, h2, h3 => by
    have hy : y = x := h1 0 (by simp) (by omega)
    have ih := lead_of (x := x) (l := l) (k := k) (fun j h hj => h1 (j + 1) (by simpa using h) (by omega)) (by simpa using h2) (fun h => h3 (by simpa using h))
    simp [hy, ih]
/-- Open numbers as a part of the second kind. -/
def flush (w : Nat) (p : List Int) : List UInt8 := if p.length = 0 then [] else uv (2 * ((p.length + 7) / 8) + 1) ++ lit (num w (nats p)) ((p.length + 7) / 8 * w)
/-- What is written of open numbers and the rest. -/
def wr (w : Nat) : Nat → List Int → List Int → List UInt8
  | 0, p, _ => flush w p
  | f + 1, p, r => if r.length = 0 then flush w p
    else if lead r < 8 then wr w f (p ++ r.take 8) (r.drop 8)
    else flush w p ++ (uv (2 * lead r) ++ lit (r.headD 0).toNat ((w + 7) / 8)) ++ wr w f [] (r.drop (lead r))
theorem wr_fuel (w : Nat) : ∀ (f g : Nat) (p r : List Int), r.length ≤ f → r.length ≤ g → wr w f p r = wr w g p r := by
  intro f
  induction f with
  | zero =>
    intro g p r hf hg
    have h0 : r.length = 0 := by omega
    cases g with
    | zero => rfl
    | succ g => simp only [wr]; rw [if_pos h0]
  | succ f ih =>
    intro g p r hf hg
    cases g with
    | zero =>
      have h0 : r.length = 0 := by omega
      simp only [wr]; rw [if_pos h0]
    | succ g =>
      simp only [wr]
      split
      · rfl
      · rename_i h0
        have hp := lead_pos (l := r) (by omega)
        split
        · rw [ih g _ _ (by rw [List.length_drop]; omega) (by rw [List.length_drop]; omega)]
        · rw [ih g _ _ (by rw [List.length_drop]; omega) (by rw [List.length_drop]; omega)]
def wrs (w : Nat) (p r : List Int) : List UInt8 := wr w r.length p r
theorem wrs_nil (w : Nat) (p : List Int) : wrs w p [] = flush w p := rfl
theorem wrs_short (w : Nat) (p r : List Int) (h0 : 0 < r.length) (h : lead r < 8) : wrs w p r = wrs w (p ++ r.take 8) (r.drop 8) := by
  unfold wrs
  obtain ⟨m, hm⟩ : ∃ m, r.length = m + 1 := ⟨r.length - 1, by omega⟩
  rw [hm]
  simp only [wr]
  rw [if_neg (by omega), if_pos h]
  exact wr_fuel w _ _ _ _ (by rw [List.length_drop]; omega) (Nat.le_refl _)
theorem wrs_long (w : Nat) (p r : List Int) (h : ¬ lead r < 8) : wrs w p r = flush w p ++ (uv (2 * lead r) ++ lit (r.headD 0).toNat ((w + 7) / 8)) ++ wrs w [] (r.drop (lead r)) := by
  have hl := lead_le r
  unfold wrs
  obtain ⟨m, hm⟩ : ∃ m, r.length = m + 1 := ⟨r.length - 1, by omega⟩
  rw [hm]
  simp only [wr]
  rw [if_neg (by omega), if_neg h]
  rw [wr_fuel w m (r.drop (lead r)).length _ _ (by rw [List.length_drop]; omega) (Nat.le_refl _)]
end Um
end Go.Proofs.YtbklaikniocihaaDoor
