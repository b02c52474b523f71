/-
  Parts of runs, and runs, out of bytes: the mathematics, without the program.
-/
import Derived.Test.YtbklaikniocihaaDoorBitMath3
import Derived.Test.YtbklaikniocihaaDoorRdMath
namespace Go.Proofs.YtbklaikniocihaaDoor
namespace Um
/-- Behind the head of a part of the first kind: c times one number. -/
def same (l : List UInt8) (w c left : Nat) : Option (List Nat × Nat) :=
  if (0 < c ∧ c ≤ left) ∧ ((w + 7) / 8 ≤ l.length ∧ lev (l.take ((w + 7) / 8)) < 2 ^ w) then some (List.replicate c (lev (l.take ((w + 7) / 8))), (w + 7) / 8) else none
/-- Behind the head of a part of the second kind: c times 8 numbers. -/
def grps (l : List UInt8) (w c left : Nat) : Option (List Nat × Nat) :=
  if (0 < c ∧ c ≤ (left + 7) / 8) ∧ (c * w ≤ l.length ∧ ∀ x ∈ (unp l w (8 * c)).drop left, x = 0) then some ((unp l w (8 * c)).take left, c * w) else none
/-- A part. -/
def part (l : List UInt8) (w left : Nat) : Option (List Nat × Nat) :=
  if (rdv l 0 0).2 = 0 then none
  else (if (rdv l 0 0).1 % 2 = 0 then same (l.drop (rdv l 0 0).2) w ((rdv l 0 0).1 / 2) left else grps (l.drop (rdv l 0 0).2) w ((rdv l 0 0).1 / 2) left).map fun p => (p.1, (rdv l 0 0).2 + p.2)
theorem same_len {l : List UInt8} {w c left : Nat} {p : List Nat × Nat} (h : same l w c left = some p) : (0 < p.1.length ∧ p.1.length ≤ left) ∧ p.2 ≤ l.length := by
  unfold same at h
  split at h
  · rename_i hc
    obtain rfl := Option.some.inj h
    simp
    omega
  · cases h
theorem grps_len {l : List UInt8} {w c left : Nat} {p : List Nat × Nat} (hl : 0 < left) (h : grps l w c left = some p) : (0 < p.1.length ∧ p.1.length ≤ left) ∧ p.2 ≤ l.length := by
  unfold grps at h
  split at h
  · rename_i hc
    obtain rfl := Option.some.inj h
    simp [unp_len]
    omega
  · cases h
theorem part_len {l : List UInt8} {w left : Nat} {p : List Nat × Nat} (hl : 0 < left) (h : part l w left = some p) : (0 < p.1.length ∧ p.1.length ≤ left) ∧ p.2 ≤ l.length := by
  have hr := (rdv_room l 0 0 (by simp)).2.2
  unfold part at h
  split at h
  · cases h
  · obtain ⟨q, hq, rfl⟩ := Option.map_eq_some_iff.1 h
    have : (0 < q.1.length ∧ q.1.length ≤ left) ∧ q.2 ≤ (l.drop (rdv l 0 0).2).length := by
      split at hq
      · exact same_len hq
      · exact grps_len hl hq
    rw [List.length_drop] at this
    simp only
    omega
/-- Runs: so many numbers, by parts. -/
def rds : Nat → List UInt8 → Nat → Nat → Option (List Nat × Nat)
  | 0, _, _, _ => some ([], 0)
  | f + 1, l, w, left => if left = 0 then some ([], 0) else (part l w left).bind fun p => (rds f (l.drop p.2) w (left - p.1.length)).map fun q => (p.1 ++ q.1, p.2 + q.2)
theorem rds_fuel (w : Nat) : ∀ (f g : Nat) (l : List UInt8) (left : Nat), left ≤ f → left ≤ g → rds f l w left = rds g l w left := by
  intro f
  induction f with
  | zero =>
    intro g l left hf hg
    obtain rfl : left = 0 := by omega
    cases g <;> simp [rds]
  | succ f ih =>
    intro g l left hf hg
    cases g with
    | zero =>
      obtain rfl : left = 0 := by omega
      simp [rds]
    | succ g =>
      unfold rds
      split
      · rfl
      · rename_i h0
        cases hp : part l w left with
        | none => rfl
        | some p =>
          have hl := part_len (by omega) hp
          simp only [Option.bind_some]
          rw [ih g (l.drop p.2) (left - p.1.length) (by omega) (by omega)]
/-- .. with as much fuel as there are numbers. -/
def runs (l : List UInt8) (w n : Nat) : Option (List Nat × Nat) := rds n l w n
theorem runs_zero (l : List UInt8) (w : Nat) : runs l w 0 = some ([], 0) := rfl
theorem runs_step (l : List UInt8) (w n : Nat) (hn : 0 < n) : runs l w n = (part l w n).bind fun p => (runs (l.drop p.2) w (n - p.1.length)).map fun q => (p.1 ++ q.1, p.2 + q.2) := by
  obtain ⟨m, rfl⟩ : ∃ m, n = m + 1 := ⟨n - 1, by omega⟩
  unfold runs
  rw [rds, if_neg (by omega)]
  cases hp : part l w (m + 1) with
  | none => rfl
  | some p =>
    have hl := part_len (by omega) hp
    simp only [Option.bind_some]
    rw [rds_fuel w m (m + 1 - p.1.length) _ _ (by omega) (Nat.le_refl _)]
/-- What is read so far, and what is left. -/
def Sofar (l : List UInt8) (w n : Nat) (acc : List Nat) (at_ : Nat) : Prop :=
  runs l w n = (runs (l.drop at_) w (n - acc.length)).map fun q => (acc ++ q.1, at_ + q.2)
theorem sofar_zero (l : List UInt8) (w n : Nat) : Sofar l w n [] 0 := by
  unfold Sofar
  cases h : runs l w n <;> simp [h]
theorem sofar_step {l : List UInt8} {w n : Nat} {acc : List Nat} {at_ : Nat} {p : List Nat × Nat} (h : Sofar l w n acc at_) (hn : acc.length < n) (hp : part (l.drop at_) w (n - acc.length) = some p) : Sofar l w n (acc ++ p.1) (at_ + p.2) := by
  unfold Sofar at h ⊢
  rw [h, runs_step _ _ _ (by omega), hp]
  simp only [Option.bind_some, List.drop_drop, List.length_append, Nat.sub_sub, Option.map_map]
  congr 1
  funext q
  simp [List.append_assoc, Nat.add_assoc]
theorem sofar_none {l : List UInt8} {w n : Nat} {acc : List Nat} {at_ : Nat} (h : Sofar l w n acc at_) (hn : acc.length < n) (hp : part (l.drop at_) w (n - acc.length) = none) : runs l w n = none := by
  unfold Sofar at h
  rw [h, runs_step _ _ _ (by omega), hp]
  rfl
theorem sofar_end {l : List UInt8} {w n : Nat} {acc : List Nat} {at_ : Nat} (h : Sofar l w n acc at_) (hn : acc.length = n) : runs l w n = some (acc, at_) := by
  unfold Sofar at h
  rw [h, hn, Nat.sub_self, runs_zero]
  simp
theorem same_lt {l : List UInt8} {w c left : Nat} {p : List Nat × Nat} (h : same l w c left = some p) : ∀ x ∈ p.1, x < 2 ^ w := by
  unfold same at h
  split at h
  · rename_i hc
    obtain rfl := Option.some.inj h
    intro x hx
    rw [(List.mem_replicate.1 hx).2]
    exact hc.2.2
  · cases h
theorem grps_lt {l : List UInt8} {w c left : Nat} {p : List Nat × Nat} (h : grps l w c left = some p) : ∀ x ∈ p.1, x < 2 ^ w := by
  unfold grps at h
  split at h
  · obtain rfl := Option.some.inj h
    intro x hx
    exact unp_lt _ _ _ x (List.mem_of_mem_take hx)
  · cases h
theorem rds_len (w : Nat) : ∀ (f : Nat) (l : List UInt8) (n : Nat) (p : List Nat × Nat), rds f l w n = some p → p.1.length ≤ n := by
  intro f
  induction f with
  | zero => intro l n p h; obtain rfl := Option.some.inj h; simp
  | succ f ih =>
    intro l n p h
    unfold rds at h
    split at h
    · obtain rfl := Option.some.inj h; simp
    · rename_i h0
      obtain ⟨q, hq, h⟩ := Option.bind_eq_some_iff.1 h
      obtain ⟨r, hr, rfl⟩ := Option.map_eq_some_iff.1 h
      have h1 := part_len (by omega) hq
      have h2 := ih _ _ _ hr
      simp
      omega
theorem runs_len {l : List UInt8} {w n : Nat} {p : List Nat} {u : Nat} (h : runs l w n = some (p, u)) : p.length ≤ n := rds_len w n l n (p, u) h
end Um
end Go.Proofs.YtbklaikniocihaaDoor
