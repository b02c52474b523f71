/-
  What is written as runs is read: the mathematics, without the program.
-/
import Derived.Test.YtgmglgepmdmmeaaDoorTwiceMath
namespace Go.Proofs.YtgmglgepmdmmeaaDoor
namespace Um
/-- A part, read, and what follows. -/
theorem runs_part {l : List UInt8} {w n : Nat} {p : List Nat} {u : Nat} {q : List Nat} {v : Nat} (hn : 0 < n) (hp : part l w n = some (p, u)) (hq : runs (l.drop u) w (n - p.length) = some (q, v)) : runs l w n = some (p ++ q, u + v) := by
  rw [runs_step l w n hn, hp]
  simp only [Option.bind_some]
  rw [hq]
  rfl
theorem part_odd {l : List UInt8} {w left g : Nat} {p : List Nat × Nat} (hg : 2 * g + 1 < 18446744073709551616) (h : grps l w g left = some p) : part (uv (2 * g + 1) ++ l) w left = some (p.1, (uv (2 * g + 1)).length + p.2) := by
  have hr := rdv_whole (2 * g + 1) l hg
  have hpos := uv_pos (2 * g + 1)
  unfold part
  rw [hr]
  simp only
  rw [if_neg (by omega), if_neg (by omega), List.drop_left, show (2 * g + 1) / 2 = g by omega, h]
  rfl
theorem part_even {l : List UInt8} {w left c : Nat} {p : List Nat × Nat} (hc : 2 * c < 18446744073709551616) (h : same l w c left = some p) : part (uv (2 * c) ++ l) w left = some (p.1, (uv (2 * c)).length + p.2) := by
  have hr := rdv_whole (2 * c) l hc
  have hpos := uv_pos (2 * c)
  unfold part
  rw [hr]
  simp only
  rw [if_neg (by omega), if_pos (by omega), List.drop_left, show 2 * c / 2 = c by omega, h]
  rfl
/-- Open numbers, read: at the end, or whole groups. -/
theorem flush_read (k : Nat) (p : List Int) (left : Nat) (beh : List UInt8) (q : List Nat) (v : Nat) (hr : ∀ x ∈ nats p, x < 2 ^ k) (hlen : p.length ≤ 100000) (h0 : 0 < p.length) (hl : p.length = left ∨ (p.length < left ∧ p.length % 8 = 0)) (hq : runs beh k (left - p.length) = some (q, v)) :
    runs (flush k p ++ beh) k left = some (nats p ++ q, (flush k p).length + v) := by
  have hnl := nats_len p
  obtain ⟨g, hg⟩ : ∃ g, g = (p.length + 7) / 8 := ⟨_, rfl⟩
  have hgr := grps_read k (nats p) g left beh hr (by rw [hnl]; exact hg) (by omega) (by rw [hnl]; rcases hl with h | ⟨h, h2⟩; exact Or.inl h; exact Or.inr ⟨h, by omega⟩)
  have hf : flush k p = uv (2 * g + 1) ++ lit (num k (nats p)) (g * k) := by unfold flush; rw [if_neg (by omega), ← hg]
  have hpt := part_odd (by omega) hgr
  rw [hf, List.append_assoc]
  have e : (uv (2 * g + 1) ++ lit (num k (nats p)) (g * k)).length = (uv (2 * g + 1)).length + g * k := by rw [List.length_append, lit_len]
  rw [e]
  refine runs_part (by omega) hpt ?_
  have hd : (uv (2 * g + 1) ++ (lit (num k (nats p)) (g * k) ++ beh)).drop ((uv (2 * g + 1)).length + g * k) = beh := by
    rw [← List.append_assoc, ← e, List.drop_left]
  rw [hd, hnl]
  exact hq
theorem lead_same (r : List Int) : r.take (lead r) = List.replicate (lead r) (r.headD 0) := by
  cases r with
  | nil => rfl
  | cons x l =>
    simp only [lead, List.headD_cons]
    rw [Nat.add_comm, List.take_succ_cons, List.replicate_succ]
    congr 1
    induction l with
    | nil => rfl
    | cons y l ih =>
      by_cases h : y = x
      · subst h
        simp [List.replicate_succ, ih]
      · simp [h]
/-- What is written of open numbers and the rest is read, with whatever behind it. -/
theorem wrs_read (k : Nat) : ∀ (m : Nat) (p r : List Int) (beh : List UInt8), r.length ≤ m → (r.length = 0 ∨ p.length % 8 = 0) → (∀ x ∈ nats p, x < 2 ^ k) → (∀ x ∈ nats r, x < 2 ^ k) → p.length + r.length ≤ 50000 →
    runs (wrs k p r ++ beh) k (p.length + r.length) = some (nats (p ++ r), (wrs k p r).length) := by
  have base : ∀ (p : List Int) (beh : List UInt8), (∀ x ∈ nats p, x < 2 ^ k) → p.length ≤ 50000 → runs (flush k p ++ beh) k p.length = some (nats p, (flush k p).length) := by
    intro p beh hp hl
    by_cases h0 : p.length = 0
    · obtain rfl : p = [] := List.eq_nil_of_length_eq_zero h0
      rfl
    · have := flush_read k p p.length beh [] 0 hp (by omega) (by omega) (Or.inl rfl) (by rw [Nat.sub_self]; rfl)
      simpa using this
  intro m
  induction m with
  | zero =>
    intro p r beh hm _ hp _ hl
    obtain rfl : r = [] := List.eq_nil_of_length_eq_zero (by omega)
    rw [wrs_nil, List.append_nil, List.length_nil, Nat.add_zero]
    exact base p beh hp (by simpa using hl)
  | succ m ih =>
    intro p r beh hm hpr hp hr hl
    by_cases h0 : r.length = 0
    · obtain rfl : r = [] := List.eq_nil_of_length_eq_zero h0
      rw [wrs_nil, List.append_nil, List.length_nil, Nat.add_zero]
      exact base p beh hp (by simpa using hl)
    · have hp8 : p.length % 8 = 0 := by omega
      by_cases h8 : lead r < 8
      · rw [wrs_short k p r (by omega) h8]
        have hlen : (p ++ r.take 8).length + (r.drop 8).length = p.length + r.length := by simp; omega
        have := ih (p ++ r.take 8) (r.drop 8) beh (by rw [List.length_drop]; omega) (by
          rw [List.length_drop, List.length_append, List.length_take]
          by_cases h : r.length ≤ 8
          · left; omega
          · right; omega) (by
          intro x hx
          rw [show nats (p ++ r.take 8) = nats p ++ nats (r.take 8) by simp [nats]] at hx
          rcases List.mem_append.1 hx with h | h
          · exact hp x h
          · exact hr x (by unfold nats at h ⊢; rw [List.map_take] at h; exact List.mem_of_mem_take h)) (by
          intro x hx
          exact hr x (by unfold nats at hx ⊢; rw [List.map_drop] at hx; exact List.mem_of_mem_drop hx)) (by omega)
        rw [hlen, List.append_assoc, List.take_append_drop] at this
        exact this
      · have hlp := lead_le r
        have hsr := lead_same r
        obtain ⟨c, hc⟩ : ∃ c, c = lead r := ⟨_, rfl⟩
        rw [← hc] at h8 hlp hsr
        have hx : (r.headD 0).toNat < 2 ^ k := hr _ (by
          cases r with
          | nil => simp at h0
          | cons y l => simp [nats])
        have hih := ih [] (r.drop c) beh (by rw [List.length_drop]; omega) (Or.inr rfl) (by intro x hx; simp [nats] at hx) (by
          intro x hx
          exact hr x (by unfold nats at hx ⊢; rw [List.map_drop] at hx; exact List.mem_of_mem_drop hx)) (by rw [List.length_drop]; simp; omega)
        rw [List.length_nil, Nat.zero_add, List.nil_append, List.length_drop] at hih
        have hrun : runs (uv (2 * c) ++ lit (r.headD 0).toNat ((k + 7) / 8) ++ (wrs k [] (r.drop c) ++ beh)) k r.length = some (List.replicate c (r.headD 0).toNat ++ nats (r.drop c), (uv (2 * c)).length + (k + 7) / 8 + (wrs k [] (r.drop c)).length) := by
          have hpt := part_even (w := k) (left := r.length) (by omega) (same_read k (r.headD 0).toNat c r.length (wrs k [] (r.drop c) ++ beh) hx (by omega) hlp)
          rw [List.append_assoc]
          refine runs_part (by omega) hpt ?_
          have hd : (uv (2 * c) ++ (lit (r.headD 0).toNat ((k + 7) / 8) ++ (wrs k [] (r.drop c) ++ beh))).drop ((uv (2 * c)).length + (k + 7) / 8) = wrs k [] (r.drop c) ++ beh := by
            have e : (uv (2 * c) ++ lit (r.headD 0).toNat ((k + 7) / 8)).length = (uv (2 * c)).length + (k + 7) / 8 := by rw [List.length_append, lit_len]
            rw [← List.append_assoc, ← e, List.drop_left]
          rw [hd, List.length_replicate]
          exact hih
        have hnr : nats r = List.replicate c (r.headD 0).toNat ++ nats (r.drop c) := by
          have h1 : nats r = nats (r.take c) ++ nats (r.drop c) := by unfold nats; rw [← List.map_append, List.take_append_drop]
          rw [h1, hsr]
          have h2 : nats (List.replicate c (r.headD 0)) = List.replicate c (r.headD 0).toNat := by unfold nats; rw [List.map_replicate]
          rw [h2]
        rw [← hnr] at hrun
        have happ : nats (p ++ r) = nats p ++ nats r := by unfold nats; rw [List.map_append]
        rw [wrs_long k p r (by rw [← hc]; exact h8), ← hc, happ]
        have e2 : (flush k p ++ (uv (2 * c) ++ lit (r.headD 0).toNat ((k + 7) / 8)) ++ wrs k [] (r.drop c)).length = (flush k p).length + ((uv (2 * c)).length + (k + 7) / 8 + (wrs k [] (r.drop c)).length) := by
          rw [List.length_append, List.length_append, List.length_append, lit_len]; omega
        rw [e2, List.append_assoc, List.append_assoc]
        by_cases hp0 : p.length = 0
        · obtain rfl : p = [] := List.eq_nil_of_length_eq_zero hp0
          have hf : flush k [] = [] := rfl
          have e3 : ([] : List UInt8).length + ((uv (2 * c)).length + (k + 7) / 8 + (wrs k [] (r.drop c)).length) = (uv (2 * c)).length + (k + 7) / 8 + (wrs k [] (r.drop c)).length := by simp
          have e4 : nats [] ++ nats r = nats r := rfl
          have e5 : ([] : List Int).length + r.length = r.length := by simp
          rw [hf, e3, e4, e5, List.nil_append]
          exact hrun
        · exact flush_read k p (p.length + r.length) _ _ _ hp (by omega) (by omega) (Or.inr ⟨by omega, hp8⟩) (by rw [Nat.add_sub_cancel_left]; exact hrun)
end Um
end Go.Proofs.YtgmglgepmdmmeaaDoor
