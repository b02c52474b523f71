/-
  What is packed is unpacked: the mathematics, without the program.
  bitrun.sameFrom: how many of one number follow.
  What is written as runs is read: the mathematics, without the program.
-/
import Derived.Test.YtjchkhdmjbojjaaDoorLBUnpack
import Derived.Test.YtjchkhdmjbojjaaDoorLBPackF
import Derived.RegionTactic
namespace Go.Proofs.YtjchkhdmjbojjaaDoor
namespace Um
/-- The bytes of numbers, with whatever behind them, are these numbers. -/
theorem unp_packed (k : Nat) (ns : List Nat) (q : Nat) (beh : List UInt8) (hns : ∀ x ∈ ns, x < 2 ^ k) (hq : k * ns.length ≤ 8 * q) : unp (lit (num k ns) q ++ beh) k ns.length = ns := by
  apply List.ext_getElem
  · rw [unp_len]
  · intro i h1 h2
    rw [unp_len] at h1
    have hki : k * i + k ≤ 8 * q := by
      have : k * (i + 1) ≤ k * ns.length := Nat.mul_le_mul_left _ h1
      rw [Nat.mul_add, Nat.mul_one] at this
      omega
    rw [unp_get _ _ _ _ h1, ← lev_cut _ q (k * i) k (by rw [List.length_append, lit_len]; omega) hki]
    have ht : (lit (num k ns) q ++ beh).take q = lit (num k ns) q := by
      have := List.take_left (l₁ := lit (num k ns) q) (l₂ := beh)
      rwa [lit_len] at this
    have hN : num k ns < 2 ^ (8 * q) := Nat.lt_of_lt_of_le (num_lt k ns hns) (Nat.pow_le_pow_right (by omega) hq)
    rw [ht, lev_lit, Nat.mod_eq_of_lt hN, num_get k ns i h1 hns]
/-- .. and filled up with 0. -/
theorem unp_padded (k : Nat) (ns : List Nat) (q m : Nat) (beh : List UInt8) (hns : ∀ x ∈ ns, x < 2 ^ k) (hm : ns.length ≤ m) (hq : k * m ≤ 8 * q) : unp (lit (num k ns) q ++ beh) k m = ns ++ List.replicate (m - ns.length) 0 := by
  have hz : ∀ (l : List Nat) (j : Nat), num k (l ++ List.replicate j 0) = num k l := by
    intro l j
    induction j with
    | zero => simp
    | succ j ih => rw [List.replicate_succ', ← List.append_assoc, num_snoc, ih]; simp
  have hl : (ns ++ List.replicate (m - ns.length) 0).length = m := by simp; omega
  have h := unp_packed k (ns ++ List.replicate (m - ns.length) 0) q beh (fun x hx => by
    rcases List.mem_append.1 hx with h | h
    · exact hns x h
    · rw [(List.mem_replicate.1 h).2]; exact Nat.two_pow_pos k) (by rw [hl]; exact hq)
  rw [hz, hl] at h
  exact h
/-- A part of the second kind, read. -/
theorem grps_read (k : Nat) (ns : List Nat) (g left : Nat) (beh : List UInt8) (hns : ∀ x ∈ ns, x < 2 ^ k) (hg : g = (ns.length + 7) / 8) (h0 : 0 < ns.length) (hl : ns.length = left ∨ (ns.length < left ∧ ns.length = 8 * g)) :
    grps (lit (num k ns) (g * k) ++ beh) k g left = some (ns, g * k) := by
  have hu := unp_padded k ns (g * k) (8 * g) beh hns (by omega) (by rw [Nat.mul_left_comm, Nat.mul_comm k g]; exact Nat.le_refl _)
  unfold grps
  rw [hu, if_pos]
  · have ht : (ns ++ List.replicate (8 * g - ns.length) 0).take left = ns := by
      rcases hl with h | ⟨h, h2⟩
      · rw [← h]; exact List.take_left
      · rw [show 8 * g - ns.length = 0 by omega, List.replicate_zero, List.append_nil, List.take_of_length_le (by omega)]
    rw [ht]
  · refine ⟨⟨by omega, by omega⟩, by rw [List.length_append, lit_len]; omega, ?_⟩
    intro x hx
    rcases hl with h | ⟨h, h2⟩
    · rw [← h, List.drop_left] at hx
      exact (List.mem_replicate.1 hx).2
    · rw [show 8 * g - ns.length = 0 by omega] at hx
      simp at hx
      rw [List.drop_of_length_le (by omega)] at hx
      cases hx
/-- A part of the first kind, read. -/
theorem same_read (k x c left : Nat) (beh : List UInt8) (hx : x < 2 ^ k) (h0 : 0 < c) (hl : c ≤ left) : same (lit x ((k + 7) / 8) ++ beh) k c left = some (List.replicate c x, (k + 7) / 8) := by
  have ht : (lit x ((k + 7) / 8) ++ beh).take ((k + 7) / 8) = lit x ((k + 7) / 8) := by
    have := List.take_left (l₁ := lit x ((k + 7) / 8)) (l₂ := beh)
    rwa [lit_len] at this
  have hv : lev (lit x ((k + 7) / 8)) = x := by
    rw [lev_lit, Nat.mod_eq_of_lt]
    exact Nat.lt_of_lt_of_le hx (Nat.pow_le_pow_right (by omega) (by omega))
  unfold same
  rw [ht, hv, if_pos ⟨⟨h0, hl⟩, by rw [List.length_append, lit_len]; omega, hx⟩]
end Um
end Go.Proofs.YtjchkhdmjbojjaaDoor

namespace Go.Proofs.YtjchkhdmjbojjaaDoor
open Go.RowKit
set_option linter.unusedVariables false
theorem lead_drop {xs : List Int} {i m : Nat} (hi : i < xs.length) (him : i < m) (hm : m ≤ xs.length) (h1 : ∀ j (h : j < xs.length), i < j → j < m → xs[j] = xs[i]) (h2 : ∀ h : m < xs.length, xs[m] ≠ xs[i]) : Um.lead (xs.drop i) = m - i := by
  rw [List.drop_eq_getElem_cons hi]
  simp only [Um.lead]
  rw [Um.lead_of (k := m - i - 1) (x := xs[i])]
  · omega
  · intro j h hj
    rw [List.getElem_drop]
    exact h1 _ _ (by omega) (by omega)
  · rw [List.length_drop]; omega
  · intro h
    rw [List.getElem_drop]
    have e : i + 1 + (m - i - 1) = m := by omega
    have := h2 (by rw [List.length_drop] at h; omega)
    simpa only [e] using this
set_option maxRecDepth 100000 in
set_option maxHeartbeats 1600000 in
theorem sameFrom_any (a : Option Addr) (c : Nat) (xs : List Int) (i : Nat) (w : World) (hn : xs.length ≤ 20000) (hi : i < xs.length) (h : Lies w a (i64s xs)) :
    Calls Tryd.prog 67 #[.slice a xs.length c, .int .i64 i] w fun e w' => e = .returned (.int .i64 (Um.lead (xs.drop i) : Nat)) ∧ Below w.heap.size w w' := by
  have HL : Hid (∀ j (h : j < xs.length), ∃ b o, a = some ⟨b, o, none⟩ ∧ w.cell? ⟨b, o + j, none⟩ = some (.int .i64 xs[j])) := lies_ints h
  obtain ⟨b, o, rfl, hci⟩ := HL.out i hi
  clear h
  have HLb : Hid (∀ j (h : j < xs.length), w.cell? ⟨b, o + j, none⟩ = some (.int .i64 xs[j])) := fun j hj => by
    obtain ⟨b2, o2, e2, hc2⟩ := HL.out j hj
    obtain ⟨rfl, rfl⟩ : b = b2 ∧ o = o2 := by injection e2 with e2; injection e2 with x y; exact ⟨x, y⟩
    exact hc2
  have HCi : Hid (w.cell? ⟨b, o + i, none⟩ = some (.int .i64 xs[i])) := hci
  clear hci HL
  go_enter Tryd.func67, Tryd.ntmps67
  go_wp2
  go_loopw [5] (fun x wr => ∃ m : Nat, i < m ∧ m ≤ xs.length ∧ x = .int .i64 m ∧ Hid (∀ j (h : j < xs.length), i < j → j < m → xs[j] = xs[i]) ∧ Below w.heap.size w wr) (fun x _ => xs.length - (intOf x).toNat)
  case atStart => exact ⟨i + 1, by omega, by omega, by go_num, fun j _ h1 h2 => absurd h1 (by omega), Below.refl _ _⟩
  case round =>
    obtain ⟨m, him, hm, rfl, HP, hb⟩ := hrel
    have hci := (hb.cell (World.block_lt_of_cell? w _ HCi.out)).trans HCi.out
    by_cases hlt : m < xs.length
    · have hd := HLb.out m hlt
      have hcm := (hb.cell (World.block_lt_of_cell? w _ hd)).trans hd
      clear hd
      by_cases he : xs[m] = xs[i]
      · have HE : Hid (xs[m] = xs[i]) := he
        have hbe : (xs[m] == xs[i]) = true := by simpa using he
        clear he
        go_wp2
        go_region
        all_goals (try go_wp2)
        all_goals go_roundw
        all_goals first
          | (exact ⟨m + 1, by omega, by omega, by go_num, fun j h h1 h2 => if e : j = m then (by subst e; exact HE.out) else HP.out j h h1 (by omega), hb.drew⟩)
          | (simp [intOf]; omega)
      · have HE : Hid (Um.lead (xs.drop i) = m - i) := lead_drop hi him hm HP.out (fun _ => he)
        have hbe : (xs[m] == xs[i]) = false := by simpa using he
        clear he
        go_wp2
        go_region
        all_goals (try go_wp2)
        all_goals go_ret
        all_goals exact ⟨by rw [HE.out]; go_num, hb.drew⟩
    · have HE : Hid (Um.lead (xs.drop i) = m - i) := lead_drop hi him hm HP.out (fun h => absurd h hlt)
      go_wp2
      go_region
      all_goals (try go_wp2)
      all_goals go_ret
      all_goals exact ⟨by rw [HE.out]; go_num, hb.drew⟩
end Go.Proofs.YtjchkhdmjbojjaaDoor

namespace Go.Proofs.YtjchkhdmjbojjaaDoor
namespace Um
/-- A part, read, and what follows. -/
theorem runs_part {l : List UInt8} {w n : Nat} {p : List Nat} {u : Nat} {q : List Nat} {v : Nat} (hn : 0 < n) (hp : part l w n = some (p, u)) (hq : runs (l.drop u) w (n - p.length) = some (q, v)) : runs l w n = some (p ++ q, u + v) := by
  rw [runs_step l w n hn, hp]
  simp only [Option.bind_some]
  rw [hq]
  rfl
theorem part_odd {l : List UInt8} {w left g : Nat} {p : List Nat × Nat} (hg : 2 * g + 1 < 18446744073709551616) (h : grps l w g left = some p) : part (uv (2 * g + 1) ++ l) w left = some (p.1, (uv (2 * g + 1)).length + p.2) := by
  have hr := rdv_whole (2 * g + 1) l hg
  have hpos := uv_pos (2 * g + 1)
  unfold part
  rw [hr]
  simp only
  rw [if_neg (by omega), if_neg (by omega), List.drop_left, show (2 * g + 1) / 2 = g by omega, h]
  rfl
theorem part_even {l : List UInt8} {w left c : Nat} {p : List Nat × Nat} (hc : 2 * c < 18446744073709551616) (h : same l w c left = some p) : part (uv (2 * c) ++ l) w left = some (p.1, (uv (2 * c)).length + p.2) := by
  have hr := rdv_whole (2 * c) l hc
  have hpos := uv_pos (2 * c)
  unfold part
  rw [hr]
  simp only
  rw [if_neg (by omega), if_pos (by omega), List.drop_left, show 2 * c / 2 = c by omega, h]
  rfl
/-- Open numbers, read: at the end, or whole groups. -/
theorem flush_read (k : Nat) (p : List Int) (left : Nat) (beh : List UInt8) (q : List Nat) (v : Nat) (hr : ∀ x ∈ nats p, x < 2 ^ k) (hlen : p.length ≤ 100000) (h0 : 0 < p.length) (hl : p.length = left ∨ (p.length < left ∧ p.length % 8 = 0)) (hq : runs beh k (left - p.length) = some (q, v)) :
    runs (flush k p ++ beh) k left = some (nats p ++ q, (flush k p).length + v) := by
  have hnl := nats_len p
  obtain ⟨g, hg⟩ : ∃ g, g = (p.length + 7) / 8 := ⟨_, rfl⟩
  have hgr := grps_read k (nats p) g left beh hr (by rw [hnl]; exact hg) (by omega) (by rw [hnl]; rcases hl with h | ⟨h, h2⟩; exact Or.inl h; exact Or.inr ⟨h, by omega⟩)
  have hf : flush k p = uv (2 * g + 1) ++ lit (num k (nats p)) (g * k) := by unfold flush; rw [if_neg (by omega), ← hg]
  have hpt := part_odd (by omega) hgr
  rw [hf, List.append_assoc]
  have e : (uv (2 * g + 1) ++ lit (num k (nats p)) (g * k)).length = (uv (2 * g + 1)).length + g * k := by rw [List.length_append, lit_len]
  rw [e]
  refine runs_part (by omega) hpt ?_
  have hd : (uv (2 * g + 1) ++ (lit (num k (nats p)) (g * k) ++ beh)).drop ((uv (2 * g + 1)).length + g * k) = beh := by
    rw [← List.append_assoc, ← e, List.drop_left]
  rw [hd, hnl]
  exact hq
theorem lead_same (r : List Int) : r.take (lead r) = List.replicate (lead r) (r.headD 0) := by
  cases r with
  | nil => rfl
  | cons x l =>
    simp only [lead, List.headD_cons]
    rw [Nat.add_comm, List.take_succ_cons, List.replicate_succ]
    congr 1
    induction l with
    | nil => rfl
    | cons y l ih =>
      by_cases h : y = x
      · subst h
        simp [List.replicate_succ, ih]
      · simp [h]
/-- What is written of open numbers and the rest is read, with whatever behind it. -/
theorem wrs_read (k : Nat) : ∀ (m : Nat) (p r : List Int) (beh : List UInt8), r.length ≤ m → (r.length = 0 ∨ p.length % 8 = 0) → (∀ x ∈ nats p, x < 2 ^ k) → (∀ x ∈ nats r, x < 2 ^ k) → p.length + r.length ≤ 50000 →
    runs (wrs k p r ++ beh) k (p.length + r.length) = some (nats (p ++ r), (wrs k p r).length) := by
  have base : ∀ (p : List Int) (beh : List UInt8), (∀ x ∈ nats p, x < 2 ^ k) → p.length ≤ 50000 → runs (flush k p ++ beh) k p.length = some (nats p, (flush k p).length) := by
    intro p beh hp hl
    by_cases h0 : p.length = 0
    · obtain rfl : p = [] := List.eq_nil_of_length_eq_zero h0
      rfl
    · have := flush_read k p p.length beh [] 0 hp (by omega) (by omega) (Or.inl rfl) (by rw [Nat.sub_self]; rfl)
      simpa using this
  intro m
  induction m with
  | zero =>
    intro p r beh hm _ hp _ hl
    obtain rfl : r = [] := List.eq_nil_of_length_eq_zero (by omega)
    rw [wrs_nil, List.append_nil, List.length_nil, Nat.add_zero]
    exact base p beh hp (by simpa using hl)
  | succ m ih =>
    intro p r beh hm hpr hp hr hl
    by_cases h0 : r.length = 0
    · obtain rfl : r = [] := List.eq_nil_of_length_eq_zero h0
      rw [wrs_nil, List.append_nil, List.length_nil, Nat.add_zero]
      exact base p beh hp (by simpa using hl)
    · have hp8 : p.length % 8 = 0 := by omega
      by_cases h8 : lead r < 8
      · rw [wrs_short k p r (by omega) h8]
        have hlen : (p ++ r.take 8).length + (r.drop 8).length = p.length + r.length := by simp; omega
        have := ih (p ++ r.take 8) (r.drop 8) beh (by rw [List.length_drop]; omega) (by
          rw [List.length_drop, List.length_append, List.length_take]
          by_cases h : r.length ≤ 8
          · left; omega
          · right; omega) (by
          intro x hx
          rw [show nats (p ++ r.take 8) = nats p ++ nats (r.take 8) by simp [nats]] at hx
          rcases List.mem_append.1 hx with h | h
          · exact hp x h
          · exact hr x (by unfold nats at h ⊢; rw [List.map_take] at h; exact List.mem_of_mem_take h)) (by
          intro x hx
          exact hr x (by unfold nats at hx ⊢; rw [List.map_drop] at hx; exact List.mem_of_mem_drop hx)) (by omega)
        rw [hlen, List.append_assoc, List.take_append_drop] at this
        exact this
      · have hlp := lead_le r
        have hsr := lead_same r
        obtain ⟨c, hc⟩ : ∃ c, c = lead r := ⟨_, rfl⟩
        rw [← hc] at h8 hlp hsr
        have hx : (r.headD 0).toNat < 2 ^ k := hr _ (by
          cases r with
          | nil => simp at h0
          | cons y l => simp [nats])
        have hih := ih [] (r.drop c) beh (by rw [List.length_drop]; omega) (Or.inr rfl) (by intro x hx; simp [nats] at hx) (by
          intro x hx
          exact hr x (by unfold nats at hx ⊢; rw [List.map_drop] at hx; exact List.mem_of_mem_drop hx)) (by rw [List.length_drop]; simp; omega)
        rw [List.length_nil, Nat.zero_add, List.nil_append, List.length_drop] at hih
        have hrun : runs (uv (2 * c) ++ lit (r.headD 0).toNat ((k + 7) / 8) ++ (wrs k [] (r.drop c) ++ beh)) k r.length = some (List.replicate c (r.headD 0).toNat ++ nats (r.drop c), (uv (2 * c)).length + (k + 7) / 8 + (wrs k [] (r.drop c)).length) := by
          have hpt := part_even (w := k) (left := r.length) (by omega) (same_read k (r.headD 0).toNat c r.length (wrs k [] (r.drop c) ++ beh) hx (by omega) hlp)
          rw [List.append_assoc]
          refine runs_part (by omega) hpt ?_
          have hd : (uv (2 * c) ++ (lit (r.headD 0).toNat ((k + 7) / 8) ++ (wrs k [] (r.drop c) ++ beh))).drop ((uv (2 * c)).length + (k + 7) / 8) = wrs k [] (r.drop c) ++ beh := by
            have e : (uv (2 * c) ++ lit (r.headD 0).toNat ((k + 7) / 8)).length = (uv (2 * c)).length + (k + 7) / 8 := by rw [List.length_append, lit_len]
            rw [← List.append_assoc, ← e, List.drop_left]
          rw [hd, List.length_replicate]
          exact hih
        have hnr : nats r = List.replicate c (r.headD 0).toNat ++ nats (r.drop c) := by
          have h1 : nats r = nats (r.take c) ++ nats (r.drop c) := by unfold nats; rw [← List.map_append, List.take_append_drop]
          rw [h1, hsr]
          have h2 : nats (List.replicate c (r.headD 0)) = List.replicate c (r.headD 0).toNat := by unfold nats; rw [List.map_replicate]
          rw [h2]
        rw [← hnr] at hrun
        have happ : nats (p ++ r) = nats p ++ nats r := by unfold nats; rw [List.map_append]
        rw [wrs_long k p r (by rw [← hc]; exact h8), ← hc, happ]
        have e2 : (flush k p ++ (uv (2 * c) ++ lit (r.headD 0).toNat ((k + 7) / 8)) ++ wrs k [] (r.drop c)).length = (flush k p).length + ((uv (2 * c)).length + (k + 7) / 8 + (wrs k [] (r.drop c)).length) := by
          rw [List.length_append, List.length_append, List.length_append, lit_len]; omega
        rw [e2, List.append_assoc, List.append_assoc]
        by_cases hp0 : p.length = 0
        · obtain rfl : p = [] := List.eq_nil_of_length_eq_zero hp0
          have hf : flush k [] = [] := rfl
          have e3 : ([] : List UInt8).length + ((uv (2 * c)).length + (k + 7) / 8 + (wrs k [] (r.drop c)).length) = (uv (2 * c)).length + (k + 7) / 8 + (wrs k [] (r.drop c)).length := by simp
          have e4 : nats [] ++ nats r = nats r := rfl
          have e5 : ([] : List Int).length + r.length = r.length := by simp
          rw [hf, e3, e4, e5, List.nil_append]
          exact hrun
        · exact flush_read k p (p.length + r.length) _ _ _ hp (by omega) (by omega) (Or.inr ⟨by omega, hp8⟩) (by rw [Nat.add_sub_cancel_left]; exact hrun)
end Um
end Go.Proofs.YtjchkhdmjbojjaaDoor
