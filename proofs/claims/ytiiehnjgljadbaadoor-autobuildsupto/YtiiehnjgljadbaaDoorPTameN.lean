/-
  The reference's Flat, and the law's tame: of which schemas something is said.
-/
import Derived.Test.YtiiehnjgljadbaaDoorPFlatN
namespace Go.Proofs.YtiiehnjgljadbaaDoor
open Go.RowKit
/-- All nodes, the root first. -/
def fl (t : Tr) : List Pc := flT [] t 1 (-1)
theorem pnc_at : ∀ (ps : List Pn) (i k : Nat), k < 7 → (ps.flatMap pnc)[i * 7 + k]? = (ps[i]?).bind fun p => (pnc p)[k]?
  | [], i, k, _ => by simp
  | p :: ps, i, k, hk => by
    have hl : (pnc p).length = 7 := rfl
    rw [List.flatMap_cons]
    cases i with
    | zero => rw [List.getElem?_append_left (by omega)]; simp
    | succ i =>
      rw [List.getElem?_append_right (by omega), show (i + 1) * 7 + k - (pnc p).length = i * 7 + k by omega, pnc_at ps i k hk]
      simp
/-- What lies in a row of places. -/
theorem pn_cell {w : World} {B e : Nat} {a : Option Addr} {c : Nat} {ps : List Pn} (h : w.ownsRow B e 7 (.slice a ps.length c) ps.length (ps.flatMap pnc)) (i : Nat) (hi : i < ps.length) : ∃ g, a = some ⟨g, 0, none⟩ ∧ ∀ k u, k < 7 → (pnc ps[i])[k]? = some u → w.cell? ⟨g, i * 7 + k, none⟩ = some u := by
  rcases h.2 with ⟨_, h0⟩ | ⟨g, cap, cur, hv, _⟩
  · exact absurd hi (by omega)
  · have hv' := hv
    injection hv' with ha _ _
    refine ⟨g, ha, fun k u hk hu => ?_⟩
    have h1 := h.cells (g := g) (by rw [ha]; rfl) (i * 7 + k) u (by rw [pnc_at ps i k hk, List.getElem?_eq_getElem hi]; exact hu)
    rw [addr_plus, Nat.zero_add] at h1
    exact h1
/-- How many bytes the names are, together. -/
def nmS (l : List Pc) : Nat := (l.map fun p => p.t.nm.size).sum
theorem nmS_snoc (l : List Pc) (p : Pc) : nmS (l ++ [p]) = nmS l + p.t.nm.size := by simp [nmS]
theorem Tr.Sm.all {t : Tr} (h : t.Sm) : ∀ u ∈ t.sub, u.Sm := fun u hu => by
  obtain ⟨j, hj, rfl⟩ := List.getElem_of_mem hu
  exact h.at_ j hj
mutual
theorem flT_sm : ∀ (t : Tr) (acc : List Pc) (deep : Nat) (around : Int), t.Sm → (∀ p ∈ acc, p.t.Sm) → ∀ p ∈ flT acc t deep around, p.t.Sm
  | .node id nm rep kind sub, acc, deep, around, ht, h => by
    rw [flT]
    split
    · exact h
    · refine flL_sm sub _ _ _ (fun u hu => ht.all u hu) (fun p hp => ?_)
      rcases List.mem_append.1 hp with hp | hp
      · exact h p hp
      · rw [List.mem_singleton.1 hp]; exact ht
theorem flL_sm : ∀ (ts : List Tr) (acc : List Pc) (deep : Nat) (around : Int), (∀ u ∈ ts, u.Sm) → (∀ p ∈ acc, p.t.Sm) → ∀ p ∈ flL acc ts deep around, p.t.Sm
  | [], acc, deep, around, _, h => by rw [flL]; exact h
  | t :: ts, acc, deep, around, ht, h => by
    rw [flL]
    exact flL_sm ts _ _ _ (fun u hu => ht u (by simp [hu])) (flT_sm t _ _ _ (ht t (by simp)) h)
end
set_option maxRecDepth 100000 in
set_option maxHeartbeats 800000 in
theorem flatF_any (t : Tr) (hsm : t.Sm) (P : Nat → Prop) (a : Option Addr) (c : Nat) (W : World) (hl : LiesN W P a t.sub) :
    Calls Tryd.prog 12 #[nodeV t a c] W fun e w' => (∃ (ps : List Pn) (la : Option Addr) (lc : Nat), e = .returned (.slice la ps.length lc) ∧ ps.map Pn.core = fl t ∧ w'.ownsRow W.heap.size 43 7 (.slice la ps.length lc) ps.length (ps.flatMap pnc)) ∧ Below W.heap.size W w' := by
  have hb0 : ∀ ob : Obj, Below W.heap.size W (W.alloc ob) := fun ob => (Below.refl _ _).alloc (Nat.le_refl _) ob
  have HC : Hid (∀ ob : Obj, Calls Tryd.prog 21 #[.slice none 0 0, nodeV t a c, .int .i64 ((1 : Nat) : Int), .int .i64 (-1)] (W.alloc ob) fun e w' => RetFl (W.alloc ob).heap.size (W.alloc ob) (.slice none 0 0) (flT ([] : List Pc) t 1 (-1)) e w') := fun ob =>
    flat_any (W.alloc ob).heap.size (SizeOf.sizeOf t + 1) t (Nat.lt_succ_self _) hsm (.slice none 0 0) [] 1 (-1) a c (W.alloc ob) ((hl.keep (hb0 ob)).stay (fun _ _ h => h) (fun _ _ _ => rfl)) (World.ownsRow_nil _ _ _ _) (Nat.le_refl _) (by simp) (by omega)
  have H1 : Hid (∀ ob : Obj, Below W.heap.size W (W.alloc ob)) := hb0
  clear hl hb0
  unfold nodeV at *
  go_enter Tryd.func12, Tryd.ntmps12
  go_wp2_with fail
  refine Calls.mono (HC.out _) ?_
  rintro e w1 ⟨l', ps, rfl, hc, hF⟩
  obtain ⟨la, lc, rfl⟩ := pn_shape hF.row
  have HCo : Hid (ps.map Pn.core = fl t) := hc
  have HRw := hF.row
  have HBl := hF.below (qs := []) (World.ownsRow_nil _ _ _ _) (Nat.le_refl _)
  have HB : Hid (Below W.heap.size W w1) := (H1.out _).trans (HBl.mono (by simp))
  have HRw2 : Hid (w1.ownsRow W.heap.size 43 7 (.slice la ps.length lc) ps.length (ps.flatMap pnc)) := by
    refine ⟨HRw.1, ?_⟩
    rcases HRw.2 with h | ⟨g, cap, cur, h1, h2, h3⟩
    · exact .inl h
    · exact .inr ⟨g, cap, cur, h1, by simp at h2; omega, h3⟩
  clear hc hF HRw HBl
  go_wp2
  go_ret
  exact ⟨⟨ps, la, lc, rfl, HCo.out, HRw2.out⟩, HB.out⟩
set_option maxRecDepth 100000 in
set_option maxHeartbeats 1600000 in
theorem tame_any (t : Tr) (hsm : t.Sm) (P : Nat → Prop) (a : Option Addr) (c : Nat) (W : World) (hl : LiesN W P a t.sub) :
    Calls Tryd.prog 5 #[nodeV t a c] W fun e w' => e = .returned (.bool (decide ((fl t).length ≤ 200 ∧ nmS (fl t) ≤ 4000))) ∧ Below W.heap.size W w' := by
  have H1 : Hid (∀ ob : Obj, Below W.heap.size W (W.alloc ob)) := fun ob => (Below.refl _ _).alloc (Nat.le_refl _) ob
  have HC : Hid (∀ ob : Obj, Calls Tryd.prog 12 #[nodeV t a c] (W.alloc ob) fun e w' => (∃ (ps : List Pn) (la : Option Addr) (lc : Nat), e = .returned (.slice la ps.length lc) ∧ ps.map Pn.core = fl t ∧ w'.ownsRow (W.alloc ob).heap.size 43 7 (.slice la ps.length lc) ps.length (ps.flatMap pnc)) ∧ Below (W.alloc ob).heap.size (W.alloc ob) w') := fun ob => flatF_any t hsm P a c (W.alloc ob) (hl.keep (H1.out ob))
  have HIn : Hid (∀ p ∈ fl t, p.t.Sm) := flT_sm t [] 1 (-1) hsm (fun p hp => by simp at hp)
  have HLn : Hid ((fl t).length ≤ 2001) := flT_len t [] 1 (-1) (by simp)
  clear hl hsm
  unfold nodeV at *
  go_enter Tryd.func5, Tryd.ntmps5
  go_wp2_with fail
  refine Calls.mono (HC.out _) ?_
  rintro e w1 ⟨⟨ps, la, lc, rfl, hco, hrow⟩, hb⟩
  have HCo : Hid (ps.map Pn.core = fl t) := hco
  have HR : Hid _ := hrow
  have HB : Hid (Below W.heap.size W w1) := (H1.out _).trans (hb.mono (by simp))
  have HPL : Hid (ps.length = (fl t).length) := by show _ = _; rw [← hco, List.length_map]
  have hpl : ps.length ≤ 2001 := by rw [HPL.out]; exact HLn.out
  clear hco hrow hb HC
  go_wp2_with fail
  go_loopw [4, 5] (fun y x wr => ∃ i m : Nat, i ≤ ps.length ∧ x = .int .i64 i ∧ y = .int .i64 (m : Nat) ∧ m ≤ 2098200576 ∧ Hid (m ≤ i * 1048576) ∧ Hid (m = nmS ((fl t).take i)) ∧ wr = w1) (fun _ x _ => ps.length - (intOf x).toNat)
  case atStart => exact ⟨0, 0, Nat.zero_le _, rfl, rfl, Nat.zero_le _, Nat.zero_le _, rfl, rfl⟩
  case round =>
    obtain ⟨i, m, hik, rfl, rfl, hm, HMI, HM, rfl⟩ := hrel
    by_cases hlt : i < ps.length
    · obtain ⟨g, rfl, hc⟩ := pn_cell HR.out i hlt
      have hc1 := hc 1 _ (by omega) rfl
      have hfi : i < (fl t).length := by rw [← HPL.out]; exact hlt
      have HE : Hid ((fl t)[i].t = ps[i].t) := by
        show _ = _
        have h : (fl t)[i] = ps[i].core := by
          have := HCo.out
          simp only [← this, List.getElem_map]
        rw [h]
        rfl
      have hsz : ps[i].t.nm.size ≤ 1048576 := by
        have h := (HIn.out _ (List.getElem_mem hfi)).nm
        rw [HE.out] at h
        exact h
      have HN : Hid (m + ps[i].t.nm.size = nmS ((fl t).take (i + 1))) := by
        show _ = _
        rw [List.take_succ_eq_append_getElem hfi, nmS_snoc, HM.out, HE.out]
      clear hc
      generalize ps[i].t.nm = s at *
      have HMM : Hid (m + s.size ≤ (i + 1) * 1048576) := by show _ ≤ _; have := HMI.out; omega
      have hnum : m + s.size ≤ 2098200576 := by have := HMM.out; omega
      go_wp2
      go_roundw
      case rel => exact ⟨i + 1, m + s.size, by omega, by go_num, by go_num, hnum, HMM, HN, by first | rfl | trivial⟩
      case measure => simp [intOf]; omega
    · obtain rfl : i = ps.length := by omega
      have HM2 : Hid (m = nmS (fl t)) := by
        show _ = _
        rw [HM.out, HPL.out, List.take_length]
      by_cases h1 : ps.length ≤ 200
      · have q1 : decide ((ps.length : Int) ≤ 200) = true := by simp; omega
        go_wp2
        go_ret
        refine ⟨ret_b ?_, HB.out⟩
        have h2 := HM2.out
        have h3 := HPL.out
        first | (rw [h2, Bool.eq_iff_iff, decide_eq_true_iff, decide_eq_true_iff]; omega) | (rw [eq_comm, decide_eq_false_iff_not]; omega)
      · have q1 : decide ((ps.length : Int) ≤ 200) = false := by simp; omega
        go_wp2
        go_ret
        refine ⟨ret_b ?_, HB.out⟩
        have h2 := HM2.out
        have h3 := HPL.out
        first | (rw [h2, Bool.eq_iff_iff, decide_eq_true_iff, decide_eq_true_iff]; omega) | (rw [eq_comm, decide_eq_false_iff_not]; omega)
end Go.Proofs.YtiiehnjgljadbaaDoor
