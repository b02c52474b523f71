/-
  What a right schema is, node by node; how long its text is.
-/
import Derived.Test.YtajaoglnembkpaaGreatDoorPSNtx
namespace Go.Proofs.YtajaoglnembkpaaGreatDoor
open Go.RowKit
theorem wkL_each {S : Type} (st : S → List Tr → Tr → Bool × S) (path : List Tr) : ∀ (ts : List Tr) (s : S), (wkL st s path ts).1 = true → ∀ j (h : j < ts.length), ∃ s', (wkT st s' path ts[j]).1 = true
  | [], s => fun _ j h => absurd h (Nat.not_lt_zero _)
  | t :: ts, s => fun h j hj => by
    rw [wkL] at h
    by_cases h1 : (wkT st s path t).1 = true
    · rw [if_pos h1] at h
      cases j with
      | zero => exact ⟨s, h1⟩
      | succ j => exact wkL_each st path ts _ h j (by simpa using hj)
    · rw [if_neg h1] at h
      exact absurd h h1
theorem wkT_each {S : Type} (st : S → List Tr → Tr → Bool × S) (s : S) (path : List Tr) (t : Tr) (h : (wkT st s path t).1 = true) : (st s path t).1 = true ∧ ∀ j (hj : j < t.sub.length), ∃ s', (wkT st s' (path ++ [t]) t.sub[j]).1 = true := by
  rw [wkT_eq] at h
  by_cases h1 : (st s path t).1 = true
  · rw [if_pos h1] at h
    exact ⟨h1, wkL_each st (path ++ [t]) t.sub _ h⟩
  · rw [if_neg h1] at h
    exact absurd h h1
theorem nmsL_ok : ∀ (ts ahead : List Tr), nmsL ahead ts = true → ∀ j (h : j < ts.length), nameOk ts[j].nm = true
  | [], _, _, j, h => absurd h (Nat.not_lt_zero _)
  | t :: ts, ahead, h, j, hj => by
    rw [nmsL] at h
    simp only [Bool.and_eq_true] at h
    cases j with
    | zero => exact h.1.1
    | succ j => exact nmsL_ok ts _ h.2 j (by simpa using hj)
theorem rt_of : ∀ (n : Nat) (t : Tr), SizeOf.sizeOf t < n → ∀ (path : List Tr) (m : Nat) (acc : List Int), 0 < path.length → t.Sm → nameOk t.nm = true → (wkT stB m path t).1 = true → (wkT stS () path t).1 = true → (wkT stM () path t).1 = true → (wkT stI acc path t).1 = true → Rt (path.length + 1) t
  | 0, t, h => absurd h (Nat.not_lt_zero _)
  | n + 1, t, hsz => fun path m acc hp hsm hnm hB hS hM hI => by
    obtain ⟨b1, b2⟩ := wkT_each stB m path t hB
    obtain ⟨s1, s2⟩ := wkT_each stS () path t hS
    obtain ⟨m1, m2⟩ := wkT_each stM () path t hM
    obtain ⟨i1, i2⟩ := wkT_each stI acc path t hI
    have hd : path.length < 6 := by simp [stB] at b1; exact b1.2
    have hs : shpOk t = true := s1
    have hn : nmsL [] t.sub = true := m1
    have hi : 1 ≤ t.id ∧ t.id ≤ 1000 := by
      rw [stI, if_neg (by omega)] at i1
      simp only [Bool.and_eq_true, decide_eq_true_eq] at i1
      exact i1.2
    simp only [shpOk, Bool.and_eq_true, decide_eq_true_eq, beq_iff_eq] at hs
    have hgd : t.kind = 0 ↔ 0 < t.sub.length := decide_eq_decide.1 hs.2
    have hsub := t.sub_size
    have hlen := hsm.len
    have hat := hsm.at_
    have hpl : ∀ x : Tr, (path ++ [x]).length = path.length + 1 := fun x => by simp
    cases t with
    | node id nm rep kind sub =>
      refine .mk _ id nm rep kind sub (by omega) hi hnm hs.1.1 hs.1.2 hgd hlen fun j hj => ?_
      · obtain ⟨x1, y1⟩ := b2 j hj
        obtain ⟨x2, y2⟩ := s2 j hj
        obtain ⟨x3, y3⟩ := m2 j hj
        obtain ⟨x4, y4⟩ := i2 j hj
        have h := rt_of n sub[j] (by have := hsub j hj; simp only [Tr.sub] at this; omega) (path ++ [.node id nm rep kind sub]) x1 x4 (by simp) (hat j hj) (nmsL_ok sub [] hn j hj) y1 y2 y3 y4
        rwa [hpl] at h
/-- The nodes of a right schema are right. -/
theorem rt_subs (t : Tr) (hsm : t.Sm) (hB : inB t = true) (hS : shpT t = true) (hM : nmsT t = true) (hI : idsT t = true) : ∀ x ∈ t.sub, Rt 2 x := fun x hx => by
  obtain ⟨j, hj, rfl⟩ := List.getElem_of_mem hx
  obtain ⟨b1, b2⟩ := wkT_each stB 0 [] t hB
  obtain ⟨s1, s2⟩ := wkT_each stS () [] t hS
  obtain ⟨m1, m2⟩ := wkT_each stM () [] t hM
  obtain ⟨i1, i2⟩ := wkT_each stI [] [] t hI
  obtain ⟨x1, y1⟩ := b2 j hj
  obtain ⟨x2, y2⟩ := s2 j hj
  obtain ⟨x3, y3⟩ := m2 j hj
  obtain ⟨x4, y4⟩ := i2 j hj
  exact rt_of _ t.sub[j] (Nat.lt_succ_self _) ([] ++ [t]) x1 x4 (by simp) (hsm.at_ j hj) (nmsL_ok t.sub [] m1 j hj) y1 y2 y3 y4
mutual
theorem cntB : ∀ (t : Tr) (m : Nat) (path : List Tr), (wkT stB m path t).1 = true → (wkT stB m path t).2 = m + t.cnt ∧ m + t.cnt ≤ 40
  | .node id nm rep kind sub, m, path => by
    rw [wkT, Tr.cnt]
    intro h
    by_cases hs : (stB m path (.node id nm rep kind sub)).1 = true
    · rw [if_pos hs] at h ⊢
      have h1 : m + 1 ≤ 40 ∧ path.length < 6 := by simpa [stB] using hs
      have h2 := cntBL sub (stB m path (.node id nm rep kind sub)).2 (path ++ [.node id nm rep kind sub]) h
      have e : (stB m path (.node id nm rep kind sub)).2 = m + 1 := rfl
      rw [e] at h2 ⊢
      exact ⟨by omega, by omega⟩
    · rw [if_neg hs] at h
      exact absurd h hs
theorem cntBL : ∀ (ts : List Tr) (m : Nat) (path : List Tr), (wkL stB m path ts).1 = true → (wkL stB m path ts).2 = m + cntL ts ∧ (m ≤ 40 → m + cntL ts ≤ 40)
  | [], m, path => by
    rw [wkL, cntL]
    exact fun _ => ⟨by simp, fun h => h⟩
  | t :: ts, m, path => by
    rw [wkL, cntL]
    intro h
    by_cases hs : (wkT stB m path t).1 = true
    · rw [if_pos hs] at h ⊢
      have h1 := cntB t m path hs
      have h2 := cntBL ts _ path h
      rw [h1.1] at h2 ⊢
      exact ⟨by omega, fun _ => by have := h2.2 h1.2; omega⟩
    · rw [if_neg hs] at h
      exact absurd h hs
end
theorem hd_len (id : Int) (nm : ByteArray) (rep kind : Int) (hi : 1 ≤ id ∧ id ≤ 1000) (hn : nameOk nm = true) (hr : 1 ≤ rep ∧ rep ≤ 3) (hk : 0 ≤ kind ∧ kind ≤ 5) : (hdTx id nm rep kind).length ≤ 40 := by
  have h1 : (repB rep).length ≤ 8 := by
    have : rep = 1 ∨ rep = 2 ∨ rep = 3 := by omega
    rcases this with rfl | rfl | rfl <;> decide
  have h2 : (kindB kind).length ≤ 6 := by
    have : kind = 0 ∨ kind = 1 ∨ kind = 2 ∨ kind = 3 ∨ kind = 4 ∨ kind = 5 := by omega
    rcases this with rfl | rfl | rfl | rfl | rfl | rfl <;> decide
  have h3 : nm.data.toList.length ≤ 12 := by
    simp only [nameOk, Bool.and_eq_true, decide_eq_true_eq] at hn
    have : nm.data.toList.length = nm.size := by simp
    omega
  have h4 : (Lib.itoa id).length ≤ 4 := by
    obtain ⟨u, rfl⟩ : ∃ u : Nat, id = u := ⟨id.toNat, by omega⟩
    rw [show Lib.itoa (u : Int) = Lib.decDigits u by unfold Lib.itoa; rw [if_neg (by omega)]; simp]
    exact (dd_len u (by omega)).2
  simp only [hdTx, List.length_append, List.length_cons]
  omega
/-- How long nodes' text is. -/
theorem ntL_len (bl : List UInt8) (C : Nat) : ∀ ts : List Tr, (∀ t ∈ ts, (ntT bl t).length ≤ C * t.cnt) → (ntL bl ts).length ≤ C * cntL ts
  | [], _ => by rw [ntL]; simp
  | t :: ts, h => by
    rw [ntL, cntL, List.length_append, Nat.mul_add]
    have h1 := h t (by simp)
    have h2 := ntL_len bl C ts fun x hx => h x (by simp [hx])
    omega
theorem ntT_len : ∀ (n : Nat) (t : Tr), SizeOf.sizeOf t < n → ∀ (deep : Nat) (bl : List UInt8), bl.length ≤ 2 * deep → Rt deep t → (ntT bl t).length ≤ 100 * t.cnt
  | 0, t, h => absurd h (Nat.not_lt_zero _)
  | n + 1, t, hsz => fun deep bl hb hrt => by
    have hsub := t.sub_size
    cases hrt with
    | mk _ id nm rep kind sub hd hi hn hr hk hg hl each =>
    have h1 := hd_len id nm rep kind hi hn hr hk
    have h2 : (ntL (bl ++ [32, 32]) sub).length ≤ 100 * cntL sub := ntL_len _ _ sub fun x hx => by
      obtain ⟨j, hj, rfl⟩ := List.getElem_of_mem hx
      exact ntT_len n sub[j] (by have := hsub j hj; simp only [Tr.sub] at this; omega) (deep + 1) _ (by simp; omega) (each j hj)
    rw [ntT, Tr.cnt, Nat.mul_add]
    split
    · simp only [List.length_append, List.length_cons, List.length_nil] at h2 ⊢
      omega
    · simp only [List.length_append, List.length_cons, List.length_nil]
      omega
theorem tx_len (t : Tr) (hsm : t.Sm) (hB : inB t = true) (hS : shpT t = true) (hM : nmsT t = true) (hI : idsT t = true) : (ntL [] t.sub).length ≤ 4000 := by
  have h1 := ntL_len [] 100 t.sub fun x hx => ntT_len _ x (Nat.lt_succ_self _) 2 [] (by simp) (rt_subs t hsm hB hS hM hI x hx)
  have h2 := (cntB t 0 [] hB).2
  rw [Tr.cnt_eq] at h2
  omega
end Go.Proofs.YtajaoglnembkpaaGreatDoor
