/-
  A schema's leaves by going up from each, and by walking down: the same; the words, without the program.
-/
import Derived.Test.YtdpedailookcjaaDoorSBIds
import Derived.Test.YtdpedailookcjaaDoorSLfM
namespace Go.Proofs.YtdpedailookcjaaDoor
open Go.RowKit
mutual
/-- The leaves of a tree, the nodes around it known (the root aside). -/
def lvT (p : List Tr) : Tr → List Lf
  | .node id nm rep kind sub => (if kind = 0 then [] else [lfO (.node id nm rep kind sub) p]) ++ lvL (p ++ [.node id nm rep kind sub]) sub
def lvL (p : List Tr) : List Tr → List Lf
  | [] => []
  | t :: ts => lvT p t ++ lvL p ts
end
mutual
/-- The nodes around each node of the flat list. -/
def ppT (p : List Tr) : Tr → List (List Tr)
  | .node id nm rep kind sub => p :: ppL (p ++ [.node id nm rep kind sub]) sub
def ppL (p : List Tr) : List Tr → List (List Tr)
  | [] => []
  | t :: ts => ppT p t ++ ppL p ts
end
mutual
theorem ppT_len : ∀ (t : Tr) (p : List Tr), (ppT p t).length = t.cnt
  | .node id nm rep kind sub, p => by rw [ppT, Tr.cnt, List.length_cons, ppL_len sub]; omega
theorem ppL_len : ∀ (ts : List Tr) (p : List Tr), (ppL p ts).length = cntL ts
  | [], p => by rw [ppL, cntL]; rfl
  | t :: ts, p => by rw [ppL, cntL, List.length_append, ppT_len t, ppL_len ts]
end
/-- The leaf that a node is, if it is one. -/
def lfG (x : Tr × List Tr) : List Lf := if x.1.kind = 0 then [] else [lfO x.1 x.2]
mutual
theorem lvT_zip : ∀ (t : Tr) (p : List Tr), lvT p t = ((ndT t).zip (ppT p t)).flatMap lfG
  | .node id nm rep kind sub, p => by
    rw [lvT, ndT, ppT, List.zip_cons_cons, List.flatMap_cons, lvL_zip sub]
    rfl
theorem lvL_zip : ∀ (ts : List Tr) (p : List Tr), lvL p ts = ((ndL ts).zip (ppL p ts)).flatMap lfG
  | [], p => by rw [lvL, ndL, ppL]; rfl
  | t :: ts, p => by
    rw [lvL, ndL, ppL, List.zip_append (by rw [ndT_len, ppT_len]), List.flatMap_append, lvT_zip t, lvL_zip ts]
end
/-- Going up from a place: the nodes from the top one down to it. -/
inductive Up (l : List Pc) : Nat → List Tr → Prop
  | top : Up l 0 []
  | step {k q : Nat} {e : Pc} {p : List Tr} (hk : 0 < k) (he : l[k]? = some e) (ha : e.around = (q : Int)) (hq : q < k) (hp : Up l q p) : Up l k (p ++ [e.t])
mutual
theorem upT : ∀ (t : Tr) (l : List Pc) (base d q : Nat) (p : List Tr), 0 < base → q < base → Up l q p → (∀ j, j < t.cnt → l[base + j]? = (preT base t d q)[j]?) → ∀ j (h1 : j < (ppT p t).length) (h2 : j < (ndT t).length), Up l (base + j) ((ppT p t)[j] ++ [(ndT t)[j]])
  | .node id nm rep kind sub, l, base, d, q, p, hb, hq, hu, hl, j, h1, h2 => by
    have h0 := hl 0 (by rw [Tr.cnt]; omega)
    rw [preT] at h0
    have ht : Up l base (p ++ [.node id nm rep kind sub]) := Up.step (e := ⟨.node id nm rep kind sub, d, q⟩) hb (by simpa using h0) rfl hq hu
    cases j with
    | zero => simpa [ppT, ndT] using ht
    | succ j =>
      have h3 : j < (ppL (p ++ [.node id nm rep kind sub]) sub).length := by rw [ppT] at h1; simpa using h1
      have h4 : j < (ndL sub).length := by rw [ndT] at h2; simpa using h2
      have := upL sub l (base + 1) (d + 1) base (p ++ [.node id nm rep kind sub]) (by omega) (by omega) ht (fun j hj => by
        have := hl (j + 1) (by rw [Tr.cnt]; omega)
        rw [preT, List.getElem?_cons_succ] at this
        rw [← this]
        congr 1
        omega) j h3 h4
      have e1 : (ppT p (.node id nm rep kind sub))[j + 1] = (ppL (p ++ [.node id nm rep kind sub]) sub)[j] := by simp [ppT]
      have e2 : (ndT (.node id nm rep kind sub))[j + 1] = (ndL sub)[j] := by simp [ndT]
      rw [e1, e2, show base + (j + 1) = base + 1 + j by omega]
      exact this
theorem upL : ∀ (ts : List Tr) (l : List Pc) (base d q : Nat) (p : List Tr), 0 < base → q < base → Up l q p → (∀ j, j < cntL ts → l[base + j]? = (preL base ts d q)[j]?) → ∀ j (h1 : j < (ppL p ts).length) (h2 : j < (ndL ts).length), Up l (base + j) ((ppL p ts)[j] ++ [(ndL ts)[j]])
  | [], l, base, d, q, p, hb, hq, hu, hl, j, h1, h2 => by rw [ndL] at h2; simp at h2
  | t :: ts, l, base, d, q, p, hb, hq, hu, hl, j, h1, h2 => by
    rw [cntL] at hl
    by_cases hj : j < t.cnt
    · have h3 : j < (ppT p t).length := by rw [ppT_len]; exact hj
      have h4 : j < (ndT t).length := by rw [ndT_len]; exact hj
      have := upT t l base d q p hb hq hu (fun i hi => by rw [hl i (by omega), preL, List.getElem?_append_left (by rw [preT_len]; exact hi)]) j h3 h4
      have e1 : (ppL p (t :: ts))[j] = (ppT p t)[j] := by simp only [ppL]; rw [List.getElem_append_left h3]
      have e2 : (ndL (t :: ts))[j] = (ndT t)[j] := by simp only [ndL]; rw [List.getElem_append_left h4]
      rw [e1, e2]
      exact this
    · have h5 : j - t.cnt < (ppL p ts).length := by rw [ppL_len] at h1 ⊢; rw [cntL] at h1; omega
      have h6 : j - t.cnt < (ndL ts).length := by rw [ndL_len] at h2 ⊢; rw [cntL] at h2; omega
      have := upL ts l (base + t.cnt) d q p (by omega) (by omega) hu (fun i hi => by
        have h := hl (t.cnt + i) (by omega)
        rw [preL, List.getElem?_append_right (by rw [preT_len]; omega), preT_len] at h
        rw [show base + t.cnt + i = base + (t.cnt + i) by omega, h]
        congr 1
        omega) (j - t.cnt) h5 h6
      have e1 : (ppL p (t :: ts))[j] = (ppL p ts)[j - t.cnt] := by simp only [ppL]; rw [List.getElem_append_right (by rw [ppT_len]; omega)]; simp only [ppT_len]
      have e2 : (ndL (t :: ts))[j] = (ndL ts)[j - t.cnt] := by simp only [ndL]; rw [List.getElem_append_right (by rw [ndT_len]; omega)]; simp only [ndT_len]
      rw [e1, e2, show base + j = base + t.cnt + (j - t.cnt) by omega]
      exact this
end
/-- Of a right schema: what is above each place of the flat list. -/
theorem up_fl (t : Tr) (h : inB t = true) (i : Nat) (h1 : 1 ≤ i) (hi : i < (fl t).length) : ∃ (h2 : i - 1 < (ppL [] t.sub).length) (h3 : i - 1 < (ndL t.sub).length), Up (fl t) i ((ppL [] t.sub)[i - 1] ++ [(ndL t.sub)[i - 1]]) ∧ (ndL t.sub)[i - 1] = (fl t)[i].t := by
  have hf := fl_pre t h
  have hlen : (fl t).length = 1 + cntL t.sub := by rw [hf, List.length_cons, preL_len]; omega
  have h2 : i - 1 < (ppL [] t.sub).length := by rw [ppL_len]; omega
  have h3 : i - 1 < (ndL t.sub).length := by rw [ndL_len]; omega
  refine ⟨h2, h3, ?_, ?_⟩
  · have := upL t.sub (fl t) 1 2 0 [] (by omega) (by omega) .top (fun j hj => by rw [hf, Nat.add_comm 1 j, List.getElem?_cons_succ]; rfl) (i - 1) h2 h3
    rwa [show 1 + (i - 1) = i by omega] at this
  · have e : (ndL t.sub)[i - 1]? = some (fl t)[i].t := by
      rw [← preL_map t.sub 1 2 0, List.getElem?_map]
      have : (preL 1 t.sub 2 0)[i - 1]? = some (fl t)[i] := by
        rw [← List.getElem?_eq_getElem hi, hf]
        rw [show i = (i - 1) + 1 by omega, List.getElem?_cons_succ]
        rfl
      rw [this]
      rfl
    rw [List.getElem?_eq_getElem h3] at e
    exact Option.some.inj e
theorem Up.pos {l : List Pc} {k : Nat} {p : List Tr} (h : Up l k p) (hk : 0 < k) : ∃ (q : Nat) (e : Pc) (p' : List Tr), l[k]? = some e ∧ e.around = (q : Int) ∧ q < k ∧ Up l q p' ∧ p = p' ++ [e.t] := by
  cases h with
  | top => omega
  | step hk he ha hq hp => exact ⟨_, _, _, he, ha, hq, hp, rfl⟩
theorem Up.zero {l : List Pc} {p : List Tr} (h : Up l 0 p) : p = [] := by
  cases h with
  | top => rfl
  | step hk he ha hq hp => omega
theorem Up.len {l : List Pc} {k : Nat} {p : List Tr} (h : Up l k p) : p.length ≤ k := by
  induction h with
  | top => simp
  | step hk he ha hq hp ih => simp; omega
end Go.Proofs.YtdpedailookcjaaDoor
