/-
  The paths of the leaves: the lists around a leaf, walked down and by its path.
-/
import Derived.Test.YtiiehnjgljadbaaDoorPBLfM
import Derived.Test.YtiiehnjgljadbaaDoorPListsOf
import Derived.Test.YtiiehnjgljadbaaDoorPLvM
import Derived.Test.YtiiehnjgljadbaaDoorPBValid
namespace Go.Proofs.YtiiehnjgljadbaaDoor
open Go.RowKit
mutual
/-- The paths of the leaves, each with its leaf at the end. -/
def qT (p : List Tr) : Tr → List (List Tr)
  | .node id nm rep kind sub => (if kind = 0 then [] else [p ++ [.node id nm rep kind sub]]) ++ qL (p ++ [.node id nm rep kind sub]) sub
def qL (p : List Tr) : List Tr → List (List Tr)
  | [] => []
  | t :: ts => qT p t ++ qL p ts
end
/-- A leaf, of its path. -/
def lfQ (q : List Tr) : Lf := lfO (q.getLastD (.node 0 ⟨#[]⟩ 0 0 [])) q.dropLast
theorem lfQ_snoc (p : List Tr) (t : Tr) : lfQ (p ++ [t]) = lfO t p := by simp [lfQ]
mutual
theorem lvT_q : ∀ (t : Tr) (p : List Tr), lvT p t = (qT p t).map lfQ
  | .node id nm rep kind sub, p => by
    rw [lvT, qT, List.map_append, lvL_q sub]
    congr 1
    split
    · rfl
    · simp [lfQ_snoc]
theorem lvL_q : ∀ (ts : List Tr) (p : List Tr), lvL p ts = (qL p ts).map lfQ
  | [], p => by simp [lvL, qL]
  | t :: ts, p => by rw [lvL, qL, List.map_append, lvT_q t, lvL_q ts]
end
theorem rptI_snoc (p : List Tr) (t : Tr) : rptI (p ++ [t]) = if t.rep = 3 then rptI p ++ [t.id] else rptI p := by
  unfold rptI
  by_cases h : t.rep = 3 <;> simp [h]
mutual
/-- Walked down, the lists are those of the paths. -/
theorem lsT_q : ∀ (t : Tr) (p : List Tr), (∀ y ∈ ndT t, y.kind ≠ 0 → y.sub = []) → lsT (rptI p) t = (qT p t).map rptI
  | .node id nm rep kind sub, p, h => by
    have e := rptI_snoc p (.node id nm rep kind sub)
    have e' : (if rep = 3 then rptI p ++ [id] else rptI p) = rptI (p ++ [.node id nm rep kind sub]) := e.symm
    rw [lsT, qT, e', List.map_append]
    by_cases hk : kind = 0
    · rw [if_pos hk, if_pos hk, List.map_nil, List.nil_append]
      exact lsL_q sub _ fun y hy => h y (by rw [ndT]; exact List.mem_cons_of_mem _ hy)
    · have hs : sub = [] := h (.node id nm rep kind sub) (by rw [ndT]; exact List.mem_cons_self) hk
      rw [if_neg hk, if_neg hk, hs]
      simp [qL]
theorem lsL_q : ∀ (ts : List Tr) (p : List Tr), (∀ y ∈ ndL ts, y.kind ≠ 0 → y.sub = []) → lsL (rptI p) ts = (qL p ts).map rptI
  | [], p, h => by simp [lsL, qL]
  | t :: ts, p, h => by
    rw [lsL, qL, List.map_append, lsT_q t p fun y hy => h y (by rw [ndL]; exact List.mem_append_left _ hy), lsL_q ts p fun y hy => h y (by rw [ndL]; exact List.mem_append_right _ hy)]
end
mutual
/-- A path's nodes stand in the tree; it is no longer than the tree has nodes. -/
theorem qT_mem : ∀ (t : Tr) (p q : List Tr), q ∈ qT p t → (∀ y ∈ q, y ∈ p ∨ y ∈ ndT t) ∧ q.length ≤ p.length + t.cnt
  | .node id nm rep kind sub, p, q, h => by
    rw [qT, List.mem_append] at h
    rw [ndT, Tr.cnt]
    rcases h with h | h
    · split at h
      · simp at h
      · simp only [List.mem_singleton] at h
        subst h
        refine ⟨fun y hy => ?_, by rw [List.length_append, List.length_singleton]; omega⟩
        rcases List.mem_append.1 hy with hy | hy
        · exact .inl hy
        · simp only [List.mem_singleton] at hy
          exact .inr (by rw [hy]; exact List.mem_cons_self)
    · obtain ⟨h1, h2⟩ := qL_mem sub _ q h
      refine ⟨fun y hy => ?_, by simp at h2; omega⟩
      rcases h1 y hy with h3 | h3
      · rcases List.mem_append.1 h3 with h4 | h4
        · exact .inl h4
        · simp only [List.mem_singleton] at h4
          exact .inr (by rw [h4]; exact List.mem_cons_self)
      · exact .inr (List.mem_cons_of_mem _ h3)
theorem qL_mem : ∀ (ts : List Tr) (p q : List Tr), q ∈ qL p ts → (∀ y ∈ q, y ∈ p ∨ y ∈ ndL ts) ∧ q.length ≤ p.length + cntL ts
  | [], p, q, h => by simp [qL] at h
  | t :: ts, p, q, h => by
    rw [qL, List.mem_append] at h
    rw [ndL, cntL]
    rcases h with h | h
    · obtain ⟨h1, h2⟩ := qT_mem t p q h
      exact ⟨fun y hy => (h1 y hy).imp id (List.mem_append_left _), by omega⟩
    · obtain ⟨h1, h2⟩ := qL_mem ts p q h
      exact ⟨fun y hy => (h1 y hy).imp id (List.mem_append_right _), by omega⟩
end
mutual
theorem qT_ne : ∀ (t : Tr) (p q : List Tr), q ∈ qT p t → q ≠ []
  | .node id nm rep kind sub, p, q, h => by
    rw [qT, List.mem_append] at h
    rcases h with h | h
    · split at h
      · simp at h
      · simp only [List.mem_singleton] at h
        rw [h]
        simp
    · exact qL_ne sub _ q h
theorem qL_ne : ∀ (ts : List Tr) (p q : List Tr), q ∈ qL p ts → q ≠ []
  | [], p, q, h => by simp [qL] at h
  | t :: ts, p, q, h => by
    rw [qL, List.mem_append] at h
    rcases h with h | h
    · exact qT_ne t p q h
    · exact qL_ne ts p q h
end
/-- A right schema's lists. -/
theorem lsT_root (t : Tr) (h0 : t.kind = 0) (h1 : t.rep ≠ 3) (h : ∀ y ∈ ndL t.sub, y.kind ≠ 0 → y.sub = []) : lsT [] t = (qL [] t.sub).map rptI := by
  rw [lsT_eq, if_pos h0, if_neg h1]
  exact lsL_q t.sub [] h
theorem lsT_right (t : Tr) (hv : vldN t = 0) : lsT [] t = (qL [] t.sub).map rptI := by
  obtain ⟨_, h2, h3, _⟩ := right_parts hv
  have hr := of_decide_eq_true h2
  rw [shp_all, Bool.and_eq_true, List.all_eq_true] at h3
  refine lsT_root t hr.2.2.2 (by rw [hr.2.2.1]; decide) fun y hy hk => ?_
  have h := h3.2 y hy
  unfold shpOk at h
  cases hs : y.sub with
  | nil => rfl
  | cons x xs => simp [hk, hs] at h
end Go.Proofs.YtiiehnjgljadbaaDoor
