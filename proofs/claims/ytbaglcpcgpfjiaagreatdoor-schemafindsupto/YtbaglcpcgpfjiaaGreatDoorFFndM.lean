/-
  A walk that looks for a number, and one that tells the leaves' numbers: the words, without the program.
-/
import Derived.Test.YtbaglcpcgpfjiaaGreatDoorFSErrM
import Derived.Test.YtbaglcpcgpfjiaaGreatDoorFBIds
namespace Go.Proofs.YtbaglcpcgpfjiaaGreatDoor
open Go.RowKit
/-- The visitor that looks for a number. -/
def stF (id : Int) (_ : Option Tr) (_ : List Tr) (t : Tr) : Bool × Option Tr := (!(t.id == id), some t)
mutual
theorem wkF_T (id : Int) : ∀ (t : Tr) (s : Option Tr) (path : List Tr), (∀ x, (ndT t).find? (fun y => y.id == id) = some x → wkT (stF id) s path t = (false, some x)) ∧ ((ndT t).find? (fun y => y.id == id) = none → (wkT (stF id) s path t).1 = true)
  | .node i nm rep kind sub, s, path => by
    rw [ndT_eq, List.find?_cons, wkT_eq]
    by_cases h : i = id
    · have e : ((Tr.node i nm rep kind sub).id == id) = true := by simp [Tr.id, h]
      simp only [e, stF, Bool.not_true]
      exact ⟨fun x hx => by injection hx with hx; simp [hx], fun hx => by simp at hx⟩
    · have e : ((Tr.node i nm rep kind sub).id == id) = false := by simp [Tr.id, h]
      simp only [e, stF, Bool.not_false, if_true]
      exact wkF_L id sub _ _
theorem wkF_L (id : Int) : ∀ (ts : List Tr) (s : Option Tr) (path : List Tr), (∀ x, (ndL ts).find? (fun y => y.id == id) = some x → wkL (stF id) s path ts = (false, some x)) ∧ ((ndL ts).find? (fun y => y.id == id) = none → (wkL (stF id) s path ts).1 = true)
  | [], s, path => by simp [ndL, wkL]
  | t :: ts, s, path => by
    have h1 := wkF_T id t s path
    have h2 := wkF_L id ts (wkT (stF id) s path t).2 path
    rw [ndL, List.find?_append, wkL]
    cases hf : (ndT t).find? (fun y => y.id == id) with
    | some y =>
      rw [h1.1 y hf]
      simp
    | none =>
      rw [if_pos (h1.2 hf)]
      simpa using h2
end
/-- The visitor that tells the leaves' numbers. -/
def stU (s : List Int) (_ : List Tr) (t : Tr) : Bool × List Int := (true, if t.kind = 0 then s else s ++ [t.id])
/-- The leaves' numbers. -/
def lfI (ts : List Tr) : List Int := (ts.filter fun x => !(x.kind == 0)).map Tr.id
theorem lfI_app (xs ys : List Tr) : lfI (xs ++ ys) = lfI xs ++ lfI ys := by simp [lfI]
theorem lfI_one (t : Tr) : lfI [t] = if t.kind = 0 then [] else [t.id] := by
  by_cases h : t.kind = 0
  · simp [lfI, h]
  · simp [lfI, h]
mutual
theorem wkU_T : ∀ (t : Tr) (s : List Int) (path : List Tr), wkT stU s path t = (true, s ++ lfI (ndT t))
  | .node i nm rep kind sub, s, path => by
    rw [wkT_eq, ndT_eq]
    have e : (stU s path (.node i nm rep kind sub)).1 = true := rfl
    rw [if_pos e]
    show wkL stU _ _ sub = _
    rw [wkU_L sub]
    rw [show (.node i nm rep kind sub : Tr) :: ndL (Tr.node i nm rep kind sub).sub = [.node i nm rep kind sub] ++ ndL (Tr.node i nm rep kind sub).sub from rfl, lfI_app, lfI_one]
    simp only [stU]
    split
    · simp; rfl
    · simp; rfl
theorem wkU_L : ∀ (ts : List Tr) (s : List Int) (path : List Tr), wkL stU s path ts = (true, s ++ lfI (ndL ts))
  | [], s, path => by simp [wkL, ndL, lfI]
  | t :: ts, s, path => by
    rw [wkL, ndL, wkU_T t s path, if_pos rfl, wkU_L ts, lfI_app, List.append_assoc]
end
theorem lfI_len (ts : List Tr) : (lfI ts).length ≤ ts.length := by
  unfold lfI
  rw [List.length_map]
  exact List.length_filter_le _ _
theorem fl_nd (t : Tr) (k : Nat) (hc : t.cnt ≤ 2000) (hd : t.Dp k) (hk : k ≤ 100) : (fl t).map Pc.t = ndT t := by
  have h := flT_pre t [] 1 (-1) k (by simpa using hc) hd (by omega)
  unfold fl
  rw [h]
  simp only [List.nil_append, List.length_nil]
  exact preT_map t 0 1 (-1)
/-- A node in a schema: not deeper, with no more nodes. -/
theorem nd_in : ∀ (n : Nat) (t : Tr), SizeOf.sizeOf t < n → ∀ x ∈ ndT t, x.cnt ≤ t.cnt ∧ (∀ k, t.Dp k → x.Dp k) ∧ (t.Sm → x.Sm)
  | 0, t, h => absurd h (Nat.not_lt_zero _)
  | n + 1, t, hsz => fun x hx => by
    rw [ndT_eq] at hx
    rcases List.mem_cons.1 hx with rfl | hx
    · exact ⟨Nat.le_refl _, fun _ h => h, fun h => h⟩
    · have hm : ∀ (ts : List Tr), x ∈ ndL ts → ∃ y ∈ ts, x ∈ ndT y := fun ts => by
        induction ts with
        | nil => simp [ndL]
        | cons y ys ih =>
          rw [ndL, List.mem_append]
          rintro (h | h)
          · exact ⟨y, by simp, h⟩
          · obtain ⟨z, h1, h2⟩ := ih h
            exact ⟨z, by simp [h1], h2⟩
      obtain ⟨y, hy, hx⟩ := hm _ hx
      obtain ⟨j, hj, rfl⟩ := List.getElem_of_mem hy
      obtain ⟨h1, h2, h3⟩ := nd_in n t.sub[j] (by have := t.sub_size j hj; omega) x hx
      have hcn : t.sub[j].cnt + 1 ≤ t.cnt := by
        rw [Tr.cnt_eq t]
        have h : ∀ (ts : List Tr) (j : Nat) (hj : j < ts.length), ts[j].cnt ≤ cntL ts := fun ts => by
          induction ts with
          | nil => intro j hj; simp at hj
          | cons x xs ih =>
            intro j hj
            rw [cntL]
            cases j with
            | zero => simp
            | succ j => have := ih j (by simpa using hj); simp; omega
        have := h t.sub j hj
        omega
      refine ⟨by omega, fun k hk => ?_, fun h => h3 (h.at_ j hj)⟩
      cases k with
      | zero => exact absurd hk.pos (Nat.lt_irrefl _)
      | succ k => exact dp_up (h2 k (hk.at_ j hj))
where
  dp_up {x : Tr} {k : Nat} (h : x.Dp k) : x.Dp (k + 1) := by
    induction h with
    | mk n id nm rep kind sub h ih => exact .mk _ _ _ _ _ _ ih
end Go.Proofs.YtbaglcpcgpfjiaaGreatDoor
