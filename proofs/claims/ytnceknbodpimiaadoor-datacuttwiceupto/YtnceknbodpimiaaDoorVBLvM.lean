/-
  A schema's leaves by going up from each, and by walking down: the same; the words, without the program.
  The leaves of a projection are some of the schema's, with the same levels.
-/
import Derived.Test.YtnceknbodpimiaaDoorVBIds
import Derived.Test.YtnceknbodpimiaaDoorVLfM
namespace Go.Proofs.YtnceknbodpimiaaDoor
open Go.RowKit
mutual
/-- The leaves of a tree, the nodes around it known (the root aside). -/
def lvT (p : List Tr) : Tr → List Lf
  | .node id nm rep kind sub => (if kind = 0 then [] else [lfO (.node id nm rep kind sub) p]) ++ lvL (p ++ [.node id nm rep kind sub]) sub
def lvL (p : List Tr) : List Tr → List Lf
  | [] => []
  | t :: ts => lvT p t ++ lvL p ts
end
/-- Going up from a place: the nodes from the top one down to it. -/
inductive Up (l : List Pc) : Nat → List Tr → Prop
  | top : Up l 0 []
  | step {k q : Nat} {e : Pc} {p : List Tr} (hk : 0 < k) (he : l[k]? = some e) (ha : e.around = (q : Int)) (hq : q < k) (hp : Up l q p) : Up l k (p ++ [e.t])
theorem Up.pos {l : List Pc} {k : Nat} {p : List Tr} (h : Up l k p) (hk : 0 < k) : ∃ (q : Nat) (e : Pc) (p' : List Tr), l[k]? = some e ∧ e.around = (q : Int) ∧ q < k ∧ Up l q p' ∧ p = p' ++ [e.t] := by
  cases h with
  | top => omega
  | step hk he ha hq hp => exact ⟨_, _, _, he, ha, hq, hp, rfl⟩
theorem Up.zero {l : List Pc} {p : List Tr} (h : Up l 0 p) : p = [] := by
  cases h with
  | top => rfl
  | step hk he ha hq hp => omega
theorem Up.len {l : List Pc} {k : Nat} {p : List Tr} (h : Up l k p) : p.length ≤ k := by
  induction h with
  | top => simp
  | step hk he ha hq hp ih => simp; omega
end Go.Proofs.YtnceknbodpimiaaDoor

namespace Go.Proofs.YtnceknbodpimiaaDoor
open Go.RowKit
/-- Paths of the same numbers and levels. -/
def PE (p p' : List Tr) : Prop := p.map Tr.id = p'.map Tr.id ∧ lvR p = lvR p' ∧ lvD p = lvD p'
theorem PE.snoc {p p' : List Tr} {t t' : Tr} (h : PE p p') (hi : t.id = t'.id) (hr : t.rep = t'.rep) : PE (p ++ [t]) (p' ++ [t']) := by
  refine ⟨?_, ?_, ?_⟩
  · rw [List.map_append, List.map_append, h.1]
    simp [hi]
  · rw [lvR_snoc, lvR_snoc, h.2.1, hr]
  · rw [lvD_snoc, lvD_snoc, h.2.2, hr]
theorem PE.lf {p p' : List Tr} {t t' : Tr} (h : PE p p') (hi : t.id = t'.id) (hk : t.kind = t'.kind) (hr : t.rep = t'.rep) : lfO t p = lfO t' p' := by
  obtain ⟨h1, h2, h3⟩ := h.snoc hi hr
  unfold lfO
  rw [h1, h2, h3, hi, hk]
mutual
theorem lv_idsT : ∀ (t : Tr) (p : List Tr), (lvT p t).map Lf.id = lfI (ndT t)
  | .node id nm rep kind sub, p => by
    rw [lvT, lfI_nd, List.map_append, lv_idsL sub]
    show _ = (if kind = 0 then [] else [id]) ++ lfI (ndL sub)
    congr 1
    split
    · rfl
    · rfl
theorem lv_idsL : ∀ (ts : List Tr) (p : List Tr), (lvL p ts).map Lf.id = lfI (ndL ts)
  | [], p => by simp [lvL, ndL, lfI]
  | t :: ts, p => by
    rw [lvL, ndL, List.map_append, lfI_app, lv_idsT t p, lv_idsL ts p]
end
theorem rk_lv (L : List Int) : ∀ (n : Nat) (ts : List Tr), SizeOf.sizeOf ts < n → (∀ c ∈ ts, LfOk c) → ∀ (p p' : List Tr), PE p p' → lvL p' (rkL L ts) = (lvL p ts).filter (fun f => L.contains f.id)
  | 0, ts, h => absurd h (Nat.not_lt_zero _)
  | n + 1, [], hsz => fun hl p p' _ => by simp [rkL, lvL]
  | n + 1, .node id nm rep kind sub :: ts, hsz => fun hl p p' hp => by
    have ih := rk_lv L n ts (by simp at hsz; omega) (fun c h => hl c (by simp [h])) p p' hp
    have ih2 := rk_lv L n sub (by simp at hsz; omega) (fun c h => (hl (.node id nm rep kind sub) (by simp)).sub h) (p ++ [.node id nm rep kind sub]) (p' ++ [rkT L (.node id nm rep kind sub)]) (hp.snoc (rkT_id L (.node id nm rep kind sub)).1.symm (rkT_id L (.node id nm rep kind sub)).2.2.1.symm)
    have hids := lv_idsT (.node id nm rep kind sub) p
    rw [lvL, List.filter_append, ← ih, rkL_cons]
    cases h : kept L (.node id nm rep kind sub) with
    | true =>
      rw [if_pos rfl, lvL]
      congr 1
      rw [lvT, List.filter_append, ← ih2]
      rw [rkT] at ih2 ⊢
      rw [lvT]
      congr 1
      by_cases hk : kind = 0
      · rw [if_pos hk, if_pos hk]
        rfl
      · rw [if_neg hk, if_neg hk]
        have hs : sub = [] := hl (.node id nm rep kind sub) (by simp) (.node id nm rep kind sub) (nd_self _) hk
        subst hs
        have hc : L.contains id = true := by
          obtain ⟨i, hi, hci⟩ := List.any_eq_true.1 h
          rw [lfI_nd, if_neg (show ¬ (Tr.node id nm rep kind []).kind = 0 from hk)] at hi
          have hi2 : i = id := by simpa [ndL, lfI, Tr.sub, Tr.id] using hi
          rw [← hi2]
          exact hci
        have e : lfO (.node id nm rep kind (rkL L [])) p' = lfO (.node id nm rep kind []) p := (hp.lf (t := .node id nm rep kind []) (t' := .node id nm rep kind (rkL L [])) rfl rfl rfl).symm
        rw [e, List.filter_cons_of_pos (by exact hc), List.filter_nil]
    | false =>
      rw [if_neg (by simp)]
      have hn : (lvT p (.node id nm rep kind sub)).filter (fun f => L.contains f.id) = [] := by
        rw [List.filter_eq_nil_iff]
        intro f hf hc
        have hm : f.id ∈ lfI (ndT (.node id nm rep kind sub)) := by rw [← hids]; exact List.mem_map_of_mem hf
        have h2 : kept L (.node id nm rep kind sub) = true := List.any_eq_true.2 ⟨f.id, hm, hc⟩
        rw [h] at h2
        cases h2
      rw [hn, List.nil_append]
/-- The leaves of a projection. -/
theorem rk_leaves (L : List Int) (t : Tr) (hl : LfOk t) : lvL [] (rkT L t).sub = (lvL [] t.sub).filter (fun f => L.contains f.id) := by
  rw [(rkT_id L t).2.2.2.2]
  exact rk_lv L _ t.sub (Nat.lt_succ_self _) (fun c hc => hl.sub hc) [] [] ⟨rfl, rfl, rfl⟩
end Go.Proofs.YtnceknbodpimiaaDoor
