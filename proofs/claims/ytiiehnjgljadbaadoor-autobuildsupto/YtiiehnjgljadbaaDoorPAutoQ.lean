/-
  The reference's listsOf at a leaf that LeavesOf answered.
-/
import Derived.Test.YtiiehnjgljadbaaDoorPAutoB
import Derived.Test.YtiiehnjgljadbaaDoorPAutoP
import Derived.Test.YtiiehnjgljadbaaDoorPLvX
namespace Go.Proofs.YtiiehnjgljadbaaDoor
open Go.RowKit
theorem lfQ_path {p q : List Tr} {ts : List Tr} (h : q ∈ qL p ts) : (lfQ q).path = q.map Tr.id := by
  have hne : q ≠ [] := qL_ne ts p q h
  obtain ⟨r, x, rfl⟩ : ∃ r x, q = r ++ [x] := ⟨q.dropLast, q.getLast hne, (List.dropLast_concat_getLast hne).symm⟩
  rw [lfQ_snoc]
  rfl
/-- Leaf j: where it lies, whatever is new; its lists. -/
theorem listsAt (t : Tr) (hs : t.Sm) (hv : vldN t = 0) (hcnt : t.cnt ≤ 900) (a : Option Addr) (c : Nat) (P : Nat → Prop) (w1 : World) (N : Nat) (hl : LiesN w1 P a t.sub) (va : Option Addr) (vn vc : Nat) (hx : LvX 54 w1 N (.slice va vn vc) ((qL [] t.sub).map lfQ)) (j : Nat) (hj : j < (qL [] t.sub).length) :
    ∃ g fi fk pa pn pc, ∃ fm fd : Nat, va = some ⟨g, 0, none⟩ ∧ ∀ X, Below w1.heap.size w1 X → X.cell? ⟨g, j * 5, none⟩ = some (.int .i64 fi) ∧ X.cell? ⟨g, j * 5 + 1, none⟩ = some (.int .i64 fk) ∧ X.cell? ⟨g, j * 5 + 2, none⟩ = some (.int .i64 (fm : Nat)) ∧ X.cell? ⟨g, j * 5 + 3, none⟩ = some (.int .i64 (fd : Nat)) ∧ X.cell? ⟨g, j * 5 + 4, none⟩ = some (.slice pa pn pc) ∧
      Calls Tryd.prog 19 #[nodeV t a c, .agg #[.int .i64 fi, .int .i64 fk, .int .i64 (fm : Nat), .int .i64 (fd : Nat), .slice pa pn pc]] X fun e w' => (∃ lv, e = .returned lv ∧ w'.ownsRow X.heap.size 3 1 lv (rptI (qL [] t.sub)[j]).length (i64s (rptI (qL [] t.sub)[j]))) ∧ Below X.heap.size X w' := by
  obtain ⟨h1, h2, _, _, h5⟩ := right_parts hv
  have hm := List.getElem_mem hj
  obtain ⟨hm1, hm2⟩ := qL_mem t.sub [] _ hm
  have hpt := lfQ_path hm
  obtain ⟨g, pa, pc, e, c0, c1, c2, c3, c4, hp⟩ := hx.at_ j (by simpa using hj)
  simp only [List.getElem_map] at c0 c1 c2 c3 c4 hp
  rw [hpt] at c4 hp
  rw [List.length_map] at c4
  refine ⟨g, _, _, pa, _, pc, _, _, e, fun X hX => ⟨(hX.cell (World.block_lt_of_cell? w1 _ c0)).trans c0, (hX.cell (World.block_lt_of_cell? w1 _ c1)).trans c1, (hX.cell (World.block_lt_of_cell? w1 _ c2)).trans c2, (hX.cell (World.block_lt_of_cell? w1 _ c3)).trans c3, (hX.cell (World.block_lt_of_cell? w1 _ c4)).trans c4, ?_⟩⟩
  exact listsOf_any t hs h1 h2 h5 _ (fun y hy => (hm1 y hy).resolve_left (by simp)) (by have := Tr.cnt_eq t; simp at hm2; omega) _ _ _ _ pa pc P a c X (hl.keep hX) (hp.1.keep hX)
end Go.Proofs.YtiiehnjgljadbaaDoor
