/-
  A column that is put together: its rows grow.
-/
import Derived.Test.YthlnjnoeaicjjaaDoorPBColH
import Derived.Test.YthlnjnoeaicjjaaDoorPBRow4
import Derived.Test.YthlnjnoeaicjjaaDoorPAppAny
namespace Go.Proofs.YthlnjnoeaicjjaaDoor
open Go.RowKit
theorem news_v {w : World} {ad : Option Addr} {vs : List Vl} (hl : LiesV w ad vs) : ∀ j u, (vcells vs)[j]? = some u → ∃ a, ad = some a ∧ w.cell? (a.add j) = some u := fun j u hu => by
  obtain ⟨i, r, hi, rfl, hr⟩ := vcells_cell vs j u hu
  obtain ⟨b, o, e, h0, h1, h2⟩ := hl i hi
  refine ⟨_, e, ?_⟩
  rw [addr_up]
  rcases hr with ⟨rfl, rfl⟩ | ⟨rfl, rfl⟩ | ⟨rfl, rfl⟩
  · exact h0
  · rw [← Nat.add_assoc]; exact h1
  · rw [← Nat.add_assoc]; exact h2
theorem one_v (vs : List Vl) : ∀ u ∈ vcells vs, u.oneCell' = true := fun u hu => by obtain ⟨x, _, hx⟩ := List.mem_flatMap.1 hu; simp at hx; rcases hx with rfl | rfl | rfl <;> rfl
theorem vcells_app (xs ys : List Vl) : vcells (xs ++ ys) = vcells xs ++ vcells ys := by simp [vcells]
/-- A column that is put together, in a cell of the call's own. -/
structure AcI (g N : Nat) (id : Int) (rv : Value) (reps : List Int) (dv : Value) (defs : List Int) (vv : Value) (vals : List Vl) (W : World) : Prop where
  cell : W.heap[g]? = some (.cells #[.int .i64 id, rv, dv, vv] 44 (0, 0))
  rrow : W.ownsRow N 3 1 rv reps.length (i64s reps)
  drow : W.ownsRow N 3 1 dv defs.length (i64s defs)
  vrow : W.ownsRow N 23 3 vv vals.length (vcells vals)
  two : ∀ k, rv.ownBlock = some k → dv.ownBlock ≠ some k
theorem AcI.stay {g N : Nat} {id : Int} {rv dv vv : Value} {reps defs : List Int} {vals : List Vl} {W w' : World} (h : AcI g N id rv reps dv defs vv vals W) (hb : Below W.heap.size W w') : AcI g N id rv reps dv defs vv vals w' :=
  ⟨blk_keep hb h.cell, ow_kept h.rrow hb, ow_kept h.drow hb, ow_kept h.vrow hb, h.two⟩
theorem AcI.start {g N : Nat} {id : Int} {W : World} (h : W.heap[g]? = some (.cells #[.int .i64 id, .slice none 0 0, .slice none 0 0, .slice none 0 0] 44 (0, 0))) : AcI g N id (.slice none 0 0) [] (.slice none 0 0) [] (.slice none 0 0) [] W :=
  ⟨h, World.ownsRow_nil W N 3 1, World.ownsRow_nil W N 3 1, World.ownsRow_nil W N 23 3, fun k hk => by simp [Value.ownBlock] at hk⟩
theorem AcI.appR {g N : Nat} {id : Int} {rv dv vv : Value} {reps defs : List Int} {vals : List Vl} {W w1 : World} {x2 : Value} {xs : List Int} (h : AcI g N id rv reps dv defs vv vals W)
    (hown : w1.ownsRow N 3 1 x2 (reps.length + xs.length) (i64s reps ++ i64s xs)) (hg : W.grownBy w1 rv.ownBlock) (hw : x2.ownBlock = rv.ownBlock ∨ x2.ownBlock = some W.heap.size) :
    w1.heap[g]? = some (.cells #[.int .i64 id, rv, dv, vv] 44 (0, 0)) ∧ AcI g N id x2 (reps ++ xs) dv defs vv vals (w1.setCell ⟨g, 1, none⟩ x2) ∧ DFr g N W (w1.setCell ⟨g, 1, none⟩ x2) := by
  have hgl := lt_of_block h.cell
  have hng : some g ≠ rv.ownBlock := own_type h.rrow h.cell (by decide)
  have hng2 : x2.ownBlock ≠ some g := by
    rcases hw with e | e
    · rw [e]; exact fun e2 => hng e2.symm
    · rw [e]; simp; omega
  have eC : w1.heap[g]? = some (.cells #[.int .i64 id, rv, dv, vv] 44 (0, 0)) := by
    rw [hg.block g (by omega) hng]
    exact h.cell
  have hset : ∀ k, k ≠ g → (w1.setCell ⟨g, 1, none⟩ x2).heap[k]? = w1.heap[k]? := fun k hk => Below.heap_setCell _ ⟨g, 1, none⟩ _ _ hk
  have hrow : ∀ {e s n : Nat} {v : Value} {xs : List Value}, W.ownsRow N e s v n xs → e ≠ 44 → (∀ k, v.ownBlock = some k → some k ≠ rv.ownBlock) → (w1.setCell ⟨g, 1, none⟩ x2).ownsRow N e s v n xs := fun hr he hne => own_same hr fun k hk => by
    obtain ⟨q1, q2, cs, q3⟩ := own_block hr hk
    have hkg : k ≠ g := fun e2 => by subst e2; rw [h.cell] at q3; injection q3 with q3; injection q3 with _ q3 _; exact he q3.symm
    rw [hset k hkg, hg.block k q2 (hne k hk)]
  have hty : ∀ {e s n : Nat} {v : Value} {xs : List Value}, W.ownsRow N e s v n xs → 3 ≠ e → ∀ k, v.ownBlock = some k → some k ≠ rv.ownBlock := fun hr he k hk => by
    obtain ⟨_, _, cs, q3⟩ := own_block hr hk
    exact own_type h.rrow q3 he
  refine ⟨eC, ?_, ⟨hg.os, hg.tape, hg.output, by have := hg.size; simp; omega, fun k hk hne ht => ?_⟩⟩
  · refine ⟨?_, ?_, hrow h.drow (by decide) (fun k hk e => h.two k e.symm hk), hrow h.vrow (by decide) (hty h.vrow (by decide)), ?_⟩
    · rw [row_setC eC]; rfl
    · rw [List.length_append, i64s_app]
      exact own_same hown fun k hk => hset k (fun e2 => by subst e2; exact hng2 hk)
    · intro k hk
      rcases hw with e | e
      · rw [e] at hk; exact h.two k hk
      · rw [e] at hk
        simp at hk
        intro e2
        have := (own_block h.drow e2).2.1
        omega
  · rw [hset k hne, hg.block k hk (fun e => ?_)]
    obtain ⟨q1, _, cs, q3⟩ := own_block h.rrow e.symm
    exact absurd rfl (ht q1 cs _ _ q3).1
theorem AcI.appD {g N : Nat} {id : Int} {rv dv vv : Value} {reps defs : List Int} {vals : List Vl} {W w1 : World} {x2 : Value} {xs : List Int} (h : AcI g N id rv reps dv defs vv vals W)
    (hown : w1.ownsRow N 3 1 x2 (defs.length + xs.length) (i64s defs ++ i64s xs)) (hg : W.grownBy w1 dv.ownBlock) (hw : x2.ownBlock = dv.ownBlock ∨ x2.ownBlock = some W.heap.size) :
    w1.heap[g]? = some (.cells #[.int .i64 id, rv, dv, vv] 44 (0, 0)) ∧ AcI g N id rv reps x2 (defs ++ xs) vv vals (w1.setCell ⟨g, 2, none⟩ x2) ∧ DFr g N W (w1.setCell ⟨g, 2, none⟩ x2) := by
  have hgl := lt_of_block h.cell
  have hng : some g ≠ dv.ownBlock := own_type h.drow h.cell (by decide)
  have hng2 : x2.ownBlock ≠ some g := by
    rcases hw with e | e
    · rw [e]; exact fun e2 => hng e2.symm
    · rw [e]; simp; omega
  have eC : w1.heap[g]? = some (.cells #[.int .i64 id, rv, dv, vv] 44 (0, 0)) := by
    rw [hg.block g (by omega) hng]
    exact h.cell
  have hset : ∀ k, k ≠ g → (w1.setCell ⟨g, 2, none⟩ x2).heap[k]? = w1.heap[k]? := fun k hk => Below.heap_setCell _ ⟨g, 2, none⟩ _ _ hk
  have hrow : ∀ {e s n : Nat} {v : Value} {xs : List Value}, W.ownsRow N e s v n xs → e ≠ 44 → (∀ k, v.ownBlock = some k → some k ≠ dv.ownBlock) → (w1.setCell ⟨g, 2, none⟩ x2).ownsRow N e s v n xs := fun hr he hne => own_same hr fun k hk => by
    obtain ⟨q1, q2, cs, q3⟩ := own_block hr hk
    have hkg : k ≠ g := fun e2 => by subst e2; rw [h.cell] at q3; injection q3 with q3; injection q3 with _ q3 _; exact he q3.symm
    rw [hset k hkg, hg.block k q2 (hne k hk)]
  have hty : ∀ {e s n : Nat} {v : Value} {xs : List Value}, W.ownsRow N e s v n xs → 3 ≠ e → ∀ k, v.ownBlock = some k → some k ≠ dv.ownBlock := fun hr he k hk => by
    obtain ⟨_, _, cs, q3⟩ := own_block hr hk
    exact own_type h.drow q3 he
  refine ⟨eC, ?_, ⟨hg.os, hg.tape, hg.output, by have := hg.size; simp; omega, fun k hk hne ht => ?_⟩⟩
  · refine ⟨?_, hrow h.rrow (by decide) (fun k hk e => h.two k hk e.symm), ?_, hrow h.vrow (by decide) (hty h.vrow (by decide)), ?_⟩
    · rw [row_setC eC]; rfl
    · rw [List.length_append, i64s_app]
      exact own_same hown fun k hk => hset k (fun e2 => by subst e2; exact hng2 hk)
    · intro k hk e2
      rcases hw with e | e
      · rw [e] at e2; exact h.two k hk e2
      · rw [e] at e2
        simp at e2
        have := (own_block h.rrow hk).2.1
        omega
  · rw [hset k hne, hg.block k hk (fun e => ?_)]
    obtain ⟨q1, _, cs, q3⟩ := own_block h.drow e.symm
    exact absurd rfl (ht q1 cs _ _ q3).1
theorem AcI.appV {g N : Nat} {id : Int} {rv dv vv : Value} {reps defs : List Int} {vals : List Vl} {W w1 : World} {x2 : Value} {xs : List Vl} (h : AcI g N id rv reps dv defs vv vals W)
    (hown : w1.ownsRow N 23 3 x2 (vals.length + xs.length) (vcells vals ++ vcells xs)) (hg : W.grownBy w1 vv.ownBlock) (hw : x2.ownBlock = vv.ownBlock ∨ x2.ownBlock = some W.heap.size) :
    w1.heap[g]? = some (.cells #[.int .i64 id, rv, dv, vv] 44 (0, 0)) ∧ AcI g N id rv reps dv defs x2 (vals ++ xs) (w1.setCell ⟨g, 3, none⟩ x2) ∧ DFr g N W (w1.setCell ⟨g, 3, none⟩ x2) := by
  have hgl := lt_of_block h.cell
  have hng : some g ≠ vv.ownBlock := own_type h.vrow h.cell (by decide)
  have hng2 : x2.ownBlock ≠ some g := by
    rcases hw with e | e
    · rw [e]; exact fun e2 => hng e2.symm
    · rw [e]; simp; omega
  have eC : w1.heap[g]? = some (.cells #[.int .i64 id, rv, dv, vv] 44 (0, 0)) := by
    rw [hg.block g (by omega) hng]
    exact h.cell
  have hset : ∀ k, k ≠ g → (w1.setCell ⟨g, 3, none⟩ x2).heap[k]? = w1.heap[k]? := fun k hk => Below.heap_setCell _ ⟨g, 3, none⟩ _ _ hk
  have hrow : ∀ {e s n : Nat} {v : Value} {xs : List Value}, W.ownsRow N e s v n xs → e ≠ 44 → (∀ k, v.ownBlock = some k → some k ≠ vv.ownBlock) → (w1.setCell ⟨g, 3, none⟩ x2).ownsRow N e s v n xs := fun hr he hne => own_same hr fun k hk => by
    obtain ⟨q1, q2, cs, q3⟩ := own_block hr hk
    have hkg : k ≠ g := fun e2 => by subst e2; rw [h.cell] at q3; injection q3 with q3; injection q3 with _ q3 _; exact he q3.symm
    rw [hset k hkg, hg.block k q2 (hne k hk)]
  have hty : ∀ {e s n : Nat} {v : Value} {xs : List Value}, W.ownsRow N e s v n xs → 23 ≠ e → ∀ k, v.ownBlock = some k → some k ≠ vv.ownBlock := fun hr he k hk => by
    obtain ⟨_, _, cs, q3⟩ := own_block hr hk
    exact own_type h.vrow q3 he
  refine ⟨eC, ?_, ⟨hg.os, hg.tape, hg.output, by have := hg.size; simp; omega, fun k hk hne ht => ?_⟩⟩
  · refine ⟨?_, hrow h.rrow (by decide) (hty h.rrow (by decide)), hrow h.drow (by decide) (hty h.drow (by decide)), ?_, h.two⟩
    · rw [row_setC eC]; rfl
    · rw [List.length_append, vcells_app]
      exact own_same hown fun k hk => hset k (fun e2 => by subst e2; exact hng2 hk)
  · rw [hset k hne, hg.block k hk (fun e => ?_)]
    obtain ⟨q1, _, cs, q3⟩ := own_block h.vrow e.symm
    exact absurd rfl (ht q1 cs _ _ q3).2
end Go.Proofs.YthlnjnoeaicjjaaDoor
