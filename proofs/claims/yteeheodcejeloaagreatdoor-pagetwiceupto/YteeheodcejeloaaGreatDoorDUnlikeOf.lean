/-
  The reference's UnlikeOf: the unlike values, in the order in which they come, and of each value its place.
-/
import Derived.Test.YteeheodcejeloaaGreatDoorDBDictMath
import Derived.Test.YteeheodcejeloaaGreatDoorDBWordsMath
import Derived.Deep.QuietTactic
import Derived.BigQuiet
namespace Go.Proofs.YteeheodcejeloaaGreatDoor
open Go.RowKit
theorem own_two {w w' : World} {b1 b2 e1 e2 s1 s2 n m : Nat} {v u : Value} {xs ys : List Value} (h1 : w.ownsRow b1 e1 s1 v n xs) (h2 : w.ownsRow b2 e2 s2 u m ys) (hne : e1 ≠ e2) (hg : w.grownBy w' v.ownBlock) : w'.ownsRow b2 e2 s2 u m ys := by
  refine ⟨h2.1, ?_⟩
  rcases h2.2 with hn | ⟨k, cap, cur, rfl, hbk, hk, rest⟩
  · exact .inl hn
  · refine .inr ⟨k, cap, cur, rfl, hbk, (hg.block k (Array.getElem?_eq_some_iff.1 hk).1 (fun e => ?_)).trans hk, rest⟩
    rcases h1.2 with ⟨rfl, _⟩ | ⟨g1, _, cur1, rfl, _, hg1, _⟩
    · simp [Value.ownBlock] at e
    · simp [Value.ownBlock] at e
      subst e
      rw [hg1] at hk
      injection hk with hk
      injection hk with _ hk _
      exact hne hk
theorem dN {B : Nat} {a w : World} (h : Below B a w) (n : Nat) : Below B a (w.drewN n) := h.trans ⟨rfl, rfl, rfl, Nat.le_refl _, fun _ _ => rfl⟩
/-- Places, as cells. -/
def pcells (ps : List Nat) : List Value := ps.map fun p : Nat => .int .i64 (p : Int)
/-- What UnlikeOf's loop keeps. -/
structure UL (w : World) (o p : Value) (wr : World) (us : List Vl) (ps : List Nat) : Prop where
  row : wr.ownsRow w.heap.size 41 3 o us.length (vcells us)
  pl : wr.ownsRow w.heap.size 3 1 p ps.length (pcells ps)
  old : Below w.heap.size w wr
theorem UL.drewN {w : World} {o p : Value} {wr : World} {us : List Vl} {ps : List Nat} (h : UL w o p wr us ps) (n : Nat) : UL w o p (wr.drewN n) us ps := ⟨h.row, h.pl, dN h.old n⟩
/-- A value is put behind the unlike ones. -/
theorem UL.push {w : World} {o p o' : Value} {wr w1 : World} {ob : Obj} {us : List Vl} {ps : List Nat} {v : Vl} (h : UL w o p wr us ps) (hown : w1.ownsRow w.heap.size 41 3 o' (us.length + 1) (vcells us ++ [.int .i64 v.k, .int .i64 v.n, .string v.s])) (hg : (wr.alloc ob).grownBy w1 o.ownBlock) : UL w o' p w1 (us ++ [v]) ps :=
  ⟨by rw [vcells_snoc, List.length_append]; exact hown, own_two (h.row.alloc ob) (h.pl.alloc ob) (by decide) hg, (h.old.alloc h.old.size ob).grown hg (by have := h.old.size; simp; omega) (fun k hk => (h.row.lt k hk).1)⟩
end Go.Proofs.YteeheodcejeloaaGreatDoor
