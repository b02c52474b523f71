/-
  schema.idsAreRight: exact.
  schema.Valid: exact: which error, or none.
-/
import Derived.Test.YtkcobccmifkjcaaDoorDBOwnN
import Derived.Maps.Own
import Derived.Maps.OwnOps
import Derived.Maps.OwnSet
import Derived.Maps.Views
namespace Go.Proofs.YtkcobccmifkjcaaDoor
open Go.RowKit Go.Maps
theorem Tryd.lawI : Keyed Tryd.prog 3 := int_keyed Tryd.underlying3
def ilit (i : Int) : Lit := .int .i64 i
/-- The set that holds these numbers. -/
def idS (acc : List Int) : DataW Unit := setOf (.agg []) (acc.map ilit)
theorem idS_snoc (acc : List Int) (i : Int) : idS (acc ++ [i]) = (idS acc).put (ilit i) (.agg []) := by
  unfold idS
  rw [List.map_append, List.map_cons, List.map_nil, setOf_snoc]
theorem idS_has (acc : List Int) (i : Int) : Maps.has (idS acc) (ilit i) = acc.contains i := by
  unfold idS
  rw [has_setOf _ _ _ (fun x hx => by obtain ⟨j, _, rfl⟩ := List.mem_map.1 hx; trivial)]
  induction acc with
  | nil => rfl
  | cons x xs ih =>
    rw [List.map_cons, List.any_cons, ih, List.contains_cons]
    congr 1
    show decide (_ ∧ _) = _
    by_cases h : i = x
    · subst h; simp
    · have h' : ¬ x = i := fun e => h e.symm
      simp [h, h']
/-- A map that holds these numbers. -/
def SetI (mb : Nat) (acc : List Int) (W : World) : Prop := acc.length ≤ 1000000 ∧ W.ownsMap Tryd.prog 3 (unitElem (H := Unit)) mb acc.length (idS acc)
/-- Unlike numbers from 1 up to one are no more than it. -/
theorem unlike_len : ∀ (n : Nat) (l : List Int), l.Nodup → (∀ x ∈ l, 1 ≤ x ∧ x ≤ n) → l.length ≤ n
  | 0, l, _, hb => by
    cases l with
    | nil => simp
    | cons x xs => have := hb x (by simp); omega
  | n + 1, l, hn, hb => by
    by_cases h : ((n + 1 : Nat) : Int) ∈ l
    · have h1 := unlike_len n (l.erase ((n + 1 : Nat) : Int)) (hn.erase _) (fun x hx => by
        have h2 := (hn.mem_erase_iff).1 hx
        have h3 := hb x h2.2
        have h4 := h2.1
        omega)
      rw [List.length_erase_of_mem h] at h1
      omega
    · have h1 := unlike_len n l hn (fun x hx => by
        have h3 := hb x hx
        have h4 : x ≠ ((n + 1 : Nat) : Int) := fun e => h (e ▸ hx)
        omega)
      omega
def stI (acc : List Int) (path : List Tr) (t : Tr) : Bool × List Int := if path.length = 0 then (true, acc) else (!(acc.contains t.id) && decide (1 ≤ t.id ∧ t.id ≤ 1000), acc ++ [t.id])
theorem SetI.keep {mb : Nat} {acc : List Int} {W w' : World} (h : SetI mb acc W) (hb : Below W.heap.size W w') : SetI mb acc w' := by
  obtain ⟨h1, es, clock, h2, h3⟩ := h
  exact ⟨h1, es, clock, (hb.block mb (lt_of_block h2)).trans h2, h3⟩
def idsT (t : Tr) : Bool := (wkT stI [] [] t).1
end Go.Proofs.YtkcobccmifkjcaaDoor

namespace Go.Proofs.YtkcobccmifkjcaaDoor
open Go.RowKit
/-- A schema's error: 0: none; 1: bound, 2: shape, 4: name (places of the listed errors). -/
def vldN (t : Tr) : Nat := if inB t = false then 1 else if isRootB t = false ∨ shpT t = false then 2 else if nmsT t = false ∨ idsT t = false then 4 else 0
/-- .. as a value. -/
def vldV (eb es en : Value) (t : Tr) : Value := if inB t = false then eb else if isRootB t = false ∨ shpT t = false then es else if nmsT t = false ∨ idsT t = false then en else .nilIface
theorem vldV_nil {eb es en : Value} {t : Tr} (hr : vldN t = 0) : vldV eb es en t = .nilIface := by
  unfold vldN at hr
  unfold vldV
  split at hr
  · omega
  · rename_i h1
    rw [if_neg h1]
    split at hr
    · omega
    · rename_i h2
      rw [if_neg h2]
      split at hr
      · omega
      · rename_i h3
        rw [if_neg h3]
end Go.Proofs.YtkcobccmifkjcaaDoor
