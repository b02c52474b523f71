/-
  A leaf of a schema as it is told.
  DREMEL's machine as lists: the words, without the program.
  The lists around each leaf, as the program walks them.
-/
import Derived.Test.YtbicfjimlpdnkaaGreatDoorHBWalkT
import Derived.Test.YtbicfjimlpdnkaaGreatDoorHBAppWhere
import Derived.Test.YtbicfjimlpdnkaaGreatDoorHBPackF
namespace Go.Proofs.YtbicfjimlpdnkaaGreatDoor
open Go.RowKit
theorem Tryz.infoI : (Tryz.prog.info? 3).map (fun i => (i.zero, i.size, i.bytes)) = some (some (.int .i64 0), 1, 8) := by kernel_rfl
/-- A leaf: its number, kind, levels and path. -/
structure Lf where
  id : Int
  kind : Int
  mr : Nat
  md : Nat
  path : List Int
def lvR (l : List Tr) : Nat := (l.filter fun t => decide (t.rep = 3)).length
def lvD (l : List Tr) : Nat := (l.filter fun t => decide (t.rep ≠ 1)).length
theorem lvR_snoc (l : List Tr) (t : Tr) : lvR (l ++ [t]) = lvR l + (if t.rep = 3 then 1 else 0) := by
  unfold lvR
  rw [List.filter_append, List.length_append]
  by_cases h : t.rep = 3 <;> simp [h]
theorem lvD_snoc (l : List Tr) (t : Tr) : lvD (l ++ [t]) = lvD l + (if t.rep = 1 then 0 else 1) := by
  unfold lvD
  rw [List.filter_append, List.length_append]
  by_cases h : t.rep = 1 <;> simp [h]
def lfO (t : Tr) (path : List Tr) : Lf := ⟨t.id, t.kind, lvR (path ++ [t]), lvD (path ++ [t]), (path ++ [t]).map Tr.id⟩
def lfC (f : Lf) (pv : Value) : List Value := [.int .i64 f.id, .int .i64 f.kind, .int .i64 (f.mr : Nat), .int .i64 (f.md : Nat), pv]
theorem own_type {W : World} {N e s n : Nat} {v : Value} {xs : List Value} (h : W.ownsRow N e s v n xs) {k : Nat} {cs : Array Value} {e' : TypeId} {z : Nat × Nat} (hk : W.heap[k]? = some (.cells cs e' z)) (hne : e ≠ e') : some k ≠ v.ownBlock := fun e2 => by
  obtain ⟨_, _, cs', h3⟩ := own_block h e2.symm
  rw [h3] at hk
  injection hk with hk
  injection hk with _ hk _
  exact hne hk
end Go.Proofs.YtbicfjimlpdnkaaGreatDoor

namespace Go.Proofs.YtbicfjimlpdnkaaGreatDoor
open Go.RowKit
/-- How long two lists are the same from their beginning on. -/
def cmnL : List Int → List Int → Nat
  | x :: xs, y :: ys => if x = y then cmnL xs ys + 1 else 0
  | _, _ => 0
theorem cmnL_le : ∀ (xs ys : List Int), cmnL xs ys ≤ xs.length ∧ cmnL xs ys ≤ ys.length
  | [], ys => by simp [cmnL]
  | x :: xs, [] => by simp [cmnL]
  | x :: xs, y :: ys => by
    have := cmnL_le xs ys
    rw [cmnL]
    split
    · simp; omega
    · simp
/-- A loop that goes on as long as both are the same. -/
theorem cmnL_at : ∀ (xs ys : List Int) (k : Nat), k ≤ cmnL xs ys → (k = cmnL xs ys ↔ ¬ (k < xs.length ∧ k < ys.length ∧ xs[k]? = ys[k]?))
  | [], ys, k, h => by simp [cmnL] at h; subst h; simp [cmnL]
  | x :: xs, [], k, h => by simp [cmnL] at h; subst h; simp [cmnL]
  | x :: xs, y :: ys, k, h => by
    rw [cmnL] at h ⊢
    by_cases he : x = y
    · rw [if_pos he] at h ⊢
      cases k with
      | zero =>
        constructor
        · intro h0; omega
        · intro h0; exact absurd ⟨by simp, by simp, by simp [he]⟩ h0
      | succ k =>
        have ih := cmnL_at xs ys k (by omega)
        simp only [List.length_cons, List.getElem?_cons_succ]
        constructor
        · intro h0 h1
          exact ih.1 (by omega) ⟨by omega, by omega, h1.2.2⟩
        · intro h0
          have := ih.2 fun h1 => h0 ⟨by omega, by omega, h1.2.2⟩
          omega
    · rw [if_neg he] at h ⊢
      obtain rfl : k = 0 := by omega
      simp [he]
/-- The common level of a leaf and the one behind it, or the end. -/
def cmnK (L : List (List Int)) (k : Nat) : Nat := if k + 1 < L.length then cmnL (L.getD k []) (L.getD (k + 1) []) else 0
/-- The first list that has a number. -/
def fstI (L : List (List Int)) (n : Int) : Nat := (L.findIdx fun l => decide (n ∈ l))
/-- Where a leaf goes on, by level. -/
def nxtK (L : List (List Int)) (k r : Nat) : Nat := if r ≤ cmnK L k then k + 1 else fstI L ((L.getD k []).getD (r - 1) 0)
/-- .. by each level. -/
def nxtR (L : List (List Int)) (k : Nat) : List Int := (List.range ((L.getD k []).length + 1)).map fun r => ((nxtK L k r : Nat) : Int)
theorem nxtR_len (L : List (List Int)) (k : Nat) : (nxtR L k).length = (L.getD k []).length + 1 := by simp [nxtR]
theorem fstI_lt (L : List (List Int)) (n : Int) (h : ∃ l ∈ L, n ∈ l) : fstI L n < L.length := by
  unfold fstI
  rw [List.findIdx_lt_length]
  obtain ⟨l, h1, h2⟩ := h
  exact ⟨l, h1, by simpa using h2⟩
end Go.Proofs.YtbicfjimlpdnkaaGreatDoor

namespace Go.Proofs.YtbicfjimlpdnkaaGreatDoor
open Go.RowKit
mutual
/-- The lists around each leaf of a node, behind those above it. -/
def lsT (ab : List Int) : Tr → List (List Int)
  | .node id _ rep kind sub => if kind = 0 then lsL (if rep = 3 then ab ++ [id] else ab) sub else [if rep = 3 then ab ++ [id] else ab]
def lsL (ab : List Int) : List Tr → List (List Int)
  | [] => []
  | t :: ts => lsT ab t ++ lsL ab ts
end
theorem lsL_take (ab : List Int) : ∀ (ts : List Tr) (i : Nat) (h : i < ts.length), lsL ab (ts.take (i + 1)) = lsL ab (ts.take i) ++ lsT ab ts[i]
  | [], i, h => by simp at h
  | t :: ts, 0, _ => by simp [lsL]
  | t :: ts, i + 1, h => by
    have ih := lsL_take ab ts i (by simpa using h)
    simp only [List.take_succ_cons, lsL, List.getElem_cons_succ, ih, List.append_assoc]
/-- .. of a node whose parts are told one by one. -/
theorem lsT_eq (ab : List Int) (t : Tr) : lsT ab t = if t.kind = 0 then lsL (if t.rep = 3 then ab ++ [t.id] else ab) t.sub else [if t.rep = 3 then ab ++ [t.id] else ab] := by
  cases t with
  | node id nm rep kind sub => rw [lsT]; rfl
mutual
theorem lsT_len (ab : List Int) : ∀ t : Tr, (lsT ab t).length ≤ t.cnt
  | .node id nm rep kind sub => by
    rw [lsT, Tr.cnt]
    split
    · have := lsL_len (if rep = 3 then ab ++ [id] else ab) sub
      omega
    · simp
theorem lsL_len (ab : List Int) : ∀ ts : List Tr, (lsL ab ts).length ≤ cntL ts
  | [] => by simp [lsL]
  | t :: ts => by
    rw [lsL, List.length_append, cntL]
    have h1 := lsT_len ab t
    have h2 := lsL_len ab ts
    omega
end
end Go.Proofs.YtbicfjimlpdnkaaGreatDoor
