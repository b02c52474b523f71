/-
  A leaf of a schema as it is told.
  Leaves in a row of the call's own, of whatever type of leaf.
-/
import Derived.Test.YteonbmaokphleaaGreatDoorHBOwnN
import Derived.Test.YteonbmaokphleaaGreatDoorHBAppWhere
import Derived.Test.YteonbmaokphleaaGreatDoorHBPackF
import Derived.Test.YteonbmaokphleaaGreatDoorHAppAny
namespace Go.Proofs.YteonbmaokphleaaGreatDoor
open Go.RowKit
theorem Tryz.infoI : (Tryz.prog.info? 3).map (fun i => (i.zero, i.size, i.bytes)) = some (some (.int .i64 0), 1, 8) := by kernel_rfl
structure Lf where
 id : Int
 kind : Int
 mr : Nat
 md : Nat
 path : List Int
def lvR (l : List Tr) : Nat := (l.filter fun t => decide (t.rep = 3)).length
def lvD (l : List Tr) : Nat := (l.filter fun t => decide (t.rep ≠ 1)).length
theorem lvR_snoc (l : List Tr) (t : Tr) : lvR (l ++ [t]) = lvR l + (if t.rep = 3 then 1 else 0) := by
 unfold lvR
 rw [List.filter_append, List.length_append]
 by_cases h : t.rep = 3 <;> simp [h]
theorem lvD_snoc (l : List Tr) (t : Tr) : lvD (l ++ [t]) = lvD l + (if t.rep = 1 then 0 else 1) := by
 unfold lvD
 rw [List.filter_append, List.length_append]
 by_cases h : t.rep = 1 <;> simp [h]
def lfO (t : Tr) (path : List Tr) : Lf := ⟨t.id, t.kind, lvR (path ++ [t]), lvD (path ++ [t]), (path ++ [t]).map Tr.id⟩
def lfC (f : Lf) (pv : Value) : List Value := [.int .i64 f.id, .int .i64 f.kind, .int .i64 (f.mr : Nat), .int .i64 (f.md : Nat), pv]
theorem own_type {W : World} {N e s n : Nat} {v : Value} {xs : List Value} (h : W.ownsRow N e s v n xs) {k : Nat} {cs : Array Value} {e' : TypeId} {z : Nat × Nat} (hk : W.heap[k]? = some (.cells cs e' z)) (hne : e ≠ e') : some k ≠ v.ownBlock := fun e2 => by
 obtain ⟨_, _, cs', h3⟩ := own_block h e2.symm
 rw [h3] at hk
 injection hk with hk
 injection hk with _ hk _
 exact hne hk
def LvX (T : TypeId) (W : World) (N : Nat) (lv : Value) (ls : List Lf) : Prop :=
 ∃ pvs : List Value, pvs.length = ls.length ∧ W.ownsRow N T 5 lv ls.length ((List.zipWith lfC ls pvs).flatten) ∧ ∀ j (h : j < ls.length) (h' : j < pvs.length), W.ownsRow N 3 1 pvs[j] ls[j].path.length (i64s ls[j].path)
theorem LvX.keep {T : TypeId} {W w' : World} {N : Nat} {lv : Value} {ls : List Lf} (h : LvX T W N lv ls) (hb : Below W.heap.size W w') : LvX T w' N lv ls := by
 obtain ⟨pvs, h1, h2, h3⟩ := h
 exact ⟨pvs, h1, ow_kept h2 hb, fun j hj hj' => ow_kept (h3 j hj hj') hb⟩
theorem LvX.nil (T : TypeId) (W : World) (N : Nat) : LvX T W N (.slice none 0 0) [] := ⟨[], rfl, World.ownsRow_nil _ _ _ _, fun _ h => absurd h (Nat.not_lt_zero _)⟩
theorem LvX.push {T : TypeId} (hT : T ≠ 3) {W w1 w2 : World} {N : Nat} {lv lv2 pv : Value} {ls : List Lf} {f : Lf} {pvs : List Value} {ob : Obj} (h1 : pvs.length = ls.length) (h3 : ∀ j (h : j < ls.length) (h' : j < pvs.length), W.ownsRow N 3 1 pvs[j] ls[j].path.length (i64s ls[j].path)) (h2 : W.ownsRow N T 5 lv ls.length ((List.zipWith lfC ls pvs).flatten)) (hN : N ≤ W.heap.size) (hb : Below W.heap.size W w1) (hp : w1.ownsRow W.heap.size 3 1 pv f.path.length (i64s f.path))
    (hown : w2.ownsRow N T 5 lv2 (ls.length + 1) ((List.zipWith lfC ls pvs).flatten ++ lfC f pv)) (hg : (w1.alloc ob).grownBy w2 lv.ownBlock) : LvX T w2 N lv2 (ls ++ [f]) := by
 have hs := hb.size
 refine ⟨pvs ++ [pv], by simp [h1], ?_, fun j hj hj' => ?_⟩
 · rw [List.zipWith_append h1.symm, List.flatten_append]
   simpa using hown
 · by_cases hl : j < ls.length
   · rw [List.getElem_append_left (by omega), List.getElem_append_left hl]
     refine own_same (h3 j hl (by omega)) fun k hk => ?_
     obtain ⟨q1, q2, cs, q3⟩ := own_block (h3 j hl (by omega)) hk
     rw [hg.block k (by simp; omega) (own_type h2 q3 hT), heap_alloc_old w1 ob (by omega), hb.block k q2]
   · have hj2 : j = ls.length := by simp at hj; omega
     subst hj2
     rw [List.getElem_append_right (by omega), List.getElem_append_right (by omega)]
     simp only [h1, Nat.sub_self, List.getElem_cons_zero]
     have hp' : w1.ownsRow N 3 1 pv f.path.length (i64s f.path) := ⟨hp.1, hp.2.imp id (fun ⟨g, cap, cur, e1, e2, e3⟩ => ⟨g, cap, cur, e1, by omega, e3⟩)⟩
     refine own_same hp' fun k hk => ?_
     obtain ⟨q1, q2, cs, q3⟩ := own_block hp hk
     rw [hg.block k (by simp; omega) (fun e => by have := (own_block h2 e.symm).2.1; omega), heap_alloc_old w1 ob q2]
theorem own_liesX {w : World} {B e n : Nat} {a : Option Addr} {c : Nat} {xs : List Value} (h : w.ownsRow B e 1 (.slice a n c) n xs) : Lies w a xs := fun j hj => by
 have hl : xs.length = n := by simpa using h.1
 rcases h.2 with ⟨_, h0⟩ | ⟨g, cap, cur, hv, _⟩
 · omega
 · have hv' := hv
   injection hv' with ha _ _
   refine ⟨g, 0, ha, ?_⟩
   have h5 := h.cells (g := g) (by rw [hv]; rfl) j xs[j] (List.getElem?_eq_getElem hj)
   rw [addr_plus] at h5
   exact h5
theorem LvX.at_ {T : TypeId} {W : World} {N : Nat} {a : Option Addr} {n c : Nat} {ls : List Lf} (h : LvX T W N (.slice a n c) ls) (j : Nat) (hj : j < ls.length) : ∃ g pa pc, a = some ⟨g, 0, none⟩ ∧ W.cell? ⟨g, j * 5, none⟩ = some (.int .i64 ls[j].id) ∧ W.cell? ⟨g, j * 5 + 1, none⟩ = some (.int .i64 ls[j].kind) ∧ W.cell? ⟨g, j * 5 + 2, none⟩ = some (.int .i64 (ls[j].mr : Nat)) ∧ W.cell? ⟨g, j * 5 + 3, none⟩ = some (.int .i64 (ls[j].md : Nat)) ∧ W.cell? ⟨g, j * 5 + 4, none⟩ = some (.slice pa ls[j].path.length pc) ∧ Lies W pa (i64s ls[j].path) ∧ ls[j].path.length ≤ maxLen := by
 obtain ⟨pvs, h1, h2, h3⟩ := h
 have hj' : j < pvs.length := by omega
 have hp := h3 j hj hj'
 obtain ⟨pa, pc, hpv⟩ := own_slC hp
 rcases h2.2 with ⟨_, h0⟩ | ⟨g, cap, cur, hv, _⟩
 · exact absurd hj (by omega)
 · have hv' := hv
   injection hv' with ha _ _
   have hz : (List.zipWith lfC ls pvs)[j]? = some (lfC ls[j] pvs[j]) := by
    rw [List.getElem?_eq_getElem (by simp; omega), List.getElem_zipWith]
   have hc : ∀ k u, k < 5 → (lfC ls[j] pvs[j])[k]? = some u → W.cell? ⟨g, j * 5 + k, none⟩ = some u := fun k u hk hu => by
    have h5 := h2.cells (g := g) (by rw [hv]; rfl) (j * 5 + k) u (by
     rw [flat5 _ (fun x hx => ?_) j k hk, hz]
     · exact hu
     · obtain ⟨i, hi, rfl⟩ := List.getElem_of_mem hx
       simp [lfC])
    rw [addr_plus, Nat.zero_add] at h5
    exact h5
   refine ⟨g, pa, pc, ha, by simpa using hc 0 _ (by omega) rfl, hc 1 _ (by omega) rfl, hc 2 _ (by omega) rfl, hc 3 _ (by omega) rfl, by have := hc 4 _ (by omega) rfl; rw [hpv] at this; exact this, ?_, ?_⟩
   · rw [hpv] at hp
     exact own_liesX hp
   · rcases hp.2 with ⟨_, h0⟩ | ⟨g', cap', cur', _, _, _, hn', hm', _⟩
     · rw [h0]; exact Nat.zero_le _
     · exact Nat.le_trans hn' hm'
end Go.Proofs.YteonbmaokphleaaGreatDoor
