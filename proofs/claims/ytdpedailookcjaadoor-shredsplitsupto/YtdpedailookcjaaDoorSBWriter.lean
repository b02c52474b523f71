/-
  shred's writer: what it holds; an entry behind the others.
  shred's writer: entry.
  shred's writer: down and list.
  shred's writer: list.
  shred's writer: down, all of it.
  shred's columns: how many values, how many records; the first wrong value.
  shred's columns: the first wrong value; fits; check.
-/
import Derived.Test.YtdpedailookcjaaDoorSBSmall
import Derived.Test.YtdpedailookcjaaDoorSBRow4
import Derived.Test.YtdpedailookcjaaDoorSBLeafOf
import Derived.Test.YtdpedailookcjaaDoorSBChkD
import Derived.RegionTactic
import Derived.Deep.RegionWith
import Derived.Test.YtdpedailookcjaaDoorSBVal
namespace Go.Proofs.YtdpedailookcjaaDoor
open Go.RowKit
/-- A step of a path. -/
structure Stp where
  field : Nat
  rep : Int
  dfn : Nat
  lists : Nat
def stC (s : Stp) : List Value := [.int .i64 (s.field : Nat), .int .i64 s.rep, .int .i64 (s.dfn : Nat), .int .i64 (s.lists : Nat)]
/-- What a writer holds. -/
structure CoI (g N : Nat) (sv : Value) (sts : List Stp) (md : Nat) (id : Int) (rv : Value) (reps : List Int) (dv : Value) (defs : List Int) (vv : Value) (vals : List Vl) (W : World) : Prop where
  cell : W.heap[g]? = some (.cells #[sv, .int .i64 (md : Nat), .int .i64 id, rv, dv, vv] 92 (0, 0))
  srow : W.ownsRow N 104 4 sv sts.length (sts.flatMap stC)
  rrow : W.ownsRow N 3 1 rv reps.length (i64s reps)
  drow : W.ownsRow N 3 1 dv defs.length (i64s defs)
  vrow : W.ownsRow N 53 3 vv vals.length (vcells vals)
  two : ∀ k, rv.ownBlock = some k → dv.ownBlock ≠ some k
theorem CoI.stay {g N : Nat} {sv : Value} {sts : List Stp} {md : Nat} {id : Int} {rv dv vv : Value} {reps defs : List Int} {vals : List Vl} {W w' : World} (h : CoI g N sv sts md id rv reps dv defs vv vals W) (hb : Below W.heap.size W w') : CoI g N sv sts md id rv reps dv defs vv vals w' :=
  ⟨blk_keep hb h.cell, ow_kept h.srow hb, ow_kept h.rrow hb, ow_kept h.drow hb, ow_kept h.vrow hb, h.two⟩
theorem CoI.pushR {g N : Nat} {sv : Value} {sts : List Stp} {md : Nat} {id : Int} {rv dv vv : Value} {reps defs : List Int} {vals : List Vl} {W w2 : World} {ob : Obj} {x2 : Value} {x : Int} (h : CoI g N sv sts md id rv reps dv defs vv vals W)
    (hown : w2.ownsRow N 3 1 x2 (reps.length + 1) (i64s reps ++ [.int .i64 x])) (hg : (W.alloc ob).grownBy w2 rv.ownBlock) (hw : x2.ownBlock = rv.ownBlock ∧ rv.ownBlock ≠ none ∨ x2.ownBlock = some (W.alloc ob).heap.size) :
    w2.heap[g]? = some (.cells #[sv, .int .i64 (md : Nat), .int .i64 id, rv, dv, vv] 92 (0, 0)) ∧ CoI g N sv sts md id x2 (reps ++ [x]) dv defs vv vals (w2.setCell ⟨g, 3, none⟩ x2) ∧ DFr g N W (w2.setCell ⟨g, 3, none⟩ x2) := by
  have hgl := lt_of_block h.cell
  have hng : some g ≠ rv.ownBlock := own_type h.rrow h.cell (by decide)
  have hng2 : x2.ownBlock ≠ some g := by
    rcases hw with ⟨e, _⟩ | e
    · rw [e]; exact fun e2 => hng e2.symm
    · rw [e]; simp; omega
  have ec : w2.heap[g]? = some (.cells #[sv, .int .i64 (md : Nat), .int .i64 id, rv, dv, vv] 92 (0, 0)) := by
    rw [hg.block g (by simp; omega) hng]
    exact blk_alloc h.cell
  have hset : ∀ k, k ≠ g → (w2.setCell ⟨g, 3, none⟩ x2).heap[k]? = w2.heap[k]? := fun k hk => Below.heap_setCell _ ⟨g, 3, none⟩ _ _ hk
  have hrow : ∀ {e s n : Nat} {v : Value} {xs : List Value}, W.ownsRow N e s v n xs → e ≠ 92 → (∀ k, v.ownBlock = some k → some k ≠ rv.ownBlock) → (w2.setCell ⟨g, 3, none⟩ x2).ownsRow N e s v n xs := fun hr he hne => own_same hr fun k hk => by
    obtain ⟨q1, q2, cs, q3⟩ := own_block hr hk
    have hkg : k ≠ g := fun e2 => by subst e2; rw [h.cell] at q3; injection q3 with q3; injection q3 with _ q3 _; exact he q3.symm
    rw [hset k hkg, hg.block k (by simp; omega) (hne k hk), heap_alloc_old W ob q2]
  have hty : ∀ {e s n : Nat} {v : Value} {xs : List Value}, W.ownsRow N e s v n xs → 3 ≠ e → ∀ k, v.ownBlock = some k → some k ≠ rv.ownBlock := fun hr he k hk => by
    obtain ⟨_, _, cs, q3⟩ := own_block hr hk
    exact own_type h.rrow q3 he
  refine ⟨ec, ?_, ⟨hg.os, hg.tape, hg.output, by have := hg.size; simp at this; simp; omega, fun k hk hne ht => ?_⟩⟩
  · refine ⟨?_, hrow h.srow (by decide) (hty h.srow (by decide)), ?_, hrow h.drow (by decide) (fun k hk e => h.two k e.symm hk), hrow h.vrow (by decide) (hty h.vrow (by decide)), ?_⟩
    · rw [row_setC ec]; rfl
    · rw [List.length_append, show i64s (reps ++ [x]) = i64s reps ++ [.int .i64 x] by simp [i64s]]
      exact own_same hown fun k hk => hset k (fun e2 => by subst e2; exact hng2 hk)
    · intro k hk
      rcases hw with ⟨e, _⟩ | e
      · rw [e] at hk; exact h.two k hk
      · rw [e] at hk
        simp at hk
        intro e2
        have := (own_block h.drow e2).2.1
        omega
  · rw [hset k hne, hg.block k (by simp; omega) (fun e => ?_), heap_alloc_old W ob hk]
    obtain ⟨q1, _, cs, q3⟩ := own_block h.rrow e.symm
    exact absurd rfl (ht q1 cs _ _ q3).1
theorem CoI.pushD {g N : Nat} {sv : Value} {sts : List Stp} {md : Nat} {id : Int} {rv dv vv : Value} {reps defs : List Int} {vals : List Vl} {W w2 : World} {ob : Obj} {x2 : Value} {x : Int} (h : CoI g N sv sts md id rv reps dv defs vv vals W)
    (hown : w2.ownsRow N 3 1 x2 (defs.length + 1) (i64s defs ++ [.int .i64 x])) (hg : (W.alloc ob).grownBy w2 dv.ownBlock) (hw : x2.ownBlock = dv.ownBlock ∧ dv.ownBlock ≠ none ∨ x2.ownBlock = some (W.alloc ob).heap.size) :
    w2.heap[g]? = some (.cells #[sv, .int .i64 (md : Nat), .int .i64 id, rv, dv, vv] 92 (0, 0)) ∧ CoI g N sv sts md id rv reps x2 (defs ++ [x]) vv vals (w2.setCell ⟨g, 4, none⟩ x2) ∧ DFr g N W (w2.setCell ⟨g, 4, none⟩ x2) := by
  have hgl := lt_of_block h.cell
  have hng : some g ≠ dv.ownBlock := own_type h.drow h.cell (by decide)
  have hng2 : x2.ownBlock ≠ some g := by
    rcases hw with ⟨e, _⟩ | e
    · rw [e]; exact fun e2 => hng e2.symm
    · rw [e]; simp; omega
  have ec : w2.heap[g]? = some (.cells #[sv, .int .i64 (md : Nat), .int .i64 id, rv, dv, vv] 92 (0, 0)) := by
    rw [hg.block g (by simp; omega) hng]
    exact blk_alloc h.cell
  have hset : ∀ k, k ≠ g → (w2.setCell ⟨g, 4, none⟩ x2).heap[k]? = w2.heap[k]? := fun k hk => Below.heap_setCell _ ⟨g, 4, none⟩ _ _ hk
  have hrow : ∀ {e s n : Nat} {v : Value} {xs : List Value}, W.ownsRow N e s v n xs → e ≠ 92 → (∀ k, v.ownBlock = some k → some k ≠ dv.ownBlock) → (w2.setCell ⟨g, 4, none⟩ x2).ownsRow N e s v n xs := fun hr he hne => own_same hr fun k hk => by
    obtain ⟨q1, q2, cs, q3⟩ := own_block hr hk
    have hkg : k ≠ g := fun e2 => by subst e2; rw [h.cell] at q3; injection q3 with q3; injection q3 with _ q3 _; exact he q3.symm
    rw [hset k hkg, hg.block k (by simp; omega) (hne k hk), heap_alloc_old W ob q2]
  have hty : ∀ {e s n : Nat} {v : Value} {xs : List Value}, W.ownsRow N e s v n xs → 3 ≠ e → ∀ k, v.ownBlock = some k → some k ≠ dv.ownBlock := fun hr he k hk => by
    obtain ⟨_, _, cs, q3⟩ := own_block hr hk
    exact own_type h.drow q3 he
  refine ⟨ec, ?_, ⟨hg.os, hg.tape, hg.output, by have := hg.size; simp at this; simp; omega, fun k hk hne ht => ?_⟩⟩
  · refine ⟨?_, hrow h.srow (by decide) (hty h.srow (by decide)), hrow h.rrow (by decide) (fun k hk e => h.two k hk e.symm), ?_, hrow h.vrow (by decide) (hty h.vrow (by decide)), ?_⟩
    · rw [row_setC ec]; rfl
    · rw [List.length_append, show i64s (defs ++ [x]) = i64s defs ++ [.int .i64 x] by simp [i64s]]
      exact own_same hown fun k hk => hset k (fun e2 => by subst e2; exact hng2 hk)
    · intro k hk e2
      rcases hw with ⟨e, _⟩ | e
      · rw [e] at e2; exact h.two k hk e2
      · rw [e] at e2
        simp at e2
        have := (own_block h.rrow hk).2.1
        omega
  · rw [hset k hne, hg.block k (by simp; omega) (fun e => ?_), heap_alloc_old W ob hk]
    obtain ⟨q1, _, cs, q3⟩ := own_block h.drow e.symm
    exact absurd rfl (ht q1 cs _ _ q3).1
theorem CoI.pushV {g N : Nat} {sv : Value} {sts : List Stp} {md : Nat} {id : Int} {rv dv vv : Value} {reps defs : List Int} {vals : List Vl} {W w2 : World} {ob : Obj} {x2 : Value} {x : Vl} (h : CoI g N sv sts md id rv reps dv defs vv vals W)
    (hown : w2.ownsRow N 53 3 x2 (vals.length + 1) (vcells vals ++ [.int .i64 x.k, .int .i64 x.n, .string x.s])) (hg : (W.alloc ob).grownBy w2 vv.ownBlock) (hw : x2.ownBlock = vv.ownBlock ∧ vv.ownBlock ≠ none ∨ x2.ownBlock = some (W.alloc ob).heap.size) :
    w2.heap[g]? = some (.cells #[sv, .int .i64 (md : Nat), .int .i64 id, rv, dv, vv] 92 (0, 0)) ∧ CoI g N sv sts md id rv reps dv defs x2 (vals ++ [x]) (w2.setCell ⟨g, 5, none⟩ x2) ∧ DFr g N W (w2.setCell ⟨g, 5, none⟩ x2) := by
  have hgl := lt_of_block h.cell
  have hng : some g ≠ vv.ownBlock := own_type h.vrow h.cell (by decide)
  have hng2 : x2.ownBlock ≠ some g := by
    rcases hw with ⟨e, _⟩ | e
    · rw [e]; exact fun e2 => hng e2.symm
    · rw [e]; simp; omega
  have ec : w2.heap[g]? = some (.cells #[sv, .int .i64 (md : Nat), .int .i64 id, rv, dv, vv] 92 (0, 0)) := by
    rw [hg.block g (by simp; omega) hng]
    exact blk_alloc h.cell
  have hset : ∀ k, k ≠ g → (w2.setCell ⟨g, 5, none⟩ x2).heap[k]? = w2.heap[k]? := fun k hk => Below.heap_setCell _ ⟨g, 5, none⟩ _ _ hk
  have hrow : ∀ {e s n : Nat} {v : Value} {xs : List Value}, W.ownsRow N e s v n xs → e ≠ 92 → (∀ k, v.ownBlock = some k → some k ≠ vv.ownBlock) → (w2.setCell ⟨g, 5, none⟩ x2).ownsRow N e s v n xs := fun hr he hne => own_same hr fun k hk => by
    obtain ⟨q1, q2, cs, q3⟩ := own_block hr hk
    have hkg : k ≠ g := fun e2 => by subst e2; rw [h.cell] at q3; injection q3 with q3; injection q3 with _ q3 _; exact he q3.symm
    rw [hset k hkg, hg.block k (by simp; omega) (hne k hk), heap_alloc_old W ob q2]
  have hty : ∀ {e s n : Nat} {v : Value} {xs : List Value}, W.ownsRow N e s v n xs → 53 ≠ e → ∀ k, v.ownBlock = some k → some k ≠ vv.ownBlock := fun hr he k hk => by
    obtain ⟨_, _, cs, q3⟩ := own_block hr hk
    exact own_type h.vrow q3 he
  refine ⟨ec, ?_, ⟨hg.os, hg.tape, hg.output, by have := hg.size; simp at this; simp; omega, fun k hk hne ht => ?_⟩⟩
  · refine ⟨?_, hrow h.srow (by decide) (hty h.srow (by decide)), hrow h.rrow (by decide) (hty h.rrow (by decide)), hrow h.drow (by decide) (hty h.drow (by decide)), ?_, h.two⟩
    · rw [row_setC ec]; rfl
    · rw [List.length_append, show vcells (vals ++ [x]) = vcells vals ++ [.int .i64 x.k, .int .i64 x.n, .string x.s] by simp [vcells]]
      exact own_same hown fun k hk => hset k (fun e2 => by subst e2; exact hng2 hk)
  · rw [hset k hne, hg.block k (by simp; omega) (fun e => ?_), heap_alloc_old W ob hk]
    obtain ⟨q1, _, cs, q3⟩ := own_block h.vrow e.symm
    exact absurd rfl (ht q1 cs _ _ q3).2
end Go.Proofs.YtdpedailookcjaaDoor

namespace Go.Proofs.YtdpedailookcjaaDoor
open Go.RowKit
theorem row_sixF {w : World} {g e : Nat} {x0 x1 x2 x3 x4 x5 : Value} (h : w.heap[g]? = some (.cells #[x0, x1, x2, x3, x4, x5] e (0, 0))) :
    w.frozen? ⟨g, 3, none⟩ = false ∧ w.frozen? ⟨g, 4, none⟩ = false ∧ w.frozen? ⟨g, 5, none⟩ = false := by
  refine ⟨?_, ?_, ?_⟩ <;> simp [World.frozen?, h]
/-- A writer that holds these, wherever its rows lie. -/
def CoS (g N : Nat) (sv : Value) (sts : List Stp) (md : Nat) (id : Int) (reps defs : List Int) (vals : List Vl) (W : World) : Prop := ∃ rv dv vv, CoI g N sv sts md id rv reps dv defs vv vals W
set_option maxRecDepth 100000 in
set_option maxHeartbeats 1600000 in
theorem entry_any (g N : Nat) (sv : Value) (sts : List Stp) (md : Nat) (id : Int) (reps defs : List Int) (vals : List Vl) (r df : Int) (W : World) (h : CoS g N sv sts md id reps defs vals W) (hN : N ≤ W.heap.size) (hr : reps.length < 20000) (hd : defs.length < 20000) :
    Calls Tryd.prog (65) #[.pointer (some ⟨g, 0, none⟩), .int .i64 r, .int .i64 df] W fun e w' => e = .returned .nilIface ∧ CoS g N sv sts md id (reps ++ [r]) (defs ++ [df]) vals w' ∧ DFr g N W w' := by
  obtain ⟨iv, hvi, hv0, hv1, hv2⟩ := info_parts Tryd.infoI
  obtain ⟨rv, dv, vv, hI⟩ := h
  have HI : Hid (CoI g N sv sts md id rv reps dv defs vv vals W) := hI
  obtain ⟨c0, c1, c2, c3, c4, c5⟩ := row_six hI.cell
  obtain ⟨f3, f4, f5⟩ := row_sixF hI.cell
  obtain ⟨ra, rc, rfl⟩ : ∃ a c, rv = .slice a reps.length c := by
    rcases hI.rrow.2 with ⟨rfl, h0⟩ | ⟨g, cap, cur, rfl, _⟩
    · exact ⟨none, 0, by rw [h0]⟩
    · exact ⟨_, cap, rfl⟩
  obtain ⟨da, dc, rfl⟩ : ∃ a c, dv = .slice a defs.length c := by
    rcases hI.drow.2 with ⟨rfl, h0⟩ | ⟨g, cap, cur, rfl, _⟩
    · exact ⟨none, 0, by rw [h0]⟩
    · exact ⟨_, cap, rfl⟩
  have q : ((reps.length : Int) == 20000) = false := by rw [beq_eq_false_iff_ne]; omega
  clear hI
  go_enter Tryd.func65, Tryd.ntmps65
  go_wp2_with (first
    | (at_builtin; refine wpList_append_where _ rfl _ _ 38 rfl N 3 iv (.int .i64 0) 1 8 Tryd.underlying38 hvi hv0 hv1 hv2 rfl (by decide) _ reps.length (i64s reps) rfl (HI.out.rrow.alloc _) ⟨W.heap.size, 0, none⟩ 1 1 [.int .i64 r] rfl rfl (cell_one_new _ _ _) (by intro u hu; simp at hu; subst hu; rfl) (by unfold maxLen; omega) (by omega) (by simp; omega) (by decide) ?_; intro x2 w2 hown2 hgrow2 hw2; obtain ⟨k1, k2, k3⟩ := HI.out.pushR hown2 hgrow2 hw2; obtain ⟨gx, cx, rfl⟩ := own_shape hown2; have HI2 : Hid (CoI g N sv sts md id (.slice (some ⟨gx, 0, none⟩) (reps.length + 1) cx) (reps ++ [r]) (.slice da defs.length dc) defs vv vals (w2.setCell ⟨g, 3, none⟩ (.slice (some ⟨gx, 0, none⟩) (reps.length + 1) cx))) := k2; have HD2 : Hid (DFr g N W (w2.setCell ⟨g, 3, none⟩ (.slice (some ⟨gx, 0, none⟩) (reps.length + 1) cx))) := k3; clear hown2 hgrow2 hw2 k2 k3 c0 c1 c2 c3 c4 c5 f3 f4 f5 HI; obtain ⟨c0, c1, c2, c3, c4, c5⟩ := row_six k1; obtain ⟨f3, f4, f5⟩ := row_sixF k1; clear k1)
    | (at_builtin; refine wpList_append_where _ rfl _ _ 38 rfl N 3 iv (.int .i64 0) 1 8 Tryd.underlying38 hvi hv0 hv1 hv2 rfl (by decide) _ defs.length (i64s defs) rfl (HI2.out.drow.alloc _) ⟨w2.heap.size, 0, none⟩ 1 1 [.int .i64 df] rfl rfl (by intro j u hu; have h := cell_one_new (w2.setCell ⟨g, 3, none⟩ (.slice (some ⟨gx, 0, none⟩) (reps.length + 1) cx)) (.int .i64 df) 3 j u hu; simpa using h) (by intro u hu; simp at hu; subst hu; rfl) (by unfold maxLen; omega) (by omega) (by have := HD2.out.size; simp at this; simp; omega) (by decide) ?_; intro x3 w3 hown3 hgrow3 hw3; obtain ⟨k1, k2, k3⟩ := HI2.out.pushD hown3 hgrow3 hw3; obtain ⟨gy, cy, rfl⟩ := own_shape hown3; have HI3 : Hid (CoI g N sv sts md id (.slice (some ⟨gx, 0, none⟩) (reps.length + 1) cx) (reps ++ [r]) (.slice (some ⟨gy, 0, none⟩) (defs.length + 1) cy) (defs ++ [df]) vv vals (w3.setCell ⟨g, 4, none⟩ (.slice (some ⟨gy, 0, none⟩) (defs.length + 1) cy))) := k2; have HD3 : Hid (DFr g N W (w3.setCell ⟨g, 4, none⟩ (.slice (some ⟨gy, 0, none⟩) (defs.length + 1) cy))) := HD2.out.trans k3; clear hown3 hgrow3 hw3 k2 k3 c0 c1 c2 c3 c4 c5 f3 f4 f5 HI2 HD2; obtain ⟨c0, c1, c2, c3, c4, c5⟩ := row_six k1; obtain ⟨f3, f4, f5⟩ := row_sixF k1; clear k1))
  go_ret
  exact ⟨rfl, ⟨_, _, _, HI3.out⟩, HD3.out⟩
end Go.Proofs.YtdpedailookcjaaDoor

namespace Go.Proofs.YtdpedailookcjaaDoor
open Go.RowKit
/-- An entry of a column. -/
structure Ent where
  rep : Int
  dfn : Int
  v : Option Vl
instance : Inhabited Dt := ⟨.mk false ⟨0, 0, ⟨#[]⟩⟩ [] []⟩
/-- The entries that a datum makes along steps. -/
def dn (md : Nat) : List Stp → Dt → Int → List Ent
  | [], d, rep => [⟨rep, md, some d.v⟩]
  | s :: ss, d, rep => if s.rep = 3 then (match (d.f.getD s.field default).l with | [] => [⟨rep, s.dfn, none⟩] | e :: es => dn md ss e rep ++ es.flatMap (fun x => dn md ss x s.lists)) else if (d.f.getD s.field default).no = true then [⟨rep, s.dfn, none⟩] else dn md ss (d.f.getD s.field default) rep
/-- A datum that has what the steps lead to. -/
def FitS : List Stp → Dt → Prop
  | [], _ => True
  | s :: ss, d => s.field < d.f.length ∧ (s.rep = 3 → ∀ e ∈ (d.f.getD s.field default).l, FitS ss e) ∧ (s.rep ≠ 3 → (d.f.getD s.field default).no = false → FitS ss (d.f.getD s.field default))
def eR (es : List Ent) : List Int := es.map Ent.rep
def eD (es : List Ent) : List Int := es.map Ent.dfn
def eV (es : List Ent) : List Vl := es.filterMap Ent.v
theorem srow_at {W : World} {N : Nat} {sv : Value} {sts : List Stp} (h : W.ownsRow N 104 4 sv sts.length (sts.flatMap stC)) (k : Nat) (hk : k < sts.length) : ∃ sb cap, sv = .slice (some ⟨sb, 0, none⟩) sts.length cap ∧ W.cell? ⟨sb, k * 4, none⟩ = some (.int .i64 (sts[k].field : Nat)) ∧ W.cell? ⟨sb, k * 4 + 1, none⟩ = some (.int .i64 sts[k].rep) ∧ W.cell? ⟨sb, k * 4 + 2, none⟩ = some (.int .i64 (sts[k].dfn : Nat)) ∧ W.cell? ⟨sb, k * 4 + 3, none⟩ = some (.int .i64 (sts[k].lists : Nat)) := by
  have hf : ∀ (l : List Stp) (k j : Nat) (hk : k < l.length), j < 4 → (l.flatMap stC)[k * 4 + j]? = (stC l[k])[j]? := by
    intro l
    induction l with
    | nil => intro k j hk; simp at hk
    | cons x xs ih =>
      intro k j hk hj
      rw [List.flatMap_cons]
      cases k with
      | zero => rw [List.getElem?_append_left (by simp [stC]; omega)]; simp
      | succ k =>
        rw [List.getElem?_append_right (by simp [stC]; omega), show (k + 1) * 4 + j - (stC x).length = k * 4 + j by simp [stC]; omega]
        simpa using ih k j (by simpa using hk) hj
  rcases h.2 with ⟨_, h0⟩ | ⟨g, cap, cur, rfl, rest⟩
  · omega
  · have hc : ∀ j u, (stC sts[k])[j]? = some u → j < 4 → W.cell? ⟨g, k * 4 + j, none⟩ = some u := fun j u hu hj => by
      have h1 := h.cells (g := g) rfl (k * 4 + j) u (by rw [hf sts k j hk hj]; exact hu)
      rw [addr_plus, Nat.zero_add] at h1
      exact h1
    exact ⟨g, cap, rfl, hc 0 _ rfl (by omega), hc 1 _ rfl (by omega), hc 2 _ rfl (by omega), hc 3 _ rfl (by omega)⟩
theorem tri_cells {w : World} {x y z : Value} {T : TypeId} : ∀ j u, [x, y, z][j]? = some u → (w.alloc (.cells #[x, y, z] T)).cell? ((⟨w.heap.size, 0, none⟩ : Addr).add j) = some u := fun j u h => by
  rw [addr_plus, Nat.zero_add]
  refine cell_alloc_at ?_ rfl
  simpa using h
set_option maxRecDepth 100000 in
set_option maxHeartbeats 3200000 in
/-- down at the leaf. -/
theorem down_leaf (g N : Nat) (sv : Value) (sts : List Stp) (md : Nat) (id : Int) (reps defs : List Int) (vals : List Vl) (d : Dt) (rep : Int) (al : Option Addr) (cl : Nat) (af : Option Addr) (cf : Nat) (W : World) (h : CoS g N sv sts md id reps defs vals W) (hN : N ≤ W.heap.size) (hr : reps.length < 20000) (hd : defs.length < 20000) (hv : vals.length < 20000) :
    Calls Tryd.prog (43) #[.pointer (some ⟨g, 0, none⟩), .int .i64 (sts.length : Nat), datumV d al cl af cf, .int .i64 rep] W fun e w' => e = .returned .nilIface ∧ CoS g N sv sts md id (reps ++ [rep]) (defs ++ [(md : Int)]) (vals ++ [d.v]) w' ∧ DFr g N W w' := by
  obtain ⟨iv, hvi, hv0, hv1, hv2⟩ := info_parts Tryd.infoV
  obtain ⟨rv, dv, vv, hI0⟩ := h
  have hI := hI0.stay (w' := (W.alloc (.cells #[.bool d.no, .int .i64 d.v.k, .int .i64 d.v.n, .string d.v.s, .slice al d.l.length cl, .slice af d.f.length cf] 55)).drew) ((Below.refl _ _).alloc (Nat.le_refl _) _).drew
  have HI : Hid (CoI g N sv sts md id rv reps dv defs vv vals (W.alloc (.cells #[.bool d.no, .int .i64 d.v.k, .int .i64 d.v.n, .string d.v.s, .slice al d.l.length cl, .slice af d.f.length cf] 55)).drew) := hI
  obtain ⟨c0, c1, c2, c3, c4, c5⟩ := row_six (w := W.alloc (.cells #[.bool d.no, .int .i64 d.v.k, .int .i64 d.v.n, .string d.v.s, .slice al d.l.length cl, .slice af d.f.length cf] 55)) hI.cell
  obtain ⟨f3, f4, f5⟩ := row_sixF (w := W.alloc (.cells #[.bool d.no, .int .i64 d.v.k, .int .i64 d.v.n, .string d.v.s, .slice al d.l.length cl, .slice af d.f.length cf] 55)) hI.cell
  have hgl : g < (W.alloc (.cells #[.bool d.no, .int .i64 d.v.k, .int .i64 d.v.n, .string d.v.s, .slice al d.l.length cl, .slice af d.f.length cf] 55)).heap.size := lt_of_block (w := W.alloc (.cells #[.bool d.no, .int .i64 d.v.k, .int .i64 d.v.n, .string d.v.s, .slice al d.l.length cl, .slice af d.f.length cf] 55)) hI.cell
  have c5' : ∀ ob : Obj, ((W.alloc (.cells #[.bool d.no, .int .i64 d.v.k, .int .i64 d.v.n, .string d.v.s, .slice al d.l.length cl, .slice af d.f.length cf] 55)).alloc ob).cell? ⟨g, 5, none⟩ = some vv := fun ob => (((Below.refl _ _).alloc (Nat.le_refl _) ob).cell hgl).trans c5
  obtain ⟨sa, sc, rfl⟩ : ∃ a c, sv = .slice a sts.length c := by
    rcases hI.srow.2 with ⟨rfl, h0⟩ | ⟨g, cap, cur, rfl, _⟩
    · exact ⟨none, 0, by rw [h0]⟩
    · exact ⟨_, cap, rfl⟩
  have hvl := vcells_len vals
  clear hI hI0
  unfold datumV
  go_enter Tryd.func43, Tryd.ntmps43
  go_wp2
  go_region_law (refine step_own_where _ rfl _ _ 39 rfl N 53 iv (.agg #[.int .i64 0, .int .i64 0, .string ⟨#[]⟩]) 3 32 Tryd.underlying39 hvi hv0 hv1 hv2 rfl (by decide) _ vals.length (vcells vals) rfl (HI.out.vrow.alloc _) ⟨W.heap.size + 1, 0, none⟩ 1 1 [.int .i64 d.v.k, .int .i64 d.v.n, .string d.v.s] rfl rfl (by intro j u hu; have h := tri_cells (w := W.alloc (.cells #[.bool d.no, .int .i64 d.v.k, .int .i64 d.v.n, .string d.v.s, .slice al d.l.length cl, .slice af d.f.length cf] 55)) (T := 53) j u hu; simpa using h) (by intro u hu; simp at hu; rcases hu with rfl | rfl | rfl <;> rfl) (by unfold maxLen; omega) (by omega) (by simp; omega) (by decide) ?_; intro x2 w2 hown2 hgrow2 hw2; obtain ⟨k1, k2, k3⟩ := HI.out.pushV hown2 hgrow2 hw2; obtain ⟨gx, cx, rfl⟩ := own_shape hown2; have HI2 : Hid (CoI g N (.slice sa sts.length sc) sts md id rv reps dv defs (.slice (some ⟨gx, 0, none⟩) (vals.length + 1) cx) (vals ++ [d.v]) (w2.setCell ⟨g, 5, none⟩ (.slice (some ⟨gx, 0, none⟩) (vals.length + 1) cx))) := k2; have HD2 : Hid (DFr g N W (w2.setCell ⟨g, 5, none⟩ (.slice (some ⟨gx, 0, none⟩) (vals.length + 1) cx))) := ((DFr.alloc g N W _).trans (DFr.drew g N _)).trans k3; clear hown2 hgrow2 hw2 k2 k3; obtain ⟨e0, e1, e2, e3, e4, e5⟩ := row_six k1; obtain ⟨h3, h4, h5⟩ := row_sixF k1; clear k1)
  all_goals
    go_wp2_with fail
    refine (entry_any g N _ sts md id reps defs (vals ++ [d.v]) rep md _ ⟨_, _, _, HI2.out⟩ (by have := HD2.out.size; omega) hr hd).mono ?_
    rintro e w3 ⟨rfl, hC, hD⟩
    have HC : Hid (CoS g N (.slice sa sts.length sc) sts md id (reps ++ [rep]) (defs ++ [(md : Int)]) (vals ++ [d.v]) w3) := hC
    have HD : Hid (DFr g N W w3) := HD2.out.trans hD
    clear hC hD
    go_wp2
    go_ret
    exact ⟨rfl, HC.out, HD.out⟩
end Go.Proofs.YtdpedailookcjaaDoor

namespace Go.Proofs.YtdpedailookcjaaDoor
open Go.RowKit
/-- What down promises of a datum, behind so many steps: these entries. -/
def DownP (g N B : Nat) (sv : Value) (sts : List Stp) (md : Nat) (id : Int) (k : Nat) (E : Int → List Ent) (d : Dt) : Prop := ∀ (reps defs : List Int) (vals : List Vl) (rep : Int) (al : Option Addr) (cl : Nat) (af : Option Addr) (cf : Nat) (W : World), CoS g N sv sts md id reps defs vals W → N ≤ W.heap.size → reps.length + (E rep).length ≤ 20000 → defs.length = reps.length → vals.length ≤ reps.length → LiesD W (fun b => b < B) al d.l → LiesD W (fun b => b < B) af d.f →
  Calls Tryd.prog (43) #[.pointer (some ⟨g, 0, none⟩), .int .i64 (k : Nat), datumV d al cl af cf, .int .i64 rep] W fun e w' => e = .returned .nilIface ∧ CoS g N sv sts md id (reps ++ eR (E rep)) (defs ++ eD (E rep)) (vals ++ eV (E rep)) w' ∧ DFr g N W w'
/-- The entries of elements: the first one's begin with rep, the others' with lists. -/
def lsE (F : Dt → Int → List Ent) (lists : Int) : Int → List Dt → List Ent
  | _, [] => []
  | rep, e :: es => F e rep ++ lsE F lists lists es
theorem eR_app (a b : List Ent) : eR (a ++ b) = eR a ++ eR b := by simp [eR]
theorem eD_app (a b : List Ent) : eD (a ++ b) = eD a ++ eD b := by simp [eD]
theorem eV_app (a b : List Ent) : eV (a ++ b) = eV a ++ eV b := by simp [eV]
theorem eR_len (a : List Ent) : (eR a).length = a.length := by simp [eR]
theorem eD_len (a : List Ent) : (eD a).length = a.length := by simp [eD]
theorem eV_len (a : List Ent) : (eV a).length ≤ a.length := List.length_filterMap_le _ _
theorem CoS.stay {g N : Nat} {sv : Value} {sts : List Stp} {md : Nat} {id : Int} {reps defs : List Int} {vals : List Vl} {W w' : World} (h : CoS g N sv sts md id reps defs vals W) (hb : Below W.heap.size W w') : CoS g N sv sts md id reps defs vals w' := by
  obtain ⟨rv, dv, vv, h⟩ := h
  exact ⟨rv, dv, vv, h.stay hb⟩
set_option maxRecDepth 100000 in
set_option maxHeartbeats 1600000 in
theorem list_of (g N B : Nat) (hBN : B ≤ N) (hBg : B ≤ g) (sv : Value) (sts : List Stp) (md : Nat) (id : Int) (k : Nat) (hk : k < sts.length) (hks : sts.length ≤ 1000) (s : Stp) (hs : Hid (sts[k] = s)) (F : Dt → Int → List Ent) (ls : List Dt) (hls : ls.length ≤ 1048576)
    (IH : Hid (∀ j (hj : j < ls.length), DownP g N B sv sts md id (k + 1) (F ls[j]) ls[j]))
    (reps defs : List Int) (vals : List Vl) (rep : Int) (a : Option Addr) (c : Nat) (W : World) (hC : CoS g N sv sts md id reps defs vals W) (hN : N ≤ W.heap.size) (hr : reps.length + (if ls = [] then 1 else (lsE F s.lists rep ls).length) ≤ 20000) (hd : defs.length = reps.length) (hv : vals.length ≤ reps.length) (hl : LiesD W (fun b => b < B) a ls) :
    Calls Tryd.prog (66) #[.pointer (some ⟨g, 0, none⟩), .int .i64 (k : Nat), .slice a ls.length c, .int .i64 rep] W fun e w' => e = .returned .nilIface ∧ (ls = [] → CoS g N sv sts md id (reps ++ [rep]) (defs ++ [(s.dfn : Int)]) vals w') ∧ (ls ≠ [] → CoS g N sv sts md id (reps ++ eR (lsE F s.lists rep ls)) (defs ++ eD (lsE F s.lists rep ls)) (vals ++ eV (lsE F s.lists rep ls)) w') ∧ DFr g N W w' := by
  have HC : Hid (CoS g N sv sts md id reps defs vals W) := hC
  obtain ⟨rv, dv, vv, hI⟩ := hC
  obtain ⟨c0, c1, c2, c3, c4, c5⟩ := row_six hI.cell
  have hgl := lt_of_block hI.cell
  obtain ⟨sb, cap, hsv, s0, s1, s2, s3⟩ := srow_at hI.srow k hk
  rw [hs.out] at s0 s1 s2 s3
  rw [hsv] at c0
  have HSv : Hid (sv = .slice (some ⟨sb, 0, none⟩) sts.length cap) := hsv
  have hb1 : Below W.heap.size W (W.alloc (.cells #[.int .i64 (s.field : Nat), .int .i64 s.rep, .int .i64 (s.dfn : Nat), .int .i64 (s.lists : Nat)] 104)) := (Below.refl _ _).alloc (Nat.le_refl _) _
  have HB1 : Hid _ := hb1
  have HX : Hid ((W.alloc (.cells #[.int .i64 (s.field : Nat), .int .i64 s.rep, .int .i64 (s.dfn : Nat), .int .i64 (s.lists : Nat)] 104)).heap[W.heap.size]? = some (.cells #[.int .i64 (s.field : Nat), .int .i64 s.rep, .int .i64 (s.dfn : Nat), .int .i64 (s.lists : Nat)] 104 (0, 0))) := heap_alloc_new W _
  have HL : Hid (LiesD W (fun b => b < B) a ls) := hl
  clear hI hsv hl hb1
  by_cases h0 : ls.length = 0
  · have h00 : ls = [] := List.eq_nil_of_length_eq_zero h0
    have HE : Hid (ls = []) := h00
    have q : ((ls.length : Int) == 0) = true := by simp [h0]
    have HCe : Hid _ := entry_any g N sv sts md id reps defs vals rep s.dfn (W.alloc (.cells #[.int .i64 (s.field : Nat), .int .i64 s.rep, .int .i64 (s.dfn : Nat), .int .i64 (s.lists : Nat)] 104)) (HC.out.stay HB1.out) (by simp; omega) (by rw [if_pos h00] at hr; omega) (by rw [if_pos h00] at hr; omega)
    clear h0 h00 hr
    go_enter Tryd.func66, Tryd.ntmps66
    go_wp2_with fail
    refine Calls.mono HCe.out ?_
    rintro e w1 ⟨rfl, hC1, hD1⟩
    have HC1 : Hid (CoS g N sv sts md id (reps ++ [rep]) (defs ++ [(s.dfn : Int)]) vals w1) := hC1
    have HD1 : Hid (DFr g N W w1) := (DFr.alloc g N W _).trans hD1
    clear hC1 hD1
    go_wp2
    go_ret
    exact ⟨rfl, fun _ => HC1.out, fun h => absurd HE.out h, HD1.out⟩
  · have h00 : ls ≠ [] := fun e => h0 (by rw [e]; rfl)
    rw [if_neg h00] at hr
    have q : ((ls.length : Int) == 0) = false := by rw [beq_eq_false_iff_ne]; omega
    have HE : Hid (ls ≠ []) := h00
    have HR : Hid (reps.length + (lsE F s.lists rep ls).length ≤ 20000) := hr
    clear h0 h00 hr
    go_enter Tryd.func66, Tryd.ntmps66
    go_wp2
    clear q
    generalize ((ls.length : Int) == 0) = bq
    go_loopw [3, 30] (fun rv x wr => ∃ (i : Nat) (r : Int) (done : List Ent), i ≤ ls.length ∧ x = .int .i64 i ∧ rv = .int .i64 r ∧ Hid (lsE F s.lists rep ls = done ++ lsE F s.lists r (ls.drop i)) ∧ Hid (CoS g N sv sts md id (reps ++ eR done) (defs ++ eD done) (vals ++ eV done) wr) ∧ Hid (DFr g N W wr) ∧ Hid (wr.heap[W.heap.size]? = some (.cells #[.int .i64 (s.field : Nat), .int .i64 s.rep, .int .i64 (s.dfn : Nat), .int .i64 (s.lists : Nat)] 104 (0, 0)))) (fun _ x _ => ls.length - (intOf x).toNat)
    case atStart => exact ⟨0, rep, [], Nat.zero_le _, rfl, rfl, rfl, (by show CoS _ _ _ _ _ _ _ _ _ _; simpa [eR, eD, eV] using HC.out.stay HB1.out), DFr.alloc g N W _, HX⟩
    case round =>
      obtain ⟨i, r, done, hi, rfl, rfl, HA, HCr, HD, HXr⟩ := hrel
      by_cases hlt : i < ls.length
      · have hBW : B ≤ W.heap.size := by omega
        have hbl := HD.out.below hBW hBg hBN
        obtain ⟨b', o', al1, cl1, af1, cf1, ea, ⟨e0, e1, e2, e3, e4, e5⟩, hd1, hd2⟩ := (HL.out.stay (W' := wr) (Q := fun b => b < B) (fun _ h _ => h) (fun b h _ => hbl.block b h)).at_ i hlt
        subst ea
        have hb2 : Below wr.heap.size wr (wr.alloc (.cells #[.bool ls[i].no, .int .i64 ls[i].v.k, .int .i64 ls[i].v.n, .string ls[i].v.s, .slice al1 ls[i].l.length cl1, .slice af1 ls[i].f.length cf1] 55)) := (Below.refl _ _).alloc (Nat.le_refl _) _
        have hA := HA.out
        rw [List.drop_eq_getElem_cons hlt, lsE, ← List.append_assoc] at hA
        have hlen := congrArg List.length hA
        rw [List.length_append, List.length_append] at hlen
        have hrr := HR.out
        have HCk : Hid _ := IH.out i hlt (reps ++ eR done) (defs ++ eD done) (vals ++ eV done) r al1 cl1 af1 cf1 (wr.alloc (.cells #[.bool ls[i].no, .int .i64 ls[i].v.k, .int .i64 ls[i].v.n, .string ls[i].v.s, .slice al1 ls[i].l.length cl1, .slice af1 ls[i].f.length cf1] 55)) (HCr.out.stay hb2) (by have := HD.out.size; simp; omega) (by rw [List.length_append, eR_len]; omega) (by rw [List.length_append, List.length_append, eR_len, eD_len, hd]) (by rw [List.length_append, List.length_append, eR_len]; have := eV_len done; omega) (hd1.keep hb2) (hd2.keep hb2)
        have HA2 : Hid _ := hA
        have HBx : Hid (DFr g N W (wr.alloc (.cells #[.bool ls[i].no, .int .i64 ls[i].v.k, .int .i64 ls[i].v.n, .string ls[i].v.s, .slice al1 ls[i].l.length cl1, .slice af1 ls[i].f.length cf1] 55))) := HD.out.trans (DFr.alloc g N wr _)
        have HXx : Hid ((wr.alloc (.cells #[.bool ls[i].no, .int .i64 ls[i].v.k, .int .i64 ls[i].v.n, .string ls[i].v.s, .slice al1 ls[i].l.length cl1, .slice af1 ls[i].f.length cf1] 55)).heap[W.heap.size]? = some (.cells #[.int .i64 (s.field : Nat), .int .i64 s.rep, .int .i64 (s.dfn : Nat), .int .i64 (s.lists : Nat)] 104 (0, 0))) := blk_alloc HXr.out
        clear hb2 hA hlen hrr hd1 hd2 hbl
        go_wp2_with fail
        refine Calls.mono HCk.out ?_
        rintro e w3 ⟨rfl, hC3, hD3⟩
        have HC3 : Hid (CoS g N sv sts md id (reps ++ eR (done ++ F ls[i] r)) (defs ++ eD (done ++ F ls[i] r)) (vals ++ eV (done ++ F ls[i] r)) w3) := (by rw [eR_app, eD_app, eV_app, ← List.append_assoc, ← List.append_assoc, ← List.append_assoc]; exact hC3)
        have HD3 : Hid (DFr g N W w3) := HBx.out.trans hD3
        have HX3 : Hid (w3.heap[W.heap.size]? = some (.cells #[.int .i64 (s.field : Nat), .int .i64 s.rep, .int .i64 (s.dfn : Nat), .int .i64 (s.lists : Nat)] 104 (0, 0))) := hD3.box HXx.out (by omega) (by decide)
        clear hC3 hD3 e0 e1 e2 e3 e4 e5
        obtain ⟨x0, x1, x2, x3⟩ := row_four HX3.out
        go_wp2
        go_roundw
        case rel => exact ⟨i + 1, s.lists, done ++ F ls[i] r, by omega, by go_num, rfl, HA2, HC3, HD3, HX3⟩
        case measure => simp [intOf]; omega
      · obtain rfl : i = ls.length := by omega
        have HZ : Hid (lsE F s.lists rep ls = done) := (by
          show _ = _
          rw [HA.out, List.drop_length]
          simp [lsE])
        go_wp2
        go_ret
        rw [HZ.out]
        exact ⟨rfl, fun h => absurd h HE.out, fun _ => HCr.out, HD.out⟩
end Go.Proofs.YtdpedailookcjaaDoor

namespace Go.Proofs.YtdpedailookcjaaDoor
open Go.RowKit
theorem dn_list (md : Nat) (s : Stp) (ss : List Stp) (d : Dt) (rep : Int) (h3 : s.rep = 3) (hne : (d.f.getD s.field default).l ≠ []) : dn md (s :: ss) d rep = lsE (dn md ss) s.lists rep (d.f.getD s.field default).l := by
  rw [dn, if_pos h3]
  have hl : ∀ es : List Dt, es.flatMap (fun x => dn md ss x s.lists) = lsE (dn md ss) s.lists s.lists es := fun es => by
    induction es with
    | nil => rfl
    | cons e es ih => rw [List.flatMap_cons, ih, lsE]
  cases h : (d.f.getD s.field default).l with
  | nil => exact absurd h hne
  | cons e es => simp only [lsE, hl]
theorem dn_nil (md : Nat) (s : Stp) (ss : List Stp) (d : Dt) (rep : Int) (h3 : s.rep = 3) (hn : (d.f.getD s.field default).l = []) : dn md (s :: ss) d rep = [⟨rep, s.dfn, none⟩] := by
  rw [dn, if_pos h3, hn]
theorem dn_none (md : Nat) (s : Stp) (ss : List Stp) (d : Dt) (rep : Int) (h3 : s.rep ≠ 3) (hn : (d.f.getD s.field default).no = true) : dn md (s :: ss) d rep = [⟨rep, s.dfn, none⟩] := by
  rw [dn, if_neg h3, if_pos hn]
theorem dn_one (md : Nat) (s : Stp) (ss : List Stp) (d : Dt) (rep : Int) (h3 : s.rep ≠ 3) (hn : (d.f.getD s.field default).no = false) : dn md (s :: ss) d rep = dn md ss (d.f.getD s.field default) rep := by
  rw [dn, if_neg h3, if_neg (by rw [hn]; simp)]
set_option maxRecDepth 100000 in
set_option maxHeartbeats 1600000 in
theorem down_step (g N B : Nat) (hBN : B ≤ N) (hBg : B ≤ g) (sv : Value) (sts : List Stp) (md : Nat) (id : Int) (k : Nat) (hk : k < sts.length) (hks : sts.length ≤ 1000) (s : Stp) (hs : Hid (sts[k] = s)) (ss : List Stp) (d d' : Dt) (hf : s.field < d.f.length) (hd' : Hid (d.f[s.field] = d')) (hl' : d'.l.length ≤ 1048576)
    (IHl : Hid (s.rep = 3 → ∀ j (hj : j < d'.l.length), DownP g N B sv sts md id (k + 1) (dn md ss d'.l[j]) d'.l[j]))
    (IHd : Hid (s.rep ≠ 3 → d'.no = false → DownP g N B sv sts md id (k + 1) (dn md ss d') d')) :
    DownP g N B sv sts md id k (dn md (s :: ss) d) d := by
  intro reps defs vals rep al cl af cf W hC hN hr hd hv hl hfl
  have hgetD : d.f.getD s.field default = d' := by rw [← hd'.out]; simp [List.getD, hf]
  have HC : Hid (CoS g N sv sts md id reps defs vals W) := hC
  obtain ⟨rv, dv, vv, hI⟩ := hC
  have hgl := lt_of_block hI.cell
  obtain ⟨sb, cap, hsv, s0, s1, s2, s3⟩ := srow_at hI.srow k hk
  rw [hs.out] at s0 s1 s2 s3
  have hb1 : Below W.heap.size W (W.alloc (.cells #[.bool d.no, .int .i64 d.v.k, .int .i64 d.v.n, .string d.v.s, .slice al d.l.length cl, .slice af d.f.length cf] 55)) := (Below.refl _ _).alloc (Nat.le_refl _) _
  obtain ⟨c0, c1, c2, c3, c4, c5⟩ := row_six (blk_keep hb1 hI.cell)
  rw [hsv] at c0
  have t0 := (hb1.cell (World.block_lt_of_cell? W _ s0)).trans s0
  have t1 := (hb1.cell (World.block_lt_of_cell? W _ s1)).trans s1
  have t2 := (hb1.cell (World.block_lt_of_cell? W _ s2)).trans s2
  have t3 := (hb1.cell (World.block_lt_of_cell? W _ s3)).trans s3
  have hb2 : Below W.heap.size W ((W.alloc (.cells #[.bool d.no, .int .i64 d.v.k, .int .i64 d.v.n, .string d.v.s, .slice al d.l.length cl, .slice af d.f.length cf] 55)).alloc (.cells #[.int .i64 (s.field : Nat), .int .i64 s.rep, .int .i64 (s.dfn : Nat), .int .i64 (s.lists : Nat)] 104)) := hb1.alloc (by simp) _
  obtain ⟨b', o', al1, cl1, af1, cf1, ea, ⟨e0, e1, e2, e3, e4, e5⟩, hd1, hd2⟩ := (hfl.stay (W' := (W.alloc (.cells #[.bool d.no, .int .i64 d.v.k, .int .i64 d.v.n, .string d.v.s, .slice al d.l.length cl, .slice af d.f.length cf] 55)).alloc (.cells #[.int .i64 (s.field : Nat), .int .i64 s.rep, .int .i64 (s.dfn : Nat), .int .i64 (s.lists : Nat)] 104)) (Q := fun b => b < B) (fun _ h _ => h) (fun b h _ => hb2.block b (by omega))).at_ s.field hf
  subst ea
  rw [hd'.out] at e0 e1 e2 e3 e4 e5 hd1 hd2
  have hb3 : Below W.heap.size W ((W.alloc (.cells #[.bool d'.no, .int .i64 d'.v.k, .int .i64 d'.v.n, .string d'.v.s, .slice al1 d'.l.length cl1, .slice af1 d'.f.length cf1] 55)).alloc (.cells #[.int .i64 (s.field : Nat), .int .i64 s.rep, .int .i64 (s.dfn : Nat), .int .i64 (s.lists : Nat)] 104)) := ((Below.refl _ _).alloc (Nat.le_refl _) _).alloc (by simp) _
  have HB3 : Hid (Below W.heap.size W ((W.alloc (.cells #[.bool d'.no, .int .i64 d'.v.k, .int .i64 d'.v.n, .string d'.v.s, .slice al1 d'.l.length cl1, .slice af1 d'.f.length cf1] 55)).alloc (.cells #[.int .i64 (s.field : Nat), .int .i64 s.rep, .int .i64 (s.dfn : Nat), .int .i64 (s.lists : Nat)] 104))) := hb3
  have HC3 : Hid (CoS g N sv sts md id reps defs vals ((W.alloc (.cells #[.bool d'.no, .int .i64 d'.v.k, .int .i64 d'.v.n, .string d'.v.s, .slice al1 d'.l.length cl1, .slice af1 d'.f.length cf1] 55)).alloc (.cells #[.int .i64 (s.field : Nat), .int .i64 s.rep, .int .i64 (s.dfn : Nat), .int .i64 (s.lists : Nat)] 104))) := HC.out.stay hb3
  have HL1 : Hid (LiesD ((W.alloc (.cells #[.bool d'.no, .int .i64 d'.v.k, .int .i64 d'.v.n, .string d'.v.s, .slice al1 d'.l.length cl1, .slice af1 d'.f.length cf1] 55)).alloc (.cells #[.int .i64 (s.field : Nat), .int .i64 s.rep, .int .i64 (s.dfn : Nat), .int .i64 (s.lists : Nat)] 104)) (fun b => b < B) al1 d'.l) := hd1.stay (fun _ h _ => h) (fun b h _ => (hb3.block b (by omega)).trans (hb2.block b (by omega)).symm)
  have HL2 : Hid (LiesD ((W.alloc (.cells #[.bool d'.no, .int .i64 d'.v.k, .int .i64 d'.v.n, .string d'.v.s, .slice al1 d'.l.length cl1, .slice af1 d'.f.length cf1] 55)).alloc (.cells #[.int .i64 (s.field : Nat), .int .i64 s.rep, .int .i64 (s.dfn : Nat), .int .i64 (s.lists : Nat)] 104)) (fun b => b < B) af1 d'.f) := hd2.stay (fun _ h _ => h) (fun b h _ => (hb3.block b (by omega)).trans (hb2.block b (by omega)).symm)
  have HR : Hid (reps.length + (dn md (s :: ss) d rep).length ≤ 20000) := hr
  have HG : Hid (d.f.getD s.field default = d') := hgetD
  have q : ((k : Int) == (sts.length : Int)) = false := by rw [beq_eq_false_iff_ne]; omega
  clear hI hb1 hl hfl s0 s1 s2 s3 hb2 hb3 hd1 hd2 hr hgetD
  unfold datumV
  go_enter Tryd.func43, Tryd.ntmps43
  by_cases h3 : s.rep = 3
  · have q3 : (s.rep == 3) = true := by simp [h3]
    have H3 : Hid (s.rep = 3) := h3
    clear h3
    have HCl := list_of g N B hBN hBg sv sts md id k hk hks s hs (dn md ss) d'.l hl' (fun j hj => IHl.out H3.out j hj) reps defs vals rep al1 cl1 ((W.alloc (.cells #[.bool d'.no, .int .i64 d'.v.k, .int .i64 d'.v.n, .string d'.v.s, .slice al1 d'.l.length cl1, .slice af1 d'.f.length cf1] 55)).alloc (.cells #[.int .i64 (s.field : Nat), .int .i64 s.rep, .int .i64 (s.dfn : Nat), .int .i64 (s.lists : Nat)] 104)) HC3.out (by simp; omega) (by
      have h := HR.out
      split
      · rename_i h0
        rw [dn_nil md s ss d rep H3.out (by rw [HG.out]; exact h0)] at h
        simpa using h
      · rename_i h0
        rw [dn_list md s ss d rep H3.out (by rw [HG.out]; exact h0), HG.out] at h
        exact h) hd hv HL1.out
    have HCl : Hid _ := HCl
    go_wp2_with fail
    refine Calls.mono HCl.out ?_
    rintro e w1 ⟨rfl, h1, h2, hD⟩
    have HD : Hid (DFr g N W w1) := (DFr.of_below HB3.out).trans hD
    have HF : Hid (CoS g N sv sts md id (reps ++ eR (dn md (s :: ss) d rep)) (defs ++ eD (dn md (s :: ss) d rep)) (vals ++ eV (dn md (s :: ss) d rep)) w1) := (by
      by_cases h0 : d'.l = []
      · rw [dn_nil md s ss d rep H3.out (by rw [HG.out]; exact h0)]
        show CoS _ _ _ _ _ _ _ _ _ _
        simpa [eR, eD, eV] using h1 h0
      · rw [dn_list md s ss d rep H3.out (by rw [HG.out]; exact h0), HG.out]
        exact h2 h0)
    clear h1 h2 hD HCl
    go_wp2
    go_ret
    exact ⟨rfl, HF.out, HD.out⟩
  · have q3 : (s.rep == 3) = false := by simp [h3]
    have H3 : Hid (s.rep ≠ 3) := h3
    clear h3
    obtain ⟨bn, hbn⟩ : ∃ bn, d'.no = bn := ⟨_, rfl⟩
    cases bn with
    | true =>
      have HCe := entry_any g N sv sts md id reps defs vals rep s.dfn ((W.alloc (.cells #[.bool d'.no, .int .i64 d'.v.k, .int .i64 d'.v.n, .string d'.v.s, .slice al1 d'.l.length cl1, .slice af1 d'.f.length cf1] 55)).alloc (.cells #[.int .i64 (s.field : Nat), .int .i64 s.rep, .int .i64 (s.dfn : Nat), .int .i64 (s.lists : Nat)] 104)) HC3.out (by simp; omega) (by have h := HR.out; rw [dn_none md s ss d rep H3.out (by rw [HG.out]; exact hbn)] at h; simp at h; omega) (by have h := HR.out; rw [dn_none md s ss d rep H3.out (by rw [HG.out]; exact hbn)] at h; simp at h; omega)
      rw [hbn] at HCe HB3
      have HCe : Hid _ := HCe
      have HE : Hid _ := dn_none md s ss d rep H3.out (by rw [HG.out]; exact hbn)
      rw [hbn] at e0
      go_wp2_with fail
      refine Calls.mono HCe.out ?_
      rintro e w1 ⟨rfl, h1, hD⟩
      have HD : Hid (DFr g N W w1) := (DFr.of_below HB3.out).trans hD
      have HF : Hid (CoS g N sv sts md id (reps ++ eR (dn md (s :: ss) d rep)) (defs ++ eD (dn md (s :: ss) d rep)) (vals ++ eV (dn md (s :: ss) d rep)) w1) := (by
        rw [HE.out]
        show CoS _ _ _ _ _ _ _ _ _ _
        simpa [eR, eD, eV] using h1)
      clear h1 hD HCe
      go_wp2
      go_ret
      exact ⟨rfl, HF.out, HD.out⟩
    | false =>
      have HE : Hid _ := dn_one md s ss d rep H3.out (by rw [HG.out]; exact hbn)
      have HCd := IHd.out H3.out hbn reps defs vals rep al1 cl1 af1 cf1 ((W.alloc (.cells #[.bool d'.no, .int .i64 d'.v.k, .int .i64 d'.v.n, .string d'.v.s, .slice al1 d'.l.length cl1, .slice af1 d'.f.length cf1] 55)).alloc (.cells #[.int .i64 (s.field : Nat), .int .i64 s.rep, .int .i64 (s.dfn : Nat), .int .i64 (s.lists : Nat)] 104)) HC3.out (by simp; omega) (by have h := HR.out; rw [HE.out, HG.out] at h; exact h) hd hv HL1.out HL2.out
      unfold datumV at HCd
      rw [hbn] at HCd HB3
      have HCd : Hid _ := HCd
      rw [hbn] at e0
      go_wp2_with fail
      refine Calls.mono HCd.out ?_
      rintro e w1 ⟨rfl, h1, hD⟩
      have HD : Hid (DFr g N W w1) := (DFr.of_below HB3.out).trans hD
      have HF : Hid (CoS g N sv sts md id (reps ++ eR (dn md (s :: ss) d rep)) (defs ++ eD (dn md (s :: ss) d rep)) (vals ++ eV (dn md (s :: ss) d rep)) w1) := (by
        rw [HE.out, HG.out]
        exact h1)
      clear h1 hD HCd
      go_wp2
      go_ret
      exact ⟨rfl, HF.out, HD.out⟩
theorem down_all (g N B : Nat) (hBN : B ≤ N) (hBg : B ≤ g) (sv : Value) (sts : List Stp) (md : Nat) (id : Int) (hks : sts.length ≤ 1000) : ∀ (ss : List Stp) (k : Nat), sts.drop k = ss → k ≤ sts.length → ∀ d : Dt, d.Sm → FitS ss d → DownP g N B sv sts md id k (dn md ss d) d
  | [], k, hd, hk => fun d _ _ => by
    have hkl : k = sts.length := by
      have := congrArg List.length hd
      simp at this
      omega
    subst hkl
    intro reps defs vals rep al cl af cf W hC hN hr hdl hv _ _
    have hr' : reps.length + 1 ≤ 20000 := by simpa [dn] using hr
    refine (down_leaf g N sv sts md id reps defs vals d rep al cl af cf W hC hN (by omega) (by omega) (by omega)).mono ?_
    rintro e w' ⟨h1, h2, h3⟩
    exact ⟨h1, by simpa [dn, eR, eD, eV] using h2, h3⟩
  | s :: ss, k, hd, hk => fun d hsm hfit => by
    have hlt : k < sts.length := by
      have := congrArg List.length hd
      simp at this
      omega
    rw [List.drop_eq_getElem_cons hlt] at hd
    injection hd with h1 h2
    rw [FitS] at hfit
    obtain ⟨f1, f2, f3⟩ := hfit
    have hg : d.f.getD s.field default = d.f[s.field] := by simp [List.getD, f1]
    rw [hg] at f2 f3
    have hs' := hsm.atF s.field f1
    exact down_step g N B hBN hBg sv sts md id k hlt hks s h1 ss d d.f[s.field] f1 rfl hs'.lenL
      (fun h3 j hj => down_all g N B hBN hBg sv sts md id hks ss (k + 1) h2 (by omega) _ (hs'.atL j hj) (f2 h3 _ (List.getElem_mem hj)))
      (fun h3 hn => down_all g N B hBN hBg sv sts md id hks ss (k + 1) h2 (by omega) _ hs' (f3 h3 hn))
end Go.Proofs.YtdpedailookcjaaDoor

namespace Go.Proofs.YtdpedailookcjaaDoor
open Go.RowKit
set_option maxRecDepth 100000 in
set_option maxHeartbeats 1600000 in
theorem isMd_any (lv md : Int) (g : Nat) (x0 x1 x2 x4 : Value) (W : World) (hg : W.heap[g]? = some (.cells #[x0, x1, x2, .int .i64 md, x4] 45 (0, 0))) : Calls Tryd.prog 53 #[.int .i64 lv, .pointer (some ⟨g, 0, none⟩)] W fun e w' => e = .returned (.bool (lv == md)) ∧ w' = W := by
  obtain ⟨⟨c0, c1, c2, c3, c4⟩, _⟩ := row_five hg
  clear hg
  go_enter Tryd.func53, Tryd.ntmps53
  go_wp2
  go_ret
  exact ⟨rfl, rfl⟩
set_option maxRecDepth 100000 in
set_option maxHeartbeats 1600000 in
theorem isZero_any (lv : Int) (W : World) : Calls Tryd.prog 29 #[.int .i64 lv] W fun e w' => e = .returned (.bool (lv == 0)) ∧ w' = W := by
  go_enter Tryd.func29, Tryd.ntmps29
  go_wp2
  go_ret
  exact ⟨rfl, rfl⟩
set_option maxRecDepth 100000 in
set_option maxHeartbeats 1600000 in
theorem howManyV_any (md : Int) (g : Nat) (x0 x1 x2 x4 : Value) (a : Option Addr) (c : Nat) (xs : List Int) (hn : xs.length ≤ 1048576) (W : World) (hg : W.heap[g]? = some (.cells #[x0, x1, x2, .int .i64 md, x4] 45 (0, 0))) (hl : Lies W a (i64s xs)) :
    Calls Tryd.prog 28 #[.slice a xs.length c, .func (.func 53) #[] #[.pointer (some ⟨g, 0, none⟩)]] W fun e w' => e = .returned (.int .i64 ((xs.filter (fun x => x == md)).length : Nat)) ∧ w' = W := by
  have HL : Hid (Lies W a (i64s xs)) := hl
  clear hl
  go_enter Tryd.func28, Tryd.ntmps28
  go_wp2
  go_loop [5, 10] (fun y x => ∃ i : Nat, i ≤ xs.length ∧ x = .int .i64 i ∧ y = .int .i64 (((xs.take i).filter (fun x => x == md)).length : Nat)) (fun _ x => xs.length - (intOf x).toNat)
  case atStart => exact ⟨0, Nat.zero_le _, rfl, rfl⟩
  case round =>
    obtain ⟨i, hi, rfl, rfl⟩ := hrel
    have hcl : ((xs.take i).filter (fun x => x == md)).length ≤ i := Nat.le_trans (List.length_filter_le _ _) (by simp; omega)
    obtain ⟨k, hk⟩ : ∃ k, ((xs.take i).filter (fun x => x == md)).length = k := ⟨_, rfl⟩
    by_cases hlt : i < xs.length
    · have HS : Hid (((xs.take (i + 1)).filter (fun x => x == md)).length = k + if (xs[i] == md) = true then 1 else 0) := (by
        show _ = _
        rw [List.take_succ_eq_append_getElem hlt, List.filter_append, List.length_append, hk]
        congr 1
        cases h : (xs[i] == md) <;> simp [List.filter, h])
      rw [hk] at hcl ⊢
      obtain ⟨b, o, rfl, hc⟩ := HL.out i (by simpa [i64s] using hlt)
      have hc' : W.cell? ⟨b, o + i, none⟩ = some (.int .i64 xs[i]) := by rw [hc]; simp [i64s]
      clear hc hk
      go_wp2_with fail
      refine (isMd_any xs[i] md g x0 x1 x2 x4 W hg).mono ?_
      rintro e w1 ⟨rfl, rfl⟩
      cases hq : (xs[i] == md) with
      | true =>
        have HN : Hid (((xs.take (i + 1)).filter (fun x => x == md)).length = k + 1) := (by show _ = _; rw [HS.out, hq]; rfl)
        clear hq
        go_wp2
        go_round
        case rel => exact ⟨i + 1, by omega, by go_num, by rw [HN.out]; go_num⟩
        case measure => simp [intOf]; omega
      | false =>
        have HN : Hid (((xs.take (i + 1)).filter (fun x => x == md)).length = k) := (by show _ = _; rw [HS.out, hq]; rfl)
        clear hq
        go_wp2
        go_round
        case rel => exact ⟨i + 1, by omega, by go_num, by rw [HN.out]⟩
        case measure => simp [intOf]; omega
    · obtain rfl : i = xs.length := by omega
      rw [List.take_length] at *
      go_wp2
      go_ret
      exact ⟨rfl, rfl⟩
set_option maxRecDepth 100000 in
set_option maxHeartbeats 1600000 in
theorem howManyC_any (a : Option Addr) (c : Nat) (xs : List Int) (hn : xs.length ≤ 1048576) (W : World) (hl : Lies W a (i64s xs)) :
    Calls Tryd.prog 28 #[.slice a xs.length c, .func (.func 29) #[] #[]] W fun e w' => e = .returned (.int .i64 ((xs.filter (fun x => x == 0)).length : Nat)) ∧ w' = W := by
  have HL : Hid (Lies W a (i64s xs)) := hl
  clear hl
  go_enter Tryd.func28, Tryd.ntmps28
  go_wp2
  go_loop [5, 10] (fun y x => ∃ i : Nat, i ≤ xs.length ∧ x = .int .i64 i ∧ y = .int .i64 (((xs.take i).filter (fun x => x == 0)).length : Nat)) (fun _ x => xs.length - (intOf x).toNat)
  case atStart => exact ⟨0, Nat.zero_le _, rfl, rfl⟩
  case round =>
    obtain ⟨i, hi, rfl, rfl⟩ := hrel
    have hcl : ((xs.take i).filter (fun x => x == 0)).length ≤ i := Nat.le_trans (List.length_filter_le _ _) (by simp; omega)
    obtain ⟨k, hk⟩ : ∃ k, ((xs.take i).filter (fun x => x == 0)).length = k := ⟨_, rfl⟩
    by_cases hlt : i < xs.length
    · have HS : Hid (((xs.take (i + 1)).filter (fun x => x == 0)).length = k + if (xs[i] == 0) = true then 1 else 0) := (by
        show _ = _
        rw [List.take_succ_eq_append_getElem hlt, List.filter_append, List.length_append, hk]
        congr 1
        cases h : (xs[i] == 0) <;> simp [List.filter, h])
      rw [hk] at hcl ⊢
      obtain ⟨b, o, rfl, hc⟩ := HL.out i (by simpa [i64s] using hlt)
      have hc' : W.cell? ⟨b, o + i, none⟩ = some (.int .i64 xs[i]) := by rw [hc]; simp [i64s]
      clear hc hk
      go_wp2_with fail
      refine (isZero_any xs[i] W).mono ?_
      rintro e w1 ⟨rfl, rfl⟩
      cases hq : (xs[i] == 0) with
      | true =>
        have HN : Hid (((xs.take (i + 1)).filter (fun x => x == 0)).length = k + 1) := (by show _ = _; rw [HS.out, hq]; rfl)
        clear hq
        go_wp2
        go_round
        case rel => exact ⟨i + 1, by omega, by go_num, by rw [HN.out]; go_num⟩
        case measure => simp [intOf]; omega
      | false =>
        have HN : Hid (((xs.take (i + 1)).filter (fun x => x == 0)).length = k) := (by show _ = _; rw [HS.out, hq]; rfl)
        clear hq
        go_wp2
        go_round
        case rel => exact ⟨i + 1, by omega, by go_num, by rw [HN.out]⟩
        case measure => simp [intOf]; omega
    · obtain rfl : i = xs.length := by omega
      rw [List.take_length] at *
      go_wp2
      go_ret
      exact ⟨rfl, rfl⟩
/-- How many of these levels are one. -/
def cntE (md : Int) (xs : List Int) : Nat := (xs.filter (fun x => x == md)).length
set_option maxRecDepth 100000 in
set_option maxHeartbeats 1600000 in
theorem valuesOf_any (id kind mr md : Int) (pa : Option Addr) (pn pc : Nat) (a : Option Addr) (c : Nat) (xs : List Int) (hn : xs.length ≤ 1048576) (W : World) (hl : Lies W a (i64s xs)) :
    Calls Tryd.prog 34 #[leafV id kind mr md pa pn pc, .slice a xs.length c] W fun e w' => e = .returned (.int .i64 (cntE md xs : Nat)) ∧ Below W.heap.size W w' := by
  have hb : Below W.heap.size W (W.alloc (.cells #[.int .i64 id, .int .i64 kind, .int .i64 mr, .int .i64 md, .slice pa pn pc] 45)) := (Below.refl _ _).alloc (Nat.le_refl _) _
  have HC : Hid _ := howManyV_any md W.heap.size _ _ _ _ a c xs hn _ (heap_alloc_new W (.cells #[.int .i64 id, .int .i64 kind, .int .i64 mr, .int .i64 md, .slice pa pn pc] 45)) (hl.keep hb)
  have HB : Hid _ := hb
  have hmf : ∀ (fn : Fn) (first cap : Array Value) (W : World), (Instr.makeFunc fn first cap).run Tryd.prog W = .ok (.func fn first cap) W := fun _ _ _ _ => rfl
  clear hl hb
  unfold leafV
  go_enter Tryd.func34, Tryd.ntmps34
  go_wp2_with fail
  refine Calls.mono HC.out ?_
  rintro e w1 ⟨rfl, rfl⟩
  go_wp2
  go_ret
  exact ⟨rfl, HB.out⟩
/-- A column as a value. -/
abbrev colV (id : Int) (ra : Option Addr) (rn rc : Nat) (da : Option Addr) (dn dc : Nat) (va : Option Addr) (vn vc : Nat) : Value := .agg #[.int .i64 id, .slice ra rn rc, .slice da dn dc, .slice va vn vc]
set_option maxRecDepth 100000 in
set_option maxHeartbeats 1600000 in
theorem count_any (id : Int) (ra : Option Addr) (rs : List Int) (rc : Nat) (da : Option Addr) (dn dc : Nat) (va : Option Addr) (vn vc : Nat) (hn : rs.length ≤ 1048576) (W : World) (hl : Lies W ra (i64s rs)) :
    Calls Tryd.prog 14 #[colV id ra rs.length rc da dn dc va vn vc] W fun e w' => e = .returned (.int .i64 (cntE 0 rs : Nat)) ∧ Below W.heap.size W w' := by
  have hb : Below W.heap.size W (W.alloc (.cells #[.int .i64 id, .slice ra rs.length rc, .slice da dn dc, .slice va vn vc] 41)) := (Below.refl _ _).alloc (Nat.le_refl _) _
  have HC : Hid _ := howManyC_any ra rc rs hn _ (hl.keep hb)
  have HB : Hid _ := hb
  clear hl hb
  unfold colV
  go_enter Tryd.func14, Tryd.ntmps14
  go_wp2_with fail
  refine Calls.mono HC.out ?_
  rintro e w1 ⟨rfl, rfl⟩
  go_wp2
  go_ret
  exact ⟨rfl, HB.out⟩
end Go.Proofs.YtdpedailookcjaaDoor

namespace Go.Proofs.YtdpedailookcjaaDoor
open Go.RowKit
/-- A value that is none of the kind. -/
def badV (kind : Int) (v : Vl) : Bool := !(v.k == kind) || !(okV v.k v.k v.n v.s.size)
set_option maxRecDepth 100000 in
set_option maxHeartbeats 1600000 in
theorem badV_any (kind k n : Int) (s : ByteArray) (g : Nat) (x0 x2 x3 x4 : Value) (W : World) (hg : W.heap[g]? = some (.cells #[x0, .int .i64 kind, x2, x3, x4] 45 (0, 0))) :
    Calls Tryd.prog 47 #[.agg #[.int .i64 k, .int .i64 n, .string s], .pointer (some ⟨g, 0, none⟩)] W fun e w' => e = .returned (.bool (badV kind ⟨k, n, s⟩)) ∧ Below W.heap.size W w' := by
  have HB : Hid (Below W.heap.size W (W.alloc (.cells #[.int .i64 k, .int .i64 n, .string s] 53))) := (Below.refl _ _).alloc (Nat.le_refl _) _
  obtain ⟨⟨p0, p1, p2, p3, p4⟩, _⟩ := row_five (blk_alloc (o' := .cells #[.int .i64 k, .int .i64 n, .string s] 53) hg)
  obtain ⟨b3, H3⟩ : ∃ b3, Hid (okV k k n s.size = b3) := ⟨_, rfl⟩
  clear hg
  by_cases hk : k = kind
  · subst hk
    have HE : Hid (badV k ⟨k, n, s⟩ = !b3) := (by show _ = _; rw [badV, H3.out]; simp)
    go_enter Tryd.func47, Tryd.ntmps47
    go_wp2_with fail
    refine (isValue_any k n s _).mono ?_
    rw [H3.out]
    rintro e w1 ⟨rfl, hb1⟩
    have HB1 : Hid (Below W.heap.size W w1) := HB.out.trans (hb1.mono HB.out.size)
    clear hb1
    go_wp2
    go_ret
    exact ⟨by rw [HE.out]; rfl, HB1.out⟩
  · have q1 : (k == kind) = false := by simp [hk]
    have HE : Hid (badV kind ⟨k, n, s⟩ = true) := (by show _ = _; rw [badV]; simp [hk])
    clear hk
    go_enter Tryd.func47, Tryd.ntmps47
    go_wp2
    go_ret
    exact ⟨by rw [HE.out]; rfl, HB.out⟩
set_option maxRecDepth 100000 in
set_option maxHeartbeats 1600000 in
/-- slices.IndexFunc over values: the first wrong one. -/
theorem idxV_any (kind : Int) (g : Nat) (x0 x2 x3 x4 : Value) (a : Option Addr) (c : Nat) (vs : List Vl) (hn : vs.length ≤ 1048576) (W : World) (hg : W.heap[g]? = some (.cells #[x0, .int .i64 kind, x2, x3, x4] 45 (0, 0))) (hl : LiesV W a vs) :
    Calls Tryd.prog (46) #[.slice a vs.length c, .func (.func 47) #[] #[.pointer (some ⟨g, 0, none⟩)]] W fun e w' => (∃ r, e = .returned (.int .i64 r) ∧ Idx (badV kind) vs r) ∧ Below W.heap.size W w' := by
  have HL : Hid (LiesV W a vs) := hl
  have HG : Hid (W.heap[g]? = some (.cells #[x0, .int .i64 kind, x2, x3, x4] 45 (0, 0))) := hg
  clear hl hg
  go_enter Tryd.func46, Tryd.ntmps46
  go_wp2
  go_loopw [8] (fun x wr => ∃ i : Nat, i ≤ vs.length ∧ x = .int .i64 i ∧ Hid (∀ j (h : j < vs.length), j < i → badV kind vs[j] = false) ∧ Below W.heap.size W wr) (fun x _ => vs.length - (intOf x).toNat)
  case atStart => exact ⟨0, Nat.zero_le _, rfl, fun j _ h => absurd h (Nat.not_lt_zero _), Below.refl _ _⟩
  case round =>
    obtain ⟨i, hi, rfl, HA, hb⟩ := hrel
    have HB : Hid (Below W.heap.size W wr) := hb
    by_cases hlt : i < vs.length
    · obtain ⟨b, o, rfl, d0, d1, d2⟩ := (HL.out.keep hb) i hlt
      have HGr : Hid (wr.heap[g]? = some (.cells #[x0, .int .i64 kind, x2, x3, x4] 45 (0, 0))) := blk_keep hb HG.out
      clear hb
      go_wp2_with fail
      refine (badV_any kind vs[i].k vs[i].n vs[i].s g x0 x2 x3 x4 wr HGr.out).mono ?_
      rintro e w1 ⟨rfl, hb1⟩
      have HB1 : Hid (Below W.heap.size W w1) := HB.out.trans (hb1.mono HB.out.size)
      clear hb1
      cases hq : (badV kind ⟨vs[i].k, vs[i].n, vs[i].s⟩) with
      | true =>
        have HQ : Hid (badV kind vs[i] = true) := hq
        clear hq
        go_wp2
        go_ret
        exact ⟨⟨(i : Int), rfl, .inr ⟨i, hlt, rfl, HQ.out, fun j h => HA.out j (by omega) h⟩⟩, HB1.out⟩
      | false =>
        have HN : Hid (∀ j (h : j < vs.length), j < i + 1 → badV kind vs[j] = false) := fun j h hj => by
          by_cases e : j = i
          · subst e; exact hq
          · exact HA.out j h (by omega)
        clear hq
        go_wp2
        go_roundw
        case rel => exact ⟨i + 1, by omega, by go_num, HN, HB1⟩
        case measure => simp [intOf]; omega
    · obtain rfl : i = vs.length := by omega
      go_wp2
      go_ret
      exact ⟨⟨-1, rfl, .inl ⟨rfl, fun j h => HA.out j h h⟩⟩, hb⟩
/-- Is the first one not 0? -/
def headB : List Int → Bool
  | [] => false
  | r :: _ => !(r == 0)
/-- Do the levels and the number of values fit? -/
def fitB (lid mr md cid : Int) (rs ds : List Int) (nv : Nat) : Bool :=
  if cid ≠ lid ∨ rs.length ≠ ds.length then false
  else if headB rs = true then false
  else if (rs.any fun x => !(btw 0 x mr)) = true ∨ (ds.any fun x => !(btw 0 x md)) = true then false
  else decide (nv = cntE md ds)
theorem headB_at (rs : List Int) (h : 0 < rs.length) : headB rs = !(rs[0] == 0) := by
  cases rs with
  | nil => simp at h
  | cons r rest => rfl
end Go.Proofs.YtdpedailookcjaaDoor
