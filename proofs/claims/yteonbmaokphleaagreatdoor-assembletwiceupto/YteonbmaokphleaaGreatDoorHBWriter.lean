/-
  shred's writer: what it holds; an entry behind the others.
  shred's writer: entry.
  shred's writer: down and list.
  shred's writer: list.
  The entries that a datum makes of all leaves of its node: mathematics.
  shred's writer: down, all of it.
  shred's columns: how many values, how many records; the first wrong value.
  shred's columns: the first wrong value; fits; check.
  shred.stepsTo: the steps to a leaf.
-/
import Derived.Test.YteonbmaokphleaaGreatDoorHSmall
import Derived.Test.YteonbmaokphleaaGreatDoorHBRow4
import Derived.Test.YteonbmaokphleaaGreatDoorHBLvM
import Derived.Test.YteonbmaokphleaaGreatDoorHBChkD
import Derived.RegionTactic
import Derived.Deep.RegionWith
import Derived.Test.YteonbmaokphleaaGreatDoorHBVal
namespace Go.Proofs.YteonbmaokphleaaGreatDoor
open Go.RowKit
structure Stp where
 field : Nat
 rep : Int
 dfn : Nat
 lists : Nat
def stC (s : Stp) : List Value := [.int .i64 (s.field : Nat), .int .i64 s.rep, .int .i64 (s.dfn : Nat), .int .i64 (s.lists : Nat)]
structure CoI (g N : Nat) (sv : Value) (sts : List Stp) (md : Nat) (id : Int) (rv : Value) (reps : List Int) (dv : Value) (defs : List Int) (vv : Value) (vals : List Vl) (W : World) : Prop where
 cell : W.heap[g]? = some (.cells #[sv, .int .i64 (md : Nat), .int .i64 id, rv, dv, vv] 95 (0, 0))
 srow : W.ownsRow N 131 4 sv sts.length (sts.flatMap stC)
 rrow : W.ownsRow N 3 1 rv reps.length (i64s reps)
 drow : W.ownsRow N 3 1 dv defs.length (i64s defs)
 vrow : W.ownsRow N 54 3 vv vals.length (vcells vals)
 two : ∀ k, rv.ownBlock = some k → dv.ownBlock ≠ some k
theorem CoI.stay {g N : Nat} {sv : Value} {sts : List Stp} {md : Nat} {id : Int} {rv dv vv : Value} {reps defs : List Int} {vals : List Vl} {W w' : World} (h : CoI g N sv sts md id rv reps dv defs vv vals W) (hb : Below W.heap.size W w') : CoI g N sv sts md id rv reps dv defs vv vals w' :=
 ⟨blk_keep hb h.cell, ow_kept h.srow hb, ow_kept h.rrow hb, ow_kept h.drow hb, ow_kept h.vrow hb, h.two⟩
theorem CoI.pushR {g N : Nat} {sv : Value} {sts : List Stp} {md : Nat} {id : Int} {rv dv vv : Value} {reps defs : List Int} {vals : List Vl} {W w2 : World} {ob : Obj} {x2 : Value} {x : Int} (h : CoI g N sv sts md id rv reps dv defs vv vals W)
    (hown : w2.ownsRow N 3 1 x2 (reps.length + 1) (i64s reps ++ [.int .i64 x])) (hg : (W.alloc ob).grownBy w2 rv.ownBlock) (hw : x2.ownBlock = rv.ownBlock ∧ rv.ownBlock ≠ none ∨ x2.ownBlock = some (W.alloc ob).heap.size) :
    w2.heap[g]? = some (.cells #[sv, .int .i64 (md : Nat), .int .i64 id, rv, dv, vv] 95 (0, 0)) ∧ CoI g N sv sts md id x2 (reps ++ [x]) dv defs vv vals (w2.setCell ⟨g, 3, none⟩ x2) ∧ DFr g N W (w2.setCell ⟨g, 3, none⟩ x2) := by
 have hgl := lt_of_block h.cell
 have hng : some g ≠ rv.ownBlock := own_type h.rrow h.cell (by decide)
 have hng2 : x2.ownBlock ≠ some g := by
  rcases hw with ⟨e, _⟩ | e
  · rw [e]; exact fun e2 => hng e2.symm
  · rw [e]; simp; omega
 have ec : w2.heap[g]? = some (.cells #[sv, .int .i64 (md : Nat), .int .i64 id, rv, dv, vv] 95 (0, 0)) := by
  rw [hg.block g (by simp; omega) hng]
  exact blk_alloc h.cell
 have hset : ∀ k, k ≠ g → (w2.setCell ⟨g, 3, none⟩ x2).heap[k]? = w2.heap[k]? := fun k hk => Below.heap_setCell _ ⟨g, 3, none⟩ _ _ hk
 have hrow : ∀ {e s n : Nat} {v : Value} {xs : List Value}, W.ownsRow N e s v n xs → e ≠ 95 → (∀ k, v.ownBlock = some k → some k ≠ rv.ownBlock) → (w2.setCell ⟨g, 3, none⟩ x2).ownsRow N e s v n xs := fun hr he hne => own_same hr fun k hk => by
  obtain ⟨q1, q2, cs, q3⟩ := own_block hr hk
  have hkg : k ≠ g := fun e2 => by subst e2; rw [h.cell] at q3; injection q3 with q3; injection q3 with _ q3 _; exact he q3.symm
  rw [hset k hkg, hg.block k (by simp; omega) (hne k hk), heap_alloc_old W ob q2]
 have hty : ∀ {e s n : Nat} {v : Value} {xs : List Value}, W.ownsRow N e s v n xs → 3 ≠ e → ∀ k, v.ownBlock = some k → some k ≠ rv.ownBlock := fun hr he k hk => by
  obtain ⟨_, _, cs, q3⟩ := own_block hr hk
  exact own_type h.rrow q3 he
 refine ⟨ec, ?_, ⟨hg.os, hg.tape, hg.output, by have := hg.size; simp at this; simp; omega, fun k hk hne ht => ?_⟩⟩
 · refine ⟨?_, hrow h.srow (by decide) (hty h.srow (by decide)), ?_, hrow h.drow (by decide) (fun k hk e => h.two k e.symm hk), hrow h.vrow (by decide) (hty h.vrow (by decide)), ?_⟩
   · rw [row_setC ec]; rfl
   · rw [List.length_append, show i64s (reps ++ [x]) = i64s reps ++ [.int .i64 x] by simp [i64s]]
     exact own_same hown fun k hk => hset k (fun e2 => by subst e2; exact hng2 hk)
   · intro k hk
     rcases hw with ⟨e, _⟩ | e
     · rw [e] at hk; exact h.two k hk
     · rw [e] at hk
       simp at hk
       intro e2
       have := (own_block h.drow e2).2.1
       omega
 · rw [hset k hne, hg.block k (by simp; omega) (fun e => ?_), heap_alloc_old W ob hk]
   obtain ⟨q1, _, cs, q3⟩ := own_block h.rrow e.symm
   exact absurd rfl (ht q1 cs _ _ q3).1
theorem CoI.pushD {g N : Nat} {sv : Value} {sts : List Stp} {md : Nat} {id : Int} {rv dv vv : Value} {reps defs : List Int} {vals : List Vl} {W w2 : World} {ob : Obj} {x2 : Value} {x : Int} (h : CoI g N sv sts md id rv reps dv defs vv vals W)
    (hown : w2.ownsRow N 3 1 x2 (defs.length + 1) (i64s defs ++ [.int .i64 x])) (hg : (W.alloc ob).grownBy w2 dv.ownBlock) (hw : x2.ownBlock = dv.ownBlock ∧ dv.ownBlock ≠ none ∨ x2.ownBlock = some (W.alloc ob).heap.size) :
    w2.heap[g]? = some (.cells #[sv, .int .i64 (md : Nat), .int .i64 id, rv, dv, vv] 95 (0, 0)) ∧ CoI g N sv sts md id rv reps x2 (defs ++ [x]) vv vals (w2.setCell ⟨g, 4, none⟩ x2) ∧ DFr g N W (w2.setCell ⟨g, 4, none⟩ x2) := by
 have hgl := lt_of_block h.cell
 have hng : some g ≠ dv.ownBlock := own_type h.drow h.cell (by decide)
 have hng2 : x2.ownBlock ≠ some g := by
  rcases hw with ⟨e, _⟩ | e
  · rw [e]; exact fun e2 => hng e2.symm
  · rw [e]; simp; omega
 have ec : w2.heap[g]? = some (.cells #[sv, .int .i64 (md : Nat), .int .i64 id, rv, dv, vv] 95 (0, 0)) := by
  rw [hg.block g (by simp; omega) hng]
  exact blk_alloc h.cell
 have hset : ∀ k, k ≠ g → (w2.setCell ⟨g, 4, none⟩ x2).heap[k]? = w2.heap[k]? := fun k hk => Below.heap_setCell _ ⟨g, 4, none⟩ _ _ hk
 have hrow : ∀ {e s n : Nat} {v : Value} {xs : List Value}, W.ownsRow N e s v n xs → e ≠ 95 → (∀ k, v.ownBlock = some k → some k ≠ dv.ownBlock) → (w2.setCell ⟨g, 4, none⟩ x2).ownsRow N e s v n xs := fun hr he hne => own_same hr fun k hk => by
  obtain ⟨q1, q2, cs, q3⟩ := own_block hr hk
  have hkg : k ≠ g := fun e2 => by subst e2; rw [h.cell] at q3; injection q3 with q3; injection q3 with _ q3 _; exact he q3.symm
  rw [hset k hkg, hg.block k (by simp; omega) (hne k hk), heap_alloc_old W ob q2]
 have hty : ∀ {e s n : Nat} {v : Value} {xs : List Value}, W.ownsRow N e s v n xs → 3 ≠ e → ∀ k, v.ownBlock = some k → some k ≠ dv.ownBlock := fun hr he k hk => by
  obtain ⟨_, _, cs, q3⟩ := own_block hr hk
  exact own_type h.drow q3 he
 refine ⟨ec, ?_, ⟨hg.os, hg.tape, hg.output, by have := hg.size; simp at this; simp; omega, fun k hk hne ht => ?_⟩⟩
 · refine ⟨?_, hrow h.srow (by decide) (hty h.srow (by decide)), hrow h.rrow (by decide) (fun k hk e => h.two k hk e.symm), ?_, hrow h.vrow (by decide) (hty h.vrow (by decide)), ?_⟩
   · rw [row_setC ec]; rfl
   · rw [List.length_append, show i64s (defs ++ [x]) = i64s defs ++ [.int .i64 x] by simp [i64s]]
     exact own_same hown fun k hk => hset k (fun e2 => by subst e2; exact hng2 hk)
   · intro k hk e2
     rcases hw with ⟨e, _⟩ | e
     · rw [e] at e2; exact h.two k hk e2
     · rw [e] at e2
       simp at e2
       have := (own_block h.rrow hk).2.1
       omega
 · rw [hset k hne, hg.block k (by simp; omega) (fun e => ?_), heap_alloc_old W ob hk]
   obtain ⟨q1, _, cs, q3⟩ := own_block h.drow e.symm
   exact absurd rfl (ht q1 cs _ _ q3).1
theorem CoI.pushV {g N : Nat} {sv : Value} {sts : List Stp} {md : Nat} {id : Int} {rv dv vv : Value} {reps defs : List Int} {vals : List Vl} {W w2 : World} {ob : Obj} {x2 : Value} {x : Vl} (h : CoI g N sv sts md id rv reps dv defs vv vals W)
    (hown : w2.ownsRow N 54 3 x2 (vals.length + 1) (vcells vals ++ [.int .i64 x.k, .int .i64 x.n, .string x.s])) (hg : (W.alloc ob).grownBy w2 vv.ownBlock) (hw : x2.ownBlock = vv.ownBlock ∧ vv.ownBlock ≠ none ∨ x2.ownBlock = some (W.alloc ob).heap.size) :
    w2.heap[g]? = some (.cells #[sv, .int .i64 (md : Nat), .int .i64 id, rv, dv, vv] 95 (0, 0)) ∧ CoI g N sv sts md id rv reps dv defs x2 (vals ++ [x]) (w2.setCell ⟨g, 5, none⟩ x2) ∧ DFr g N W (w2.setCell ⟨g, 5, none⟩ x2) := by
 have hgl := lt_of_block h.cell
 have hng : some g ≠ vv.ownBlock := own_type h.vrow h.cell (by decide)
 have hng2 : x2.ownBlock ≠ some g := by
  rcases hw with ⟨e, _⟩ | e
  · rw [e]; exact fun e2 => hng e2.symm
  · rw [e]; simp; omega
 have ec : w2.heap[g]? = some (.cells #[sv, .int .i64 (md : Nat), .int .i64 id, rv, dv, vv] 95 (0, 0)) := by
  rw [hg.block g (by simp; omega) hng]
  exact blk_alloc h.cell
 have hset : ∀ k, k ≠ g → (w2.setCell ⟨g, 5, none⟩ x2).heap[k]? = w2.heap[k]? := fun k hk => Below.heap_setCell _ ⟨g, 5, none⟩ _ _ hk
 have hrow : ∀ {e s n : Nat} {v : Value} {xs : List Value}, W.ownsRow N e s v n xs → e ≠ 95 → (∀ k, v.ownBlock = some k → some k ≠ vv.ownBlock) → (w2.setCell ⟨g, 5, none⟩ x2).ownsRow N e s v n xs := fun hr he hne => own_same hr fun k hk => by
  obtain ⟨q1, q2, cs, q3⟩ := own_block hr hk
  have hkg : k ≠ g := fun e2 => by subst e2; rw [h.cell] at q3; injection q3 with q3; injection q3 with _ q3 _; exact he q3.symm
  rw [hset k hkg, hg.block k (by simp; omega) (hne k hk), heap_alloc_old W ob q2]
 have hty : ∀ {e s n : Nat} {v : Value} {xs : List Value}, W.ownsRow N e s v n xs → 54 ≠ e → ∀ k, v.ownBlock = some k → some k ≠ vv.ownBlock := fun hr he k hk => by
  obtain ⟨_, _, cs, q3⟩ := own_block hr hk
  exact own_type h.vrow q3 he
 refine ⟨ec, ?_, ⟨hg.os, hg.tape, hg.output, by have := hg.size; simp at this; simp; omega, fun k hk hne ht => ?_⟩⟩
 · refine ⟨?_, hrow h.srow (by decide) (hty h.srow (by decide)), hrow h.rrow (by decide) (hty h.rrow (by decide)), hrow h.drow (by decide) (hty h.drow (by decide)), ?_, h.two⟩
   · rw [row_setC ec]; rfl
   · rw [List.length_append, show vcells (vals ++ [x]) = vcells vals ++ [.int .i64 x.k, .int .i64 x.n, .string x.s] by simp [vcells]]
     exact own_same hown fun k hk => hset k (fun e2 => by subst e2; exact hng2 hk)
 · rw [hset k hne, hg.block k (by simp; omega) (fun e => ?_), heap_alloc_old W ob hk]
   obtain ⟨q1, _, cs, q3⟩ := own_block h.vrow e.symm
   exact absurd rfl (ht q1 cs _ _ q3).2
theorem row_sixF {w : World} {g e : Nat} {x0 x1 x2 x3 x4 x5 : Value} (h : w.heap[g]? = some (.cells #[x0, x1, x2, x3, x4, x5] e (0, 0))) :
    w.frozen? ⟨g, 3, none⟩ = false ∧ w.frozen? ⟨g, 4, none⟩ = false ∧ w.frozen? ⟨g, 5, none⟩ = false := by
 refine ⟨?_, ?_, ?_⟩ <;> simp [World.frozen?, h]
def CoS (g N : Nat) (sv : Value) (sts : List Stp) (md : Nat) (id : Int) (reps defs : List Int) (vals : List Vl) (W : World) : Prop := ∃ rv dv vv, CoI g N sv sts md id rv reps dv defs vv vals W
set_option maxRecDepth 100000 in
set_option maxHeartbeats 1600000 in
theorem entry_any (g N : Nat) (sv : Value) (sts : List Stp) (md : Nat) (id : Int) (reps defs : List Int) (vals : List Vl) (r df : Int) (W : World) (h : CoS g N sv sts md id reps defs vals W) (hN : N ≤ W.heap.size) (hr : reps.length < 20000) (hd : defs.length < 20000) :
    Calls Tryz.prog (73) #[.pointer (some ⟨g, 0, none⟩), .int .i64 r, .int .i64 df] W fun e w' => e = .returned .nilIface ∧ CoS g N sv sts md id (reps ++ [r]) (defs ++ [df]) vals w' ∧ DFr g N W w' := by
 obtain ⟨iv, hvi, hv0, hv1, hv2⟩ := info_parts Tryz.infoI
 obtain ⟨rv, dv, vv, hI⟩ := h
 have HI : Hid (CoI g N sv sts md id rv reps dv defs vv vals W) := hI
 obtain ⟨c0, c1, c2, c3, c4, c5⟩ := row_six hI.cell
 obtain ⟨f3, f4, f5⟩ := row_sixF hI.cell
 obtain ⟨ra, rc, rfl⟩ : ∃ a c, rv = .slice a reps.length c := by
  rcases hI.rrow.2 with ⟨rfl, h0⟩ | ⟨g, cap, cur, rfl, _⟩
  · exact ⟨none, 0, by rw [h0]⟩
  · exact ⟨_, cap, rfl⟩
 obtain ⟨da, dc, rfl⟩ : ∃ a c, dv = .slice a defs.length c := by
  rcases hI.drow.2 with ⟨rfl, h0⟩ | ⟨g, cap, cur, rfl, _⟩
  · exact ⟨none, 0, by rw [h0]⟩
  · exact ⟨_, cap, rfl⟩
 have q : ((reps.length : Int) == 20000) = false := by rw [beq_eq_false_iff_ne]; omega
 clear hI
 go_enter Tryz.func73, Tryz.ntmps73
 go_wp2_with (first
  | (at_builtin; refine wpList_append_where _ rfl _ _ 25 rfl N 3 iv (.int .i64 0) 1 8 Tryz.underlying25 hvi hv0 hv1 hv2 rfl (by decide) _ reps.length (i64s reps) rfl (HI.out.rrow.alloc _) ⟨W.heap.size, 0, none⟩ 1 1 [.int .i64 r] rfl rfl (cell_one_new _ _ _) (by intro u hu; simp at hu; subst hu; rfl) (by unfold maxLen; omega) (by omega) (by simp; omega) (by decide) ?_; intro x2 w2 hown2 hgrow2 hw2; obtain ⟨k1, k2, k3⟩ := HI.out.pushR hown2 hgrow2 hw2; obtain ⟨gx, cx, rfl⟩ := own_shape hown2; have HI2 : Hid (CoI g N sv sts md id (.slice (some ⟨gx, 0, none⟩) (reps.length + 1) cx) (reps ++ [r]) (.slice da defs.length dc) defs vv vals (w2.setCell ⟨g, 3, none⟩ (.slice (some ⟨gx, 0, none⟩) (reps.length + 1) cx))) := k2; have HD2 : Hid (DFr g N W (w2.setCell ⟨g, 3, none⟩ (.slice (some ⟨gx, 0, none⟩) (reps.length + 1) cx))) := k3; clear hown2 hgrow2 hw2 k2 k3 c0 c1 c2 c3 c4 c5 f3 f4 f5 HI; obtain ⟨c0, c1, c2, c3, c4, c5⟩ := row_six k1; obtain ⟨f3, f4, f5⟩ := row_sixF k1; clear k1)
  | (at_builtin; refine wpList_append_where _ rfl _ _ 25 rfl N 3 iv (.int .i64 0) 1 8 Tryz.underlying25 hvi hv0 hv1 hv2 rfl (by decide) _ defs.length (i64s defs) rfl (HI2.out.drow.alloc _) ⟨w2.heap.size, 0, none⟩ 1 1 [.int .i64 df] rfl rfl (by intro j u hu; have h := cell_one_new (w2.setCell ⟨g, 3, none⟩ (.slice (some ⟨gx, 0, none⟩) (reps.length + 1) cx)) (.int .i64 df) 3 j u hu; simpa using h) (by intro u hu; simp at hu; subst hu; rfl) (by unfold maxLen; omega) (by omega) (by have := HD2.out.size; simp at this; simp; omega) (by decide) ?_; intro x3 w3 hown3 hgrow3 hw3; obtain ⟨k1, k2, k3⟩ := HI2.out.pushD hown3 hgrow3 hw3; obtain ⟨gy, cy, rfl⟩ := own_shape hown3; have HI3 : Hid (CoI g N sv sts md id (.slice (some ⟨gx, 0, none⟩) (reps.length + 1) cx) (reps ++ [r]) (.slice (some ⟨gy, 0, none⟩) (defs.length + 1) cy) (defs ++ [df]) vv vals (w3.setCell ⟨g, 4, none⟩ (.slice (some ⟨gy, 0, none⟩) (defs.length + 1) cy))) := k2; have HD3 : Hid (DFr g N W (w3.setCell ⟨g, 4, none⟩ (.slice (some ⟨gy, 0, none⟩) (defs.length + 1) cy))) := HD2.out.trans k3; clear hown3 hgrow3 hw3 k2 k3 c0 c1 c2 c3 c4 c5 f3 f4 f5 HI2 HD2; obtain ⟨c0, c1, c2, c3, c4, c5⟩ := row_six k1; obtain ⟨f3, f4, f5⟩ := row_sixF k1; clear k1))
 go_ret
 exact ⟨rfl, ⟨_, _, _, HI3.out⟩, HD3.out⟩
structure Ent where
 rep : Int
 dfn : Int
 v : Option Vl
instance : Inhabited Dt := ⟨.mk false ⟨0, 0, ⟨#[]⟩⟩ [] []⟩
def dn (md : Nat) : List Stp → Dt → Int → List Ent
 | [], d, rep => [⟨rep, md, some d.v⟩]
 | s :: ss, d, rep => if s.rep = 3 then (match (d.f.getD s.field default).l with | [] => [⟨rep, s.dfn, none⟩] | e :: es => dn md ss e rep ++ es.flatMap (fun x => dn md ss x s.lists)) else if (d.f.getD s.field default).no = true then [⟨rep, s.dfn, none⟩] else dn md ss (d.f.getD s.field default) rep
def FitS : List Stp → Dt → Prop
 | [], _ => True
 | s :: ss, d => s.field < d.f.length ∧ (s.rep = 3 → ∀ e ∈ (d.f.getD s.field default).l, FitS ss e) ∧ (s.rep ≠ 3 → (d.f.getD s.field default).no = false → FitS ss (d.f.getD s.field default))
def eR (es : List Ent) : List Int := es.map Ent.rep
def eD (es : List Ent) : List Int := es.map Ent.dfn
def eV (es : List Ent) : List Vl := es.filterMap Ent.v
theorem srow_at {W : World} {N : Nat} {sv : Value} {sts : List Stp} (h : W.ownsRow N 131 4 sv sts.length (sts.flatMap stC)) (k : Nat) (hk : k < sts.length) : ∃ sb cap, sv = .slice (some ⟨sb, 0, none⟩) sts.length cap ∧ W.cell? ⟨sb, k * 4, none⟩ = some (.int .i64 (sts[k].field : Nat)) ∧ W.cell? ⟨sb, k * 4 + 1, none⟩ = some (.int .i64 sts[k].rep) ∧ W.cell? ⟨sb, k * 4 + 2, none⟩ = some (.int .i64 (sts[k].dfn : Nat)) ∧ W.cell? ⟨sb, k * 4 + 3, none⟩ = some (.int .i64 (sts[k].lists : Nat)) := by
 have hf : ∀ (l : List Stp) (k j : Nat) (hk : k < l.length), j < 4 → (l.flatMap stC)[k * 4 + j]? = (stC l[k])[j]? := by
  intro l
  induction l with
  | nil => intro k j hk; simp at hk
  | cons x xs ih =>
   intro k j hk hj
   rw [List.flatMap_cons]
   cases k with
   | zero => rw [List.getElem?_append_left (by simp [stC]; omega)]; simp
   | succ k =>
    rw [List.getElem?_append_right (by simp [stC]; omega), show (k + 1) * 4 + j - (stC x).length = k * 4 + j by simp [stC]; omega]
    simpa using ih k j (by simpa using hk) hj
 rcases h.2 with ⟨_, h0⟩ | ⟨g, cap, cur, rfl, rest⟩
 · omega
 · have hc : ∀ j u, (stC sts[k])[j]? = some u → j < 4 → W.cell? ⟨g, k * 4 + j, none⟩ = some u := fun j u hu hj => by
     have h1 := h.cells (g := g) rfl (k * 4 + j) u (by rw [hf sts k j hk hj]; exact hu)
     rw [addr_plus, Nat.zero_add] at h1
     exact h1
   exact ⟨g, cap, rfl, hc 0 _ rfl (by omega), hc 1 _ rfl (by omega), hc 2 _ rfl (by omega), hc 3 _ rfl (by omega)⟩
theorem tri_cells {w : World} {x y z : Value} {T : TypeId} : ∀ j u, [x, y, z][j]? = some u → (w.alloc (.cells #[x, y, z] T)).cell? ((⟨w.heap.size, 0, none⟩ : Addr).add j) = some u := fun j u h => by
 rw [addr_plus, Nat.zero_add]
 refine cell_alloc_at ?_ rfl
 simpa using h
set_option maxRecDepth 100000 in
set_option maxHeartbeats 3200000 in
theorem down_leaf (g N : Nat) (sv : Value) (sts : List Stp) (md : Nat) (id : Int) (reps defs : List Int) (vals : List Vl) (d : Dt) (rep : Int) (al : Option Addr) (cl : Nat) (af : Option Addr) (cf : Nat) (W : World) (h : CoS g N sv sts md id reps defs vals W) (hN : N ≤ W.heap.size) (hr : reps.length < 20000) (hd : defs.length < 20000) (hv : vals.length < 20000) :
    Calls Tryz.prog (43) #[.pointer (some ⟨g, 0, none⟩), .int .i64 (sts.length : Nat), datumV d al cl af cf, .int .i64 rep] W fun e w' => e = .returned .nilIface ∧ CoS g N sv sts md id (reps ++ [rep]) (defs ++ [(md : Int)]) (vals ++ [d.v]) w' ∧ DFr g N W w' := by
 obtain ⟨iv, hvi, hv0, hv1, hv2⟩ := info_parts Tryz.infoV
 obtain ⟨rv, dv, vv, hI0⟩ := h
 have hI := hI0.stay (w' := (W.alloc (.cells #[.bool d.no, .int .i64 d.v.k, .int .i64 d.v.n, .string d.v.s, .slice al d.l.length cl, .slice af d.f.length cf] 56)).drew) ((Below.refl _ _).alloc (Nat.le_refl _) _).drew
 have HI : Hid (CoI g N sv sts md id rv reps dv defs vv vals (W.alloc (.cells #[.bool d.no, .int .i64 d.v.k, .int .i64 d.v.n, .string d.v.s, .slice al d.l.length cl, .slice af d.f.length cf] 56)).drew) := hI
 obtain ⟨c0, c1, c2, c3, c4, c5⟩ := row_six (w := W.alloc (.cells #[.bool d.no, .int .i64 d.v.k, .int .i64 d.v.n, .string d.v.s, .slice al d.l.length cl, .slice af d.f.length cf] 56)) hI.cell
 obtain ⟨f3, f4, f5⟩ := row_sixF (w := W.alloc (.cells #[.bool d.no, .int .i64 d.v.k, .int .i64 d.v.n, .string d.v.s, .slice al d.l.length cl, .slice af d.f.length cf] 56)) hI.cell
 have hgl : g < (W.alloc (.cells #[.bool d.no, .int .i64 d.v.k, .int .i64 d.v.n, .string d.v.s, .slice al d.l.length cl, .slice af d.f.length cf] 56)).heap.size := lt_of_block (w := W.alloc (.cells #[.bool d.no, .int .i64 d.v.k, .int .i64 d.v.n, .string d.v.s, .slice al d.l.length cl, .slice af d.f.length cf] 56)) hI.cell
 have c5' : ∀ ob : Obj, ((W.alloc (.cells #[.bool d.no, .int .i64 d.v.k, .int .i64 d.v.n, .string d.v.s, .slice al d.l.length cl, .slice af d.f.length cf] 56)).alloc ob).cell? ⟨g, 5, none⟩ = some vv := fun ob => (((Below.refl _ _).alloc (Nat.le_refl _) ob).cell hgl).trans c5
 obtain ⟨sa, sc, rfl⟩ : ∃ a c, sv = .slice a sts.length c := by
  rcases hI.srow.2 with ⟨rfl, h0⟩ | ⟨g, cap, cur, rfl, _⟩
  · exact ⟨none, 0, by rw [h0]⟩
  · exact ⟨_, cap, rfl⟩
 have hvl := vcells_len vals
 clear hI hI0
 unfold datumV
 go_enter Tryz.func43, Tryz.ntmps43
 go_wp2
 go_region_law (refine step_own_where _ rfl _ _ 48 rfl N 54 iv (.agg #[.int .i64 0, .int .i64 0, .string ⟨#[]⟩]) 3 32 Tryz.underlying48 hvi hv0 hv1 hv2 rfl (by decide) _ vals.length (vcells vals) rfl (HI.out.vrow.alloc _) ⟨W.heap.size + 1, 0, none⟩ 1 1 [.int .i64 d.v.k, .int .i64 d.v.n, .string d.v.s] rfl rfl (by intro j u hu; have h := tri_cells (w := W.alloc (.cells #[.bool d.no, .int .i64 d.v.k, .int .i64 d.v.n, .string d.v.s, .slice al d.l.length cl, .slice af d.f.length cf] 56)) (T := 54) j u hu; simpa using h) (by intro u hu; simp at hu; rcases hu with rfl | rfl | rfl <;> rfl) (by unfold maxLen; omega) (by omega) (by simp; omega) (by decide) ?_; intro x2 w2 hown2 hgrow2 hw2; obtain ⟨k1, k2, k3⟩ := HI.out.pushV hown2 hgrow2 hw2; obtain ⟨gx, cx, rfl⟩ := own_shape hown2; have HI2 : Hid (CoI g N (.slice sa sts.length sc) sts md id rv reps dv defs (.slice (some ⟨gx, 0, none⟩) (vals.length + 1) cx) (vals ++ [d.v]) (w2.setCell ⟨g, 5, none⟩ (.slice (some ⟨gx, 0, none⟩) (vals.length + 1) cx))) := k2; have HD2 : Hid (DFr g N W (w2.setCell ⟨g, 5, none⟩ (.slice (some ⟨gx, 0, none⟩) (vals.length + 1) cx))) := ((DFr.alloc g N W _).trans (DFr.drew g N _)).trans k3; clear hown2 hgrow2 hw2 k2 k3; obtain ⟨e0, e1, e2, e3, e4, e5⟩ := row_six k1; obtain ⟨h3, h4, h5⟩ := row_sixF k1; clear k1)
 all_goals
  go_wp2_with fail
  refine (entry_any g N _ sts md id reps defs (vals ++ [d.v]) rep md _ ⟨_, _, _, HI2.out⟩ (by have := HD2.out.size; omega) hr hd).mono ?_
  rintro e w3 ⟨rfl, hC, hD⟩
  have HC : Hid (CoS g N (.slice sa sts.length sc) sts md id (reps ++ [rep]) (defs ++ [(md : Int)]) (vals ++ [d.v]) w3) := hC
  have HD : Hid (DFr g N W w3) := HD2.out.trans hD
  clear hC hD
  go_wp2
  go_ret
  exact ⟨rfl, HC.out, HD.out⟩
def DownP (g N B : Nat) (sv : Value) (sts : List Stp) (md : Nat) (id : Int) (k : Nat) (E : Int → List Ent) (d : Dt) : Prop := ∀ (reps defs : List Int) (vals : List Vl) (rep : Int) (al : Option Addr) (cl : Nat) (af : Option Addr) (cf : Nat) (W : World), CoS g N sv sts md id reps defs vals W → N ≤ W.heap.size → reps.length + (E rep).length ≤ 20000 → defs.length = reps.length → vals.length ≤ reps.length → LiesD W (fun b => b < B) al d.l → LiesD W (fun b => b < B) af d.f →
 Calls Tryz.prog (43) #[.pointer (some ⟨g, 0, none⟩), .int .i64 (k : Nat), datumV d al cl af cf, .int .i64 rep] W fun e w' => e = .returned .nilIface ∧ CoS g N sv sts md id (reps ++ eR (E rep)) (defs ++ eD (E rep)) (vals ++ eV (E rep)) w' ∧ DFr g N W w'
def lsE (F : Dt → Int → List Ent) (lists : Int) : Int → List Dt → List Ent
 | _, [] => []
 | rep, e :: es => F e rep ++ lsE F lists lists es
theorem eR_app (a b : List Ent) : eR (a ++ b) = eR a ++ eR b := by simp [eR]
theorem eD_app (a b : List Ent) : eD (a ++ b) = eD a ++ eD b := by simp [eD]
theorem eV_app (a b : List Ent) : eV (a ++ b) = eV a ++ eV b := by simp [eV]
theorem eR_len (a : List Ent) : (eR a).length = a.length := by simp [eR]
theorem eD_len (a : List Ent) : (eD a).length = a.length := by simp [eD]
theorem eV_len (a : List Ent) : (eV a).length ≤ a.length := List.length_filterMap_le _ _
theorem CoS.stay {g N : Nat} {sv : Value} {sts : List Stp} {md : Nat} {id : Int} {reps defs : List Int} {vals : List Vl} {W w' : World} (h : CoS g N sv sts md id reps defs vals W) (hb : Below W.heap.size W w') : CoS g N sv sts md id reps defs vals w' := by
 obtain ⟨rv, dv, vv, h⟩ := h
 exact ⟨rv, dv, vv, h.stay hb⟩
set_option maxRecDepth 100000 in
set_option maxHeartbeats 1600000 in
theorem list_of (g N B : Nat) (hBN : B ≤ N) (hBg : B ≤ g) (sv : Value) (sts : List Stp) (md : Nat) (id : Int) (k : Nat) (hk : k < sts.length) (hks : sts.length ≤ 1000) (s : Stp) (hs : Hid (sts[k] = s)) (F : Dt → Int → List Ent) (ls : List Dt) (hls : ls.length ≤ 1048576)
    (IH : Hid (∀ j (hj : j < ls.length), DownP g N B sv sts md id (k + 1) (F ls[j]) ls[j]))
    (reps defs : List Int) (vals : List Vl) (rep : Int) (a : Option Addr) (c : Nat) (W : World) (hC : CoS g N sv sts md id reps defs vals W) (hN : N ≤ W.heap.size) (hr : reps.length + (if ls = [] then 1 else (lsE F s.lists rep ls).length) ≤ 20000) (hd : defs.length = reps.length) (hv : vals.length ≤ reps.length) (hl : LiesD W (fun b => b < B) a ls) :
    Calls Tryz.prog (74) #[.pointer (some ⟨g, 0, none⟩), .int .i64 (k : Nat), .slice a ls.length c, .int .i64 rep] W fun e w' => e = .returned .nilIface ∧ (ls = [] → CoS g N sv sts md id (reps ++ [rep]) (defs ++ [(s.dfn : Int)]) vals w') ∧ (ls ≠ [] → CoS g N sv sts md id (reps ++ eR (lsE F s.lists rep ls)) (defs ++ eD (lsE F s.lists rep ls)) (vals ++ eV (lsE F s.lists rep ls)) w') ∧ DFr g N W w' := by
 have HC : Hid (CoS g N sv sts md id reps defs vals W) := hC
 obtain ⟨rv, dv, vv, hI⟩ := hC
 obtain ⟨c0, c1, c2, c3, c4, c5⟩ := row_six hI.cell
 have hgl := lt_of_block hI.cell
 obtain ⟨sb, cap, hsv, s0, s1, s2, s3⟩ := srow_at hI.srow k hk
 rw [hs.out] at s0 s1 s2 s3
 rw [hsv] at c0
 have HSv : Hid (sv = .slice (some ⟨sb, 0, none⟩) sts.length cap) := hsv
 have hb1 : Below W.heap.size W (W.alloc (.cells #[.int .i64 (s.field : Nat), .int .i64 s.rep, .int .i64 (s.dfn : Nat), .int .i64 (s.lists : Nat)] 131)) := (Below.refl _ _).alloc (Nat.le_refl _) _
 have HB1 : Hid _ := hb1
 have HX : Hid ((W.alloc (.cells #[.int .i64 (s.field : Nat), .int .i64 s.rep, .int .i64 (s.dfn : Nat), .int .i64 (s.lists : Nat)] 131)).heap[W.heap.size]? = some (.cells #[.int .i64 (s.field : Nat), .int .i64 s.rep, .int .i64 (s.dfn : Nat), .int .i64 (s.lists : Nat)] 131 (0, 0))) := heap_alloc_new W _
 have HL : Hid (LiesD W (fun b => b < B) a ls) := hl
 clear hI hsv hl hb1
 by_cases h0 : ls.length = 0
 · have h00 : ls = [] := List.eq_nil_of_length_eq_zero h0
   have HE : Hid (ls = []) := h00
   have q : ((ls.length : Int) == 0) = true := by simp [h0]
   have HCe : Hid _ := entry_any g N sv sts md id reps defs vals rep s.dfn (W.alloc (.cells #[.int .i64 (s.field : Nat), .int .i64 s.rep, .int .i64 (s.dfn : Nat), .int .i64 (s.lists : Nat)] 131)) (HC.out.stay HB1.out) (by simp; omega) (by rw [if_pos h00] at hr; omega) (by rw [if_pos h00] at hr; omega)
   clear h0 h00 hr
   go_enter Tryz.func74, Tryz.ntmps74
   go_wp2_with fail
   refine Calls.mono HCe.out ?_
   rintro e w1 ⟨rfl, hC1, hD1⟩
   have HC1 : Hid (CoS g N sv sts md id (reps ++ [rep]) (defs ++ [(s.dfn : Int)]) vals w1) := hC1
   have HD1 : Hid (DFr g N W w1) := (DFr.alloc g N W _).trans hD1
   clear hC1 hD1
   go_wp2
   go_ret
   exact ⟨rfl, fun _ => HC1.out, fun h => absurd HE.out h, HD1.out⟩
 · have h00 : ls ≠ [] := fun e => h0 (by rw [e]; rfl)
   rw [if_neg h00] at hr
   have q : ((ls.length : Int) == 0) = false := by rw [beq_eq_false_iff_ne]; omega
   have HE : Hid (ls ≠ []) := h00
   have HR : Hid (reps.length + (lsE F s.lists rep ls).length ≤ 20000) := hr
   clear h0 h00 hr
   go_enter Tryz.func74, Tryz.ntmps74
   go_wp2
   clear q
   generalize ((ls.length : Int) == 0) = bq
   go_loopw [3, 30] (fun rv x wr => ∃ (i : Nat) (r : Int) (done : List Ent), i ≤ ls.length ∧ x = .int .i64 i ∧ rv = .int .i64 r ∧ Hid (lsE F s.lists rep ls = done ++ lsE F s.lists r (ls.drop i)) ∧ Hid (CoS g N sv sts md id (reps ++ eR done) (defs ++ eD done) (vals ++ eV done) wr) ∧ Hid (DFr g N W wr) ∧ Hid (wr.heap[W.heap.size]? = some (.cells #[.int .i64 (s.field : Nat), .int .i64 s.rep, .int .i64 (s.dfn : Nat), .int .i64 (s.lists : Nat)] 131 (0, 0)))) (fun _ x _ => ls.length - (intOf x).toNat)
   case atStart => exact ⟨0, rep, [], Nat.zero_le _, rfl, rfl, rfl, (by show CoS _ _ _ _ _ _ _ _ _ _; simpa [eR, eD, eV] using HC.out.stay HB1.out), DFr.alloc g N W _, HX⟩
   case round =>
    obtain ⟨i, r, done, hi, rfl, rfl, HA, HCr, HD, HXr⟩ := hrel
    by_cases hlt : i < ls.length
    · have hBW : B ≤ W.heap.size := by omega
      have hbl := HD.out.below hBW hBg hBN
      obtain ⟨b', o', al1, cl1, af1, cf1, ea, ⟨e0, e1, e2, e3, e4, e5⟩, hd1, hd2⟩ := (HL.out.stay (W' := wr) (Q := fun b => b < B) (fun _ h _ => h) (fun b h _ => hbl.block b h)).at_ i hlt
      subst ea
      have hb2 : Below wr.heap.size wr (wr.alloc (.cells #[.bool ls[i].no, .int .i64 ls[i].v.k, .int .i64 ls[i].v.n, .string ls[i].v.s, .slice al1 ls[i].l.length cl1, .slice af1 ls[i].f.length cf1] 56)) := (Below.refl _ _).alloc (Nat.le_refl _) _
      have hA := HA.out
      rw [List.drop_eq_getElem_cons hlt, lsE, ← List.append_assoc] at hA
      have hlen := congrArg List.length hA
      rw [List.length_append, List.length_append] at hlen
      have hrr := HR.out
      have HCk : Hid _ := IH.out i hlt (reps ++ eR done) (defs ++ eD done) (vals ++ eV done) r al1 cl1 af1 cf1 (wr.alloc (.cells #[.bool ls[i].no, .int .i64 ls[i].v.k, .int .i64 ls[i].v.n, .string ls[i].v.s, .slice al1 ls[i].l.length cl1, .slice af1 ls[i].f.length cf1] 56)) (HCr.out.stay hb2) (by have := HD.out.size; simp; omega) (by rw [List.length_append, eR_len]; omega) (by rw [List.length_append, List.length_append, eR_len, eD_len, hd]) (by rw [List.length_append, List.length_append, eR_len]; have := eV_len done; omega) (hd1.keep hb2) (hd2.keep hb2)
      have HA2 : Hid _ := hA
      have HBx : Hid (DFr g N W (wr.alloc (.cells #[.bool ls[i].no, .int .i64 ls[i].v.k, .int .i64 ls[i].v.n, .string ls[i].v.s, .slice al1 ls[i].l.length cl1, .slice af1 ls[i].f.length cf1] 56))) := HD.out.trans (DFr.alloc g N wr _)
      have HXx : Hid ((wr.alloc (.cells #[.bool ls[i].no, .int .i64 ls[i].v.k, .int .i64 ls[i].v.n, .string ls[i].v.s, .slice al1 ls[i].l.length cl1, .slice af1 ls[i].f.length cf1] 56)).heap[W.heap.size]? = some (.cells #[.int .i64 (s.field : Nat), .int .i64 s.rep, .int .i64 (s.dfn : Nat), .int .i64 (s.lists : Nat)] 131 (0, 0))) := blk_alloc HXr.out
      clear hb2 hA hlen hrr hd1 hd2 hbl
      go_wp2_with fail
      refine Calls.mono HCk.out ?_
      rintro e w3 ⟨rfl, hC3, hD3⟩
      have HC3 : Hid (CoS g N sv sts md id (reps ++ eR (done ++ F ls[i] r)) (defs ++ eD (done ++ F ls[i] r)) (vals ++ eV (done ++ F ls[i] r)) w3) := (by rw [eR_app, eD_app, eV_app, ← List.append_assoc, ← List.append_assoc, ← List.append_assoc]; exact hC3)
      have HD3 : Hid (DFr g N W w3) := HBx.out.trans hD3
      have HX3 : Hid (w3.heap[W.heap.size]? = some (.cells #[.int .i64 (s.field : Nat), .int .i64 s.rep, .int .i64 (s.dfn : Nat), .int .i64 (s.lists : Nat)] 131 (0, 0))) := hD3.box HXx.out (by omega) (by decide)
      clear hC3 hD3 e0 e1 e2 e3 e4 e5
      obtain ⟨x0, x1, x2, x3⟩ := row_four HX3.out
      go_wp2
      go_roundw
      case rel => exact ⟨i + 1, s.lists, done ++ F ls[i] r, by omega, by go_num, rfl, HA2, HC3, HD3, HX3⟩
      case measure => simp [intOf]; omega
    · obtain rfl : i = ls.length := by omega
      have HZ : Hid (lsE F s.lists rep ls = done) := (by
       show _ = _
       rw [HA.out, List.drop_length]
       simp [lsE])
      go_wp2
      go_ret
      rw [HZ.out]
      exact ⟨rfl, fun h => absurd h HE.out, fun _ => HCr.out, HD.out⟩
mutual
def lvC : Tr → Nat
 | .node _ _ _ kind sub => if kind = 0 then lvCL sub else 1
def lvCL : List Tr → Nat
 | [] => 0
 | t :: ts => lvC t + lvCL ts
end
theorem lvC_eq (t : Tr) : lvC t = if t.kind = 0 then lvCL t.sub else 1 := by
 cases t with
 | node id nm rep kind sub => rw [lvC]; rfl
theorem lvCL_app : ∀ a b : List Tr, lvCL (a ++ b) = lvCL a + lvCL b
 | [], b => by rw [List.nil_append, lvCL]; omega
 | t :: a, b => by rw [List.cons_append, lvCL, lvCL, lvCL_app a b]; omega
def zipA (xs ys : List (List Ent)) : List (List Ent) := List.zipWith (· ++ ·) xs ys
def absE (t : Tr) (df : Nat) (rep : Int) : List (List Ent) := List.replicate (lvC t) [⟨rep, (df : Int), none⟩]
mutual
def en (one : Bool) (t : Tr) (df ls : Nat) (rep : Int) : Dt → List (List Ent)
 | .mk no v l f =>
  if one = false ∧ t.rep = 3 then (if l.length = 0 then absE t df rep else enL t (df + 1) (ls + 1) rep l)
  else if one = false ∧ no = true then absE t df rep
  else if t.kind = 0 then enF t.sub (if one = true ∨ t.rep = 1 then df else df + 1) ls rep f
  else [[⟨rep, ((if one = true ∨ t.rep = 1 then df else df + 1 : Nat) : Int), some v⟩]]
def enL (t : Tr) (df ls : Nat) (rep : Int) : List Dt → List (List Ent)
 | [] => List.replicate (lvC t) []
 | d :: ds => zipA (en true t df ls rep d) (enL t df ls (ls : Int) ds)
def enF : List Tr → Nat → Nat → Int → List Dt → List (List Ent)
 | _, _, _, _, [] => []
 | [], _, _, _, _ :: _ => []
 | t :: ts, df, ls, rep, d :: ds => en false t df ls rep d ++ enF ts df ls rep ds
end
theorem en_eq (one : Bool) (t : Tr) (df ls : Nat) (rep : Int) (d : Dt) : en one t df ls rep d = if one = false ∧ t.rep = 3 then (if d.l.length = 0 then absE t df rep else enL t (df + 1) (ls + 1) rep d.l)
    else if one = false ∧ d.no = true then absE t df rep
    else if t.kind = 0 then enF t.sub (if one = true ∨ t.rep = 1 then df else df + 1) ls rep d.f
    else [[⟨rep, ((if one = true ∨ t.rep = 1 then df else df + 1 : Nat) : Int), some d.v⟩]] := by
 cases d with
 | mk no v l f => rw [en]; rfl
def Hd (rep : Int) (p : Int → Prop) (es : List Ent) : Prop := ∃ e t, es = e :: t ∧ e.rep = rep ∧ p e.dfn
theorem Hd.imp {rep : Int} {p q : Int → Prop} {es : List Ent} (h : Hd rep p es) (hpq : ∀ x, p x → q x) : Hd rep q es := by
 obtain ⟨e, t, h1, h2, h3⟩ := h
 exact ⟨e, t, h1, h2, hpq _ h3⟩
theorem absE_all (t : Tr) (df : Nat) (rep : Int) : ∀ es ∈ absE t df rep, Hd rep (fun x => x = (df : Int)) es := fun es h => by
 rw [List.eq_of_mem_replicate h]
 exact ⟨_, [], rfl, rfl, rfl⟩
theorem zipA_len (xs ys : List (List Ent)) (h : xs.length = ys.length) : (zipA xs ys).length = xs.length := by
 unfold zipA
 rw [List.length_zipWith]
 omega
theorem zipA_at (xs ys : List (List Ent)) (j : Nat) (h : j < (zipA xs ys).length) (h1 : j < xs.length) (h2 : j < ys.length) : (zipA xs ys)[j] = xs[j] ++ ys[j] := List.getElem_zipWith (h := h)
theorem zipA_hd {rep : Int} {p : Int → Prop} {xs ys : List (List Ent)} (h : ∀ es ∈ xs, Hd rep p es) : ∀ es ∈ zipA xs ys, Hd rep p es := fun es he => by
 obtain ⟨j, hj, rfl⟩ := List.getElem_of_mem he
 have hj2 := hj
 unfold zipA at hj2
 rw [List.length_zipWith] at hj2
 rw [zipA_at xs ys j hj (by omega) (by omega)]
 obtain ⟨e, t, h1, h2, h3⟩ := h xs[j] (List.getElem_mem _)
 exact ⟨e, t ++ ys[j], by rw [h1]; rfl, h2, h3⟩
def isThere (t : Tr) (d : Dt) : Prop := (t.rep = 3 → d.l ≠ []) ∧ (t.rep ≠ 3 → d.no = false)
mutual
theorem en_len : ∀ (d : Dt) (one : Bool) (t : Tr) (df ls : Nat) (rep : Int), chk one t d = 0 → (en one t df ls rep d).length = lvC t
 | .mk no v l f, one, t, df, ls, rep, h => by
  rw [en_eq]
  by_cases c1 : one = false ∧ t.rep = 3
  · rw [if_pos c1]
    split
    · exact List.length_replicate ..
    · cases kd_of h with
      | list l h1 h3 hl40 each => exact enL_len l t (df + 1) (ls + 1) rep each
      | none h1 h2 => omega
      | group f h1 hk hfl each => exact absurd c1 h1
      | leaf v h1 hk hv ok => exact absurd c1 h1
  · rw [if_neg c1]
    by_cases c2 : one = false ∧ no = true
    · rw [if_pos (by exact c2)]
      exact List.length_replicate ..
    · rw [if_neg (by exact c2)]
      rw [lvC_eq]
      by_cases hk : t.kind = 0
      · rw [if_pos hk, if_pos hk]
        cases kd_of h with
        | list l h1 h3 hl40 each => exact absurd ⟨h1, h3⟩ c1
        | none h1 h2 => exact absurd ⟨h1, rfl⟩ c2
        | group f h1 hk hfl each => exact enF_len f t.sub _ ls rep hfl each
        | leaf v h1 hk' hv ok => exact absurd hk hk'
      · rw [if_neg hk, if_neg hk]
        rfl
theorem enL_len : ∀ (ds : List Dt) (t : Tr) (df ls : Nat) (rep : Int), (∀ j (h : j < ds.length), chk true t ds[j] = 0) → (enL t df ls rep ds).length = lvC t
 | [], t, df, ls, rep, _ => List.length_replicate ..
 | d :: ds, t, df, ls, rep, h => by
  have h1 := en_len d true t df ls rep (h 0 (by simp))
  have h2 := enL_len ds t df ls (ls : Int) (fun j hj => h (j + 1) (by simpa using hj))
  rw [enL, zipA_len _ _ (by rw [h1, h2]), h1]
theorem enF_len : ∀ (ds : List Dt) (ts : List Tr) (df ls : Nat) (rep : Int), ds.length = ts.length → (∀ j (h : j < ts.length) (h' : j < ds.length), chk false ts[j] ds[j] = 0) → (enF ts df ls rep ds).length = lvCL ts
 | [], [], df, ls, rep, _, _ => rfl
 | [], _ :: _, df, ls, rep, h, _ => by simp at h
 | _ :: _, [], df, ls, rep, h, _ => by simp at h
 | d :: ds, t :: ts, df, ls, rep, hl, h => by
  rw [enF, List.length_append, en_len d false t df ls rep (h 0 (by simp) (by simp)), enF_len ds ts df ls rep (by simpa using hl) (fun j h1 h2 => h (j + 1) (by simpa using h1) (by simpa using h2)), lvCL]
end
mutual
theorem en_hd : ∀ (d : Dt) (one : Bool) (t : Tr) (df ls : Nat) (rep : Int), chk one t d = 0 → ∀ es ∈ en one t df ls rep d, Hd rep (fun x => (df : Int) ≤ x ∧ (one = false → t.rep ≠ 1 → isThere t d → (df : Int) < x) ∧ (one = false → ¬ isThere t d → x = (df : Int))) es
 | .mk no v l f, one, t, df, ls, rep, h => fun es hes => by
  rw [en_eq] at hes
  have hab : one = false → ¬ isThere t (.mk no v l f) → es ∈ absE t df rep → Hd rep (fun x => (df : Int) ≤ x ∧ (one = false → t.rep ≠ 1 → isThere t (.mk no v l f) → (df : Int) < x) ∧ (one = false → ¬ isThere t (.mk no v l f) → x = (df : Int))) es := fun _ hn he => (absE_all t df rep es he).imp fun x hx => ⟨by omega, fun _ _ hi => absurd hi hn, fun _ _ => hx⟩
  by_cases c1 : one = false ∧ t.rep = 3
  · rw [if_pos c1] at hes
    split at hes
    · rename_i h0
      refine hab c1.1 (fun hi => ?_) hes
      exact hi.1 c1.2 (List.length_eq_zero_iff.1 h0)
    · rename_i h0
      cases kd_of h with
      | list l h1 h3 hl40 each =>
       refine (enL_hd l t (df + 1) (ls + 1) rep each (fun e => h0 (by simp [Dt.l, e])) es hes).imp fun x hx => ⟨by omega, fun _ _ _ => by omega, fun _ hn => absurd ⟨fun _ e => h0 (by simp only [Dt.l] at e ⊢; rw [e]; rfl), fun hne => absurd c1.2 hne⟩ hn⟩
      | none h1 h2 => omega
      | group f h1 hk hfl each => exact absurd c1 h1
      | leaf v h1 hk hv ok => exact absurd c1 h1
  · rw [if_neg c1] at hes
    by_cases c2 : one = false ∧ no = true
    · rw [if_pos (by exact c2)] at hes
      refine hab c2.1 (fun hi => ?_) hes
      have := hi.2 (fun e => c1 ⟨c2.1, e⟩)
      simp only [Dt.no] at this
      rw [c2.2] at this
      exact absurd this (by simp)
    · rw [if_neg (by exact c2)] at hes
      have hth : one = false → isThere t (.mk no v l f) := fun h1 => ⟨fun h3 => absurd ⟨h1, h3⟩ c1, fun _ => by
       simp only [Dt.no]
       cases no
       · rfl
       · exact absurd ⟨h1, rfl⟩ c2⟩
      have hup : ∀ x : Int, ((if one = true ∨ t.rep = 1 then df else df + 1 : Nat) : Int) ≤ x → (df : Int) ≤ x ∧ (one = false → t.rep ≠ 1 → isThere t (.mk no v l f) → (df : Int) < x) ∧ (one = false → ¬ isThere t (.mk no v l f) → x = (df : Int)) := fun x hx => by
       refine ⟨?_, fun h1 h2 _ => ?_, fun h1 hn => absurd (hth h1) hn⟩
       · split at hx <;> omega
       · rw [if_neg (by rw [h1]; simp [h2])] at hx
         omega
      by_cases hk : t.kind = 0
      · rw [if_pos hk] at hes
        cases kd_of h with
        | list l h1 h3 hl40 each => exact absurd ⟨h1, h3⟩ c1
        | none h1 h2 => exact absurd ⟨h1, rfl⟩ c2
        | group f h1 hk hfl each => exact (enF_hd f t.sub _ ls rep hfl each es hes).imp hup
        | leaf v h1 hk' hv ok => exact absurd hk hk'
      · rw [if_neg hk, List.mem_singleton] at hes
        subst hes
        exact ⟨_, [], rfl, rfl, hup _ (Int.le_refl _)⟩
theorem enL_hd : ∀ (ds : List Dt) (t : Tr) (df ls : Nat) (rep : Int), (∀ j (h : j < ds.length), chk true t ds[j] = 0) → ds ≠ [] → ∀ es ∈ enL t df ls rep ds, Hd rep (fun x => (df : Int) ≤ x) es
 | [], t, df, ls, rep, _, hne => absurd rfl hne
 | d :: ds, t, df, ls, rep, h, _ => fun es hes => by
  rw [enL] at hes
  exact zipA_hd (fun es he => (en_hd d true t df ls rep (h 0 (by simp)) es he).imp fun x hx => hx.1) es hes
theorem enF_hd : ∀ (ds : List Dt) (ts : List Tr) (df ls : Nat) (rep : Int), ds.length = ts.length → (∀ j (h : j < ts.length) (h' : j < ds.length), chk false ts[j] ds[j] = 0) → ∀ es ∈ enF ts df ls rep ds, Hd rep (fun x => (df : Int) ≤ x) es
 | [], [], df, ls, rep, _, _ => fun es h => by simp [enF] at h
 | [], _ :: _, df, ls, rep, h, _ => by simp at h
 | _ :: _, [], df, ls, rep, h, _ => by simp at h
 | d :: ds, t :: ts, df, ls, rep, hl, h => fun es hes => by
  rw [enF, List.mem_append] at hes
  rcases hes with hes | hes
  · exact (en_hd d false t df ls rep (h 0 (by simp) (by simp)) es hes).imp fun x hx => hx.1
  · exact enF_hd ds ts df ls rep (by simpa using hl) (fun j h1 h2 => h (j + 1) (by simpa using h1) (by simpa using h2)) es hes
end
theorem dn_list (md : Nat) (s : Stp) (ss : List Stp) (d : Dt) (rep : Int) (h3 : s.rep = 3) (hne : (d.f.getD s.field default).l ≠ []) : dn md (s :: ss) d rep = lsE (dn md ss) s.lists rep (d.f.getD s.field default).l := by
 rw [dn, if_pos h3]
 have hl : ∀ es : List Dt, es.flatMap (fun x => dn md ss x s.lists) = lsE (dn md ss) s.lists s.lists es := fun es => by
  induction es with
  | nil => rfl
  | cons e es ih => rw [List.flatMap_cons, ih, lsE]
 cases h : (d.f.getD s.field default).l with
 | nil => exact absurd h hne
 | cons e es => simp only [lsE, hl]
theorem dn_nil (md : Nat) (s : Stp) (ss : List Stp) (d : Dt) (rep : Int) (h3 : s.rep = 3) (hn : (d.f.getD s.field default).l = []) : dn md (s :: ss) d rep = [⟨rep, s.dfn, none⟩] := by
 rw [dn, if_pos h3, hn]
theorem dn_none (md : Nat) (s : Stp) (ss : List Stp) (d : Dt) (rep : Int) (h3 : s.rep ≠ 3) (hn : (d.f.getD s.field default).no = true) : dn md (s :: ss) d rep = [⟨rep, s.dfn, none⟩] := by
 rw [dn, if_neg h3, if_pos hn]
theorem dn_one (md : Nat) (s : Stp) (ss : List Stp) (d : Dt) (rep : Int) (h3 : s.rep ≠ 3) (hn : (d.f.getD s.field default).no = false) : dn md (s :: ss) d rep = dn md ss (d.f.getD s.field default) rep := by
 rw [dn, if_neg h3, if_neg (by rw [hn]; simp)]
set_option maxRecDepth 100000 in
set_option maxHeartbeats 1600000 in
theorem down_step (g N B : Nat) (hBN : B ≤ N) (hBg : B ≤ g) (sv : Value) (sts : List Stp) (md : Nat) (id : Int) (k : Nat) (hk : k < sts.length) (hks : sts.length ≤ 1000) (s : Stp) (hs : Hid (sts[k] = s)) (ss : List Stp) (d d' : Dt) (hf : s.field < d.f.length) (hd' : Hid (d.f[s.field] = d')) (hl' : d'.l.length ≤ 1048576)
    (IHl : Hid (s.rep = 3 → ∀ j (hj : j < d'.l.length), DownP g N B sv sts md id (k + 1) (dn md ss d'.l[j]) d'.l[j]))
    (IHd : Hid (s.rep ≠ 3 → d'.no = false → DownP g N B sv sts md id (k + 1) (dn md ss d') d')) :
    DownP g N B sv sts md id k (dn md (s :: ss) d) d := by
 intro reps defs vals rep al cl af cf W hC hN hr hd hv hl hfl
 have hgetD : d.f.getD s.field default = d' := by rw [← hd'.out]; simp [List.getD, hf]
 have HC : Hid (CoS g N sv sts md id reps defs vals W) := hC
 obtain ⟨rv, dv, vv, hI⟩ := hC
 have hgl := lt_of_block hI.cell
 obtain ⟨sb, cap, hsv, s0, s1, s2, s3⟩ := srow_at hI.srow k hk
 rw [hs.out] at s0 s1 s2 s3
 have hb1 : Below W.heap.size W (W.alloc (.cells #[.bool d.no, .int .i64 d.v.k, .int .i64 d.v.n, .string d.v.s, .slice al d.l.length cl, .slice af d.f.length cf] 56)) := (Below.refl _ _).alloc (Nat.le_refl _) _
 obtain ⟨c0, c1, c2, c3, c4, c5⟩ := row_six (blk_keep hb1 hI.cell)
 rw [hsv] at c0
 have t0 := (hb1.cell (World.block_lt_of_cell? W _ s0)).trans s0
 have t1 := (hb1.cell (World.block_lt_of_cell? W _ s1)).trans s1
 have t2 := (hb1.cell (World.block_lt_of_cell? W _ s2)).trans s2
 have t3 := (hb1.cell (World.block_lt_of_cell? W _ s3)).trans s3
 have hb2 : Below W.heap.size W ((W.alloc (.cells #[.bool d.no, .int .i64 d.v.k, .int .i64 d.v.n, .string d.v.s, .slice al d.l.length cl, .slice af d.f.length cf] 56)).alloc (.cells #[.int .i64 (s.field : Nat), .int .i64 s.rep, .int .i64 (s.dfn : Nat), .int .i64 (s.lists : Nat)] 131)) := hb1.alloc (by simp) _
 obtain ⟨b', o', al1, cl1, af1, cf1, ea, ⟨e0, e1, e2, e3, e4, e5⟩, hd1, hd2⟩ := (hfl.stay (W' := (W.alloc (.cells #[.bool d.no, .int .i64 d.v.k, .int .i64 d.v.n, .string d.v.s, .slice al d.l.length cl, .slice af d.f.length cf] 56)).alloc (.cells #[.int .i64 (s.field : Nat), .int .i64 s.rep, .int .i64 (s.dfn : Nat), .int .i64 (s.lists : Nat)] 131)) (Q := fun b => b < B) (fun _ h _ => h) (fun b h _ => hb2.block b (by omega))).at_ s.field hf
 subst ea
 rw [hd'.out] at e0 e1 e2 e3 e4 e5 hd1 hd2
 have hb3 : Below W.heap.size W ((W.alloc (.cells #[.bool d'.no, .int .i64 d'.v.k, .int .i64 d'.v.n, .string d'.v.s, .slice al1 d'.l.length cl1, .slice af1 d'.f.length cf1] 56)).alloc (.cells #[.int .i64 (s.field : Nat), .int .i64 s.rep, .int .i64 (s.dfn : Nat), .int .i64 (s.lists : Nat)] 131)) := ((Below.refl _ _).alloc (Nat.le_refl _) _).alloc (by simp) _
 have HB3 : Hid (Below W.heap.size W ((W.alloc (.cells #[.bool d'.no, .int .i64 d'.v.k, .int .i64 d'.v.n, .string d'.v.s, .slice al1 d'.l.length cl1, .slice af1 d'.f.length cf1] 56)).alloc (.cells #[.int .i64 (s.field : Nat), .int .i64 s.rep, .int .i64 (s.dfn : Nat), .int .i64 (s.lists : Nat)] 131))) := hb3
 have HC3 : Hid (CoS g N sv sts md id reps defs vals ((W.alloc (.cells #[.bool d'.no, .int .i64 d'.v.k, .int .i64 d'.v.n, .string d'.v.s, .slice al1 d'.l.length cl1, .slice af1 d'.f.length cf1] 56)).alloc (.cells #[.int .i64 (s.field : Nat), .int .i64 s.rep, .int .i64 (s.dfn : Nat), .int .i64 (s.lists : Nat)] 131))) := HC.out.stay hb3
 have HL1 : Hid (LiesD ((W.alloc (.cells #[.bool d'.no, .int .i64 d'.v.k, .int .i64 d'.v.n, .string d'.v.s, .slice al1 d'.l.length cl1, .slice af1 d'.f.length cf1] 56)).alloc (.cells #[.int .i64 (s.field : Nat), .int .i64 s.rep, .int .i64 (s.dfn : Nat), .int .i64 (s.lists : Nat)] 131)) (fun b => b < B) al1 d'.l) := hd1.stay (fun _ h _ => h) (fun b h _ => (hb3.block b (by omega)).trans (hb2.block b (by omega)).symm)
 have HL2 : Hid (LiesD ((W.alloc (.cells #[.bool d'.no, .int .i64 d'.v.k, .int .i64 d'.v.n, .string d'.v.s, .slice al1 d'.l.length cl1, .slice af1 d'.f.length cf1] 56)).alloc (.cells #[.int .i64 (s.field : Nat), .int .i64 s.rep, .int .i64 (s.dfn : Nat), .int .i64 (s.lists : Nat)] 131)) (fun b => b < B) af1 d'.f) := hd2.stay (fun _ h _ => h) (fun b h _ => (hb3.block b (by omega)).trans (hb2.block b (by omega)).symm)
 have HR : Hid (reps.length + (dn md (s :: ss) d rep).length ≤ 20000) := hr
 have HG : Hid (d.f.getD s.field default = d') := hgetD
 have q : ((k : Int) == (sts.length : Int)) = false := by rw [beq_eq_false_iff_ne]; omega
 clear hI hb1 hl hfl s0 s1 s2 s3 hb2 hb3 hd1 hd2 hr hgetD
 unfold datumV
 go_enter Tryz.func43, Tryz.ntmps43
 by_cases h3 : s.rep = 3
 · have q3 : (s.rep == 3) = true := by simp [h3]
   have H3 : Hid (s.rep = 3) := h3
   clear h3
   have HCl := list_of g N B hBN hBg sv sts md id k hk hks s hs (dn md ss) d'.l hl' (fun j hj => IHl.out H3.out j hj) reps defs vals rep al1 cl1 ((W.alloc (.cells #[.bool d'.no, .int .i64 d'.v.k, .int .i64 d'.v.n, .string d'.v.s, .slice al1 d'.l.length cl1, .slice af1 d'.f.length cf1] 56)).alloc (.cells #[.int .i64 (s.field : Nat), .int .i64 s.rep, .int .i64 (s.dfn : Nat), .int .i64 (s.lists : Nat)] 131)) HC3.out (by simp; omega) (by
    have h := HR.out
    split
    · rename_i h0
      rw [dn_nil md s ss d rep H3.out (by rw [HG.out]; exact h0)] at h
      simpa using h
    · rename_i h0
      rw [dn_list md s ss d rep H3.out (by rw [HG.out]; exact h0), HG.out] at h
      exact h) hd hv HL1.out
   have HCl : Hid _ := HCl
   go_wp2_with fail
   refine Calls.mono HCl.out ?_
   rintro e w1 ⟨rfl, h1, h2, hD⟩
   have HD : Hid (DFr g N W w1) := (DFr.of_below HB3.out).trans hD
   have HF : Hid (CoS g N sv sts md id (reps ++ eR (dn md (s :: ss) d rep)) (defs ++ eD (dn md (s :: ss) d rep)) (vals ++ eV (dn md (s :: ss) d rep)) w1) := (by
    by_cases h0 : d'.l = []
    · rw [dn_nil md s ss d rep H3.out (by rw [HG.out]; exact h0)]
      show CoS _ _ _ _ _ _ _ _ _ _
      simpa [eR, eD, eV] using h1 h0
    · rw [dn_list md s ss d rep H3.out (by rw [HG.out]; exact h0), HG.out]
      exact h2 h0)
   clear h1 h2 hD HCl
   go_wp2
   go_ret
   exact ⟨rfl, HF.out, HD.out⟩
 · have q3 : (s.rep == 3) = false := by simp [h3]
   have H3 : Hid (s.rep ≠ 3) := h3
   clear h3
   obtain ⟨bn, hbn⟩ : ∃ bn, d'.no = bn := ⟨_, rfl⟩
   cases bn with
   | true =>
    have HCe := entry_any g N sv sts md id reps defs vals rep s.dfn ((W.alloc (.cells #[.bool d'.no, .int .i64 d'.v.k, .int .i64 d'.v.n, .string d'.v.s, .slice al1 d'.l.length cl1, .slice af1 d'.f.length cf1] 56)).alloc (.cells #[.int .i64 (s.field : Nat), .int .i64 s.rep, .int .i64 (s.dfn : Nat), .int .i64 (s.lists : Nat)] 131)) HC3.out (by simp; omega) (by have h := HR.out; rw [dn_none md s ss d rep H3.out (by rw [HG.out]; exact hbn)] at h; simp at h; omega) (by have h := HR.out; rw [dn_none md s ss d rep H3.out (by rw [HG.out]; exact hbn)] at h; simp at h; omega)
    rw [hbn] at HCe HB3
    have HCe : Hid _ := HCe
    have HE : Hid _ := dn_none md s ss d rep H3.out (by rw [HG.out]; exact hbn)
    rw [hbn] at e0
    go_wp2_with fail
    refine Calls.mono HCe.out ?_
    rintro e w1 ⟨rfl, h1, hD⟩
    have HD : Hid (DFr g N W w1) := (DFr.of_below HB3.out).trans hD
    have HF : Hid (CoS g N sv sts md id (reps ++ eR (dn md (s :: ss) d rep)) (defs ++ eD (dn md (s :: ss) d rep)) (vals ++ eV (dn md (s :: ss) d rep)) w1) := (by
     rw [HE.out]
     show CoS _ _ _ _ _ _ _ _ _ _
     simpa [eR, eD, eV] using h1)
    clear h1 hD HCe
    go_wp2
    go_ret
    exact ⟨rfl, HF.out, HD.out⟩
   | false =>
    have HE : Hid _ := dn_one md s ss d rep H3.out (by rw [HG.out]; exact hbn)
    have HCd := IHd.out H3.out hbn reps defs vals rep al1 cl1 af1 cf1 ((W.alloc (.cells #[.bool d'.no, .int .i64 d'.v.k, .int .i64 d'.v.n, .string d'.v.s, .slice al1 d'.l.length cl1, .slice af1 d'.f.length cf1] 56)).alloc (.cells #[.int .i64 (s.field : Nat), .int .i64 s.rep, .int .i64 (s.dfn : Nat), .int .i64 (s.lists : Nat)] 131)) HC3.out (by simp; omega) (by have h := HR.out; rw [HE.out, HG.out] at h; exact h) hd hv HL1.out HL2.out
    unfold datumV at HCd
    rw [hbn] at HCd HB3
    have HCd : Hid _ := HCd
    rw [hbn] at e0
    go_wp2_with fail
    refine Calls.mono HCd.out ?_
    rintro e w1 ⟨rfl, h1, hD⟩
    have HD : Hid (DFr g N W w1) := (DFr.of_below HB3.out).trans hD
    have HF : Hid (CoS g N sv sts md id (reps ++ eR (dn md (s :: ss) d rep)) (defs ++ eD (dn md (s :: ss) d rep)) (vals ++ eV (dn md (s :: ss) d rep)) w1) := (by
     rw [HE.out, HG.out]
     exact h1)
    clear h1 hD HCd
    go_wp2
    go_ret
    exact ⟨rfl, HF.out, HD.out⟩
theorem down_all (g N B : Nat) (hBN : B ≤ N) (hBg : B ≤ g) (sv : Value) (sts : List Stp) (md : Nat) (id : Int) (hks : sts.length ≤ 1000) : ∀ (ss : List Stp) (k : Nat), sts.drop k = ss → k ≤ sts.length → ∀ d : Dt, d.Sm → FitS ss d → DownP g N B sv sts md id k (dn md ss d) d
 | [], k, hd, hk => fun d _ _ => by
  have hkl : k = sts.length := by
   have := congrArg List.length hd
   simp at this
   omega
  subst hkl
  intro reps defs vals rep al cl af cf W hC hN hr hdl hv _ _
  have hr' : reps.length + 1 ≤ 20000 := by simpa [dn] using hr
  refine (down_leaf g N sv sts md id reps defs vals d rep al cl af cf W hC hN (by omega) (by omega) (by omega)).mono ?_
  rintro e w' ⟨h1, h2, h3⟩
  exact ⟨h1, by simpa [dn, eR, eD, eV] using h2, h3⟩
 | s :: ss, k, hd, hk => fun d hsm hfit => by
  have hlt : k < sts.length := by
   have := congrArg List.length hd
   simp at this
   omega
  rw [List.drop_eq_getElem_cons hlt] at hd
  injection hd with h1 h2
  rw [FitS] at hfit
  obtain ⟨f1, f2, f3⟩ := hfit
  have hg : d.f.getD s.field default = d.f[s.field] := by simp [List.getD, f1]
  rw [hg] at f2 f3
  have hs' := hsm.atF s.field f1
  exact down_step g N B hBN hBg sv sts md id k hlt hks s h1 ss d d.f[s.field] f1 rfl hs'.lenL
   (fun h3 j hj => down_all g N B hBN hBg sv sts md id hks ss (k + 1) h2 (by omega) _ (hs'.atL j hj) (f2 h3 _ (List.getElem_mem hj)))
   (fun h3 hn => down_all g N B hBN hBg sv sts md id hks ss (k + 1) h2 (by omega) _ hs' (f3 h3 hn))
set_option maxRecDepth 100000 in
set_option maxHeartbeats 1600000 in
theorem isMd_any (lv md : Int) (g : Nat) (x0 x1 x2 x4 : Value) (W : World) (hg : W.heap[g]? = some (.cells #[x0, x1, x2, .int .i64 md, x4] 72 (0, 0))) : Calls Tryz.prog 116 #[.int .i64 lv, .pointer (some ⟨g, 0, none⟩)] W fun e w' => e = .returned (.bool (lv == md)) ∧ w' = W := by
 obtain ⟨⟨c0, c1, c2, c3, c4⟩, _⟩ := row_five hg
 clear hg
 go_enter Tryz.func116, Tryz.ntmps116
 go_wp2
 go_ret
 exact ⟨rfl, rfl⟩
set_option maxRecDepth 100000 in
set_option maxHeartbeats 1600000 in
theorem isZero_any (lv : Int) (W : World) : Calls Tryz.prog 113 #[.int .i64 lv] W fun e w' => e = .returned (.bool (lv == 0)) ∧ w' = W := by
 go_enter Tryz.func113, Tryz.ntmps113
 go_wp2
 go_ret
 exact ⟨rfl, rfl⟩
set_option maxRecDepth 100000 in
set_option maxHeartbeats 1600000 in
theorem howManyV_any (md : Int) (g : Nat) (x0 x1 x2 x4 : Value) (a : Option Addr) (c : Nat) (xs : List Int) (hn : xs.length ≤ 1048576) (W : World) (hg : W.heap[g]? = some (.cells #[x0, x1, x2, .int .i64 md, x4] 72 (0, 0))) (hl : Lies W a (i64s xs)) :
    Calls Tryz.prog 112 #[.slice a xs.length c, .func (.func 116) #[] #[.pointer (some ⟨g, 0, none⟩)]] W fun e w' => e = .returned (.int .i64 ((xs.filter (fun x => x == md)).length : Nat)) ∧ w' = W := by
 have HL : Hid (Lies W a (i64s xs)) := hl
 clear hl
 go_enter Tryz.func112, Tryz.ntmps112
 go_wp2
 go_loop [5, 10] (fun y x => ∃ i : Nat, i ≤ xs.length ∧ x = .int .i64 i ∧ y = .int .i64 (((xs.take i).filter (fun x => x == md)).length : Nat)) (fun _ x => xs.length - (intOf x).toNat)
 case atStart => exact ⟨0, Nat.zero_le _, rfl, rfl⟩
 case round =>
  obtain ⟨i, hi, rfl, rfl⟩ := hrel
  have hcl : ((xs.take i).filter (fun x => x == md)).length ≤ i := Nat.le_trans (List.length_filter_le _ _) (by simp; omega)
  obtain ⟨k, hk⟩ : ∃ k, ((xs.take i).filter (fun x => x == md)).length = k := ⟨_, rfl⟩
  by_cases hlt : i < xs.length
  · have HS : Hid (((xs.take (i + 1)).filter (fun x => x == md)).length = k + if (xs[i] == md) = true then 1 else 0) := (by
      show _ = _
      rw [List.take_succ_eq_append_getElem hlt, List.filter_append, List.length_append, hk]
      congr 1
      cases h : (xs[i] == md) <;> simp [List.filter, h])
    rw [hk] at hcl ⊢
    obtain ⟨b, o, rfl, hc⟩ := HL.out i (by simpa [i64s] using hlt)
    have hc' : W.cell? ⟨b, o + i, none⟩ = some (.int .i64 xs[i]) := by rw [hc]; simp [i64s]
    clear hc hk
    go_wp2_with fail
    refine (isMd_any xs[i] md g x0 x1 x2 x4 W hg).mono ?_
    rintro e w1 ⟨rfl, rfl⟩
    cases hq : (xs[i] == md) with
    | true =>
     have HN : Hid (((xs.take (i + 1)).filter (fun x => x == md)).length = k + 1) := (by show _ = _; rw [HS.out, hq]; rfl)
     clear hq
     go_wp2
     go_round
     case rel => exact ⟨i + 1, by omega, by go_num, by rw [HN.out]; go_num⟩
     case measure => simp [intOf]; omega
    | false =>
     have HN : Hid (((xs.take (i + 1)).filter (fun x => x == md)).length = k) := (by show _ = _; rw [HS.out, hq]; rfl)
     clear hq
     go_wp2
     go_round
     case rel => exact ⟨i + 1, by omega, by go_num, by rw [HN.out]⟩
     case measure => simp [intOf]; omega
  · obtain rfl : i = xs.length := by omega
    rw [List.take_length] at *
    go_wp2
    go_ret
    exact ⟨rfl, rfl⟩
set_option maxRecDepth 100000 in
set_option maxHeartbeats 1600000 in
theorem howManyC_any (a : Option Addr) (c : Nat) (xs : List Int) (hn : xs.length ≤ 1048576) (W : World) (hl : Lies W a (i64s xs)) :
    Calls Tryz.prog 112 #[.slice a xs.length c, .func (.func 113) #[] #[]] W fun e w' => e = .returned (.int .i64 ((xs.filter (fun x => x == 0)).length : Nat)) ∧ w' = W := by
 have HL : Hid (Lies W a (i64s xs)) := hl
 clear hl
 go_enter Tryz.func112, Tryz.ntmps112
 go_wp2
 go_loop [5, 10] (fun y x => ∃ i : Nat, i ≤ xs.length ∧ x = .int .i64 i ∧ y = .int .i64 (((xs.take i).filter (fun x => x == 0)).length : Nat)) (fun _ x => xs.length - (intOf x).toNat)
 case atStart => exact ⟨0, Nat.zero_le _, rfl, rfl⟩
 case round =>
  obtain ⟨i, hi, rfl, rfl⟩ := hrel
  have hcl : ((xs.take i).filter (fun x => x == 0)).length ≤ i := Nat.le_trans (List.length_filter_le _ _) (by simp; omega)
  obtain ⟨k, hk⟩ : ∃ k, ((xs.take i).filter (fun x => x == 0)).length = k := ⟨_, rfl⟩
  by_cases hlt : i < xs.length
  · have HS : Hid (((xs.take (i + 1)).filter (fun x => x == 0)).length = k + if (xs[i] == 0) = true then 1 else 0) := (by
      show _ = _
      rw [List.take_succ_eq_append_getElem hlt, List.filter_append, List.length_append, hk]
      congr 1
      cases h : (xs[i] == 0) <;> simp [List.filter, h])
    rw [hk] at hcl ⊢
    obtain ⟨b, o, rfl, hc⟩ := HL.out i (by simpa [i64s] using hlt)
    have hc' : W.cell? ⟨b, o + i, none⟩ = some (.int .i64 xs[i]) := by rw [hc]; simp [i64s]
    clear hc hk
    go_wp2_with fail
    refine (isZero_any xs[i] W).mono ?_
    rintro e w1 ⟨rfl, rfl⟩
    cases hq : (xs[i] == 0) with
    | true =>
     have HN : Hid (((xs.take (i + 1)).filter (fun x => x == 0)).length = k + 1) := (by show _ = _; rw [HS.out, hq]; rfl)
     clear hq
     go_wp2
     go_round
     case rel => exact ⟨i + 1, by omega, by go_num, by rw [HN.out]; go_num⟩
     case measure => simp [intOf]; omega
    | false =>
     have HN : Hid (((xs.take (i + 1)).filter (fun x => x == 0)).length = k) := (by show _ = _; rw [HS.out, hq]; rfl)
     clear hq
     go_wp2
     go_round
     case rel => exact ⟨i + 1, by omega, by go_num, by rw [HN.out]⟩
     case measure => simp [intOf]; omega
  · obtain rfl : i = xs.length := by omega
    rw [List.take_length] at *
    go_wp2
    go_ret
    exact ⟨rfl, rfl⟩
def cntE (md : Int) (xs : List Int) : Nat := (xs.filter (fun x => x == md)).length
set_option maxRecDepth 100000 in
set_option maxHeartbeats 1600000 in
theorem valuesOf_any (id kind mr md : Int) (pa : Option Addr) (pn pc : Nat) (a : Option Addr) (c : Nat) (xs : List Int) (hn : xs.length ≤ 1048576) (W : World) (hl : Lies W a (i64s xs)) :
    Calls Tryz.prog 78 #[leafV id kind mr md pa pn pc, .slice a xs.length c] W fun e w' => e = .returned (.int .i64 (cntE md xs : Nat)) ∧ Below W.heap.size W w' := by
 have hb : Below W.heap.size W (W.alloc (.cells #[.int .i64 id, .int .i64 kind, .int .i64 mr, .int .i64 md, .slice pa pn pc] 72)) := (Below.refl _ _).alloc (Nat.le_refl _) _
 have HC : Hid _ := howManyV_any md W.heap.size _ _ _ _ a c xs hn _ (heap_alloc_new W (.cells #[.int .i64 id, .int .i64 kind, .int .i64 mr, .int .i64 md, .slice pa pn pc] 72)) (hl.keep hb)
 have HB : Hid _ := hb
 have hmf : ∀ (fn : Fn) (first cap : Array Value) (W : World), (Instr.makeFunc fn first cap).run Tryz.prog W = .ok (.func fn first cap) W := fun _ _ _ _ => rfl
 clear hl hb
 unfold leafV
 go_enter Tryz.func78, Tryz.ntmps78
 go_wp2_with fail
 refine Calls.mono HC.out ?_
 rintro e w1 ⟨rfl, rfl⟩
 go_wp2
 go_ret
 exact ⟨rfl, HB.out⟩
abbrev colV (id : Int) (ra : Option Addr) (rn rc : Nat) (da : Option Addr) (dn dc : Nat) (va : Option Addr) (vn vc : Nat) : Value := .agg #[.int .i64 id, .slice ra rn rc, .slice da dn dc, .slice va vn vc]
set_option maxRecDepth 100000 in
set_option maxHeartbeats 1600000 in
theorem count_any (id : Int) (ra : Option Addr) (rs : List Int) (rc : Nat) (da : Option Addr) (dn dc : Nat) (va : Option Addr) (vn vc : Nat) (hn : rs.length ≤ 1048576) (W : World) (hl : Lies W ra (i64s rs)) :
    Calls Tryz.prog 76 #[colV id ra rs.length rc da dn dc va vn vc] W fun e w' => e = .returned (.int .i64 (cntE 0 rs : Nat)) ∧ Below W.heap.size W w' := by
 have hb : Below W.heap.size W (W.alloc (.cells #[.int .i64 id, .slice ra rs.length rc, .slice da dn dc, .slice va vn vc] 50)) := (Below.refl _ _).alloc (Nat.le_refl _) _
 have HC : Hid _ := howManyC_any ra rc rs hn _ (hl.keep hb)
 have HB : Hid _ := hb
 clear hl hb
 unfold colV
 go_enter Tryz.func76, Tryz.ntmps76
 go_wp2_with fail
 refine Calls.mono HC.out ?_
 rintro e w1 ⟨rfl, rfl⟩
 go_wp2
 go_ret
 exact ⟨rfl, HB.out⟩
def badV (kind : Int) (v : Vl) : Bool := !(v.k == kind) || !(okV v.k v.k v.n v.s.size)
set_option maxRecDepth 100000 in
set_option maxHeartbeats 1600000 in
theorem badV_any (kind k n : Int) (s : ByteArray) (g : Nat) (x0 x2 x3 x4 : Value) (W : World) (hg : W.heap[g]? = some (.cells #[x0, .int .i64 kind, x2, x3, x4] 72 (0, 0))) :
    Calls Tryz.prog 111 #[.agg #[.int .i64 k, .int .i64 n, .string s], .pointer (some ⟨g, 0, none⟩)] W fun e w' => e = .returned (.bool (badV kind ⟨k, n, s⟩)) ∧ Below W.heap.size W w' := by
 have HB : Hid (Below W.heap.size W (W.alloc (.cells #[.int .i64 k, .int .i64 n, .string s] 54))) := (Below.refl _ _).alloc (Nat.le_refl _) _
 obtain ⟨⟨p0, p1, p2, p3, p4⟩, _⟩ := row_five (blk_alloc (o' := .cells #[.int .i64 k, .int .i64 n, .string s] 54) hg)
 obtain ⟨b3, H3⟩ : ∃ b3, Hid (okV k k n s.size = b3) := ⟨_, rfl⟩
 clear hg
 by_cases hk : k = kind
 · subst hk
   have HE : Hid (badV k ⟨k, n, s⟩ = !b3) := (by show _ = _; rw [badV, H3.out]; simp)
   go_enter Tryz.func111, Tryz.ntmps111
   go_wp2_with fail
   refine (isValue_any k n s _).mono ?_
   rw [H3.out]
   rintro e w1 ⟨rfl, hb1⟩
   have HB1 : Hid (Below W.heap.size W w1) := HB.out.trans (hb1.mono HB.out.size)
   clear hb1
   go_wp2
   go_ret
   exact ⟨by rw [HE.out]; rfl, HB1.out⟩
 · have q1 : (k == kind) = false := by simp [hk]
   have HE : Hid (badV kind ⟨k, n, s⟩ = true) := (by show _ = _; rw [badV]; simp [hk])
   clear hk
   go_enter Tryz.func111, Tryz.ntmps111
   go_wp2
   go_ret
   exact ⟨by rw [HE.out]; rfl, HB.out⟩
set_option maxRecDepth 100000 in
set_option maxHeartbeats 1600000 in
theorem idxV_any (kind : Int) (g : Nat) (x0 x2 x3 x4 : Value) (a : Option Addr) (c : Nat) (vs : List Vl) (hn : vs.length ≤ 1048576) (W : World) (hg : W.heap[g]? = some (.cells #[x0, .int .i64 kind, x2, x3, x4] 72 (0, 0))) (hl : LiesV W a vs) :
    Calls Tryz.prog (110) #[.slice a vs.length c, .func (.func 111) #[] #[.pointer (some ⟨g, 0, none⟩)]] W fun e w' => (∃ r, e = .returned (.int .i64 r) ∧ Idx (badV kind) vs r) ∧ Below W.heap.size W w' := by
 have HL : Hid (LiesV W a vs) := hl
 have HG : Hid (W.heap[g]? = some (.cells #[x0, .int .i64 kind, x2, x3, x4] 72 (0, 0))) := hg
 clear hl hg
 go_enter Tryz.func110, Tryz.ntmps110
 go_wp2
 go_loopw [8] (fun x wr => ∃ i : Nat, i ≤ vs.length ∧ x = .int .i64 i ∧ Hid (∀ j (h : j < vs.length), j < i → badV kind vs[j] = false) ∧ Below W.heap.size W wr) (fun x _ => vs.length - (intOf x).toNat)
 case atStart => exact ⟨0, Nat.zero_le _, rfl, fun j _ h => absurd h (Nat.not_lt_zero _), Below.refl _ _⟩
 case round =>
  obtain ⟨i, hi, rfl, HA, hb⟩ := hrel
  have HB : Hid (Below W.heap.size W wr) := hb
  by_cases hlt : i < vs.length
  · obtain ⟨b, o, rfl, d0, d1, d2⟩ := (HL.out.keep hb) i hlt
    have HGr : Hid (wr.heap[g]? = some (.cells #[x0, .int .i64 kind, x2, x3, x4] 72 (0, 0))) := blk_keep hb HG.out
    clear hb
    go_wp2_with fail
    refine (badV_any kind vs[i].k vs[i].n vs[i].s g x0 x2 x3 x4 wr HGr.out).mono ?_
    rintro e w1 ⟨rfl, hb1⟩
    have HB1 : Hid (Below W.heap.size W w1) := HB.out.trans (hb1.mono HB.out.size)
    clear hb1
    cases hq : (badV kind ⟨vs[i].k, vs[i].n, vs[i].s⟩) with
    | true =>
     have HQ : Hid (badV kind vs[i] = true) := hq
     clear hq
     go_wp2
     go_ret
     exact ⟨⟨(i : Int), rfl, .inr ⟨i, hlt, rfl, HQ.out, fun j h => HA.out j (by omega) h⟩⟩, HB1.out⟩
    | false =>
     have HN : Hid (∀ j (h : j < vs.length), j < i + 1 → badV kind vs[j] = false) := fun j h hj => by
      by_cases e : j = i
      · subst e; exact hq
      · exact HA.out j h (by omega)
     clear hq
     go_wp2
     go_roundw
     case rel => exact ⟨i + 1, by omega, by go_num, HN, HB1⟩
     case measure => simp [intOf]; omega
  · obtain rfl : i = vs.length := by omega
    go_wp2
    go_ret
    exact ⟨⟨-1, rfl, .inl ⟨rfl, fun j h => HA.out j h h⟩⟩, hb⟩
def headB : List Int → Bool
 | [] => false
 | r :: _ => !(r == 0)
def fitB (lid mr md cid : Int) (rs ds : List Int) (nv : Nat) : Bool :=
 if cid ≠ lid ∨ rs.length ≠ ds.length then false
 else if headB rs = true then false
 else if (rs.any fun x => !(btw 0 x mr)) = true ∨ (ds.any fun x => !(btw 0 x md)) = true then false
 else decide (nv = cntE md ds)
theorem headB_at (rs : List Int) (h : 0 < rs.length) : headB rs = !(rs[0] == 0) := by
 cases rs with
 | nil => simp at h
 | cons r rest => rfl
theorem Tryz.infoSt : (Tryz.prog.info? 131).map (fun i => (i.zero, i.size, i.bytes)) = some (some (.agg #[.int .i64 0, .int .i64 0, .int .i64 0, .int .i64 0]), 4, 32) := by kernel_rfl
set_option maxRecDepth 100000 in
set_option maxHeartbeats 1600000 in
theorem idEq_any (id : Int) (s : ByteArray) (g : Nat) (y0 y2 y3 : Int) (a : Option Addr) (n c : Nat) (W : World) (hg : W.heap[g]? = some (.cells #[.int .i64 id] 3 (0, 0))) :
    Calls Tryz.prog 72 #[.agg #[.int .i64 y0, .string s, .int .i64 y2, .int .i64 y3, .slice a n c], .pointer (some ⟨g, 0, none⟩)] W fun e w' => e = .returned (.bool (y0 == id)) ∧ Below W.heap.size W w' := by
 have HB : Hid (Below W.heap.size W (W.alloc (.cells #[.int .i64 y0, .string s, .int .i64 y2, .int .i64 y3, .slice a n c] 24))) := (Below.refl _ _).alloc (Nat.le_refl _) _
 obtain ⟨p0, _⟩ := row_one (blk_alloc (o' := .cells #[.int .i64 y0, .string s, .int .i64 y2, .int .i64 y3, .slice a n c] 24) hg)
 clear hg
 go_enter Tryz.func72, Tryz.ntmps72
 go_wp2
 go_ret
 exact ⟨rfl, HB.out⟩
set_option maxRecDepth 100000 in
set_option maxHeartbeats 1600000 in
theorem idxS_any (id : Int) (g : Nat) (P : Nat → Prop) (a : Option Addr) (c : Nat) (ts : List Tr) (hn : ts.length ≤ 1048576) (W : World) (hg : W.heap[g]? = some (.cells #[.int .i64 id] 3 (0, 0))) (hl : LiesN W P a ts) :
    Calls Tryz.prog (71) #[.slice a ts.length c, .func (.func 72) #[] #[.pointer (some ⟨g, 0, none⟩)]] W fun e w' => (∃ r, e = .returned (.int .i64 r) ∧ Idx (fun t => t.id == id) ts r) ∧ Below W.heap.size W w' := by
 have HL : Hid (LiesN W P a ts) := hl
 have HG : Hid (W.heap[g]? = some (.cells #[.int .i64 id] 3 (0, 0))) := hg
 clear hl hg
 go_enter Tryz.func71, Tryz.ntmps71
 go_wp2
 go_loopw [8] (fun x wr => ∃ i : Nat, i ≤ ts.length ∧ x = .int .i64 i ∧ Hid (∀ j (h : j < ts.length), j < i → (ts[j].id == id) = false) ∧ Below W.heap.size W wr) (fun x _ => ts.length - (intOf x).toNat)
 case atStart => exact ⟨0, Nat.zero_le _, rfl, fun j _ h => absurd h (Nat.not_lt_zero _), Below.refl _ _⟩
 case round =>
  obtain ⟨i, hi, rfl, HA, hb⟩ := hrel
  have HB : Hid _ := hb
  by_cases hlt : i < ts.length
  · obtain ⟨b, o, a1, c1, rfl, d0, d1, d2, d3, d4, hl1⟩ := (HL.out.keep hb).at_ i hlt
    clear hl1
    have HGr : Hid (wr.heap[g]? = some (.cells #[.int .i64 id] 3 (0, 0))) := blk_keep hb HG.out
    clear hb
    go_wp2_with fail
    refine (idEq_any id ts[i].nm g _ _ _ a1 _ c1 wr HGr.out).mono ?_
    rintro e w1 ⟨rfl, hb1⟩
    have HB1 : Hid (Below W.heap.size W w1) := HB.out.trans (hb1.mono HB.out.size)
    clear hb1
    cases hq : (ts[i].id == id) with
    | true =>
     have HQ : Hid _ := hq
     clear hq
     go_wp2
     go_ret
     exact ⟨⟨(i : Int), rfl, .inr ⟨i, hlt, rfl, HQ.out, fun j h => HA.out j (by omega) h⟩⟩, HB1.out⟩
    | false =>
     have HN : Hid (∀ j (h : j < ts.length), j < i + 1 → (ts[j].id == id) = false) := fun j h hj => by
      by_cases e : j = i
      · subst e; exact hq
      · exact HA.out j h (by omega)
     clear hq
     go_wp2
     go_roundw
     case rel => exact ⟨i + 1, by omega, by go_num, HN, HB1⟩
     case measure => simp [intOf]; omega
  · obtain rfl : i = ts.length := by omega
    go_wp2
    go_ret
    exact ⟨⟨-1, rfl, .inl ⟨rfl, fun j h => HA.out j h h⟩⟩, hb⟩
inductive StPath : Tr → List Int → Nat → Nat → List Stp → Prop where
 | nil (t : Tr) (df ls : Nat) : StPath t [] df ls []
 | cons (t : Tr) (id : Int) (rest : List Int) (df ls : Nat) (i : Nat) (hi : i < t.sub.length) (hid : t.sub[i].id = id) (first : ∀ j (h : j < i), t.sub[j].id ≠ id) (sts : List Stp) (more : StPath t.sub[i] rest (if t.sub[i].rep = 1 then df else df + 1) (if t.sub[i].rep = 3 then ls + 1 else ls) sts) :
     StPath t (id :: rest) df ls (⟨i, t.sub[i].rep, df, if t.sub[i].rep = 3 then ls + 1 else ls⟩ :: sts)
structure SpI (W : World) (N B : Nat) (sts : List Stp) (ids : List Int) (i : Nat) (tc : Tr) (ac : Option Addr) (cc df ls : Nat) (sv : Value) (done rest : List Stp) (wr : World) : Prop where
 all : sts = done ++ rest
 len : done.length = i
 path : StPath tc (ids.drop i) df ls rest
 row : wr.ownsRow N 131 4 sv done.length (done.flatMap stC)
 lies : LiesN wr (fun b => b < B) ac tc.sub
 sm : tc.Sm
 box : wr.heap[W.heap.size + 1 + 1]? = some (.cells #[.int .i64 tc.id, .string tc.nm, .int .i64 tc.rep, .int .i64 tc.kind, .slice ac tc.sub.length cc] 24 (0, 0))
 below : Below W.heap.size W wr
 big : W.heap.size + 3 ≤ wr.heap.size
 small : df ≤ i ∧ ls ≤ i
theorem four_cells {w : World} {x y z u : Value} {T : TypeId} : ∀ j v, [x, y, z, u][j]? = some v → (w.alloc (.cells #[x, y, z, u] T)).cell? ((⟨w.heap.size, 0, none⟩ : Addr).add j) = some v := fun j v h => by
 rw [addr_plus, Nat.zero_add]
 refine cell_alloc_at ?_ rfl
 simpa using h
structure OneNew (bx : Nat) (o : Obj) (w1 w2 : World) : Prop where
 os : w2.os = w1.os
 tape : w2.tape = w1.tape
 output : w2.output = w1.output
 size : w2.heap.size = w1.heap.size
 new : w2.heap[bx]? = some o
 old : ∀ k, k ≠ bx → w2.heap[k]? = w1.heap[k]?
theorem OneNew.set {w1 w2 : World} {bx j : Nat} {cs : Array Value} {T : TypeId} (h : OneNew bx (.cells cs T (0, 0)) w1 w2) (y : Value) : OneNew bx (.cells (cs.setIfInBounds j y) T (0, 0)) w1 (w2.setCell ⟨bx, j, none⟩ y) :=
 ⟨h.os, h.tape, h.output, by rw [World.size_setCell]; exact h.size, row_setC h.new, fun k hk => (Below.heap_setCell _ ⟨bx, j, none⟩ _ _ hk).trans (h.old k hk)⟩
theorem set_box {w1 : World} {bx : Nat} {x0 x1 x2 x3 x4 : Value} {T : TypeId} (h : w1.heap[bx]? = some (.cells #[x0, x1, x2, x3, x4] T (0, 0))) (y0 y1 y2 y3 y4 : Value) :
    OneNew bx (.cells #[y0, y1, y2, y3, y4] T (0, 0)) w1 (((((w1.setCell ⟨bx, 0, none⟩ y0).setCell ⟨bx, 1, none⟩ y1).setCell ⟨bx, 2, none⟩ y2).setCell ⟨bx, 3, none⟩ y3).setCell ⟨bx, 4, none⟩ y4) := by
 have h0 : OneNew bx (.cells #[x0, x1, x2, x3, x4] T (0, 0)) w1 w1 := ⟨rfl, rfl, rfl, rfl, h, fun _ _ => rfl⟩
 have h5 := ((((h0.set (j := 0) y0).set (j := 1) y1).set (j := 2) y2).set (j := 3) y3).set (j := 4) y4
 simpa using h5
theorem SpI.next {W : World} {sts : List Stp} {ids : List Int} {i : Nat} {tc : Tr} {ac : Option Addr} {cc df ls : Nat} {sv : Value} {done rest : List Stp} {wr w1 w2 w3 : World} {x : Tr} {a1 : Option Addr} {c1 : Nat} {ob : Obj} {sv2 : Value} {st : Stp} {df' ls' : Nat} (h : SpI W (W.heap.size + 3) W.heap.size sts ids i tc ac cc df ls sv done (st :: rest) wr) (hb : Below wr.heap.size wr w1)
    (h2 : OneNew (W.heap.size + 1 + 1) (.cells #[.int .i64 x.id, .string x.nm, .int .i64 x.rep, .int .i64 x.kind, .slice a1 x.sub.length c1] 24 (0, 0)) w1 w2) (hl : LiesN w1 (fun b => b < W.heap.size) a1 x.sub) (hx : x.Sm) (hp : StPath x (ids.drop (i + 1)) df' ls' rest) (hs : df' ≤ i + 1 ∧ ls' ≤ i + 1)
    (hown : w3.ownsRow (W.heap.size + 3) 131 4 sv2 (done.length + 1) (done.flatMap stC ++ stC st)) (hg : (w2.alloc ob).grownBy w3 sv.ownBlock) :
    w3.heap[W.heap.size + 1 + 1]? = some (.cells #[.int .i64 x.id, .string x.nm, .int .i64 x.rep, .int .i64 x.kind, .slice a1 x.sub.length c1] 24 (0, 0)) ∧ SpI W (W.heap.size + 3) W.heap.size sts ids (i + 1) x a1 c1 df' ls' sv2 (done ++ [st]) rest w3 := by
 have hbig := h.big
 have hbs := hb.size
 have hsz := h2.size
 have hsv : ∀ k, sv.ownBlock = some k → W.heap.size + 3 ≤ k := fun k hk => (own_block h.row hk).1
 have hgs := hg.size
 simp only [World.size_alloc] at hgs
 have e3 : ∀ k, k < W.heap.size + 3 → w3.heap[k]? = w2.heap[k]? := fun k hk => by
  rw [hg.block k (by simp; omega) (fun e => by have := hsv k e.symm; omega), heap_alloc_old _ ob (by omega)]
 have hbox : w3.heap[W.heap.size + 1 + 1]? = some (.cells #[.int .i64 x.id, .string x.nm, .int .i64 x.rep, .int .i64 x.kind, .slice a1 x.sub.length c1] 24 (0, 0)) := (e3 _ (by omega)).trans h2.new
 have h1 := h.below.trans (hb.mono h.below.size)
 have hbl : Below W.heap.size W w3 := ⟨(hg.os.trans h2.os).trans h1.os, (hg.tape.trans h2.tape).trans h1.tape, (hg.output.trans h2.output).trans h1.output, by have := h1.size; omega, fun k hk => by rw [e3 k (by omega), h2.old k (by omega), h1.block k hk]⟩
 refine ⟨hbox, ⟨by rw [h.all]; simp, by rw [List.length_append, h.len]; rfl, hp, ?_, hl.stay (fun _ h _ => h) (fun b hb' _ => by rw [e3 b (by omega), h2.old b (by omega)]), hx, hbox, hbl, by omega, hs⟩⟩
 rw [List.length_append, List.flatMap_append]
 simpa using hown
set_option maxRecDepth 100000 in
set_option maxHeartbeats 1600000 in
theorem stepsTo_any (t : Tr) (hsm : t.Sm) (a : Option Addr) (c : Nat) (lid lkind lmr lmd : Int) (ids : List Int) (hids : ids.length ≤ 1000) (pa : Option Addr) (pc : Nat) (sts : List Stp) (W : World) (hl : LiesN W (fun b => b < W.heap.size) a t.sub) (hp : Lies W pa (i64s ids)) (hst : StPath t ids 0 0 sts) :
    Calls Tryz.prog 42 #[nodeV t a c, .agg #[.int .i64 lid, .int .i64 lkind, .int .i64 lmr, .int .i64 lmd, .slice pa ids.length pc]] W fun e w' => (∃ sv, e = .returned sv ∧ w'.ownsRow W.heap.size 131 4 sv sts.length (sts.flatMap stC)) ∧ Below W.heap.size W w' := by
 obtain ⟨iv, hvi, hv0, hv1, hv2⟩ := info_parts Tryz.infoSt
 have hb3 : Below W.heap.size W (((W.alloc (.cells #[.int .i64 t.id, .string t.nm, .int .i64 t.rep, .int .i64 t.kind, .slice a t.sub.length c] 24)).alloc (.cells #[.int .i64 lid, .int .i64 lkind, .int .i64 lmr, .int .i64 lmd, .slice pa ids.length pc] 72)).alloc (.cells #[.int .i64 t.id, .string t.nm, .int .i64 t.rep, .int .i64 t.kind, .slice a t.sub.length c] 24)) := (((Below.refl _ _).alloc (Nat.le_refl _) _).alloc (by simp) _).alloc (by simp; omega) _
 have HS : Hid (SpI W (W.heap.size + 3) W.heap.size sts ids 0 t a c 0 0 (.slice none 0 0) [] sts (((W.alloc (.cells #[.int .i64 t.id, .string t.nm, .int .i64 t.rep, .int .i64 t.kind, .slice a t.sub.length c] 24)).alloc (.cells #[.int .i64 lid, .int .i64 lkind, .int .i64 lmr, .int .i64 lmd, .slice pa ids.length pc] 72)).alloc (.cells #[.int .i64 t.id, .string t.nm, .int .i64 t.rep, .int .i64 t.kind, .slice a t.sub.length c] 24))) := ⟨rfl, rfl, hst, World.ownsRow_nil _ _ _ _, hl.stay (fun _ h _ => h) (fun b _ h => hb3.block b h), hsm, (by
  have h := heap_alloc_new ((W.alloc (.cells #[.int .i64 t.id, .string t.nm, .int .i64 t.rep, .int .i64 t.kind, .slice a t.sub.length c] 24)).alloc (.cells #[.int .i64 lid, .int .i64 lkind, .int .i64 lmr, .int .i64 lmd, .slice pa ids.length pc] 72)) (.cells #[.int .i64 t.id, .string t.nm, .int .i64 t.rep, .int .i64 t.kind, .slice a t.sub.length c] 24)
  rwa [show ((W.alloc (.cells #[.int .i64 t.id, .string t.nm, .int .i64 t.rep, .int .i64 t.kind, .slice a t.sub.length c] 24)).alloc (.cells #[.int .i64 lid, .int .i64 lkind, .int .i64 lmr, .int .i64 lmd, .slice pa ids.length pc] 72)).heap.size = W.heap.size + 1 + 1 by simp] at h), hb3, by simp, by simp⟩
 have HP : Hid (Lies W pa (i64s ids)) := hp
 clear hl hp hst hb3 hsm
 unfold nodeV
 go_enter Tryz.func42, Tryz.ntmps42
 go_wp2
 go_loopw [5, 7, 8, 16] (fun sv dv lv x wr => ∃ (i : Nat) (tc : Tr) (ac : Option Addr) (cc df ls : Nat) (done rest : List Stp), i ≤ ids.length ∧ x = .int .i64 i ∧ dv = .int .i64 df ∧ lv = .int .i64 ls ∧ Hid (SpI W (W.heap.size + 3) W.heap.size sts ids i tc ac cc df ls sv done rest wr)) (fun _ _ _ x _ => ids.length - (intOf x).toNat)
 case atStart => exact ⟨0, t, a, c, 0, 0, [], sts, Nat.zero_le _, rfl, rfl, rfl, HS⟩
 case round =>
  clear HS
  obtain ⟨i, tc, ac, cc, df, ls, done, rest, hi, rfl, rfl, rfl, HS⟩ := hrel
  have hsmall := HS.out.small
  have hbig := HS.out.big
  by_cases hlt : i < ids.length
  · have hpath := HS.out.path
    rw [List.drop_eq_getElem_cons hlt] at hpath
    obtain ⟨id, hid0⟩ : ∃ id, ids[i] = id := ⟨_, rfl⟩
    rw [hid0] at hpath
    cases hpath with
    | cons _ _ _ _ _ m hm hmid first sts' more =>
     obtain ⟨pb, po, rfl, hcell⟩ := (HP.out.keep HS.out.below) i (by simpa [i64s] using hlt)
     have hcell' : wr.cell? ⟨pb, po + i, none⟩ = some (.int .i64 id) := by rw [hcell]; simp [i64s, hid0]
     obtain ⟨⟨n0, n1, n2, n3, n4⟩, f0, f1, f2, f3, f4⟩ := row_five (blk_alloc (o' := .cells #[.int .i64 id] 3) HS.out.box)
     have hb1 : Below wr.heap.size wr (wr.alloc (.cells #[.int .i64 id] 3)) := (Below.refl _ _).alloc (Nat.le_refl _) _
     have HB1 : Hid _ := hb1
     have HX : Hid _ := idxS_any id wr.heap.size (fun b => b < W.heap.size) ac cc tc.sub HS.out.sm.len (wr.alloc (.cells #[.int .i64 id] 3)) (heap_alloc_new wr _) (HS.out.lies.keep hb1)
     have HM : Hid _ := more
     have HF : Hid (∀ r, Idx (fun t => t.id == id) tc.sub r → r = (m : Int)) := fun r hr => by
      rcases hr with ⟨_, h⟩ | ⟨j, hj, rfl, h1, h2⟩
      · have := h m hm
        simp [hmid] at this
      · have h3 : tc.sub[j].id = id := by simpa using h1
        have h4 : ¬ j < m := fun h => first j h h3
        have h5 : ¬ m < j := fun h => by have := h2 m h; simp [hmid] at this
        congr 1
        omega
     clear hb1 more first hcell hid0 hmid
     go_wp2_with fail
     refine Calls.mono HX.out ?_
     rintro e w1 ⟨⟨r, rfl, hr⟩, hb2⟩
     obtain rfl := HF.out r hr
     have HB2 : Hid (Below wr.heap.size wr w1) := HB1.out.trans (hb2.mono HB1.out.size)
     clear hr hb2 n0 n1 n2 n3 n4 f0 f1 f2 f3 f4 HX HF
     have HN : Hid (w1.heap[W.heap.size + 1 + 1]? = some (.cells #[.int .i64 tc.id, .string tc.nm, .int .i64 tc.rep, .int .i64 tc.kind, .slice ac tc.sub.length cc] 24 (0, 0))) := blk_keep HB2.out HS.out.box
     obtain ⟨⟨n0, n1, n2, n3, n4⟩, f0, f1, f2, f3, f4⟩ := row_five HN.out
     obtain ⟨b, o, a1, c1, ea, d0, d1, d2, d3, d4, hl1⟩ := (HS.out.lies.keep HB2.out).at_ m hm
     subst ea
     obtain ⟨x, hx⟩ : ∃ x, x = tc.sub[m] := ⟨_, rfl⟩
     rw [← hx] at d0 d1 d2 d3 d4
     have HL1 : Hid (LiesN w1 (fun b => b < W.heap.size) a1 x.sub) := (by rw [hx]; exact hl1)
     have HXm : Hid (x = tc.sub[m]) := hx
     have HM2 : Hid (StPath x (ids.drop (i + 1)) (if x.rep = 1 then df else df + 1) (if x.rep = 3 then ls + 1 else ls) sts') := (by rw [hx]; exact HM.out)
     have HXs : Hid x.Sm := (by rw [hx]; exact HS.out.sm.at_ m hm)
     clear hl1 hx HM
     have hdl : done.length ≤ 1000 := by rw [HS.out.len]; omega
     have HBx : Hid (OneNew (W.heap.size + 1 + 1) (.cells #[.int .i64 x.id, .string x.nm, .int .i64 x.rep, .int .i64 x.kind, .slice a1 x.sub.length c1] 24 (0, 0)) w1 (((((w1.setCell ⟨W.heap.size + 1 + 1, 0, none⟩ (.int .i64 x.id)).setCell ⟨W.heap.size + 1 + 1, 1, none⟩ (.string x.nm)).setCell ⟨W.heap.size + 1 + 1, 2, none⟩ (.int .i64 x.rep)).setCell ⟨W.heap.size + 1 + 1, 3, none⟩ (.int .i64 x.kind)).setCell ⟨W.heap.size + 1 + 1, 4, none⟩ (.slice a1 x.sub.length c1))) := set_box HN.out _ _ _ _ _
     have HRow : Hid ((((((w1.setCell ⟨W.heap.size + 1 + 1, 0, none⟩ (.int .i64 x.id)).setCell ⟨W.heap.size + 1 + 1, 1, none⟩ (.string x.nm)).setCell ⟨W.heap.size + 1 + 1, 2, none⟩ (.int .i64 x.rep)).setCell ⟨W.heap.size + 1 + 1, 3, none⟩ (.int .i64 x.kind)).setCell ⟨W.heap.size + 1 + 1, 4, none⟩ (.slice a1 x.sub.length c1)).ownsRow (W.heap.size + 3) 131 4 u5 done.length (done.flatMap stC)) := own_same (ow_kept HS.out.row HB2.out) fun k hk => by
      have h1 := (own_block HS.out.row hk).1
      have hne : k ≠ W.heap.size + 1 + 1 := by omega
      exact (HBx.out).old k hne
     by_cases h3 : x.rep = 3
     · have q3 : (x.rep == 3) = true := by simp [h3]
       have q1 : (x.rep == 1) = false := by rw [h3]; rfl
       have H3 : Hid (x.rep = 3) := h3
       clear h3
       have HSt : Hid (StPath x (ids.drop (i + 1)) (df + 1) (ls + 1) sts') := (by show StPath _ _ _ _ _; have h := HM2.out; simpa [H3.out] using h)
       have HS2 : Hid (SpI W (W.heap.size + 3) W.heap.size sts ids i tc (some ⟨b, o, none⟩) cc df ls u5 done (⟨m, x.rep, df, ls + 1⟩ :: sts') wr) := (by show SpI _ _ _ _ _ _ _ _ _ _ _ _ _ _ _; have h := HS.out; rw [← HXm.out] at h; simpa [H3.out] using h)
       go_wp2_with (at_builtin; refine wpList_append_own _ rfl _ _ 92 rfl (W.heap.size + 3) 131 iv (.agg #[.int .i64 0, .int .i64 0, .int .i64 0, .int .i64 0]) 4 32 Tryz.underlying92 hvi hv0 hv1 hv2 rfl (by decide) _ done.length (done.flatMap stC) rfl (HRow.out.alloc _) ⟨w1.heap.size, 0, none⟩ 1 1 [.int .i64 (m : Nat), .int .i64 x.rep, .int .i64 (df : Nat), .int .i64 ((ls : Int) + 1)] rfl rfl (by intro j v hv; have h := four_cells (w := (((((w1.setCell ⟨W.heap.size + 1 + 1, 0, none⟩ (.int .i64 x.id)).setCell ⟨W.heap.size + 1 + 1, 1, none⟩ (.string x.nm)).setCell ⟨W.heap.size + 1 + 1, 2, none⟩ (.int .i64 x.rep)).setCell ⟨W.heap.size + 1 + 1, 3, none⟩ (.int .i64 x.kind)).setCell ⟨W.heap.size + 1 + 1, 4, none⟩ (.slice a1 x.sub.length c1))) (T := 131) j v hv; simpa using h) (by intro u hu; simp at hu; rcases hu with rfl | rfl | rfl | rfl <;> rfl) (by unfold maxLen; omega) (by omega) (by have := HB2.out.size; simp; omega) ?_; intro sv2 w3 hown3 hgrow3 _; obtain ⟨k1, k2⟩ := HS2.out.next HB2.out HBx.out HL1.out HXs.out HSt.out (by omega) (by simpa [stC] using hown3) hgrow3; have HS3 : Hid (SpI W (W.heap.size + 3) W.heap.size sts ids (i + 1) x a1 c1 (df + 1) (ls + 1) sv2 (done ++ [⟨m, x.rep, df, ls + 1⟩]) sts' w3) := k2; clear hown3 hgrow3 k2 n0 n1 n2 n3 n4 f0 f1 f2 f3 f4; obtain ⟨⟨n0, n1, n2, n3, n4⟩, _⟩ := row_five k1; clear k1)
       go_roundw
       case rel => exact ⟨i + 1, x, a1, c1, _, _, _, _, by omega, by go_num, by go_num, by go_num, HS3⟩
       case measure => simp [intOf]; omega
     · by_cases h1 : x.rep = 1
       · have q3 : (x.rep == 3) = false := by simp [h3]
         have q1 : (x.rep == 1) = true := by simp [h1]
         have H3 : Hid (¬ x.rep = 3) := h3
         have H1 : Hid (x.rep = 1) := h1
         clear h1 h3
         have HSt : Hid (StPath x (ids.drop (i + 1)) (df) (ls) sts') := (by show StPath _ _ _ _ _; have h := HM2.out; simpa [H1.out] using h)
         have HS2 : Hid (SpI W (W.heap.size + 3) W.heap.size sts ids i tc (some ⟨b, o, none⟩) cc df ls u5 done (⟨m, x.rep, df, ls⟩ :: sts') wr) := (by show SpI _ _ _ _ _ _ _ _ _ _ _ _ _ _ _; have h := HS.out; rw [← HXm.out] at h; simpa [H1.out] using h)
         go_wp2_with (at_builtin; refine wpList_append_own _ rfl _ _ 92 rfl (W.heap.size + 3) 131 iv (.agg #[.int .i64 0, .int .i64 0, .int .i64 0, .int .i64 0]) 4 32 Tryz.underlying92 hvi hv0 hv1 hv2 rfl (by decide) _ done.length (done.flatMap stC) rfl (HRow.out.alloc _) ⟨w1.heap.size, 0, none⟩ 1 1 [.int .i64 (m : Nat), .int .i64 x.rep, .int .i64 (df : Nat), .int .i64 (ls : Nat)] rfl rfl (by intro j v hv; have h := four_cells (w := (((((w1.setCell ⟨W.heap.size + 1 + 1, 0, none⟩ (.int .i64 x.id)).setCell ⟨W.heap.size + 1 + 1, 1, none⟩ (.string x.nm)).setCell ⟨W.heap.size + 1 + 1, 2, none⟩ (.int .i64 x.rep)).setCell ⟨W.heap.size + 1 + 1, 3, none⟩ (.int .i64 x.kind)).setCell ⟨W.heap.size + 1 + 1, 4, none⟩ (.slice a1 x.sub.length c1))) (T := 131) j v hv; simpa using h) (by intro u hu; simp at hu; rcases hu with rfl | rfl | rfl | rfl <;> rfl) (by unfold maxLen; omega) (by omega) (by have := HB2.out.size; simp; omega) ?_; intro sv2 w3 hown3 hgrow3 _; obtain ⟨k1, k2⟩ := HS2.out.next HB2.out HBx.out HL1.out HXs.out HSt.out (by omega) (by simpa [stC] using hown3) hgrow3; have HS3 : Hid (SpI W (W.heap.size + 3) W.heap.size sts ids (i + 1) x a1 c1 (df) (ls) sv2 (done ++ [⟨m, x.rep, df, ls⟩]) sts' w3) := k2; clear hown3 hgrow3 k2 n0 n1 n2 n3 n4 f0 f1 f2 f3 f4; obtain ⟨⟨n0, n1, n2, n3, n4⟩, _⟩ := row_five k1; clear k1)
         go_roundw
         case rel => exact ⟨i + 1, x, a1, c1, _, _, _, _, by omega, by go_num, by go_num, by go_num, HS3⟩
         case measure => simp [intOf]; omega
       · have q3 : (x.rep == 3) = false := by simp [h3]
         have q1 : (x.rep == 1) = false := by simp [h1]
         have H3 : Hid (¬ x.rep = 3) := h3
         have H1 : Hid (¬ x.rep = 1) := h1
         clear h1 h3
         have HSt : Hid (StPath x (ids.drop (i + 1)) (df + 1) (ls) sts') := (by show StPath _ _ _ _ _; have h := HM2.out; simpa [H1.out, H3.out] using h)
         have HS2 : Hid (SpI W (W.heap.size + 3) W.heap.size sts ids i tc (some ⟨b, o, none⟩) cc df ls u5 done (⟨m, x.rep, df, ls⟩ :: sts') wr) := (by show SpI _ _ _ _ _ _ _ _ _ _ _ _ _ _ _; have h := HS.out; rw [← HXm.out] at h; simpa [H1.out, H3.out] using h)
         go_wp2_with (at_builtin; refine wpList_append_own _ rfl _ _ 92 rfl (W.heap.size + 3) 131 iv (.agg #[.int .i64 0, .int .i64 0, .int .i64 0, .int .i64 0]) 4 32 Tryz.underlying92 hvi hv0 hv1 hv2 rfl (by decide) _ done.length (done.flatMap stC) rfl (HRow.out.alloc _) ⟨w1.heap.size, 0, none⟩ 1 1 [.int .i64 (m : Nat), .int .i64 x.rep, .int .i64 (df : Nat), .int .i64 (ls : Nat)] rfl rfl (by intro j v hv; have h := four_cells (w := (((((w1.setCell ⟨W.heap.size + 1 + 1, 0, none⟩ (.int .i64 x.id)).setCell ⟨W.heap.size + 1 + 1, 1, none⟩ (.string x.nm)).setCell ⟨W.heap.size + 1 + 1, 2, none⟩ (.int .i64 x.rep)).setCell ⟨W.heap.size + 1 + 1, 3, none⟩ (.int .i64 x.kind)).setCell ⟨W.heap.size + 1 + 1, 4, none⟩ (.slice a1 x.sub.length c1))) (T := 131) j v hv; simpa using h) (by intro u hu; simp at hu; rcases hu with rfl | rfl | rfl | rfl <;> rfl) (by unfold maxLen; omega) (by omega) (by have := HB2.out.size; simp; omega) ?_; intro sv2 w3 hown3 hgrow3 _; obtain ⟨k1, k2⟩ := HS2.out.next HB2.out HBx.out HL1.out HXs.out HSt.out (by omega) (by simpa [stC] using hown3) hgrow3; have HS3 : Hid (SpI W (W.heap.size + 3) W.heap.size sts ids (i + 1) x a1 c1 (df + 1) (ls) sv2 (done ++ [⟨m, x.rep, df, ls⟩]) sts' w3) := k2; clear hown3 hgrow3 k2 n0 n1 n2 n3 n4 f0 f1 f2 f3 f4; obtain ⟨⟨n0, n1, n2, n3, n4⟩, _⟩ := row_five k1; clear k1)
         go_roundw
         case rel => exact ⟨i + 1, x, a1, c1, _, _, _, _, by omega, by go_num, by go_num, by go_num, HS3⟩
         case measure => simp [intOf]; omega
  · obtain rfl : i = ids.length := by omega
    have hpath := HS.out.path
    rw [List.drop_length] at hpath
    have HR : Hid (rest = []) := (by
     show _ = _
     cases hpath
     rfl)
    clear hpath
    go_wp2
    go_ret
    refine ⟨⟨_, rfl, ?_⟩, HS.out.below⟩
    have h := HS.out.row
    rw [HS.out.all, HR.out, List.append_nil]
    exact ⟨h.1, h.2.imp id (fun ⟨g, cap, cur, e1, e2, e3⟩ => ⟨g, cap, cur, e1, by omega, e3⟩)⟩
end Go.Proofs.YteonbmaokphleaaGreatDoor
