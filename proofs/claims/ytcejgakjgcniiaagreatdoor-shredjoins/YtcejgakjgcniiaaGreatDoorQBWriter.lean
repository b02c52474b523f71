/-
  shred's writer: what it holds; an entry behind the others.
  shred's writer: entry.
  shred's writer: down and list.
-/
import Derived.Test.YtcejgakjgcniiaaGreatDoorQBSmall
import Derived.Test.YtcejgakjgcniiaaGreatDoorQBColB
import Derived.Test.YtcejgakjgcniiaaGreatDoorQBChkG
import Derived.RegionTactic
import Derived.Deep.RegionWith
namespace Go.Proofs.YtcejgakjgcniiaaGreatDoor
open Go.RowKit
/-- A step of a path. -/
structure Stp where
  field : Nat
  rep : Int
  dfn : Nat
  lists : Nat
def stC (s : Stp) : List Value := [.int .i64 (s.field : Nat), .int .i64 s.rep, .int .i64 (s.dfn : Nat), .int .i64 (s.lists : Nat)]
/-- What a writer holds. -/
structure CoI (g N : Nat) (sv : Value) (sts : List Stp) (md : Nat) (id : Int) (rv : Value) (reps : List Int) (dv : Value) (defs : List Int) (vv : Value) (vals : List Vl) (W : World) : Prop where
  cell : W.heap[g]? = some (.cells #[sv, .int .i64 (md : Nat), .int .i64 id, rv, dv, vv] 98 (0, 0))
  srow : W.ownsRow N 122 4 sv sts.length (sts.flatMap stC)
  rrow : W.ownsRow N 3 1 rv reps.length (i64s reps)
  drow : W.ownsRow N 3 1 dv defs.length (i64s defs)
  vrow : W.ownsRow N 55 3 vv vals.length (vcells vals)
  two : ∀ k, rv.ownBlock = some k → dv.ownBlock ≠ some k
/-- What its calls keep. -/
structure DFr (g N : Nat) (W w' : World) : Prop where
  os : w'.os = W.os
  tape : w'.tape = W.tape
  output : w'.output = W.output
  size : W.heap.size ≤ w'.heap.size
  keep : ∀ k, k < W.heap.size → k ≠ g → (N ≤ k → ∀ cs e z, W.heap[k]? = some (.cells cs e z) → e ≠ 3 ∧ e ≠ 55) → w'.heap[k]? = W.heap[k]?
theorem DFr.refl (g N : Nat) (W : World) : DFr g N W W := ⟨rfl, rfl, rfl, Nat.le_refl _, fun _ _ _ _ => rfl⟩
theorem DFr.trans {g N : Nat} {W w1 w2 : World} (h : DFr g N W w1) (h2 : DFr g N w1 w2) : DFr g N W w2 :=
  ⟨h2.os.trans h.os, h2.tape.trans h.tape, h2.output.trans h.output, Nat.le_trans h.size h2.size, fun k hk hne ht => by
    have e := h.keep k hk hne ht
    rw [h2.keep k (Nat.lt_of_lt_of_le hk h.size) hne (fun hN cs e2 z hc => ht hN cs e2 z (e ▸ hc)), e]⟩
theorem DFr.of_below {g N : Nat} {W w' : World} (hb : Below W.heap.size W w') : DFr g N W w' := ⟨hb.os, hb.tape, hb.output, hb.size, fun k hk _ _ => hb.block k hk⟩
theorem DFr.alloc (g N : Nat) (W : World) (o : Obj) : DFr g N W (W.alloc o) := .of_below ((Below.refl _ _).alloc (Nat.le_refl _) _)
theorem DFr.drew (g N : Nat) (W : World) : DFr g N W W.drew := .of_below (Below.refl _ _).drew
theorem DFr.below {g N B : Nat} {W w' : World} (h : DFr g N W w') (hB : B ≤ W.heap.size) (hg : B ≤ g) (hN : B ≤ N) : Below B W w' := ⟨h.os, h.tape, h.output, h.size, fun k hk => h.keep k (by omega) (by omega) (fun h2 => by omega)⟩
theorem DFr.box {g N k : Nat} {W w' : World} {cs : Array Value} {e : TypeId} {z : Nat × Nat} (h : DFr g N W w') (hk : W.heap[k]? = some (.cells cs e z)) (hg : k ≠ g) (he : e ≠ 3 ∧ e ≠ 55) : w'.heap[k]? = some (.cells cs e z) :=
  (h.keep k (lt_of_block hk) hg (fun _ cs' e' z' hc => by rw [hc] at hk; injection hk with hk; injection hk with _ hk _; subst hk; exact he)).trans hk
theorem CoI.stay {g N : Nat} {sv : Value} {sts : List Stp} {md : Nat} {id : Int} {rv dv vv : Value} {reps defs : List Int} {vals : List Vl} {W w' : World} (h : CoI g N sv sts md id rv reps dv defs vv vals W) (hb : Below W.heap.size W w') : CoI g N sv sts md id rv reps dv defs vv vals w' :=
  ⟨blk_keep hb h.cell, ow_kept h.srow hb, ow_kept h.rrow hb, ow_kept h.drow hb, ow_kept h.vrow hb, h.two⟩
theorem CoI.pushR {g N : Nat} {sv : Value} {sts : List Stp} {md : Nat} {id : Int} {rv dv vv : Value} {reps defs : List Int} {vals : List Vl} {W w2 : World} {ob : Obj} {x2 : Value} {x : Int} (h : CoI g N sv sts md id rv reps dv defs vv vals W)
    (hown : w2.ownsRow N 3 1 x2 (reps.length + 1) (i64s reps ++ [.int .i64 x])) (hg : (W.alloc ob).grownBy w2 rv.ownBlock) (hw : x2.ownBlock = rv.ownBlock ∧ rv.ownBlock ≠ none ∨ x2.ownBlock = some (W.alloc ob).heap.size) :
    w2.heap[g]? = some (.cells #[sv, .int .i64 (md : Nat), .int .i64 id, rv, dv, vv] 98 (0, 0)) ∧ CoI g N sv sts md id x2 (reps ++ [x]) dv defs vv vals (w2.setCell ⟨g, 3, none⟩ x2) ∧ DFr g N W (w2.setCell ⟨g, 3, none⟩ x2) := by
  have hgl := lt_of_block h.cell
  have hng : some g ≠ rv.ownBlock := own_type h.rrow h.cell (by decide)
  have hng2 : x2.ownBlock ≠ some g := by
    rcases hw with ⟨e, _⟩ | e
    · rw [e]; exact fun e2 => hng e2.symm
    · rw [e]; simp; omega
  have ec : w2.heap[g]? = some (.cells #[sv, .int .i64 (md : Nat), .int .i64 id, rv, dv, vv] 98 (0, 0)) := by
    rw [hg.block g (by simp; omega) hng]
    exact blk_alloc h.cell
  have hset : ∀ k, k ≠ g → (w2.setCell ⟨g, 3, none⟩ x2).heap[k]? = w2.heap[k]? := fun k hk => Below.heap_setCell _ ⟨g, 3, none⟩ _ _ hk
  have hrow : ∀ {e s n : Nat} {v : Value} {xs : List Value}, W.ownsRow N e s v n xs → e ≠ 98 → (∀ k, v.ownBlock = some k → some k ≠ rv.ownBlock) → (w2.setCell ⟨g, 3, none⟩ x2).ownsRow N e s v n xs := fun hr he hne => own_same hr fun k hk => by
    obtain ⟨q1, q2, cs, q3⟩ := own_block hr hk
    have hkg : k ≠ g := fun e2 => by subst e2; rw [h.cell] at q3; injection q3 with q3; injection q3 with _ q3 _; exact he q3.symm
    rw [hset k hkg, hg.block k (by simp; omega) (hne k hk), heap_alloc_old W ob q2]
  have hty : ∀ {e s n : Nat} {v : Value} {xs : List Value}, W.ownsRow N e s v n xs → 3 ≠ e → ∀ k, v.ownBlock = some k → some k ≠ rv.ownBlock := fun hr he k hk => by
    obtain ⟨_, _, cs, q3⟩ := own_block hr hk
    exact own_type h.rrow q3 he
  refine ⟨ec, ?_, ⟨hg.os, hg.tape, hg.output, by have := hg.size; simp at this; simp; omega, fun k hk hne ht => ?_⟩⟩
  · refine ⟨?_, hrow h.srow (by decide) (hty h.srow (by decide)), ?_, hrow h.drow (by decide) (fun k hk e => h.two k e.symm hk), hrow h.vrow (by decide) (hty h.vrow (by decide)), ?_⟩
    · rw [row_setC ec]; rfl
    · rw [List.length_append, show i64s (reps ++ [x]) = i64s reps ++ [.int .i64 x] by simp [i64s]]
      exact own_same hown fun k hk => hset k (fun e2 => by subst e2; exact hng2 hk)
    · intro k hk
      rcases hw with ⟨e, _⟩ | e
      · rw [e] at hk; exact h.two k hk
      · rw [e] at hk
        simp at hk
        intro e2
        have := (own_block h.drow e2).2.1
        omega
  · rw [hset k hne, hg.block k (by simp; omega) (fun e => ?_), heap_alloc_old W ob hk]
    obtain ⟨q1, _, cs, q3⟩ := own_block h.rrow e.symm
    exact absurd rfl (ht q1 cs _ _ q3).1
theorem CoI.pushD {g N : Nat} {sv : Value} {sts : List Stp} {md : Nat} {id : Int} {rv dv vv : Value} {reps defs : List Int} {vals : List Vl} {W w2 : World} {ob : Obj} {x2 : Value} {x : Int} (h : CoI g N sv sts md id rv reps dv defs vv vals W)
    (hown : w2.ownsRow N 3 1 x2 (defs.length + 1) (i64s defs ++ [.int .i64 x])) (hg : (W.alloc ob).grownBy w2 dv.ownBlock) (hw : x2.ownBlock = dv.ownBlock ∧ dv.ownBlock ≠ none ∨ x2.ownBlock = some (W.alloc ob).heap.size) :
    w2.heap[g]? = some (.cells #[sv, .int .i64 (md : Nat), .int .i64 id, rv, dv, vv] 98 (0, 0)) ∧ CoI g N sv sts md id rv reps x2 (defs ++ [x]) vv vals (w2.setCell ⟨g, 4, none⟩ x2) ∧ DFr g N W (w2.setCell ⟨g, 4, none⟩ x2) := by
  have hgl := lt_of_block h.cell
  have hng : some g ≠ dv.ownBlock := own_type h.drow h.cell (by decide)
  have hng2 : x2.ownBlock ≠ some g := by
    rcases hw with ⟨e, _⟩ | e
    · rw [e]; exact fun e2 => hng e2.symm
    · rw [e]; simp; omega
  have ec : w2.heap[g]? = some (.cells #[sv, .int .i64 (md : Nat), .int .i64 id, rv, dv, vv] 98 (0, 0)) := by
    rw [hg.block g (by simp; omega) hng]
    exact blk_alloc h.cell
  have hset : ∀ k, k ≠ g → (w2.setCell ⟨g, 4, none⟩ x2).heap[k]? = w2.heap[k]? := fun k hk => Below.heap_setCell _ ⟨g, 4, none⟩ _ _ hk
  have hrow : ∀ {e s n : Nat} {v : Value} {xs : List Value}, W.ownsRow N e s v n xs → e ≠ 98 → (∀ k, v.ownBlock = some k → some k ≠ dv.ownBlock) → (w2.setCell ⟨g, 4, none⟩ x2).ownsRow N e s v n xs := fun hr he hne => own_same hr fun k hk => by
    obtain ⟨q1, q2, cs, q3⟩ := own_block hr hk
    have hkg : k ≠ g := fun e2 => by subst e2; rw [h.cell] at q3; injection q3 with q3; injection q3 with _ q3 _; exact he q3.symm
    rw [hset k hkg, hg.block k (by simp; omega) (hne k hk), heap_alloc_old W ob q2]
  have hty : ∀ {e s n : Nat} {v : Value} {xs : List Value}, W.ownsRow N e s v n xs → 3 ≠ e → ∀ k, v.ownBlock = some k → some k ≠ dv.ownBlock := fun hr he k hk => by
    obtain ⟨_, _, cs, q3⟩ := own_block hr hk
    exact own_type h.drow q3 he
  refine ⟨ec, ?_, ⟨hg.os, hg.tape, hg.output, by have := hg.size; simp at this; simp; omega, fun k hk hne ht => ?_⟩⟩
  · refine ⟨?_, hrow h.srow (by decide) (hty h.srow (by decide)), hrow h.rrow (by decide) (fun k hk e => h.two k hk e.symm), ?_, hrow h.vrow (by decide) (hty h.vrow (by decide)), ?_⟩
    · rw [row_setC ec]; rfl
    · rw [List.length_append, show i64s (defs ++ [x]) = i64s defs ++ [.int .i64 x] by simp [i64s]]
      exact own_same hown fun k hk => hset k (fun e2 => by subst e2; exact hng2 hk)
    · intro k hk e2
      rcases hw with ⟨e, _⟩ | e
      · rw [e] at e2; exact h.two k hk e2
      · rw [e] at e2
        simp at e2
        have := (own_block h.rrow hk).2.1
        omega
  · rw [hset k hne, hg.block k (by simp; omega) (fun e => ?_), heap_alloc_old W ob hk]
    obtain ⟨q1, _, cs, q3⟩ := own_block h.drow e.symm
    exact absurd rfl (ht q1 cs _ _ q3).1
theorem CoI.pushV {g N : Nat} {sv : Value} {sts : List Stp} {md : Nat} {id : Int} {rv dv vv : Value} {reps defs : List Int} {vals : List Vl} {W w2 : World} {ob : Obj} {x2 : Value} {x : Vl} (h : CoI g N sv sts md id rv reps dv defs vv vals W)
    (hown : w2.ownsRow N 55 3 x2 (vals.length + 1) (vcells vals ++ [.int .i64 x.k, .int .i64 x.n, .string x.s])) (hg : (W.alloc ob).grownBy w2 vv.ownBlock) (hw : x2.ownBlock = vv.ownBlock ∧ vv.ownBlock ≠ none ∨ x2.ownBlock = some (W.alloc ob).heap.size) :
    w2.heap[g]? = some (.cells #[sv, .int .i64 (md : Nat), .int .i64 id, rv, dv, vv] 98 (0, 0)) ∧ CoI g N sv sts md id rv reps dv defs x2 (vals ++ [x]) (w2.setCell ⟨g, 5, none⟩ x2) ∧ DFr g N W (w2.setCell ⟨g, 5, none⟩ x2) := by
  have hgl := lt_of_block h.cell
  have hng : some g ≠ vv.ownBlock := own_type h.vrow h.cell (by decide)
  have hng2 : x2.ownBlock ≠ some g := by
    rcases hw with ⟨e, _⟩ | e
    · rw [e]; exact fun e2 => hng e2.symm
    · rw [e]; simp; omega
  have ec : w2.heap[g]? = some (.cells #[sv, .int .i64 (md : Nat), .int .i64 id, rv, dv, vv] 98 (0, 0)) := by
    rw [hg.block g (by simp; omega) hng]
    exact blk_alloc h.cell
  have hset : ∀ k, k ≠ g → (w2.setCell ⟨g, 5, none⟩ x2).heap[k]? = w2.heap[k]? := fun k hk => Below.heap_setCell _ ⟨g, 5, none⟩ _ _ hk
  have hrow : ∀ {e s n : Nat} {v : Value} {xs : List Value}, W.ownsRow N e s v n xs → e ≠ 98 → (∀ k, v.ownBlock = some k → some k ≠ vv.ownBlock) → (w2.setCell ⟨g, 5, none⟩ x2).ownsRow N e s v n xs := fun hr he hne => own_same hr fun k hk => by
    obtain ⟨q1, q2, cs, q3⟩ := own_block hr hk
    have hkg : k ≠ g := fun e2 => by subst e2; rw [h.cell] at q3; injection q3 with q3; injection q3 with _ q3 _; exact he q3.symm
    rw [hset k hkg, hg.block k (by simp; omega) (hne k hk), heap_alloc_old W ob q2]
  have hty : ∀ {e s n : Nat} {v : Value} {xs : List Value}, W.ownsRow N e s v n xs → 55 ≠ e → ∀ k, v.ownBlock = some k → some k ≠ vv.ownBlock := fun hr he k hk => by
    obtain ⟨_, _, cs, q3⟩ := own_block hr hk
    exact own_type h.vrow q3 he
  refine ⟨ec, ?_, ⟨hg.os, hg.tape, hg.output, by have := hg.size; simp at this; simp; omega, fun k hk hne ht => ?_⟩⟩
  · refine ⟨?_, hrow h.srow (by decide) (hty h.srow (by decide)), hrow h.rrow (by decide) (hty h.rrow (by decide)), hrow h.drow (by decide) (hty h.drow (by decide)), ?_, h.two⟩
    · rw [row_setC ec]; rfl
    · rw [List.length_append, show vcells (vals ++ [x]) = vcells vals ++ [.int .i64 x.k, .int .i64 x.n, .string x.s] by simp [vcells]]
      exact own_same hown fun k hk => hset k (fun e2 => by subst e2; exact hng2 hk)
  · rw [hset k hne, hg.block k (by simp; omega) (fun e => ?_), heap_alloc_old W ob hk]
    obtain ⟨q1, _, cs, q3⟩ := own_block h.vrow e.symm
    exact absurd rfl (ht q1 cs _ _ q3).2
end Go.Proofs.YtcejgakjgcniiaaGreatDoor

namespace Go.Proofs.YtcejgakjgcniiaaGreatDoor
open Go.RowKit
theorem row_sixF {w : World} {g e : Nat} {x0 x1 x2 x3 x4 x5 : Value} (h : w.heap[g]? = some (.cells #[x0, x1, x2, x3, x4, x5] e (0, 0))) :
    w.frozen? ⟨g, 3, none⟩ = false ∧ w.frozen? ⟨g, 4, none⟩ = false ∧ w.frozen? ⟨g, 5, none⟩ = false := by
  refine ⟨?_, ?_, ?_⟩ <;> simp [World.frozen?, h]
/-- A writer that holds these, wherever its rows lie. -/
def CoS (g N : Nat) (sv : Value) (sts : List Stp) (md : Nat) (id : Int) (reps defs : List Int) (vals : List Vl) (W : World) : Prop := ∃ rv dv vv, CoI g N sv sts md id rv reps dv defs vv vals W
set_option maxRecDepth 100000 in
set_option maxHeartbeats 1600000 in
theorem entry_any (g N : Nat) (sv : Value) (sts : List Stp) (md : Nat) (id : Int) (reps defs : List Int) (vals : List Vl) (r df : Int) (W : World) (h : CoS g N sv sts md id reps defs vals W) (hN : N ≤ W.heap.size) (hr : reps.length < 20000) (hd : defs.length < 20000) :
    Calls Tryz.prog (75) #[.pointer (some ⟨g, 0, none⟩), .int .i64 r, .int .i64 df] W fun e w' => e = .returned .nilIface ∧ CoS g N sv sts md id (reps ++ [r]) (defs ++ [df]) vals w' ∧ DFr g N W w' := by
  obtain ⟨iv, hvi, hv0, hv1, hv2⟩ := info_parts Tryz.infoI
  obtain ⟨rv, dv, vv, hI⟩ := h
  have HI : Hid (CoI g N sv sts md id rv reps dv defs vv vals W) := hI
  obtain ⟨c0, c1, c2, c3, c4, c5⟩ := row_six hI.cell
  obtain ⟨f3, f4, f5⟩ := row_sixF hI.cell
  obtain ⟨ra, rc, rfl⟩ : ∃ a c, rv = .slice a reps.length c := by
    rcases hI.rrow.2 with ⟨rfl, h0⟩ | ⟨g, cap, cur, rfl, _⟩
    · exact ⟨none, 0, by rw [h0]⟩
    · exact ⟨_, cap, rfl⟩
  obtain ⟨da, dc, rfl⟩ : ∃ a c, dv = .slice a defs.length c := by
    rcases hI.drow.2 with ⟨rfl, h0⟩ | ⟨g, cap, cur, rfl, _⟩
    · exact ⟨none, 0, by rw [h0]⟩
    · exact ⟨_, cap, rfl⟩
  have q : ((reps.length : Int) == 20000) = false := by rw [beq_eq_false_iff_ne]; omega
  clear hI
  go_enter Tryz.func75, Tryz.ntmps75
  go_wp2_with (first
    | (at_builtin; refine wpList_append_where _ rfl _ _ 22 rfl N 3 iv (.int .i64 0) 1 8 Tryz.underlying22 hvi hv0 hv1 hv2 rfl (by decide) _ reps.length (i64s reps) rfl (HI.out.rrow.alloc _) ⟨W.heap.size, 0, none⟩ 1 1 [.int .i64 r] rfl rfl (cell_one_new _ _ _) (by intro u hu; simp at hu; subst hu; rfl) (by unfold maxLen; omega) (by omega) (by simp; omega) (by decide) ?_; intro x2 w2 hown2 hgrow2 hw2; obtain ⟨k1, k2, k3⟩ := HI.out.pushR hown2 hgrow2 hw2; obtain ⟨gx, cx, rfl⟩ := own_shape hown2; have HI2 : Hid (CoI g N sv sts md id (.slice (some ⟨gx, 0, none⟩) (reps.length + 1) cx) (reps ++ [r]) (.slice da defs.length dc) defs vv vals (w2.setCell ⟨g, 3, none⟩ (.slice (some ⟨gx, 0, none⟩) (reps.length + 1) cx))) := k2; have HD2 : Hid (DFr g N W (w2.setCell ⟨g, 3, none⟩ (.slice (some ⟨gx, 0, none⟩) (reps.length + 1) cx))) := k3; clear hown2 hgrow2 hw2 k2 k3 c0 c1 c2 c3 c4 c5 f3 f4 f5 HI; obtain ⟨c0, c1, c2, c3, c4, c5⟩ := row_six k1; obtain ⟨f3, f4, f5⟩ := row_sixF k1; clear k1)
    | (at_builtin; refine wpList_append_where _ rfl _ _ 22 rfl N 3 iv (.int .i64 0) 1 8 Tryz.underlying22 hvi hv0 hv1 hv2 rfl (by decide) _ defs.length (i64s defs) rfl (HI2.out.drow.alloc _) ⟨w2.heap.size, 0, none⟩ 1 1 [.int .i64 df] rfl rfl (by intro j u hu; have h := cell_one_new (w2.setCell ⟨g, 3, none⟩ (.slice (some ⟨gx, 0, none⟩) (reps.length + 1) cx)) (.int .i64 df) 3 j u hu; simpa using h) (by intro u hu; simp at hu; subst hu; rfl) (by unfold maxLen; omega) (by omega) (by have := HD2.out.size; simp at this; simp; omega) (by decide) ?_; intro x3 w3 hown3 hgrow3 hw3; obtain ⟨k1, k2, k3⟩ := HI2.out.pushD hown3 hgrow3 hw3; obtain ⟨gy, cy, rfl⟩ := own_shape hown3; have HI3 : Hid (CoI g N sv sts md id (.slice (some ⟨gx, 0, none⟩) (reps.length + 1) cx) (reps ++ [r]) (.slice (some ⟨gy, 0, none⟩) (defs.length + 1) cy) (defs ++ [df]) vv vals (w3.setCell ⟨g, 4, none⟩ (.slice (some ⟨gy, 0, none⟩) (defs.length + 1) cy))) := k2; have HD3 : Hid (DFr g N W (w3.setCell ⟨g, 4, none⟩ (.slice (some ⟨gy, 0, none⟩) (defs.length + 1) cy))) := HD2.out.trans k3; clear hown3 hgrow3 hw3 k2 k3 c0 c1 c2 c3 c4 c5 f3 f4 f5 HI2 HD2; obtain ⟨c0, c1, c2, c3, c4, c5⟩ := row_six k1; obtain ⟨f3, f4, f5⟩ := row_sixF k1; clear k1))
  go_ret
  exact ⟨rfl, ⟨_, _, _, HI3.out⟩, HD3.out⟩
end Go.Proofs.YtcejgakjgcniiaaGreatDoor

namespace Go.Proofs.YtcejgakjgcniiaaGreatDoor
open Go.RowKit
/-- An entry of a column. -/
structure Ent where
  rep : Int
  dfn : Int
  v : Option Vl
instance : Inhabited Dt := ⟨.mk false ⟨0, 0, ⟨#[]⟩⟩ [] []⟩
/-- The entries that a datum makes along steps. -/
def dn (md : Nat) : List Stp → Dt → Int → List Ent
  | [], d, rep => [⟨rep, md, some d.v⟩]
  | s :: ss, d, rep => if s.rep = 3 then (match (d.f.getD s.field default).l with | [] => [⟨rep, s.dfn, none⟩] | e :: es => dn md ss e rep ++ es.flatMap (fun x => dn md ss x s.lists)) else if (d.f.getD s.field default).no = true then [⟨rep, s.dfn, none⟩] else dn md ss (d.f.getD s.field default) rep
/-- A datum that has what the steps lead to. -/
def FitS : List Stp → Dt → Prop
  | [], _ => True
  | s :: ss, d => s.field < d.f.length ∧ (s.rep = 3 → ∀ e ∈ (d.f.getD s.field default).l, FitS ss e) ∧ (s.rep ≠ 3 → (d.f.getD s.field default).no = false → FitS ss (d.f.getD s.field default))
def eR (es : List Ent) : List Int := es.map Ent.rep
def eD (es : List Ent) : List Int := es.map Ent.dfn
def eV (es : List Ent) : List Vl := es.filterMap Ent.v
theorem srow_at {W : World} {N : Nat} {sv : Value} {sts : List Stp} (h : W.ownsRow N 122 4 sv sts.length (sts.flatMap stC)) (k : Nat) (hk : k < sts.length) : ∃ sb cap, sv = .slice (some ⟨sb, 0, none⟩) sts.length cap ∧ W.cell? ⟨sb, k * 4, none⟩ = some (.int .i64 (sts[k].field : Nat)) ∧ W.cell? ⟨sb, k * 4 + 1, none⟩ = some (.int .i64 sts[k].rep) ∧ W.cell? ⟨sb, k * 4 + 2, none⟩ = some (.int .i64 (sts[k].dfn : Nat)) ∧ W.cell? ⟨sb, k * 4 + 3, none⟩ = some (.int .i64 (sts[k].lists : Nat)) := by
  have hf : ∀ (l : List Stp) (k j : Nat) (hk : k < l.length), j < 4 → (l.flatMap stC)[k * 4 + j]? = (stC l[k])[j]? := by
    intro l
    induction l with
    | nil => intro k j hk; simp at hk
    | cons x xs ih =>
      intro k j hk hj
      rw [List.flatMap_cons]
      cases k with
      | zero => rw [List.getElem?_append_left (by simp [stC]; omega)]; simp
      | succ k =>
        rw [List.getElem?_append_right (by simp [stC]; omega), show (k + 1) * 4 + j - (stC x).length = k * 4 + j by simp [stC]; omega]
        simpa using ih k j (by simpa using hk) hj
  rcases h.2 with ⟨_, h0⟩ | ⟨g, cap, cur, rfl, rest⟩
  · omega
  · have hc : ∀ j u, (stC sts[k])[j]? = some u → j < 4 → W.cell? ⟨g, k * 4 + j, none⟩ = some u := fun j u hu hj => by
      have h1 := h.cells (g := g) rfl (k * 4 + j) u (by rw [hf sts k j hk hj]; exact hu)
      rw [addr_plus, Nat.zero_add] at h1
      exact h1
    exact ⟨g, cap, rfl, hc 0 _ rfl (by omega), hc 1 _ rfl (by omega), hc 2 _ rfl (by omega), hc 3 _ rfl (by omega)⟩
theorem tri_cells {w : World} {x y z : Value} {T : TypeId} : ∀ j u, [x, y, z][j]? = some u → (w.alloc (.cells #[x, y, z] T)).cell? ((⟨w.heap.size, 0, none⟩ : Addr).add j) = some u := fun j u h => by
  rw [addr_plus, Nat.zero_add]
  refine cell_alloc_at ?_ rfl
  simpa using h
set_option maxRecDepth 100000 in
set_option maxHeartbeats 3200000 in
/-- down at the leaf. -/
theorem down_leaf (g N : Nat) (sv : Value) (sts : List Stp) (md : Nat) (id : Int) (reps defs : List Int) (vals : List Vl) (d : Dt) (rep : Int) (al : Option Addr) (cl : Nat) (af : Option Addr) (cf : Nat) (W : World) (h : CoS g N sv sts md id reps defs vals W) (hN : N ≤ W.heap.size) (hr : reps.length < 20000) (hd : defs.length < 20000) (hv : vals.length < 20000) :
    Calls Tryz.prog (53) #[.pointer (some ⟨g, 0, none⟩), .int .i64 (sts.length : Nat), datumV d al cl af cf, .int .i64 rep] W fun e w' => e = .returned .nilIface ∧ CoS g N sv sts md id (reps ++ [rep]) (defs ++ [(md : Int)]) (vals ++ [d.v]) w' ∧ DFr g N W w' := by
  obtain ⟨iv, hvi, hv0, hv1, hv2⟩ := info_parts Tryz.infoV
  obtain ⟨rv, dv, vv, hI0⟩ := h
  have hI := hI0.stay (w' := (W.alloc (.cells #[.bool d.no, .int .i64 d.v.k, .int .i64 d.v.n, .string d.v.s, .slice al d.l.length cl, .slice af d.f.length cf] 58)).drew) ((Below.refl _ _).alloc (Nat.le_refl _) _).drew
  have HI : Hid (CoI g N sv sts md id rv reps dv defs vv vals (W.alloc (.cells #[.bool d.no, .int .i64 d.v.k, .int .i64 d.v.n, .string d.v.s, .slice al d.l.length cl, .slice af d.f.length cf] 58)).drew) := hI
  obtain ⟨c0, c1, c2, c3, c4, c5⟩ := row_six (w := W.alloc (.cells #[.bool d.no, .int .i64 d.v.k, .int .i64 d.v.n, .string d.v.s, .slice al d.l.length cl, .slice af d.f.length cf] 58)) hI.cell
  obtain ⟨f3, f4, f5⟩ := row_sixF (w := W.alloc (.cells #[.bool d.no, .int .i64 d.v.k, .int .i64 d.v.n, .string d.v.s, .slice al d.l.length cl, .slice af d.f.length cf] 58)) hI.cell
  have hgl : g < (W.alloc (.cells #[.bool d.no, .int .i64 d.v.k, .int .i64 d.v.n, .string d.v.s, .slice al d.l.length cl, .slice af d.f.length cf] 58)).heap.size := lt_of_block (w := W.alloc (.cells #[.bool d.no, .int .i64 d.v.k, .int .i64 d.v.n, .string d.v.s, .slice al d.l.length cl, .slice af d.f.length cf] 58)) hI.cell
  have c5' : ∀ ob : Obj, ((W.alloc (.cells #[.bool d.no, .int .i64 d.v.k, .int .i64 d.v.n, .string d.v.s, .slice al d.l.length cl, .slice af d.f.length cf] 58)).alloc ob).cell? ⟨g, 5, none⟩ = some vv := fun ob => (((Below.refl _ _).alloc (Nat.le_refl _) ob).cell hgl).trans c5
  obtain ⟨sa, sc, rfl⟩ : ∃ a c, sv = .slice a sts.length c := by
    rcases hI.srow.2 with ⟨rfl, h0⟩ | ⟨g, cap, cur, rfl, _⟩
    · exact ⟨none, 0, by rw [h0]⟩
    · exact ⟨_, cap, rfl⟩
  have hvl := vcells_len vals
  clear hI hI0
  unfold datumV
  go_enter Tryz.func53, Tryz.ntmps53
  go_wp2
  go_region_law (refine step_own_where _ rfl _ _ 25 rfl N 55 iv (.agg #[.int .i64 0, .int .i64 0, .string ⟨#[]⟩]) 3 32 Tryz.underlying25 hvi hv0 hv1 hv2 rfl (by decide) _ vals.length (vcells vals) rfl (HI.out.vrow.alloc _) ⟨W.heap.size + 1, 0, none⟩ 1 1 [.int .i64 d.v.k, .int .i64 d.v.n, .string d.v.s] rfl rfl (by intro j u hu; have h := tri_cells (w := W.alloc (.cells #[.bool d.no, .int .i64 d.v.k, .int .i64 d.v.n, .string d.v.s, .slice al d.l.length cl, .slice af d.f.length cf] 58)) (T := 55) j u hu; simpa using h) (by intro u hu; simp at hu; rcases hu with rfl | rfl | rfl <;> rfl) (by unfold maxLen; omega) (by omega) (by simp; omega) (by decide) ?_; intro x2 w2 hown2 hgrow2 hw2; obtain ⟨k1, k2, k3⟩ := HI.out.pushV hown2 hgrow2 hw2; obtain ⟨gx, cx, rfl⟩ := own_shape hown2; have HI2 : Hid (CoI g N (.slice sa sts.length sc) sts md id rv reps dv defs (.slice (some ⟨gx, 0, none⟩) (vals.length + 1) cx) (vals ++ [d.v]) (w2.setCell ⟨g, 5, none⟩ (.slice (some ⟨gx, 0, none⟩) (vals.length + 1) cx))) := k2; have HD2 : Hid (DFr g N W (w2.setCell ⟨g, 5, none⟩ (.slice (some ⟨gx, 0, none⟩) (vals.length + 1) cx))) := ((DFr.alloc g N W _).trans (DFr.drew g N _)).trans k3; clear hown2 hgrow2 hw2 k2 k3; obtain ⟨e0, e1, e2, e3, e4, e5⟩ := row_six k1; obtain ⟨h3, h4, h5⟩ := row_sixF k1; clear k1)
  all_goals
    go_wp2_with fail
    refine (entry_any g N _ sts md id reps defs (vals ++ [d.v]) rep md _ ⟨_, _, _, HI2.out⟩ (by have := HD2.out.size; omega) hr hd).mono ?_
    rintro e w3 ⟨rfl, hC, hD⟩
    have HC : Hid (CoS g N (.slice sa sts.length sc) sts md id (reps ++ [rep]) (defs ++ [(md : Int)]) (vals ++ [d.v]) w3) := hC
    have HD : Hid (DFr g N W w3) := HD2.out.trans hD
    clear hC hD
    go_wp2
    go_ret
    exact ⟨rfl, HC.out, HD.out⟩
end Go.Proofs.YtcejgakjgcniiaaGreatDoor
