/-
  Boxes, frames and names that the walks of stage 4's laws share.
  A walk that looks for a number, and one that tells the leaves' numbers: the words, without the program.
  A schema under a projection: the two ways to tell what stays: the words, without the program.
  A right schema: no number twice, each node has a leaf in it.
-/
import Derived.Test.YtnfjpngmadoflaaGreatDoorNBIds
import Derived.Test.YtnfjpngmadoflaaGreatDoorNOwn
import Derived.BigQuiet
import Derived.Test.YtnfjpngmadoflaaGreatDoorNSErrM
namespace Go.Proofs.YtnfjpngmadoflaaGreatDoor
open Go.RowKit
theorem below_dN {B : Nat} {a w : World} (h : Below B a w) (n : Nat) : Below B a (w.drewN n) := h.trans ⟨rfl, rfl, rfl, Nat.le_refl _, fun _ _ => rfl⟩
/-- What the reader's calls keep: all but the reader itself. -/
structure RFr (r : Nat) (W w' : World) : Prop where
  os : w'.os = W.os
  tape : w'.tape = W.tape
  output : w'.output = W.output
  size : W.heap.size ≤ w'.heap.size
  keep : ∀ k, k < W.heap.size → k ≠ r → w'.heap[k]? = W.heap[k]?
theorem RFr.refl (r : Nat) (W : World) : RFr r W W := ⟨rfl, rfl, rfl, Nat.le_refl _, fun _ _ _ => rfl⟩
theorem RFr.trans {r : Nat} {W w1 w2 : World} (h : RFr r W w1) (h2 : RFr r w1 w2) : RFr r W w2 :=
  ⟨h2.os.trans h.os, h2.tape.trans h.tape, h2.output.trans h.output, Nat.le_trans h.size h2.size, fun k hk hne => by rw [h2.keep k (Nat.lt_of_lt_of_le hk h.size) hne, h.keep k hk hne]⟩
theorem RFr.of_below {r : Nat} {W w' : World} (hb : Below W.heap.size W w') : RFr r W w' := ⟨hb.os, hb.tape, hb.output, hb.size, fun k hk _ => hb.block k hk⟩
theorem RFr.below {r B : Nat} {W w' : World} (h : RFr r W w') (hB : B ≤ W.heap.size) (hr : B ≤ r) : Below B W w' := ⟨h.os, h.tape, h.output, h.size, fun k hk => h.keep k (by omega) (by omega)⟩
theorem RFr.set {r j : Nat} {W w' : World} {v : Value} (h : RFr r W w') : RFr r W (w'.setCell ⟨r, j, none⟩ v) := ⟨h.os, h.tape, h.output, by simpa using h.size, fun k hk hne => (Below.heap_setCell w' ⟨r, j, none⟩ v k hne).trans (h.keep k hk hne)⟩
theorem RFr.box {r k : Nat} {W w' : World} {o : Obj} (h : RFr r W w') (hk : W.heap[k]? = some o) (hne : k ≠ r) : w'.heap[k]? = some o := (h.keep k (lt_of_block hk) hne).trans hk
theorem two_boxesS (W : World) (c1 c2 : Array Value) (t1 t2 : TypeId) : ∃ w0, Hid ((W.alloc (.cells c1 t1)).alloc (.cells c2 t2) = w0) ∧ Hid (w0.heap[W.heap.size]? = some (.cells c1 t1 (0, 0))) ∧ Hid (w0.heap[W.heap.size + 1]? = some (.cells c2 t2 (0, 0))) ∧ Hid (Below W.heap.size W w0) := by
  refine ⟨_, rfl, blk_alloc (heap_alloc_new W _), ?_, ((Below.refl _ _).alloc (Nat.le_refl _) _).alloc (by simp) _⟩
  have h := heap_alloc_new (W.alloc (.cells c1 t1)) (.cells c2 t2)
  rw [show (W.alloc (.cells c1 t1)).heap.size = W.heap.size + 1 by simp] at h
  exact h
theorem one_box (W : World) (c1 : Array Value) (t1 : TypeId) : ∃ w0, Hid (W.alloc (.cells c1 t1) = w0) ∧ Hid (w0.heap[W.heap.size]? = some (.cells c1 t1 (0, 0))) ∧ Hid (Below W.heap.size W w0) := ⟨_, rfl, heap_alloc_new W _, (Below.refl _ _).alloc (Nat.le_refl _) _⟩
theorem hid_name {α : Type} (x : α) : ∃ y, Hid (x = y) := ⟨x, rfl⟩
theorem results_cS {P : Program} {fn : Func} {p u : Tmp} {ty : TypeId} (h : fn.results = #[.cell p ty, .tmp u]) (tmps : Array Value) (w : World) (g : Nat) (t : TypeId) (cs : Array Value) (fr : Nat × Nat) (d : TypeDesc) (y : Value)
    (hp : tmps.getD p undef = .pointer (some ⟨g, 0, none⟩)) (hy : tmps.getD u undef = y) (hg : w.heap[g]? = some (.cells cs t fr))
    (hu : P.underlying ty = some d) (hd : (match d with | .struct _ | .array _ _ => true | _ => false) = true) (hi : (P.info? ty).map (·.size) = some cs.size) :
    (results fn tmps).run P w = .ok (.tuple #[.agg cs, y]) w := by
  have hp' : tmps[p]?.getD undef = .pointer (some ⟨g, 0, none⟩) := by simpa using hp
  have hy' : tmps[u]?.getD undef = y := by simpa using hy
  simp [results, h, hp', hy', asAddr, Result.andThen, run_loadVar_row w g t ty cs fr d hg hu hd hi]
theorem three_boxesS (W : World) (c1 c2 c3 : Array Value) (t1 t2 t3 : TypeId) : ∃ w0, Hid (((W.alloc (.cells c1 t1)).alloc (.cells c2 t2)).alloc (.cells c3 t3) = w0) ∧ Hid (w0.heap[W.heap.size]? = some (.cells c1 t1 (0, 0))) ∧ Hid (w0.heap[W.heap.size + 1]? = some (.cells c2 t2 (0, 0))) ∧ Hid (w0.heap[W.heap.size + 1 + 1]? = some (.cells c3 t3 (0, 0))) ∧ Hid (Below W.heap.size W w0) ∧ Hid (w0.heap.size = W.heap.size + 3) := by
  obtain ⟨w1, H1, H2, H3, H4⟩ := two_boxesS W c1 c2 t1 t2
  have hs : w1.heap.size = W.heap.size + 1 + 1 := by rw [← H1.out]; simp
  refine ⟨w1.alloc (.cells c3 t3), by show _ = _; rw [H1.out], blk_alloc H2.out, blk_alloc H3.out, ?_, H4.out.alloc H4.out.size _, by show _ = _; simp [hs]⟩
  have h := heap_alloc_new w1 (.cells c3 t3)
  rw [hs] at h
  exact h
/-- A right schema: all its parts. -/
theorem right_parts {t : Tr} (h : vldN t = 0) : inB t = true ∧ isRootB t = true ∧ shpT t = true ∧ nmsT t = true ∧ idsT t = true := by
  unfold vldN at h
  split at h
  · omega
  · rename_i h1
    split at h
    · omega
    · rename_i h2
      split at h
      · omega
      · rename_i h3
        simp only [not_or, Bool.not_eq_false] at h1 h2 h3
        exact ⟨h1, h2.1, h2.2, h3.1, h3.2⟩
theorem vldV_right {t : Tr} (eb es en : Value) (h : vldN t = 0) : vldV eb es en t = .nilIface := by
  obtain ⟨h1, h2, h3, h4, h5⟩ := right_parts h
  simp [vldV, h1, h2, h3, h4, h5]
theorem vldV_wrong {t : Tr} (eb es en : TypeId × Value) (h : vldN t ≠ 0) : ∃ ty v, vldV (.iface eb.1 eb.2) (.iface es.1 es.2) (.iface en.1 en.2) t = .iface ty v := by
  unfold vldN at h
  unfold vldV
  split
  · exact ⟨_, _, rfl⟩
  · rename_i h1
    rw [if_neg h1] at h
    split
    · exact ⟨_, _, rfl⟩
    · rename_i h2
      rw [if_neg h2] at h
      split
      · exact ⟨_, _, rfl⟩
      · rename_i h3
        rw [if_neg h3] at h
        exact absurd rfl h
/-- The three errors that Valid tells, in a world. -/
structure Er3 (W : World) (eb es en : TypeId × Value) : Prop where
  b : W.cell? ⟨2, 0, none⟩ = some (.iface eb.1 eb.2)
  s : W.cell? ⟨1, 0, none⟩ = some (.iface es.1 es.2)
  n : W.cell? ⟨3, 0, none⟩ = some (.iface en.1 en.2)
theorem Er3.keep {W w' : World} {eb es en : TypeId × Value} (h : Er3 W eb es en) (hb : Below W.heap.size W w') : Er3 w' eb es en :=
  ⟨(hb.cell (World.block_lt_of_cell? W _ h.b)).trans h.b, (hb.cell (World.block_lt_of_cell? W _ h.s)).trans h.s, (hb.cell (World.block_lt_of_cell? W _ h.n)).trans h.n⟩
end Go.Proofs.YtnfjpngmadoflaaGreatDoor

namespace Go.Proofs.YtnfjpngmadoflaaGreatDoor
open Go.RowKit
/-- The visitor that looks for a number. -/
def stF (id : Int) (_ : Option Tr) (_ : List Tr) (t : Tr) : Bool × Option Tr := (!(t.id == id), some t)
mutual
theorem wkF_T (id : Int) : ∀ (t : Tr) (s : Option Tr) (path : List Tr), (∀ x, (ndT t).find? (fun y => y.id == id) = some x → wkT (stF id) s path t = (false, some x)) ∧ ((ndT t).find? (fun y => y.id == id) = none → (wkT (stF id) s path t).1 = true)
  | .node i nm rep kind sub, s, path => by
    rw [ndT_eq, List.find?_cons, wkT_eq]
    by_cases h : i = id
    · have e : ((Tr.node i nm rep kind sub).id == id) = true := by simp [Tr.id, h]
      simp only [e, stF, Bool.not_true]
      exact ⟨fun x hx => by injection hx with hx; simp [hx], fun hx => by simp at hx⟩
    · have e : ((Tr.node i nm rep kind sub).id == id) = false := by simp [Tr.id, h]
      simp only [e, stF, Bool.not_false, if_true]
      exact wkF_L id sub _ _
theorem wkF_L (id : Int) : ∀ (ts : List Tr) (s : Option Tr) (path : List Tr), (∀ x, (ndL ts).find? (fun y => y.id == id) = some x → wkL (stF id) s path ts = (false, some x)) ∧ ((ndL ts).find? (fun y => y.id == id) = none → (wkL (stF id) s path ts).1 = true)
  | [], s, path => by simp [ndL, wkL]
  | t :: ts, s, path => by
    have h1 := wkF_T id t s path
    have h2 := wkF_L id ts (wkT (stF id) s path t).2 path
    rw [ndL, List.find?_append, wkL]
    cases hf : (ndT t).find? (fun y => y.id == id) with
    | some y =>
      rw [h1.1 y hf]
      simp
    | none =>
      rw [if_pos (h1.2 hf)]
      simpa using h2
end
/-- The visitor that tells the leaves' numbers. -/
def stU (s : List Int) (_ : List Tr) (t : Tr) : Bool × List Int := (true, if t.kind = 0 then s else s ++ [t.id])
/-- The leaves' numbers. -/
def lfI (ts : List Tr) : List Int := (ts.filter fun x => !(x.kind == 0)).map Tr.id
theorem lfI_app (xs ys : List Tr) : lfI (xs ++ ys) = lfI xs ++ lfI ys := by simp [lfI]
theorem lfI_one (t : Tr) : lfI [t] = if t.kind = 0 then [] else [t.id] := by
  by_cases h : t.kind = 0
  · simp [lfI, h]
  · simp [lfI, h]
mutual
theorem wkU_T : ∀ (t : Tr) (s : List Int) (path : List Tr), wkT stU s path t = (true, s ++ lfI (ndT t))
  | .node i nm rep kind sub, s, path => by
    rw [wkT_eq, ndT_eq]
    have e : (stU s path (.node i nm rep kind sub)).1 = true := rfl
    rw [if_pos e]
    show wkL stU _ _ sub = _
    rw [wkU_L sub]
    rw [show (.node i nm rep kind sub : Tr) :: ndL (Tr.node i nm rep kind sub).sub = [.node i nm rep kind sub] ++ ndL (Tr.node i nm rep kind sub).sub from rfl, lfI_app, lfI_one]
    simp only [stU]
    split
    · simp; rfl
    · simp; rfl
theorem wkU_L : ∀ (ts : List Tr) (s : List Int) (path : List Tr), wkL stU s path ts = (true, s ++ lfI (ndL ts))
  | [], s, path => by simp [wkL, ndL, lfI]
  | t :: ts, s, path => by
    rw [wkL, ndL, wkU_T t s path, if_pos rfl, wkU_L ts, lfI_app, List.append_assoc]
end
theorem lfI_len (ts : List Tr) : (lfI ts).length ≤ ts.length := by
  unfold lfI
  rw [List.length_map]
  exact List.length_filter_le _ _
theorem fl_nd (t : Tr) (k : Nat) (hc : t.cnt ≤ 2000) (hd : t.Dp k) (hk : k ≤ 100) : (fl t).map Pc.t = ndT t := by
  have h := flT_pre t [] 1 (-1) k (by simpa using hc) hd (by omega)
  unfold fl
  rw [h]
  simp only [List.nil_append, List.length_nil]
  exact preT_map t 0 1 (-1)
/-- A node in a schema: not deeper, with no more nodes. -/
theorem nd_in : ∀ (n : Nat) (t : Tr), SizeOf.sizeOf t < n → ∀ x ∈ ndT t, x.cnt ≤ t.cnt ∧ (∀ k, t.Dp k → x.Dp k) ∧ (t.Sm → x.Sm)
  | 0, t, h => absurd h (Nat.not_lt_zero _)
  | n + 1, t, hsz => fun x hx => by
    rw [ndT_eq] at hx
    rcases List.mem_cons.1 hx with rfl | hx
    · exact ⟨Nat.le_refl _, fun _ h => h, fun h => h⟩
    · have hm : ∀ (ts : List Tr), x ∈ ndL ts → ∃ y ∈ ts, x ∈ ndT y := fun ts => by
        induction ts with
        | nil => simp [ndL]
        | cons y ys ih =>
          rw [ndL, List.mem_append]
          rintro (h | h)
          · exact ⟨y, by simp, h⟩
          · obtain ⟨z, h1, h2⟩ := ih h
            exact ⟨z, by simp [h1], h2⟩
      obtain ⟨y, hy, hx⟩ := hm _ hx
      obtain ⟨j, hj, rfl⟩ := List.getElem_of_mem hy
      obtain ⟨h1, h2, h3⟩ := nd_in n t.sub[j] (by have := t.sub_size j hj; omega) x hx
      have hcn : t.sub[j].cnt + 1 ≤ t.cnt := by
        rw [Tr.cnt_eq t]
        have h : ∀ (ts : List Tr) (j : Nat) (hj : j < ts.length), ts[j].cnt ≤ cntL ts := fun ts => by
          induction ts with
          | nil => intro j hj; simp at hj
          | cons x xs ih =>
            intro j hj
            rw [cntL]
            cases j with
            | zero => simp
            | succ j => have := ih j (by simpa using hj); simp; omega
        have := h t.sub j hj
        omega
      refine ⟨by omega, fun k hk => ?_, fun h => h3 (h.at_ j hj)⟩
      cases k with
      | zero => exact absurd hk.pos (Nat.lt_irrefl _)
      | succ k => exact dp_up (h2 k (hk.at_ j hj))
where
  dp_up {x : Tr} {k : Nat} (h : x.Dp k) : x.Dp (k + 1) := by
    induction h with
    | mk n id nm rep kind sub h ih => exact .mk _ _ _ _ _ _ ih
end Go.Proofs.YtnfjpngmadoflaaGreatDoor

namespace Go.Proofs.YtnfjpngmadoflaaGreatDoor
open Go.RowKit
mutual
/-- The whole paths, node by node. -/
def fpT (p : List Tr) : Tr → List (List Tr)
  | .node id nm rep kind sub => (p ++ [.node id nm rep kind sub]) :: fpL (p ++ [.node id nm rep kind sub]) sub
def fpL (p : List Tr) : List Tr → List (List Tr)
  | [] => []
  | t :: ts => fpT p t ++ fpL p ts
end
theorem fpT_eq (p : List Tr) (t : Tr) : fpT p t = (p ++ [t]) :: fpL (p ++ [t]) t.sub := by
  cases t with
  | node id nm rep kind sub => rw [fpT]; rfl
theorem fpL_mem (p : List Tr) : ∀ (ts : List Tr) (f : List Tr), f ∈ fpL p ts ↔ ∃ t ∈ ts, f ∈ fpT p t
  | [], f => by simp [fpL]
  | t :: ts, f => by
    rw [fpL, List.mem_append, fpL_mem p ts f]
    simp
theorem ndL_mem : ∀ (ts : List Tr) (x : Tr), x ∈ ndL ts ↔ ∃ t ∈ ts, x ∈ ndT t
  | [], x => by simp [ndL]
  | t :: ts, x => by
    rw [ndL, List.mem_append, ndL_mem ts x]
    simp
theorem nd_self (t : Tr) : t ∈ ndT t := by rw [ndT_eq]; simp
theorem nd_sub {t c x : Tr} (hc : c ∈ t.sub) (hx : x ∈ ndT c) : x ∈ ndT t := by
  rw [ndT_eq]
  exact List.mem_cons_of_mem _ ((ndL_mem _ _).2 ⟨c, hc, hx⟩)
theorem sub_lt {t c : Tr} (hc : c ∈ t.sub) : SizeOf.sizeOf c < SizeOf.sizeOf t := by
  obtain ⟨j, hj, rfl⟩ := List.getElem_of_mem hc
  exact t.sub_size j hj
/-- What is in a node that is in another one is in that one. -/
theorem nd_trans : ∀ (n : Nat) (t : Tr), SizeOf.sizeOf t < n → ∀ y ∈ ndT t, ∀ x ∈ ndT y, x ∈ ndT t
  | 0, t, h => absurd h (Nat.not_lt_zero _)
  | n + 1, t, hsz => fun y hy x hx => by
    rw [ndT_eq] at hy
    rcases List.mem_cons.1 hy with rfl | hy
    · exact hx
    · obtain ⟨c, hc, hy⟩ := (ndL_mem _ _).1 hy
      exact nd_sub hc (nd_trans n c (by have := sub_lt hc; omega) y hy x hx)
/-- A node in another one is it, or less. -/
theorem nd_size : ∀ (n : Nat) (t : Tr), SizeOf.sizeOf t < n → ∀ y ∈ ndT t, y = t ∨ SizeOf.sizeOf y < SizeOf.sizeOf t
  | 0, t, h => absurd h (Nat.not_lt_zero _)
  | n + 1, t, hsz => fun y hy => by
    rw [ndT_eq] at hy
    rcases List.mem_cons.1 hy with rfl | hy
    · exact .inl rfl
    · obtain ⟨c, hc, hy⟩ := (ndL_mem _ _).1 hy
      have h1 := sub_lt hc
      rcases nd_size n c (by omega) y hy with rfl | h2
      · exact .inr h1
      · exact .inr (by omega)
theorem fpT_ahead : ∀ (n : Nat) (t : Tr), SizeOf.sizeOf t < n → ∀ (p : List Tr) (f : List Tr), f ∈ fpT p t ↔ ∃ g ∈ fpT [] t, f = p ++ g
  | 0, t, h => absurd h (Nat.not_lt_zero _)
  | n + 1, t, hsz => fun p f => by
    rw [fpT_eq, fpT_eq]
    simp only [List.mem_cons, List.nil_append, fpL_mem]
    constructor
    · rintro (rfl | ⟨c, hc, hf⟩)
      · exact ⟨[t], .inl rfl, rfl⟩
      · obtain ⟨g, hg, rfl⟩ := (fpT_ahead n c (by have := sub_lt hc; omega) _ f).1 hf
        exact ⟨[t] ++ g, .inr ⟨c, hc, (fpT_ahead n c (by have := sub_lt hc; omega) _ _).2 ⟨g, hg, rfl⟩⟩, by simp⟩
    · rintro ⟨g, rfl | ⟨c, hc, hg⟩, rfl⟩
      · exact .inl rfl
      · obtain ⟨g', hg', rfl⟩ := (fpT_ahead n c (by have := sub_lt hc; omega) _ g).1 hg
        exact .inr ⟨c, hc, (fpT_ahead n c (by have := sub_lt hc; omega) _ _).2 ⟨g', hg', by simp⟩⟩
/-- A path's nodes lie one in the other. -/
theorem fp_chain : ∀ (n : Nat) (t : Tr), SizeOf.sizeOf t < n → ∀ f ∈ fpT [] t, (∀ y ∈ f, y ∈ ndT t) ∧ (∀ y ∈ f, ∀ z ∈ f, z ∈ ndT y ∨ y ∈ ndT z) ∧ ∃ m ∈ f, ∀ y ∈ f, m ∈ ndT y
  | 0, t, h => absurd h (Nat.not_lt_zero _)
  | n + 1, t, hsz => fun f hf => by
    rw [fpT_eq] at hf
    simp only [List.mem_cons, List.nil_append, fpL_mem] at hf
    rcases hf with rfl | ⟨c, hc, hf⟩
    · simp only [List.mem_singleton]
      exact ⟨fun y h => by rw [h]; exact nd_self t, fun y h z h' => by rw [h, h']; exact .inl (nd_self t), t, rfl, fun y h => by rw [h]; exact nd_self t⟩
    · have hlt : SizeOf.sizeOf c < n := by have := sub_lt hc; omega
      obtain ⟨g, hg, rfl⟩ := (fpT_ahead n c hlt _ f).1 hf
      obtain ⟨h1, h2, m, hm, h3⟩ := fp_chain n c hlt g hg
      refine ⟨fun y hy => ?_, fun y hy z hz => ?_, m, by simp [hm], fun y hy => ?_⟩
      · rcases List.mem_cons.1 hy with rfl | hy
        · exact nd_self _
        · exact nd_sub hc (h1 y hy)
      · rcases List.mem_cons.1 hy with rfl | hy1
        · rcases List.mem_cons.1 hz with rfl | hz1
          · exact .inl (nd_self _)
          · exact .inl (nd_sub hc (h1 z hz1))
        · rcases List.mem_cons.1 hz with rfl | hz1
          · exact .inr (nd_sub hc (h1 y hy1))
          · exact h2 y hy1 z hz1
      · rcases List.mem_cons.1 hy with rfl | hy
        · exact nd_sub hc (h1 m hm)
        · exact h3 y hy
/-- No number twice. -/
def IdU (t : Tr) : Prop := ((ndT t).map Tr.id).Nodup
theorem IdU.eq {t x y : Tr} (h : IdU t) (hx : x ∈ ndT t) (hy : y ∈ ndT t) (e : x.id = y.id) : x = y := by
  obtain ⟨i, hi, rfl⟩ := List.getElem_of_mem hx
  obtain ⟨j, hj, rfl⟩ := List.getElem_of_mem hy
  have hij : i = j := by
    unfold IdU at h
    rw [List.nodup_iff_pairwise_ne, List.pairwise_iff_getElem] at h
    rcases Nat.lt_trichotomy i j with hlt | he | hlt
    · have h2 := h i j (by rw [List.length_map]; exact hi) (by rw [List.length_map]; exact hj) hlt
      rw [List.getElem_map, List.getElem_map] at h2
      exact absurd e h2
    · exact he
    · have h2 := h j i (by rw [List.length_map]; exact hj) (by rw [List.length_map]; exact hi) hlt
      rw [List.getElem_map, List.getElem_map] at h2
      exact absurd e.symm h2
  subst hij
  rfl
theorem IdU.sub {t c : Tr} (h : IdU t) (hc : c ∈ t.sub) : IdU c := by
  unfold IdU at h ⊢
  rw [ndT_eq, List.map_cons, List.nodup_cons] at h
  have : ∀ (ts : List Tr), c ∈ ts → ((ndL ts).map Tr.id).Nodup → ((ndT c).map Tr.id).Nodup := fun ts => by
    induction ts with
    | nil => simp
    | cons x xs ih =>
      intro hm hn
      rw [ndL, List.map_append, List.nodup_append] at hn
      rcases List.mem_cons.1 hm with rfl | hm
      · exact hn.1
      · exact ih hm hn.2.1
  exact this _ hc h.2
/-- Two nodes of a list that have a node in common are one. -/
theorem IdU.apart {t c c' x : Tr} (h : IdU t) (hc : c ∈ t.sub) (hc' : c' ∈ t.sub) (hx : x ∈ ndT c) (hx' : x ∈ ndT c') : c = c' := by
  unfold IdU at h
  rw [ndT_eq, List.map_cons, List.nodup_cons] at h
  have : ∀ (ts : List Tr), c ∈ ts → c' ∈ ts → ((ndL ts).map Tr.id).Nodup → c = c' := fun ts => by
    induction ts with
    | nil => simp
    | cons y ys ih =>
      intro hm hm' hn
      rw [ndL, List.map_append, List.nodup_append] at hn
      rcases List.mem_cons.1 hm with e1 | hm1
      · rcases List.mem_cons.1 hm' with e2 | hm2
        · rw [e1, e2]
        · rw [e1] at hx
          exact absurd rfl (hn.2.2 x.id (List.mem_map_of_mem hx) x.id (List.mem_map_of_mem ((ndL_mem _ _).2 ⟨c', hm2, hx'⟩)))
      · rcases List.mem_cons.1 hm' with e2 | hm2
        · rw [e2] at hx'
          exact absurd rfl (hn.2.2 x.id (List.mem_map_of_mem hx') x.id (List.mem_map_of_mem ((ndL_mem _ _).2 ⟨c, hm1, hx⟩)))
        · exact ih hm1 hm2 hn.2.1
  exact this _ hc hc' h.2
/-- All that a node is in is on its path. -/
theorem fp_all : ∀ (n : Nat) (t : Tr), SizeOf.sizeOf t < n → IdU t → ∀ m ∈ ndT t, ∃ f ∈ fpT [] t, ∀ y ∈ ndT t, m ∈ ndT y → y ∈ f
  | 0, t, h => absurd h (Nat.not_lt_zero _)
  | n + 1, t, hsz => fun hu m hm => by
    rw [ndT_eq] at hm
    rcases List.mem_cons.1 hm with rfl | hm
    · refine ⟨[m], by rw [fpT_eq]; simp, fun y hy hmy => ?_⟩
      rcases nd_size _ m (Nat.lt_succ_self _) y hy with rfl | h1
      · simp
      · rcases nd_size _ y (Nat.lt_succ_self _) m hmy with rfl | h2
        · simp
        · omega
    · obtain ⟨c, hc, hmc⟩ := (ndL_mem _ _).1 hm
      have hlt : SizeOf.sizeOf c < n := by have := sub_lt hc; omega
      obtain ⟨f, hf, hall⟩ := fp_all n c hlt (hu.sub hc) m hmc
      refine ⟨[t] ++ f, ?_, fun y hy hmy => ?_⟩
      · rw [fpT_eq]
        simp only [List.nil_append, List.mem_cons, fpL_mem]
        exact .inr ⟨c, hc, (fpT_ahead n c hlt _ _).2 ⟨f, hf, rfl⟩⟩
      · rw [ndT_eq] at hy
        rcases List.mem_cons.1 hy with rfl | hy
        · simp
        · obtain ⟨c', hc', hyc⟩ := (ndL_mem _ _).1 hy
          have e := hu.apart hc hc' hmc (nd_trans _ c' (Nat.lt_succ_self _) y hyc m hmy)
          subst e
          exact List.mem_append_right _ (hall y hyc hmy)
/-- The visitor that tells what stays. -/
def stY (q : List Int) (s : List Int) (path : List Tr) (t : Tr) : Bool × List Int := (true, if (path ++ [t]).any (fun y => q.contains y.id) then s ++ (path ++ [t]).map Tr.id else s)
/-- What a path adds. -/
def onF (q : List Int) (f : List Tr) : List Int := if f.any (fun y => q.contains y.id) then f.map Tr.id else []
theorem stY_eq (q s : List Int) (path : List Tr) (t : Tr) : stY q s path t = (true, s ++ onF q (path ++ [t])) := by
  unfold stY onF
  split <;> simp
mutual
theorem wkY_T (q : List Int) : ∀ (t : Tr) (s : List Int) (path : List Tr), wkT (stY q) s path t = (true, s ++ (fpT path t).flatMap (onF q))
  | .node i nm rep kind sub, s, path => by
    rw [wkT, stY_eq, if_pos rfl, fpT, wkY_L q sub]
    simp
theorem wkY_L (q : List Int) : ∀ (ts : List Tr) (s : List Int) (path : List Tr), wkL (stY q) s path ts = (true, s ++ (fpL path ts).flatMap (onF q))
  | [], s, path => by simp [wkL, fpL]
  | t :: ts, s, path => by
    rw [wkL, fpL, wkY_T q t s path, if_pos rfl, wkY_L q ts]
    simp
end
/-- The numbers that stay. -/
def stayI (q : List Int) (t : Tr) : List Int := (fpT [] t).flatMap (onF q)
/-- Each node has a leaf in it. -/
def HasLf (t : Tr) : Prop := ∀ y ∈ ndT t, ∃ l ∈ ndT y, l.kind ≠ 0
/-- The leaves of what is asked for. -/
def askL (q : List Int) (t : Tr) : List Int := q.flatMap fun i => match (ndT t).find? (fun y => y.id == i) with | some x => lfI (ndT x) | none => []
theorem lfI_mem {ts : List Tr} {i : Int} : i ∈ lfI ts ↔ ∃ l ∈ ts, l.kind ≠ 0 ∧ l.id = i := by
  unfold lfI
  simp [List.mem_map, List.mem_filter]
  constructor
  · rintro ⟨l, ⟨h1, h2⟩, h3⟩; exact ⟨l, h1, h2, h3⟩
  · rintro ⟨l, h1, h2, h3⟩; exact ⟨l, ⟨h1, h2⟩, h3⟩
theorem askL_mem {q : List Int} {t : Tr} {i : Int} (hu : IdU t) : i ∈ askL q t ↔ ∃ z ∈ ndT t, z.id ∈ q ∧ ∃ l ∈ ndT z, l.kind ≠ 0 ∧ l.id = i := by
  unfold askL
  rw [List.mem_flatMap]
  constructor
  · rintro ⟨k, hk, hi⟩
    cases hf : (ndT t).find? (fun y => y.id == k) with
    | none => rw [hf] at hi; simp at hi
    | some x =>
      rw [hf] at hi
      have hx := List.mem_of_find?_eq_some hf
      have hk2 : x.id = k := by have := List.find?_some hf; simpa using this
      exact ⟨x, hx, by rw [hk2]; exact hk, lfI_mem.1 hi⟩
  · rintro ⟨z, hz, hq, hl⟩
    refine ⟨z.id, hq, ?_⟩
    cases hf : (ndT t).find? (fun y => y.id == z.id) with
    | none =>
      rw [List.find?_eq_none] at hf
      have := hf z hz
      simp at this
    | some x =>
      have hx := List.mem_of_find?_eq_some hf
      have hk2 : x.id = z.id := by have := List.find?_some hf; simpa using this
      rw [hu.eq hx hz hk2]
      exact lfI_mem.2 hl
/-- A node stays iff a leaf in it is one of those that are asked for. -/
theorem stay_iff {q : List Int} {t : Tr} (hu : IdU t) (hlf : HasLf t) (y : Tr) (hy : y ∈ ndT t) : y.id ∈ stayI q t ↔ ∃ l ∈ lfI (ndT y), l ∈ askL q t := by
  unfold stayI
  rw [List.mem_flatMap]
  constructor
  · rintro ⟨f, hf, hm⟩
    unfold onF at hm
    split at hm
    · rename_i hany
      obtain ⟨h1, h2, m, hmf, h3⟩ := fp_chain _ t (Nat.lt_succ_self _) f hf
      obtain ⟨y', hy', e⟩ := List.mem_map.1 hm
      obtain rfl := hu.eq (h1 y' hy') hy e
      obtain ⟨z, hz, hzq⟩ := List.any_eq_true.1 hany
      have hzq2 : z.id ∈ q := by simpa using hzq
      rcases h2 y' hy' z hz with h | h
      · obtain ⟨l, hl, hk⟩ := hlf z (h1 z hz)
        exact ⟨l.id, lfI_mem.2 ⟨l, nd_trans _ y' (Nat.lt_succ_self _) z h l hl, hk, rfl⟩, (askL_mem hu).2 ⟨z, h1 z hz, hzq2, l, hl, hk, rfl⟩⟩
      · obtain ⟨l, hl, hk⟩ := hlf y' hy
        exact ⟨l.id, lfI_mem.2 ⟨l, hl, hk, rfl⟩, (askL_mem hu).2 ⟨z, h1 z hz, hzq2, l, nd_trans _ z (Nat.lt_succ_self _) y' h l hl, hk, rfl⟩⟩
    · simp at hm
  · rintro ⟨i, hi, hq⟩
    obtain ⟨l, hl, hk, rfl⟩ := lfI_mem.1 hi
    obtain ⟨z, hz, hzq, l', hl', hk', e⟩ := (askL_mem hu).1 hq
    have hlt : l ∈ ndT t := nd_trans _ t (Nat.lt_succ_self _) y hy l hl
    have hlt' : l' ∈ ndT t := nd_trans _ t (Nat.lt_succ_self _) z hz l' hl'
    obtain rfl := hu.eq hlt' hlt e
    obtain ⟨f, hf, hall⟩ := fp_all _ t (Nat.lt_succ_self _) hu l' hlt
    refine ⟨f, hf, ?_⟩
    unfold onF
    rw [if_pos (List.any_eq_true.2 ⟨z, hall z hz hl', by simpa using hzq⟩)]
    exact List.mem_map_of_mem (hall y hy hl)
mutual
/-- A node with those in it that are to stay. -/
def kpT (K : Int → Bool) : Tr → Tr
  | .node id nm rep kind sub => .node id nm rep kind (kpL K sub)
def kpL (K : Int → Bool) : List Tr → List Tr
  | [] => []
  | t :: ts => if K t.id = true then kpT K t :: kpL K ts else kpL K ts
end
mutual
/-- A node with those in it that have some of the leaves. -/
def rkT (L : List Int) : Tr → Tr
  | .node id nm rep kind sub => .node id nm rep kind (rkL L sub)
def rkL (L : List Int) : List Tr → List Tr
  | [] => []
  | t :: ts => if (lfI (ndT t)).any (fun i => L.contains i) = true then rkT L t :: rkL L ts else rkL L ts
end
theorem kp_rk {q : List Int} {r : Tr} (hu : IdU r) (hlf : HasLf r) : ∀ (n : Nat) (t : Tr), SizeOf.sizeOf t < n → (∀ x ∈ ndT t, x ∈ ndT r) → kpT (fun i => (stayI q r).contains i) t = rkT (askL q r) t
  | 0, t, h => absurd h (Nat.not_lt_zero _)
  | n + 1, .node id nm rep kind sub, hsz => fun hin => by
    rw [kpT, rkT]
    congr 1
    have h : ∀ (ts : List Tr), (∀ c ∈ ts, c ∈ sub) → kpL (fun i => (stayI q r).contains i) ts = rkL (askL q r) ts := fun ts => by
      induction ts with
      | nil => intro _; rw [kpL, rkL]
      | cons c cs ih =>
        intro hcs
        have hc : c ∈ (Tr.node id nm rep kind sub).sub := hcs c (by simp)
        have hcr : c ∈ ndT r := hin c (nd_sub hc (nd_self c))
        have hlt : SizeOf.sizeOf c < n := by have := sub_lt hc; omega
        have e : ((stayI q r).contains c.id = true) ↔ ((lfI (ndT c)).any (fun i => (askL q r).contains i) = true) := by
          have h1 := stay_iff (q := q) hu hlf c hcr
          simpa [List.any_eq_true] using h1
        rw [kpL, rkL, ih (fun c' h => hcs c' (by simp [h])), kp_rk hu hlf n c hlt (fun x hx => hin x (nd_sub hc hx))]
        simp only [e]
    exact h sub (fun c h => h)
end Go.Proofs.YtnfjpngmadoflaaGreatDoor

namespace Go.Proofs.YtnfjpngmadoflaaGreatDoor
open Go.RowKit
theorem right_idU {t : Tr} (hr : isRootB t = true) (hI : idsT t = true) : IdU t := by
  have hid : t.id = 0 := (of_decide_eq_true hr).1
  rw [ids_fl, chk_iff] at hI
  obtain ⟨hok, hpw, _⟩ := hI
  have hm := preL_map t.sub 1 2 0
  unfold IdU
  rw [ndT_eq, List.map_cons, List.nodup_cons, ← hm]
  constructor
  · intro h
    obtain ⟨x, hx, e⟩ := List.mem_map.1 h
    obtain ⟨p, hp, rfl⟩ := List.mem_map.1 hx
    have := hok p hp
    rw [idOkP, decide_eq_true_iff] at this
    omega
  · rw [List.map_map, List.nodup_iff_pairwise_ne, List.pairwise_map]
    refine hpw.imp ?_
    intro a b h
    rw [idBadP, decide_eq_false_iff_not] at h
    exact h
theorem right_hasLf {t : Tr} (hs : shpT t = true) : HasLf t := by
  rw [shp_all, Bool.and_eq_true] at hs
  have hall : ∀ y ∈ ndT t, shpOk y = true := fun y hy => by
    rw [ndT_eq] at hy
    rcases List.mem_cons.1 hy with rfl | hy
    · exact hs.1
    · exact List.all_eq_true.1 hs.2 y hy
  have h : ∀ (n : Nat) (y : Tr), SizeOf.sizeOf y < n → y ∈ ndT t → ∃ l ∈ ndT y, l.kind ≠ 0 := fun n => by
    induction n with
    | zero => intro y h; exact absurd h (Nat.not_lt_zero _)
    | succ n ih =>
      intro y hsz hy
      by_cases hk : y.kind = 0
      · have h1 := hall y hy
        have h2 : 0 < y.sub.length := by
          unfold shpOk at h1
          simp [hk] at h1
          first | omega | (have := h1; simp at this; omega)
        have hc : y.sub[0] ∈ y.sub := List.getElem_mem h2
        obtain ⟨l, hl, hlk⟩ := ih y.sub[0] (by have := sub_lt hc; omega) (nd_trans _ t (Nat.lt_succ_self _) y hy _ (nd_sub hc (nd_self _)))
        exact ⟨l, nd_sub hc hl, hlk⟩
      · exact ⟨y, nd_self y, hk⟩
  exact fun y hy => h _ y (Nat.lt_succ_self _) hy
end Go.Proofs.YtnfjpngmadoflaaGreatDoor
