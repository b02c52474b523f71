/-
  schema.Valid: exact: which error, or none.
  Boxes, frames and names that the walks of stage 4's laws share.
-/
import Derived.Test.YtmfijliladancaaGreatDoorXIds
import Derived.Test.YtmfijliladancaaGreatDoorXOwn
import Derived.BigQuiet
namespace Go.Proofs.YtmfijliladancaaGreatDoor
open Go.RowKit
/-- A schema's error: 0: none; 1: bound, 2: shape, 4: name (places of the listed errors). -/
def vldN (t : Tr) : Nat := if inB t = false then 1 else if isRootB t = false ∨ shpT t = false then 2 else if nmsT t = false ∨ idsT t = false then 4 else 0
/-- .. as a value. -/
def vldV (eb es en : Value) (t : Tr) : Value := if inB t = false then eb else if isRootB t = false ∨ shpT t = false then es else if nmsT t = false ∨ idsT t = false then en else .nilIface
set_option maxRecDepth 100000 in
set_option maxHeartbeats 1600000 in
theorem valid_any (t : Tr) (n : Nat) (hd : t.Dp n) (hn : n ≤ 1100000) (hs : t.Sm) (a : Option Addr) (c : Nat) (P : Nat → Prop) (W : World) (hl : LiesN W P a t.sub) (hcap : t.sub.length ≤ c) (eb es en : TypeId × Value)
    (hgb : W.cell? ⟨0, 0, none⟩ = some (.iface eb.1 eb.2)) (hgs : W.cell? ⟨2, 0, none⟩ = some (.iface es.1 es.2)) (hgn : W.cell? ⟨3, 0, none⟩ = some (.iface en.1 en.2)) :
    Calls Tryz.prog 16 #[nodeV t a c] W fun e w' => e = .returned (vldV (.iface eb.1 eb.2) (.iface es.1 es.2) (.iface en.1 en.2) t) ∧ Below W.heap.size W w' := by
  have hb : Below W.heap.size W (W.alloc (.cells #[.int .i64 t.id, .string t.nm, .int .i64 t.rep, .int .i64 t.kind, .slice a t.sub.length c] 24)) := (Below.refl _ _).alloc (Nat.le_refl _) _
  have HX : Hid ((W.alloc (.cells #[.int .i64 t.id, .string t.nm, .int .i64 t.rep, .int .i64 t.kind, .slice a t.sub.length c] 24)).heap[W.heap.size]? = some (.cells #[.int .i64 t.id, .string t.nm, .int .i64 t.rep, .int .i64 t.kind, .slice a t.sub.length c] 24 (0, 0))) := heap_alloc_new W _
  have HL : Hid (LiesN W P a t.sub) := hl
  have HGb : Hid _ := hgb
  have HGs : Hid _ := hgs
  have HGn : Hid _ := hgn
  have HD : Hid _ := hd
  have HSm : Hid _ := hs
  have HB : Hid _ := hb
  obtain ⟨b1, H1⟩ : ∃ b1, Hid (inB t = b1) := ⟨_, rfl⟩
  obtain ⟨b2, H2⟩ : ∃ b2, Hid (isRootB t = b2) := ⟨_, rfl⟩
  obtain ⟨b3, H3⟩ : ∃ b3, Hid (shpT t = b3) := ⟨_, rfl⟩
  obtain ⟨b4, H4⟩ : ∃ b4, Hid (nmsT t = b4) := ⟨_, rfl⟩
  obtain ⟨b5, H5⟩ : ∃ b5, Hid (idsT t = b5) := ⟨_, rfl⟩
  clear hl hd hs hb hgb hgs hgn
  go_enter Tryz.func16, Tryz.ntmps16
  go_wp2_with fail
  refine (inBounds_any t n HD.out hn HSm.out a c P _ (HL.out.keep HB.out) hcap).mono ?_
  rw [H1.out]
  rintro e w1 ⟨rfl, hb1⟩
  have HB1 : Hid (Below W.heap.size W w1) := HB.out.trans (hb1.mono HB.out.size)
  have HX1 : Hid (w1.heap[W.heap.size]? = some (.cells #[.int .i64 t.id, .string t.nm, .int .i64 t.rep, .int .i64 t.kind, .slice a t.sub.length c] 24 (0, 0))) := blk_keep hb1 HX.out
  clear hb1
  cases b1 with
  | false =>
    have hgb := (HB1.out.cell (World.block_lt_of_cell? W _ HGb.out)).trans HGb.out
    go_wp2
    go_ret
    exact ⟨by rw [vldV, if_pos H1.out]; rfl, HB1.out⟩
  | true =>
    obtain ⟨⟨p0, p1, p2, p3, p4⟩, _⟩ := row_five HX1.out
    go_wp2_with fail
    refine (isRoot_any t a c _).mono ?_
    rw [H2.out]
    rintro e w2 ⟨rfl, hb2⟩
    have HB2 : Hid (Below W.heap.size W w2) := HB1.out.trans (hb2.mono HB1.out.size)
    have HX2 : Hid (w2.heap[W.heap.size]? = some (.cells #[.int .i64 t.id, .string t.nm, .int .i64 t.rep, .int .i64 t.kind, .slice a t.sub.length c] 24 (0, 0))) := blk_keep hb2 HX1.out
    clear hb2 p0 p1 p2 p3 p4
    obtain ⟨⟨p0, p1, p2, p3, p4⟩, _⟩ := row_five HX2.out
    cases b2 with
    | false =>
      have hgs := (HB2.out.cell (World.block_lt_of_cell? W _ HGs.out)).trans HGs.out
      go_wp2
      go_ret
      exact ⟨by rw [vldV, if_neg (by rw [H1.out]; simp), if_pos (.inl H2.out)]; rfl, HB2.out⟩
    | true =>
      go_wp2_with fail
      refine (shapes_any t n HD.out hn HSm.out a c P _ (HL.out.keep HB2.out) hcap).mono ?_
      rw [H3.out]
      rintro e w3 ⟨rfl, hb3⟩
      have HB3 : Hid (Below W.heap.size W w3) := HB2.out.trans (hb3.mono HB2.out.size)
      have HX3 : Hid (w3.heap[W.heap.size]? = some (.cells #[.int .i64 t.id, .string t.nm, .int .i64 t.rep, .int .i64 t.kind, .slice a t.sub.length c] 24 (0, 0))) := blk_keep hb3 HX2.out
      clear hb3 p0 p1 p2 p3 p4
      obtain ⟨⟨p0, p1, p2, p3, p4⟩, _⟩ := row_five HX3.out
      cases b3 with
      | false =>
        have hgs := (HB3.out.cell (World.block_lt_of_cell? W _ HGs.out)).trans HGs.out
        go_wp2
        go_ret
        exact ⟨by rw [vldV, if_neg (by rw [H1.out]; simp), if_pos (.inr H3.out)]; rfl, HB3.out⟩
      | true =>
        go_wp2_with fail
        refine (names_any t n HD.out hn HSm.out a c P _ (HL.out.keep HB3.out) hcap).mono ?_
        rw [H4.out]
        rintro e w4 ⟨rfl, hb4⟩
        have HB4 : Hid (Below W.heap.size W w4) := HB3.out.trans (hb4.mono HB3.out.size)
        have HX4 : Hid (w4.heap[W.heap.size]? = some (.cells #[.int .i64 t.id, .string t.nm, .int .i64 t.rep, .int .i64 t.kind, .slice a t.sub.length c] 24 (0, 0))) := blk_keep hb4 HX3.out
        clear hb4 p0 p1 p2 p3 p4
        obtain ⟨⟨p0, p1, p2, p3, p4⟩, _⟩ := row_five HX4.out
        cases b4 with
        | false =>
          have hgn := (HB4.out.cell (World.block_lt_of_cell? W _ HGn.out)).trans HGn.out
          go_wp2
          go_ret
          exact ⟨by rw [vldV, if_neg (by rw [H1.out]; simp), if_neg (by rw [H2.out, H3.out]; simp), if_pos (.inl H4.out)]; rfl, HB4.out⟩
        | true =>
          go_wp2_with fail
          refine (ids_any t n HD.out hn HSm.out a c P _ (HL.out.keep HB4.out) hcap).mono ?_
          rw [H5.out]
          rintro e w5 ⟨rfl, hb5⟩
          have HB5 : Hid (Below W.heap.size W w5) := HB4.out.trans (hb5.mono HB4.out.size)
          clear hb5 p0 p1 p2 p3 p4
          cases b5 with
          | false =>
            have hgn := (HB5.out.cell (World.block_lt_of_cell? W _ HGn.out)).trans HGn.out
            go_wp2
            go_ret
            exact ⟨by rw [vldV, if_neg (by rw [H1.out]; simp), if_neg (by rw [H2.out, H3.out]; simp), if_pos (.inr H5.out)]; rfl, HB5.out⟩
          | true =>
            go_wp2
            go_ret
            exact ⟨by rw [vldV, if_neg (by rw [H1.out]; simp), if_neg (by rw [H2.out, H3.out]; simp), if_neg (by rw [H4.out, H5.out]; simp)]; rfl, HB5.out⟩
theorem vldV_nil {eb es en : Value} {t : Tr} (hr : vldN t = 0) : vldV eb es en t = .nilIface := by
  unfold vldN at hr
  unfold vldV
  split at hr
  · omega
  · rename_i h1
    rw [if_neg h1]
    split at hr
    · omega
    · rename_i h2
      rw [if_neg h2]
      split at hr
      · omega
      · rename_i h3
        rw [if_neg h3]
end Go.Proofs.YtmfijliladancaaGreatDoor

namespace Go.Proofs.YtmfijliladancaaGreatDoor
open Go.RowKit
theorem below_dN {B : Nat} {a w : World} (h : Below B a w) (n : Nat) : Below B a (w.drewN n) := h.trans ⟨rfl, rfl, rfl, Nat.le_refl _, fun _ _ => rfl⟩
/-- What the reader's calls keep: all but the reader itself. -/
structure RFr (r : Nat) (W w' : World) : Prop where
  os : w'.os = W.os
  tape : w'.tape = W.tape
  output : w'.output = W.output
  size : W.heap.size ≤ w'.heap.size
  keep : ∀ k, k < W.heap.size → k ≠ r → w'.heap[k]? = W.heap[k]?
theorem RFr.refl (r : Nat) (W : World) : RFr r W W := ⟨rfl, rfl, rfl, Nat.le_refl _, fun _ _ _ => rfl⟩
theorem RFr.trans {r : Nat} {W w1 w2 : World} (h : RFr r W w1) (h2 : RFr r w1 w2) : RFr r W w2 :=
  ⟨h2.os.trans h.os, h2.tape.trans h.tape, h2.output.trans h.output, Nat.le_trans h.size h2.size, fun k hk hne => by rw [h2.keep k (Nat.lt_of_lt_of_le hk h.size) hne, h.keep k hk hne]⟩
theorem RFr.of_below {r : Nat} {W w' : World} (hb : Below W.heap.size W w') : RFr r W w' := ⟨hb.os, hb.tape, hb.output, hb.size, fun k hk _ => hb.block k hk⟩
theorem RFr.below {r B : Nat} {W w' : World} (h : RFr r W w') (hB : B ≤ W.heap.size) (hr : B ≤ r) : Below B W w' := ⟨h.os, h.tape, h.output, h.size, fun k hk => h.keep k (by omega) (by omega)⟩
theorem RFr.set {r j : Nat} {W w' : World} {v : Value} (h : RFr r W w') : RFr r W (w'.setCell ⟨r, j, none⟩ v) := ⟨h.os, h.tape, h.output, by simpa using h.size, fun k hk hne => (Below.heap_setCell w' ⟨r, j, none⟩ v k hne).trans (h.keep k hk hne)⟩
theorem RFr.box {r k : Nat} {W w' : World} {o : Obj} (h : RFr r W w') (hk : W.heap[k]? = some o) (hne : k ≠ r) : w'.heap[k]? = some o := (h.keep k (lt_of_block hk) hne).trans hk
theorem two_boxesS (W : World) (c1 c2 : Array Value) (t1 t2 : TypeId) : ∃ w0, Hid ((W.alloc (.cells c1 t1)).alloc (.cells c2 t2) = w0) ∧ Hid (w0.heap[W.heap.size]? = some (.cells c1 t1 (0, 0))) ∧ Hid (w0.heap[W.heap.size + 1]? = some (.cells c2 t2 (0, 0))) ∧ Hid (Below W.heap.size W w0) := by
  refine ⟨_, rfl, blk_alloc (heap_alloc_new W _), ?_, ((Below.refl _ _).alloc (Nat.le_refl _) _).alloc (by simp) _⟩
  have h := heap_alloc_new (W.alloc (.cells c1 t1)) (.cells c2 t2)
  rw [show (W.alloc (.cells c1 t1)).heap.size = W.heap.size + 1 by simp] at h
  exact h
theorem one_box (W : World) (c1 : Array Value) (t1 : TypeId) : ∃ w0, Hid (W.alloc (.cells c1 t1) = w0) ∧ Hid (w0.heap[W.heap.size]? = some (.cells c1 t1 (0, 0))) ∧ Hid (Below W.heap.size W w0) := ⟨_, rfl, heap_alloc_new W _, (Below.refl _ _).alloc (Nat.le_refl _) _⟩
theorem hid_name {α : Type} (x : α) : ∃ y, Hid (x = y) := ⟨x, rfl⟩
theorem three_boxesS (W : World) (c1 c2 c3 : Array Value) (t1 t2 t3 : TypeId) : ∃ w0, Hid (((W.alloc (.cells c1 t1)).alloc (.cells c2 t2)).alloc (.cells c3 t3) = w0) ∧ Hid (w0.heap[W.heap.size]? = some (.cells c1 t1 (0, 0))) ∧ Hid (w0.heap[W.heap.size + 1]? = some (.cells c2 t2 (0, 0))) ∧ Hid (w0.heap[W.heap.size + 1 + 1]? = some (.cells c3 t3 (0, 0))) ∧ Hid (Below W.heap.size W w0) ∧ Hid (w0.heap.size = W.heap.size + 3) := by
  obtain ⟨w1, H1, H2, H3, H4⟩ := two_boxesS W c1 c2 t1 t2
  have hs : w1.heap.size = W.heap.size + 1 + 1 := by rw [← H1.out]; simp
  refine ⟨w1.alloc (.cells c3 t3), by show _ = _; rw [H1.out], blk_alloc H2.out, blk_alloc H3.out, ?_, H4.out.alloc H4.out.size _, by show _ = _; simp [hs]⟩
  have h := heap_alloc_new w1 (.cells c3 t3)
  rw [hs] at h
  exact h
/-- A right schema: all its parts. -/
theorem right_parts {t : Tr} (h : vldN t = 0) : inB t = true ∧ isRootB t = true ∧ shpT t = true ∧ nmsT t = true ∧ idsT t = true := by
  unfold vldN at h
  split at h
  · omega
  · rename_i h1
    split at h
    · omega
    · rename_i h2
      split at h
      · omega
      · rename_i h3
        simp only [not_or, Bool.not_eq_false] at h1 h2 h3
        exact ⟨h1, h2.1, h2.2, h3.1, h3.2⟩
theorem vldV_right {t : Tr} (eb es en : Value) (h : vldN t = 0) : vldV eb es en t = .nilIface := by
  obtain ⟨h1, h2, h3, h4, h5⟩ := right_parts h
  simp [vldV, h1, h2, h3, h4, h5]
theorem vldV_wrong {t : Tr} (eb es en : TypeId × Value) (h : vldN t ≠ 0) : ∃ ty v, vldV (.iface eb.1 eb.2) (.iface es.1 es.2) (.iface en.1 en.2) t = .iface ty v := by
  unfold vldN at h
  unfold vldV
  split
  · exact ⟨_, _, rfl⟩
  · rename_i h1
    rw [if_neg h1] at h
    split
    · exact ⟨_, _, rfl⟩
    · rename_i h2
      rw [if_neg h2] at h
      split
      · exact ⟨_, _, rfl⟩
      · rename_i h3
        rw [if_neg h3] at h
        exact absurd rfl h
/-- The three errors that Valid tells, in a world. -/
structure Er3 (W : World) (eb es en : TypeId × Value) : Prop where
  b : W.cell? ⟨0, 0, none⟩ = some (.iface eb.1 eb.2)
  s : W.cell? ⟨2, 0, none⟩ = some (.iface es.1 es.2)
  n : W.cell? ⟨3, 0, none⟩ = some (.iface en.1 en.2)
theorem Er3.keep {W w' : World} {eb es en : TypeId × Value} (h : Er3 W eb es en) (hb : Below W.heap.size W w') : Er3 w' eb es en :=
  ⟨(hb.cell (World.block_lt_of_cell? W _ h.b)).trans h.b, (hb.cell (World.block_lt_of_cell? W _ h.s)).trans h.s, (hb.cell (World.block_lt_of_cell? W _ h.n)).trans h.n⟩
end Go.Proofs.YtmfijliladancaaGreatDoor
