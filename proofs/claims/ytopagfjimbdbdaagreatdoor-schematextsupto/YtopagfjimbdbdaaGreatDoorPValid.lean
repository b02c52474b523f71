/-
  schema.Valid: exact: which error, or none.
-/
import Derived.Test.YtopagfjimbdbdaaGreatDoorPIds
namespace Go.Proofs.YtopagfjimbdbdaaGreatDoor
open Go.RowKit
/-- A schema's error: 0: none; 1: bound, 2: shape, 4: name (places of the listed errors). -/
def vldN (t : Tr) : Nat := if inB t = false then 1 else if isRootB t = false ∨ shpT t = false then 2 else if nmsT t = false ∨ idsT t = false then 4 else 0
/-- .. as a value. -/
def vldV (eb es en : Value) (t : Tr) : Value := if inB t = false then eb else if isRootB t = false ∨ shpT t = false then es else if nmsT t = false ∨ idsT t = false then en else .nilIface
set_option maxRecDepth 100000 in
set_option maxHeartbeats 1600000 in
theorem valid_any (t : Tr) (n : Nat) (hd : t.Dp n) (hn : n ≤ 1100000) (hs : t.Sm) (a : Option Addr) (c : Nat) (P : Nat → Prop) (W : World) (hl : LiesN W P a t.sub) (hcap : t.sub.length ≤ c) (eb es en : TypeId × Value)
    (hgb : W.cell? ⟨0, 0, none⟩ = some (.iface eb.1 eb.2)) (hgs : W.cell? ⟨1, 0, none⟩ = some (.iface es.1 es.2)) (hgn : W.cell? ⟨2, 0, none⟩ = some (.iface en.1 en.2)) :
    Calls Tryz.prog 10 #[nodeV t a c] W fun e w' => e = .returned (vldV (.iface eb.1 eb.2) (.iface es.1 es.2) (.iface en.1 en.2) t) ∧ Below W.heap.size W w' := by
  have hb : Below W.heap.size W (W.alloc (.cells #[.int .i64 t.id, .string t.nm, .int .i64 t.rep, .int .i64 t.kind, .slice a t.sub.length c] 24)) := (Below.refl _ _).alloc (Nat.le_refl _) _
  have HX : Hid ((W.alloc (.cells #[.int .i64 t.id, .string t.nm, .int .i64 t.rep, .int .i64 t.kind, .slice a t.sub.length c] 24)).heap[W.heap.size]? = some (.cells #[.int .i64 t.id, .string t.nm, .int .i64 t.rep, .int .i64 t.kind, .slice a t.sub.length c] 24 (0, 0))) := heap_alloc_new W _
  have HL : Hid (LiesN W P a t.sub) := hl
  have HGb : Hid _ := hgb
  have HGs : Hid _ := hgs
  have HGn : Hid _ := hgn
  have HD : Hid _ := hd
  have HSm : Hid _ := hs
  have HB : Hid _ := hb
  obtain ⟨b1, H1⟩ : ∃ b1, Hid (inB t = b1) := ⟨_, rfl⟩
  obtain ⟨b2, H2⟩ : ∃ b2, Hid (isRootB t = b2) := ⟨_, rfl⟩
  obtain ⟨b3, H3⟩ : ∃ b3, Hid (shpT t = b3) := ⟨_, rfl⟩
  obtain ⟨b4, H4⟩ : ∃ b4, Hid (nmsT t = b4) := ⟨_, rfl⟩
  obtain ⟨b5, H5⟩ : ∃ b5, Hid (idsT t = b5) := ⟨_, rfl⟩
  clear hl hd hs hb hgb hgs hgn
  go_enter Tryz.func10, Tryz.ntmps10
  go_wp2_with fail
  refine (inBounds_any t n HD.out hn HSm.out a c P _ (HL.out.keep HB.out) hcap).mono ?_
  rw [H1.out]
  rintro e w1 ⟨rfl, hb1⟩
  have HB1 : Hid (Below W.heap.size W w1) := HB.out.trans (hb1.mono HB.out.size)
  have HX1 : Hid (w1.heap[W.heap.size]? = some (.cells #[.int .i64 t.id, .string t.nm, .int .i64 t.rep, .int .i64 t.kind, .slice a t.sub.length c] 24 (0, 0))) := blk_keep hb1 HX.out
  clear hb1
  cases b1 with
  | false =>
    have hgb := (HB1.out.cell (World.block_lt_of_cell? W _ HGb.out)).trans HGb.out
    go_wp2
    go_ret
    exact ⟨by rw [vldV, if_pos H1.out]; rfl, HB1.out⟩
  | true =>
    obtain ⟨⟨p0, p1, p2, p3, p4⟩, _⟩ := row_five HX1.out
    go_wp2_with fail
    refine (isRoot_any t a c _).mono ?_
    rw [H2.out]
    rintro e w2 ⟨rfl, hb2⟩
    have HB2 : Hid (Below W.heap.size W w2) := HB1.out.trans (hb2.mono HB1.out.size)
    have HX2 : Hid (w2.heap[W.heap.size]? = some (.cells #[.int .i64 t.id, .string t.nm, .int .i64 t.rep, .int .i64 t.kind, .slice a t.sub.length c] 24 (0, 0))) := blk_keep hb2 HX1.out
    clear hb2 p0 p1 p2 p3 p4
    obtain ⟨⟨p0, p1, p2, p3, p4⟩, _⟩ := row_five HX2.out
    cases b2 with
    | false =>
      have hgs := (HB2.out.cell (World.block_lt_of_cell? W _ HGs.out)).trans HGs.out
      go_wp2
      go_ret
      exact ⟨by rw [vldV, if_neg (by rw [H1.out]; simp), if_pos (.inl H2.out)]; rfl, HB2.out⟩
    | true =>
      go_wp2_with fail
      refine (shapes_any t n HD.out hn HSm.out a c P _ (HL.out.keep HB2.out) hcap).mono ?_
      rw [H3.out]
      rintro e w3 ⟨rfl, hb3⟩
      have HB3 : Hid (Below W.heap.size W w3) := HB2.out.trans (hb3.mono HB2.out.size)
      have HX3 : Hid (w3.heap[W.heap.size]? = some (.cells #[.int .i64 t.id, .string t.nm, .int .i64 t.rep, .int .i64 t.kind, .slice a t.sub.length c] 24 (0, 0))) := blk_keep hb3 HX2.out
      clear hb3 p0 p1 p2 p3 p4
      obtain ⟨⟨p0, p1, p2, p3, p4⟩, _⟩ := row_five HX3.out
      cases b3 with
      | false =>
        have hgs := (HB3.out.cell (World.block_lt_of_cell? W _ HGs.out)).trans HGs.out
        go_wp2
        go_ret
        exact ⟨by rw [vldV, if_neg (by rw [H1.out]; simp), if_pos (.inr H3.out)]; rfl, HB3.out⟩
      | true =>
        go_wp2_with fail
        refine (names_any t n HD.out hn HSm.out a c P _ (HL.out.keep HB3.out) hcap).mono ?_
        rw [H4.out]
        rintro e w4 ⟨rfl, hb4⟩
        have HB4 : Hid (Below W.heap.size W w4) := HB3.out.trans (hb4.mono HB3.out.size)
        have HX4 : Hid (w4.heap[W.heap.size]? = some (.cells #[.int .i64 t.id, .string t.nm, .int .i64 t.rep, .int .i64 t.kind, .slice a t.sub.length c] 24 (0, 0))) := blk_keep hb4 HX3.out
        clear hb4 p0 p1 p2 p3 p4
        obtain ⟨⟨p0, p1, p2, p3, p4⟩, _⟩ := row_five HX4.out
        cases b4 with
        | false =>
          have hgn := (HB4.out.cell (World.block_lt_of_cell? W _ HGn.out)).trans HGn.out
          go_wp2
          go_ret
          exact ⟨by rw [vldV, if_neg (by rw [H1.out]; simp), if_neg (by rw [H2.out, H3.out]; simp), if_pos (.inl H4.out)]; rfl, HB4.out⟩
        | true =>
          go_wp2_with fail
          refine (ids_any t n HD.out hn HSm.out a c P _ (HL.out.keep HB4.out) hcap).mono ?_
          rw [H5.out]
          rintro e w5 ⟨rfl, hb5⟩
          have HB5 : Hid (Below W.heap.size W w5) := HB4.out.trans (hb5.mono HB4.out.size)
          clear hb5 p0 p1 p2 p3 p4
          cases b5 with
          | false =>
            have hgn := (HB5.out.cell (World.block_lt_of_cell? W _ HGn.out)).trans HGn.out
            go_wp2
            go_ret
            exact ⟨by rw [vldV, if_neg (by rw [H1.out]; simp), if_neg (by rw [H2.out, H3.out]; simp), if_pos (.inr H5.out)]; rfl, HB5.out⟩
          | true =>
            go_wp2
            go_ret
            exact ⟨by rw [vldV, if_neg (by rw [H1.out]; simp), if_neg (by rw [H2.out, H3.out]; simp), if_neg (by rw [H4.out, H5.out]; simp)]; rfl, HB5.out⟩
theorem vldV_nil {eb es en : Value} {t : Tr} (hr : vldN t = 0) : vldV eb es en t = .nilIface := by
  unfold vldN at hr
  unfold vldV
  split at hr
  · omega
  · rename_i h1
    rw [if_neg h1]
    split at hr
    · omega
    · rename_i h2
      rw [if_neg h2]
      split at hr
      · omega
      · rename_i h3
        rw [if_neg h3]
end Go.Proofs.YtopagfjimbdbdaaGreatDoor
