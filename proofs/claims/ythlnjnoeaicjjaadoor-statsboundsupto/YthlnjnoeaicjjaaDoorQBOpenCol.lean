/-
  Leaves, columns and slices of columns that came in: what they hold; that they read behind the call as they did before.
  The reference's OwnColumn, told of a column.
  The law's ownLeaf.
-/
import Derived.Test.YthlnjnoeaicjjaaDoorQBColO
import Derived.Test.YthlnjnoeaicjjaaDoorQOpenInts
import Derived.Test.YthlnjnoeaicjjaaDoorQBOpenVals
import Derived.Test.YthlnjnoeaicjjaaDoorQBColH
namespace Go.Proofs.YthlnjnoeaicjjaaDoor
open Go.ChangeShapes Go.WideShapes Go.ChangeAt Go.RowKit
theorem Tryd.cellsC : Tryd.prog.cellsOf 44 = 4 := by kernel_rfl
theorem Tryd.cellsLf : Tryd.prog.cellsOf 41 = 5 := by kernel_rfl
theorem Tryd.cellsIs : Tryd.prog.cellsOf 39 = 1 := by kernel_rfl
theorem Tryd.cellsVs : Tryd.prog.cellsOf 42 = 1 := by kernel_rfl
set_option maxRecDepth 100000 in
theorem ints_cells {H : Type} {enc : TypeId × Value → H} {W : World} {n : Nat} {cs : List Value} {x : DataW H × List MemPlace} (hf : DataW.trod enc Tryd.prog W 0 (fun _ => true) true n 39 cs = some x) :
    ∃ a c xs, cs = [.slice a (List.length xs) c] ∧ List.length xs ≤ maxLen ∧ Lies W a (i64s xs) := by
  rcases open_ints Tryd.underlying39 Tryd.underlying3 Tryd.cells3 hf with ⟨hcs, _⟩ | ⟨a, len, cap, zs, hcs, _, hl, hm, hz, _, hcell, hwz⟩
  · exact ⟨none, 0, [], hcs, Nat.zero_le _, fun j hj => absurd hj (by simp [i64s])⟩
  · simp only [if_true] at hz
    have hlz : (zs.take len).length = len := by simp; omega
    refine ⟨some a, cap, zs.take len, by rw [hlz]; exact hcs, by omega, fun j hj => ?_⟩
    rw [i64s_len, hlz] at hj
    have hc := hcell j (by omega)
    obtain ⟨b, off, spot⟩ := a
    have hspot : spot = none := by simpa [Addr.add] using World.cell?_spot (hcell 0 (by omega))
    subst hspot
    refine ⟨b, off, rfl, ?_⟩
    rw [addr_add] at hc
    rw [hc]
    have hjz : j < zs.length := by omega
    simp [i64s, List.getD, hjz]
set_option maxRecDepth 100000 in
theorem shut_column {H : Type} {enc : TypeId × Value → H} {W W' : World} {v : Value} {d : DataW H} {ps : List MemPlace} (h : DataW.Trod enc Tryd.prog W 0 (fun _ => true) true 44 v d ps) (hb : Below W.heap.size W W') (hlt : ∀ x ∈ ps, x.block < W.heap.size) :
    DataW.Trod enc Tryd.prog W' 0 (fun b => decide (b < W.heap.size)) true 44 v d ps :=
  Below.trod Tryd.laidV (by kernel_rfl) (of_decide_eq_true (by kernel_rfl)) h hb hlt
set_option maxRecDepth 100000 in
/-- What a leaf holds. -/
theorem open_leaf {H : Type} {enc : TypeId × Value → H} {W : World} {base : Nat} {v : Value} {d : DataW H} {ps : List MemPlace} (hv : Value.okWide Tryd.prog W .any base 41 v) (h : DataW.Trod enc Tryd.prog W 0 (fun _ => true) true 41 v d ps) :
    ∃ id kind mr md pa pc xs, v = .agg #[.int .i64 id, .int .i64 kind, .int .i64 mr, .int .i64 md, .slice pa (List.length xs) pc] ∧ List.length xs ≤ maxLen ∧ Lies W pa (i64s xs) := by
  obtain ⟨cs, rfl, _⟩ := okWide_struct Tryd.underlying41 hv
  obtain ⟨fuel, hf0⟩ := h
  obtain ⟨xs, m, _, _, hl, hlen, hf⟩ := DataW.trod_struct Tryd.underlying41 hf0
  rw [Tryd.cellsLf] at hl
  obtain ⟨cl, hcl⟩ : ∃ cl, (Value.agg cs).cells.toList = cl := ⟨_, rfl⟩
  have hcs : cs.toList = cl := hcl
  rw [hcl] at hl hf
  match cl, hl, hcs, hf with
  | [c0, c1, c2, c3, c4], _, hcs, hf =>
    match xs, hlen, hf with
    | [y0, y1, y2, y3, y4], _, hf =>
      have g0 := hf 0 _ rfl
      have g1 := hf 1 _ rfl
      have g2 := hf 2 _ rfl
      have g3 := hf 3 _ rfl
      have g4 := hf 4 _ rfl
      simp [Tryd.cellsI, Tryd.cellsIs] at g0 g1 g2 g3 g4
      obtain ⟨k0, e0, _, _⟩ := DataW.trod_int Tryd.underlying3 g0
      obtain ⟨k1, e1, _, _⟩ := DataW.trod_int Tryd.underlying3 g1
      obtain ⟨k2, e2, _, _⟩ := DataW.trod_int Tryd.underlying3 g2
      obtain ⟨k3, e3, _, _⟩ := DataW.trod_int Tryd.underlying3 g3
      obtain ⟨pa, pc, ys, e4, m4, l4⟩ := ints_cells g4
      simp at e0 e1 e2 e3 e4
      subst e0 e1 e2 e3 e4
      exact ⟨k0, k1, k2, k3, pa, pc, ys, by congr 1; exact Array.toList_inj.1 hcs, m4, l4⟩
set_option maxRecDepth 100000 in
theorem shut_leaf {H : Type} {enc : TypeId × Value → H} {W W' : World} {v : Value} {d : DataW H} {ps : List MemPlace} (h : DataW.Trod enc Tryd.prog W 0 (fun _ => true) true 41 v d ps) (hb : Below W.heap.size W W') (hlt : ∀ x ∈ ps, x.block < W.heap.size) :
    DataW.Trod enc Tryd.prog W' 0 (fun b => decide (b < W.heap.size)) true 41 v d ps :=
  Below.trod Tryd.laidV (by kernel_rfl) (of_decide_eq_true (by kernel_rfl)) h hb hlt
end Go.Proofs.YthlnjnoeaicjjaaDoor

namespace Go.Proofs.YthlnjnoeaicjjaaDoor
open Go.RowKit
/-- The same column, in rows with room. -/
structure SameC (c k : Cl) : Prop where
  id : k.id = c.id
  rs : k.rs = c.rs
  ds : k.ds = c.ds
  vs : k.vs = c.vs
  cap : k.rs.length ≤ k.rc ∧ k.ds.length ≤ k.dc ∧ k.vs.length ≤ k.vc
theorem ownColumn_cl (c : Cl) (W : World) (mr : c.rs.length ≤ 20000) (md : c.ds.length ≤ 20000) (mv : c.vs.length ≤ 20000) (h : c.At W) :
    Calls Tryd.prog 16 #[.agg #[.int .i64 c.id, .slice c.ra c.rs.length c.rc, .slice c.da c.ds.length c.dc, .slice c.va c.vs.length c.vc]] W fun e w' => (∃ k : Cl, e = .returned (.agg #[.int .i64 k.id, .slice k.ra k.rs.length k.rc, .slice k.da k.ds.length k.dc, .slice k.va k.vs.length k.vc]) ∧ k.At w' ∧ k.Fr W.heap.size ∧ SameC c k) ∧ Below W.heap.size W w' :=
  (ownColumn_any c.id c.ra c.da c.va c.rc c.dc c.vc c.rs c.ds c.vs W mr md mv h.r h.d h.v).mono fun e w' h => by
    obtain ⟨⟨ra, rc, da, dc, va, vc, rfl, h1, h2, h3, h4, h5, h6, h7⟩, hb⟩ := h
    exact ⟨⟨⟨c.id, ra, c.rs, rc, da, c.ds, dc, va, c.vs, vc⟩, rfl, ⟨h1, h2, h3⟩, ⟨h5, h6, h7⟩, rfl, rfl, rfl, rfl, h4⟩, hb⟩
end Go.Proofs.YthlnjnoeaicjjaaDoor

namespace Go.Proofs.YthlnjnoeaicjjaaDoor
open Go.RowKit
set_option maxRecDepth 100000 in
theorem ints_fresh (a : Option Addr) (c : Nat) (xs : List Int) (w : World) (hn : xs.length ≤ 20000) (h : Lies w a (i64s xs)) :
    Calls Tryd.prog 29 #[.slice a xs.length c] w fun e w' => (∃ a' c', e = .returned (.slice a' xs.length c') ∧ Lies w' a' (i64s xs) ∧ ∀ p, a' = some p → w.heap.size ≤ p.block) ∧ Below w.heap.size w w' := by
  have HL : Hid (Lies w a (i64s xs)) := h
  clear h
  go_enter Tryd.func29, Tryd.ntmps29
  go_wp2_with (at_builtin; refine wp_app0I _ rfl _ _ rfl rfl a xs c rfl rfl HL.out hn ?_; intro a1 c1 w1 hl1 hb1 hf1)
  go_ret
  exact ⟨⟨a1, c1, rfl, hl1, hf1.1⟩, hb1⟩
set_option maxRecDepth 100000 in
set_option maxHeartbeats 3200000 in
theorem ownLeaf_any (id kind mr md : Int) (pa : Option Addr) (pc : Nat) (ps : List Int) (W : World) (hn : ps.length ≤ 20000) (hp : Lies W pa (i64s ps)) :
    Calls Tryd.prog 15 #[.agg #[.int .i64 id, .int .i64 kind, .int .i64 mr, .int .i64 md, .slice pa ps.length pc]] W fun e w' => (∃ pa' pc', e = .returned (leafV id kind mr md pa' ps.length pc') ∧ Lies w' pa' (i64s ps)) ∧ Below W.heap.size W w' := by
  have b0 : Below W.heap.size W ((W.alloc (.cells #[.int .i64 id, .int .i64 kind, .int .i64 mr, .int .i64 md, .slice pa ps.length pc] 41)).alloc (.cells #[.int .i64 0, .int .i64 0, .int .i64 0, .int .i64 0, .slice none 0 0] 48)) := ((Below.refl _ _).alloc (Nat.le_refl _) _).alloc (by simp) _
  have HZ : Hid (((W.alloc (.cells #[.int .i64 id, .int .i64 kind, .int .i64 mr, .int .i64 md, .slice pa ps.length pc] 41)).alloc (.cells #[.int .i64 0, .int .i64 0, .int .i64 0, .int .i64 0, .slice none 0 0] 48)).heap[W.heap.size + 1]? = some (.cells #[.int .i64 0, .int .i64 0, .int .i64 0, .int .i64 0, .slice none 0 0] 48 (0, 0))) := (by
    have h := heap_alloc_new (W.alloc (.cells #[.int .i64 id, .int .i64 kind, .int .i64 mr, .int .i64 md, .slice pa ps.length pc] 41)) (.cells #[.int .i64 0, .int .i64 0, .int .i64 0, .int .i64 0, .slice none 0 0] 48)
    rwa [show (W.alloc (.cells #[.int .i64 id, .int .i64 kind, .int .i64 mr, .int .i64 md, .slice pa ps.length pc] 41)).heap.size = W.heap.size + 1 by simp] at h)
  have HP : Hid (((W.alloc (.cells #[.int .i64 id, .int .i64 kind, .int .i64 mr, .int .i64 md, .slice pa ps.length pc] 41)).alloc (.cells #[.int .i64 0, .int .i64 0, .int .i64 0, .int .i64 0, .slice none 0 0] 48)).heap[W.heap.size]? = some (.cells #[.int .i64 id, .int .i64 kind, .int .i64 mr, .int .i64 md, .slice pa ps.length pc] 41 (0, 0))) := blk_alloc (heap_alloc_new W _)
  have HL : Hid (Lies ((W.alloc (.cells #[.int .i64 id, .int .i64 kind, .int .i64 mr, .int .i64 md, .slice pa ps.length pc] 41)).alloc (.cells #[.int .i64 0, .int .i64 0, .int .i64 0, .int .i64 0, .slice none 0 0] 48)) pa (i64s ps)) := hp.keep b0
  have HB : Hid _ := b0
  clear hp b0
  unfold leafV
  go_enter Tryd.func15, Tryd.ntmps15
  go_wp2
  generalize ((W.alloc (.cells #[.int .i64 id, .int .i64 kind, .int .i64 mr, .int .i64 md, .slice pa ps.length pc] 41)).alloc (.cells #[.int .i64 0, .int .i64 0, .int .i64 0, .int .i64 0, .slice none 0 0] 48)) = w0 at *
  have b10 : Below (W.heap.size + 1) w0 w0 := Below.refl _ _
  have hsz : W.heap.size + 1 ≤ w0.heap.size := Nat.le_of_lt (lt_of_block HZ.out)
  have HN : Hid (∀ X, Below (W.heap.size + 1) w0 X → (X.cell? ⟨W.heap.size, 0, none⟩ = some (.int .i64 id) ∧ X.cell? ⟨W.heap.size, 1, none⟩ = some (.int .i64 kind) ∧ X.cell? ⟨W.heap.size, 2, none⟩ = some (.int .i64 mr) ∧ X.cell? ⟨W.heap.size, 3, none⟩ = some (.int .i64 md) ∧ X.cell? ⟨W.heap.size, 4, none⟩ = some (.slice pa ps.length pc)) ∧ Below (W.heap.size + 1) w0 X) := fun X hX => ⟨(row_five ((hX.block W.heap.size (by omega)).trans HP.out)).1, hX⟩
  obtain ⟨⟨p0, p1, p2, p3, p4⟩, _⟩ := row_five HP.out
  obtain ⟨⟨z0, z1, z2, z3, z4⟩, y0, y1, y2, y3, y4⟩ := row_five HZ.out
  go_region_held3 (fun X => (X.cell? ⟨W.heap.size, 0, none⟩ = some (.int .i64 id) ∧ X.cell? ⟨W.heap.size, 1, none⟩ = some (.int .i64 kind) ∧ X.cell? ⟨W.heap.size, 2, none⟩ = some (.int .i64 mr) ∧ X.cell? ⟨W.heap.size, 3, none⟩ = some (.int .i64 md) ∧ X.cell? ⟨W.heap.size, 4, none⟩ = some (.slice pa ps.length pc)) ∧ Below (W.heap.size + 1) w0 X) (first | (with_reducible refine HN.out _ ?_; repeat' (first | with_reducible assumption | with_reducible exact b10.drew | with_reducible exact b10 | with_reducible exact hbb.mono hsz | with_reducible refine Below.setCell ?_ ?_ _ | (simp; done)))) (first | (go_at_call 29; refine (ints_fresh pa pc ps _ hn (HL.out.keep (Below.refl _ _).drew)).mono ?_; rintro e w1 ⟨⟨a1, c1, rfl, hl1, hf1⟩, hb1⟩; have hbb : Below w0.heap.size w0 w1 := (Below.refl _ _).drew.trans hb1; have HL1 : Hid (Lies w1 a1 (i64s ps)) := hl1; have HBB : Hid (Below w0.heap.size w0 w1) := hbb; obtain ⟨⟨x0, x1, x2, x3, x4⟩, v0, v1, v2, v3, v4⟩ := row_five (blk_keep hbb HZ.out); have HF : Hid (∀ p, a1 = some p → w0.drew.heap.size ≤ p.block) := hf1; clear hl1 hb1 hf1))
  all_goals
    go_wp2
    have f1 : ∀ p, a1 = some p → W.heap.size + 1 < p.block := fun p hp => by have := HF.out p hp; have h2 := lt_of_block HZ.out; simp at this; omega
    exact bodyPost_ret (v := .agg #[.int .i64 id, .int .i64 kind, .int .i64 mr, .int .i64 md, .slice a1 ps.length c1]) (results_cell_row Tryd.results15 _ _ (W.heap.size + 1) 48 #[.int .i64 id, .int .i64 kind, .int .i64 mr, .int .i64 md, .slice a1 ps.length c1] (0, 0) _ rfl (row_setCell (row_setCell (row_setCell (row_setCell (row_setCell (blk_keep HBB.out HZ.out) _) _) _) _) _) Tryd.underlying48 rfl (by kernel_rfl)) rfl ⟨⟨a1, c1, rfl, ((((HL1.out.off f1).off f1).off f1).off f1).off f1⟩, (((((HB.out.trans (HBB.out.mono HB.out.size)).setCell (by simp) _).setCell (by simp) _).setCell (by simp) _).setCell (by simp) _).setCell (by simp) _⟩
end Go.Proofs.YthlnjnoeaicjjaaDoor
