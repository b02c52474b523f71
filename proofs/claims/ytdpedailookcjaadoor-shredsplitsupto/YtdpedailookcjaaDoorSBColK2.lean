/-
  What Shred leaves, as columns that lie somewhere.
  The law's ownLeaf.
-/
import Derived.Test.YtdpedailookcjaaDoorSBColDf
import Derived.Test.YtdpedailookcjaaDoorSBColO
import Derived.Test.YtdpedailookcjaaDoorSLvX
import Derived.Test.YtdpedailookcjaaDoorSBSmall
import Derived.Test.YtdpedailookcjaaDoorSBColH
namespace Go.Proofs.YtdpedailookcjaaDoor
open Go.RowKit
instance : Inhabited Cl := ⟨⟨0, none, [], 0, none, [], 0, none, [], 0⟩⟩
/-- A column of a place, told as rows. -/
theorem ColQ.cl {W : World} {N : Nat} {c : Col} {q : Value × Value × Value} (h : ColQ W N c q) : ∃ k : Cl, k.id = c.id ∧ k.rs = c.reps ∧ k.ds = c.defs ∧ k.vs = c.vals ∧ k.Cap ∧ k.At W ∧ q = (.slice k.ra k.rs.length k.rc, .slice k.da k.ds.length k.dc, .slice k.va k.vs.length k.vc) := by
  obtain ⟨hr, hd, hv⟩ := h
  obtain ⟨q1, q2, q3⟩ := q
  obtain ⟨ra, rc, rfl⟩ := own_sl hr
  obtain ⟨da, dc, rfl⟩ := own_sl hd
  obtain ⟨va', vc', e, hlv⟩ := liesV_own hv
  have e' : q3 = .slice va' c.vals.length vc' := e
  subst e'
  exact ⟨⟨c.id, ra, c.reps, rc, da, c.defs, dc, va', c.vals, vc'⟩, rfl, rfl, rfl, rfl, ⟨(own_cap hr).2, (own_cap hd).2, (own_cap hv).2⟩, ⟨own_liesX hr, own_liesX hd, hlv⟩, rfl⟩
theorem zip4_at : ∀ (cs : List Col) (qs : List (Value × Value × Value)) (j i : Nat), qs.length = cs.length → i < 4 → ∀ (h : j < cs.length) (h' : j < qs.length), ((List.zipWith colC cs qs).flatten)[j * 4 + i]? = (colC cs[j] qs[j])[i]?
  | [], _, j, _, _, _, h, _ => by simp at h
  | _ :: _, [], j, _, _, _, _, h' => by simp at h'
  | c :: cs, q :: qs, 0, i, _, hi, _, _ => by
    rw [List.zipWith_cons_cons, List.flatten_cons, List.getElem?_append_left (by simp [colC]; omega)]
    simp
  | c :: cs, q :: qs, j + 1, i, hl, hi, h, h' => by
    rw [List.zipWith_cons_cons, List.flatten_cons, List.getElem?_append_right (by simp [colC]; omega), show (j + 1) * 4 + i - (colC c q).length = j * 4 + i by simp [colC]; omega]
    simpa using zip4_at cs qs j i (by simpa using hl) hi (by simpa using h) (by simpa using h')
/-- All columns, told as rows. -/
theorem ColR.cls {W : World} {N : Nat} {ov : Value} {cs : List Col} (h : ColR W N ov cs) : ∃ (a : Option Addr) (c : Nat) (ks : List Cl), ks.length = cs.length ∧ ov = .slice a ks.length c ∧ LiesC W a ks ∧ ∀ j (h : j < ks.length) (h' : j < cs.length), ks[j].id = cs[j].id ∧ ks[j].rs = cs[j].reps ∧ ks[j].ds = cs[j].defs ∧ ks[j].vs = cs[j].vals ∧ ks[j].Cap := by
  obtain ⟨qs, hl, hr, hq⟩ := h
  have each : ∀ i, i < cs.length → ∃ k : Cl, (∀ (h : i < cs.length) (h' : i < qs.length), (k.id = cs[i].id ∧ k.rs = cs[i].reps ∧ k.ds = cs[i].defs ∧ k.vs = cs[i].vals ∧ k.Cap) ∧ k.At W ∧ qs[i] = (.slice k.ra k.rs.length k.rc, .slice k.da k.ds.length k.dc, .slice k.va k.vs.length k.vc)) := fun i hi => by
    obtain ⟨k, h0, h1, h2, h3, h4, h5, h6⟩ := (hq i hi (by omega)).cl
    exact ⟨k, fun _ _ => ⟨⟨h0, h1, h2, h3, h4⟩, h5, h6⟩⟩
  obtain ⟨f, hf⟩ := Deep.choose_lt each
  obtain ⟨a, c, e⟩ := own_sl hr
  refine ⟨a, c, (List.range cs.length).map f, by simp, by rw [e]; simp, fun j hj => ?_, fun j hj hj' => ?_⟩
  · have hj2 : j < cs.length := by simpa using hj
    obtain ⟨⟨h0, _⟩, h1, h2⟩ := hf j hj2 hj2 (by omega)
    have ek : ((List.range cs.length).map f)[j] = f j := by simp
    rw [ek]
    refine ⟨?_, h1⟩
    rcases hr.2 with ⟨_, hz⟩ | ⟨g, cap, cur, hv, rest⟩
    · omega
    · rw [e] at hv
      injection hv with ha _ _
      have hc : ∀ i u, (colC cs[j] (qs[j]'(by omega)))[i]? = some u → i < 4 → W.cell? ⟨g, 0 + j * 4 + i, none⟩ = some u := fun i u hu hi => by
        have h1 := hr.cells (g := g) (by rw [e, ha]; rfl) (j * 4 + i) u (by rw [zip4_at cs qs j i hl hi hj2 (by omega)]; exact hu)
        rw [addr_plus] at h1
        rw [Nat.add_assoc]
        exact h1
      rw [h2] at hc
      have c0 := hc 0 _ rfl (by omega)
      have c1 := hc 1 _ rfl (by omega)
      have c2 := hc 2 _ rfl (by omega)
      have c3 := hc 3 _ rfl (by omega)
      rw [← h0] at c0
      exact ⟨g, 0, ha, c0, c1, c2, c3⟩
  · have hj2 : j < cs.length := by simpa using hj
    have ek : ((List.range cs.length).map f)[j] = f j := by simp
    rw [ek]
    exact (hf j hj2 hj2 (by omega)).1
end Go.Proofs.YtdpedailookcjaaDoor

namespace Go.Proofs.YtdpedailookcjaaDoor
open Go.RowKit
set_option maxRecDepth 100000 in
theorem ints_fresh (a : Option Addr) (c : Nat) (xs : List Int) (w : World) (hn : xs.length ≤ 20000) (h : Lies w a (i64s xs)) :
    Calls Tryd.prog 27 #[.slice a xs.length c] w fun e w' => (∃ a' c', e = .returned (.slice a' xs.length c') ∧ Lies w' a' (i64s xs) ∧ ∀ p, a' = some p → w.heap.size ≤ p.block) ∧ Below w.heap.size w w' := by
  have HL : Hid (Lies w a (i64s xs)) := h
  clear h
  go_enter Tryd.func27, Tryd.ntmps27
  go_wp2_with (at_builtin; refine wp_app0I _ rfl _ _ rfl rfl a xs c rfl rfl HL.out hn ?_; intro a1 c1 w1 hl1 hb1 hf1)
  go_ret
  exact ⟨⟨a1, c1, rfl, hl1, hf1.1⟩, hb1⟩
set_option maxRecDepth 100000 in
set_option maxHeartbeats 3200000 in
theorem ownLeaf_any (id kind mr md : Int) (pa : Option Addr) (pc : Nat) (ps : List Int) (W : World) (hn : ps.length ≤ 20000) (hp : Lies W pa (i64s ps)) :
    Calls Tryd.prog 12 #[.agg #[.int .i64 id, .int .i64 kind, .int .i64 mr, .int .i64 md, .slice pa ps.length pc]] W fun e w' => (∃ pa' pc', e = .returned (leafV id kind mr md pa' ps.length pc') ∧ Lies w' pa' (i64s ps)) ∧ Below W.heap.size W w' := by
  have b0 : Below W.heap.size W ((W.alloc (.cells #[.int .i64 id, .int .i64 kind, .int .i64 mr, .int .i64 md, .slice pa ps.length pc] 47)).alloc (.cells #[.int .i64 0, .int .i64 0, .int .i64 0, .int .i64 0, .slice none 0 0] 45)) := ((Below.refl _ _).alloc (Nat.le_refl _) _).alloc (by simp) _
  have HZ : Hid (((W.alloc (.cells #[.int .i64 id, .int .i64 kind, .int .i64 mr, .int .i64 md, .slice pa ps.length pc] 47)).alloc (.cells #[.int .i64 0, .int .i64 0, .int .i64 0, .int .i64 0, .slice none 0 0] 45)).heap[W.heap.size + 1]? = some (.cells #[.int .i64 0, .int .i64 0, .int .i64 0, .int .i64 0, .slice none 0 0] 45 (0, 0))) := (by
    have h := heap_alloc_new (W.alloc (.cells #[.int .i64 id, .int .i64 kind, .int .i64 mr, .int .i64 md, .slice pa ps.length pc] 47)) (.cells #[.int .i64 0, .int .i64 0, .int .i64 0, .int .i64 0, .slice none 0 0] 45)
    rwa [show (W.alloc (.cells #[.int .i64 id, .int .i64 kind, .int .i64 mr, .int .i64 md, .slice pa ps.length pc] 47)).heap.size = W.heap.size + 1 by simp] at h)
  have HP : Hid (((W.alloc (.cells #[.int .i64 id, .int .i64 kind, .int .i64 mr, .int .i64 md, .slice pa ps.length pc] 47)).alloc (.cells #[.int .i64 0, .int .i64 0, .int .i64 0, .int .i64 0, .slice none 0 0] 45)).heap[W.heap.size]? = some (.cells #[.int .i64 id, .int .i64 kind, .int .i64 mr, .int .i64 md, .slice pa ps.length pc] 47 (0, 0))) := blk_alloc (heap_alloc_new W _)
  have HL : Hid (Lies ((W.alloc (.cells #[.int .i64 id, .int .i64 kind, .int .i64 mr, .int .i64 md, .slice pa ps.length pc] 47)).alloc (.cells #[.int .i64 0, .int .i64 0, .int .i64 0, .int .i64 0, .slice none 0 0] 45)) pa (i64s ps)) := hp.keep b0
  have HB : Hid _ := b0
  clear hp b0
  unfold leafV
  go_enter Tryd.func12, Tryd.ntmps12
  go_wp2
  generalize ((W.alloc (.cells #[.int .i64 id, .int .i64 kind, .int .i64 mr, .int .i64 md, .slice pa ps.length pc] 47)).alloc (.cells #[.int .i64 0, .int .i64 0, .int .i64 0, .int .i64 0, .slice none 0 0] 45)) = w0 at *
  have b10 : Below (W.heap.size + 1) w0 w0 := Below.refl _ _
  have hsz : W.heap.size + 1 ≤ w0.heap.size := Nat.le_of_lt (lt_of_block HZ.out)
  have HN : Hid (∀ X, Below (W.heap.size + 1) w0 X → (X.cell? ⟨W.heap.size, 0, none⟩ = some (.int .i64 id) ∧ X.cell? ⟨W.heap.size, 1, none⟩ = some (.int .i64 kind) ∧ X.cell? ⟨W.heap.size, 2, none⟩ = some (.int .i64 mr) ∧ X.cell? ⟨W.heap.size, 3, none⟩ = some (.int .i64 md) ∧ X.cell? ⟨W.heap.size, 4, none⟩ = some (.slice pa ps.length pc)) ∧ Below (W.heap.size + 1) w0 X) := fun X hX => ⟨(row_five ((hX.block W.heap.size (by omega)).trans HP.out)).1, hX⟩
  obtain ⟨⟨p0, p1, p2, p3, p4⟩, _⟩ := row_five HP.out
  obtain ⟨⟨z0, z1, z2, z3, z4⟩, y0, y1, y2, y3, y4⟩ := row_five HZ.out
  go_region_held3 (fun X => (X.cell? ⟨W.heap.size, 0, none⟩ = some (.int .i64 id) ∧ X.cell? ⟨W.heap.size, 1, none⟩ = some (.int .i64 kind) ∧ X.cell? ⟨W.heap.size, 2, none⟩ = some (.int .i64 mr) ∧ X.cell? ⟨W.heap.size, 3, none⟩ = some (.int .i64 md) ∧ X.cell? ⟨W.heap.size, 4, none⟩ = some (.slice pa ps.length pc)) ∧ Below (W.heap.size + 1) w0 X) (first | (with_reducible refine HN.out _ ?_; repeat' (first | with_reducible assumption | with_reducible exact b10.drew | with_reducible exact b10 | with_reducible exact hbb.mono hsz | with_reducible refine Below.setCell ?_ ?_ _ | (simp; done)))) (first | (go_at_call 27; refine (ints_fresh pa pc ps _ hn (HL.out.keep (Below.refl _ _).drew)).mono ?_; rintro e w1 ⟨⟨a1, c1, rfl, hl1, hf1⟩, hb1⟩; have hbb : Below w0.heap.size w0 w1 := (Below.refl _ _).drew.trans hb1; have HL1 : Hid (Lies w1 a1 (i64s ps)) := hl1; have HBB : Hid (Below w0.heap.size w0 w1) := hbb; obtain ⟨⟨x0, x1, x2, x3, x4⟩, v0, v1, v2, v3, v4⟩ := row_five (blk_keep hbb HZ.out); have HF : Hid (∀ p, a1 = some p → w0.drew.heap.size ≤ p.block) := hf1; clear hl1 hb1 hf1))
  all_goals
    go_wp2
    have f1 : ∀ p, a1 = some p → W.heap.size + 1 < p.block := fun p hp => by have := HF.out p hp; have h2 := lt_of_block HZ.out; simp at this; omega
    exact bodyPost_ret (v := .agg #[.int .i64 id, .int .i64 kind, .int .i64 mr, .int .i64 md, .slice a1 ps.length c1]) (results_cell_row Tryd.results12 _ _ (W.heap.size + 1) 45 #[.int .i64 id, .int .i64 kind, .int .i64 mr, .int .i64 md, .slice a1 ps.length c1] (0, 0) _ rfl (row_setCell (row_setCell (row_setCell (row_setCell (row_setCell (blk_keep HBB.out HZ.out) _) _) _) _) _) Tryd.underlying45 rfl (by kernel_rfl)) rfl ⟨⟨a1, c1, rfl, ((((HL1.out.off f1).off f1).off f1).off f1).off f1⟩, (((((HB.out.trans (HBB.out.mono HB.out.size)).setCell (by simp) _).setCell (by simp) _).setCell (by simp) _).setCell (by simp) _).setCell (by simp) _⟩
end Go.Proofs.YtdpedailookcjaaDoor
