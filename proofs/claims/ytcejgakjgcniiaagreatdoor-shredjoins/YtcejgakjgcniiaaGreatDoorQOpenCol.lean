/-
  Leaves, columns and slices of columns that came in: what they hold; that they read behind the call as they did before.
-/
import Derived.Test.YtcejgakjgcniiaaGreatDoorQBColJ
import Derived.Test.YtcejgakjgcniiaaGreatDoorQOpenInts
import Derived.Test.YtcejgakjgcniiaaGreatDoorQBOpenVals
namespace Go.Proofs.YtcejgakjgcniiaaGreatDoor
open Go.ChangeShapes Go.WideShapes Go.ChangeAt Go.RowKit
theorem Tryz.cellsC : Tryz.prog.cellsOf 27 = 4 := by kernel_rfl
theorem Tryz.cellsLf : Tryz.prog.cellsOf 24 = 5 := by kernel_rfl
theorem Tryz.cellsIs : Tryz.prog.cellsOf 22 = 1 := by kernel_rfl
theorem Tryz.cellsVs : Tryz.prog.cellsOf 25 = 1 := by kernel_rfl
set_option maxRecDepth 100000 in
theorem ints_cells {H : Type} {enc : TypeId × Value → H} {W : World} {n : Nat} {cs : List Value} {x : DataW H × List MemPlace} (hf : DataW.trod enc Tryz.prog W 0 (fun _ => true) true n 22 cs = some x) :
    ∃ a c xs, cs = [.slice a (List.length xs) c] ∧ List.length xs ≤ maxLen ∧ Lies W a (i64s xs) := by
  rcases open_ints Tryz.underlying22 Tryz.underlying3 Tryz.cells3 hf with ⟨hcs, _⟩ | ⟨a, len, cap, zs, hcs, _, hl, hm, hz, _, hcell, hwz⟩
  · exact ⟨none, 0, [], hcs, Nat.zero_le _, fun j hj => absurd hj (by simp [i64s])⟩
  · simp only [if_true] at hz
    have hlz : (zs.take len).length = len := by simp; omega
    refine ⟨some a, cap, zs.take len, by rw [hlz]; exact hcs, by omega, fun j hj => ?_⟩
    rw [i64s_len, hlz] at hj
    have hc := hcell j (by omega)
    obtain ⟨b, off, spot⟩ := a
    have hspot : spot = none := by simpa [Addr.add] using World.cell?_spot (hcell 0 (by omega))
    subst hspot
    refine ⟨b, off, rfl, ?_⟩
    rw [addr_add] at hc
    rw [hc]
    have hjz : j < zs.length := by omega
    simp [i64s, List.getD, hjz]
set_option maxRecDepth 100000 in
theorem vals_cells {H : Type} {enc : TypeId × Value → H} {W : World} {n : Nat} {cs : List Value} {x : DataW H × List MemPlace} (hf : DataW.trod enc Tryz.prog W 0 (fun _ => true) true n 25 cs = some x) :
    ∃ a c vs, cs = [.slice a (List.length vs) c] ∧ List.length vs ≤ maxLen ∧ LiesV W a vs := by
  rcases Deep.open_slice Tryz.underlying25 hf with ⟨hcs, _⟩ | ⟨a, len, cap, m, n, D, Pl, hcs, _, hl, hm, hmm, _, hx⟩
  · exact ⟨none, 0, [], hcs, Nat.zero_le _, fun j hj => absurd hj (by simp)⟩
  · simp only [if_true] at hmm
    subst hmm
    have each : ∀ i, i < len → ∃ x : Vl, (W.cell? (a.add (i * 3)) = some (.int .i64 x.k) ∧ W.cell? ((a.add (i * 3)).add 1) = some (.int .i64 x.n) ∧ W.cell? ((a.add (i * 3)).add 2) = some (.string x.s)) := fun i hi => by
      obtain ⟨cs', h1, h2⟩ := hx i (by omega)
      rw [Tryz.cellsV] at h1
      obtain ⟨x, rfl, hin⟩ := val_cells h2
      obtain ⟨_, _, hcell⟩ := World.cells?_some h1
      have e0 := hcell 0 (by omega)
      have e1 := hcell 1 (by omega)
      have e2 := hcell 2 (by omega)
      have z : (a.add (i * 3)).add 0 = a.add (i * 3) := by unfold Addr.add; simp
      rw [z] at e0
      exact ⟨x, by simpa using e0, by simpa using e1, by simpa using e2⟩
    have : Inhabited Vl := ⟨⟨0, 0, ⟨#[]⟩⟩⟩
    obtain ⟨f, hfx⟩ := Deep.choose_lt each
    refine ⟨some a, m, (List.range len).map f, by rw [hcs]; simp, by simp; omega, fun j hj => ?_⟩
    have hj' : j < len := by simpa using hj
    obtain ⟨h0, h1, h2⟩ := hfx j hj'
    obtain ⟨b, off, spot⟩ := a
    have hspot : spot = none := by
      have := World.cell?_spot (hfx 0 (by omega)).1
      simpa [Addr.add] using this
    subst hspot
    rw [addr_plus] at h0 h1 h2
    rw [addr_plus] at h1 h2
    refine ⟨b, off, rfl, ?_, ?_, ?_⟩
    · simpa using h0
    · simpa using h1
    · simpa using h2
/-- Lengths that can be. -/
def Cl.Big (c : Cl) : Prop := c.rs.length ≤ maxLen ∧ c.ds.length ≤ maxLen ∧ c.vs.length ≤ maxLen
set_option maxRecDepth 100000 in
theorem col_cells {H : Type} {enc : TypeId × Value → H} {W : World} {n : Nat} {cs : List Value} {x : DataW H × List MemPlace} (h : DataW.trod enc Tryz.prog W 0 (fun _ => true) true n 27 cs = some x) :
    ∃ c : Cl, cs = [.int .i64 c.id, .slice c.ra c.rs.length c.rc, .slice c.da c.ds.length c.dc, .slice c.va c.vs.length c.vc] ∧ c.At W ∧ c.Big := by
  obtain ⟨xs, m, _, rfl, hl, hlen, hf⟩ := DataW.trod_struct Tryz.underlying27 h
  rw [Tryz.cellsC] at hl
  match cs, hl with
  | [c0, c1, c2, c3], _ =>
    match xs, hlen with
    | [y0, y1, y2, y3], _ =>
      have g0 := hf 0 _ rfl
      have g1 := hf 1 _ rfl
      have g2 := hf 2 _ rfl
      have g3 := hf 3 _ rfl
      simp [Tryz.cellsI, Tryz.cellsIs, Tryz.cellsVs] at g0 g1 g2 g3
      obtain ⟨k, e0, _, _⟩ := DataW.trod_int Tryz.underlying3 g0
      obtain ⟨ra, rc, rs, e1, m1, l1⟩ := ints_cells g1
      obtain ⟨da, dc, ds, e2, m2, l2⟩ := ints_cells g2
      obtain ⟨va, vc, vs, e3, m3, l3⟩ := vals_cells g3
      simp at e0 e1 e2 e3
      subst e0 e1 e2 e3
      exact ⟨⟨k, ra, rs, rc, da, ds, dc, va, vs, vc⟩, rfl, ⟨l1, l2, l3⟩, m1, m2, m3⟩
set_option maxRecDepth 100000 in
/-- What a column holds. -/
theorem open_column {H : Type} {enc : TypeId × Value → H} {W : World} {base : Nat} {v : Value} {d : DataW H} {ps : List MemPlace} (hv : Value.okWide Tryz.prog W .any base 27 v) (h : DataW.Trod enc Tryz.prog W 0 (fun _ => true) true 27 v d ps) :
    ∃ c : Cl, v = c.val ∧ c.At W ∧ c.Big := by
  obtain ⟨cs, rfl, _⟩ := okWide_struct Tryz.underlying27 hv
  obtain ⟨fuel, hf⟩ := h
  obtain ⟨c, hx, h1, h2⟩ := col_cells hf
  refine ⟨c, ?_, h1, h2⟩
  have e : cs.toList = [.int .i64 c.id, .slice c.ra c.rs.length c.rc, .slice c.da c.ds.length c.dc, .slice c.va c.vs.length c.vc] := hx
  show Value.agg cs = Value.agg _
  congr 1
  exact Array.toList_inj.1 e
set_option maxRecDepth 100000 in
theorem shut_column {H : Type} {enc : TypeId × Value → H} {W W' : World} {v : Value} {d : DataW H} {ps : List MemPlace} (h : DataW.Trod enc Tryz.prog W 0 (fun _ => true) true 27 v d ps) (hb : Below W.heap.size W W') (hlt : ∀ x ∈ ps, x.block < W.heap.size) :
    DataW.Trod enc Tryz.prog W' 0 (fun b => decide (b < W.heap.size)) true 27 v d ps :=
  Below.trod Tryz.laidV (by kernel_rfl) (of_decide_eq_true (by kernel_rfl)) h hb hlt
set_option maxRecDepth 100000 in
/-- What a leaf holds. -/
theorem open_leaf {H : Type} {enc : TypeId × Value → H} {W : World} {base : Nat} {v : Value} {d : DataW H} {ps : List MemPlace} (hv : Value.okWide Tryz.prog W .any base 24 v) (h : DataW.Trod enc Tryz.prog W 0 (fun _ => true) true 24 v d ps) :
    ∃ id kind mr md pa pc xs, v = .agg #[.int .i64 id, .int .i64 kind, .int .i64 mr, .int .i64 md, .slice pa (List.length xs) pc] ∧ List.length xs ≤ maxLen ∧ Lies W pa (i64s xs) := by
  obtain ⟨cs, rfl, _⟩ := okWide_struct Tryz.underlying24 hv
  obtain ⟨fuel, hf0⟩ := h
  obtain ⟨xs, m, _, _, hl, hlen, hf⟩ := DataW.trod_struct Tryz.underlying24 hf0
  rw [Tryz.cellsLf] at hl
  obtain ⟨cl, hcl⟩ : ∃ cl, (Value.agg cs).cells.toList = cl := ⟨_, rfl⟩
  have hcs : cs.toList = cl := hcl
  rw [hcl] at hl hf
  match cl, hl, hcs, hf with
  | [c0, c1, c2, c3, c4], _, hcs, hf =>
    match xs, hlen, hf with
    | [y0, y1, y2, y3, y4], _, hf =>
      have g0 := hf 0 _ rfl
      have g1 := hf 1 _ rfl
      have g2 := hf 2 _ rfl
      have g3 := hf 3 _ rfl
      have g4 := hf 4 _ rfl
      simp [Tryz.cellsI, Tryz.cellsIs] at g0 g1 g2 g3 g4
      obtain ⟨k0, e0, _, _⟩ := DataW.trod_int Tryz.underlying3 g0
      obtain ⟨k1, e1, _, _⟩ := DataW.trod_int Tryz.underlying3 g1
      obtain ⟨k2, e2, _, _⟩ := DataW.trod_int Tryz.underlying3 g2
      obtain ⟨k3, e3, _, _⟩ := DataW.trod_int Tryz.underlying3 g3
      obtain ⟨pa, pc, ys, e4, m4, l4⟩ := ints_cells g4
      simp at e0 e1 e2 e3 e4
      subst e0 e1 e2 e3 e4
      exact ⟨k0, k1, k2, k3, pa, pc, ys, by congr 1; exact Array.toList_inj.1 hcs, m4, l4⟩
set_option maxRecDepth 100000 in
theorem shut_leaf {H : Type} {enc : TypeId × Value → H} {W W' : World} {v : Value} {d : DataW H} {ps : List MemPlace} (h : DataW.Trod enc Tryz.prog W 0 (fun _ => true) true 24 v d ps) (hb : Below W.heap.size W W') (hlt : ∀ x ∈ ps, x.block < W.heap.size) :
    DataW.Trod enc Tryz.prog W' 0 (fun b => decide (b < W.heap.size)) true 24 v d ps :=
  Below.trod Tryz.laidV (by kernel_rfl) (of_decide_eq_true (by kernel_rfl)) h hb hlt
set_option maxRecDepth 100000 in
/-- What a slice of columns holds. -/
theorem open_columns {H : Type} {enc : TypeId × Value → H} {W : World} {base : Nat} {v : Value} {d : DataW H} {ps : List MemPlace} (hv : Value.okWide Tryz.prog W .any base 46 v) (h : DataW.Trod enc Tryz.prog W 0 (fun _ => true) true 46 v d ps) :
    ∃ a c cs, v = .slice a (List.length cs) c ∧ List.length cs ≤ maxLen ∧ LiesC W a cs ∧ ∀ x ∈ cs, Cl.Big x := by
  obtain ⟨a0, len, cap, rfl⟩ := okWide_slice Tryz.underlying46 hv
  obtain ⟨fuel, hf⟩ := h
  rcases Deep.open_slice Tryz.underlying46 hf with ⟨hcs, _⟩ | ⟨a, len', cap', m, n, D, Pl, hcs, _, hl, hm, hmm, _, hx⟩
  · simp [Value.cells] at hcs
    obtain ⟨rfl, rfl, rfl⟩ := hcs
    exact ⟨none, 0, [], rfl, Nat.zero_le _, fun j hj => absurd hj (by simp), fun x hx => absurd hx (by simp)⟩
  · simp [Value.cells] at hcs
    obtain ⟨rfl, rfl, rfl⟩ := hcs
    simp only [if_true] at hmm
    subst hmm
    have each : ∀ i, i < len → ∃ x : Cl, (W.cell? (a.add (i * 4)) = some (.int .i64 x.id) ∧ W.cell? ((a.add (i * 4)).add 1) = some (.slice x.ra x.rs.length x.rc) ∧ W.cell? ((a.add (i * 4)).add 2) = some (.slice x.da x.ds.length x.dc) ∧ W.cell? ((a.add (i * 4)).add 3) = some (.slice x.va x.vs.length x.vc)) ∧ x.At W ∧ x.Big := fun i hi => by
      obtain ⟨cs', h1, h2⟩ := hx i (by omega)
      rw [Tryz.cellsC] at h1
      obtain ⟨x, rfl, h3, h4⟩ := col_cells h2
      obtain ⟨_, _, hcell⟩ := World.cells?_some h1
      have e0 := hcell 0 (by omega)
      have e1 := hcell 1 (by omega)
      have e2 := hcell 2 (by omega)
      have e3 := hcell 3 (by omega)
      have z : (a.add (i * 4)).add 0 = a.add (i * 4) := by unfold Addr.add; simp
      rw [z] at e0
      exact ⟨x, ⟨by simpa using e0, by simpa using e1, by simpa using e2, by simpa using e3⟩, h3, h4⟩
    have : Inhabited Cl := ⟨⟨0, none, [], 0, none, [], 0, none, [], 0⟩⟩
    obtain ⟨f, hfx⟩ := Deep.choose_lt each
    refine ⟨some a, _, (List.range len).map f, by simp; rfl, by simp; omega, fun j hj => ?_, fun x hxm => ?_⟩
    · have hj' : j < len := by simpa using hj
      obtain ⟨⟨h0, h1, h2, h3⟩, h4, _⟩ := hfx j hj'
      obtain ⟨b, off, spot⟩ := a
      have hspot : spot = none := by
        have := World.cell?_spot (hfx 0 (by omega)).1.1
        simpa [Addr.add] using this
      subst hspot
      rw [addr_plus] at h0 h1 h2 h3
      rw [addr_plus] at h1 h2 h3
      refine ⟨⟨b, off, rfl, ?_, ?_, ?_, ?_⟩, ?_⟩
      · simpa using h0
      · simpa using h1
      · simpa using h2
      · simpa using h3
      · simpa using h4
    · obtain ⟨i, hi, rfl⟩ := List.mem_map.1 hxm
      exact (hfx i (by simpa using hi)).2.2
set_option maxRecDepth 100000 in
theorem shut_columns {H : Type} {enc : TypeId × Value → H} {W W' : World} {v : Value} {d : DataW H} {ps : List MemPlace} (h : DataW.Trod enc Tryz.prog W 0 (fun _ => true) true 46 v d ps) (hb : Below W.heap.size W W') (hlt : ∀ x ∈ ps, x.block < W.heap.size) :
    DataW.Trod enc Tryz.prog W' 0 (fun b => decide (b < W.heap.size)) true 46 v d ps :=
  Below.trod Tryz.laidV (by kernel_rfl) (of_decide_eq_true (by kernel_rfl)) h hb hlt
end Go.Proofs.YtcejgakjgcniiaaGreatDoor
