/-
  What is known of values, as it came in.
-/
import Derived.Test.YthlnjnoeaicjjaaDoorPStBase
import Derived.Test.YthlnjnoeaicjjaaDoorPBOpenVals
import Derived.ChangeArms
namespace Go.Proofs.YthlnjnoeaicjjaaDoor
open Go.ChangeShapes Go.WideShapes Go.ChangeAt Go.RowKit
theorem Tryd.cellsB : Tryd.prog.cellsOf 4 = 1 := by kernel_rfl
theorem Tryd.cellsSt : Tryd.prog.cellsOf 25 = 9 := by kernel_rfl
/-- Bounds of what came in. -/
def St.In (s : St) : Prop := (-9223372036854775808 ≤ s.e ∧ s.e ≤ 9223372036854775807) ∧ (-9223372036854775808 ≤ s.u ∧ s.u ≤ 9223372036854775807) ∧ s.mn.In ∧ s.mx.In
theorem St.In.low {s : St} (h : s.In) : s.Low := ⟨h.2.2.1.2.1.1, h.2.2.2.2.1.1⟩
set_option maxRecDepth 100000 in
/-- What it holds. -/
theorem open_stats {H : Type} {enc : TypeId × Value → H} {W : World} {base : Nat} {v : Value} {d : DataW H} {ps : List MemPlace} (hv : Value.okWide Tryd.prog W .any base 25 v) (h : DataW.Trod enc Tryd.prog W 0 (fun _ => true) true 25 v d ps) :
    ∃ s : St, v = .agg #[.int .i64 s.e, .int .i64 s.u, .bool s.h, .int .i64 s.mn.k, .int .i64 s.mn.n, .string s.mn.s, .int .i64 s.mx.k, .int .i64 s.mx.n, .string s.mx.s] ∧ s.In := by
  obtain ⟨cs, rfl, _⟩ := okWide_struct Tryd.underlying25 hv
  obtain ⟨fuel, hf0⟩ := h
  obtain ⟨xs, m, _, _, hl, hlen, hf⟩ := DataW.trod_struct Tryd.underlying25 hf0
  rw [Tryd.cellsSt] at hl
  obtain ⟨cl, hcl⟩ : ∃ cl, (Value.agg cs).cells.toList = cl := ⟨_, rfl⟩
  have hcs : cs.toList = cl := hcl
  rw [hcl] at hl hf
  match cl, hl, hcs, hf with
  | [c0, c1, c2, c3, c4, c5, c6, c7, c8], _, hcs, hf =>
    match xs, hlen, hf with
    | [y0, y1, y2, y3, y4], _, hf =>
      have g0 := hf 0 _ rfl
      have g1 := hf 1 _ rfl
      have g2 := hf 2 _ rfl
      have g3 := hf 3 _ rfl
      have g4 := hf 4 _ rfl
      simp [Tryd.cellsI, Tryd.cellsB, Tryd.cellsV] at g0 g1 g2 g3 g4
      obtain ⟨k0, e0, _, h0⟩ := DataW.trod_int Tryd.underlying3 g0
      obtain ⟨k1, e1, _, h1⟩ := DataW.trod_int Tryd.underlying3 g1
      obtain ⟨b2, e2, _⟩ := DataW.trod_bool Tryd.underlying4 g2
      obtain ⟨v3, e3, h3⟩ := val_cells g3
      obtain ⟨v4, e4, h4⟩ := val_cells g4
      simp at e0 e1 e2 e3 e4
      obtain ⟨e30, e31, e32⟩ := e3
      obtain ⟨e40, e41, e42⟩ := e4
      subst e0 e1 e2 e30 e31 e32 e40 e41 e42
      exact ⟨⟨k0, k1, b2, v3, v4⟩, by congr 1; exact Array.toList_inj.1 hcs, bounds_i64 h0, bounds_i64 h1, h3, h4⟩
set_option maxRecDepth 100000 in
theorem shut_stats {H : Type} {enc : TypeId × Value → H} {W W' : World} {v : Value} {d : DataW H} {ps : List MemPlace} (h : DataW.Trod enc Tryd.prog W 0 (fun _ => true) true 25 v d ps) (hb : Below W.heap.size W W') (hlt : ∀ x ∈ ps, x.block < W.heap.size) :
    DataW.Trod enc Tryd.prog W' 0 (fun b => decide (b < W.heap.size)) true 25 v d ps :=
  Below.trod Tryd.laidV (by kernel_rfl) (of_decide_eq_true (by kernel_rfl)) h hb hlt
end Go.Proofs.YthlnjnoeaicjjaaDoor
