/-
  Slices of values that came in.
-/
import Derived.Test.YtjpdghpkbpdmeaaDoorDOpenVals
namespace Go.Proofs.YtjpdghpkbpdmeaaDoor
open Go.ChangeShapes Go.WideShapes Go.ChangeAt Go.RowKit
theorem addr_plus (b o j : Nat) : (⟨b, o, none⟩ : Addr).add j = ⟨b, o + j, none⟩ := by unfold Addr.add; split <;> simp_all
set_option maxRecDepth 100000 in
/-- What a slice of values holds. -/
theorem open_values {H : Type} {enc : TypeId × Value → H} {W : World} {base : Nat} {v : Value} {d : DataW H} {ps : List MemPlace} (hv : Value.okWide Tryd.prog W .any base 22 v) (h : DataW.Trod enc Tryd.prog W 0 (fun _ => true) true 22 v d ps) :
    ∃ a n c vs, v = .slice a n c ∧ List.length vs = n ∧ n ≤ maxLen ∧ LiesV W a vs ∧ ∀ x ∈ vs, Vl.In x := by
  obtain ⟨a0, len, cap, rfl⟩ := okWide_slice Tryd.underlying22 hv
  obtain ⟨fuel, hf⟩ := h
  rcases Deep.open_slice Tryd.underlying22 hf with ⟨hcs, _⟩ | ⟨a, len', cap', m, n, D, Pl, hcs, _, hl, hm, hmm, _, hx⟩
  · simp [Value.cells] at hcs
    obtain ⟨rfl, rfl, rfl⟩ := hcs
    exact ⟨none, 0, 0, [], rfl, rfl, Nat.zero_le _, fun j hj => absurd hj (by simp), fun x hx => absurd hx (by simp)⟩
  · simp [Value.cells] at hcs
    obtain ⟨rfl, rfl, rfl⟩ := hcs
    simp only [if_true] at hmm
    subst hmm
    have each : ∀ i, i < len → ∃ x : Vl, (W.cell? (a.add (i * 3)) = some (.int .i64 x.k) ∧ W.cell? ((a.add (i * 3)).add 1) = some (.int .i64 x.n) ∧ W.cell? ((a.add (i * 3)).add 2) = some (.string x.s)) ∧ x.In := fun i hi => by
      obtain ⟨cs', h1, h2⟩ := hx i (by omega)
      rw [Tryd.cellsV] at h1
      obtain ⟨x, rfl, hin⟩ := val_cells h2
      obtain ⟨_, _, hcell⟩ := World.cells?_some h1
      have e0 := hcell 0 (by omega)
      have e1 := hcell 1 (by omega)
      have e2 := hcell 2 (by omega)
      have z : (a.add (i * 3)).add 0 = a.add (i * 3) := by unfold Addr.add; simp
      rw [z] at e0
      exact ⟨x, ⟨by simpa using e0, by simpa using e1, by simpa using e2⟩, hin⟩
    have : Inhabited Vl := ⟨⟨0, 0, ⟨#[]⟩⟩⟩
    obtain ⟨f, hfx⟩ := Deep.choose_lt each
    refine ⟨some a, len, _, (List.range len).map f, rfl, by simp, by omega, fun j hj => ?_, fun x hxm => ?_⟩
    · have hj' : j < len := by simpa using hj
      obtain ⟨⟨h0, h1, h2⟩, _⟩ := hfx j hj'
      obtain ⟨b, off, spot⟩ := a
      have hspot : spot = none := by
        have := World.cell?_spot (hfx 0 (by omega)).1.1
        simpa [Addr.add] using this
      subst hspot
      rw [addr_plus] at h0 h1 h2
      rw [addr_plus] at h1 h2
      refine ⟨b, off, rfl, ?_, ?_, ?_⟩
      · simpa using h0
      · simpa using h1
      · simpa using h2
    · obtain ⟨i, hi, rfl⟩ := List.mem_map.1 hxm
      exact (hfx i (by simpa using hi)).2
set_option maxRecDepth 100000 in
theorem shut_values {H : Type} {enc : TypeId × Value → H} {W W' : World} {v : Value} {d : DataW H} {ps : List MemPlace} (h : DataW.Trod enc Tryd.prog W 0 (fun _ => true) true 22 v d ps) (hb : Below W.heap.size W W') (hlt : ∀ x ∈ ps, x.block < W.heap.size) :
    DataW.Trod enc Tryd.prog W' 0 (fun b => decide (b < W.heap.size)) true 22 v d ps :=
  Below.trod Tryd.laidV (by kernel_rfl) (of_decide_eq_true (by kernel_rfl)) h hb hlt
end Go.Proofs.YtjpdghpkbpdmeaaDoor
