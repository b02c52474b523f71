/-
  Acts that came in: what they hold; that they read behind the call as they did before.
-/
import Derived.Test.YtmpdkccmcnegkaaDoorIAcX
import Derived.ChangeSlices
import Derived.Deep.Slices
import Derived.Carry
import Derived.OpenShut
import Derived.ProofKit
namespace Go.Proofs.YtmpdkccmcnegkaaDoor
open Go.ChangeShapes Go.WideShapes Go.ChangeAt Go.RowKit
theorem Tryd.cellsIa : Tryd.prog.cellsOf 3 = 1 := by kernel_rfl
theorem Tryd.cellsSa : Tryd.prog.cellsOf 9 = 1 := by kernel_rfl
theorem Tryd.cellsAc : Tryd.prog.cellsOf 35 = 4 := by kernel_rfl
theorem Tryd.laidAc : laidOutB Tryd.prog = true := by kernel_rfl
set_option maxRecDepth 100000 in
theorem act_cells {H : Type} {enc : TypeId × Value → H} {W : World} {base n : Nat} {sp : Nat → Bool} {held : Bool} {cs : List Value} {x : DataW H × List MemPlace} (h : DataW.trod enc Tryd.prog W base sp held n 35 cs = some x) :
    ∃ v : Ac, cs = [.int .i64 v.k, .string v.nm, .string v.tx, .int .i64 v.n] ∧ v.In := by
  obtain ⟨xs, m, _, rfl, hl, hlen, hf⟩ := DataW.trod_struct Tryd.underlying35 h
  rw [Tryd.cellsAc] at hl
  match cs, hl with
  | [c0, c1, c2, c3], _ =>
    match xs, hlen with
    | [y0, y1, y2, y3], _ =>
      have g0 := hf 0 _ rfl
      have g1 := hf 1 _ rfl
      have g2 := hf 2 _ rfl
      have g3 := hf 3 _ rfl
      simp [Tryd.cellsIa, Tryd.cellsSa] at g0 g1 g2 g3
      obtain ⟨k, e0, _, h0⟩ := DataW.trod_int Tryd.underlying3 g0
      obtain ⟨s, e1, _, h1⟩ := DataW.trod_string Tryd.underlying9 g1
      obtain ⟨t, e2, _, h2⟩ := DataW.trod_string Tryd.underlying9 g2
      obtain ⟨n, e3, _, h3⟩ := DataW.trod_int Tryd.underlying3 g3
      simp at e0 e1 e2 e3
      subst e0 e1 e2 e3
      exact ⟨⟨k, s, t, n⟩, rfl, bounds_i64 h0, h1, h2, bounds_i64 h3⟩
set_option maxRecDepth 100000 in
/-- What a slice of acts holds. -/
theorem open_acts {H : Type} {enc : TypeId × Value → H} {W : World} {base : Nat} {v : Value} {d : DataW H} {ps : List MemPlace} (hv : Value.okWide Tryd.prog W .any base 22 v) (h : DataW.Trod enc Tryd.prog W 0 (fun _ => true) true 22 v d ps) :
    ∃ a n c vs, v = .slice a n c ∧ List.length vs = n ∧ n ≤ maxLen ∧ LiesA W a vs ∧ ∀ x ∈ vs, Ac.In x := by
  obtain ⟨a0, len, cap, rfl⟩ := okWide_slice Tryd.underlying22 hv
  obtain ⟨fuel, hf⟩ := h
  rcases Deep.open_slice Tryd.underlying22 hf with ⟨hcs, _⟩ | ⟨a, len', cap', m, n, D, Pl, hcs, _, hl, hm, hmm, _, hx⟩
  · simp [Value.cells] at hcs
    obtain ⟨rfl, rfl, rfl⟩ := hcs
    exact ⟨none, 0, 0, [], rfl, rfl, Nat.zero_le _, fun j hj => absurd hj (by simp), fun x hx => absurd hx (by simp)⟩
  · simp [Value.cells] at hcs
    obtain ⟨rfl, rfl, rfl⟩ := hcs
    simp only [if_true] at hmm
    subst hmm
    have each : ∀ i, i < len → ∃ x : Ac, (W.cell? (a.add (i * 4)) = some (.int .i64 x.k) ∧ W.cell? ((a.add (i * 4)).add 1) = some (.string x.nm) ∧ W.cell? ((a.add (i * 4)).add 2) = some (.string x.tx) ∧ W.cell? ((a.add (i * 4)).add 3) = some (.int .i64 x.n)) ∧ x.In := fun i hi => by
      obtain ⟨cs', h1, h2⟩ := hx i (by omega)
      rw [Tryd.cellsAc] at h1
      obtain ⟨x, rfl, hin⟩ := act_cells h2
      obtain ⟨_, _, hcell⟩ := World.cells?_some h1
      have e0 := hcell 0 (by omega)
      have e1 := hcell 1 (by omega)
      have e2 := hcell 2 (by omega)
      have e3 := hcell 3 (by omega)
      have z : (a.add (i * 4)).add 0 = a.add (i * 4) := by unfold Addr.add; simp
      rw [z] at e0
      exact ⟨x, ⟨by simpa using e0, by simpa using e1, by simpa using e2, by simpa using e3⟩, hin⟩
    have : Inhabited Ac := ⟨⟨0, ⟨#[]⟩, ⟨#[]⟩, 0⟩⟩
    obtain ⟨f, hfx⟩ := Deep.choose_lt each
    refine ⟨some a, len, _, (List.range len).map f, rfl, by simp, by omega, fun j hj => ?_, fun x hxm => ?_⟩
    · have hj' : j < len := by simpa using hj
      obtain ⟨⟨h0, h1, h2, h3⟩, _⟩ := hfx j hj'
      obtain ⟨b, off, spot⟩ := a
      have hspot : spot = none := by
        have := World.cell?_spot (hfx 0 (by omega)).1.1
        simpa [Addr.add] using this
      subst hspot
      rw [addrPl] at h0 h1 h2 h3
      rw [addrPl] at h1 h2 h3
      refine ⟨b, off, rfl, ?_, ?_, ?_, ?_⟩
      · simpa using h0
      · simpa using h1
      · simpa using h2
      · simpa using h3
    · obtain ⟨i, hi, rfl⟩ := List.mem_map.1 hxm
      exact (hfx i (by simpa using hi)).2
set_option maxRecDepth 100000 in
theorem shut_acts {H : Type} {enc : TypeId × Value → H} {W W' : World} {v : Value} {d : DataW H} {ps : List MemPlace} (h : DataW.Trod enc Tryd.prog W 0 (fun _ => true) true 22 v d ps) (hb : Below W.heap.size W W') (hlt : ∀ x ∈ ps, x.block < W.heap.size) :
    DataW.Trod enc Tryd.prog W' 0 (fun b => decide (b < W.heap.size)) true 22 v d ps :=
  Below.trod Tryd.laidAc (by kernel_rfl) (of_decide_eq_true (by kernel_rfl)) h hb hlt
set_option maxRecDepth 100000 in
theorem diskActs_top (q : Int) (a : Option Addr) (n c : Nat) (l : List Ac) (nm : ByteArray) (W : World) (hq : (Lit.int .i64 q).wf = true) (e1 : l.length = n) (m1 : n ≤ maxLen) (l1 : LiesA W a l) (b1 : ∀ x ∈ l, Ac.In x) (w2 : nm.size ≤ maxLen) (hL : laidMetH Tryd.prog Rows.diskActsRow.laid W) :
    Calls Tryd.prog 3 #[.int .i64 q, .slice a n c, .string nm] W fun e w' => e = .returned (.bool true) ∧ Below W.heap.size W w' := by
  obtain ⟨A, hE⟩ := errs_of hL
  subst e1
  exact diskActs_walk q (bounds_i64 hq) l a c nm w2 W A hE l1 b1 m1
end Go.Proofs.YtmpdkccmcnegkaaDoor
