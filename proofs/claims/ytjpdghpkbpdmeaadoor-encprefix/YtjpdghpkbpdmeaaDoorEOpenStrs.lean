/-
  A slice of texts that came in: what it holds; that it reads behind the call as it did before.
-/
import Derived.Test.YtjpdghpkbpdmeaaDoorEPref
import Derived.SliceStrings
import Derived.Carry
import Derived.OpenShut
import Derived.ProofKit
namespace Go.Proofs.YtjpdghpkbpdmeaaDoor
open Go.ChangeShapes Go.WideShapes Go.ChangeAt Go.RowKit
theorem Tryd.cellsSt : Tryd.prog.cellsOf 9 = 1 := by kernel_rfl
theorem Tryd.laidS : laidOutB Tryd.prog = true := by kernel_rfl
theorem addr_pl (b o j : Nat) : (⟨b, o, none⟩ : Addr).add j = ⟨b, o + j, none⟩ := by unfold Addr.add; split <;> simp_all
set_option maxRecDepth 100000 in
/-- What a slice of texts holds. -/
theorem open_strs {H : Type} {enc : TypeId × Value → H} {W : World} {base : Nat} {v : Value} {d : DataW H} {ps : List MemPlace} (hv : Value.okWide Tryd.prog W .any base 44 v) (h : DataW.Trod enc Tryd.prog W 0 (fun _ => true) true 44 v d ps) :
    ∃ a n c ts, v = .slice a n c ∧ List.length ts = n ∧ n ≤ maxLen ∧ LiesS W a ts ∧ ∀ t ∈ ts, t.size ≤ maxLen := by
  obtain ⟨a0, len, cap, rfl⟩ := okWide_slice Tryd.underlying44 hv
  obtain ⟨fuel, hf⟩ := h
  rcases open_strings Tryd.underlying44 Tryd.underlying9 Tryd.cellsSt hf with ⟨hcs, _⟩ | ⟨a, len', cap', ss, hcs, _, hl, hm, hz, _, hcell, hsz⟩
  · simp [Value.cells] at hcs
    obtain ⟨rfl, rfl, rfl⟩ := hcs
    exact ⟨none, 0, 0, [], rfl, rfl, Nat.zero_le _, fun j hj => absurd hj (by simp), fun t ht => absurd ht (by simp)⟩
  · simp [Value.cells] at hcs
    obtain ⟨rfl, rfl, rfl⟩ := hcs
    simp only [if_true] at hz
    have hlz : (ss.take len).length = len := by simp; omega
    refine ⟨some a, len, _, ss.take len, rfl, hlz, by omega, fun j hj => ?_, fun t ht => hsz t (List.mem_of_mem_take ht)⟩
    rw [hlz] at hj
    have hc := hcell j (by omega)
    obtain ⟨b, off, spot⟩ := a
    have hspot : spot = none := by simpa [Addr.add] using World.cell?_spot (hcell 0 (by omega))
    subst hspot
    refine ⟨b, off, rfl, ?_⟩
    rw [addr_pl] at hc
    rw [hc]
    have hjz : j < ss.length := by omega
    simp [List.getD, hjz]
set_option maxRecDepth 100000 in
/-- .. and behind the call. -/
theorem shut_strs {H : Type} {enc : TypeId × Value → H} {W W' : World} {v : Value} {d : DataW H} {ps : List MemPlace} (h : DataW.Trod enc Tryd.prog W 0 (fun _ => true) true 44 v d ps) (hb : Below W.heap.size W W') (hlt : ∀ x ∈ ps, x.block < W.heap.size) :
    DataW.Trod enc Tryd.prog W' 0 (fun b => decide (b < W.heap.size)) true 44 v d ps :=
  Below.trod Tryd.laidS (by kernel_rfl) (of_decide_eq_true (by kernel_rfl)) h hb hlt
theorem Tryd.infoSt : (Tryd.prog.info? 9).map (fun i => (i.zero, i.size, i.bytes)) = some (some (.string ⟨#[]⟩), 1, 16) := by kernel_rfl
theorem liesS_own {w : World} {base e n : Nat} {v : Value} {ts : List ByteArray} (h : w.ownsRow base e 1 v n (strsC ts)) : ∃ a c, v = .slice a ts.length c ∧ LiesS w a ts := by
  have hl := h.1
  rw [Nat.mul_one, strsC_len] at hl
  rcases h.2 with ⟨rfl, rfl⟩ | ⟨g, cap, cur, rfl, _, hg, _, _, _, htake⟩
  · refine ⟨none, 0, by rw [hl], fun j hj => absurd hj (by omega)⟩
  · refine ⟨some ⟨g, 0, none⟩, cap, by rw [hl], fun j hj => ⟨g, 0, rfl, ?_⟩⟩
    have := h.cells rfl j (.string ts[j]) (by simp [strsC, hj])
    rw [addr_pl] at this
    exact this
/-- The first text that is too long. -/
theorem first_long (ts : List ByteArray) : ∃ p, p ≤ ts.length ∧ (∀ j (h : j < ts.length), j < p → ts[j].size ≤ 100) ∧ (∀ h : p < ts.length, 100 < ts[p].size) := by
  induction ts with
  | nil => exact ⟨0, by simp, fun j h => absurd h (by simp), fun h => absurd h (by simp)⟩
  | cons t ts ih =>
    by_cases ht : t.size ≤ 100
    · obtain ⟨p, h1, h2, h3⟩ := ih
      refine ⟨p + 1, by simpa using h1, fun j hj hjp => ?_, fun h => by simpa using h3 (by simpa using h)⟩
      cases j with
      | zero => simpa using ht
      | succ j => simpa using h2 j (by simpa using hj) (by omega)
    · exact ⟨0, Nat.zero_le _, fun j _ hj => absurd hj (by omega), fun _ => by simp; omega⟩
end Go.Proofs.YtjpdghpkbpdmeaaDoor
