/-
  What the listed variables hold: each error variable a pointer to its text; no two of them the same.
-/
import Derived.Test.YteonbmaokphleaaGreatDoorRows
import Derived.LaidLaws
import Derived.LaidHandle
import Derived.Stop.LaidErr
import Derived.Below
namespace Go.Proofs.YteonbmaokphleaaGreatDoor
open Go.RowKit
theorem Tryz.star : "*errors.errorString" = "*" ++ "errors.errorString" := by decide
theorem Tryz.rowErr (u : TypeId) (h : Tryz.prog.typeName? 3 u = some "*errors.errorString") : u = 190 :=
 typeName_ptr_named (nm := "errors.errorString") (by rw [← Tryz.star]; kernel_rfl) (by kernel_rfl) (by decide) u (by rw [← Tryz.star]; exact h)
theorem Tryz.cellsErr : Tryz.prog.cellsOf 211 = 1 := by kernel_rfl
theorem Tryz.cellsStr : Tryz.prog.cellsOf 9 = 1 := by kernel_rfl
abbrev sentD (text : List UInt8) : DataW Unit := .iface "*errors.errorString" (.ptr (.agg [.lit (.string text)]))
structure Sent (W : World) (g : Nat) (text : List UInt8) (a : Addr) : Prop where
 var : W.cell? ⟨g, 0, none⟩ = some (.iface 190 (.pointer (some a)))
 str : ∃ s : ByteArray, W.cell? a = some (.string s) ∧ s.data.toList = text
 row : ∃ c t, W.heap[a.block]? = some (.cells c t (0, 0))
set_option maxRecDepth 100000 in
theorem sent_of {n : String} {g : Nat} {text : List UInt8} {W : World} (hg : Tryz.prog.globalNamed n = some g) (ht : (Tryz.prog.globals[g]?).map (·.type) = some 32) :
    ∀ (l : List (String × DataW Unit)), (n, sentD text) ∈ l → laidMet Tryz.prog l W → ∃ a, Sent W g text a
 | [], hm, _ => absurd hm (by simp)
 | (n1, d1) :: r, hm, h => by
  obtain ⟨ps, ⟨g0, t0, cs0, f0, p0, q0, hg0, ht0, hv0, hd0, hr, e0⟩, hnd, hrows⟩ := h
  subst e0
  by_cases hx : (n, sentD text) = (n1, d1)
  · obtain ⟨rfl, rfl⟩ := Prod.mk.inj hx
    obtain rfl := Option.some.inj (hg.symm.trans hg0)
    obtain rfl := Option.some.inj (ht.symm.trans ht0)
    obtain ⟨l0⟩ := cs0
    have ok0 : ∀ u v, l0 = [.iface u v] → Value.okWide Tryz.prog W .any 0 u v := fun u v e => by
     subst e
     exact (hrows g 0 (by simp [MemPlace.row])).2 u v (by simpa using World.var?_cell hg0 hv0 0)
    obtain ⟨a0, s0, rfl, hc0, hs0, hz0, rfl⟩ := errorString_of_trod Tryz.underlying32 Tryz.rowErr Tryz.underlying190 Tryz.underlying211 rfl rfl Tryz.underlying9 Tryz.cellsErr Tryz.cellsStr hd0 ok0
    exact ⟨a0, by simpa using World.var?_cell hg0 hv0 0, ⟨s0, hc0, hs0⟩, (hrows a0.block a0.off (by simp [MemPlace.row])).1⟩
  · have hm' : (n, sentD text) ∈ r := by
      rcases List.mem_cons.1 hm with h | h
      · exact absurd h hx
      · exact h
    exact sent_of hg ht r hm' ⟨q0, hr, (List.nodup_append.1 hnd).2.1, fun b off hb => hrows b off (List.mem_append_right _ hb)⟩
theorem Sent.ne {W : World} {g1 g2 : Nat} {t1 t2 : List UInt8} {a1 a2 : Addr} (h1 : Sent W g1 t1 a1) (h2 : Sent W g2 t2 a2) (hne : t1 ≠ t2) : a1 ≠ a2 := by
 rintro rfl
 obtain ⟨s1, e1, d1⟩ := h1.str
 obtain ⟨s2, e2, d2⟩ := h2.str
 rw [e1] at e2
 cases e2
 exact hne (d1.symm.trans d2)
theorem Sent.keep {W W' : World} {g : Nat} {t : List UInt8} {a : Addr} (h : Sent W g t a) (hb : Below W.heap.size W W') : Sent W' g t a := by
 obtain ⟨s, e, d⟩ := h.str
 obtain ⟨c, ty, hr⟩ := h.row
 have hl := World.block_lt_of_cell? W a e
 exact ⟨(hb.cell (World.block_lt_of_cell? W _ h.var)).trans h.var, ⟨s, (hb.cell hl).trans e, d⟩, ⟨c, ty, (hb.block _ hl).trans hr⟩⟩
end Go.Proofs.YteonbmaokphleaaGreatDoor
