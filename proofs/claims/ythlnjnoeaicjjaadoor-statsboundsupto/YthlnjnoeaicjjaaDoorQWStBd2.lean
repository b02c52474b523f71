/-
  StatsBounds, for whatever leaf, columns, text and value.
-/
import Derived.Test.YthlnjnoeaicjjaaDoorQWStBd
import Derived.Test.YthlnjnoeaicjjaaDoorQBOpenColB
import Derived.Test.YthlnjnoeaicjjaaDoorQLaid4
import Derived.Test.YthlnjnoeaicjjaaDoorRows
namespace Go.Proofs.YthlnjnoeaicjjaaDoor
open Go.RowKit
theorem statsBounds_top {H : Type} (d0 d1 d2 d3 d4 : DataW H) (lid kind mr md : Int) (pa : Option Addr) (pc : Nat) (ps : List Int) (a b : Cl) (how : ByteArray) (v : Vl) (W : World) (hp : Lies W pa (i64s ps)) (ha : a.At W) (hina : ∀ v ∈ a.vs, v.In) (hba : a.bulk ≤ Rows.uptoBulk d1) (hb : b.At W) (hinb : ∀ v ∈ b.vs, v.In) (hbb : b.bulk ≤ Rows.uptoBulk d2) (hv : v.In) (bulk : Rows.uptoBulk d0 + (Rows.uptoBulk d1 + (Rows.uptoBulk d2 + (Rows.uptoBulk d3 + (Rows.uptoBulk d4 + 0)))) ≤ 1048576) (hL : laidMetH Tryd.prog Rows.statsBoundsUptoRow.laid W) :
    Calls Tryd.prog 4 #[.agg #[.int .i64 lid, .int .i64 kind, .int .i64 mr, .int .i64 md, .slice pa ps.length pc], a.val, b.val, .string how, .agg #[.int .i64 v.k, .int .i64 v.n, .string v.s]] W fun e w' => e = .returned (.bool true) ∧ Below W.heap.size W w' := by
  have hL' : laidMet Tryd.prog Rows.statsBoundsUptoRow.laid W := hL
  obtain ⟨a1, h1⟩ := shape_of hL' (List.mem_of_getElem? (i := 2) rfl)
  obtain ⟨a2, h2⟩ := kind_of hL' (List.mem_of_getElem? (i := 3) rfl)
  obtain ⟨a3, h3⟩ := bound_of hL' (List.mem_of_getElem? (i := 1) rfl)
  obtain ⟨a4, h4⟩ := text_of hL' (List.mem_of_getElem? (i := 0) rfl)
  exact statsBounds_walk lid kind mr md pa pc ps a b how v W _ _ _ _ _ _ _ _ ⟨h1, h2, h3, h4⟩ hp ha hb (fun v hv => (hina v hv).2.1.1) (fun v hv => (hinb v hv).2.1.1) (by omega) (by omega) hina hinb hv
end Go.Proofs.YthlnjnoeaicjjaaDoor
