/-
  shred.fits.
-/
import Derived.Test.YthlnjnoeaicjjaaDoorPColDt
import Derived.Test.YthlnjnoeaicjjaaDoorPColDf
namespace Go.Proofs.YthlnjnoeaicjjaaDoor
open Go.RowKit
theorem sfits_any (lid kind mr md : Int) (pa : Option Addr) (pn pc : Nat) (cid : Int) (ra : Option Addr) (rs : List Int) (rc : Nat) (da : Option Addr) (ds : List Int) (dc : Nat) (va : Option Addr) (nv vc : Nat) (hr : rs.length ≤ 1048576) (hd : ds.length ≤ 1048576) (W : World) (hlr : Lies W ra (i64s rs)) (hld : Lies W da (i64s ds)) :
    Calls Tryd.prog 44 #[leafV lid kind mr md pa pn pc, colV cid ra rs.length rc da ds.length dc va nv vc] W fun e w' => e = .returned (.bool (fitB lid mr md cid rs ds nv)) ∧ Below W.heap.size W w' := by
  cases hb : (rs.any fun x => !(btw 0 x mr))
  · exact sfits_f lid kind mr md pa pn pc cid ra rs rc da ds dc va nv vc hr hd W hlr hld hb
  · exact sfits_t lid kind mr md pa pn pc cid ra rs rc da ds dc va nv vc hr hd W hlr hld hb
end Go.Proofs.YthlnjnoeaicjjaaDoor
