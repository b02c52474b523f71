/-
  wire.Uvarint answers the bytes that the mathematics names, for every number below 2^64.
-/
import Derived.Test.YtmpdkccmcnegkaaDoorRows
import Derived.Test.YtmpdkccmcnegkaaDoorIBMath
import Derived.WalkKit
import Derived.WalkSpells
import Derived.WalkLawsBesides
namespace Go.Proofs.YtmpdkccmcnegkaaDoor
open Go.RowKit
theorem ret_str {a b : ByteArray} (h : a = b) : Ending.returned (.string a) = .returned (.string b) := by rw [h]
theorem Tryd.info5 : (Tryd.prog.info? 5).map (fun i => (i.zero, i.size, i.bytes)) = some (some (.int .u8 0), 1, 1) := by kernel_rfl
def cellsOf (l : List UInt8) : List Value := l.map fun b => .int .u8 b.toNat
theorem cells_snoc (l : List UInt8) (b : UInt8) : cellsOf (l ++ [b]) = cellsOf l ++ [.int .u8 b.toNat] := by simp [cellsOf]
theorem or128 : ∀ x : Fin 256, (x.val ||| 128) = x.val % 128 + 128 := by decide +kernel
theorem byte_or (m : Nat) : bits .or .u8 ((m : Int) % 256) 128 = (m : Int) % 128 + 128 := by
  have h := u8_or_nat (m % 256) 128 (by omega) (by omega)
  have k := or128 ⟨m % 256, by omega⟩
  simp only at k
  rw [k] at h
  have e1 : ((m % 256 : Nat) : Int) = (m : Int) % 256 := by omega
  have e2 : ((m % 256 % 128 + 128 : Nat) : Int) = (m : Int) % 128 + 128 := by omega
  rw [e1, e2] at h
  exact h
/-- 'string(b)' of bytes that the call owns. -/
theorem own_conv {w : World} {base : Nat} {v : Value} {l : List UInt8} (hl : 0 < l.length) (h : w.ownsRow base 5 1 v l.length (cellsOf l)) :
    (convert 61 9 v).run Tryd.prog w = .ok (.string ⟨l.toArray⟩) w := by
  rcases h.2 with ⟨_, hn⟩ | ⟨g, cap, cur, rfl, _, _⟩
  · omega
  · refine run_convert_bytes_back w 61 9 5 ⟨g, 0, none⟩ cap l Tryd.underlying61 Tryd.underlying5 Tryd.underlying9 (fun j hj => ?_)
    exact h.cells rfl j _ (by simp [cellsOf, hj])
theorem own_snoc {w : World} {base e : Nat} {v : Value} {l : List UInt8} {n : Int} (h0 : 0 ≤ n) (h1 : n < 256) (h : w.ownsRow base e 1 v (l.length + 1) (cellsOf l ++ [.int .u8 n])) : w.ownsRow base e 1 v (l ++ [Um.bt n]).length (cellsOf (l ++ [Um.bt n])) := by
  rw [cells_snoc, Um.bt_int h0 h1, List.length_append]; exact h
/-- Behind an append of one value to a row of the call's own: what was there stands. -/
theorem below_app {B : Nat} {w wr w1 : World} {o : Obj} {v : Value} {e n : Nat} {xs : List Value} (hb : Below B w wr) (hB : B ≤ w.heap.size) (hown : wr.ownsRow B e 1 v n xs) (hg : (wr.alloc o).grownBy w1 v.ownBlock) : Below B w w1 :=
  (hb.alloc (by have := hb.size; omega) o).grown hg (by have := hb.size; simp; omega) (fun k hk => (hown.lt k hk).1)
end Go.Proofs.YtmpdkccmcnegkaaDoor
