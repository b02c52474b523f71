/-
  wire.ReadVarint, wire.Text and wire.ReadText: what they answer, by cases, for every text.
-/
import Derived.Test.YtjpdghpkbpdmeabDoorCRd
import Derived.Test.YtjpdghpkbpdmeabDoorCClone
import Derived.Test.YtjpdghpkbpdmeabDoorCBMath
import Derived.Laws.DeepNot64
namespace Go.Proofs.YtjpdghpkbpdmeabDoor
open Go.RowKit
theorem and1_u64 (n : Nat) (h : n < 18446744073709551616) : bits .and .u64 (n : Int) 1 = ((n % 2 : Nat) : Int) := by
  have := u64_and_nat n 1 h (by omega)
  rw [Nat.and_one_is_mod] at this
  exact this
theorem ret_v {a b : Int} {c : Int} {x : Value} (h : a = b) : Ending.returned (.tuple #[.int .i64 a, .int .i64 c, x]) = .returned (.tuple #[.int .i64 b, .int .i64 c, x]) := by rw [h]
set_option maxHeartbeats 400000 in
theorem text_any (s : ByteArray) (w : World) (hs : s.size ≤ 140737488351232) :
    Calls Tryd.prog 23 #[.string s] w fun e w' => e = .returned (.string (⟨(Um.uv s.size).toArray⟩ ++ s)) ∧ Below w.heap.size w w' := by
  have hl := Um.uv_ten (n := s.size) (by omega)
  go_enter Tryd.func23, Tryd.ntmps23
  go_wp2_with fail
  refine (uvarint_any s.size _ (by omega)).mono ?_
  rintro e w1 ⟨rfl, hb1⟩
  go_wp2
  go_ret
  exact ⟨rfl, hb1⟩
end Go.Proofs.YtjpdghpkbpdmeabDoor
