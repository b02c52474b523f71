/-
  The reference's Signed; the walk of the law WireVarint.
-/
import Derived.Test.YtfdcadlhapcddaaWVarint
import Derived.Test.YtfdcadlhapcddaaSeven
namespace Go.Proofs.Ytfdcadlhapcddaa
open Go.RowKit
set_option maxHeartbeats 400000 in
theorem signed_any (n : Int) (w : World) (h1 : -9223372036854775808 ≤ n) (h2 : n ≤ 9223372036854775807) :
    Calls Try.prog 9 #[.int .i64 n] w fun e w' => e = .returned (.string ⟨(Um.uv (zig n)).toArray⟩) ∧ Below w.heap.size w w' := by
  have hz := zig_lt h1 h2
  by_cases h : n < 0
  · have HF : Hid (-(n + 1) * 2 + 1 = (zig n : Int)) := (zig_neg h).symm
    go_enter Try.func9, Try.ntmps9
    go_wp2_with fail
    rw [HF.out]
    refine (seven_any _ _ hz).mono ?_
    rintro e w2 ⟨rfl, hb2⟩
    go_wp2
    go_ret
    exact ⟨rfl, hb2⟩
  · have HF : Hid (n * 2 = (zig n : Int)) := (zig_pos h).symm
    go_enter Try.func9, Try.ntmps9
    go_wp2_with fail
    rw [HF.out]
    refine (seven_any _ _ hz).mono ?_
    rintro e w2 ⟨rfl, hb2⟩
    go_wp2
    go_ret
    exact ⟨rfl, hb2⟩
set_option maxHeartbeats 400000 in
theorem wireVarint_walk (n : Int) (w : World) (hx : (Lit.int .i64 n).wf = true) :
    Calls Try.prog 4 #[.int .i64 n] w fun e w' => e = .returned (.bool true) ∧ Below w.heap.size w w' := by
  obtain ⟨h1, h2⟩ := bounds_i64 hx
  go_enter Try.func4, Try.ntmps4
  go_wp2_with (first | (go_at_call 5; refine (three_any _).mono ?_; rintro e w1 ⟨rfl, hb1⟩) | (go_at_call 8; refine (varint_any _ _ h1 h2).mono ?_; rintro e w2 ⟨rfl, hb2⟩) | (go_at_call 9; refine (signed_any _ _ h1 h2).mono ?_; rintro e w3 ⟨rfl, hb3⟩))
  go_ret
  exact ⟨rfl, (hb1.trans (hb2.mono hb1.size)).trans (hb3.mono (Nat.le_trans hb1.size hb2.size))⟩
end Go.Proofs.Ytfdcadlhapcddaa
