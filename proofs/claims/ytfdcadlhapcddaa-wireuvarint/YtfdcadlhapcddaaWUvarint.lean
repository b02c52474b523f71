/-
  The walk of the law WireUvarint.
-/
import Derived.Test.YtfdcadlhapcddaaSeven
namespace Go.Proofs.Ytfdcadlhapcddaa
open Go.RowKit
theorem wf_u64 {x : Int} (h : (Lit.int .u64 x).wf = true) : ∃ n : Nat, x = n ∧ n < 18446744073709551616 := by
  simp [Lit.wf, IntKind.min, IntKind.max, IntKind.bits, IntKind.signed] at h
  exact ⟨x.toNat, by omega, by omega⟩
set_option maxHeartbeats 400000 in
theorem wireUvarint_nat (n : Nat) (w : World) (h1 : n < 18446744073709551616) :
    Calls Try.prog 3 #[.int .u64 n] w fun e w' => e = .returned (.bool true) ∧ Below w.heap.size w w' := by
  go_enter Try.func3, Try.ntmps3
  go_wp2_with (first | (go_at_call 5; refine (three_any _).mono ?_; rintro e w1 ⟨rfl, hb1⟩) | (go_at_call 6; refine (uvarint_any _ _ h1).mono ?_; rintro e w2 ⟨rfl, hb2⟩) | (go_at_call 7; refine (seven_any _ _ h1).mono ?_; rintro e w3 ⟨rfl, hb3⟩))
  go_ret
  exact ⟨rfl, (hb1.trans (hb2.mono hb1.size)).trans (hb3.mono (Nat.le_trans hb1.size hb2.size))⟩
theorem wireUvarint_walk (x : Int) (w : World) (hx : (Lit.int .u64 x).wf = true) :
    Calls Try.prog 3 #[.int .u64 x] w fun e w' => e = .returned (.bool true) ∧ Below w.heap.size w w' := by
  obtain ⟨n, rfl, h1⟩ := wf_u64 hx
  exact wireUvarint_nat n w h1
end Go.Proofs.Ytfdcadlhapcddaa
