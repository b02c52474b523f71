/-
  Values, and slices of values, that came in: what they hold; that they read behind the call as they did before.
  wire.Varint answers the bytes of 2n, or of -2n - 1, for every number of 64 bits with a sign.
-/
import Derived.Test.YtalphknhkkcpgaaDoorKBVal
import Derived.ChangeSlices
import Derived.Deep.Slices
import Derived.Carry
import Derived.OpenShut
import Derived.ProofKit
import Derived.Test.YtalphknhkkcpgaaDoorKBase
import Derived.Test.YtalphknhkkcpgaaDoorKBMath
namespace Go.Proofs.YtalphknhkkcpgaaDoor
open Go.ChangeShapes Go.WideShapes Go.ChangeAt Go.RowKit
theorem Tryd.cellsI : Tryd.prog.cellsOf 3 = 1 := by kernel_rfl
theorem Tryd.cellsI64 : Tryd.prog.cellsOf 2 = 1 := by kernel_rfl
theorem Tryd.cellsS : Tryd.prog.cellsOf 9 = 1 := by kernel_rfl
theorem Tryd.cellsV : Tryd.prog.cellsOf 49 = 3 := by kernel_rfl
theorem Tryd.laidV : laidOutB Tryd.prog = true := by kernel_rfl
/-- A value's bounds: 64 bits; a text of a possible length. -/
def Vl.In (v : Vl) : Prop := (-9223372036854775808 ≤ v.k ∧ v.k ≤ 9223372036854775807) ∧ (-9223372036854775808 ≤ v.n ∧ v.n ≤ 9223372036854775807) ∧ v.s.size ≤ maxLen
set_option maxRecDepth 100000 in
theorem val_cells {H : Type} {enc : TypeId × Value → H} {W : World} {base n : Nat} {sp : Nat → Bool} {held : Bool} {cs : List Value} {x : DataW H × List MemPlace} (h : DataW.trod enc Tryd.prog W base sp held n 49 cs = some x) :
    ∃ v : Vl, cs = [.int .i64 v.k, .int .i64 v.n, .string v.s] ∧ v.In := by
  obtain ⟨xs, m, _, rfl, hl, hlen, hf⟩ := DataW.trod_struct Tryd.underlying49 h
  rw [Tryd.cellsV] at hl
  match cs, hl with
  | [c0, c1, c2], _ =>
    match xs, hlen with
    | [y0, y1, y2], _ =>
      have g0 := hf 0 _ rfl
      have g1 := hf 1 _ rfl
      have g2 := hf 2 _ rfl
      simp [Tryd.cellsI, Tryd.cellsI64, Tryd.cellsS] at g0 g1 g2
      obtain ⟨k, e0, _, h0⟩ := DataW.trod_int Tryd.underlying3 g0
      obtain ⟨n, e1, _, h1⟩ := DataW.trod_int Tryd.underlying2 g1
      obtain ⟨s, e2, _, h2⟩ := DataW.trod_string Tryd.underlying9 g2
      simp at e0 e1 e2
      subst e0 e1 e2
      exact ⟨⟨k, n, s⟩, rfl, bounds_i64 h0, bounds_i64 h1, h2⟩
set_option maxRecDepth 100000 in
/-- What a value holds. -/
theorem open_value {H : Type} {enc : TypeId × Value → H} {W : World} {base : Nat} {v : Value} {d : DataW H} {ps : List MemPlace} (hv : Value.okWide Tryd.prog W .any base 49 v) (h : DataW.Trod enc Tryd.prog W 0 (fun _ => true) true 49 v d ps) :
    ∃ x : Vl, v = .agg #[.int .i64 x.k, .int .i64 x.n, .string x.s] ∧ x.In := by
  obtain ⟨cs, rfl, _⟩ := okWide_struct Tryd.underlying49 hv
  obtain ⟨fuel, hf⟩ := h
  obtain ⟨x, hx, hin⟩ := val_cells hf
  refine ⟨x, ?_, hin⟩
  have e : cs.toList = [.int .i64 x.k, .int .i64 x.n, .string x.s] := hx
  congr 1
  exact Array.toList_inj.1 e
set_option maxRecDepth 100000 in
theorem shut_value {H : Type} {enc : TypeId × Value → H} {W W' : World} {v : Value} {d : DataW H} {ps : List MemPlace} (h : DataW.Trod enc Tryd.prog W 0 (fun _ => true) true 49 v d ps) (hb : Below W.heap.size W W') (hlt : ∀ x ∈ ps, x.block < W.heap.size) :
    DataW.Trod enc Tryd.prog W' 0 (fun b => decide (b < W.heap.size)) true 49 v d ps :=
  Below.trod Tryd.laidV (by kernel_rfl) (of_decide_eq_true (by kernel_rfl)) h hb hlt
end Go.Proofs.YtalphknhkkcpgaaDoor

namespace Go.Proofs.YtalphknhkkcpgaaDoor
open Go.RowKit
theorem wrap_u64 (n : Int) : IntKind.u64.wrap n = n % 18446744073709551616 := by simp [IntKind.wrap, IntKind.bits, IntKind.signed]
theorem flip_u64 (a : Int) (h0 : 0 ≤ a) (h1 : a < 18446744073709551616) : bits .xor .u64 IntKind.u64.max a = 18446744073709551615 - a := by
  obtain ⟨k, rfl⟩ := Int.eq_ofNat_of_zero_le h0
  have e : IntKind.u64.max = ((2 ^ 64 - 1 : Nat) : Int) := by decide
  rw [e, u64_xor_nat (2 ^ 64 - 1) k (by decide) (by omega)]
  have hx : (2 ^ 64 - 1) ^^^ k = 2 ^ 64 - 1 - k := by
    rw [Nat.xor_comm]
    have hk : k < 2 ^ 64 := by omega
    apply Nat.eq_of_testBit_eq
    intro i
    rw [Nat.testBit_xor, show 2 ^ 64 - 1 - k = 2 ^ 64 - (k + 1) from by omega, Nat.testBit_two_pow_sub_succ hk, Nat.testBit_two_pow_sub_one]
    by_cases hi : i < 64
    · simp [hi]
    · have : k.testBit i = false := Nat.testBit_lt_two_pow (Nat.lt_of_lt_of_le hk (Nat.pow_le_pow_right (by omega) (by omega)))
      simp [hi, this]
  rw [hx]
  omega
theorem zig_flip {n : Int} (h1 : -9223372036854775808 ≤ n) (h : n < 0) : bits .xor .u64 IntKind.u64.max (IntKind.u64.wrap (IntKind.u64.wrap n * 2)) = zig n := by
  rw [zig_neg h, wrap_u64, wrap_u64, flip_u64 _ (by omega) (by omega)]
  omega
set_option maxHeartbeats 400000 in
theorem varint_any (n : Int) (w : World) (h1 : -9223372036854775808 ≤ n) (h2 : n ≤ 9223372036854775807) :
    Calls Tryd.prog 53 #[.int .i64 n] w fun e w' => e = .returned (.string ⟨(Um.uv (zig n)).toArray⟩) ∧ Below w.heap.size w w' := by
  have hz := zig_lt h1 h2
  by_cases h : n < 0
  · have HF := (show Hid _ from zig_flip h1 h)
    go_enter Tryd.func53, Tryd.ntmps53
    go_wp2_with fail
    rw [HF.out]
    refine (uvarint_any _ _ hz).mono ?_
    rintro e w2 ⟨rfl, hb2⟩
    go_wp2
    go_ret
    exact ⟨rfl, hb2⟩
  · have HF : Hid (n * 2 = (zig n : Int)) := (zig_pos h).symm
    go_enter Tryd.func53, Tryd.ntmps53
    go_wp2_with fail
    rw [HF.out]
    refine (uvarint_any _ _ hz).mono ?_
    rintro e w2 ⟨rfl, hb2⟩
    go_wp2
    go_ret
    exact ⟨rfl, hb2⟩
end Go.Proofs.YtalphknhkkcpgaaDoor
