/-
  bitrun.pack: the bytes of the numbers as one number, for whatever numbers have room; what is appended within a row's own room.
-/
import Derived.Test.YtmpdkccmcnegkaaDoorIBits0
import Derived.OwnWalk
import Derived.Lib.AppendZeros
namespace Go.Proofs.YtmpdkccmcnegkaaDoor
open Go.RowKit
/-- 'append(b, make([]byte, k)...)' within the room of a row of the call's own. -/
theorem run_zeros_fit (w : World) (base ty g n k cap : Nat) (l : List UInt8) (hown : w.ownsRow base 5 1 (.slice (some ⟨g, 0, none⟩) n cap) n (cellsOf l)) (hroom : n + k ≤ cap) (hk : k < 281474976710656) :
    ∃ w', (Builtin.append_ #[61, 3] ty #[.slice (some ⟨g, 0, none⟩) n cap, .int .i64 k]).run Tryd.prog w = .ok (.slice (some ⟨g, 0, none⟩) (n + k) cap) w' ∧
      w'.ownsRow base 5 1 (.slice (some ⟨g, 0, none⟩) (n + k) cap) (n + k) (cellsOf (l ++ List.replicate k 0)) ∧ w.grownBy w' (some g) := by
  obtain ⟨i0, hi, hz0, hz1, hz2⟩ := info_parts Tryd.info5
  have hl : l.length = n := by have := hown.1; simpa [cellsOf] using this
  have hw : IntKind.i64.wrap (k : Int) = k := by rw [IntKind.wrap_i64]; omega
  have hneg : ¬ ((k : Int) < 0) := by omega
  have h48i : ¬ (281474976710656 < (k : Int)) := by omega
  by_cases hk0 : k = 0
  · subst hk0
    refine ⟨w, ?_, by simpa using hown, ⟨rfl, rfl, rfl, Nat.le_refl _, fun _ _ _ => rfl⟩⟩
    have hr : n ≤ cap := by omega
    have hw0 : IntKind.i64.wrap 0 = 0 := by decide
    simp [hw0, Builtin.append_, run_underlying Tryd.underlying61, run_underlying Tryd.underlying3, sizeOf, typeInfo, hi, hz2, asInt, asIntOf, hr, storeCells]
  · rcases hown.2 with ⟨h, _⟩ | ⟨g', cap', cur, h, hbg, hg, hnc, hcm, hcs, htake⟩
    · simp at h
    · simp only [Value.slice.injEq, Option.some.injEq, Addr.mk.injEq, and_true, true_and] at h
      obtain ⟨rfl, rfl⟩ := h
      have hzc : Builtin.zeroCells (Value.int .u8 0).cells k = (List.replicate k (Value.int .u8 0)).toArray := by
        apply Array.ext
        · simp [Builtin.zeroCells, Value.cells]
        · intro i h1 h2
          simp [Builtin.zeroCells, Value.cells, Nat.mod_one]
      have hst := run_storeCells_at Tryd.prog g n 5 (List.replicate k (Value.int .u8 0)) 0 cur w hg (by simp; omega) (by intro u hu; rw [List.mem_replicate] at hu; rw [hu.2]; rfl)
      simp only [Nat.add_zero] at hst
      refine ⟨w.setRow g (cur.toList.take n ++ List.replicate k (Value.int .u8 0) ++ cur.toList.drop (n + (List.replicate k (Value.int .u8 0)).length)).toArray, ?_, ⟨?_, .inr ⟨g, cap, _, rfl, hbg, setRow_heap w g cur _ 5 _ hg, hroom, hcm, ?_, ?_⟩⟩, ⟨rfl, rfl, rfl, by simp, fun k _ hk => setRow_other w g k _ (fun e => hk (by simp [e]))⟩⟩
      · simp [Builtin.append_, run_underlying Tryd.underlying61, run_underlying Tryd.underlying3, sizeOf, typeInfo, zeroValue, hi, hz0, hz1, hz2, asInt, asIntOf, hw, hneg, h48i, hk0, hroom, hzc, Addr.add_lit, hst]
      · simp [cellsOf, hl]
      · simp only [List.size_toArray, List.length_append, List.length_take, List.length_drop, Array.length_toList, List.length_replicate]
        omega
      · simp only [Nat.mul_one] at htake ⊢
        rw [htake]
        have e : cellsOf (l ++ List.replicate k 0) = cellsOf l ++ List.replicate k (Value.int .u8 0) := by simp [cellsOf]
        rw [e]
        have hlen : (cellsOf l ++ List.replicate k (Value.int .u8 0)).length = n + k := by simp [cellsOf, hl]
        rw [← hlen]
        exact List.take_left
theorem run_zeros_int (w : World) (base ty g n k cap : Nat) (m : Int) (N : Nat) (hm : m = ((k - n : Nat) : Int)) (hown : w.ownsRow base 5 1 (.slice (some ⟨g, 0, none⟩) n cap) n (cellsOf (Um.lit N n))) (hnk : n ≤ k) (hroom : k ≤ cap) (hk : k < 281474976710656) (hN : N < 2 ^ (8 * n)) :
    ∃ w', (Builtin.append_ #[61, 3] ty #[.slice (some ⟨g, 0, none⟩) n cap, .int .i64 m]).run Tryd.prog w = .ok (.slice (some ⟨g, 0, none⟩) k cap) w' ∧
      w'.ownsRow base 5 1 (.slice (some ⟨g, 0, none⟩) k cap) k (cellsOf (Um.lit N k)) ∧ w.grownBy w' (some g) := by
  subst hm
  have h := run_zeros_fit w base ty g n (k - n) cap (Um.lit N n) hown (by omega) (by omega)
  rw [← Um.lit_zeros N n (k - n) hN, show n + (k - n) = k by omega] at h
  exact h
theorem or64 (a b : Nat) (ha : a < 18446744073709551616) (hb : b < 18446744073709551616) : bits .or .u64 (a : Int) (b : Int) = ((a ||| b : Nat) : Int) := u64_or_nat a b ha hb
theorem or_shift {r x h : Nat} (hr : r < 2 ^ h) (hx : x < 4294967296) (hh : h < 8) : bits .or .u64 (r : Int) (IntKind.u64.wrap ((x : Int) * 2 ^ h)) = ((r + x * 2 ^ h : Nat) : Int) := by
  have h8 : 2 ^ h ≤ 2 ^ 8 := Nat.pow_le_pow_right (by omega) (by omega)
  have hm : x * 2 ^ h ≤ 4294967296 * 256 := Nat.mul_le_mul (by omega) (by simpa using h8)
  have e : (x : Int) * 2 ^ h = ((x * 2 ^ h : Nat) : Int) := by simp
  have e2 : IntKind.u64.wrap ((x : Int) * 2 ^ h) = ((x * 2 ^ h : Nat) : Int) := by
    rw [e, IntKind.wrap_u64]; omega
  rw [e2, or64 r _ (by have : 2 ^ 8 = 256 := rfl; omega) (by omega), Um.or_above hr]
theorem below_fit {B : Nat} {w wr w1 : World} {o : Obj} {g e n c : Nat} {xs : List Value} (hb : Below B w wr) (hB : B ≤ w.heap.size) (hown : wr.ownsRow B e 1 (.slice (some ⟨g, 0, none⟩) n c) n xs) (hg : (wr.alloc o).grownBy w1 (some g)) : Below B w w1 :=
  below_app hb hB hown hg
theorem own_lit_snoc {w : World} {base e N q : Nat} {v : Value} {n : Int} (hn : n = (Um.by_ N q : Nat)) (h : w.ownsRow base e 1 v (q + 1) (cellsOf (Um.lit N q) ++ [.int .u8 n])) : w.ownsRow base e 1 v (q + 1) (cellsOf (Um.lit N (q + 1))) := by
  have hlt := Um.by_lt N q
  rw [Um.lit_succ, cells_snoc, Um.bt_int (by omega) (by omega), ← hn]; exact h
end Go.Proofs.YtmpdkccmcnegkaaDoor
