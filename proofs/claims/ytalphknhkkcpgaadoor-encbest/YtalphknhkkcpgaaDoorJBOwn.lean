/-
  A row of bytes of the call's own: kept, appended to, turned into a text.
  The reference's Little and ReadLittle: what they answer.
-/
import Derived.Test.YtalphknhkkcpgaaDoorJBase
import Derived.Lib.AppendStr
import Derived.OwnWalk
import Derived.OneCell
import Derived.Test.YtalphknhkkcpgaaDoorJBMath
import Derived.Test.YtalphknhkkcpgaaDoorJBBits0
namespace Go.Proofs.YtalphknhkkcpgaaDoor
open Go.RowKit
theorem ow_kept {w w' : World} {base e size n : Nat} {v : Value} {xs : List Value} (h : w.ownsRow base e size v n xs) (hb : Below w.heap.size w w') : w'.ownsRow base e size v n xs := by
  refine ⟨h.1, ?_⟩
  rcases h.2 with hn | ⟨g, cap, cur, rfl, hbg, hgg, rest⟩
  · exact .inl hn
  · exact .inr ⟨g, cap, cur, rfl, hbg, (hb.block g (Array.getElem?_eq_some_iff.1 hgg).1).trans hgg, rest⟩
theorem ow_strCells (l : List UInt8) : Lib.strCells ⟨l.toArray⟩ = cellsOf l := by simp [Lib.strCells, cellsOf]
theorem ow_strCells' (s : ByteArray) : Lib.strCells s = cellsOf s.data.toList := by simp [Lib.strCells, cellsOf]
theorem ow_app (l m : List UInt8) : cellsOf (l ++ m) = cellsOf l ++ cellsOf m := by simp [cellsOf]
theorem ow_str {w : World} {B : Nat} {v : Value} {l : List UInt8} {s : ByteArray} (h : w.ownsRow B 5 1 v (l.length + s.size) (cellsOf l ++ Lib.strCells s)) : w.ownsRow B 5 1 v (l ++ s.data.toList).length (cellsOf (l ++ s.data.toList)) := by
  rw [ow_strCells', ← ow_app] at h
  have e : l.length + s.size = (l ++ s.data.toList).length := by rw [List.length_append, Array.length_toList]; rfl
  rw [e] at h
  exact h
set_option maxRecDepth 100000 in
/-- 'string(b)'. -/
theorem ow_conv {w : World} {base n : Nat} {v : Value} {l : List UInt8} (hl : l.length = n) (h : w.ownsRow base 5 1 v n (cellsOf l)) : (convert 79 9 v).run Tryd.prog w = .ok (.string ⟨l.toArray⟩) w := by
  rcases h.2 with ⟨rfl, hn⟩ | ⟨g, cap, cur, rfl, _, _⟩
  · obtain rfl : l = [] := List.eq_nil_of_length_eq_zero (by omega)
    rfl
  · subst hl
    exact run_convert_bytes_back w 79 9 5 ⟨g, 0, none⟩ cap l Tryd.underlying79 Tryd.underlying5 Tryd.underlying9 (fun j hj => h.cells rfl j _ (by simp [cellsOf, hj]))
/-- Behind an append to a row of the call's own: what was there stands. -/
theorem below_grown {B : Nat} {w wr w1 : World} {v : Value} {e n : Nat} {xs : List Value} (hb : Below B w wr) (hB : B ≤ w.heap.size) (hown : wr.ownsRow B e 1 v n xs) (hg : wr.grownBy w1 v.ownBlock) : Below B w w1 :=
  hb.grown hg (by have := hb.size; omega) (fun k hk => (hown.lt k hk).1)
theorem ow_apart {w : World} {B n g e : Nat} {v : Value} {xs : List Value} {cs : Array Value} {z : Nat × Nat} (hown : w.ownsRow B 5 1 v n xs) (h : w.heap[g]? = some (.cells cs e z)) (hne : e ≠ 5) : v.ownBlock ≠ some g := by
  rcases hown.2 with ⟨rfl, _⟩ | ⟨g1, _, cur1, rfl, _, hg1, _⟩
  · simp [Value.ownBlock]
  · intro he
    simp [Value.ownBlock] at he
    subst he
    rw [hg1] at h
    injection h with h
    injection h with _ h _
    exact hne h.symm
/-- A block that is no row of bytes stands where bytes are appended. -/
theorem ow_block {w w' : World} {B n g e : Nat} {v : Value} {xs : List Value} {cs : Array Value} {z : Nat × Nat} (hown : w.ownsRow B 5 1 v n xs) (h : w.heap[g]? = some (.cells cs e z)) (hne : e ≠ 5) (hg : w.grownBy w' v.ownBlock) : w'.heap[g]? = some (.cells cs e z) :=
  (hg.block g (lt_of_block h) (fun e => ow_apart hown h hne e.symm)).trans h
theorem blk_alloc {w : World} {g : Nat} {o o' : Obj} (h : w.heap[g]? = some o) : (w.alloc o').heap[g]? = some o := ((Below.refl w.heap.size w).alloc (Nat.le_refl _) o').block g (lt_of_block h) |>.trans h
theorem blk_keep {w w' : World} {g : Nat} {o : Obj} (hb : Below w.heap.size w w') (h : w.heap[g]? = some o) : w'.heap[g]? = some o := (hb.block g (lt_of_block h)).trans h
/-- The cells of a value that was boxed. -/
theorem row_three {w : World} {g e : Nat} {x y z : Value} (h : w.heap[g]? = some (.cells #[x, y, z] e (0, 0))) : w.cell? ⟨g, 0, none⟩ = some x ∧ w.cell? ⟨g, 1, none⟩ = some y ∧ w.cell? ⟨g, 2, none⟩ = some z :=
  ⟨by rw [cell_of_row _ g 0 _ e (0, 0) h]; rfl, by rw [cell_of_row _ g 1 _ e (0, 0) h]; rfl, by rw [cell_of_row _ g 2 _ e (0, 0) h]; rfl⟩
end Go.Proofs.YtalphknhkkcpgaaDoor

namespace Go.Proofs.YtalphknhkkcpgaaDoor
open Go.RowKit
theorem ret_u64 {a b : Int} (h : a = b) : Ending.returned (.int .u64 a) = .returned (.int .u64 b) := by rw [h]
set_option maxHeartbeats 800000 in
theorem little_any (n k : Nat) (w : World) (hn : n < 18446744073709551616) (h8 : k ≤ 8) :
    Calls Tryd.prog 64 #[.int .u64 n, .int .i64 k] w fun e w' => e = .returned (.string ⟨(Um.lit n k).toArray⟩) ∧ Below w.heap.size w w' := by
  go_enter Tryd.func64, Tryd.ntmps64
  go_wp2
  go_loopw [0, 5, 6] (fun x o c wr => ∃ (i m : Nat), i ≤ k ∧ m < 18446744073709551616 ∧ c = .int .i64 i ∧ x = .int .u64 m ∧ o = .string ⟨(Um.lit n i).toArray⟩ ∧ Hid (m = n / 2 ^ (8 * i)) ∧ Below w.heap.size w wr) (fun _ _ c _ => k - (intOf c).toNat)
  case atStart => exact ⟨0, n, Nat.zero_le _, hn, rfl, rfl, rfl, by show n = n / 2 ^ 0; simp, Below.refl _ _⟩
  case round =>
    obtain ⟨i, m, hik, hm, rfl, rfl, rfl, HM, hb⟩ := hrel
    have hll := Um.lit_len n i
    by_cases hlt : i < k
    · have HN : Hid (Um.lit n (i + 1) = Um.lit n i ++ [Um.bt ((m : Int) % 256)]) := by
        show _ = _
        rw [Um.lit_succ, HM.out]
        unfold Um.by_
        congr 3
      have HD : Hid (m / 256 = n / 2 ^ (8 * (i + 1))) := by show _ = _; rw [HM.out, Um.div_step]
      generalize Um.lit n i = l at *
      have hroom : l.length ≤ 8 := by omega
      clear hll
      go_wp2_with (go_at_call 73; refine (byte_any _ _ (by omega) (by omega)).mono ?_; rintro e w' ⟨rfl, hb'⟩)
      go_roundw
      case rel => exact ⟨i + 1, m / 256, by omega, by omega, by go_num, rfl, by rw [str_snoc, HN.out], HD, hb.trans (hb'.mono hb.size)⟩
      case measure => simp [intOf]; omega
    · obtain rfl : i = k := by omega
      go_wp2
      go_ret
      exact ⟨rfl, hb⟩
theorem drop_take_cons (s : ByteArray) (j k : Nat) (hj : j < k) (hs : k ≤ s.size) : (s.data.toList.take k).drop j = s[j]'(by omega) :: (s.data.toList.take k).drop (j + 1) := by
  have hl : (s.data.toList.take k).length = k := by simp; omega
  rw [List.drop_eq_getElem_cons (by omega)]
  congr 1
  rw [List.getElem_take]
  rfl
end Go.Proofs.YtalphknhkkcpgaaDoor
