/-
  The reference's RunsOf: the bytes of right numbers as runs.
-/
import Derived.Test.YtmhkpnmifhfboaaGreatDoorMBUnpack
import Derived.Test.YtmhkpnmifhfboaaGreatDoorMBUnpackF
import Derived.Test.YtmhkpnmifhfboaaGreatDoorMBBase
import Derived.Deep.RegionLaw
namespace Go.Proofs.YtmhkpnmifhfboaaGreatDoor
open Go.RowKit
set_option linter.unusedVariables false
/-- The next k numbers from place i on, filled up with 0. -/
def padL (xs : List Int) (i k : Nat) : List Int := (xs.drop i ++ List.replicate 8 0).take k
theorem padL_len (xs : List Int) (i k : Nat) (h : k ≤ 8) : (padL xs i k).length = k := by simp [padL]; omega
theorem padL_in {xs : List Int} {i k : Nat} (h : i + k < xs.length) (hk : k < 8) : padL xs i (k + 1) = padL xs i k ++ [xs[i + k]] := by
  unfold padL
  rw [List.take_succ_eq_append_getElem (by simp; omega), List.getElem_append_left (by simp; omega), List.getElem_drop]
theorem padL_out {xs : List Int} {i k : Nat} (h : ¬ i + k < xs.length) (hk : k < 8) (hi : i ≤ xs.length) : padL xs i (k + 1) = padL xs i k ++ [0] := by
  unfold padL
  rw [List.take_succ_eq_append_getElem (by simp; omega), List.getElem_append_right (by simp; omega), List.getElem_replicate]
theorem padL_eight (xs : List Int) (i : Nat) : padL xs i 8 = (xs.drop i).take 8 ++ List.replicate (8 - (xs.length - i)) 0 := by
  unfold padL
  rw [List.take_append, List.take_replicate, List.length_drop, Nat.min_eq_left (by omega)]
theorem num_zeros (w : Nat) (l : List Nat) (k : Nat) : Um.num w (l ++ List.replicate k 0) = Um.num w l := by
  induction k with
  | zero => simp
  | succ k ih => rw [List.replicate_succ', ← List.append_assoc, Um.num_snoc, ih]; simp
theorem pad_num (w : Nat) (p xs : List Int) (i : Nat) : Um.num w (nats (p ++ padL xs i 8)) = Um.num w (nats (p ++ (xs.drop i).take 8)) := by
  rw [padL_eight, ← List.append_assoc]
  have e : nats (p ++ (xs.drop i).take 8 ++ List.replicate (8 - (xs.length - i)) 0) = nats (p ++ (xs.drop i).take 8) ++ List.replicate (8 - (xs.length - i)) 0 := by simp [nats]
  rw [e, num_zeros]
/-- Whole groups: the reference's bytes are those of the flush. -/
theorem flush_full {w : Nat} {p : List Int} (hp : 0 < p.length) (h8 : p.length % 8 = 0) : Um.flush w p = Um.uv (p.length / 8 * 2 + 1) ++ Um.lit (Um.num w (nats p)) ((w * p.length + 7) / 8) := by
  unfold Um.flush
  rw [if_neg (by omega)]
  obtain ⟨g, hg⟩ : ∃ g, p.length = 8 * g := ⟨p.length / 8, by omega⟩
  have e1 : (8 * g + 7) / 8 = g := by omega
  have e2 : (w * (8 * g) + 7) / 8 = g * w := by rw [Nat.mul_left_comm, Nat.mul_comm w g]; omega
  rw [hg, e1, e2]
  congr 2
  omega
/-- .. and filled up. -/
theorem flush_pad {w : Nat} {p xs : List Int} {i : Nat} (h8 : p.length % 8 = 0) (hi : i < xs.length) : Um.flush w (p ++ (xs.drop i).take 8) = Um.uv ((p ++ padL xs i 8).length / 8 * 2 + 1) ++ Um.lit (Um.num w (nats (p ++ padL xs i 8))) ((w * (p ++ padL xs i 8).length + 7) / 8) := by
  unfold Um.flush
  have hl : (p ++ (xs.drop i).take 8).length = p.length + min 8 (xs.length - i) := by simp
  have hl2 : (p ++ padL xs i 8).length = p.length + 8 := by rw [List.length_append, padL_len _ _ _ (Nat.le_refl _)]
  rw [if_neg (by omega), pad_num, hl2, hl]
  obtain ⟨g, hg⟩ : ∃ g, p.length + 8 = 8 * g := ⟨(p.length + 8) / 8, by omega⟩
  have e0 : (p.length + min 8 (xs.length - i) + 7) / 8 = g := by omega
  have e2 : (w * (8 * g) + 7) / 8 = g * w := by rw [Nat.mul_left_comm, Nat.mul_comm w g]; omega
  rw [e0, hg, e2]
  congr 2
  omega
theorem str_cat (l m : List UInt8) : (⟨l.toArray⟩ : ByteArray) ++ ⟨m.toArray⟩ = ⟨(l ++ m).toArray⟩ := by
  apply ByteArray.ext
  simp [ByteArray.data_append]
theorem cat_go (l m : List UInt8) (h : l.length + m.length ≤ 100000000) (W : World) : (Op.stringOp .add ⟨l.toArray⟩ ⟨m.toArray⟩).run Tryz.prog W = .ok (.string ⟨(l ++ m).toArray⟩) W := by
  rw [run_string_add_sum, str_cat]
  show l.toArray.size + m.toArray.size ≤ _
  simp only [List.size_toArray]
  omega
theorem own_stay {w w' : World} {base e size n : Nat} {v : Value} {xs : List Value} (h : w.ownsRow base e size v n xs) (hb : Below w.heap.size w w') : w'.ownsRow base e size v n xs := by
  refine ⟨h.1, ?_⟩
  rcases h.2 with hn | ⟨g, cap, cur, rfl, hbg, hgg, rest⟩
  · exact .inl hn
  · exact .inr ⟨g, cap, cur, rfl, hbg, (hb.block g (Array.getElem?_eq_some_iff.1 hgg).1).trans hgg, rest⟩
theorem i64s_snoc (l : List Int) (x : Int) : i64s (l ++ [x]) = i64s l ++ [.int .i64 x] := by simp [i64s]
theorem shl_le (wd : Nat) (h : wd ≤ 32) : (2 : Int) ^ wd ≤ 4294967296 := by
  have h1 := Nat.pow_le_pow_right (n := 2) (by omega) h
  have e : ((2 ^ wd : Nat) : Int) = (2 : Int) ^ wd := by simp
  have h32 : (2 : Nat) ^ 32 = 4294967296 := by decide
  rw [← e]
  omega
theorem wrap_eights (wd : Nat) (h : wd ≤ 32) : IntKind.i64.wrap ((IntKind.i64.wrap ((wd : Int) + 7)).tdiv 8) = (((wd + 7) / 8 : Nat) : Int) := by
  have e : IntKind.i64.wrap ((wd : Int) + 7) = (wd : Int) + 7 := by rw [IntKind.wrap_i64]; omega
  rw [e, Int.tdiv_eq_ediv_of_nonneg (by omega), IntKind.wrap_i64]
  omega
theorem wrap_even (c : Nat) (h : c ≤ 100000) : IntKind.u64.wrap (IntKind.i64.wrap (2 * (c : Int))) = ((2 * c : Nat) : Int) := by
  have e : IntKind.i64.wrap (2 * (c : Int)) = 2 * (c : Int) := by rw [IntKind.wrap_i64]; omega
  rw [e, IntKind.wrap_u64]
  omega
theorem room_app {wd : Nat} {p q : List Int} (hp : ∀ j (h : j < p.length), Room wd p[j]) (hq : ∀ j (h : j < q.length), Room wd q[j]) : ∀ j (h : j < (p ++ q).length), Room wd (p ++ q)[j] := by
  intro j h
  rw [List.getElem_append]
  split
  · exact hp _ _
  · exact hq _ _
theorem room_pad {wd : Nat} {xs : List Int} {i : Nat} (hr : ∀ j (h : j < xs.length), Room wd xs[j]) : ∀ j (h : j < (padL xs i 8).length), Room wd (padL xs i 8)[j] := by
  intro j h
  have h' : j < ((xs.drop i ++ List.replicate 8 0).take 8).length := h
  show Room wd (((xs.drop i ++ List.replicate 8 0).take 8)[j]'h')
  rw [List.getElem_take, List.getElem_append]
  split
  · rw [List.getElem_drop]; exact hr _ _
  · rw [List.getElem_replicate]
    exact ⟨Int.le_refl _, Int.pow_pos (by omega)⟩
/-- What the outer loop keeps. -/
structure RF (xs : List Int) (wd : Nat) (w : World) (o v x : Value) (wq : World) (bs : List UInt8) (p : List Int) (i : Nat) : Prop where
  ho : o = .string ⟨bs.toArray⟩
  hx : x = .int .i64 i
  own : wq.ownsRow w.heap.size 3 1 v p.length (i64s p)
  tot : bs ++ Um.wrs wd p (xs.drop i) = Um.wrs wd [] xs
  full : p.length % 8 = 0
  done : i ≥ xs.length → p = []
  room : ∀ j (h : j < p.length), Room wd p[j]
  pl : p.length ≤ i
  bl : bs.length ≤ 2000 * i
  il : i ≤ xs.length + 8
  old : Below w.heap.size w wq
/-- What the loop that fills a group keeps. -/
structure RP (xs p : List Int) (i : Nat) (w : World) (v y : Value) (wq : World) (k : Nat) : Prop where
  le : k ≤ 8
  hy : y = .int .i64 k
  own : wq.ownsRow w.heap.size 3 1 v (p ++ padL xs i k).length (i64s (p ++ padL xs i k))
  old : Below w.heap.size w wq
theorem padL_zero (xs : List Int) (i : Nat) : padL xs i 0 = [] := rfl
/-- What the inner loop keeps: so many are the same. -/
structure RC (xs : List Int) (i : Nat) (y : Value) (c : Nat) : Prop where
  hy : y = .int .i64 c
  le : i + c ≤ xs.length
  same : ∀ j (h : i + j < xs.length) (hi : i < xs.length), j < c → xs[i + j] = xs[i]
end Go.Proofs.YtmhkpnmifhfboaaGreatDoor
