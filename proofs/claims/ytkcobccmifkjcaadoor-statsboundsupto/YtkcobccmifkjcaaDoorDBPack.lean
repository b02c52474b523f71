/-
  bitrun.pack: the bytes of the numbers as one number, for whatever numbers have room; what is appended within a row's own room.
  bitrun.Pack: what it answers, for a right width and whatever numbers; out of its bounds; and the closed fact nine().
  Numbers as runs: the bytes that are written: the mathematics, without the program.
  What is packed is unpacked: the mathematics, without the program.
  What the law and the reference make of ints: ints, Wide, bitsOf, PackOf: what they answer.
  bitrun.unpack: the numbers that bytes are, so many bits each.
-/
import Derived.Test.YtkcobccmifkjcaaDoorDBBits0
import Derived.OwnWalk
import Derived.Lib.AppendZeros
import Derived.Test.YtkcobccmifkjcaaDoorDBMath
import Derived.Test.YtkcobccmifkjcaaDoorDBBase
namespace Go.Proofs.YtkcobccmifkjcaaDoor
open Go.RowKit
/-- 'append(b, make([]byte, k)...)' within the room of a row of the call's own. -/
theorem run_zeros_fit (w : World) (base ty g n k cap : Nat) (l : List UInt8) (hown : w.ownsRow base 5 1 (.slice (some ⟨g, 0, none⟩) n cap) n (cellsOf l)) (hroom : n + k ≤ cap) (hk : k < 281474976710656) :
    ∃ w', (Builtin.append_ #[114, 3] ty #[.slice (some ⟨g, 0, none⟩) n cap, .int .i64 k]).run Tryd.prog w = .ok (.slice (some ⟨g, 0, none⟩) (n + k) cap) w' ∧
      w'.ownsRow base 5 1 (.slice (some ⟨g, 0, none⟩) (n + k) cap) (n + k) (cellsOf (l ++ List.replicate k 0)) ∧ w.grownBy w' (some g) := by
  obtain ⟨i0, hi, hz0, hz1, hz2⟩ := info_parts Tryd.info5
  have hl : l.length = n := by have := hown.1; simpa [cellsOf] using this
  have hw : IntKind.i64.wrap (k : Int) = k := by rw [IntKind.wrap_i64]; omega
  have hneg : ¬ ((k : Int) < 0) := by omega
  have h48i : ¬ (281474976710656 < (k : Int)) := by omega
  by_cases hk0 : k = 0
  · subst hk0
    refine ⟨w, ?_, by simpa using hown, ⟨rfl, rfl, rfl, Nat.le_refl _, fun _ _ _ => rfl⟩⟩
    have hr : n ≤ cap := by omega
    have hw0 : IntKind.i64.wrap 0 = 0 := by decide
    simp [hw0, Builtin.append_, run_underlying Tryd.underlying114, run_underlying Tryd.underlying3, sizeOf, typeInfo, hi, hz2, asInt, asIntOf, hr, storeCells]
  · rcases hown.2 with ⟨h, _⟩ | ⟨g', cap', cur, h, hbg, hg, hnc, hcm, hcs, htake⟩
    · simp at h
    · simp only [Value.slice.injEq, Option.some.injEq, Addr.mk.injEq, and_true, true_and] at h
      obtain ⟨rfl, rfl⟩ := h
      have hzc : Builtin.zeroCells (Value.int .u8 0).cells k = (List.replicate k (Value.int .u8 0)).toArray := by
        apply Array.ext
        · simp [Builtin.zeroCells, Value.cells]
        · intro i h1 h2
          simp [Builtin.zeroCells, Value.cells, Nat.mod_one]
      have hst := run_storeCells_at Tryd.prog g n 5 (List.replicate k (Value.int .u8 0)) 0 cur w hg (by simp; omega) (by intro u hu; rw [List.mem_replicate] at hu; rw [hu.2]; rfl)
      simp only [Nat.add_zero] at hst
      refine ⟨w.setRow g (cur.toList.take n ++ List.replicate k (Value.int .u8 0) ++ cur.toList.drop (n + (List.replicate k (Value.int .u8 0)).length)).toArray, ?_, ⟨?_, .inr ⟨g, cap, _, rfl, hbg, setRow_heap w g cur _ 5 _ hg, hroom, hcm, ?_, ?_⟩⟩, ⟨rfl, rfl, rfl, by simp, fun k _ hk => setRow_other w g k _ (fun e => hk (by simp [e]))⟩⟩
      · simp [Builtin.append_, run_underlying Tryd.underlying114, run_underlying Tryd.underlying3, sizeOf, typeInfo, zeroValue, hi, hz0, hz1, hz2, asInt, asIntOf, hw, hneg, h48i, hk0, hroom, hzc, Addr.add_lit, hst]
      · simp [cellsOf, hl]
      · simp only [List.size_toArray, List.length_append, List.length_take, List.length_drop, Array.length_toList, List.length_replicate]
        omega
      · simp only [Nat.mul_one] at htake ⊢
        rw [htake]
        have e : cellsOf (l ++ List.replicate k 0) = cellsOf l ++ List.replicate k (Value.int .u8 0) := by simp [cellsOf]
        rw [e]
        have hlen : (cellsOf l ++ List.replicate k (Value.int .u8 0)).length = n + k := by simp [cellsOf, hl]
        rw [← hlen]
        exact List.take_left
theorem run_zeros_int (w : World) (base ty g n k cap : Nat) (m : Int) (N : Nat) (hm : m = ((k - n : Nat) : Int)) (hown : w.ownsRow base 5 1 (.slice (some ⟨g, 0, none⟩) n cap) n (cellsOf (Um.lit N n))) (hnk : n ≤ k) (hroom : k ≤ cap) (hk : k < 281474976710656) (hN : N < 2 ^ (8 * n)) :
    ∃ w', (Builtin.append_ #[114, 3] ty #[.slice (some ⟨g, 0, none⟩) n cap, .int .i64 m]).run Tryd.prog w = .ok (.slice (some ⟨g, 0, none⟩) k cap) w' ∧
      w'.ownsRow base 5 1 (.slice (some ⟨g, 0, none⟩) k cap) k (cellsOf (Um.lit N k)) ∧ w.grownBy w' (some g) := by
  subst hm
  have h := run_zeros_fit w base ty g n (k - n) cap (Um.lit N n) hown (by omega) (by omega)
  rw [← Um.lit_zeros N n (k - n) hN, show n + (k - n) = k by omega] at h
  exact h
theorem or64 (a b : Nat) (ha : a < 18446744073709551616) (hb : b < 18446744073709551616) : bits .or .u64 (a : Int) (b : Int) = ((a ||| b : Nat) : Int) := u64_or_nat a b ha hb
theorem or_shift {r x h : Nat} (hr : r < 2 ^ h) (hx : x < 4294967296) (hh : h < 8) : bits .or .u64 (r : Int) (IntKind.u64.wrap ((x : Int) * 2 ^ h)) = ((r + x * 2 ^ h : Nat) : Int) := by
  have h8 : 2 ^ h ≤ 2 ^ 8 := Nat.pow_le_pow_right (by omega) (by omega)
  have hm : x * 2 ^ h ≤ 4294967296 * 256 := Nat.mul_le_mul (by omega) (by simpa using h8)
  have e : (x : Int) * 2 ^ h = ((x * 2 ^ h : Nat) : Int) := by simp
  have e2 : IntKind.u64.wrap ((x : Int) * 2 ^ h) = ((x * 2 ^ h : Nat) : Int) := by
    rw [e, IntKind.wrap_u64]; omega
  rw [e2, or64 r _ (by have : 2 ^ 8 = 256 := rfl; omega) (by omega), Um.or_above hr]
theorem below_fit {B : Nat} {w wr w1 : World} {o : Obj} {g e n c : Nat} {xs : List Value} (hb : Below B w wr) (hB : B ≤ w.heap.size) (hown : wr.ownsRow B e 1 (.slice (some ⟨g, 0, none⟩) n c) n xs) (hg : (wr.alloc o).grownBy w1 (some g)) : Below B w w1 :=
  below_app hb hB hown hg
theorem own_lit_snoc {w : World} {base e N q : Nat} {v : Value} {n : Int} (hn : n = (Um.by_ N q : Nat)) (h : w.ownsRow base e 1 v (q + 1) (cellsOf (Um.lit N q) ++ [.int .u8 n])) : w.ownsRow base e 1 v (q + 1) (cellsOf (Um.lit N (q + 1))) := by
  have hlt := Um.by_lt N q
  rw [Um.lit_succ, cells_snoc, Um.bt_int (by omega) (by omega), ← hn]; exact h
end Go.Proofs.YtkcobccmifkjcaaDoor

namespace Go.Proofs.YtkcobccmifkjcaaDoor
open Go.RowKit
/-- 'string(b)' of a row of the call's own, with an address. -/
theorem own_conv_at {w : World} {base g n cap : Nat} {l : List UInt8} (hl : l.length = n) (h : w.ownsRow base 5 1 (.slice (some ⟨g, 0, none⟩) n cap) n (cellsOf l)) :
    (convert 114 9 (.slice (some ⟨g, 0, none⟩) n cap)).run Tryd.prog w = .ok (.string ⟨l.toArray⟩) w := by
  subst hl
  exact run_convert_bytes_back w 114 9 5 ⟨g, 0, none⟩ cap l Tryd.underlying114 Tryd.underlying5 Tryd.underlying9 (fun j hj => h.cells rfl j _ (by simp [cellsOf, hj]))
/-- Right numbers, without their sign. -/
def nats (xs : List Int) : List Nat := xs.map Int.toNat
theorem nats_len (xs : List Int) : (nats xs).length = xs.length := by simp [nats]
theorem nats_get (xs : List Int) (j : Nat) (h : j < xs.length) : (nats xs)[j]'(by rw [nats_len]; exact h) = xs[j].toNat := by simp [nats]
theorem nats_lt {k : Nat} {xs : List Int} (h : ∀ j (h : j < xs.length), Room k xs[j]) : ∀ x ∈ nats xs, x < 2 ^ k := by
  intro x hx
  obtain ⟨y, hy, rfl⟩ := List.mem_map.1 hx
  obtain ⟨j, hj, rfl⟩ := List.getElem_of_mem hy
  have h0 := h j hj
  unfold Room at h0
  have e : ((2 ^ k : Nat) : Int) = (2 : Int) ^ k := by simp
  rw [← e] at h0
  omega
/-- The bytes of right numbers. -/
def packed (k : Nat) (xs : List Int) : List UInt8 := Um.lit (Um.num k (nats xs)) ((k * xs.length + 7) / 8)
theorem packed_nine : packed 2 [1, 2] = [9] := by decide +kernel
end Go.Proofs.YtkcobccmifkjcaaDoor

namespace Go.Proofs.YtkcobccmifkjcaaDoor
namespace Um
/-- How many of the first number follow. -/
def lead : List Int → Nat
  | [] => 0
  | x :: l => 1 + (l.takeWhile (· == x)).length
theorem lead_pos {l : List Int} (h : 0 < l.length) : 0 < lead l := by
  cases l with
  | nil => simp at h
  | cons x l => simp [lead]; omega
theorem lead_le (l : List Int) : lead l ≤ l.length := by
  cases l with
  | nil => simp [lead]
  | cons x l =>
    have : (l.takeWhile (· == x)).length ≤ l.length := by
      have h := List.takeWhile_append_dropWhile (p := (· == x)) (l := l)
      have h2 := congrArg List.length h
      rw [List.length_append] at h2
      omega
    simp [lead]; omega
/-- The first k are the same, the next one is another one, or none: so many follow. -/
theorem lead_of {x : Int} : ∀ {l : List Int} {k : Nat}, (∀ j (h : j < l.length), j < k → l[j] = x) → k ≤ l.length → (∀ h : k < l.length, l[k] ≠ x) → (l.takeWhile (· == x)).length = k
  | [], k, _, h2, _ => by simp at h2; simp [h2]
  | y :: l, 0, _, _, h3 => by
    have := h3 (by simp)
    simp at this
    simp [this]
  | y :: l, k + 1, h1, h2, h3 => by
    have hy : y = x := h1 0 (by simp) (by omega)
    have ih := lead_of (x := x) (l := l) (k := k) (fun j h hj => h1 (j + 1) (by simpa using h) (by omega)) (by simpa using h2) (fun h => h3 (by simpa using h))
    simp [hy, ih]
/-- Open numbers as a part of the second kind. -/
def flush (w : Nat) (p : List Int) : List UInt8 := if p.length = 0 then [] else uv (2 * ((p.length + 7) / 8) + 1) ++ lit (num w (nats p)) ((p.length + 7) / 8 * w)
/-- What is written of open numbers and the rest. -/
def wr (w : Nat) : Nat → List Int → List Int → List UInt8
  | 0, p, _ => flush w p
  | f + 1, p, r => if r.length = 0 then flush w p
    else if lead r < 8 then wr w f (p ++ r.take 8) (r.drop 8)
    else flush w p ++ (uv (2 * lead r) ++ lit (r.headD 0).toNat ((w + 7) / 8)) ++ wr w f [] (r.drop (lead r))
theorem wr_fuel (w : Nat) : ∀ (f g : Nat) (p r : List Int), r.length ≤ f → r.length ≤ g → wr w f p r = wr w g p r := by
  intro f
  induction f with
  | zero =>
    intro g p r hf hg
    have h0 : r.length = 0 := by omega
    cases g with
    | zero => rfl
    | succ g => simp only [wr]; rw [if_pos h0]
  | succ f ih =>
    intro g p r hf hg
    cases g with
    | zero =>
      have h0 : r.length = 0 := by omega
      simp only [wr]; rw [if_pos h0]
    | succ g =>
      simp only [wr]
      split
      · rfl
      · rename_i h0
        have hp := lead_pos (l := r) (by omega)
        split
        · rw [ih g _ _ (by rw [List.length_drop]; omega) (by rw [List.length_drop]; omega)]
        · rw [ih g _ _ (by rw [List.length_drop]; omega) (by rw [List.length_drop]; omega)]
def wrs (w : Nat) (p r : List Int) : List UInt8 := wr w r.length p r
theorem wrs_nil (w : Nat) (p : List Int) : wrs w p [] = flush w p := rfl
theorem wrs_short (w : Nat) (p r : List Int) (h0 : 0 < r.length) (h : lead r < 8) : wrs w p r = wrs w (p ++ r.take 8) (r.drop 8) := by
  unfold wrs
  obtain ⟨m, hm⟩ : ∃ m, r.length = m + 1 := ⟨r.length - 1, by omega⟩
  rw [hm]
  simp only [wr]
  rw [if_neg (by omega), if_pos h]
  exact wr_fuel w _ _ _ _ (by rw [List.length_drop]; omega) (Nat.le_refl _)
theorem wrs_long (w : Nat) (p r : List Int) (h : ¬ lead r < 8) : wrs w p r = flush w p ++ (uv (2 * lead r) ++ lit (r.headD 0).toNat ((w + 7) / 8)) ++ wrs w [] (r.drop (lead r)) := by
  have hl := lead_le r
  unfold wrs
  obtain ⟨m, hm⟩ : ∃ m, r.length = m + 1 := ⟨r.length - 1, by omega⟩
  rw [hm]
  simp only [wr]
  rw [if_neg (by omega), if_neg h]
  rw [wr_fuel w m (r.drop (lead r)).length _ _ (by rw [List.length_drop]; omega) (Nat.le_refl _)]
end Um
end Go.Proofs.YtkcobccmifkjcaaDoor

namespace Go.Proofs.YtkcobccmifkjcaaDoor
namespace Um
/-- The bytes of numbers, with whatever behind them, are these numbers. -/
theorem unp_packed (k : Nat) (ns : List Nat) (q : Nat) (beh : List UInt8) (hns : ∀ x ∈ ns, x < 2 ^ k) (hq : k * ns.length ≤ 8 * q) : unp (lit (num k ns) q ++ beh) k ns.length = ns := by
  apply List.ext_getElem
  · rw [unp_len]
  · intro i h1 h2
    rw [unp_len] at h1
    have hki : k * i + k ≤ 8 * q := by
      have : k * (i + 1) ≤ k * ns.length := Nat.mul_le_mul_left _ h1
      rw [Nat.mul_add, Nat.mul_one] at this
      omega
    rw [unp_get _ _ _ _ h1, ← lev_cut _ q (k * i) k (by rw [List.length_append, lit_len]; omega) hki]
    have ht : (lit (num k ns) q ++ beh).take q = lit (num k ns) q := by
      have := List.take_left (l₁ := lit (num k ns) q) (l₂ := beh)
      rwa [lit_len] at this
    have hN : num k ns < 2 ^ (8 * q) := Nat.lt_of_lt_of_le (num_lt k ns hns) (Nat.pow_le_pow_right (by omega) hq)
    rw [ht, lev_lit, Nat.mod_eq_of_lt hN, num_get k ns i h1 hns]
/-- .. and filled up with 0. -/
theorem unp_padded (k : Nat) (ns : List Nat) (q m : Nat) (beh : List UInt8) (hns : ∀ x ∈ ns, x < 2 ^ k) (hm : ns.length ≤ m) (hq : k * m ≤ 8 * q) : unp (lit (num k ns) q ++ beh) k m = ns ++ List.replicate (m - ns.length) 0 := by
  have hz : ∀ (l : List Nat) (j : Nat), num k (l ++ List.replicate j 0) = num k l := by
    intro l j
    induction j with
    | zero => simp
    | succ j ih => rw [List.replicate_succ', ← List.append_assoc, num_snoc, ih]; simp
  have hl : (ns ++ List.replicate (m - ns.length) 0).length = m := by simp; omega
  have h := unp_packed k (ns ++ List.replicate (m - ns.length) 0) q beh (fun x hx => by
    rcases List.mem_append.1 hx with h | h
    · exact hns x h
    · rw [(List.mem_replicate.1 h).2]; exact Nat.two_pow_pos k) (by rw [hl]; exact hq)
  rw [hz, hl] at h
  exact h
/-- A part of the second kind, read. -/
theorem grps_read (k : Nat) (ns : List Nat) (g left : Nat) (beh : List UInt8) (hns : ∀ x ∈ ns, x < 2 ^ k) (hg : g = (ns.length + 7) / 8) (h0 : 0 < ns.length) (hl : ns.length = left ∨ (ns.length < left ∧ ns.length = 8 * g)) :
    grps (lit (num k ns) (g * k) ++ beh) k g left = some (ns, g * k) := by
  have hu := unp_padded k ns (g * k) (8 * g) beh hns (by omega) (by rw [Nat.mul_left_comm, Nat.mul_comm k g]; exact Nat.le_refl _)
  unfold grps
  rw [hu, if_pos]
  · have ht : (ns ++ List.replicate (8 * g - ns.length) 0).take left = ns := by
      rcases hl with h | ⟨h, h2⟩
      · rw [← h]; exact List.take_left
      · rw [show 8 * g - ns.length = 0 by omega, List.replicate_zero, List.append_nil, List.take_of_length_le (by omega)]
    rw [ht]
  · refine ⟨⟨by omega, by omega⟩, by rw [List.length_append, lit_len]; omega, ?_⟩
    intro x hx
    rcases hl with h | ⟨h, h2⟩
    · rw [← h, List.drop_left] at hx
      exact (List.mem_replicate.1 hx).2
    · rw [show 8 * g - ns.length = 0 by omega] at hx
      simp at hx
      rw [List.drop_of_length_le (by omega)] at hx
      cases hx
/-- A part of the first kind, read. -/
theorem same_read (k x c left : Nat) (beh : List UInt8) (hx : x < 2 ^ k) (h0 : 0 < c) (hl : c ≤ left) : same (lit x ((k + 7) / 8) ++ beh) k c left = some (List.replicate c x, (k + 7) / 8) := by
  have ht : (lit x ((k + 7) / 8) ++ beh).take ((k + 7) / 8) = lit x ((k + 7) / 8) := by
    have := List.take_left (l₁ := lit x ((k + 7) / 8)) (l₂ := beh)
    rwa [lit_len] at this
  have hv : lev (lit x ((k + 7) / 8)) = x := by
    rw [lev_lit, Nat.mod_eq_of_lt]
    exact Nat.lt_of_lt_of_le hx (Nat.pow_le_pow_right (by omega) (by omega))
  unfold same
  rw [ht, hv, if_pos ⟨⟨h0, hl⟩, by rw [List.length_append, lit_len]; omega, hx⟩]
end Um
end Go.Proofs.YtkcobccmifkjcaaDoor

namespace Go.Proofs.YtkcobccmifkjcaaDoor
open Go.RowKit
theorem Tryd.info3 : (Tryd.prog.info? 3).map (fun i => (i.zero, i.size, i.bytes)) = some (some (.int .i64 0), 1, 8) := by kernel_rfl
theorem Tryd.info148 : (Tryd.prog.info? 148).map (fun i => (i.zero, i.size, i.bytes)) = some (some (.int .u64 0), 1, 8) := by kernel_rfl
/-- Where a slice's cells lie. -/
def Lies (w : World) (a : Option Addr) (cs : List Value) : Prop := ∀ j (h : j < cs.length), ∃ b o, a = some ⟨b, o, none⟩ ∧ w.cell? ⟨b, o + j, none⟩ = some cs[j]
theorem Lies.keep {w w' : World} {a : Option Addr} {cs : List Value} (h : Lies w a cs) (hb : Below w.heap.size w w') : Lies w' a cs := fun j hj => by
  obtain ⟨b, o, e, hc⟩ := h j hj
  exact ⟨b, o, e, (hb.cell (World.block_lt_of_cell? w _ hc)).trans hc⟩
theorem addr_add (b o j : Nat) : (⟨b, o, none⟩ : Addr).add j = ⟨b, o + j, none⟩ := by unfold Addr.add; split <;> simp_all
/-- What is owned lies somewhere. -/
theorem lies_own {w : World} {base e n : Nat} {v : Value} {cs : List Value} (h : w.ownsRow base e 1 v n cs) : ∃ a c, v = .slice a cs.length c ∧ Lies w a cs := by
  have hl := h.1
  rw [Nat.mul_one] at hl
  rcases h.2 with ⟨rfl, rfl⟩ | ⟨g, cap, cur, rfl, _, hg, _, _, _, htake⟩
  · refine ⟨none, 0, by rw [hl], fun j hj => absurd hj (by omega)⟩
  · refine ⟨some ⟨g, 0, none⟩, cap, by rw [hl], fun j hj => ⟨g, 0, rfl, ?_⟩⟩
    have := h.cells rfl j _ (List.getElem?_eq_getElem hj)
    rw [addr_add] at this
    exact this
/-- What is returned is a slice with these cells. -/
def RetSl (e : Ending) (w' : World) (n : Nat) (cs : List Value) : Prop := ∃ a c, e = .returned (.slice a n c) ∧ Lies w' a cs
def i64s (xs : List Int) : List Value := xs.map (Value.int .i64)
theorem i64s_len (xs : List Int) : (i64s xs).length = xs.length := by simp [i64s]
theorem lies_ints {w : World} {a : Option Addr} {xs : List Int} (h : Lies w a (i64s xs)) : ∀ j (h : j < xs.length), ∃ b o, a = some ⟨b, o, none⟩ ∧ w.cell? ⟨b, o + j, none⟩ = some (.int .i64 xs[j]) := fun j hj => by
  obtain ⟨b, o, e, hc⟩ := h j (by rw [i64s_len]; exact hj)
  exact ⟨b, o, e, by rw [hc]; simp [i64s]⟩
set_option maxRecDepth 100000 in
/-- ints: a copy. -/
theorem ints_any (a : Option Addr) (c : Nat) (xs : List Int) (w : World) (hn : xs.length ≤ 20000) (h : Lies w a (i64s xs)) :
    Calls Tryd.prog 31 #[.slice a xs.length c] w fun e w' => RetSl e w' xs.length (i64s xs) ∧ Below w.heap.size w w' := by
  obtain ⟨i0, hi, hz0, hz1, hz2⟩ := info_parts Tryd.info3
  have HL : Hid (Lies w a (i64s xs)) := h
  clear h
  cases a with
  | none =>
    have h0 : xs.length = 0 := by
      by_cases h : 0 < xs.length
      · obtain ⟨b, o, e, _⟩ := HL.out 0 (by rw [i64s_len]; exact h)
        cases e
      · omega
    obtain rfl : xs = [] := List.eq_nil_of_length_eq_zero h0
    go_enter Tryd.func31, Tryd.ntmps31
    have hap : ∀ W : World, (Builtin.append_ #[22, 22] 22 #[.slice none 0 0, .slice none 0 c]).run Tryd.prog W = .ok (.slice none 0 0) W := fun W => by
      simp [Builtin.append_, run_underlying Tryd.underlying22, sizeOf, typeInfo, hi, Builtin.lenOf, Builtin.firstCells]
    go_wp2_with (at_builtin; refine Lib.wpList_append_run _ rfl _ _ 22 22 rfl _ _ rfl rfl _ _ (hap _) ?_)
    go_ret
    exact ⟨⟨none, 0, rfl, fun j hj => absurd hj (by simp [i64s])⟩, Below.refl _ _⟩
  | some ad =>
    have hn' : ∀ j u, (i64s xs)[j]? = some u → w.cell? (ad.add j) = some u := fun j u hu => by
      obtain ⟨hj, rfl⟩ := List.getElem?_eq_some_iff.1 hu
      obtain ⟨b, o, e, hc⟩ := HL.out j hj
      obtain rfl := Option.some.inj e
      rw [addr_add]; exact hc
    go_enter Tryd.func31, Tryd.ntmps31
    go_wp2_with (at_builtin; refine wpList_append_own _ rfl _ _ 22 rfl w.heap.size 3 i0 (.int .i64 0) 1 8 Tryd.underlying22 hi hz0 hz1 hz2 rfl (by decide) (.slice none 0 0) 0 [] rfl (World.ownsRow_nil w w.heap.size 3 1) ad xs.length c (i64s xs) rfl (by rw [i64s_len, Nat.mul_one]) hn' (by intro u hu; obtain ⟨x, _, rfl⟩ := List.mem_map.1 hu; rfl) (by unfold maxLen; omega) (by omega) (Nat.le_refl _) ?_; intro v' w1 hown hgrow _)
    obtain ⟨a', c', rfl, hl⟩ := lies_own hown
    rw [List.nil_append] at hl
    go_ret
    exact ⟨⟨a', c', by rw [List.nil_append, i64s_len]; rfl, hl⟩, (Below.refl _ _).grown hgrow (Nat.le_refl _) (fun k hk => by simp [Value.ownBlock] at hk)⟩
/-- Numbers without a sign, as cells. -/
def u64s (ns : List Nat) : List Value := ns.map fun n : Nat => .int .u64 (n : Int)
theorem u64s_len (ns : List Nat) : (u64s ns).length = ns.length := by simp [u64s]
theorem own_bit_snoc {w : World} {base e N m : Nat} {v : Value} {n : Int} (hn : n = ((N / 2 ^ m % 2 : Nat) : Int)) (h : w.ownsRow base e 1 v (m + 1) (cellsOf (Um.bitl N m) ++ [.int .u8 n])) : w.ownsRow base e 1 v (m + 1) (cellsOf (Um.bitl N (m + 1))) := by
  rw [Um.bitl_succ, cells_snoc, Um.bt_int (by omega) (by omega), ← hn]; exact h
end Go.Proofs.YtkcobccmifkjcaaDoor

namespace Go.Proofs.YtkcobccmifkjcaaDoor
open Go.RowKit
/-- What a loop that fills a row of its own keeps. -/
structure GRow (f : Nat → Value) (k g : Nat) (w wr : World) (i : Nat) : Prop where
  done : ∀ j, j < i → wr.cell? ⟨g, j, none⟩ = some (f j)
  any : ∀ j, j < k → ∃ v, wr.cell? ⟨g, j, none⟩ = some v
  froz : ∀ j, j < k → wr.frozen? ⟨g, j, none⟩ = false
  old : Below w.heap.size w wr
theorem GRow.start (f : Nat → Value) (k ty : Nat) (w : World) (M : Array Value) (hM : M.size = k) : GRow f k w.heap.size w (w.alloc (.cells M ty)) 0 := by
  refine ⟨fun j h => absurd h (Nat.not_lt_zero _), fun j hj => ?_, fun j _ => ?_, (Below.refl _ _).alloc (Nat.le_refl _) _⟩
  · rw [cell_of_row _ w.heap.size j M ty (0, 0) (heap_alloc_new w _)]
    exact ⟨_, Array.getElem?_eq_getElem (by omega)⟩
  · exact frozen_of_row _ w.heap.size j M ty (heap_alloc_new w _)
theorem GRow.next {f : Nat → Value} {k g : Nat} {w wr : World} {i : Nat} {v : Value} (h : GRow f k g w wr i) (hg : w.heap.size ≤ g) (hi : i < k) (hv : v = f i) : GRow f k g w (wr.setCell ⟨g, i, none⟩ v) (i + 1) := by
  subst hv
  obtain ⟨v, hv⟩ := h.any i hi
  have hother : ∀ j, j ≠ i → (wr.setCell ⟨g, i, none⟩ (f i)).cell? ⟨g, j, none⟩ = wr.cell? ⟨g, j, none⟩ := fun j hj =>
    World.cell?_setCell_other _ _ _ _ (fun e => hj (by injection e with _ e; exact e.symm))
  refine ⟨fun j hj => ?_, fun j hj => ?_, fun j hj => by simpa using h.froz j hj, h.old.setCell hg _⟩
  · by_cases e : j = i
    · subst e; exact World.cell?_setCell_same _ _ _ hv
    · rw [hother j e]; exact h.done j (by omega)
  · by_cases e : j = i
    · subst e; exact ⟨_, World.cell?_setCell_same _ _ _ hv⟩
    · rw [hother j e]; exact h.any j hj
theorem and_mask {r k : Nat} (hr : r < 18446744073709551616) (hk : k ≤ 32) : bits .and .u64 (r : Int) (2 ^ k - 1) = ((r % 2 ^ k : Nat) : Int) := by
  have hp := Nat.two_pow_pos k
  have hp2 : 2 ^ k ≤ 4294967296 := Nat.le_trans (Nat.pow_le_pow_right (by omega) hk) (by decide)
  have e : (2 : Int) ^ k - 1 = ((2 ^ k - 1 : Nat) : Int) := by
    rw [Int.ofNat_sub hp]; simp
  rw [e, u64_and_nat r (2 ^ k - 1) hr (by omega), Nat.and_two_pow_sub_one_eq_mod]
theorem or_shift32 {r x h : Nat} (hr : r < 2 ^ h) (hx : x < 256) (hh : h ≤ 32) : bits .or .u64 (r : Int) (IntKind.u64.wrap ((x : Int) * 2 ^ h)) = ((r + x * 2 ^ h : Nat) : Int) ∧ r + x * 2 ^ h < 18446744073709551616 := by
  have h8 : 2 ^ h ≤ 2 ^ 32 := Nat.pow_le_pow_right (by omega) hh
  have hm : x * 2 ^ h ≤ 256 * 2 ^ 32 := Nat.mul_le_mul (by omega) h8
  have h32 : 2 ^ 32 = 4294967296 := by decide
  have e : (x : Int) * 2 ^ h = ((x * 2 ^ h : Nat) : Int) := by simp
  have e2 : IntKind.u64.wrap ((x : Int) * 2 ^ h) = ((x * 2 ^ h : Nat) : Int) := by
    rw [e, IntKind.wrap_u64]; omega
  refine ⟨?_, by omega⟩
  rw [e2, or64 r _ (by omega) (by omega), Um.or_above hr]
theorem mask_wrap {k : Nat} (hk : k ≤ 32) : IntKind.u64.wrap (2 ^ k) = 2 ^ k ∧ IntKind.u64.wrap (2 ^ k - 1) = 2 ^ k - 1 ∧ ((2 : Int) ^ k - 1) % 18446744073709551616 = 2 ^ k - 1 ∧ ((2 : Int) ^ k) % 18446744073709551616 = 2 ^ k := by
  have h := Nat.pow_le_pow_right (n := 2) (by omega) hk
  have e : ((2 ^ k : Nat) : Int) = (2 : Int) ^ k := by simp
  have h32 : (2 : Nat) ^ 32 = 4294967296 := by decide
  have hp := Nat.two_pow_pos k
  rw [← e, IntKind.wrap_u64, IntKind.wrap_u64]
  omega
/-- The loops' relations. -/
structure UO (s : ByteArray) (wd n : Nat) (w : World) (r h nx x : Value) (wr : World) (i q r' h' : Nat) : Prop where
  hx : x = .int .i64 i
  hr : r = .int .u64 r'
  hh : h = .int .i64 h'
  hn : nx = .int .i64 q
  le : i ≤ n
  hq : q ≤ s.size
  bal : wd * i + h' = 8 * q
  rest : r' = Um.lev (s.data.toList.take q) / 2 ^ (wd * i)
  row : GRow (fun j => .int .i64 ((Um.lev s.data.toList / 2 ^ (wd * j) % 2 ^ wd : Nat) : Int)) n w.heap.size w wr i
structure UI (s : ByteArray) (wd i : Nat) (r h nx : Value) (q r' h' : Nat) : Prop where
  hr : r = .int .u64 r'
  hh : h = .int .i64 h'
  hn : nx = .int .i64 q
  hq : q ≤ s.size
  bal : wd * i + h' = 8 * q
  rest : r' = Um.lev (s.data.toList.take q) / 2 ^ (wd * i)
  small : h' < wd + 8
theorem UI.lt {s : ByteArray} {wd i : Nat} {r h nx : Value} {q r' h' : Nat} (u : UI s wd i r h nx q r' h') : r' < 2 ^ h' := by
  rw [u.rest, show h' = 8 * q - wd * i by have := u.bal; omega]
  exact Um.div_lt_pow (Um.lev_take_lt _ _ (by simpa using u.hq)) (by have := u.bal; omega)
theorem UI.lt64 {s : ByteArray} {wd i : Nat} {r h nx : Value} {q r' h' : Nat} (u : UI s wd i r h nx q r' h') (hwd : wd ≤ 32) : r' < 18446744073709551616 :=
  Nat.lt_of_lt_of_le u.lt (Nat.le_trans (Nat.pow_le_pow_right (n := 2) (by omega) (show h' ≤ 64 by have := u.small; omega)) (by decide))
theorem UI.step {s : ByteArray} {wd i : Nat} {r h nx : Value} {q r' h' : Nat} (u : UI s wd i r h nx q r' h') (hq : q < s.size) (hh : h' < wd) :
    UI s wd i (.int .u64 ((r' + (s[q]).toNat * 2 ^ h' : Nat) : Int)) (.int .i64 ((h' + 8 : Nat) : Int)) (.int .i64 ((q + 1 : Nat) : Int)) (q + 1) (r' + (s[q]).toNat * 2 ^ h') (h' + 8) := by
  refine ⟨rfl, rfl, rfl, hq, by have := u.bal; omega, ?_, by omega⟩
  have e : (s.data.toList)[q]'(by simpa using hq) = s[q] := rfl
  rw [Um.lev_take _ q (by simpa using hq), Um.add_above _ _ _ _ (by have := u.bal; omega), ← u.rest, e, show 8 * q - wd * i = h' by have := u.bal; omega]
end Go.Proofs.YtkcobccmifkjcaaDoor
