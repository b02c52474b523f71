/-
  What the law and the reference make of ints: ints, Wide, bitsOf, PackOf: what they answer.
  bitrun.unpack: the numbers that bytes are, so many bits each.
-/
import Derived.Test.YtkcobccmifkjcaaDoorBBPack
import Derived.Test.YtkcobccmifkjcaaDoorBBMath
import Derived.Test.YtkcobccmifkjcaaDoorBBBase
namespace Go.Proofs.YtkcobccmifkjcaaDoor
open Go.RowKit
theorem Tryd.info3 : (Tryd.prog.info? 3).map (fun i => (i.zero, i.size, i.bytes)) = some (some (.int .i64 0), 1, 8) := by kernel_rfl
theorem Tryd.info148 : (Tryd.prog.info? 148).map (fun i => (i.zero, i.size, i.bytes)) = some (some (.int .u64 0), 1, 8) := by kernel_rfl
/-- Where a slice's cells lie. -/
def Lies (w : World) (a : Option Addr) (cs : List Value) : Prop := ∀ j (h : j < cs.length), ∃ b o, a = some ⟨b, o, none⟩ ∧ w.cell? ⟨b, o + j, none⟩ = some cs[j]
theorem Lies.keep {w w' : World} {a : Option Addr} {cs : List Value} (h : Lies w a cs) (hb : Below w.heap.size w w') : Lies w' a cs := fun j hj => by
  obtain ⟨b, o, e, hc⟩ := h j hj
  exact ⟨b, o, e, (hb.cell (World.block_lt_of_cell? w _ hc)).trans hc⟩
theorem addr_add (b o j : Nat) : (⟨b, o, none⟩ : Addr).add j = ⟨b, o + j, none⟩ := by unfold Addr.add; split <;> simp_all
/-- What is owned lies somewhere. -/
theorem lies_own {w : World} {base e n : Nat} {v : Value} {cs : List Value} (h : w.ownsRow base e 1 v n cs) : ∃ a c, v = .slice a cs.length c ∧ Lies w a cs := by
  have hl := h.1
  rw [Nat.mul_one] at hl
  rcases h.2 with ⟨rfl, rfl⟩ | ⟨g, cap, cur, rfl, _, hg, _, _, _, htake⟩
  · refine ⟨none, 0, by rw [hl], fun j hj => absurd hj (by omega)⟩
  · refine ⟨some ⟨g, 0, none⟩, cap, by rw [hl], fun j hj => ⟨g, 0, rfl, ?_⟩⟩
    have := h.cells rfl j _ (List.getElem?_eq_getElem hj)
    rw [addr_add] at this
    exact this
/-- What is returned is a slice with these cells. -/
def RetSl (e : Ending) (w' : World) (n : Nat) (cs : List Value) : Prop := ∃ a c, e = .returned (.slice a n c) ∧ Lies w' a cs
def i64s (xs : List Int) : List Value := xs.map (Value.int .i64)
theorem i64s_len (xs : List Int) : (i64s xs).length = xs.length := by simp [i64s]
theorem lies_ints {w : World} {a : Option Addr} {xs : List Int} (h : Lies w a (i64s xs)) : ∀ j (h : j < xs.length), ∃ b o, a = some ⟨b, o, none⟩ ∧ w.cell? ⟨b, o + j, none⟩ = some (.int .i64 xs[j]) := fun j hj => by
  obtain ⟨b, o, e, hc⟩ := h j (by rw [i64s_len]; exact hj)
  exact ⟨b, o, e, by rw [hc]; simp [i64s]⟩
set_option maxRecDepth 100000 in
/-- ints: a copy. -/
theorem ints_any (a : Option Addr) (c : Nat) (xs : List Int) (w : World) (hn : xs.length ≤ 20000) (h : Lies w a (i64s xs)) :
    Calls Tryd.prog 31 #[.slice a xs.length c] w fun e w' => RetSl e w' xs.length (i64s xs) ∧ Below w.heap.size w w' := by
  obtain ⟨i0, hi, hz0, hz1, hz2⟩ := info_parts Tryd.info3
  have HL : Hid (Lies w a (i64s xs)) := h
  clear h
  cases a with
  | none =>
    have h0 : xs.length = 0 := by
      by_cases h : 0 < xs.length
      · obtain ⟨b, o, e, _⟩ := HL.out 0 (by rw [i64s_len]; exact h)
        cases e
      · omega
    obtain rfl : xs = [] := List.eq_nil_of_length_eq_zero h0
    go_enter Tryd.func31, Tryd.ntmps31
    have hap : ∀ W : World, (Builtin.append_ #[22, 22] 22 #[.slice none 0 0, .slice none 0 c]).run Tryd.prog W = .ok (.slice none 0 0) W := fun W => by
      simp [Builtin.append_, run_underlying Tryd.underlying22, sizeOf, typeInfo, hi, Builtin.lenOf, Builtin.firstCells]
    go_wp2_with (at_builtin; refine Lib.wpList_append_run _ rfl _ _ 22 22 rfl _ _ rfl rfl _ _ (hap _) ?_)
    go_ret
    exact ⟨⟨none, 0, rfl, fun j hj => absurd hj (by simp [i64s])⟩, Below.refl _ _⟩
  | some ad =>
    have hn' : ∀ j u, (i64s xs)[j]? = some u → w.cell? (ad.add j) = some u := fun j u hu => by
      obtain ⟨hj, rfl⟩ := List.getElem?_eq_some_iff.1 hu
      obtain ⟨b, o, e, hc⟩ := HL.out j hj
      obtain rfl := Option.some.inj e
      rw [addr_add]; exact hc
    go_enter Tryd.func31, Tryd.ntmps31
    go_wp2_with (at_builtin; refine wpList_append_own _ rfl _ _ 22 rfl w.heap.size 3 i0 (.int .i64 0) 1 8 Tryd.underlying22 hi hz0 hz1 hz2 rfl (by decide) (.slice none 0 0) 0 [] rfl (World.ownsRow_nil w w.heap.size 3 1) ad xs.length c (i64s xs) rfl (by rw [i64s_len, Nat.mul_one]) hn' (by intro u hu; obtain ⟨x, _, rfl⟩ := List.mem_map.1 hu; rfl) (by unfold maxLen; omega) (by omega) (Nat.le_refl _) ?_; intro v' w1 hown hgrow _)
    obtain ⟨a', c', rfl, hl⟩ := lies_own hown
    rw [List.nil_append] at hl
    go_ret
    exact ⟨⟨a', c', by rw [List.nil_append, i64s_len]; rfl, hl⟩, (Below.refl _ _).grown hgrow (Nat.le_refl _) (fun k hk => by simp [Value.ownBlock] at hk)⟩
/-- Numbers without a sign, as cells. -/
def u64s (ns : List Nat) : List Value := ns.map fun n : Nat => .int .u64 (n : Int)
theorem u64s_len (ns : List Nat) : (u64s ns).length = ns.length := by simp [u64s]
theorem own_bit_snoc {w : World} {base e N m : Nat} {v : Value} {n : Int} (hn : n = ((N / 2 ^ m % 2 : Nat) : Int)) (h : w.ownsRow base e 1 v (m + 1) (cellsOf (Um.bitl N m) ++ [.int .u8 n])) : w.ownsRow base e 1 v (m + 1) (cellsOf (Um.bitl N (m + 1))) := by
  rw [Um.bitl_succ, cells_snoc, Um.bt_int (by omega) (by omega), ← hn]; exact h
end Go.Proofs.YtkcobccmifkjcaaDoor

namespace Go.Proofs.YtkcobccmifkjcaaDoor
open Go.RowKit
/-- What a loop that fills a row of its own keeps. -/
structure GRow (f : Nat → Value) (k g : Nat) (w wr : World) (i : Nat) : Prop where
  done : ∀ j, j < i → wr.cell? ⟨g, j, none⟩ = some (f j)
  any : ∀ j, j < k → ∃ v, wr.cell? ⟨g, j, none⟩ = some v
  froz : ∀ j, j < k → wr.frozen? ⟨g, j, none⟩ = false
  old : Below w.heap.size w wr
theorem GRow.start (f : Nat → Value) (k ty : Nat) (w : World) (M : Array Value) (hM : M.size = k) : GRow f k w.heap.size w (w.alloc (.cells M ty)) 0 := by
  refine ⟨fun j h => absurd h (Nat.not_lt_zero _), fun j hj => ?_, fun j _ => ?_, (Below.refl _ _).alloc (Nat.le_refl _) _⟩
  · rw [cell_of_row _ w.heap.size j M ty (0, 0) (heap_alloc_new w _)]
    exact ⟨_, Array.getElem?_eq_getElem (by omega)⟩
  · exact frozen_of_row _ w.heap.size j M ty (heap_alloc_new w _)
theorem GRow.next {f : Nat → Value} {k g : Nat} {w wr : World} {i : Nat} {v : Value} (h : GRow f k g w wr i) (hg : w.heap.size ≤ g) (hi : i < k) (hv : v = f i) : GRow f k g w (wr.setCell ⟨g, i, none⟩ v) (i + 1) := by
  subst hv
  obtain ⟨v, hv⟩ := h.any i hi
  have hother : ∀ j, j ≠ i → (wr.setCell ⟨g, i, none⟩ (f i)).cell? ⟨g, j, none⟩ = wr.cell? ⟨g, j, none⟩ := fun j hj =>
    World.cell?_setCell_other _ _ _ _ (fun e => hj (by injection e with _ e; exact e.symm))
  refine ⟨fun j hj => ?_, fun j hj => ?_, fun j hj => by simpa using h.froz j hj, h.old.setCell hg _⟩
  · by_cases e : j = i
    · subst e; exact World.cell?_setCell_same _ _ _ hv
    · rw [hother j e]; exact h.done j (by omega)
  · by_cases e : j = i
    · subst e; exact ⟨_, World.cell?_setCell_same _ _ _ hv⟩
    · rw [hother j e]; exact h.any j hj
theorem and_mask {r k : Nat} (hr : r < 18446744073709551616) (hk : k ≤ 32) : bits .and .u64 (r : Int) (2 ^ k - 1) = ((r % 2 ^ k : Nat) : Int) := by
  have hp := Nat.two_pow_pos k
  have hp2 : 2 ^ k ≤ 4294967296 := Nat.le_trans (Nat.pow_le_pow_right (by omega) hk) (by decide)
  have e : (2 : Int) ^ k - 1 = ((2 ^ k - 1 : Nat) : Int) := by
    rw [Int.ofNat_sub hp]; simp
  rw [e, u64_and_nat r (2 ^ k - 1) hr (by omega), Nat.and_two_pow_sub_one_eq_mod]
theorem or_shift32 {r x h : Nat} (hr : r < 2 ^ h) (hx : x < 256) (hh : h ≤ 32) : bits .or .u64 (r : Int) (IntKind.u64.wrap ((x : Int) * 2 ^ h)) = ((r + x * 2 ^ h : Nat) : Int) ∧ r + x * 2 ^ h < 18446744073709551616 := by
  have h8 : 2 ^ h ≤ 2 ^ 32 := Nat.pow_le_pow_right (by omega) hh
  have hm : x * 2 ^ h ≤ 256 * 2 ^ 32 := Nat.mul_le_mul (by omega) h8
  have h32 : 2 ^ 32 = 4294967296 := by decide
  have e : (x : Int) * 2 ^ h = ((x * 2 ^ h : Nat) : Int) := by simp
  have e2 : IntKind.u64.wrap ((x : Int) * 2 ^ h) = ((x * 2 ^ h : Nat) : Int) := by
    rw [e, IntKind.wrap_u64]; omega
  refine ⟨?_, by omega⟩
  rw [e2, or64 r _ (by omega) (by omega), Um.or_above hr]
theorem mask_wrap {k : Nat} (hk : k ≤ 32) : IntKind.u64.wrap (2 ^ k) = 2 ^ k ∧ IntKind.u64.wrap (2 ^ k - 1) = 2 ^ k - 1 ∧ ((2 : Int) ^ k - 1) % 18446744073709551616 = 2 ^ k - 1 ∧ ((2 : Int) ^ k) % 18446744073709551616 = 2 ^ k := by
  have h := Nat.pow_le_pow_right (n := 2) (by omega) hk
  have e : ((2 ^ k : Nat) : Int) = (2 : Int) ^ k := by simp
  have h32 : (2 : Nat) ^ 32 = 4294967296 := by decide
  have hp := Nat.two_pow_pos k
  rw [← e, IntKind.wrap_u64, IntKind.wrap_u64]
  omega
/-- The loops' relations. -/
structure UO (s : ByteArray) (wd n : Nat) (w : World) (r h nx x : Value) (wr : World) (i q r' h' : Nat) : Prop where
  hx : x = .int .i64 i
  hr : r = .int .u64 r'
  hh : h = .int .i64 h'
  hn : nx = .int .i64 q
  le : i ≤ n
  hq : q ≤ s.size
  bal : wd * i + h' = 8 * q
  rest : r' = Um.lev (s.data.toList.take q) / 2 ^ (wd * i)
  row : GRow (fun j => .int .i64 ((Um.lev s.data.toList / 2 ^ (wd * j) % 2 ^ wd : Nat) : Int)) n w.heap.size w wr i
structure UI (s : ByteArray) (wd i : Nat) (r h nx : Value) (q r' h' : Nat) : Prop where
  hr : r = .int .u64 r'
  hh : h = .int .i64 h'
  hn : nx = .int .i64 q
  hq : q ≤ s.size
  bal : wd * i + h' = 8 * q
  rest : r' = Um.lev (s.data.toList.take q) / 2 ^ (wd * i)
  small : h' < wd + 8
theorem UI.lt {s : ByteArray} {wd i : Nat} {r h nx : Value} {q r' h' : Nat} (u : UI s wd i r h nx q r' h') : r' < 2 ^ h' := by
  rw [u.rest, show h' = 8 * q - wd * i by have := u.bal; omega]
  exact Um.div_lt_pow (Um.lev_take_lt _ _ (by simpa using u.hq)) (by have := u.bal; omega)
theorem UI.lt64 {s : ByteArray} {wd i : Nat} {r h nx : Value} {q r' h' : Nat} (u : UI s wd i r h nx q r' h') (hwd : wd ≤ 32) : r' < 18446744073709551616 :=
  Nat.lt_of_lt_of_le u.lt (Nat.le_trans (Nat.pow_le_pow_right (n := 2) (by omega) (show h' ≤ 64 by have := u.small; omega)) (by decide))
theorem UI.step {s : ByteArray} {wd i : Nat} {r h nx : Value} {q r' h' : Nat} (u : UI s wd i r h nx q r' h') (hq : q < s.size) (hh : h' < wd) :
    UI s wd i (.int .u64 ((r' + (s[q]).toNat * 2 ^ h' : Nat) : Int)) (.int .i64 ((h' + 8 : Nat) : Int)) (.int .i64 ((q + 1 : Nat) : Int)) (q + 1) (r' + (s[q]).toNat * 2 ^ h') (h' + 8) := by
  refine ⟨rfl, rfl, rfl, hq, by have := u.bal; omega, ?_, by omega⟩
  have e : (s.data.toList)[q]'(by simpa using hq) = s[q] := rfl
  rw [Um.lev_take _ q (by simpa using hq), Um.add_above _ _ _ _ (by have := u.bal; omega), ← u.rest, e, show 8 * q - wd * i = h' by have := u.bal; omega]
end Go.Proofs.YtkcobccmifkjcaaDoor
