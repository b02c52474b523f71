/-
  bitrun.unpack: the numbers that bytes are, so many bits each.
  Numbers as runs: the bytes that are written: the mathematics, without the program.
  slices.Min and slices.Max of numbers.
-/
import Derived.Test.YtjchkhdmjbojjaaDoorLBPackF
import Derived.Test.YtjchkhdmjbojjaaDoorLBMath
namespace Go.Proofs.YtjchkhdmjbojjaaDoor
open Go.RowKit
/-- What a loop that fills a row of its own keeps. -/
structure GRow (f : Nat → Value) (k g : Nat) (w wr : World) (i : Nat) : Prop where
  done : ∀ j, j < i → wr.cell? ⟨g, j, none⟩ = some (f j)
  any : ∀ j, j < k → ∃ v, wr.cell? ⟨g, j, none⟩ = some v
  froz : ∀ j, j < k → wr.frozen? ⟨g, j, none⟩ = false
  old : Below w.heap.size w wr
theorem GRow.start (f : Nat → Value) (k ty : Nat) (w : World) (M : Array Value) (hM : M.size = k) : GRow f k w.heap.size w (w.alloc (.cells M ty)) 0 := by
  refine ⟨fun j h => absurd h (Nat.not_lt_zero _), fun j hj => ?_, fun j _ => ?_, (Below.refl _ _).alloc (Nat.le_refl _) _⟩
  · rw [cell_of_row _ w.heap.size j M ty (0, 0) (heap_alloc_new w _)]
    exact ⟨_, Array.getElem?_eq_getElem (by omega)⟩
  · exact frozen_of_row _ w.heap.size j M ty (heap_alloc_new w _)
theorem GRow.next {f : Nat → Value} {k g : Nat} {w wr : World} {i : Nat} {v : Value} (h : GRow f k g w wr i) (hg : w.heap.size ≤ g) (hi : i < k) (hv : v = f i) : GRow f k g w (wr.setCell ⟨g, i, none⟩ v) (i + 1) := by
  subst hv
  obtain ⟨v, hv⟩ := h.any i hi
  have hother : ∀ j, j ≠ i → (wr.setCell ⟨g, i, none⟩ (f i)).cell? ⟨g, j, none⟩ = wr.cell? ⟨g, j, none⟩ := fun j hj =>
    World.cell?_setCell_other _ _ _ _ (fun e => hj (by injection e with _ e; exact e.symm))
  refine ⟨fun j hj => ?_, fun j hj => ?_, fun j hj => by simpa using h.froz j hj, h.old.setCell hg _⟩
  · by_cases e : j = i
    · subst e; exact World.cell?_setCell_same _ _ _ hv
    · rw [hother j e]; exact h.done j (by omega)
  · by_cases e : j = i
    · subst e; exact ⟨_, World.cell?_setCell_same _ _ _ hv⟩
    · rw [hother j e]; exact h.any j hj
theorem and_mask {r k : Nat} (hr : r < 18446744073709551616) (hk : k ≤ 32) : bits .and .u64 (r : Int) (2 ^ k - 1) = ((r % 2 ^ k : Nat) : Int) := by
  have hp := Nat.two_pow_pos k
  have hp2 : 2 ^ k ≤ 4294967296 := Nat.le_trans (Nat.pow_le_pow_right (by omega) hk) (by decide)
  have e : (2 : Int) ^ k - 1 = ((2 ^ k - 1 : Nat) : Int) := by
    rw [Int.ofNat_sub hp]; simp
  rw [e, u64_and_nat r (2 ^ k - 1) hr (by omega), Nat.and_two_pow_sub_one_eq_mod]
theorem or_shift32 {r x h : Nat} (hr : r < 2 ^ h) (hx : x < 256) (hh : h ≤ 32) : bits .or .u64 (r : Int) (IntKind.u64.wrap ((x : Int) * 2 ^ h)) = ((r + x * 2 ^ h : Nat) : Int) ∧ r + x * 2 ^ h < 18446744073709551616 := by
  have h8 : 2 ^ h ≤ 2 ^ 32 := Nat.pow_le_pow_right (by omega) hh
  have hm : x * 2 ^ h ≤ 256 * 2 ^ 32 := Nat.mul_le_mul (by omega) h8
  have h32 : 2 ^ 32 = 4294967296 := by decide
  have e : (x : Int) * 2 ^ h = ((x * 2 ^ h : Nat) : Int) := by simp
  have e2 : IntKind.u64.wrap ((x : Int) * 2 ^ h) = ((x * 2 ^ h : Nat) : Int) := by
    rw [e, IntKind.wrap_u64]; omega
  refine ⟨?_, by omega⟩
  rw [e2, or64 r _ (by omega) (by omega), Um.or_above hr]
theorem mask_wrap {k : Nat} (hk : k ≤ 32) : IntKind.u64.wrap (2 ^ k) = 2 ^ k ∧ IntKind.u64.wrap (2 ^ k - 1) = 2 ^ k - 1 ∧ ((2 : Int) ^ k - 1) % 18446744073709551616 = 2 ^ k - 1 ∧ ((2 : Int) ^ k) % 18446744073709551616 = 2 ^ k := by
  have h := Nat.pow_le_pow_right (n := 2) (by omega) hk
  have e : ((2 ^ k : Nat) : Int) = (2 : Int) ^ k := by simp
  have h32 : (2 : Nat) ^ 32 = 4294967296 := by decide
  have hp := Nat.two_pow_pos k
  rw [← e, IntKind.wrap_u64, IntKind.wrap_u64]
  omega
/-- The loops' relations. -/
structure UO (s : ByteArray) (wd n : Nat) (w : World) (r h nx x : Value) (wr : World) (i q r' h' : Nat) : Prop where
  hx : x = .int .i64 i
  hr : r = .int .u64 r'
  hh : h = .int .i64 h'
  hn : nx = .int .i64 q
  le : i ≤ n
  hq : q ≤ s.size
  bal : wd * i + h' = 8 * q
  rest : r' = Um.lev (s.data.toList.take q) / 2 ^ (wd * i)
  row : GRow (fun j => .int .i64 ((Um.lev s.data.toList / 2 ^ (wd * j) % 2 ^ wd : Nat) : Int)) n w.heap.size w wr i
structure UI (s : ByteArray) (wd i : Nat) (r h nx : Value) (q r' h' : Nat) : Prop where
  hr : r = .int .u64 r'
  hh : h = .int .i64 h'
  hn : nx = .int .i64 q
  hq : q ≤ s.size
  bal : wd * i + h' = 8 * q
  rest : r' = Um.lev (s.data.toList.take q) / 2 ^ (wd * i)
  small : h' < wd + 8
theorem UI.lt {s : ByteArray} {wd i : Nat} {r h nx : Value} {q r' h' : Nat} (u : UI s wd i r h nx q r' h') : r' < 2 ^ h' := by
  rw [u.rest, show h' = 8 * q - wd * i by have := u.bal; omega]
  exact Um.div_lt_pow (Um.lev_take_lt _ _ (by simpa using u.hq)) (by have := u.bal; omega)
theorem UI.lt64 {s : ByteArray} {wd i : Nat} {r h nx : Value} {q r' h' : Nat} (u : UI s wd i r h nx q r' h') (hwd : wd ≤ 32) : r' < 18446744073709551616 :=
  Nat.lt_of_lt_of_le u.lt (Nat.le_trans (Nat.pow_le_pow_right (n := 2) (by omega) (show h' ≤ 64 by have := u.small; omega)) (by decide))
theorem UI.step {s : ByteArray} {wd i : Nat} {r h nx : Value} {q r' h' : Nat} (u : UI s wd i r h nx q r' h') (hq : q < s.size) (hh : h' < wd) :
    UI s wd i (.int .u64 ((r' + (s[q]).toNat * 2 ^ h' : Nat) : Int)) (.int .i64 ((h' + 8 : Nat) : Int)) (.int .i64 ((q + 1 : Nat) : Int)) (q + 1) (r' + (s[q]).toNat * 2 ^ h') (h' + 8) := by
  refine ⟨rfl, rfl, rfl, hq, by have := u.bal; omega, ?_, by omega⟩
  have e : (s.data.toList)[q]'(by simpa using hq) = s[q] := rfl
  rw [Um.lev_take _ q (by simpa using hq), Um.add_above _ _ _ _ (by have := u.bal; omega), ← u.rest, e, show 8 * q - wd * i = h' by have := u.bal; omega]
set_option maxRecDepth 100000 in
set_option maxHeartbeats 1600000 in
theorem unpack_any (s : ByteArray) (wd n : Nat) (w : World) (hs : s.size ≤ 1000000) (hn : n ≤ 20008) (hwd : wd ≤ 32) (hfit : wd * n ≤ 8 * s.size) :
    Calls Tryd.prog 106 #[.string s, .int .i64 wd, .int .i64 n] w fun e w' => (e = .returned (.slice (some ⟨w.heap.size, 0, none⟩) n n) ∧
      ∀ j, j < n → w'.cell? ⟨w.heap.size, j, none⟩ = some (.int .i64 ((Um.lev s.data.toList / 2 ^ (wd * j) % 2 ^ wd : Nat) : Int))) ∧ Below w.heap.size w w' := by
  obtain ⟨i0, hi, hz0, hz1, hz2⟩ := info_parts Tryd.info3
  obtain ⟨M, hM⟩ : ∃ M, M = madeCells (Value.int .i64 0).cells (((n : Nat) : Int).toNat * i0.size) := ⟨_, rfl⟩
  have hMs : M.size = n := by rw [hM, size_madeCells, hz1]; simp
  have hmk : ∀ W : World, (Instr.makeSlice 49 (.int .i64 (n : Int)) (.int .i64 (n : Int))).run Tryd.prog W = .ok (.slice (some ⟨W.heap.size, 0, none⟩) n n) (W.alloc (.cells M 3)) := fun W => by
    have h := run_make (P := Tryd.prog) W 49 3 i0 (.int .i64 0) Tryd.underlying49 hi hz0 .i64 .i64 (n : Int) (n : Int) (by omega) (by omega) (by rw [hz2]; omega) (by omega)
    rw [← hM] at h
    simpa using h
  have HS : Hid (GRow (fun j => .int .i64 ((Um.lev s.data.toList / 2 ^ (wd * j) % 2 ^ wd : Nat) : Int)) n w.heap.size w (w.alloc (.cells M 3)) 0) := GRow.start _ n 3 w M hMs
  have HF : Hid (wd * n ≤ 8 * s.size) := hfit
  clear hM hMs hi hz0 hz1 hz2 hfit
  have hmw := mask_wrap hwd
  go_enter Tryd.func106, Tryd.ntmps106
  go_wp2
  clear hmk
  go_loopw [8, 9, 10, 16] (fun r h nx x wr => ∃ i q r' h' : Nat, UO s wd n w r h nx x wr i q r' h' ∧ h' < 8) (fun _ _ _ x _ => n - (intOf x).toNat)
  case atStart => exact ⟨0, 0, 0, 0, ⟨rfl, rfl, rfl, rfl, Nat.zero_le _, Nat.zero_le _, by omega, by simp [Um.lev], HS⟩, by omega⟩
  case round =>
    obtain ⟨i, q, r, h, HU, hh⟩ := hrel
    obtain ⟨rfl, rfl, rfl, rfl, hle, hq, hbal, hrest, hrow⟩ := HU
    have HR : Hid (GRow (fun j => .int .i64 ((Um.lev s.data.toList / 2 ^ (wd * j) % 2 ^ wd : Nat) : Int)) n w.heap.size w wr i) := hrow
    have HI : Hid (UI s wd i (.int .u64 r) (.int .i64 h) (.int .i64 q) q r h) := ⟨rfl, rfl, rfl, hq, hbal, hrest, by omega⟩
    clear hbal hrest hrow
    by_cases hlt : i < n
    · go_wp2
      go_loop [8, 9, 10] (fun r h nx => ∃ q r' h' : Nat, Hid (UI s wd i r h nx q r' h')) (fun _ h _ => wd + 8 - (intOf h).toNat)
      case atStart => exact ⟨q, r, h, HI⟩
      case round =>
        clear HI hh hq
        obtain ⟨q, r, h, HI⟩ := hrel
        obtain ⟨rfl, rfl, rfl, hq, hbal, hrest, hsm⟩ := HI.out
        have hr64 := HI.out.lt64 hwd
        have hrl := HI.out.lt
        by_cases hw : h < wd
        · have hqs : q < s.size := by
            have h1 : wd * (i + 1) ≤ wd * n := Nat.mul_le_mul_left _ hlt
            have h2 := HF.out
            rw [Nat.mul_add, Nat.mul_one] at h1
            omega
          have HN : Hid (UI s wd i (.int .u64 ((r + (s[q]).toNat * 2 ^ h : Nat) : Int)) (.int .i64 ((h + 8 : Nat) : Int)) (.int .i64 ((q + 1 : Nat) : Int)) (q + 1) (r + (s[q]).toNat * 2 ^ h) (h + 8)) := HI.out.step hqs hw
          have hb8 : s[q].toNat < 256 := s[q].toNat_lt
          have hor := (or_shift32 hrl hb8 (by omega)).1
          clear hbal hrest hrl
          go_wp2
          go_round
          case rel => exact ⟨q + 1, r + (s[q]).toNat * 2 ^ h, h + 8, ⟨by simp, by go_num, by go_num, HN.out.hq, HN.out.bal, HN.out.rest, HN.out.small⟩⟩
          case measure => simp [intOf]; omega
        · have hand := and_mask hr64 hwd
          have HV : Hid (r % 2 ^ wd = Um.lev s.data.toList / 2 ^ (wd * i) % 2 ^ wd) := by
            show _ = _
            rw [hrest]
            exact Um.lev_cut _ q _ _ (by simpa using hq) (by omega)
          have HR2 : Hid (r / 2 ^ wd = Um.lev (s.data.toList.take q) / 2 ^ (wd * (i + 1))) := by
            show _ = _
            rw [hrest, Nat.div_div_eq_div_mul, ← Nat.pow_add, Nat.mul_add, Nat.mul_one]
          have HB2 : Hid (wd * (i + 1) + (h - wd) = 8 * q) := by show _ = _; rw [Nat.mul_add, Nat.mul_one]; omega
          have hmod : r % 2 ^ wd < 4294967296 := Nat.lt_of_lt_of_le (Nat.mod_lt _ (Nat.two_pow_pos wd)) (Nat.le_trans (Nat.pow_le_pow_right (n := 2) (by omega) hwd) (by decide))
          obtain ⟨v, hv⟩ := HR.out.any i hlt
          have hfz := HR.out.froz i hlt
          clear hbal hrest hrl
          generalize r % 2 ^ wd = m at hand HV hmod
          go_wp2
          go_roundw
          case rel => exact ⟨i + 1, q, r / 2 ^ wd, h - wd, ⟨by go_num, by simp, by go_num, rfl, by omega, hq, HB2.out, HR2.out, HR.out.next (Nat.le_refl _) hlt (by rw [HV.out])⟩, by omega⟩
          case measure => simp [intOf]; omega
    · go_wp2
      go_ret
      exact ⟨⟨rfl, fun j hj => HR.out.done j (by omega)⟩, HR.out.old⟩
end Go.Proofs.YtjchkhdmjbojjaaDoor

namespace Go.Proofs.YtjchkhdmjbojjaaDoor
namespace Um
/-- How many of the first number follow. -/
def lead : List Int → Nat
  | [] => 0
  | x :: l => 1 + (l.takeWhile (· == x)).length
theorem lead_pos {l : List Int} (h : 0 < l.length) : 0 < lead l := by
  cases l with
  | nil => simp at h
  | cons x l => simp [lead]; omega
theorem lead_le (l : List Int) : lead l ≤ l.length := by
  cases l with
  | nil => simp [lead]
  | cons x l =>
    have : (l.takeWhile (· == x)).length ≤ l.length := by
      have h := List.takeWhile_append_dropWhile (p := (· == x)) (l := l)
      have h2 := congrArg List.length h
      rw [List.length_append] at h2
      omega
    simp [lead]; omega
/-- The first k are the same, the next one is another one, or none: so many follow. -/
theorem lead_of {x : Int} : ∀ {l : List Int} {k : Nat}, (∀ j (h : j < l.length), j < k → l[j] = x) → k ≤ l.length → (∀ h : k < l.length, l[k] ≠ x) → (l.takeWhile (· == x)).length = k
  | [], k, _, h2, _ => by simp at h2; simp [h2]
  | y :: l, 0, _, _, h3 => by
    have := h3 (by simp)
    simp at this
    simp [this]
  | y :: l, k + 1, h1, h2, h3 => by
    have hy : y = x := h1 0 (by simp) (by omega)
    have ih := lead_of (x := x) (l := l) (k := k) (fun j h hj => h1 (j + 1) (by simpa using h) (by omega)) (by simpa using h2) (fun h => h3 (by simpa using h))
    simp [hy, ih]
/-- Open numbers as a part of the second kind. -/
def flush (w : Nat) (p : List Int) : List UInt8 := if p.length = 0 then [] else uv (2 * ((p.length + 7) / 8) + 1) ++ lit (num w (nats p)) ((p.length + 7) / 8 * w)
/-- What is written of open numbers and the rest. -/
def wr (w : Nat) : Nat → List Int → List Int → List UInt8
  | 0, p, _ => flush w p
  | f + 1, p, r => if r.length = 0 then flush w p
    else if lead r < 8 then wr w f (p ++ r.take 8) (r.drop 8)
    else flush w p ++ (uv (2 * lead r) ++ lit (r.headD 0).toNat ((w + 7) / 8)) ++ wr w f [] (r.drop (lead r))
theorem wr_fuel (w : Nat) : ∀ (f g : Nat) (p r : List Int), r.length ≤ f → r.length ≤ g → wr w f p r = wr w g p r := by
  intro f
  induction f with
  | zero =>
    intro g p r hf hg
    have h0 : r.length = 0 := by omega
    cases g with
    | zero => rfl
    | succ g => simp only [wr]; rw [if_pos h0]
  | succ f ih =>
    intro g p r hf hg
    cases g with
    | zero =>
      have h0 : r.length = 0 := by omega
      simp only [wr]; rw [if_pos h0]
    | succ g =>
      simp only [wr]
      split
      · rfl
      · rename_i h0
        have hp := lead_pos (l := r) (by omega)
        split
        · rw [ih g _ _ (by rw [List.length_drop]; omega) (by rw [List.length_drop]; omega)]
        · rw [ih g _ _ (by rw [List.length_drop]; omega) (by rw [List.length_drop]; omega)]
def wrs (w : Nat) (p r : List Int) : List UInt8 := wr w r.length p r
theorem wrs_nil (w : Nat) (p : List Int) : wrs w p [] = flush w p := rfl
theorem wrs_short (w : Nat) (p r : List Int) (h0 : 0 < r.length) (h : lead r < 8) : wrs w p r = wrs w (p ++ r.take 8) (r.drop 8) := by
  unfold wrs
  obtain ⟨m, hm⟩ : ∃ m, r.length = m + 1 := ⟨r.length - 1, by omega⟩
  rw [hm]
  simp only [wr]
  rw [if_neg (by omega), if_pos h]
  exact wr_fuel w _ _ _ _ (by rw [List.length_drop]; omega) (Nat.le_refl _)
theorem wrs_long (w : Nat) (p r : List Int) (h : ¬ lead r < 8) : wrs w p r = flush w p ++ (uv (2 * lead r) ++ lit (r.headD 0).toNat ((w + 7) / 8)) ++ wrs w [] (r.drop (lead r)) := by
  have hl := lead_le r
  unfold wrs
  obtain ⟨m, hm⟩ : ∃ m, r.length = m + 1 := ⟨r.length - 1, by omega⟩
  rw [hm]
  simp only [wr]
  rw [if_neg (by omega), if_neg h]
  rw [wr_fuel w m (r.drop (lead r)).length _ _ (by rw [List.length_drop]; omega) (Nat.le_refl _)]
end Um
end Go.Proofs.YtjchkhdmjbojjaaDoor

namespace Go.Proofs.YtjchkhdmjbojjaaDoor
open Go.RowKit
def lows (xs : List Int) : Int := xs.foldl min (xs.getD 0 0)
def highs (xs : List Int) : Int := xs.foldl max (xs.getD 0 0)
def mins (x : Int) (xs : List Int) (i : Nat) : Int := (xs.take i).foldl min x
def maxs (x : Int) (xs : List Int) (i : Nat) : Int := (xs.take i).foldl max x
theorem mins_succ (x : Int) (xs : List Int) (i : Nat) (h : i < xs.length) : mins x xs (i + 1) = min (mins x xs i) xs[i] := by
  unfold mins; rw [List.take_succ_eq_append_getElem h, List.foldl_append]; rfl
theorem maxs_succ (x : Int) (xs : List Int) (i : Nat) (h : i < xs.length) : maxs x xs (i + 1) = max (maxs x xs i) xs[i] := by
  unfold maxs; rw [List.take_succ_eq_append_getElem h, List.foldl_append]; rfl
set_option maxRecDepth 100000 in
set_option maxHeartbeats 1600000 in
theorem min_any (a : Option Addr) (xs : List Int) (c : Nat) (w : World) (hl : Lies w a (i64s xs)) (h1 : 0 < xs.length) (hn : xs.length ≤ 20000) :
    Calls Tryd.prog 90 #[.slice a xs.length c] w fun e w' => e = .returned (.int .i64 (lows xs)) ∧ w' = w := by
  have HL : Hid _ := lies_ints hl
  obtain ⟨b, o, rfl, h0⟩ := lies_ints hl 0 h1
  rw [Nat.add_zero] at h0
  obtain ⟨x, hx⟩ : ∃ x, x = xs[0] := ⟨_, rfl⟩
  rw [← hx] at h0
  have HE : Hid (lows xs = mins x xs xs.length) := by
    show _ = _
    rw [hx]; simp [lows, mins, List.getD, h1]
  have HS : Hid (x = mins x xs 1) := by
    show _ = _
    rw [show 1 = 0 + 1 from rfl, mins_succ x xs 0 h1, ← hx]; simp [mins]
  clear hl hx
  go_enter Tryd.func90, Tryd.ntmps90
  go_wp2
  go_loop [3, 4] (fun m y => ∃ (i : Nat) (k : Int), i ≤ xs.length ∧ y = .int .i64 i ∧ m = .int .i64 k ∧ Hid (k = mins x xs i)) (fun _ y => xs.length - (intOf y).toNat)
  case atStart => exact ⟨1, x, by omega, rfl, rfl, HS⟩
  case round =>
    clear HS
    obtain ⟨i, k, hik, rfl, rfl, HK⟩ := hrel
    by_cases hlt : i < xs.length
    · obtain ⟨b', o', e', hc⟩ := HL.out i hlt
      obtain ⟨rfl, rfl⟩ : b = b' ∧ o = o' := by simpa using e'
      clear e'
      have HN : Hid (mins x xs (i + 1) = min k xs[i]) := by show _ = _; rw [mins_succ x xs i hlt, HK.out]
      generalize xs[i] = z at *
      by_cases hz : z < k
      · have HN2 : Hid (z = mins x xs (i + 1)) := by show _ = _; rw [HN.out]; omega
        go_wp2
        go_round
        case rel => exact ⟨i + 1, z, by omega, by go_num, rfl, HN2⟩
        case measure => simp [intOf]; omega
      · have HN2 : Hid (k = mins x xs (i + 1)) := by show _ = _; rw [HN.out]; omega
        go_wp2
        go_round
        case rel => exact ⟨i + 1, k, by omega, by go_num, rfl, HN2⟩
        case measure => simp [intOf]; omega
    · obtain rfl : i = xs.length := by omega
      go_wp2
      go_ret
      exact ⟨by rw [HE.out, ← HK.out]; rfl, rfl⟩
set_option maxRecDepth 100000 in
set_option maxHeartbeats 1600000 in
theorem max_any (a : Option Addr) (xs : List Int) (c : Nat) (w : World) (hl : Lies w a (i64s xs)) (h1 : 0 < xs.length) (hn : xs.length ≤ 20000) :
    Calls Tryd.prog 91 #[.slice a xs.length c] w fun e w' => e = .returned (.int .i64 (highs xs)) ∧ w' = w := by
  have HL : Hid _ := lies_ints hl
  obtain ⟨b, o, rfl, h0⟩ := lies_ints hl 0 h1
  rw [Nat.add_zero] at h0
  obtain ⟨x, hx⟩ : ∃ x, x = xs[0] := ⟨_, rfl⟩
  rw [← hx] at h0
  have HE : Hid (highs xs = maxs x xs xs.length) := by
    show _ = _
    rw [hx]; simp [highs, maxs, List.getD, h1]
  have HS : Hid (x = maxs x xs 1) := by
    show _ = _
    rw [show 1 = 0 + 1 from rfl, maxs_succ x xs 0 h1, ← hx]; simp [maxs]
  clear hl hx
  go_enter Tryd.func91, Tryd.ntmps91
  go_wp2
  go_loop [3, 4] (fun m y => ∃ (i : Nat) (k : Int), i ≤ xs.length ∧ y = .int .i64 i ∧ m = .int .i64 k ∧ Hid (k = maxs x xs i)) (fun _ y => xs.length - (intOf y).toNat)
  case atStart => exact ⟨1, x, by omega, rfl, rfl, HS⟩
  case round =>
    clear HS
    obtain ⟨i, k, hik, rfl, rfl, HK⟩ := hrel
    by_cases hlt : i < xs.length
    · obtain ⟨b', o', e', hc⟩ := HL.out i hlt
      obtain ⟨rfl, rfl⟩ : b = b' ∧ o = o' := by simpa using e'
      clear e'
      have HN : Hid (maxs x xs (i + 1) = max k xs[i]) := by show _ = _; rw [maxs_succ x xs i hlt, HK.out]
      generalize xs[i] = z at *
      by_cases hz : k < z
      · have HN2 : Hid (z = maxs x xs (i + 1)) := by show _ = _; rw [HN.out]; omega
        go_wp2
        go_round
        case rel => exact ⟨i + 1, z, by omega, by go_num, rfl, HN2⟩
        case measure => simp [intOf]; omega
      · have HN2 : Hid (k = maxs x xs (i + 1)) := by show _ = _; rw [HN.out]; omega
        go_wp2
        go_round
        case rel => exact ⟨i + 1, k, by omega, by go_num, rfl, HN2⟩
        case measure => simp [intOf]; omega
    · obtain rfl : i = xs.length := by omega
      go_wp2
      go_ret
      exact ⟨by rw [HE.out, ← HK.out]; rfl, rfl⟩
end Go.Proofs.YtjchkhdmjbojjaaDoor
