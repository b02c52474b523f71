/-
  slices.Min and slices.Max of numbers.
  A row of the call's own with its cells' type: it stands where bytes are appended.
-/
import Derived.Test.YtalphknhkkcpgaaDoorHRefBits
import Derived.Test.YtalphknhkkcpgaaDoorHPBools
namespace Go.Proofs.YtalphknhkkcpgaaDoor
open Go.RowKit
def lows (xs : List Int) : Int := xs.foldl min (xs.getD 0 0)
def highs (xs : List Int) : Int := xs.foldl max (xs.getD 0 0)
def mins (x : Int) (xs : List Int) (i : Nat) : Int := (xs.take i).foldl min x
def maxs (x : Int) (xs : List Int) (i : Nat) : Int := (xs.take i).foldl max x
theorem mins_succ (x : Int) (xs : List Int) (i : Nat) (h : i < xs.length) : mins x xs (i + 1) = min (mins x xs i) xs[i] := by
  unfold mins; rw [List.take_succ_eq_append_getElem h, List.foldl_append]; rfl
theorem maxs_succ (x : Int) (xs : List Int) (i : Nat) (h : i < xs.length) : maxs x xs (i + 1) = max (maxs x xs i) xs[i] := by
  unfold maxs; rw [List.take_succ_eq_append_getElem h, List.foldl_append]; rfl
set_option maxRecDepth 100000 in
set_option maxHeartbeats 1600000 in
theorem min_any (a : Option Addr) (xs : List Int) (c : Nat) (w : World) (hl : Lies w a (i64s xs)) (h1 : 0 < xs.length) (hn : xs.length ≤ 20000) :
    Calls Tryd.prog 91 #[.slice a xs.length c] w fun e w' => e = .returned (.int .i64 (lows xs)) ∧ w' = w := by
  have HL : Hid _ := lies_ints hl
  obtain ⟨b, o, rfl, h0⟩ := lies_ints hl 0 h1
  rw [Nat.add_zero] at h0
  obtain ⟨x, hx⟩ : ∃ x, x = xs[0] := ⟨_, rfl⟩
  rw [← hx] at h0
  have HE : Hid (lows xs = mins x xs xs.length) := by
    show _ = _
    rw [hx]; simp [lows, mins, List.getD, h1]
  have HS : Hid (x = mins x xs 1) := by
    show _ = _
    rw [show 1 = 0 + 1 from rfl, mins_succ x xs 0 h1, ← hx]; simp [mins]
  clear hl hx
  go_enter Tryd.func91, Tryd.ntmps91
  go_wp2
  go_loop [3, 4] (fun m y => ∃ (i : Nat) (k : Int), i ≤ xs.length ∧ y = .int .i64 i ∧ m = .int .i64 k ∧ Hid (k = mins x xs i)) (fun _ y => xs.length - (intOf y).toNat)
  case atStart => exact ⟨1, x, by omega, rfl, rfl, HS⟩
  case round =>
    clear HS
    obtain ⟨i, k, hik, rfl, rfl, HK⟩ := hrel
    by_cases hlt : i < xs.length
    · obtain ⟨b', o', e', hc⟩ := HL.out i hlt
      obtain ⟨rfl, rfl⟩ : b = b' ∧ o = o' := by simpa using e'
      clear e'
      have HN : Hid (mins x xs (i + 1) = min k xs[i]) := by show _ = _; rw [mins_succ x xs i hlt, HK.out]
      generalize xs[i] = z at *
      by_cases hz : z < k
      · have HN2 : Hid (z = mins x xs (i + 1)) := by show _ = _; rw [HN.out]; omega
        go_wp2
        go_round
        case rel => exact ⟨i + 1, z, by omega, by go_num, rfl, HN2⟩
        case measure => simp [intOf]; omega
      · have HN2 : Hid (k = mins x xs (i + 1)) := by show _ = _; rw [HN.out]; omega
        go_wp2
        go_round
        case rel => exact ⟨i + 1, k, by omega, by go_num, rfl, HN2⟩
        case measure => simp [intOf]; omega
    · obtain rfl : i = xs.length := by omega
      go_wp2
      go_ret
      exact ⟨by rw [HE.out, ← HK.out]; rfl, rfl⟩
set_option maxRecDepth 100000 in
set_option maxHeartbeats 1600000 in
theorem max_any (a : Option Addr) (xs : List Int) (c : Nat) (w : World) (hl : Lies w a (i64s xs)) (h1 : 0 < xs.length) (hn : xs.length ≤ 20000) :
    Calls Tryd.prog 92 #[.slice a xs.length c] w fun e w' => e = .returned (.int .i64 (highs xs)) ∧ w' = w := by
  have HL : Hid _ := lies_ints hl
  obtain ⟨b, o, rfl, h0⟩ := lies_ints hl 0 h1
  rw [Nat.add_zero] at h0
  obtain ⟨x, hx⟩ : ∃ x, x = xs[0] := ⟨_, rfl⟩
  rw [← hx] at h0
  have HE : Hid (highs xs = maxs x xs xs.length) := by
    show _ = _
    rw [hx]; simp [highs, maxs, List.getD, h1]
  have HS : Hid (x = maxs x xs 1) := by
    show _ = _
    rw [show 1 = 0 + 1 from rfl, maxs_succ x xs 0 h1, ← hx]; simp [maxs]
  clear hl hx
  go_enter Tryd.func92, Tryd.ntmps92
  go_wp2
  go_loop [3, 4] (fun m y => ∃ (i : Nat) (k : Int), i ≤ xs.length ∧ y = .int .i64 i ∧ m = .int .i64 k ∧ Hid (k = maxs x xs i)) (fun _ y => xs.length - (intOf y).toNat)
  case atStart => exact ⟨1, x, by omega, rfl, rfl, HS⟩
  case round =>
    clear HS
    obtain ⟨i, k, hik, rfl, rfl, HK⟩ := hrel
    by_cases hlt : i < xs.length
    · obtain ⟨b', o', e', hc⟩ := HL.out i hlt
      obtain ⟨rfl, rfl⟩ : b = b' ∧ o = o' := by simpa using e'
      clear e'
      have HN : Hid (maxs x xs (i + 1) = max k xs[i]) := by show _ = _; rw [maxs_succ x xs i hlt, HK.out]
      generalize xs[i] = z at *
      by_cases hz : k < z
      · have HN2 : Hid (z = maxs x xs (i + 1)) := by show _ = _; rw [HN.out]; omega
        go_wp2
        go_round
        case rel => exact ⟨i + 1, z, by omega, by go_num, rfl, HN2⟩
        case measure => simp [intOf]; omega
      · have HN2 : Hid (k = maxs x xs (i + 1)) := by show _ = _; rw [HN.out]; omega
        go_wp2
        go_round
        case rel => exact ⟨i + 1, k, by omega, by go_num, rfl, HN2⟩
        case measure => simp [intOf]; omega
    · obtain rfl : i = xs.length := by omega
      go_wp2
      go_ret
      exact ⟨by rw [HE.out, ← HK.out]; rfl, rfl⟩
end Go.Proofs.YtalphknhkkcpgaaDoor

namespace Go.Proofs.YtalphknhkkcpgaaDoor
open Go.RowKit
/-- What the block's cells are. -/
def Typed (g ty : Nat) (w : World) : Prop := ∃ cs z, w.heap[g]? = some (.cells cs ty z)
theorem Typed.set {g ty : Nat} {w : World} (h : Typed g ty w) (i : Nat) (v : Value) : Typed g ty (w.setCell ⟨g, i, none⟩ v) := by
  obtain ⟨cs, z, h⟩ := h
  simp [Typed, World.setCell, Array.getElem?_modify, h]
theorem Typed.keep {g ty : Nat} {w w' : World} (h : Typed g ty w) (hb : Below w.heap.size w w') : Typed g ty w' := by
  obtain ⟨cs, z, h⟩ := h
  exact ⟨cs, z, blk_keep hb h⟩
theorem Typed.new (w : World) (cs : Array Value) (ty : Nat) : Typed w.heap.size ty (w.alloc (.cells cs ty)) := ⟨cs, (0, 0), heap_alloc_new w _⟩
/-- A row that is given, of a block of its own, with its cells' type. -/
def RetT (e : Ending) (w' : World) (n ty : Nat) (cs : List Value) : Prop := ∃ g, e = .returned (.slice (some ⟨g, 0, none⟩) n n) ∧ Lies w' (some ⟨g, 0, none⟩) cs ∧ Typed g ty w'
/-- Rows that are not of bytes stand. -/
def Stand (w w' : World) : Prop := ∀ g ty, ty ≠ 5 → Typed g ty w → w'.heap[g]? = w.heap[g]?
theorem Stand.refl (w : World) : Stand w w := fun _ _ _ _ => rfl
theorem Stand.typed {w w' : World} (h : Stand w w') {g ty : Nat} (hty : ty ≠ 5) (ht : Typed g ty w) : Typed g ty w' := by
  obtain ⟨cs, z, hh⟩ := ht
  exact ⟨cs, z, (h g ty hty ⟨cs, z, hh⟩).trans hh⟩
theorem Stand.trans {w w' w'' : World} (h : Stand w w') (h' : Stand w' w'') : Stand w w'' := fun g ty hty ht => (h' g ty hty (h.typed hty ht)).trans (h g ty hty ht)
theorem Stand.below {w w' : World} (hb : Below w.heap.size w w') : Stand w w' := fun g ty _ ht => by
  obtain ⟨cs, z, h⟩ := ht
  exact hb.block g (lt_of_block h)
theorem Stand.grown {w w' : World} {B n : Nat} {v : Value} {xs : List Value} (hown : w.ownsRow B 5 1 v n xs) (hg : w.grownBy w' v.ownBlock) : Stand w w' := fun g ty hty ht => by
  obtain ⟨cs, z, h⟩ := ht
  rw [ow_block hown h hty hg, h]
theorem Stand.cell {w w' : World} (h : Stand w w') {g ty : Nat} (hty : ty ≠ 5) (ht : Typed g ty w) (j : Nat) : w'.cell? ⟨g, j, none⟩ = w.cell? ⟨g, j, none⟩ := by
  have e := h g ty hty ht
  simp [World.cell?, e]
theorem Stand.lies {w w' : World} (h : Stand w w') {g ty o : Nat} {cs : List Value} (hty : ty ≠ 5) (ht : Typed g ty w) (hl : Lies w (some ⟨g, o, none⟩) cs) : Lies w' (some ⟨g, o, none⟩) cs := fun j hj => by
  obtain ⟨b, o', e, hc⟩ := hl j hj
  refine ⟨b, o', e, ?_⟩
  injection e with e
  injection e with e1 e2 _
  subst e1
  rw [h.cell hty ht]; exact hc
end Go.Proofs.YtalphknhkkcpgaaDoor
