/-
  What numbers 0 or 1 bytes are: the mathematics, without the program.
  A row of the call's own with its cells' type: it stands where bytes are appended.
  wire.ReadFixed: what it answers.
-/
import Derived.Test.YtalphknhkkcpgaaDoorKBRdMathE
import Derived.Test.YtalphknhkkcpgaaDoorKPBools
import Derived.Test.YtalphknhkkcpgaaDoorKRefBits
import Derived.Test.YtalphknhkkcpgaaDoorKBRunW
import Derived.Test.YtalphknhkkcpgaaDoorKBPNums
import Derived.Test.YtalphknhkkcpgaaDoorKBBits0
namespace Go.Proofs.YtalphknhkkcpgaaDoor
open Go.RowKit
namespace Um
theorem num_unp (l : List UInt8) (w : Nat) : ∀ n, num w (unp l w n) = lev l % 2 ^ (w * n)
  | 0 => by simp [unp, num, Nat.mod_one]
  | n + 1 => by
    rw [unp_succ, num_snoc, num_unp l w n, unp_len, Nat.mul_add, Nat.mul_one, Nat.pow_add, Nat.mod_mul, Nat.mul_comm (2 ^ (w * n))]
/-- Have the bytes nothing behind so many bits? -/
theorem lev_last (l : List UInt8) (n : Nat) (b : UInt8) (h : (l ++ [b]).length = (n + 7) / 8) (hr : 0 < n % 8) : lev (l ++ [b]) < 2 ^ n ↔ b.toNat / 2 ^ (n % 8) = 0 := by
  have hl : 8 * l.length + n % 8 = n := by rw [List.length_append] at h; simp at h; omega
  have h1 := lev_lt l
  have h2 := lev_snoc l b
  have hp := Nat.two_pow_pos (8 * l.length)
  have e : 2 ^ n = 2 ^ (8 * l.length) * 2 ^ (n % 8) := by rw [← Nat.pow_add, hl]
  rw [h2, e, Nat.div_eq_zero_iff_lt (Nat.two_pow_pos _)]
  generalize 2 ^ (8 * l.length) = P at *
  generalize 2 ^ (n % 8) = Q
  constructor
  · intro h3
    apply Nat.lt_of_mul_lt_mul_left (a := P)
    rw [Nat.mul_comm P b.toNat]
    omega
  · intro h3
    have h4 : b.toNat * P + P ≤ P * Q := by
      have : (b.toNat + 1) * P ≤ Q * P := Nat.mul_le_mul_right _ h3
      rw [Nat.add_mul, Nat.one_mul] at this
      rw [Nat.mul_comm P Q]; exact this
    omega
end Um
/-- The numbers 0 or 1 that bytes are, as values. -/
def bvs (l : List UInt8) (n : Nat) : List Vl := (List.range n).map fun i => ⟨1, ((Um.unp l 1 n).getD i 0 : Nat), ⟨#[]⟩⟩
theorem isPl_bools {l : List UInt8} {n : Nat} (hl : l.length = (n + 7) / 8) (hb : Um.lev l < 2 ^ n) : IsPl 1 l n (bvs l n) := by
  have hv : nats (vns (bvs l n)) = Um.unp l 1 n := by
    refine List.ext_getElem (by simp [nats, vns, bvs, Um.unp_len]) fun j h1 h2 => ?_
    rw [Um.unp_len] at h2
    have h3 : j < (Um.unp l 1 n).length := by rw [Um.unp_len]; exact h2
    simp [nats, vns, bvs, List.getD, h3]
  have hbit : ∀ i, (Um.unp l 1 n).getD i 0 < 2 := fun i => by
    by_cases h : i < (Um.unp l 1 n).length
    · have := Um.unp_lt l 1 n (Um.unp l 1 n)[i] (List.getElem_mem h)
      simpa [List.getD, h] using this
    · simp [List.getD, h]
  refine ⟨by simp [bvs], ⟨by omega, fun v hm => ?_⟩, ?_⟩
  · obtain ⟨i, _, rfl⟩ := List.mem_map.1 hm
    have := hbit i
    refine ⟨?_, ⟨by simp, by simp only; omega, Nat.zero_le _⟩⟩
    show OkV 1 1 (((Um.unp l 1 n).getD i 0 : Nat) : Int) 0
    unfold OkV
    omega
  · show packed 1 (vns (bvs l n)) = l
    unfold packed
    rw [hv, Um.num_unp, Nat.one_mul, Nat.mod_eq_of_lt hb, vns_len, show (bvs l n).length = n by simp [bvs], Nat.one_mul, ← hl]
    exact Um.lit_lev l
theorem notPl_bools {l : List UInt8} {n : Nat} (h : l.length ≠ (n + 7) / 8 ∨ ¬ Um.lev l < 2 ^ n) : ¬ ∃ vs, IsPl 1 l n vs := by
  rintro ⟨vs, h1, h2, h3⟩
  have h4 : packed 1 (vns vs) = l := h3
  unfold packed at h4
  rw [vns_len, h1, Nat.one_mul] at h4
  have hn := Um.num_lt 1 (nats (vns vs)) fun x hm => by
    obtain ⟨m, hm', rfl⟩ := List.mem_map.1 hm
    obtain ⟨v, hv, rfl⟩ := List.mem_map.1 hm'
    have ho := (h2.2 v hv).1
    unfold Vl.Ok OkV at ho
    omega
  rw [nats_len, vns_len, h1, Nat.one_mul] at hn
  rcases h with h | h
  · apply h; rw [← h4, Um.lit_len]
  · apply h
    rw [← h4, Um.lev_lit]
    exact Nat.lt_of_le_of_lt (Nat.mod_le _ _) hn
end Go.Proofs.YtalphknhkkcpgaaDoor

namespace Go.Proofs.YtalphknhkkcpgaaDoor
open Go.RowKit
/-- What the block's cells are. -/
def Typed (g ty : Nat) (w : World) : Prop := ∃ cs z, w.heap[g]? = some (.cells cs ty z)
theorem Typed.set {g ty : Nat} {w : World} (h : Typed g ty w) (i : Nat) (v : Value) : Typed g ty (w.setCell ⟨g, i, none⟩ v) := by
  obtain ⟨cs, z, h⟩ := h
  simp [Typed, World.setCell, Array.getElem?_modify, h]
theorem Typed.keep {g ty : Nat} {w w' : World} (h : Typed g ty w) (hb : Below w.heap.size w w') : Typed g ty w' := by
  obtain ⟨cs, z, h⟩ := h
  exact ⟨cs, z, blk_keep hb h⟩
theorem Typed.new (w : World) (cs : Array Value) (ty : Nat) : Typed w.heap.size ty (w.alloc (.cells cs ty)) := ⟨cs, (0, 0), heap_alloc_new w _⟩
/-- A row that is given, of a block of its own, with its cells' type. -/
def RetT (e : Ending) (w' : World) (n ty : Nat) (cs : List Value) : Prop := ∃ g, e = .returned (.slice (some ⟨g, 0, none⟩) n n) ∧ Lies w' (some ⟨g, 0, none⟩) cs ∧ Typed g ty w'
/-- Rows that are not of bytes stand. -/
def Stand (w w' : World) : Prop := ∀ g ty, ty ≠ 5 → Typed g ty w → w'.heap[g]? = w.heap[g]?
theorem Stand.refl (w : World) : Stand w w := fun _ _ _ _ => rfl
theorem Stand.typed {w w' : World} (h : Stand w w') {g ty : Nat} (hty : ty ≠ 5) (ht : Typed g ty w) : Typed g ty w' := by
  obtain ⟨cs, z, hh⟩ := ht
  exact ⟨cs, z, (h g ty hty ⟨cs, z, hh⟩).trans hh⟩
theorem Stand.trans {w w' w'' : World} (h : Stand w w') (h' : Stand w' w'') : Stand w w'' := fun g ty hty ht => (h' g ty hty (h.typed hty ht)).trans (h g ty hty ht)
theorem Stand.below {w w' : World} (hb : Below w.heap.size w w') : Stand w w' := fun g ty _ ht => by
  obtain ⟨cs, z, h⟩ := ht
  exact hb.block g (lt_of_block h)
theorem Stand.grown {w w' : World} {B n : Nat} {v : Value} {xs : List Value} (hown : w.ownsRow B 5 1 v n xs) (hg : w.grownBy w' v.ownBlock) : Stand w w' := fun g ty hty ht => by
  obtain ⟨cs, z, h⟩ := ht
  rw [ow_block hown h hty hg, h]
theorem Stand.cell {w w' : World} (h : Stand w w') {g ty : Nat} (hty : ty ≠ 5) (ht : Typed g ty w) (j : Nat) : w'.cell? ⟨g, j, none⟩ = w.cell? ⟨g, j, none⟩ := by
  have e := h g ty hty ht
  simp [World.cell?, e]
theorem Stand.lies {w w' : World} (h : Stand w w') {g ty o : Nat} {cs : List Value} (hty : ty ≠ 5) (ht : Typed g ty w) (hl : Lies w (some ⟨g, o, none⟩) cs) : Lies w' (some ⟨g, o, none⟩) cs := fun j hj => by
  obtain ⟨b, o', e, hc⟩ := hl j hj
  refine ⟨b, o', e, ?_⟩
  injection e with e
  injection e with e1 e2 _
  subst e1
  rw [h.cell hty ht]; exact hc
end Go.Proofs.YtalphknhkkcpgaaDoor

namespace Go.Proofs.YtalphknhkkcpgaaDoor
open Go.RowKit
set_option maxHeartbeats 800000 in
theorem readFixed_bad (s : ByteArray) (k : Int) (w : World) (ev : Value) (hg : w.cell? ⟨3, 0, none⟩ = some ev) (hk : k < 1 ∨ 8 < k) :
    Calls Tryd.prog 78 #[.string s, .int .i64 k] w fun e w' => e = .returned (.tuple #[.int .u64 0, ev]) ∧ Below w.heap.size w w' := by
  have hcase : decide (1 ≤ k) = false ∨ (decide (1 ≤ k) = true ∧ decide (k ≤ 8) = false) := by
    by_cases h : 1 ≤ k
    · right; exact ⟨by simpa using h, by simp; omega⟩
    · left; simpa using h
  clear hk
  rcases hcase with h | ⟨h, h'⟩
  all_goals
    go_enter Tryd.func78, Tryd.ntmps78
    go_wp2
    go_region
    all_goals (try go_wp2)
    all_goals go_ret2
    all_goals exact ⟨rfl, (Below.refl _ _).drew⟩
set_option maxHeartbeats 800000 in
theorem readFixed_short (s : ByteArray) (k : Nat) (w : World) (ev : Value) (hg : w.cell? ⟨0, 0, none⟩ = some ev) (h1 : 1 ≤ k) (h8 : k ≤ 8) (hs : s.size < k) :
    Calls Tryd.prog 78 #[.string s, .int .i64 k] w fun e w' => e = .returned (.tuple #[.int .u64 0, ev]) ∧ Below w.heap.size w w' := by
  have hd1 : decide (1 ≤ (k : Int)) = true := by simp; omega
  have hd2 : decide ((k : Int) ≤ 8) = true := by simp; omega
  have hd3 : decide ((s.size : Int) < (k : Int)) = true := by simp; omega
  go_enter Tryd.func78, Tryd.ntmps78
  go_wp2
  go_region
  all_goals (try go_wp2)
  all_goals go_ret2
  all_goals exact ⟨rfl, (Below.refl _ _).drew⟩
theorem take_snoc8 (s : ByteArray) (k : Nat) (h : k < s.size) : s.data.toList.take (k + 1) = s.data.toList.take k ++ [s[k]] := by
  rw [List.take_succ_eq_append_getElem (by simpa using h)]; rfl
theorem or_bits {n b i : Nat} (hi : i < 8) (hb : b < 256) (hn : n < 2 ^ (8 * i)) (hn2 : n < 18446744073709551616) : bits .or .u64 (n : Int) (IntKind.u64.wrap ((b : Int) * 2 ^ (8 * i))) = ((n + b * 2 ^ (8 * i) : Nat) : Int) := by
  have hr := Um.high_lt hb hi
  have e : IntKind.u64.wrap ((b : Int) * 2 ^ (8 * i)) = ((b * 2 ^ (8 * i) : Nat) : Int) := by
    have e1 : ((b * 2 ^ (8 * i) : Nat) : Int) = (b : Int) * 2 ^ (8 * i) := by simp
    rw [← e1]
    generalize b * 2 ^ (8 * i) = q at hr
    simp only [IntKind.wrap, IntKind.bits, IntKind.signed]
    simp
    omega
  rw [e, u64_or_nat n _ hn2 hr, Um.or_high hn]
set_option maxHeartbeats 800000 in
theorem readFixed_ok (s : ByteArray) (k : Nat) (w : World) (h1 : 1 ≤ k) (h8 : k ≤ 8) (hs : k ≤ s.size) (hm : s.size ≤ 1000000) :
    Calls Tryd.prog 78 #[.string s, .int .i64 k] w fun e w' => e = .returned (.tuple #[.int .u64 (Um.lev (s.data.toList.take k)), .nilIface]) ∧ w' = w := by
  have hd1 : decide (1 ≤ (k : Int)) = true := by simp; omega
  have hd2 : decide ((k : Int) ≤ 8) = true := by simp; omega
  have hd3 : decide ((s.size : Int) < (k : Int)) = false := by simp; omega
  go_enter Tryd.func78, Tryd.ntmps78
  go_wp2
  go_loop [6, 18] (fun x c => ∃ (i n : Nat), i ≤ k ∧ c = .int .i64 i ∧ x = .int .u64 n ∧ n < 18446744073709551616 ∧ Hid (n = Um.lev (s.data.toList.take i))) (fun _ c => k - (intOf c).toNat)
  case atStart => exact ⟨0, 0, Nat.zero_le _, rfl, rfl, by omega, rfl⟩
  case round =>
    obtain ⟨i, n, hik, rfl, rfl, hn, HN⟩ := hrel
    by_cases hlt : i < k
    · have hlt2 : i < s.size := by omega
      have hb8 : s[i].toNat < 256 := s[i].toNat_lt
      have hlen : (s.data.toList.take i).length = i := by simp; omega
      have hn2 : n < 2 ^ (8 * i) := by have := Um.lev_lt (s.data.toList.take i); rw [hlen, ← HN.out] at this; exact this
      have hor := or_bits (b := s[i].toNat) (show i < 8 by omega) hb8 hn2 hn
      have HX : Hid (n + s[i].toNat * 2 ^ (8 * i) = Um.lev (s.data.toList.take (i + 1))) := by
        show _ = _
        rw [take_snoc8 s i hlt2, Um.lev_snoc, hlen, HN.out]
      have hx2 : n + s[i].toNat * 2 ^ (8 * i) < 18446744073709551616 := by
        rw [HX.out]; exact Um.lev_eight (by simp; omega)
      generalize n + s[i].toNat * 2 ^ (8 * i) = q at *
      clear hn2 hlen
      go_wp2
      go_round
      case rel => exact ⟨i + 1, q, by omega, by go_num, rfl, hx2, HX⟩
      case measure => simp [intOf]; omega
    · obtain rfl : i = k := by omega
      go_wp2
      go_ret2
      exact ⟨by rw [← HN.out]; rfl, rfl⟩
end Go.Proofs.YtalphknhkkcpgaaDoor
