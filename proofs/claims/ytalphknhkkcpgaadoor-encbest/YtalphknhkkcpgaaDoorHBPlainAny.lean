/-
  enc.check and enc.Plain at a kind that is none; Plain at whatever values.
  wire.Varint answers the bytes of 2n, or of -2n - 1, for every number of 64 bits with a sign.
  The reference's Signed: a number with a sign in bytes.
  The law's four: an Int has four bytes.
  A row of the call's own with its cells' type: it stands where bytes are appended.
-/
import Derived.Test.YtalphknhkkcpgaaDoorHWordsMath
import Derived.Test.YtalphknhkkcpgaaDoorHBase
import Derived.Test.YtalphknhkkcpgaaDoorHBMath
import Derived.OpenShut
import Derived.Test.YtalphknhkkcpgaaDoorHBBits0
import Derived.Test.YtalphknhkkcpgaaDoorHPBools
import Derived.Test.YtalphknhkkcpgaaDoorHRefBits
namespace Go.Proofs.YtalphknhkkcpgaaDoor
open Go.RowKit
set_option maxRecDepth 100000 in
theorem checkE_kind (a : Option Addr) (n c : Nat) (kd : Int) (w : World) (kt : TypeId) (kp : Value) (_hn : n ≤ 20000) (hgk : w.cell? ⟨2, 0, none⟩ = some (.iface kt kp)) (hk : ¬ (1 ≤ kd ∧ kd ≤ 5)) :
    Calls Tryd.prog 35 #[.int .i64 kd, .slice a n c] w fun e w' => e = .returned (.iface kt kp) ∧ w' = w := by
  have HK : Hid _ := hgk
  have HN : Hid (¬ (1 ≤ kd ∧ kd ≤ 5)) := hk
  clear hgk hk
  go_enter Tryd.func35, Tryd.ntmps35
  go_wp2_with fail
  refine (checkCount_kind _ _ _ _ HK.out HN.out).mono ?_
  rintro e w1 ⟨rfl, hw⟩
  obtain rfl := hw.symm
  go_wp2_with fail
  go_ret
  exact ⟨rfl, rfl⟩
set_option maxRecDepth 100000 in
theorem plain_kind (a : Option Addr) (n c : Nat) (kd : Int) (w : World) (kt : TypeId) (kp : Value) (hn : n ≤ 20000) (hgk : w.cell? ⟨2, 0, none⟩ = some (.iface kt kp)) (hk : ¬ (1 ≤ kd ∧ kd ≤ 5)) :
    Calls Tryd.prog 13 #[.int .i64 kd, .slice a n c] w fun e w' => e = .returned (.tuple #[.string ⟨#[]⟩, .iface kt kp]) ∧ w' = w := by
  have HK : Hid _ := hgk
  have HN : Hid (¬ (1 ≤ kd ∧ kd ≤ 5)) := hk
  clear hgk hk
  go_enter Tryd.func13, Tryd.ntmps13
  go_wp2_with fail
  refine (checkE_kind a n c kd w kt kp hn HK.out HN.out).mono ?_
  rintro e w1 ⟨rfl, hw⟩
  obtain rfl := hw.symm
  go_wp2_with fail
  go_ret2
  exact ⟨rfl, rfl⟩
/-- The first value that is not of the kind. -/
theorem first_bad (kd : Int) (vs : List Vl) (h : ¬ ∀ v ∈ vs, v.Ok kd) : ∃ i, ∃ hi : i < vs.length, ¬ vs[i].Ok kd ∧ ∀ j (h : j < vs.length), j < i → vs[j].Ok kd := by
  induction vs with
  | nil => exact absurd (fun v hv => by simp at hv) h
  | cons v vs ih =>
    by_cases hv : v.Ok kd
    · have h2 : ¬ ∀ u ∈ vs, u.Ok kd := fun hall => h fun u hu => by
        rcases List.mem_cons.1 hu with rfl | hu
        · exact hv
        · exact hall u hu
      obtain ⟨i, hi, hb, hf⟩ := ih h2
      refine ⟨i + 1, by simpa using hi, by simpa using hb, fun j hj hji => ?_⟩
      cases j with
      | zero => simpa using hv
      | succ j => simpa using hf j (by simpa using hj) (by omega)
    · exact ⟨0, by simp, by simpa using hv, fun j _ hji => absurd hji (by omega)⟩
/-- What Plain answers: the bytes of right values, or an error. -/
def RetPl (kd : Int) (vs : List Vl) (e : Ending) : Prop :=
  (Right kd vs ∧ e = .returned (.tuple #[.string ⟨(plainB kd vs).toArray⟩, .nilIface])) ∨ (¬ Right kd vs ∧ ∃ t p, e = .returned (.tuple #[.string ⟨#[]⟩, .iface t p]))
theorem plain_any (a : Option Addr) (vs : List Vl) (c : Nat) (kd : Int) (w : World) (kt st : TypeId) (kp sp : Value) (hgk : w.cell? ⟨2, 0, none⟩ = some (.iface kt kp)) (hgs : w.cell? ⟨1, 0, none⟩ = some (.iface st sp)) (hn : vs.length ≤ 20000) (hl : LiesV w a vs) (hx : ∀ v ∈ vs, v.In) :
    Calls Tryd.prog 13 #[.int .i64 kd, .slice a vs.length c] w fun e w' => RetPl kd vs e ∧ Below w.heap.size w w' := by
  by_cases hk : 1 ≤ kd ∧ kd ≤ 5
  · by_cases hok : ∀ v ∈ vs, v.Ok kd
    · refine (plain_right a vs c kd w kt st kp sp hgk hgs hn hk.1 hk.2 hl (fun j h => hok _ (List.getElem_mem h)) (fun j h => (hx _ (List.getElem_mem h)).2.1)).mono ?_
      rintro e w' ⟨rfl, hb⟩
      exact ⟨Or.inl ⟨⟨hk, fun v hv => ⟨hok v hv, hx v hv⟩⟩, rfl⟩, hb⟩
    · obtain ⟨i, hi, hbad, hf⟩ := first_bad kd vs hok
      refine (plain_fault a vs c kd w kt kp hgk hn hk.1 hk.2 hl i hi hbad hf).mono ?_
      rintro e w' ⟨⟨p, rfl, _, _⟩, hb⟩
      exact ⟨Or.inr ⟨fun h => hok fun v hv => (h.2 v hv).1, _, _, rfl⟩, hb⟩
  · refine (plain_kind a vs.length c kd w kt kp hn hgk hk).mono ?_
    rintro e w' ⟨rfl, rfl⟩
    exact ⟨Or.inr ⟨fun h => hk h.1, _, _, rfl⟩, Below.refl _ _⟩
end Go.Proofs.YtalphknhkkcpgaaDoor

namespace Go.Proofs.YtalphknhkkcpgaaDoor
open Go.RowKit
theorem wrap_u64 (n : Int) : IntKind.u64.wrap n = n % 18446744073709551616 := by simp [IntKind.wrap, IntKind.bits, IntKind.signed]
theorem flip_u64 (a : Int) (h0 : 0 ≤ a) (h1 : a < 18446744073709551616) : bits .xor .u64 IntKind.u64.max a = 18446744073709551615 - a := by
  obtain ⟨k, rfl⟩ := Int.eq_ofNat_of_zero_le h0
  have e : IntKind.u64.max = ((2 ^ 64 - 1 : Nat) : Int) := by decide
  rw [e, u64_xor_nat (2 ^ 64 - 1) k (by decide) (by omega)]
  have hx : (2 ^ 64 - 1) ^^^ k = 2 ^ 64 - 1 - k := by
    rw [Nat.xor_comm]
    have hk : k < 2 ^ 64 := by omega
    apply Nat.eq_of_testBit_eq
    intro i
    rw [Nat.testBit_xor, show 2 ^ 64 - 1 - k = 2 ^ 64 - (k + 1) from by omega, Nat.testBit_two_pow_sub_succ hk, Nat.testBit_two_pow_sub_one]
    by_cases hi : i < 64
    · simp [hi]
    · have : k.testBit i = false := Nat.testBit_lt_two_pow (Nat.lt_of_lt_of_le hk (Nat.pow_le_pow_right (by omega) (by omega)))
      simp [hi, this]
  rw [hx]
  omega
theorem zig_flip {n : Int} (h1 : -9223372036854775808 ≤ n) (h : n < 0) : bits .xor .u64 IntKind.u64.max (IntKind.u64.wrap (IntKind.u64.wrap n * 2)) = zig n := by
  rw [zig_neg h, wrap_u64, wrap_u64, flip_u64 _ (by omega) (by omega)]
  omega
set_option maxHeartbeats 400000 in
theorem varint_any (n : Int) (w : World) (h1 : -9223372036854775808 ≤ n) (h2 : n ≤ 9223372036854775807) :
    Calls Tryd.prog 53 #[.int .i64 n] w fun e w' => e = .returned (.string ⟨(Um.uv (zig n)).toArray⟩) ∧ Below w.heap.size w w' := by
  have hz := zig_lt h1 h2
  by_cases h : n < 0
  · have HF := (show Hid _ from zig_flip h1 h)
    go_enter Tryd.func53, Tryd.ntmps53
    go_wp2_with fail
    rw [HF.out]
    refine (uvarint_any _ _ hz).mono ?_
    rintro e w2 ⟨rfl, hb2⟩
    go_wp2
    go_ret
    exact ⟨rfl, hb2⟩
  · have HF : Hid (n * 2 = (zig n : Int)) := (zig_pos h).symm
    go_enter Tryd.func53, Tryd.ntmps53
    go_wp2_with fail
    rw [HF.out]
    refine (uvarint_any _ _ hz).mono ?_
    rintro e w2 ⟨rfl, hb2⟩
    go_wp2
    go_ret
    exact ⟨rfl, hb2⟩
end Go.Proofs.YtalphknhkkcpgaaDoor

namespace Go.Proofs.YtalphknhkkcpgaaDoor
open Go.RowKit
set_option maxHeartbeats 400000 in
theorem signedOf_any (n : Int) (w : World) (h1 : -9223372036854775808 ≤ n) (h2 : n ≤ 9223372036854775807) :
    Calls Tryd.prog 71 #[.int .i64 n] w fun e w' => e = .returned (.string ⟨(Um.uv (zig n)).toArray⟩) ∧ Below w.heap.size w w' := by
  have hz := zig_lt h1 h2
  by_cases h : n < 0
  · have HF : Hid (-(n + 1) * 2 + 1 = (zig n : Int)) := (zig_neg h).symm
    go_enter Tryd.func71, Tryd.ntmps71
    go_wp2_with fail
    rw [HF.out]
    refine (seven_any _ _ hz).mono ?_
    rintro e w2 ⟨rfl, hb2⟩
    go_wp2
    go_ret
    exact ⟨rfl, hb2⟩
  · have HF : Hid (n * 2 = (zig n : Int)) := (zig_pos h).symm
    go_enter Tryd.func71, Tryd.ntmps71
    go_wp2_with fail
    rw [HF.out]
    refine (seven_any _ _ hz).mono ?_
    rintro e w2 ⟨rfl, hb2⟩
    go_wp2
    go_ret
    exact ⟨rfl, hb2⟩
end Go.Proofs.YtalphknhkkcpgaaDoor

namespace Go.Proofs.YtalphknhkkcpgaaDoor
open Go.RowKit
theorem plain_four : plainB 2 [⟨2, -2, ⟨#[]⟩⟩] = [254, 255, 255, 255] := by decide +kernel
set_option maxRecDepth 100000 in
set_option maxHeartbeats 800000 in
theorem four_any (w : World) (kt st : TypeId) (kp sp : Value) (hgk : w.cell? ⟨2, 0, none⟩ = some (.iface kt kp)) (hgs : w.cell? ⟨1, 0, none⟩ = some (.iface st sp)) :
    Calls Tryd.prog 6 #[] w fun e w' => e = .returned (.bool true) ∧ Below w.heap.size w w' := by
  have hb0 : Below w.heap.size w (w.alloc (.cells #[.int .i64 2, .int .i64 (-2), .string ⟨#[]⟩] 49)) := (Below.refl _ _).alloc (Nat.le_refl _) _
  have HK : Hid ((w.alloc (.cells #[.int .i64 2, .int .i64 (-2), .string ⟨#[]⟩] 49)).cell? ⟨2, 0, none⟩ = some (.iface kt kp)) := (hb0.cell (World.block_lt_of_cell? w _ hgk)).trans hgk
  have HS : Hid ((w.alloc (.cells #[.int .i64 2, .int .i64 (-2), .string ⟨#[]⟩] 49)).cell? ⟨1, 0, none⟩ = some (.iface st sp)) := (hb0.cell (World.block_lt_of_cell? w _ hgs)).trans hgs
  have HL : Hid (LiesV (w.alloc (.cells #[.int .i64 2, .int .i64 (-2), .string ⟨#[]⟩] 49)) (some ⟨w.heap.size, 0, none⟩) [⟨2, -2, ⟨#[]⟩⟩]) := fun j hj => by
    obtain rfl : j = 0 := by simp at hj; omega
    exact ⟨w.heap.size, 0, rfl, cell_alloc_at rfl rfl, cell_alloc_at rfl rfl, cell_alloc_at rfl rfl⟩
  clear hgk hgs
  go_enter Tryd.func6, Tryd.ntmps6
  go_wp2_with fail
  refine (plain_right (some ⟨w.heap.size, 0, none⟩) [⟨2, -2, ⟨#[]⟩⟩] 1 2 _ kt st kp sp HK.out HS.out (by decide) (by omega) (by omega) HL.out (fun j h => ?_) (fun j h => ?_)).mono ?_
  · obtain rfl : j = 0 := by simp at h; omega
    show OkV 2 2 (-2) 0
    unfold OkV
    omega
  · obtain rfl : j = 0 := by simp at h; omega
    simp
  rw [plain_four]
  rintro e w1 ⟨rfl, hb1⟩
  go_wp2_with fail
  go_ret
  exact ⟨rfl, hb0.trans (hb1.mono hb0.size)⟩
end Go.Proofs.YtalphknhkkcpgaaDoor

namespace Go.Proofs.YtalphknhkkcpgaaDoor
open Go.RowKit
/-- What the block's cells are. -/
def Typed (g ty : Nat) (w : World) : Prop := ∃ cs z, w.heap[g]? = some (.cells cs ty z)
theorem Typed.set {g ty : Nat} {w : World} (h : Typed g ty w) (i : Nat) (v : Value) : Typed g ty (w.setCell ⟨g, i, none⟩ v) := by
  obtain ⟨cs, z, h⟩ := h
  simp [Typed, World.setCell, Array.getElem?_modify, h]
theorem Typed.keep {g ty : Nat} {w w' : World} (h : Typed g ty w) (hb : Below w.heap.size w w') : Typed g ty w' := by
  obtain ⟨cs, z, h⟩ := h
  exact ⟨cs, z, blk_keep hb h⟩
theorem Typed.new (w : World) (cs : Array Value) (ty : Nat) : Typed w.heap.size ty (w.alloc (.cells cs ty)) := ⟨cs, (0, 0), heap_alloc_new w _⟩
/-- A row that is given, of a block of its own, with its cells' type. -/
def RetT (e : Ending) (w' : World) (n ty : Nat) (cs : List Value) : Prop := ∃ g, e = .returned (.slice (some ⟨g, 0, none⟩) n n) ∧ Lies w' (some ⟨g, 0, none⟩) cs ∧ Typed g ty w'
/-- Rows that are not of bytes stand. -/
def Stand (w w' : World) : Prop := ∀ g ty, ty ≠ 5 → Typed g ty w → w'.heap[g]? = w.heap[g]?
theorem Stand.refl (w : World) : Stand w w := fun _ _ _ _ => rfl
theorem Stand.typed {w w' : World} (h : Stand w w') {g ty : Nat} (hty : ty ≠ 5) (ht : Typed g ty w) : Typed g ty w' := by
  obtain ⟨cs, z, hh⟩ := ht
  exact ⟨cs, z, (h g ty hty ⟨cs, z, hh⟩).trans hh⟩
theorem Stand.trans {w w' w'' : World} (h : Stand w w') (h' : Stand w' w'') : Stand w w'' := fun g ty hty ht => (h' g ty hty (h.typed hty ht)).trans (h g ty hty ht)
theorem Stand.below {w w' : World} (hb : Below w.heap.size w w') : Stand w w' := fun g ty _ ht => by
  obtain ⟨cs, z, h⟩ := ht
  exact hb.block g (lt_of_block h)
theorem Stand.grown {w w' : World} {B n : Nat} {v : Value} {xs : List Value} (hown : w.ownsRow B 5 1 v n xs) (hg : w.grownBy w' v.ownBlock) : Stand w w' := fun g ty hty ht => by
  obtain ⟨cs, z, h⟩ := ht
  rw [ow_block hown h hty hg, h]
theorem Stand.cell {w w' : World} (h : Stand w w') {g ty : Nat} (hty : ty ≠ 5) (ht : Typed g ty w) (j : Nat) : w'.cell? ⟨g, j, none⟩ = w.cell? ⟨g, j, none⟩ := by
  have e := h g ty hty ht
  simp [World.cell?, e]
theorem Stand.lies {w w' : World} (h : Stand w w') {g ty o : Nat} {cs : List Value} (hty : ty ≠ 5) (ht : Typed g ty w) (hl : Lies w (some ⟨g, o, none⟩) cs) : Lies w' (some ⟨g, o, none⟩) cs := fun j hj => by
  obtain ⟨b, o', e, hc⟩ := hl j hj
  refine ⟨b, o', e, ?_⟩
  injection e with e
  injection e with e1 e2 _
  subst e1
  rw [h.cell hty ht]; exact hc
end Go.Proofs.YtalphknhkkcpgaaDoor
