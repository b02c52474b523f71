/-
  enc.check and enc.Plain at a kind that is none; Plain at whatever values.
  What numbers 0 or 1 bytes are: the mathematics, without the program.
-/
import Derived.Test.YtjpdghpkbpdmeaaDoorGWordsMath
import Derived.Test.YtjpdghpkbpdmeaaDoorGRdMathE
namespace Go.Proofs.YtjpdghpkbpdmeaaDoor
open Go.RowKit
set_option maxRecDepth 100000 in
theorem checkE_kind (a : Option Addr) (n c : Nat) (kd : Int) (w : World) (kt : TypeId) (kp : Value) (_hn : n ≤ 20000) (hgk : w.cell? ⟨2, 0, none⟩ = some (.iface kt kp)) (hk : ¬ (1 ≤ kd ∧ kd ≤ 5)) :
    Calls Tryd.prog 32 #[.int .i64 kd, .slice a n c] w fun e w' => e = .returned (.iface kt kp) ∧ w' = w := by
  have HK : Hid _ := hgk
  have HN : Hid (¬ (1 ≤ kd ∧ kd ≤ 5)) := hk
  clear hgk hk
  go_enter Tryd.func32, Tryd.ntmps32
  go_wp2_with fail
  refine (checkCount_kind _ _ _ _ HK.out HN.out).mono ?_
  rintro e w1 ⟨rfl, hw⟩
  obtain rfl := hw.symm
  go_wp2_with fail
  go_ret
  exact ⟨rfl, rfl⟩
set_option maxRecDepth 100000 in
theorem plain_kind (a : Option Addr) (n c : Nat) (kd : Int) (w : World) (kt : TypeId) (kp : Value) (hn : n ≤ 20000) (hgk : w.cell? ⟨2, 0, none⟩ = some (.iface kt kp)) (hk : ¬ (1 ≤ kd ∧ kd ≤ 5)) :
    Calls Tryd.prog 12 #[.int .i64 kd, .slice a n c] w fun e w' => e = .returned (.tuple #[.string ⟨#[]⟩, .iface kt kp]) ∧ w' = w := by
  have HK : Hid _ := hgk
  have HN : Hid (¬ (1 ≤ kd ∧ kd ≤ 5)) := hk
  clear hgk hk
  go_enter Tryd.func12, Tryd.ntmps12
  go_wp2_with fail
  refine (checkE_kind a n c kd w kt kp hn HK.out HN.out).mono ?_
  rintro e w1 ⟨rfl, hw⟩
  obtain rfl := hw.symm
  go_wp2_with fail
  go_ret2
  exact ⟨rfl, rfl⟩
/-- The first value that is not of the kind. -/
theorem first_bad (kd : Int) (vs : List Vl) (h : ¬ ∀ v ∈ vs, v.Ok kd) : ∃ i, ∃ hi : i < vs.length, ¬ vs[i].Ok kd ∧ ∀ j (h : j < vs.length), j < i → vs[j].Ok kd := by
  induction vs with
  | nil => exact absurd (fun v hv => by simp at hv) h
  | cons v vs ih =>
    by_cases hv : v.Ok kd
    · have h2 : ¬ ∀ u ∈ vs, u.Ok kd := fun hall => h fun u hu => by
        rcases List.mem_cons.1 hu with rfl | hu
        · exact hv
        · exact hall u hu
      obtain ⟨i, hi, hb, hf⟩ := ih h2
      refine ⟨i + 1, by simpa using hi, by simpa using hb, fun j hj hji => ?_⟩
      cases j with
      | zero => simpa using hv
      | succ j => simpa using hf j (by simpa using hj) (by omega)
    · exact ⟨0, by simp, by simpa using hv, fun j _ hji => absurd hji (by omega)⟩
/-- What Plain answers: the bytes of right values, or an error. -/
def RetPl (kd : Int) (vs : List Vl) (e : Ending) : Prop :=
  (Right kd vs ∧ e = .returned (.tuple #[.string ⟨(plainB kd vs).toArray⟩, .nilIface])) ∨ (¬ Right kd vs ∧ ∃ t p, e = .returned (.tuple #[.string ⟨#[]⟩, .iface t p]))
theorem plain_any (a : Option Addr) (vs : List Vl) (c : Nat) (kd : Int) (w : World) (kt st : TypeId) (kp sp : Value) (hgk : w.cell? ⟨2, 0, none⟩ = some (.iface kt kp)) (hgs : w.cell? ⟨1, 0, none⟩ = some (.iface st sp)) (hn : vs.length ≤ 20000) (hl : LiesV w a vs) (hx : ∀ v ∈ vs, v.In) :
    Calls Tryd.prog 12 #[.int .i64 kd, .slice a vs.length c] w fun e w' => RetPl kd vs e ∧ Below w.heap.size w w' := by
  by_cases hk : 1 ≤ kd ∧ kd ≤ 5
  · by_cases hok : ∀ v ∈ vs, v.Ok kd
    · refine (plain_right a vs c kd w kt st kp sp hgk hgs hn hk.1 hk.2 hl (fun j h => hok _ (List.getElem_mem h)) (fun j h => (hx _ (List.getElem_mem h)).2.1)).mono ?_
      rintro e w' ⟨rfl, hb⟩
      exact ⟨Or.inl ⟨⟨hk, fun v hv => ⟨hok v hv, hx v hv⟩⟩, rfl⟩, hb⟩
    · obtain ⟨i, hi, hbad, hf⟩ := first_bad kd vs hok
      refine (plain_fault a vs c kd w kt kp hgk hn hk.1 hk.2 hl i hi hbad hf).mono ?_
      rintro e w' ⟨⟨p, rfl, _, _⟩, hb⟩
      exact ⟨Or.inr ⟨fun h => hok fun v hv => (h.2 v hv).1, _, _, rfl⟩, hb⟩
  · refine (plain_kind a vs.length c kd w kt kp hn hgk hk).mono ?_
    rintro e w' ⟨rfl, rfl⟩
    exact ⟨Or.inr ⟨fun h => hk h.1, _, _, rfl⟩, Below.refl _ _⟩
end Go.Proofs.YtjpdghpkbpdmeaaDoor

namespace Go.Proofs.YtjpdghpkbpdmeaaDoor
open Go.RowKit
namespace Um
theorem num_unp (l : List UInt8) (w : Nat) : ∀ n, num w (unp l w n) = lev l % 2 ^ (w * n)
  | 0 => by simp [unp, num, Nat.mod_one]
  | n + 1 => by
    rw [unp_succ, num_snoc, num_unp l w n, unp_len, Nat.mul_add, Nat.mul_one, Nat.pow_add, Nat.mod_mul, Nat.mul_comm (2 ^ (w * n))]
/-- Have the bytes nothing behind so many bits? -/
theorem lev_last (l : List UInt8) (n : Nat) (b : UInt8) (h : (l ++ [b]).length = (n + 7) / 8) (hr : 0 < n % 8) : lev (l ++ [b]) < 2 ^ n ↔ b.toNat / 2 ^ (n % 8) = 0 := by
  have hl : 8 * l.length + n % 8 = n := by rw [List.length_append] at h; simp at h; omega
  have h1 := lev_lt l
  have h2 := lev_snoc l b
  have hp := Nat.two_pow_pos (8 * l.length)
  have e : 2 ^ n = 2 ^ (8 * l.length) * 2 ^ (n % 8) := by rw [← Nat.pow_add, hl]
  rw [h2, e, Nat.div_eq_zero_iff_lt (Nat.two_pow_pos _)]
  generalize 2 ^ (8 * l.length) = P at *
  generalize 2 ^ (n % 8) = Q
  constructor
  · intro h3
    apply Nat.lt_of_mul_lt_mul_left (a := P)
    rw [Nat.mul_comm P b.toNat]
    omega
  · intro h3
    have h4 : b.toNat * P + P ≤ P * Q := by
      have : (b.toNat + 1) * P ≤ Q * P := Nat.mul_le_mul_right _ h3
      rw [Nat.add_mul, Nat.one_mul] at this
      rw [Nat.mul_comm P Q]; exact this
    omega
end Um
/-- The numbers 0 or 1 that bytes are, as values. -/
def bvs (l : List UInt8) (n : Nat) : List Vl := (List.range n).map fun i => ⟨1, ((Um.unp l 1 n).getD i 0 : Nat), ⟨#[]⟩⟩
theorem isPl_bools {l : List UInt8} {n : Nat} (hl : l.length = (n + 7) / 8) (hb : Um.lev l < 2 ^ n) : IsPl 1 l n (bvs l n) := by
  have hv : nats (vns (bvs l n)) = Um.unp l 1 n := by
    refine List.ext_getElem (by simp [nats, vns, bvs, Um.unp_len]) fun j h1 h2 => ?_
    rw [Um.unp_len] at h2
    have h3 : j < (Um.unp l 1 n).length := by rw [Um.unp_len]; exact h2
    simp [nats, vns, bvs, List.getD, h3]
  have hbit : ∀ i, (Um.unp l 1 n).getD i 0 < 2 := fun i => by
    by_cases h : i < (Um.unp l 1 n).length
    · have := Um.unp_lt l 1 n (Um.unp l 1 n)[i] (List.getElem_mem h)
      simpa [List.getD, h] using this
    · simp [List.getD, h]
  refine ⟨by simp [bvs], ⟨by omega, fun v hm => ?_⟩, ?_⟩
  · obtain ⟨i, _, rfl⟩ := List.mem_map.1 hm
    have := hbit i
    refine ⟨?_, ⟨by simp, by simp only; omega, Nat.zero_le _⟩⟩
    show OkV 1 1 (((Um.unp l 1 n).getD i 0 : Nat) : Int) 0
    unfold OkV
    omega
  · show packed 1 (vns (bvs l n)) = l
    unfold packed
    rw [hv, Um.num_unp, Nat.one_mul, Nat.mod_eq_of_lt hb, vns_len, show (bvs l n).length = n by simp [bvs], Nat.one_mul, ← hl]
    exact Um.lit_lev l
theorem notPl_bools {l : List UInt8} {n : Nat} (h : l.length ≠ (n + 7) / 8 ∨ ¬ Um.lev l < 2 ^ n) : ¬ ∃ vs, IsPl 1 l n vs := by
  rintro ⟨vs, h1, h2, h3⟩
  have h4 : packed 1 (vns vs) = l := h3
  unfold packed at h4
  rw [vns_len, h1, Nat.one_mul] at h4
  have hn := Um.num_lt 1 (nats (vns vs)) fun x hm => by
    obtain ⟨m, hm', rfl⟩ := List.mem_map.1 hm
    obtain ⟨v, hv, rfl⟩ := List.mem_map.1 hm'
    have ho := (h2.2 v hv).1
    unfold Vl.Ok OkV at ho
    omega
  rw [nats_len, vns_len, h1, Nat.one_mul] at hn
  rcases h with h | h
  · apply h; rw [← h4, Um.lit_len]
  · apply h
    rw [← h4, Um.lev_lit]
    exact Nat.lt_of_le_of_lt (Nat.mod_le _ _) hn
end Go.Proofs.YtjpdghpkbpdmeaaDoor
