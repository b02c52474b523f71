/-
  bitrun.Unpack and the reference's UnpackOf: what they answer.
  The reference's PackOf: the bytes of the numbers as one number.
  The reference's UnpackOf of numbers of up to 64 bits.
-/
import Derived.Test.YtmhkpnmifhfboaaGreatDoorMBUnpack
import Derived.RegionTactic
import Derived.Test.YtmhkpnmifhfboaaGreatDoorMBPack
namespace Go.Proofs.YtmhkpnmifhfboaaGreatDoor
open Go.RowKit
set_option maxRecDepth 100000 in
set_option maxHeartbeats 800000 in
theorem unpackF_bound (s : ByteArray) (k n : Int) (w : World) (st : TypeId) (sp : Value) (hg : w.cell? ⟨2, 0, none⟩ = some (.iface st sp)) (hk : decide (0 ≤ k ∧ k ≤ 32) = false ∨ decide (0 ≤ k ∧ k ≤ 32) = true ∧ decide (0 ≤ n ∧ n ≤ 20000) = false) :
    Calls Tryz.prog 59 #[.string s, .int .i64 k, .int .i64 n] w fun e w' => e = .returned (.tuple #[.slice none 0 0, .iface st sp]) ∧ Below w.heap.size w w' := by
  rcases hk with h | ⟨h, h'⟩
  all_goals
    go_enter Tryz.func59, Tryz.ntmps59
    go_wp2_with (first | (go_at_call 64; refine (isWidth_any _ _).mono ?_; rw [h]; rintro e w1 ⟨rfl, hw⟩; obtain rfl := hw.symm) | (go_at_call 65; refine (isCount_any _ _).mono ?_; rw [h']; rintro e w1 ⟨rfl, hw⟩; obtain rfl := hw.symm))
    go_region
    all_goals (try go_wp2)
    all_goals go_ret2
    all_goals exact ⟨rfl, (Below.refl _ _).drew⟩
set_option maxRecDepth 100000 in
set_option maxHeartbeats 800000 in
theorem unpackF_short (s : ByteArray) (k n : Nat) (w : World) (st : TypeId) (sp : Value) (_hs : s.size ≤ 1000000) (hk : k ≤ 32) (hn : n ≤ 20000) (hg : w.cell? ⟨3, 0, none⟩ = some (.iface st sp)) (hsh : 8 * s.size < k * n) :
    Calls Tryz.prog 59 #[.string s, .int .i64 k, .int .i64 n] w fun e w' => e = .returned (.tuple #[.slice none 0 0, .iface st sp]) ∧ Below w.heap.size w w' := by
  have hd1 : decide (0 ≤ (k : Int) ∧ (k : Int) ≤ 32) = true := by simp; omega
  have hd2 : decide (0 ≤ (n : Int) ∧ (n : Int) ≤ 20000) = true := by simp; omega
  have hmul : k * n ≤ 32 * 20000 := Nat.mul_le_mul hk hn
  have hmi : (n : Int) * (k : Int) = ((k * n : Nat) : Int) := by rw [Nat.mul_comm]; simp
  obtain ⟨z, HZ⟩ : ∃ z, Hid (z = (k * n + 7) / 8) := ⟨_, rfl⟩
  have hz : s.size < z := by rw [HZ.out]; omega
  go_enter Tryz.func59, Tryz.ntmps59
  go_wp2_with (first | (go_at_call 64; refine (isWidth_any _ _).mono ?_; rw [hd1]; rintro e w1 ⟨rfl, hw⟩; obtain rfl := hw.symm) | (go_at_call 65; refine (isCount_any _ _).mono ?_; rw [hd2]; rintro e w1 ⟨rfl, hw⟩; obtain rfl := hw.symm) | (go_at_call 91; refine (eights_any (k * n) _ (by omega)).mono ?_; rw [← HZ.out]; rintro e w2 ⟨rfl, hw⟩; obtain rfl := hw.symm))
  go_region
  all_goals (try go_wp2)
  all_goals go_ret2
  all_goals exact ⟨rfl, (Below.refl _ _).drew⟩
/-- What unpack leaves. -/
def Unpd (s : ByteArray) (k n : Nat) (e : Ending) (w w' : World) (tail : Array Value) : Prop :=
  ∃ g, w.heap.size ≤ g ∧ e = .returned (.tuple (#[.slice (some ⟨g, 0, none⟩) n n] ++ tail)) ∧ ∀ j, j < n → w'.cell? ⟨g, j, none⟩ = some (.int .i64 ((Um.lev s.data.toList / 2 ^ (k * j) % 2 ^ k : Nat) : Int))
set_option maxRecDepth 100000 in
set_option maxHeartbeats 800000 in
theorem unpackF_ok (s : ByteArray) (k n : Nat) (w : World) (hs : s.size ≤ 1000000) (hk : k ≤ 32) (hn : n ≤ 20000) (hsh : k * n ≤ 8 * s.size) :
    Calls Tryz.prog 59 #[.string s, .int .i64 k, .int .i64 n] w fun e w' => Unpd s k n e w w' #[.nilIface] ∧ Below w.heap.size w w' := by
  have hd1 : decide (0 ≤ (k : Int) ∧ (k : Int) ≤ 32) = true := by simp; omega
  have hd2 : decide (0 ≤ (n : Int) ∧ (n : Int) ≤ 20000) = true := by simp; omega
  have hmul : k * n ≤ 32 * 20000 := Nat.mul_le_mul hk hn
  have hmi : (n : Int) * (k : Int) = ((k * n : Nat) : Int) := by rw [Nat.mul_comm]; simp
  obtain ⟨z, HZ⟩ : ∃ z, Hid (z = (k * n + 7) / 8) := ⟨_, rfl⟩
  have hz : ¬ s.size < z := by rw [HZ.out]; omega
  have HF : Hid (k * n ≤ 8 * s.size) := hsh
  clear hsh
  go_enter Tryz.func59, Tryz.ntmps59
  go_wp2_with (first | (go_at_call 64; refine (isWidth_any _ _).mono ?_; rw [hd1]; rintro e w1 ⟨rfl, hw⟩; obtain rfl := hw.symm) | (go_at_call 65; refine (isCount_any _ _).mono ?_; rw [hd2]; rintro e w1 ⟨rfl, hw⟩; obtain rfl := hw.symm) | (go_at_call 91; refine (eights_any (k * n) _ (by omega)).mono ?_; rw [← HZ.out]; rintro e w2 ⟨rfl, hw⟩; obtain rfl := hw.symm) | (go_at_call 93; refine (unpack_any s k n w hs (by omega) hk HF.out).mono ?_; rintro e w3 ⟨⟨rfl, hc⟩, hb3⟩; have HC : Hid _ := hc; clear hc))
  go_ret2
  exact ⟨⟨w.heap.size, Nat.le_refl _, rfl, HC.out⟩, hb3⟩
/-- What UnpackOf says. -/
def UnpOf (s : ByteArray) (k n : Nat) (e : Ending) (w' : World) : Prop :=
  (k * n ≤ 8 * s.size ∧ ∃ a c, e = .returned (.tuple #[.slice a n c, .bool true]) ∧ Lies w' a (u64s (Um.unp s.data.toList k n)) ∧ ∃ B, w'.ownsRow B 78 1 (.slice a n c) n (u64s (Um.unp s.data.toList k n))) ∨
  (8 * s.size < k * n ∧ e = .returned (.tuple #[.slice none 0 0, .bool false]))
theorem bit_add {x b r k : Nat} (hx : x < 4294967296) (hk : k < 32) : IntKind.u64.wrap ((x : Int) + IntKind.u64.wrap (((b : Int) / 2 ^ r).tmod 2 * 2 ^ k)) = ((x + b / 2 ^ r % 2 * 2 ^ k : Nat) : Int) := by
  have h8 : 2 ^ k ≤ 2 ^ 31 := Nat.pow_le_pow_right (by omega) (by omega)
  have h31 : 2 ^ 31 = 2147483648 := by decide
  have hb : b / 2 ^ r % 2 < 2 := Nat.mod_lt _ (by omega)
  have hm : b / 2 ^ r % 2 * 2 ^ k ≤ 1 * 2 ^ 31 := Nat.mul_le_mul (by omega) h8
  have e0 : (b : Int) / 2 ^ r = ((b / 2 ^ r : Nat) : Int) := by simp
  have e1 : ((b : Int) / 2 ^ r).tmod 2 = ((b / 2 ^ r % 2 : Nat) : Int) := by
    rw [e0]
    generalize b / 2 ^ r = q
    rw [Int.tmod_eq_emod_of_nonneg (by omega)]; omega
  have e : ((b / 2 ^ r % 2 : Nat) : Int) * 2 ^ k = ((b / 2 ^ r % 2 * 2 ^ k : Nat) : Int) := by simp
  rw [e1, e, IntKind.wrap_u64, IntKind.wrap_u64]
  omega
set_option maxRecDepth 100000 in
set_option maxHeartbeats 1600000 in
theorem unpackOf_any (s : ByteArray) (k n : Nat) (w : World) (hs : s.size ≤ 1000000) (hk : k ≤ 32) (hn : n ≤ 20008) :
    Calls Tryz.prog 44 #[.string s, .int .i64 k, .int .i64 n] w fun e w' => UnpOf s k n e w' ∧ Below w.heap.size w w' := by
  obtain ⟨i0, hi, hz0, hz1, hz2⟩ := info_parts Tryz.info78
  have hmul : k * n ≤ 32 * 20008 := Nat.mul_le_mul hk hn
  obtain ⟨T, HT⟩ : ∃ T, Hid (T = k * n) := ⟨_, rfl⟩
  rw [← HT.out] at hmul
  go_enter Tryz.func44, Tryz.ntmps44
  go_wp2
  go_loopw [8, 9, 10] (fun v at_ x wr => ∃ i m : Nat, i ≤ n ∧ x = .int .i64 i ∧ at_ = .int .i64 m ∧ m ≤ 8 * s.size ∧ Hid (m = k * i) ∧ wr.ownsRow w.heap.size 78 1 v i (u64s (Um.unp s.data.toList k i)) ∧ Below w.heap.size w wr) (fun _ _ x _ => n - (intOf x).toNat)
  case atStart => exact ⟨0, 0, Nat.zero_le _, rfl, rfl, Nat.zero_le _, rfl, World.ownsRow_nil w w.heap.size 78 1, Below.refl _ _⟩
  case round =>
    obtain ⟨i, m, hin, rfl, rfl, hm8, HM, hown, hb⟩ := hrel
    by_cases hlt : i < n
    · have HM1 : Hid (m + k = k * (i + 1)) := by show _ = _; rw [Nat.mul_add, Nat.mul_one, HM.out]
      have hmT : m + k ≤ T := by rw [HM1.out, HT.out]; exact Nat.mul_le_mul_left _ hlt
      go_wp2
      go_loop [9, 11, 12, 13] (fun at_ x y _ => ∃ j x' : Nat, j ≤ k ∧ m + j ≤ 8 * s.size ∧ y = .int .i64 j ∧ at_ = .int .i64 ((m + j : Nat) : Int) ∧ x = .int .u64 x' ∧ x' < 4294967296 ∧ Hid (x' = Um.lev s.data.toList / 2 ^ m % 2 ^ j)) (fun _ _ y _ => k - (intOf y).toNat)
      case atStart => exact ⟨0, 0, Nat.zero_le _, by omega, rfl, by go_num, rfl, by omega, by show _ = _; simp [Nat.mod_one]⟩
      case round =>
        obtain ⟨j, x, hj, hj8, rfl, rfl, rfl, hx, HX⟩ := hrel
        by_cases hjk : j < k
        · by_cases hin8 : (m + j) / 8 < s.size
          · have hbit : s[(m + j) / 8].toNat / 2 ^ ((m + j) % 8) % 2 < 2 := Nat.mod_lt _ (by omega)
            have HB : Hid (Um.lev s.data.toList / 2 ^ m % 2 ^ (j + 1) = x + s[(m + j) / 8].toNat / 2 ^ ((m + j) % 8) % 2 * 2 ^ j) := by
              show _ = _
              have e : (s.data.toList)[(m + j) / 8]'(by simpa using hin8) = s[(m + j) / 8] := rfl
              rw [Um.mod_step, Nat.div_div_eq_div_mul, ← Nat.pow_add, Um.lev_bit _ _ (by simpa using hin8), e, HX.out]
            have hb8 : s[(m + j) / 8].toNat < 256 := s[(m + j) / 8].toNat_lt
            have HL : Hid (x + s[(m + j) / 8].toNat / 2 ^ ((m + j) % 8) % 2 * 2 ^ j < 4294967296) := by
              show _ < _
              rw [← HB.out]
              exact Nat.lt_of_lt_of_le (Nat.mod_lt _ (Nat.two_pow_pos _)) (Nat.le_trans (Nat.pow_le_pow_right (n := 2) (by omega) (show j + 1 ≤ 32 by omega)) (by decide))
            go_wp2
            go_round
            case rel => exact ⟨j + 1, x + s[(m + j) / 8].toNat / 2 ^ ((m + j) % 8) % 2 * 2 ^ j, by omega, by omega, by go_num, by go_num, congrArg (Value.int .u64) (bit_add hx (by omega)), HL.out, HB.out.symm⟩
            case measure => simp [intOf]; omega
          · have HS : Hid (8 * s.size < k * n) := by show _ < _; rw [← HT.out]; omega
            go_wp2
            go_ret2
            exact ⟨Or.inr ⟨HS.out, rfl⟩, hb⟩
        · obtain rfl : j = k := by omega
          have HU : Hid (u64s (Um.unp s.data.toList j (i + 1)) = u64s (Um.unp s.data.toList j i) ++ [.int .u64 (x : Int)]) := by
            show _ = _
            rw [Um.unp_succ, ← HM.out, ← HX.out]
            simp [u64s]
          go_wp2_with (at_builtin; refine wpList_append_own _ rfl _ _ 75 rfl w.heap.size 78 i0 (.int .u64 0) 1 8 Tryz.underlying75 hi hz0 hz1 hz2 rfl (by decide) _ _ _ rfl (hown.alloc _) ⟨wr.heap.size, 0, none⟩ 1 1 [.int .u64 x] rfl rfl (cell_one_new _ _ _) (by intro u hu; simp at hu; subst hu; rfl) (by unfold maxLen; omega) (by omega) (by have := hb.size; simp; omega) ?_; intro v' w1 hown' hgrow _)
          have hb2 := below_app hb (Nat.le_refl _) hown hgrow
          rw [← HU.out] at hown'
          go_wp2
          go_roundw
          case rel => exact ⟨i + 1, m + j, by omega, by go_num, by go_num, hj8, HM1, hown', hb2⟩
          case measure => simp [intOf]; omega
    · obtain rfl : i = n := by omega
      have hle : k * i ≤ 8 * s.size := by rw [← HM.out]; exact hm8
      have HLE : Hid (k * i ≤ 8 * s.size) := hle
      clear hle
      obtain ⟨a', c', rfl, hl⟩ := lies_own hown
      rw [u64s_len, Um.unp_len] at hown
      rw [u64s_len, Um.unp_len]
      go_wp2
      go_ret2
      exact ⟨Or.inl ⟨HLE.out, a', c', rfl, hl, w.heap.size, hown⟩, hb⟩
end Go.Proofs.YtmhkpnmifhfboaaGreatDoor

namespace Go.Proofs.YtmhkpnmifhfboaaGreatDoor
open Go.RowKit
theorem bit_shift {b k : Nat} (hb : b < 2) (hk : k < 8) : IntKind.i64.wrap ((b : Int) * 2 ^ k) = (b : Int) * 2 ^ k ∧ b * 2 ^ k < 256 := by
  have h8 : 2 ^ k ≤ 2 ^ 7 := Nat.pow_le_pow_right (by omega) (by omega)
  have hm : b * 2 ^ k ≤ 1 * 2 ^ 7 := Nat.mul_le_mul (by omega) h8
  have h7 : 2 ^ 7 = 128 := rfl
  have e : (b : Int) * 2 ^ k = ((b * 2 ^ k : Nat) : Int) := by simp
  exact ⟨by rw [e, IntKind.wrap_i64]; omega, by omega⟩
/-- What PackOf's loops keep. -/
def POuter (N T : Nat) (w1 : World) (s x : Value) (wr : World) : Prop := ∃ q : Nat, 8 * q < T + 8 ∧ x = .int .i64 ((8 * q : Nat) : Int) ∧ s = .string ⟨(Um.lit N q).toArray⟩ ∧ Below w1.heap.size w1 wr
def PInner (N T q : Nat) (c y : Value) : Prop := ∃ k c' : Nat, k ≤ 8 ∧ 8 * q + k ≤ T ∧ y = .int .i64 k ∧ c = .int .i64 c' ∧ c' = N / 2 ^ (8 * q) % 2 ^ k
set_option maxRecDepth 100000 in
set_option maxHeartbeats 1600000 in
theorem packOf_any (a : Option Addr) (c : Nat) (ns : List Nat) (wd : Nat) (w : World) (hn : ns.length ≤ 20000) (hwd : wd ≤ 64) (hns : ∀ x ∈ ns, x < 2 ^ wd) (h : Lies w a (u64s ns)) :
    Calls Tryz.prog 84 #[.slice a ns.length c, .int .i64 wd] w fun e w' => e = .returned (.string ⟨(Um.lit (Um.num wd ns) ((wd * ns.length + 7) / 8)).toArray⟩) ∧ Below w.heap.size w w' := by
  have HL : Hid (Lies w a (u64s ns)) := h
  have HNS : Hid (∀ x ∈ ns, x < 2 ^ wd) := hns
  have hmul : wd * ns.length ≤ 64 * 20000 := Nat.mul_le_mul hwd hn
  have hN := Um.num_lt wd ns hns
  clear h hns
  go_enter Tryz.func84, Tryz.ntmps84
  go_wp2_with fail
  refine (bitsOf_any a c ns wd w hn hwd HNS.out HL.out).mono ?_
  generalize hTe : wd * ns.length = T at hmul hN
  have HTe : Hid (wd * ns.length = T) := hTe
  generalize hNe : Um.num wd ns = N at hN
  have HNe : Hid (Um.num wd ns = N) := hNe
  clear hTe hNe
  rintro e w1 ⟨⟨ab, cb, rfl, hlb⟩, hb1⟩
  have HB : Hid (∀ j, j < T → ∃ b o, ab = some ⟨b, o, none⟩ ∧ w1.cell? ⟨b, o + j, none⟩ = some (.int .u8 ((N / 2 ^ j % 2 : Nat) : Int))) := fun j hj => by
    obtain ⟨b, o, e, hc⟩ := hlb j (by simp [cellsOf, Um.bitl_len, hj])
    refine ⟨b, o, e, ?_⟩
    rw [hc]
    simp only [cellsOf, List.getElem_map]
    rw [Um.bitl_get N T j hj, Um.bt_int (by omega) (by omega)]
  have HN : Hid (N < 2 ^ T) := hN
  clear hlb hN
  go_wp2_with fail
  go_loopw [6, 7] (POuter N T w1) (fun _ x _ => T + 8 - (intOf x).toNat)
  case atStart => exact ⟨0, by omega, rfl, rfl, Below.refl _ _⟩
  case round =>
    obtain ⟨q, hq, rfl, rfl, hb⟩ := hrel
    by_cases hlt : 8 * q < T
    · go_wp2_with fail
      go_loop [8, 9] (PInner N T q) (fun _ y => 8 - (intOf y).toNat)
      case atStart => exact ⟨0, 0, by omega, by omega, rfl, rfl, by show _ = _; simp [Nat.mod_one]⟩
      case round =>
        obtain ⟨k, cc, hk, hkT, rfl, rfl, hcc⟩ := hrel
        have HCC : Hid (cc = N / 2 ^ (8 * q) % 2 ^ k) := hcc
        clear hcc
        have hcl : cc < 256 := by rw [HCC.out]; exact Nat.lt_of_lt_of_le (Nat.mod_lt _ (Nat.two_pow_pos k)) (Nat.le_trans (Nat.pow_le_pow_right (n := 2) (by omega) hk) (by decide))
        by_cases hgo : k < 8 ∧ 8 * q + k < T
        · obtain ⟨hk8, hkt⟩ := hgo
          obtain ⟨b, o, rfl, hc⟩ := HB.out (8 * q + k) hkt
          have hc := (hb.cell (World.block_lt_of_cell? w1 _ hc)).trans hc
          have HS : Hid (N / 2 ^ (8 * q) % 2 ^ (k + 1) = cc + N / 2 ^ (8 * q + k) % 2 * 2 ^ k) := by
            show _ = _
            rw [HCC.out, Um.mod_step, Nat.div_div_eq_div_mul, ← Nat.pow_add]
          have hbit : N / 2 ^ (8 * q + k) % 2 < 2 := Nat.mod_lt _ (by omega)
          generalize N / 2 ^ (8 * q + k) % 2 = bit at hc HS hbit
          have hsh := (bit_shift hbit hk8).1
          have hshl := (bit_shift hbit hk8).2
          have hsum : ((cc : Int) + (bit : Int) * 2 ^ k) = ((cc + bit * 2 ^ k : Nat) : Int) := by simp
          have hwr : wrap64 ((cc : Int) + (bit : Int) * 2 ^ k) = (cc : Int) + (bit : Int) * 2 ^ k := by rw [hsum]; unfold wrap64; omega
          clear hsum
          go_wp2_with fail
          go_round
          case rel => exact ⟨k + 1, cc + bit * 2 ^ k, by omega, by omega, by go_num, by simp, HS.out.symm⟩
          case measure => simp [intOf]; omega
        · have HC : Hid (cc = Um.by_ N q) := by
            show _ = _
            rw [HCC.out]
            by_cases hk8 : k < 8
            · exact Um.by_end (by rw [show 8 * q + k = T by omega]; exact HN.out) hk
            · obtain rfl : k = 8 := by omega
              rfl
          have hcase : (k < 8 ∧ ¬ (8 * (q : Int) + (k : Int) < (T : Int))) ∨ k = 8 := by omega
          have hroom : (Um.lit N q).length ≤ 1000000 := by rw [Um.lit_len]; omega
          rcases hcase with ⟨hk8, hT8⟩ | rfl
          all_goals
            go_wp2_with (go_at_call 87; refine (byte_any _ _ (by omega) (by omega)).mono ?_; rintro e w' ⟨rfl, hb'⟩)
            go_roundw
            case rel => exact ⟨q + 1, by omega, by go_num, by rw [str_snoc, HC.out, ← Um.lit_succ], hb.trans (hb'.mono hb.size)⟩
            case measure => simp [intOf]; omega
    · go_wp2_with fail
      go_ret
      exact ⟨ret_str (by rw [HNe.out, HTe.out, show (T + 7) / 8 = q by omega]), hb1.trans (hb.mono hb1.size)⟩
end Go.Proofs.YtmhkpnmifhfboaaGreatDoor

namespace Go.Proofs.YtmhkpnmifhfboaaGreatDoor
open Go.RowKit
theorem bit_addW {x b r k : Nat} (h : x + b / 2 ^ r % 2 * 2 ^ k < 18446744073709551616) : IntKind.u64.wrap ((x : Int) + IntKind.u64.wrap (((b : Int) / 2 ^ r).tmod 2 * 2 ^ k)) = ((x + b / 2 ^ r % 2 * 2 ^ k : Nat) : Int) := by
  have e0 : (b : Int) / 2 ^ r = ((b / 2 ^ r : Nat) : Int) := by simp
  have e1 : ((b : Int) / 2 ^ r).tmod 2 = ((b / 2 ^ r % 2 : Nat) : Int) := by
    rw [e0]
    generalize b / 2 ^ r = q
    rw [Int.tmod_eq_emod_of_nonneg (by omega)]; omega
  have e : ((b / 2 ^ r % 2 : Nat) : Int) * 2 ^ k = ((b / 2 ^ r % 2 * 2 ^ k : Nat) : Int) := by simp
  rw [e1, e, IntKind.wrap_u64, IntKind.wrap_u64]
  omega
set_option maxRecDepth 100000 in
set_option maxHeartbeats 1600000 in
theorem unpackOf_wide (s : ByteArray) (k n : Nat) (w : World) (hs : s.size ≤ 1000000) (hk : k ≤ 64) (hn : n ≤ 20008) :
    Calls Tryz.prog 44 #[.string s, .int .i64 k, .int .i64 n] w fun e w' => UnpOf s k n e w' ∧ Below w.heap.size w w' := by
  obtain ⟨i0, hi, hz0, hz1, hz2⟩ := info_parts Tryz.info78
  have hmul : k * n ≤ 64 * 20008 := Nat.mul_le_mul hk hn
  obtain ⟨T, HT⟩ : ∃ T, Hid (T = k * n) := ⟨_, rfl⟩
  rw [← HT.out] at hmul
  go_enter Tryz.func44, Tryz.ntmps44
  go_wp2
  go_loopw [8, 9, 10] (fun v at_ x wr => ∃ i m : Nat, i ≤ n ∧ x = .int .i64 i ∧ at_ = .int .i64 m ∧ m ≤ 8 * s.size ∧ Hid (m = k * i) ∧ wr.ownsRow w.heap.size 78 1 v i (u64s (Um.unp s.data.toList k i)) ∧ Below w.heap.size w wr) (fun _ _ x _ => n - (intOf x).toNat)
  case atStart => exact ⟨0, 0, Nat.zero_le _, rfl, rfl, Nat.zero_le _, rfl, World.ownsRow_nil w w.heap.size 78 1, Below.refl _ _⟩
  case round =>
    obtain ⟨i, m, hin, rfl, rfl, hm8, HM, hown, hb⟩ := hrel
    by_cases hlt : i < n
    · have HM1 : Hid (m + k = k * (i + 1)) := by show _ = _; rw [Nat.mul_add, Nat.mul_one, HM.out]
      have hmT : m + k ≤ T := by rw [HM1.out, HT.out]; exact Nat.mul_le_mul_left _ hlt
      go_wp2
      go_loop [9, 11, 12, 13] (fun at_ x y _ => ∃ j x' : Nat, j ≤ k ∧ m + j ≤ 8 * s.size ∧ y = .int .i64 j ∧ at_ = .int .i64 ((m + j : Nat) : Int) ∧ x = .int .u64 x' ∧ x' < 18446744073709551616 ∧ Hid (x' = Um.lev s.data.toList / 2 ^ m % 2 ^ j)) (fun _ _ y _ => k - (intOf y).toNat)
      case atStart => exact ⟨0, 0, Nat.zero_le _, by omega, rfl, by go_num, rfl, by omega, by show _ = _; simp [Nat.mod_one]⟩
      case round =>
        obtain ⟨j, x, hj, hj8, rfl, rfl, rfl, hx, HX⟩ := hrel
        by_cases hjk : j < k
        · by_cases hin8 : (m + j) / 8 < s.size
          · have hbit : s[(m + j) / 8].toNat / 2 ^ ((m + j) % 8) % 2 < 2 := Nat.mod_lt _ (by omega)
            have HB : Hid (Um.lev s.data.toList / 2 ^ m % 2 ^ (j + 1) = x + s[(m + j) / 8].toNat / 2 ^ ((m + j) % 8) % 2 * 2 ^ j) := by
              show _ = _
              have e : (s.data.toList)[(m + j) / 8]'(by simpa using hin8) = s[(m + j) / 8] := rfl
              rw [Um.mod_step, Nat.div_div_eq_div_mul, ← Nat.pow_add, Um.lev_bit _ _ (by simpa using hin8), e, HX.out]
            have hb8 : s[(m + j) / 8].toNat < 256 := s[(m + j) / 8].toNat_lt
            have HL : Hid (x + s[(m + j) / 8].toNat / 2 ^ ((m + j) % 8) % 2 * 2 ^ j < 18446744073709551616) := by
              show _ < _
              rw [← HB.out]
              exact Nat.lt_of_lt_of_le (Nat.mod_lt _ (Nat.two_pow_pos _)) (Nat.le_trans (Nat.pow_le_pow_right (n := 2) (by omega) (show j + 1 ≤ 64 by omega)) (by decide))
            go_wp2
            go_round
            case rel => exact ⟨j + 1, x + s[(m + j) / 8].toNat / 2 ^ ((m + j) % 8) % 2 * 2 ^ j, by omega, by omega, by go_num, by go_num, congrArg (Value.int .u64) (bit_addW HL.out), HL.out, HB.out.symm⟩
            case measure => simp [intOf]; omega
          · have HS : Hid (8 * s.size < k * n) := by show _ < _; rw [← HT.out]; omega
            go_wp2
            go_ret2
            exact ⟨Or.inr ⟨HS.out, rfl⟩, hb⟩
        · obtain rfl : j = k := by omega
          have HU : Hid (u64s (Um.unp s.data.toList j (i + 1)) = u64s (Um.unp s.data.toList j i) ++ [.int .u64 (x : Int)]) := by
            show _ = _
            rw [Um.unp_succ, ← HM.out, ← HX.out]
            simp [u64s]
          go_wp2_with (at_builtin; refine wpList_append_own _ rfl _ _ 75 rfl w.heap.size 78 i0 (.int .u64 0) 1 8 Tryz.underlying75 hi hz0 hz1 hz2 rfl (by decide) _ _ _ rfl (hown.alloc _) ⟨wr.heap.size, 0, none⟩ 1 1 [.int .u64 x] rfl rfl (cell_one_new _ _ _) (by intro u hu; simp at hu; subst hu; rfl) (by unfold maxLen; omega) (by omega) (by have := hb.size; simp; omega) ?_; intro v' w1 hown' hgrow _)
          have hb2 := below_app hb (Nat.le_refl _) hown hgrow
          rw [← HU.out] at hown'
          go_wp2
          go_roundw
          case rel => exact ⟨i + 1, m + j, by omega, by go_num, by go_num, hj8, HM1, hown', hb2⟩
          case measure => simp [intOf]; omega
    · obtain rfl : i = n := by omega
      have hle : k * i ≤ 8 * s.size := by rw [← HM.out]; exact hm8
      have HLE : Hid (k * i ≤ 8 * s.size) := hle
      clear hle
      obtain ⟨a', c', rfl, hl⟩ := lies_own hown
      rw [u64s_len, Um.unp_len] at hown
      rw [u64s_len, Um.unp_len]
      go_wp2
      go_ret2
      exact ⟨Or.inl ⟨HLE.out, a', c', rfl, hl, w.heap.size, hown⟩, hb⟩
end Go.Proofs.YtmhkpnmifhfboaaGreatDoor
