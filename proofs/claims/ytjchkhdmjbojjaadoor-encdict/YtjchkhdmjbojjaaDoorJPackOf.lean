/-
  The reference's PackOf: the bytes of the numbers as one number.
-/
import Derived.Test.YtjchkhdmjbojjaaDoorJRefBits
namespace Go.Proofs.YtjchkhdmjbojjaaDoor
open Go.RowKit
theorem bit_shift {b k : Nat} (hb : b < 2) (hk : k < 8) : IntKind.i64.wrap ((b : Int) * 2 ^ k) = (b : Int) * 2 ^ k ∧ b * 2 ^ k < 256 := by
  have h8 : 2 ^ k ≤ 2 ^ 7 := Nat.pow_le_pow_right (by omega) (by omega)
  have hm : b * 2 ^ k ≤ 1 * 2 ^ 7 := Nat.mul_le_mul (by omega) h8
  have h7 : 2 ^ 7 = 128 := rfl
  have e : (b : Int) * 2 ^ k = ((b * 2 ^ k : Nat) : Int) := by simp
  exact ⟨by rw [e, IntKind.wrap_i64]; omega, by omega⟩
/-- What PackOf's loops keep. -/
def POuter (N T : Nat) (w1 : World) (s x : Value) (wr : World) : Prop := ∃ q : Nat, 8 * q < T + 8 ∧ x = .int .i64 ((8 * q : Nat) : Int) ∧ s = .string ⟨(Um.lit N q).toArray⟩ ∧ Below w1.heap.size w1 wr
def PInner (N T q : Nat) (c y : Value) : Prop := ∃ k c' : Nat, k ≤ 8 ∧ 8 * q + k ≤ T ∧ y = .int .i64 k ∧ c = .int .i64 c' ∧ c' = N / 2 ^ (8 * q) % 2 ^ k
set_option maxRecDepth 100000 in
set_option maxHeartbeats 1600000 in
theorem packOf_any (a : Option Addr) (c : Nat) (ns : List Nat) (wd : Nat) (w : World) (hn : ns.length ≤ 20000) (hwd : wd ≤ 64) (hns : ∀ x ∈ ns, x < 2 ^ wd) (h : Lies w a (u64s ns)) :
    Calls Tryd.prog 73 #[.slice a ns.length c, .int .i64 wd] w fun e w' => e = .returned (.string ⟨(Um.lit (Um.num wd ns) ((wd * ns.length + 7) / 8)).toArray⟩) ∧ Below w.heap.size w w' := by
  have HL : Hid (Lies w a (u64s ns)) := h
  have HNS : Hid (∀ x ∈ ns, x < 2 ^ wd) := hns
  have hmul : wd * ns.length ≤ 64 * 20000 := Nat.mul_le_mul hwd hn
  have hN := Um.num_lt wd ns hns
  clear h hns
  go_enter Tryd.func73, Tryd.ntmps73
  go_wp2_with fail
  refine (bitsOf_any a c ns wd w hn hwd HNS.out HL.out).mono ?_
  generalize hTe : wd * ns.length = T at hmul hN
  have HTe : Hid (wd * ns.length = T) := hTe
  generalize hNe : Um.num wd ns = N at hN
  have HNe : Hid (Um.num wd ns = N) := hNe
  clear hTe hNe
  rintro e w1 ⟨⟨ab, cb, rfl, hlb⟩, hb1⟩
  have HB : Hid (∀ j, j < T → ∃ b o, ab = some ⟨b, o, none⟩ ∧ w1.cell? ⟨b, o + j, none⟩ = some (.int .u8 ((N / 2 ^ j % 2 : Nat) : Int))) := fun j hj => by
    obtain ⟨b, o, e, hc⟩ := hlb j (by simp [cellsOf, Um.bitl_len, hj])
    refine ⟨b, o, e, ?_⟩
    rw [hc]
    simp only [cellsOf, List.getElem_map]
    rw [Um.bitl_get N T j hj, Um.bt_int (by omega) (by omega)]
  have HN : Hid (N < 2 ^ T) := hN
  clear hlb hN
  go_wp2_with fail
  go_loopw [6, 7] (POuter N T w1) (fun _ x _ => T + 8 - (intOf x).toNat)
  case atStart => exact ⟨0, by omega, rfl, rfl, Below.refl _ _⟩
  case round =>
    obtain ⟨q, hq, rfl, rfl, hb⟩ := hrel
    by_cases hlt : 8 * q < T
    · go_wp2_with fail
      go_loop [8, 9] (PInner N T q) (fun _ y => 8 - (intOf y).toNat)
      case atStart => exact ⟨0, 0, by omega, by omega, rfl, rfl, by show _ = _; simp [Nat.mod_one]⟩
      case round =>
        obtain ⟨k, cc, hk, hkT, rfl, rfl, hcc⟩ := hrel
        have HCC : Hid (cc = N / 2 ^ (8 * q) % 2 ^ k) := hcc
        clear hcc
        have hcl : cc < 256 := by rw [HCC.out]; exact Nat.lt_of_lt_of_le (Nat.mod_lt _ (Nat.two_pow_pos k)) (Nat.le_trans (Nat.pow_le_pow_right (n := 2) (by omega) hk) (by decide))
        by_cases hgo : k < 8 ∧ 8 * q + k < T
        · obtain ⟨hk8, hkt⟩ := hgo
          obtain ⟨b, o, rfl, hc⟩ := HB.out (8 * q + k) hkt
          have hc := (hb.cell (World.block_lt_of_cell? w1 _ hc)).trans hc
          have HS : Hid (N / 2 ^ (8 * q) % 2 ^ (k + 1) = cc + N / 2 ^ (8 * q + k) % 2 * 2 ^ k) := by
            show _ = _
            rw [HCC.out, Um.mod_step, Nat.div_div_eq_div_mul, ← Nat.pow_add]
          have hbit : N / 2 ^ (8 * q + k) % 2 < 2 := Nat.mod_lt _ (by omega)
          generalize N / 2 ^ (8 * q + k) % 2 = bit at hc HS hbit
          have hsh := (bit_shift hbit hk8).1
          have hshl := (bit_shift hbit hk8).2
          have hsum : ((cc : Int) + (bit : Int) * 2 ^ k) = ((cc + bit * 2 ^ k : Nat) : Int) := by simp
          have hwr : wrap64 ((cc : Int) + (bit : Int) * 2 ^ k) = (cc : Int) + (bit : Int) * 2 ^ k := by rw [hsum]; unfold wrap64; omega
          clear hsum
          go_wp2_with fail
          go_round
          case rel => exact ⟨k + 1, cc + bit * 2 ^ k, by omega, by omega, by go_num, by simp, HS.out.symm⟩
          case measure => simp [intOf]; omega
        · have HC : Hid (cc = Um.by_ N q) := by
            show _ = _
            rw [HCC.out]
            by_cases hk8 : k < 8
            · exact Um.by_end (by rw [show 8 * q + k = T by omega]; exact HN.out) hk
            · obtain rfl : k = 8 := by omega
              rfl
          have hcase : (k < 8 ∧ ¬ (8 * (q : Int) + (k : Int) < (T : Int))) ∨ k = 8 := by omega
          have hroom : (Um.lit N q).length ≤ 1000000 := by rw [Um.lit_len]; omega
          rcases hcase with ⟨hk8, hT8⟩ | rfl
          all_goals
            go_wp2_with (go_at_call 71; refine (byte_any _ _ (by omega) (by omega)).mono ?_; rintro e w' ⟨rfl, hb'⟩)
            go_roundw
            case rel => exact ⟨q + 1, by omega, by go_num, by rw [str_snoc, HC.out, ← Um.lit_succ], hb.trans (hb'.mono hb.size)⟩
            case measure => simp [intOf]; omega
    · go_wp2_with fail
      go_ret
      exact ⟨ret_str (by rw [HNe.out, HTe.out, show (T + 7) / 8 = q by omega]), hb1.trans (hb.mono hb1.size)⟩
end Go.Proofs.YtjchkhdmjbojjaaDoor
