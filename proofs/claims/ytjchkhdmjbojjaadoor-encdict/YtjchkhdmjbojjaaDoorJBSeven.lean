/-
  The reference's bytes of a number (Seven) are those that the mathematics names, for every number below 2^64.
  The reference's Little and ReadLittle: what they answer.
-/
import Derived.Test.YtjchkhdmjbojjaaDoorJBase
import Derived.Test.YtjchkhdmjbojjaaDoorJBMath
namespace Go.Proofs.YtjchkhdmjbojjaaDoor
open Go.RowKit
theorem byte_conv (w : World) (n : Int) :
    (convert 76 9 (.slice (some ⟨w.heap.size, 0, none⟩) 1 1)).run Tryd.prog (w.alloc (.cells #[.int .u8 n] 5)) = .ok (.string ⟨#[Um.bt n]⟩) (w.alloc (.cells #[.int .u8 n] 5)) := by
  refine run_convert_bytes_arg (w.alloc (.cells #[.int .u8 n] 5)) 76 5 Tryd.underlying76 Tryd.underlying5 w.heap.size 0 1 1 [n] rfl ?_ 9 Tryd.underlying9
  intro i hi
  obtain rfl : i = 0 := by omega
  simp
set_option maxHeartbeats 400000 in
theorem byte_any (n : Int) (w : World) (h0 : 0 ≤ n) (h1 : n < 256) :
    Calls Tryd.prog 71 #[.int .i64 n] w fun e w' => e = .returned (.string ⟨#[Um.bt n]⟩) ∧ Below w.heap.size w w' := by
  have hcv := byte_conv w n
  go_enter Tryd.func71, Tryd.ntmps71
  go_wp2
  go_ret
  exact ⟨rfl, (Below.refl _ _).alloc (Nat.le_refl _) _⟩
set_option maxHeartbeats 400000 in
theorem seven_any (n : Nat) (w : World) (h1 : n < 18446744073709551616) :
    Calls Tryd.prog 32 #[.int .u64 n] w fun e w' => e = .returned (.string ⟨(Um.uv n).toArray⟩) ∧ Below w.heap.size w w' := by
  go_enter Tryd.func32, Tryd.ntmps32
  go_wp2
  go_loopw [0, 3] (fun x o wr => ∃ (m : Nat) (l : List UInt8), m < 18446744073709551616 ∧ x = .int .u64 m ∧ o = .string ⟨l.toArray⟩ ∧ Hid (l ++ Um.uv m = Um.uv n) ∧ Below w.heap.size w wr)
    (fun x _ _ => (intOf x).toNat)
  case atStart => exact ⟨n, [], h1, rfl, rfl, rfl, Below.refl _ _⟩
  case round =>
    obtain ⟨m, l, hm, rfl, rfl, hl, hb⟩ := hrel
    have hroom := Um.uv_room h1 hl.out
    by_cases hlt : m < 128
    · go_wp2_with (go_at_call 71; refine (byte_any _ _ (by omega) (by omega)).mono ?_; rintro e w' ⟨rfl, hb'⟩)
      go_ret
      exact ⟨ret_str (by rw [str_snoc, Um.uv_end hlt hl.out]), hb.trans (hb'.mono hb.size)⟩
    · go_wp2_with (go_at_call 71; refine (byte_any _ _ (by omega) (by omega)).mono ?_; rintro e w' ⟨rfl, hb'⟩)
      go_roundw
      case rel => exact ⟨m / 128, l ++ [Um.bt (m % 128 + 128)], by omega, rfl, by rw [str_snoc], Um.uv_step hlt hl.out, hb.trans (hb'.mono hb.size)⟩
      case measure => simp [intOf]; omega

end Go.Proofs.YtjchkhdmjbojjaaDoor

namespace Go.Proofs.YtjchkhdmjbojjaaDoor
open Go.RowKit
theorem ret_u64 {a b : Int} (h : a = b) : Ending.returned (.int .u64 a) = .returned (.int .u64 b) := by rw [h]
set_option maxHeartbeats 800000 in
theorem little_any (n k : Nat) (w : World) (hn : n < 18446744073709551616) (h8 : k ≤ 8) :
    Calls Tryd.prog 72 #[.int .u64 n, .int .i64 k] w fun e w' => e = .returned (.string ⟨(Um.lit n k).toArray⟩) ∧ Below w.heap.size w w' := by
  go_enter Tryd.func72, Tryd.ntmps72
  go_wp2
  go_loopw [0, 5, 6] (fun x o c wr => ∃ (i m : Nat), i ≤ k ∧ m < 18446744073709551616 ∧ c = .int .i64 i ∧ x = .int .u64 m ∧ o = .string ⟨(Um.lit n i).toArray⟩ ∧ Hid (m = n / 2 ^ (8 * i)) ∧ Below w.heap.size w wr) (fun _ _ c _ => k - (intOf c).toNat)
  case atStart => exact ⟨0, n, Nat.zero_le _, hn, rfl, rfl, rfl, by show n = n / 2 ^ 0; simp, Below.refl _ _⟩
  case round =>
    obtain ⟨i, m, hik, hm, rfl, rfl, rfl, HM, hb⟩ := hrel
    have hll := Um.lit_len n i
    by_cases hlt : i < k
    · have HN : Hid (Um.lit n (i + 1) = Um.lit n i ++ [Um.bt ((m : Int) % 256)]) := by
        show _ = _
        rw [Um.lit_succ, HM.out]
        unfold Um.by_
        congr 3
      have HD : Hid (m / 256 = n / 2 ^ (8 * (i + 1))) := by show _ = _; rw [HM.out, Um.div_step]
      generalize Um.lit n i = l at *
      have hroom : l.length ≤ 8 := by omega
      clear hll
      go_wp2_with (go_at_call 71; refine (byte_any _ _ (by omega) (by omega)).mono ?_; rintro e w' ⟨rfl, hb'⟩)
      go_roundw
      case rel => exact ⟨i + 1, m / 256, by omega, by omega, by go_num, rfl, by rw [str_snoc, HN.out], HD, hb.trans (hb'.mono hb.size)⟩
      case measure => simp [intOf]; omega
    · obtain rfl : i = k := by omega
      go_wp2
      go_ret
      exact ⟨rfl, hb⟩
theorem drop_take_cons (s : ByteArray) (j k : Nat) (hj : j < k) (hs : k ≤ s.size) : (s.data.toList.take k).drop j = s[j]'(by omega) :: (s.data.toList.take k).drop (j + 1) := by
  have hl : (s.data.toList.take k).length = k := by simp; omega
  rw [List.drop_eq_getElem_cons (by omega)]
  congr 1
  rw [List.getElem_take]
  rfl
end Go.Proofs.YtjchkhdmjbojjaaDoor
