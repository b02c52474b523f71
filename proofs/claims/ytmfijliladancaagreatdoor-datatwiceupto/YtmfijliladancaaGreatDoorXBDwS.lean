/-
  The reader of a record's text: digits of 16, a byte of a value.
  The reader of a record's text: bytes that are a value.
-/
import Derived.Test.YtmfijliladancaaGreatDoorXBDwM
import Derived.Test.YtmfijliladancaaGreatDoorXBDwB
import Derived.Test.YtmfijliladancaaGreatDoorShelf
namespace Go.Proofs.YtmfijliladancaaGreatDoor
open Go.RowKit
theorem nx_rest {s : ByteArray} {p : Nat} {u : List UInt8} (h : Wo s p u) (j : Nat) (hj : j < u.length) : nx s (p + j) = u[j] := by
  obtain ⟨h1, h2⟩ := h.at_ j hj
  unfold nx
  rw [dif_pos h1, h2]
theorem hx_get (n : Nat) : ∀ (m i : Nat) (h : i < (hx n m).length), (hx n m)[i] = hxD (n / 16 ^ (m - 1 - i) % 16)
  | 0, i, h => absurd h (Nat.not_lt_zero _)
  | m + 1, 0, h => rfl
  | m + 1, i + 1, h => by
    show (hx n m)[i]'(by simpa [hx] using h) = _
    rw [hx_get n m i, show m + 1 - 1 - (i + 1) = m - 1 - i by omega]
theorem idx_dig : ∀ d : Nat, d < 16 → Lib.indexByte [48, 49, 50, 51, 52, 53, 54, 55, 56, 57, 97, 98, 99, 100, 101, 102] (hxD d) = (d : Int) := by
  intro d hd
  have hh : d = 0 ∨ d = 1 ∨ d = 2 ∨ d = 3 ∨ d = 4 ∨ d = 5 ∨ d = 6 ∨ d = 7 ∨ d = 8 ∨ d = 9 ∨ d = 10 ∨ d = 11 ∨ d = 12 ∨ d = 13 ∨ d = 14 ∨ d = 15 := by omega
  rcases hh with rfl | rfl | rfl | rfl | rfl | rfl | rfl | rfl | rfl | rfl | rfl | rfl | rfl | rfl | rfl | rfl <;> decide +kernel
theorem u8_back (c : UInt8) : ((c.toNat : Nat) : Int).toNat.toUInt8 = c := by
  show (c.toNat).toUInt8 = c
  exact UInt8.ofNat_toNat
theorem shl_or (a d : Nat) (ha : a < 1152921504606846976) (hd : d < 16) : bits BinOp.or IntKind.u64 (((a * 16 : Nat)) : Int) (d : Int) = ((a * 16 + d : Nat) : Int) := by
  rw [bits_or_u64_nat _ _ (by omega) (by omega)]
  congr 1
  rw [show a * 16 = 2 ^ 4 * a by omega]
  exact (Nat.two_pow_add_eq_or_of_lt (by omega) a).symm
theorem nib_step (n m i : Nat) (h : i < m) : n / 16 ^ (m - i - 1) = n / 16 ^ (m - i) * 16 + n / 16 ^ (m - 1 - i) % 16 := by
  have e1 : m - 1 - i = m - i - 1 := by omega
  have e2 : m - i = (m - i - 1) + 1 := by omega
  rw [e1, e2, Nat.pow_succ, ← Nat.div_div_eq_div_mul]
  have h2 : m - i - 1 + 1 - 1 = m - i - 1 := by omega
  rw [h2]
  omega
set_option maxRecDepth 100000 in
set_option maxHeartbeats 3200000 in
theorem digits_any (r : Nat) (s : ByteArray) (p n m : Nat) (hm : m ≤ 16) (hn : n < 16 ^ m) (W : World) (hr : Rdd r s p W) (hs : s.size ≤ 100000) (hw : Wo s p (hx n m)) (hp : p ≤ s.size) :
    Calls Tryz.prog (70) #[.pointer (some ⟨r, 0, none⟩), .int .i64 (m : Nat)] W fun e w' => e = .returned (.int .u64 (n : Nat)) ∧ Rdd r s (p + m) w' ∧ RFr r W w' := by
  have HR : Hid (Rdd r s p W) := hr
  have HW : Hid (Wo s p (hx n m)) := hw
  have HNn : Hid (n < 16 ^ m) := hn
  have hxl := hx_len n m
  have hpm : p + m ≤ s.size := by
    by_cases h0 : m = 0
    · omega
    · have := hw.le (by omega)
      omega
  have hn64 : n < 18446744073709551616 := Nat.lt_of_lt_of_le hn (by
    have : (16 : Nat) ^ m ≤ 16 ^ 16 := Nat.pow_le_pow_right (by omega) hm
    omega)
  have hst : n / 16 ^ (m - 0) = 0 := by rw [Nat.sub_zero]; exact Nat.div_eq_of_lt hn
  clear hr hw hn
  go_enter Tryz.func70, Tryz.ntmps70
  go_wp2_with fail
  go_loopw [5, 8] (fun a x wr => ∃ i : Nat, i ≤ m ∧ x = .int .i64 i ∧ a = .int .u64 ((n / 16 ^ (m - i) : Nat) : Int) ∧ Hid (Rdd r s (p + i) wr) ∧ Hid (RFr r W wr)) (fun _ x _ => m - (intOf x).toNat)
  case atStart => exact ⟨0, Nat.zero_le _, rfl, by rw [hst]; rfl, HR.out, RFr.refl _ _⟩
  case round =>
    clear HR hst
    obtain ⟨i, him, rfl, rfl, HR, HF⟩ := hrel
    by_cases hlt : i < m
    · have HNx : Hid (nx s (p + i) = hxD (n / 16 ^ (m - 1 - i) % 16)) := (nx_rest HW.out i (by omega)).trans (hx_get n m i (by omega))
      have HSt : Hid (n / 16 ^ (m - (i + 1)) = n / 16 ^ (m - i) * 16 + n / 16 ^ (m - 1 - i) % 16) := (by
        show _ = _
        rw [show m - (i + 1) = m - i - 1 by omega]
        exact nib_step n m i hlt)
      have hd16 : n / 16 ^ (m - 1 - i) % 16 < 16 := Nat.mod_lt _ (by omega)
      have hle : n / 16 ^ (m - (i + 1)) ≤ n := Nat.div_le_self _ _
      rw [HSt.out] at hle
      obtain ⟨d, HD⟩ := hid_name (n / 16 ^ (m - 1 - i) % 16)
      obtain ⟨a, HA⟩ := hid_name (n / 16 ^ (m - i))
      rw [HD.out] at HNx HSt hd16 hle
      rw [HA.out] at HSt hle ⊢
      have ha60 : a < 1152921504606846976 := by omega
      have HQ : Hid (bits BinOp.or IntKind.u64 ((a : Int) * 16) (d : Int) = ((a * 16 + d : Nat) : Int)) := shl_or a d ha60 hd16
      have qs : IntKind.u64.wrap ((a : Int) * 2 ^ 4) = ((a * 16 : Nat) : Int) := by rw [IntKind.wrap_u64]; omega
      have qs2 : IntKind.u64.wrap ((a : Int) * 16) = ((a * 16 : Nat) : Int) := by rw [IntKind.wrap_u64]; omega
      have qd : IntKind.u64.wrap (d : Int) = (d : Int) := by rw [IntKind.wrap_u64]; omega
      have HC : Hid (Calls Tryz.prog (31) #[.pointer (some ⟨r, 0, none⟩)] wr fun e w' => e = .returned (.int .u8 (hxD d).toNat) ∧ ∃ m, w' = wr.drewN m) := (by
        have h := dnext_any r s (p + i) wr HR.out (by omega)
        rw [HNx.out] at h
        exact h)
      have HIx : Hid (∀ X, Calls Tryz.prog 77 #[.string ⟨#[48, 49, 50, 51, 52, 53, 54, 55, 56, 57, 97, 98, 99, 100, 101, 102]⟩, .int .u8 (hxD d).toNat] X fun e w' => e = .returned (.int .i64 (d : Int)) ∧ w' = X) := fun X => by
        have h := Tryz.strings_IndexByte ⟨#[48, 49, 50, 51, 52, 53, 54, 55, 56, 57, 97, 98, 99, 100, 101, 102]⟩ ((hxD d).toNat : Nat) X
        rw [u8_back, show (⟨#[48, 49, 50, 51, 52, 53, 54, 55, 56, 57, 97, 98, 99, 100, 101, 102]⟩ : ByteArray).data.toList = [48, 49, 50, 51, 52, 53, 54, 55, 56, 57, 97, 98, 99, 100, 101, 102] from rfl, idx_dig d hd16] at h
        exact h
      go_wp2_with fail
      refine Calls.mono HC.out ?_
      rintro e w1 ⟨rfl, k, rfl⟩
      go_wp2_with fail
      refine Calls.mono (HIx.out _) ?_
      rintro e w2 ⟨rfl, hw2⟩
      obtain rfl := hw2.symm
      obtain ⟨c0, c1, f1⟩ := row_twoD (HR.out.drew k)
      have HR2 : Hid _ := (HR.out.drew k).set (x := (p : Int) + (i : Int) + 1) (q := p + (i + 1)) (by omega)
      have HF2 : Hid _ := (rfr_drew HF.out k).set (j := 1) (v := .int .i64 ((p : Int) + (i : Int) + 1))
      go_wp2
      go_roundw
      case rel => exact ⟨i + 1, by omega, by go_num, by rw [HSt.out, HQ.out], HR2.out, HF2.out⟩
      case measure => simp [intOf]; omega
    · obtain rfl : i = m := by omega
      have HE : Hid (n / 16 ^ (i - i) = n) := (by show _ = _; rw [Nat.sub_self]; simp)
      go_wp2
      go_ret
      exact ⟨by rw [HE.out]; rfl, HR.out, HF.out⟩
set_option maxRecDepth 100000 in
set_option maxHeartbeats 1600000 in
theorem takeIf_any (r : Nat) (s : ByteArray) (p : Nat) (c : UInt8) (W : World) (hr : Rdd r s p W) (hs : s.size ≤ 100000) (hp : p ≤ s.size) (h0 : nx s p = c → p < s.size) :
    Calls Tryz.prog (52) #[.pointer (some ⟨r, 0, none⟩), .int .u8 c.toNat] W fun e w' => ∃ b, e = .returned (.bool b) ∧ (b = true ↔ nx s p = c) ∧ Rdd r s (if b then p + 1 else p) w' ∧ RFr r W w' := by
  have HR : Hid (Rdd r s p W) := hr
  obtain ⟨v, HV⟩ := hid_name (nx s p)
  have HC : Hid (Calls Tryz.prog (31) #[.pointer (some ⟨r, 0, none⟩)] W fun e w' => e = .returned (.int .u8 v.toNat) ∧ ∃ m, w' = W.drewN m) := (by
    have h := dnext_any r s p W hr hp
    rw [HV.out] at h
    exact h)
  rw [HV.out] at h0 ⊢
  clear hr
  by_cases hvc : v = c
  · have hlt := h0 hvc
    subst hvc
    clear h0
    go_enter Tryz.func52, Tryz.ntmps52
    go_wp2_with fail
    refine Calls.mono HC.out ?_
    rintro e w1 ⟨rfl, k, rfl⟩
    obtain ⟨c0, c1, f1⟩ := row_twoD (HR.out.drew k)
    have HR2 : Hid _ := (HR.out.drew k).set (x := (p : Int) + 1) (q := p + 1) (by omega)
    have HF2 : Hid _ := (rfr_drew (RFr.refl r W) k).set (j := 1) (v := .int .i64 ((p : Int) + 1))
    go_wp2
    go_ret
    exact ⟨true, rfl, by simp, HR2.out, HF2.out⟩
  · have q : ((v.toNat : Int) == (c.toNat : Int)) = false := by
      rw [beq_eq_false_iff_ne]
      intro e
      exact hvc (UInt8.toNat_inj.1 (by omega))
    have q2 : (v.toNat == c.toNat) = false := by
      rw [beq_eq_false_iff_ne]
      intro e
      exact hvc (UInt8.toNat_inj.1 e)
    go_enter Tryz.func52, Tryz.ntmps52
    go_wp2_with fail
    refine Calls.mono HC.out ?_
    rintro e w1 ⟨rfl, k, rfl⟩
    have HR2 : Hid _ := HR.out.drew k
    have HF2 : Hid _ := rfr_drew (RFr.refl r W) k
    go_wp2
    go_ret
    exact ⟨false, rfl, by simp [hvc], HR2.out, HF2.out⟩
end Go.Proofs.YtmfijliladancaaGreatDoor

namespace Go.Proofs.YtmfijliladancaaGreatDoor
open Go.RowKit
/-- A row of one's own, behind calls of the reader. -/
theorem row_rf {r B e sz n : Nat} {W w' : World} {v : Value} {xs : List Value} (h : W.ownsRow B e sz v n xs) (hf : RFr r W w') (hr : r < B) : w'.ownsRow B e sz v n xs := by
  refine ⟨h.1, ?_⟩
  rcases h.2 with hn | ⟨g, cap, cur, rfl, hbg, hg, rest⟩
  · exact .inl hn
  · exact .inr ⟨g, cap, cur, rfl, hbg, hf.box hg (by omega), rest⟩
theorem rfr_grow {r : Nat} {W w1 w2 : World} {ob : Obj} {v : Value} (h : RFr r W w1) (hg : (w1.alloc ob).grownBy w2 v.ownBlock) (hv : ∀ k, v.ownBlock = some k → W.heap.size ≤ k) : RFr r W w2 ∧ ∀ k, k < W.heap.size → w2.heap[k]? = w1.heap[k]? := by
  have hs := h.size
  have hgs := hg.size
  simp only [World.size_alloc] at hgs
  have hS : ∀ b, b < W.heap.size → w2.heap[b]? = w1.heap[b]? := fun b hb => by
    rw [hg.block b (by simp; omega) (fun e => by have := hv b e.symm; omega), heap_alloc_old w1 ob (by omega)]
  exact ⟨⟨hg.os.trans h.os, hg.tape.trans h.tape, hg.output.trans h.output, by omega, fun k hk hne => by rw [hS k hk, h.keep k hk hne]⟩, hS⟩
def slLen : Value → Nat
  | .slice _ n _ => n
  | _ => 0
set_option maxRecDepth 100000 in
set_option maxHeartbeats 3200000 in
theorem byteOf_any (r : Nat) (s : ByteArray) (p : Nat) (c : UInt8) (W : World) (hr : Rdd r s p W) (hs : s.size ≤ 100000) (hw : Wo s p (byT c)) (hp : p ≤ s.size) :
    Calls Tryz.prog (76) #[.pointer (some ⟨r, 0, none⟩)] W fun e w' => e = .returned (.int .u8 c.toNat) ∧ Rdd r s (p + (byT c).length) w' ∧ RFr r W w' := by
  have HR : Hid (Rdd r s p W) := hr
  have HN : Hid (∀ v, nx s p = v → Calls Tryz.prog (31) #[.pointer (some ⟨r, 0, none⟩)] W fun e w' => e = .returned (.int .u8 v.toNat) ∧ ∃ m, w' = W.drewN m) := fun v hv => by
    have h := dnext_any r s p W hr hp
    rw [hv] at h
    exact h
  by_cases hc : asIs c = true
  · have hb : byT c = [c] := by unfold byT; rw [if_pos hc]
    rw [hb] at hw ⊢
    have hws := hw.le (by simp)
    simp only [List.length_cons, List.length_nil] at hws ⊢
    have HC : Hid _ := HN.out c hw.nx
    have HS : Hid (∀ X, Calls Tryz.prog 71 #[.int .u8 c.toNat] X fun e w' => e = .returned (.bool true) ∧ w' = X) := fun X => by rw [← hc]; exact stands_any c X
    clear hr hw hb hc
    go_enter Tryz.func76, Tryz.ntmps76
    go_wp2_with fail
    refine Calls.mono HC.out ?_
    rintro e w1 ⟨rfl, k, rfl⟩
    go_wp2_with fail
    refine Calls.mono (HS.out _) ?_
    rintro e w2 ⟨rfl, hw2⟩
    obtain rfl := hw2.symm
    obtain ⟨c0, c1, f1⟩ := row_twoD (HR.out.drew k)
    have HR2 : Hid _ := (HR.out.drew k).set (x := (p : Int) + 1) (q := p + 1) (by omega)
    have HF2 : Hid _ := (rfr_drew (RFr.refl r W) k).set (j := 1) (v := .int .i64 ((p : Int) + 1))
    go_wp2
    go_ret
    exact ⟨rfl, HR2.out, HF2.out⟩
  · have hb : byT c = 92 :: hx c.toNat 2 := by unfold byT; rw [if_neg hc]
    rw [Bool.not_eq_true] at hc
    rw [hb] at hw ⊢
    have hws := hw.le (by simp)
    simp only [List.length_cons, hx_len] at hws ⊢
    have hc255 : c.toNat < 256 := c.toNat_lt
    have qw : IntKind.u8.wrap (c.toNat : Int) = ((c.toNat : Nat) : Int) := by rw [IntKind.wrap_u8]; omega
    have HC : Hid _ := HN.out 92 hw.nx
    have HS0 : Hid (∀ X, Calls Tryz.prog 71 #[.int .u8 92] X fun e w' => e = .returned (.bool false) ∧ w' = X) := fun X => stands_any 92 X
    have HS : Hid (∀ X, Calls Tryz.prog 71 #[.int .u8 c.toNat] X fun e w' => e = .returned (.bool false) ∧ w' = X) := fun X => by rw [← hc]; exact stands_any c X
    have HT : Hid (∀ X, Rdd r s p X → Calls Tryz.prog (32) #[.pointer (some ⟨r, 0, none⟩), .string ⟨#[92]⟩] X fun e w' => e = .returned (.tuple #[]) ∧ Rdd r s (p + 1) w' ∧ RFr r X w') := fun X hX => dtake_any r s ⟨#[92]⟩ p X hX hs (Wo.left (u := [92]) hw) hp
    have HD : Hid (∀ X, Rdd r s (p + 1) X → Calls Tryz.prog (70) #[.pointer (some ⟨r, 0, none⟩), .int .i64 2] X fun e w' => e = .returned (.int .u64 (c.toNat : Nat)) ∧ Rdd r s (p + 1 + 2) w' ∧ RFr r X w') := fun X hX => digits_any r s (p + 1) c.toNat 2 (by omega) (by omega) X hX hs hw.tail (by omega)
    clear hr hw hb hc
    go_enter Tryz.func76, Tryz.ntmps76
    go_wp2_with fail
    refine Calls.mono HC.out ?_
    rintro e w1 ⟨rfl, k, rfl⟩
    go_wp2_with fail
    refine Calls.mono (HS0.out _) ?_
    rintro e w2 ⟨rfl, hw2⟩
    obtain rfl := hw2.symm
    go_wp2_with fail
    refine Calls.mono (HT.out _ (HR.out.drew k)) ?_
    rintro e w3 ⟨rfl, hr3, hf3⟩
    have HR3 : Hid _ := hr3
    have HF3 : Hid (RFr r W w3) := (rfr_drew (RFr.refl r W) k).trans hf3
    clear hr3 hf3
    obtain ⟨c0, c1, f1⟩ := row_twoD HR3.out
    go_wp2_with fail
    refine Calls.mono (HD.out _ HR3.out) ?_
    rintro e w4 ⟨rfl, hr4, hf4⟩
    have HR4 : Hid _ := hr4
    have HF4 : Hid (RFr r W w4) := HF3.out.trans hf4
    clear hr4 hf4 c0 c1 f1
    go_wp2_with fail
    refine Calls.mono (HS.out _) ?_
    rintro e w5 ⟨rfl, hw5⟩
    obtain rfl := hw5.symm
    go_wp2
    go_ret
    exact ⟨rfl, HR4.out, HF4.out⟩
theorem byT_head (c : UInt8) : ∃ b t, byT c = b :: t ∧ b ≠ 34 := by
  unfold byT
  split
  · rename_i h
    refine ⟨c, [], rfl, ?_⟩
    rintro rfl
    exact absurd h (by decide)
  · exact ⟨92, _, rfl, by decide⟩
set_option maxRecDepth 100000 in
set_option maxHeartbeats 6400000 in
theorem bytes_any (r : Nat) (s : ByteArray) (p : Nat) (l : List UInt8) (hl : l.length ≤ 100) (W : World) (hr : Rdd r s p W) (hs : s.size ≤ 100000) (hw : Wo s p (34 :: (bysT l ++ [34]))) (hp : p ≤ s.size) :
    Calls Tryz.prog (69) #[.pointer (some ⟨r, 0, none⟩)] W fun e w' => e = .returned (.string ⟨l.toArray⟩) ∧ Rdd r s (p + (2 + (bysT l).length)) w' ∧ RFr r W w' := by
  obtain ⟨i0, hi, hz0, hz1, hz2⟩ := info_parts Tryz.info5
  have hrw : r < W.heap.size := lt_of_block hr
  have HW : Hid (Wo s (p + 1) (bysT l ++ [34])) := hw.tail
  have hws := hw.le (by simp)
  simp only [List.length_cons, List.length_append, List.length_nil] at hws
  have HT : Hid (Calls Tryz.prog (32) #[.pointer (some ⟨r, 0, none⟩), .string ⟨#[34]⟩] W fun e w' => e = .returned (.tuple #[]) ∧ Rdd r s (p + 1) w' ∧ RFr r W w') := dtake_any r s ⟨#[34]⟩ p W hr hs (Wo.left (u := [34]) hw) hp
  clear hr hw
  go_enter Tryz.func69, Tryz.ntmps69
  go_wp2_with fail
  refine Calls.mono HT.out ?_
  rintro e w1 ⟨rfl, hr1, hf1⟩
  have HR1 : Hid _ := hr1
  have HF1 : Hid _ := hf1
  clear hr1 hf1
  go_wp2_with fail
  go_loopw [3] (fun x wr => ∃ i : Nat, i ≤ l.length ∧ Hid (BtR wr W.heap.size x (l.take i)) ∧ Hid (Rdd r s (p + 1 + (bysT (l.take i)).length) wr) ∧ Hid (RFr r W wr)) (fun x _ => l.length - slLen x)
  case atStart => exact ⟨0, Nat.zero_le _, World.ownsRow_nil _ _ _ _, HR1.out, HF1.out⟩
  case round =>
    clear HR1 HF1 HT
    obtain ⟨i, hil, HB, HR, HF⟩ := hrel
    have hlt0 : (l.take i).length = i := by rw [List.length_take]; omega
    obtain ⟨a0, c0, rfl⟩ : ∃ a0 c0, u3 = .slice a0 i c0 := by
      rcases HB.out.2 with ⟨rfl, h0⟩ | ⟨g, cap, cur, rfl, _⟩
      · rw [hlt0] at h0
        subst h0
        exact ⟨none, 0, rfl⟩
      · rw [hlt0]
        exact ⟨_, _, rfl⟩
    by_cases hlt : i < l.length
    · have HTk : Hid (l.take (i + 1) = l.take i ++ [l[i]]) := List.take_succ_eq_append_getElem hlt
      have HLe : Hid (bysT l = bysT (l.take i) ++ (byT l[i] ++ bysT (l.drop (i + 1)))) := (by
        show _ = _
        have h : l = l.take i ++ (l[i] :: l.drop (i + 1)) := by rw [← List.drop_eq_getElem_cons hlt, List.take_append_drop]
        have h2 := congrArg bysT h
        rw [bysT_app, bysT] at h2
        exact h2)
      have HWi : Hid (Wo s (p + 1 + (bysT (l.take i)).length) (byT l[i])) := (by
        have h := HW.out
        rw [HLe.out, List.append_assoc, List.append_assoc] at h
        exact h.right.left)
      have hbl : (bysT l).length = (bysT (l.take i)).length + ((byT l[i]).length + (bysT (l.drop (i + 1))).length) := by rw [HLe.out]; simp only [List.length_append]
      obtain ⟨c, HCn⟩ := hid_name l[i]
      have HBn : Hid ((bysT (l.take (i + 1))).length = (bysT (l.take i)).length + (byT l[i]).length) := (by
        show _ = _
        rw [HTk.out, bysT_app, bysT, bysT, List.append_nil, List.length_append])
      rw [HCn.out] at HTk HWi HBn hbl
      obtain ⟨q, HQn⟩ := hid_name (p + 1 + (bysT (l.take i)).length)
      have hqs : q ≤ s.size := by rw [← HQn.out]; omega
      rw [HQn.out] at HWi HR
      obtain ⟨hb, tb, hbe, hb34⟩ := byT_head c
      have HNx : Hid (nx s q = hb) := (by
        have h := HWi.out
        rw [hbe] at h
        exact h.nx)
      have HN : Hid (Calls Tryz.prog (31) #[.pointer (some ⟨r, 0, none⟩)] wr fun e w' => e = .returned (.int .u8 hb.toNat) ∧ ∃ m, w' = wr.drewN m) := (by
        have h := dnext_any r s q wr HR.out hqs
        rw [HNx.out] at h
        exact h)
      have HBy : Hid (∀ k, Calls Tryz.prog (76) #[.pointer (some ⟨r, 0, none⟩)] (wr.drewN k) fun e w' => e = .returned (.int .u8 c.toNat) ∧ Rdd r s (q + (byT c).length) w' ∧ RFr r (wr.drewN k) w') := fun k => byteOf_any r s q c (wr.drewN k) (HR.out.drew k) hs HWi.out hqs
      have q34 : ((hb.toNat : Int) != 34) = true := by
        rw [bne_iff_ne]
        intro e
        exact hb34 (UInt8.toNat_inj.1 (by show hb.toNat = 34; omega))
      have q34b : (hb.toNat == 34) = false := by
        rw [beq_eq_false_iff_ne]
        intro e
        exact hb34 (UInt8.toNat_inj.1 e)
      have q100 : ((i : Int) == 100) = false := by rw [beq_eq_false_iff_ne]; omega
      clear hbe hb34
      go_wp2_with fail
      refine Calls.mono HN.out ?_
      rintro e w2 ⟨rfl, k, rfl⟩
      go_wp2_with fail
      refine Calls.mono (HBy.out k) ?_
      rintro e w3 ⟨rfl, hr3, hf3⟩
      have HR3 : Hid (Rdd r s (q + (byT c).length) w3) := hr3
      have HF3 : Hid (RFr r W w3) := (rfr_drew HF.out k).trans hf3
      have HB3 : Hid (BtR w3 W.heap.size (.slice a0 i c0) (l.take i)) := row_rf (r := r) (W := wr) HB.out ((rfr_drew (RFr.refl r wr) k).trans hf3) hrw
      clear hr3 hf3
      have hw3 := HF3.out.size
      go_wp2_with (at_builtin; refine wpList_append_own _ rfl _ _ 48 rfl W.heap.size 5 i0 (.int .u8 0) 1 1 Tryz.underlying48 hi hz0 hz1 hz2 rfl (by decide) _ _ _ rfl (HB3.out.alloc _) ⟨_, 0, none⟩ 1 1 [.int .u8 c.toNat] rfl rfl (byte_cell _ _ _) (by intro u hu; simp at hu; subst hu; rfl) (by rw [hlt0]; unfold maxLen; omega) (by rw [hlt0]; omega) (by simp; omega) ?_; intro b4 w4 hown4 hgrow4 _; have HG4 : Hid (RFr r W w4 ∧ ∀ k, k < W.heap.size → w4.heap[k]? = w3.heap[k]?) := rfr_grow HF3.out hgrow4 (fun k hk => (HB3.out.lt k hk).1); have HB4 : Hid (BtR w4 W.heap.size b4 (l.take (i + 1))) := (by rw [HTk.out]; show World.ownsRow _ _ _ _ _ _ _; rw [ow_app, List.length_append]; exact hown4))
      have HR4 : Hid (Rdd r s (q + (byT c).length) w4) := (HG4.out.2 r hrw).trans HR3.out
      have HSl : Hid (slLen b4 = i + 1) := (by
        obtain ⟨g9, c9, rfl⟩ := own_shape hown4
        show (l.take i).length + 1 = i + 1
        rw [hlt0])
      clear hown4 hgrow4
      go_roundw
      case rel => exact ⟨i + 1, hlt, HB4, by rw [HBn.out, ← Nat.add_assoc, HQn.out]; exact HR4, HG4.out.1⟩
      case measure => rw [HSl.out]; simp only [slLen]; omega
    · obtain rfl : i = l.length := by omega
      have HTl : Hid (l.take l.length = l) := List.take_length
      have HNx : Hid (nx s (p + 1 + (bysT (l.take l.length)).length) = 34) := (by
        rw [HTl.out]
        exact HW.out.right.nx)
      have HWe : Hid (Wo s (p + 1 + (bysT (l.take l.length)).length) [34]) := (by
        rw [HTl.out]
        exact HW.out.right)
      have HPe : Hid (p + 1 + (bysT (l.take l.length)).length + 1 = p + (2 + (bysT l).length)) := (by show _ = _; rw [HTl.out]; omega)
      have hqs : p + 1 + (bysT (l.take l.length)).length ≤ s.size := by rw [HTl.out]; omega
      rw [HTl.out] at HB
      obtain ⟨q, HQn⟩ := hid_name (p + 1 + (bysT (l.take l.length)).length)
      rw [HQn.out] at HNx HR HWe HPe hqs
      have HN : Hid (Calls Tryz.prog (31) #[.pointer (some ⟨r, 0, none⟩)] wr fun e w' => e = .returned (.int .u8 34) ∧ ∃ m, w' = wr.drewN m) := (by
        have h := dnext_any r s q wr HR.out hqs
        rw [HNx.out] at h
        exact h)
      have HT : Hid (∀ k, Calls Tryz.prog (32) #[.pointer (some ⟨r, 0, none⟩), .string ⟨#[34]⟩] (wr.drewN k) fun e w' => e = .returned (.tuple #[]) ∧ Rdd r s (q + 1) w' ∧ RFr r (wr.drewN k) w') := fun k => dtake_any r s ⟨#[34]⟩ q (wr.drewN k) (HR.out.drew k) hs HWe.out hqs
      go_wp2_with fail
      refine Calls.mono HN.out ?_
      rintro e w2 ⟨rfl, k, rfl⟩
      go_wp2_with fail
      refine Calls.mono (HT.out k) ?_
      rintro e w3 ⟨rfl, hr3, hf3⟩
      have HR3 : Hid (Rdd r s (q + 1) w3) := hr3
      have HF3 : Hid (RFr r W w3) := (rfr_drew HF.out k).trans hf3
      have hcv := ow_conv rfl (row_rf (r := r) (W := wr) HB.out ((rfr_drew (RFr.refl r wr) k).trans hf3) hrw)
      clear hr3 hf3
      go_wp2
      go_ret
      exact ⟨rfl, by rw [← HPe.out]; exact HR3.out, HF3.out⟩
end Go.Proofs.YtmfijliladancaaGreatDoor
