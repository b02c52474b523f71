/-
  Two lists of as many right values with the same plain bytes are the same: the mathematics.
  The reference's PlainOf: the bytes of right values.
  A slice of ints that came in: what it holds; that it reads behind the call as it did before.
-/
import Derived.Test.YtjcmnngaecoddaaGreatDoorPBPTexts
import Derived.Test.YtjcmnngaecoddaaGreatDoorPBOpenVals
import Derived.Test.YtjcmnngaecoddaaGreatDoorPBPack
import Derived.Test.YtjcmnngaecoddaaGreatDoorPBVal
import Derived.Test.YtjcmnngaecoddaaGreatDoorPBBase
import Derived.Test.YtjcmnngaecoddaaGreatDoorPBFix
import Derived.ChangeSlices
import Derived.Carry
import Derived.OpenShut
import Derived.ProofKit
namespace Go.Proofs.YtjcmnngaecoddaaGreatDoor
open Go.RowKit
namespace Um
end Um
theorem vl_ext {v u : Vl} (h1 : v.k = u.k) (h2 : v.n = u.n) (h3 : v.s = u.s) : v = u := by cases v; cases u; simp_all
/-- Right values of a kind, within their bounds. -/
def Right (kd : Int) (vs : List Vl) : Prop := (1 ≤ kd ∧ kd ≤ 5) ∧ ∀ v ∈ vs, v.Ok kd ∧ v.In
end Go.Proofs.YtjcmnngaecoddaaGreatDoor

namespace Go.Proofs.YtjcmnngaecoddaaGreatDoor
open Go.RowKit
theorem wrap_u (n : Int) : IntKind.u64.wrap n = ((Um.u64 n : Nat) : Int) := by rw [IntKind.wrap_u64, Um.u64_int]
theorem pack_none (w : World) : Calls Tryz.prog 52 #[.slice none 0 0, .int .i64 1] w fun e w' => e = .returned (.string ⟨#[]⟩) ∧ Below w.heap.size w w' :=
  packOf_any none 0 [] 1 w (by simp) (by omega) (by simp) (fun j hj => absurd hj (by simp [u64s]))
set_option maxRecDepth 100000 in
set_option maxHeartbeats 1600000 in
theorem plainOf_bools (a : Option Addr) (vs : List Vl) (c : Nat) (w : World) (hn : vs.length ≤ 20000) (hl : LiesV w a vs) (hx : ∀ n ∈ vns vs, n = 0 ∨ n = 1) :
    Calls Tryz.prog 45 #[.int .i64 1, .slice a vs.length c] w fun e w' => e = .returned (.string ⟨(packed 1 (vns vs)).toArray⟩) ∧ Below w.heap.size w w' := by
  obtain ⟨i0, hi, hz0, hz1, hz2⟩ := info_parts Tryz.info65
  have HL : Hid (LiesV w a vs) := hl
  have HX : Hid (∀ n ∈ vns vs, n = 0 ∨ n = 1) := hx
  clear hl hx
  go_enter Tryz.func45, Tryz.ntmps45
  go_wp2
  go_loopw [5, 6, 7] (fun o b x wr => ∃ i : Nat, i ≤ vs.length ∧ x = .int .i64 i ∧ o = .string ⟨#[]⟩ ∧ Hid (wr.ownsRow w.heap.size 65 1 b i (u64s (nats ((vns vs).take i)))) ∧ Below w.heap.size w wr) (fun _ _ x _ => vs.length - (intOf x).toNat)
  case atStart => exact ⟨0, Nat.zero_le _, rfl, rfl, by show World.ownsRow _ _ _ _ _ _ _; simpa [u64s, nats] using World.ownsRow_nil w w.heap.size 65 1, Below.refl _ _⟩
  case round =>
    obtain ⟨i, hik, rfl, rfl, HO, hb⟩ := hrel
    by_cases hlt : i < vs.length
    · obtain ⟨b, o, rfl, hc0, hc1, hc2⟩ := (HL.out.keep hb) i hlt
      have hlv : i < (vns vs).length := by rw [vns_len]; exact hlt
      have hv := HX.out _ (List.getElem_mem hlv)
      have hvn : (vns vs)[i] = vs[i].n := by simp [vns]
      rw [hvn] at hv
      have HT : Hid (u64s (nats ((vns vs).take (i + 1))) = u64s (nats ((vns vs).take i)) ++ [.int .u64 vs[i].n]) := by
        show _ = _
        rw [List.take_succ_eq_append_getElem hlv, hvn]
        unfold u64s nats
        rw [List.map_append, List.map_append, List.map_cons, List.map_nil, List.map_cons, List.map_nil, Int.toNat_of_nonneg (by omega)]
      clear hvn hlv
      generalize vs[i] = v at *
      obtain ⟨k, n, s⟩ := v
      simp only at hc0 hc1 hc2 hv HT
      have h0 : 0 ≤ n := by omega
      have h1 : n ≤ 1 := by omega
      clear hv
      have hown := HO.out
      go_wp2_with (at_builtin; refine wpList_append_own _ rfl _ _ 96 rfl w.heap.size 65 i0 (.int .u64 0) 1 8 Tryz.underlying96 hi hz0 hz1 hz2 rfl (by decide) _ _ _ rfl (hown.alloc _) ⟨wr.heap.size, 0, none⟩ 1 1 [.int .u64 n] rfl rfl (cell_one_new _ _ _) (by intro u hu; simp at hu; subst hu; rfl) (by unfold maxLen; omega) (by omega) (by have := hb.size; simp; omega) ?_; intro v' w1 hown' hgrow _)
      have hb2 := below_app hb (Nat.le_refl _) hown hgrow
      rw [← HT.out] at hown'
      clear hown hgrow hc0 hc1 hc2
      go_wp2
      go_roundw
      case rel => exact ⟨i + 1, by omega, by go_num, rfl, hown', hb2⟩
      case measure => simp [intOf]; omega
    · obtain rfl : i = vs.length := by omega
      have ho := HO.out
      rw [← vns_len, List.take_length] at ho
      obtain ⟨a', c', rfl, hl⟩ := lies_own ho
      have hle : (u64s (nats (vns vs))).length = (nats (vns vs)).length := u64s_len _
      rw [hle]
      have HLL : Hid _ := hl
      clear hl ho hle
      go_wp2_with fail
      refine (packOf_any a' c' (nats (vns vs)) 1 _ (by rw [nats_len, vns_len]; omega) (by omega) (fun x hx => ?_) HLL.out).mono ?_
      · obtain ⟨n, hm, rfl⟩ := List.mem_map.1 hx
        have := HX.out n hm
        omega
      rintro e w1 ⟨rfl, hb1⟩
      have hll : (Um.lit (Um.num 1 (nats (vns vs))) ((1 * (nats (vns vs)).length + 7) / 8)).length ≤ 20000 := by rw [Um.lit_len, nats_len, vns_len]; omega
      generalize hq : Um.lit (Um.num 1 (nats (vns vs))) ((1 * (nats (vns vs)).length + 7) / 8) = l at hll ⊢
      have HQ : Hid (Um.lit (Um.num 1 (nats (vns vs))) ((1 * (nats (vns vs)).length + 7) / 8) = l) := hq
      clear hq
      go_wp2
      go_ret
      refine ⟨ret_str ?_, hb.trans (hb1.mono hb.size)⟩
      rw [show (⟨#[]⟩ : ByteArray) = ⟨([] : List UInt8).toArray⟩ from rfl, arr_app, ← HQ.out]
      unfold packed
      rw [nats_len]
      rfl
set_option maxRecDepth 100000 in
set_option maxHeartbeats 1600000 in
theorem plainOf_texts (a : Option Addr) (vs : List Vl) (c : Nat) (w : World) (hn : vs.length ≤ 20000) (hl : LiesV w a vs) (hx : ∀ s ∈ vss vs, s.length ≤ 100) :
    Calls Tryz.prog 45 #[.int .i64 4, .slice a vs.length c] w fun e w' => e = .returned (.string ⟨(Um.txts (vss vs)).toArray⟩) ∧ Below w.heap.size w w' := by
  have HL : Hid (LiesV w a vs) := hl
  have HX : Hid (∀ s ∈ vss vs, s.length ≤ 100) := hx
  clear hl hx
  go_enter Tryz.func45, Tryz.ntmps45
  go_wp2
  go_loopw [5, 6, 7] (fun o b x wr => ∃ i : Nat, i ≤ vs.length ∧ x = .int .i64 i ∧ b = .slice none 0 0 ∧ o = .string ⟨(Um.txts ((vss vs).take i)).toArray⟩ ∧ Below w.heap.size w wr) (fun _ _ x _ => vs.length - (intOf x).toNat)
  case atStart => exact ⟨0, Nat.zero_le _, rfl, rfl, rfl, Below.refl _ _⟩
  case round =>
    obtain ⟨i, hik, rfl, rfl, rfl, hb⟩ := hrel
    by_cases hlt : i < vs.length
    · obtain ⟨b, o, rfl, hc0, hc1, hc2⟩ := (HL.out.keep hb) i hlt
      have hlv : i < (vss vs).length := by rw [vss_len]; exact hlt
      have HN : Hid (Um.txts ((vss vs).take (i + 1)) = Um.txts ((vss vs).take i) ++ Um.txt vs[i].s.data.toList) := by
        show _ = _
        rw [Um.txts_take (vss vs) i hlv]
        simp [vss]
      have hsl : vs[i].s.size ≤ 100 := by
        have h := HX.out (vss vs)[i] (List.getElem_mem hlv)
        simpa [vss] using h
      have hnl : (Um.txts ((vss vs).take i)).length ≤ 110 * 20000 := by
        refine Nat.le_trans (Um.txts_len _ (fun s hs => HX.out s (List.mem_of_mem_take hs))) (Nat.mul_le_mul_left _ ?_)
        rw [List.length_take]; omega
      have htl := Um.txt_len vs[i].s.data.toList (by rw [Array.length_toList]; show vs[i].s.size < _; omega)
      rw [Array.length_toList] at htl
      clear hlv
      generalize Um.txts ((vss vs).take i) = l at *
      generalize vs[i] = v at *
      obtain ⟨k, n, s⟩ := v
      simp only at hc0 hc1 hc2 HN hsl htl
      change (Um.txt s.data.toList).length ≤ s.size + 10 at htl
      go_wp2_with fail
      refine (long_any s _ (by omega)).mono ?_
      rw [txt_arr]
      rintro e w1 ⟨rfl, hb1⟩
      generalize Um.txt s.data.toList = t at *
      go_wp2
      go_roundw
      case rel => exact ⟨i + 1, by omega, by go_num, rfl, by rw [arr_app, HN.out], hb.trans (hb1.mono hb.size)⟩
      case measure => simp [intOf]; omega
    · obtain rfl : i = vs.length := by omega
      have hnl : (Um.txts ((vss vs).take vs.length)).length ≤ 110 * 20000 := by
        refine Nat.le_trans (Um.txts_len _ (fun s hs => HX.out s (List.mem_of_mem_take hs))) (Nat.mul_le_mul_left _ ?_)
        rw [List.length_take]; omega
      have e : (vss vs).take vs.length = vss vs := by rw [← vss_len, List.take_length]
      rw [e] at hnl ⊢
      clear e
      generalize hq : Um.txts (vss vs) = l at *
      have HQ : Hid (Um.txts (vss vs) = l) := hq
      clear hq
      go_wp2_with fail
      refine (pack_none _).mono ?_
      rintro e w1 ⟨rfl, hb1⟩
      go_wp2
      go_ret
      exact ⟨ret_str (by rw [show (⟨#[]⟩ : ByteArray) = ⟨([] : List UInt8).toArray⟩ from rfl, arr_app, List.append_nil, HQ.out]), hb.trans (hb1.mono hb.size)⟩
set_option maxRecDepth 100000 in
set_option maxHeartbeats 1600000 in
theorem plainOf_ints (a : Option Addr) (vs : List Vl) (c : Nat) (w : World) (hn : vs.length ≤ 20000) (hl : LiesV w a vs) :
    Calls Tryz.prog 45 #[.int .i64 2, .slice a vs.length c] w fun e w' => e = .returned (.string ⟨(Um.nums 4 (vns vs)).toArray⟩) ∧ Below w.heap.size w w' := by
  have HL : Hid (LiesV w a vs) := hl
  clear hl
  go_enter Tryz.func45, Tryz.ntmps45
  go_wp2
  go_loopw [5, 6, 7] (fun o b x wr => ∃ i : Nat, i ≤ vs.length ∧ x = .int .i64 i ∧ b = .slice none 0 0 ∧ o = .string ⟨(Um.nums 4 ((vns vs).take i)).toArray⟩ ∧ Below w.heap.size w wr) (fun _ _ x _ => vs.length - (intOf x).toNat)
  case atStart => exact ⟨0, Nat.zero_le _, rfl, rfl, rfl, Below.refl _ _⟩
  case round =>
    obtain ⟨i, hik, rfl, rfl, rfl, hb⟩ := hrel
    have hnl : (Um.nums 4 ((vns vs).take i)).length ≤ 8 * 20000 := by
      rw [Um.nums_len]; refine Nat.mul_le_mul (by omega) ?_; rw [List.length_take]; omega
    by_cases hlt : i < vs.length
    · obtain ⟨b, o, rfl, hc0, hc1, hc2⟩ := (HL.out.keep hb) i hlt
      have HN : Hid (Um.nums 4 ((vns vs).take (i + 1)) = Um.nums 4 ((vns vs).take i) ++ Um.lit (Um.u64 vs[i].n) 4) := by
        show _ = _
        rw [Um.nums_take 4 (vns vs) i (by rw [vns_len]; exact hlt)]
        simp [vns]
      generalize Um.nums 4 ((vns vs).take i) = l at *
      generalize vs[i] = v at *
      obtain ⟨k, n, s⟩ := v
      simp only at hc0 hc1 hc2 HN
      have hwr := wrap_u n
      have hlt8 := Um.u64_lt n
      have hll := Um.lit_len (Um.u64 n) 4
      go_wp2_with fail
      clear hwr
      refine (little_any (Um.u64 n) 4 _ hlt8 (by omega)).mono ?_
      rintro e w1 ⟨rfl, hb1⟩
      generalize Um.lit (Um.u64 n) 4 = t at *
      go_wp2
      go_roundw
      case rel => exact ⟨i + 1, by omega, by go_num, rfl, by rw [arr_app, HN.out], hb.trans (hb1.mono hb.size)⟩
      case measure => simp [intOf]; omega
    · obtain rfl : i = vs.length := by omega
      have e : (vns vs).take vs.length = vns vs := by rw [← vns_len, List.take_length]
      rw [e] at hnl ⊢
      clear e
      generalize hq : Um.nums 4 (vns vs) = l at *
      have HQ : Hid (Um.nums 4 (vns vs) = l) := hq
      clear hq
      go_wp2_with fail
      refine (pack_none _).mono ?_
      rintro e w1 ⟨rfl, hb1⟩
      go_wp2
      go_ret
      exact ⟨ret_str (by rw [show (⟨#[]⟩ : ByteArray) = ⟨([] : List UInt8).toArray⟩ from rfl, arr_app, List.append_nil, HQ.out]), hb.trans (hb1.mono hb.size)⟩
set_option maxRecDepth 100000 in
set_option maxHeartbeats 1600000 in
theorem plainOf_longs (a : Option Addr) (vs : List Vl) (c : Nat) (kd : Int) (w : World) (hn : vs.length ≤ 20000) (hl : LiesV w a vs) (h1 : ¬ kd = 1) (h2 : ¬ kd = 2) (h4 : ¬ kd = 4) :
    Calls Tryz.prog 45 #[.int .i64 kd, .slice a vs.length c] w fun e w' => e = .returned (.string ⟨(Um.nums 8 (vns vs)).toArray⟩) ∧ Below w.heap.size w w' := by
  have HL : Hid (LiesV w a vs) := hl
  clear hl
  go_enter Tryz.func45, Tryz.ntmps45
  go_wp2
  go_loopw [5, 6, 7] (fun o b x wr => ∃ i : Nat, i ≤ vs.length ∧ x = .int .i64 i ∧ b = .slice none 0 0 ∧ o = .string ⟨(Um.nums 8 ((vns vs).take i)).toArray⟩ ∧ Below w.heap.size w wr) (fun _ _ x _ => vs.length - (intOf x).toNat)
  case atStart => exact ⟨0, Nat.zero_le _, rfl, rfl, rfl, Below.refl _ _⟩
  case round =>
    obtain ⟨i, hik, rfl, rfl, rfl, hb⟩ := hrel
    have hnl : (Um.nums 8 ((vns vs).take i)).length ≤ 8 * 20000 := by
      rw [Um.nums_len]; refine Nat.mul_le_mul (by omega) ?_; rw [List.length_take]; omega
    by_cases hlt : i < vs.length
    · obtain ⟨b, o, rfl, hc0, hc1, hc2⟩ := (HL.out.keep hb) i hlt
      have HN : Hid (Um.nums 8 ((vns vs).take (i + 1)) = Um.nums 8 ((vns vs).take i) ++ Um.lit (Um.u64 vs[i].n) 8) := by
        show _ = _
        rw [Um.nums_take 8 (vns vs) i (by rw [vns_len]; exact hlt)]
        simp [vns]
      generalize Um.nums 8 ((vns vs).take i) = l at *
      generalize vs[i] = v at *
      obtain ⟨k, n, s⟩ := v
      simp only at hc0 hc1 hc2 HN
      have hwr := wrap_u n
      have hlt8 := Um.u64_lt n
      have hll := Um.lit_len (Um.u64 n) 8
      go_wp2_with fail
      clear hwr
      refine (little_any (Um.u64 n) 8 _ hlt8 (by omega)).mono ?_
      rintro e w1 ⟨rfl, hb1⟩
      generalize Um.lit (Um.u64 n) 8 = t at *
      go_wp2
      go_roundw
      case rel => exact ⟨i + 1, by omega, by go_num, rfl, by rw [arr_app, HN.out], hb.trans (hb1.mono hb.size)⟩
      case measure => simp [intOf]; omega
    · obtain rfl : i = vs.length := by omega
      have e : (vns vs).take vs.length = vns vs := by rw [← vns_len, List.take_length]
      rw [e] at hnl ⊢
      clear e
      generalize hq : Um.nums 8 (vns vs) = l at *
      have HQ : Hid (Um.nums 8 (vns vs) = l) := hq
      clear hq
      go_wp2_with fail
      refine (pack_none _).mono ?_
      rintro e w1 ⟨rfl, hb1⟩
      go_wp2
      go_ret
      exact ⟨ret_str (by rw [show (⟨#[]⟩ : ByteArray) = ⟨([] : List UInt8).toArray⟩ from rfl, arr_app, List.append_nil, HQ.out]), hb.trans (hb1.mono hb.size)⟩
/-- PlainOf of right values. -/
theorem plainOf_any (a : Option Addr) (vs : List Vl) (c : Nat) (kd : Int) (w : World) (hn : vs.length ≤ 20000) (hl : LiesV w a vs) (hr : Right kd vs) :
    Calls Tryz.prog 45 #[.int .i64 kd, .slice a vs.length c] w fun e w' => e = .returned (.string ⟨(plainB kd vs).toArray⟩) ∧ Below w.heap.size w w' := by
  unfold plainB
  by_cases h1 : kd = 1
  · rw [if_pos h1]
    subst h1
    refine plainOf_bools a vs c w hn hl fun n hm => ?_
    obtain ⟨v, hv, rfl⟩ := List.mem_map.1 hm
    have ho := (hr.2 v hv).1
    unfold Vl.Ok OkV at ho; omega
  · rw [if_neg h1]
    by_cases h4 : kd = 4
    · rw [if_pos h4]
      subst h4
      refine plainOf_texts a vs c w hn hl fun s hm => ?_
      obtain ⟨v, hv, rfl⟩ := List.mem_map.1 hm
      have ho := (hr.2 v hv).1
      unfold Vl.Ok OkV at ho
      rw [Array.length_toList]
      show v.s.size ≤ 100
      omega
    · rw [if_neg h4]
      by_cases h2 : kd = 2
      · rw [if_pos h2]
        subst h2
        exact plainOf_ints a vs c w hn hl
      · rw [if_neg h2]
        exact plainOf_longs a vs c kd w hn hl h1 h2 h4
end Go.Proofs.YtjcmnngaecoddaaGreatDoor

namespace Go.Proofs.YtjcmnngaecoddaaGreatDoor
open Go.ChangeShapes Go.WideShapes Go.ChangeAt Go.RowKit
theorem Tryz.cells3 : Tryz.prog.cellsOf 3 = 1 := by kernel_rfl
end Go.Proofs.YtjcmnngaecoddaaGreatDoor
