/-
  enc.packWide: numbers of up to 64 bits, as bitrun.Pack fills bytes.
-/
import Derived.Test.YtjchkhdmjbojjaaDoorLBMath
import Derived.Test.YtjchkhdmjbojjaaDoorLBPBools
import Derived.Test.YtjchkhdmjbojjaaDoorLBPackF
namespace Go.Proofs.YtjchkhdmjbojjaaDoor
open Go.RowKit
/-- A row of bytes of the call's own: the bytes of a number. -/
structure BRow (N nb g : Nat) (w wr : World) : Prop where
  cell : ∀ j, j < nb → wr.cell? ⟨g, j, none⟩ = some (.int .u8 (Um.by_ N j : Nat))
  froz : ∀ j, j < nb → wr.frozen? ⟨g, j, none⟩ = false
  old : Below w.heap.size w wr
theorem BRow.put {N N' nb g q : Nat} {w wr : World} (h : BRow N nb g w wr) (hg : w.heap.size ≤ g) (hq : q < nb) (ho : ∀ j, j ≠ q → Um.by_ N' j = Um.by_ N j) : BRow N' nb g w (wr.setCell ⟨g, q, none⟩ (.int .u8 (Um.by_ N' q : Nat))) := by
  refine ⟨fun j hj => ?_, fun j hj => by simpa using h.froz j hj, h.old.setCell hg _⟩
  by_cases e : j = q
  · subst e; exact World.cell?_setCell_same _ _ _ (h.cell j hj)
  · rw [World.cell?_setCell_other _ _ _ _ (fun e' => e (by injection e' with _ e'; exact e'.symm)), h.cell j hj, ho j e]
theorem BRow.keep {N nb g : Nat} {w wr w' : World} (h : BRow N nb g w wr) (hg : g < wr.heap.size) (hb : Below wr.heap.size wr w') : BRow N nb g w w' :=
  ⟨fun j hj => (hb.cell hg).trans (h.cell j hj), fun j hj => (hb.frozen hg).trans (h.froz j hj), h.old.trans (hb.mono h.old.size)⟩
theorem bytesOf_any (n wd : Nat) (w : World) (hn : n ≤ 20000) (hwd : wd ≤ 64) :
    Calls Tryd.prog 113 #[.int .i64 n, .int .i64 wd] w fun e w' => e = .returned (.int .i64 ((n * wd + 7) / 8 : Nat)) ∧ w' = w := by
  have hm : n * wd ≤ 20000 * 64 := Nat.mul_le_mul hn hwd
  obtain ⟨p, hp⟩ : ∃ p, p = n * wd := ⟨_, rfl⟩
  have e : (n : Int) * (wd : Int) = (p : Int) := by rw [hp]; simp
  rw [← hp] at hm ⊢
  clear hp
  go_enter Tryd.func113, Tryd.ntmps113
  go_wp2
  go_ret
  refine ⟨?_, rfl⟩
  rw [show (((p + 7) / 8 : Nat) : Int) = ((p : Int) + 7) / 8 by omega]
  rfl
theorem BRow.start (nb ty : Nat) (w : World) (M : Array Value) (hM : M = madeCells #[.int .u8 0] nb) : BRow 0 nb w.heap.size w (w.alloc (.cells M ty)) := by
  subst hM
  refine ⟨fun j hj => ?_, fun j _ => frozen_of_row _ w.heap.size j _ ty (heap_alloc_new w _), (Below.refl _ _).alloc (Nat.le_refl _) _⟩
  rw [cell_of_row _ w.heap.size j _ ty (0, 0) (heap_alloc_new w _)]
  rw [Array.getElem?_eq_getElem (by rw [size_madeCells]; exact hj)]
  simp [madeCells, Um.by_, Nat.mod_one]
theorem u8_or {a b : Nat} (ha : a < 256) (hb : b < 256) : bits .or .u8 (a : Int) (b : Int) = ((a ||| b : Nat) : Int) := by
  exact u8_or_nat a b ha hb
theorem or_byte {N P n l : Nat} {q h : Nat} (hq : P / 8 = q) (hh : P % 8 = h) (hN : N < 2 ^ P) (hn : n < 2 ^ l) : bits .or .u8 (Um.by_ N q : Nat) (IntKind.u64.wrap ((n : Int) * 2 ^ h) % 256) = ((Um.by_ (Um.putN N P n l) q : Nat) : Int) := by
  have e : IntKind.u64.wrap ((n : Int) * 2 ^ h) % 256 = ((n * 2 ^ h % 256 : Nat) : Int) := by
    have e1 : (n : Int) * 2 ^ h = ((n * 2 ^ h : Nat) : Int) := by simp
    rw [e1, IntKind.wrap_u64]
    omega
  have h1 := Um.putN_at hN hn
  rw [hq, hh] at h1
  rw [e, u8_or (by unfold Um.by_; omega) (by omega), h1]
theorem putN_eq {N x d at0 P n l t : Nat} (hP : at0 + d = P) (hn : x / 2 ^ d = n) (ht : Um.tk P l = t) : N + x % 2 ^ (d + t) * 2 ^ at0 = Um.putN (N + x % 2 ^ d * 2 ^ at0) P n l := by
  unfold Um.putN
  rw [ht, Um.low_more, hn, ← hP, Nat.add_mul, Nat.pow_add 2 at0 d, Nat.mul_comm (2 ^ at0) (2 ^ d), Nat.mul_assoc, Nat.add_assoc]
theorem lies_u64s {w : World} {a : Option Addr} {xs : List Nat} (h : Lies w a (u64s xs)) : ∀ j (h : j < xs.length), ∃ b o, a = some ⟨b, o, none⟩ ∧ w.cell? ⟨b, o + j, none⟩ = some (.int .u64 (xs[j] : Nat)) := fun j hj => by
  obtain ⟨b, o, e, hc⟩ := h j (by rw [u64s_len]; exact hj)
  refine ⟨b, o, e, ?_⟩
  rw [hc]; simp [u64s]
/-- A row that is given, of a block of its own. -/
def RetRow (e : Ending) (w' : World) (n : Nat) (cs : List Value) : Prop := ∃ g, e = .returned (.slice (some ⟨g, 0, none⟩) n n) ∧ Lies w' (some ⟨g, 0, none⟩) cs
set_option maxRecDepth 100000 in
set_option maxHeartbeats 1600000 in
theorem packWide_any (a : Option Addr) (xs : List Nat) (c wd : Nat) (w : World) (hl : Lies w a (u64s xs)) (hn : xs.length ≤ 20000) (hwd : wd ≤ 64) (hx : ∀ x ∈ xs, x < 2 ^ wd) :
    Calls Tryd.prog 93 #[.slice a xs.length c, .int .i64 wd] w fun e w' => RetRow e w' ((xs.length * wd + 7) / 8) (cellsOf (Um.lit (Um.num wd xs) ((xs.length * wd + 7) / 8))) ∧ Below w.heap.size w w' := by
  obtain ⟨k, hk⟩ : ∃ k, k = (xs.length * wd + 7) / 8 := ⟨_, rfl⟩
  have hm : xs.length * wd ≤ 20000 * 64 := Nat.mul_le_mul hn hwd
  have hkb : k ≤ 200000 := by omega
  have HKB : Hid (xs.length * wd ≤ 8 * k) := by show _ ≤ _; omega
  obtain ⟨iv, hvi, hv0, hv1, hv2⟩ := info_parts Tryd.info5
  obtain ⟨M, hM⟩ : ∃ M, M = madeCells (Value.int .u8 0).cells (((k : Nat) : Int).toNat * iv.size) := ⟨_, rfl⟩
  have hMs : M = madeCells #[.int .u8 0] k := by rw [hM, hv1]; simp [Value.cells]
  have hmk : ∀ W : World, (Instr.makeSlice 76 (.int .i64 (k : Int)) (.int .i64 (k : Int))).run Tryd.prog W = .ok (.slice (some ⟨W.heap.size, 0, none⟩) k k) (W.alloc (.cells M 5)) := fun W => by
    have h := run_make (P := Tryd.prog) W 76 5 iv (.int .u8 0) Tryd.underlying76 hvi hv0 .i64 .i64 (k : Int) (k : Int) (by omega) (by omega) (by rw [hv2]; omega) (by omega)
    rw [← hM] at h
    simpa using h
  have HS : Hid (BRow 0 k w.heap.size w (w.alloc (.cells M 5))) := BRow.start _ _ _ _ hMs
  have HL : Hid (Lies w a (u64s xs)) := hl
  have HX : Hid (∀ x ∈ xs, x < 2 ^ wd) := hx
  have HC := fun W => bytesOf_any xs.length wd W hn hwd
  rw [← hk] at HC ⊢
  clear hM hMs hl hx hk hm
  go_enter Tryd.func93, Tryd.ntmps93
  go_wp2_with (go_at_call 113; refine (HC _).mono ?_; rintro e w1 ⟨rfl, hw⟩; obtain rfl := hw.symm)
  clear hmk HC
  go_loopw [6, 18] (fun p x wr => ∃ i : Nat, i ≤ xs.length ∧ x = .int .i64 i ∧ p = .int .i64 ((wd * i : Nat) : Int) ∧ w.heap.size < wr.heap.size ∧ Hid (BRow (Um.num wd (xs.take i)) k w.heap.size w wr)) (fun _ x _ => xs.length - (intOf x).toNat)
  case atStart => exact ⟨0, Nat.zero_le _, rfl, rfl, by simp, HS⟩
  case round =>
    clear HS
    obtain ⟨i, hik, rfl, rfl, hsl, HV⟩ := hrel
    have hb := HV.out.old
    by_cases hlt : i < xs.length
    · obtain ⟨b, o, rfl, hc⟩ := lies_u64s (HL.out.keep hb) i hlt
      have hx := HX.out xs[i] (List.getElem_mem hlt)
      have HN : Hid (Um.num wd (xs.take (i + 1)) = Um.num wd (xs.take i) + xs[i] * 2 ^ (wd * i)) := Um.num_take wd xs i hlt
      have HB : Hid (Um.num wd (xs.take i) < 2 ^ (wd * i)) := Um.num_take_lt wd xs i HX.out hik
      have HW : Hid (wd * i + wd ≤ 8 * k) := by
        have h1 : wd * (i + 1) ≤ wd * xs.length := Nat.mul_le_mul_left _ hlt
        have h2 := HKB.out
        rw [Nat.mul_comm] at h2
        show _ ≤ _
        rw [Nat.mul_add, Nat.mul_one] at h1
        omega
      generalize xs[i] = x at *
      generalize Um.num wd (xs.take i) = N at *
      generalize ha : wd * i = at0 at *
      have HA : Hid (wd * i = at0) := ha
      clear ha
      go_wp2
      go_loopw [6, 8, 9] (fun p n l wq => ∃ (d : Nat), d ≤ wd ∧ p = .int .i64 ((at0 + d : Nat) : Int) ∧ n = .int .u64 ((x / 2 ^ d : Nat) : Int) ∧ l = .int .i64 ((wd - d : Nat) : Int) ∧ w.heap.size < wq.heap.size ∧ Hid (BRow (N + x % 2 ^ d * 2 ^ at0) k w.heap.size w wq)) (fun _ _ l _ => (intOf l).toNat)
      case atStart => exact ⟨0, Nat.zero_le _, rfl, by simp, rfl, hsl, by simpa [Nat.mod_one] using HV⟩
      case round =>
        clear HV hsl hb hc
        obtain ⟨d, hdw, rfl, rfl, rfl, hsl, HV⟩ := hrel
        by_cases hdl : d < wd
        · have HBN : Hid (N + x % 2 ^ d * 2 ^ at0 < 2 ^ (at0 + d)) := by
            have h1 := Nat.mod_lt x (Nat.two_pow_pos d)
            have h2 : (x % 2 ^ d + 1) * 2 ^ at0 ≤ 2 ^ d * 2 ^ at0 := Nat.mul_le_mul_right _ h1
            have h3 := HB.out
            rw [Nat.add_mul] at h2
            show _ < _
            rw [Nat.pow_add, Nat.mul_comm (2 ^ at0)]
            omega
          have HNL : Hid (x / 2 ^ d < 2 ^ (wd - d)) := by
            show _ < _
            rw [Nat.div_lt_iff_lt_mul (Nat.two_pow_pos d), ← Nat.pow_add, show wd - d + d = wd by omega]
            exact hx
          have hP : at0 + d < 8 * k := by have := HW.out; omega
          generalize hPe : at0 + d = P at *
          have HP : Hid (at0 + d = P) := hPe
          clear hPe
          generalize hne : x / 2 ^ d = n at *
          have HNE : Hid (x / 2 ^ d = n) := hne
          clear hne
          generalize hle : wd - d = l at *
          have HLE : Hid (wd - d = l) := hle
          have hl64 : l ≤ 64 := by omega
          have hl0 : 0 < l := by omega
          clear hle
          have hn64 : n < 18446744073709551616 := Nat.lt_of_lt_of_le HNL.out (Nat.le_trans (Nat.pow_le_pow_right (by omega) hl64) (by decide))
          have HPE : Hid (∀ t, Um.tk P l = t → N + x % 2 ^ (d + t) * 2 ^ at0 = Um.putN (N + x % 2 ^ d * 2 ^ at0) P n l) := fun t ht => putN_eq HP.out HNE.out ht
          generalize N + x % 2 ^ d * 2 ^ at0 = N1 at *
          obtain ⟨q, HQ⟩ : ∃ q, Hid (P / 8 = q) := ⟨P / 8, rfl⟩
          obtain ⟨h, HH⟩ : ∃ h, Hid (P % 8 = h) := ⟨P % 8, rfl⟩
          have hq : q < k := by rw [← HQ.out]; omega
          have hh : h < 8 := by rw [← HH.out]; omega
          have hqi : (P : Int) / 8 = (q : Int) := by rw [← HQ.out]; omega
          have hhi : (P : Int) % 8 = (h : Int) := by rw [← HH.out]; omega
          have hcq := HV.out.cell q hq
          have hfq := HV.out.froz q hq
          have HOR : Hid _ := or_byte HQ.out HH.out HBN.out HNL.out
          have HV2 : Hid _ := HV.out.put (Nat.le_refl _) hq (N' := Um.putN N1 P n l) fun j hj => Um.putN_other HBN.out (by rw [HQ.out]; exact hj)
          obtain ⟨t, ht⟩ : ∃ t, Um.tk P l = t := ⟨_, rfl⟩
          have htl : t = min l (8 - h) := by rw [← ht, Um.tk, HH.out]
          have HT : Hid (Um.tk P l = t) := ht
          clear ht
          have HV3 : Hid (BRow (N + x % 2 ^ (d + t) * 2 ^ at0) k w.heap.size w ((wr.setCell ⟨w.heap.size, q, none⟩ (Value.int IntKind.u8 (bits BinOp.or IntKind.u8 (Um.by_ N1 q : Nat) (IntKind.u64.wrap (↑n * 2 ^ h) % 256)))).drew)) := by
            have h := HV2.out
            rw [HOR.out, HPE.out t HT.out]
            exact h.keep (by simpa using hsl) (Below.refl _ _).drew
          have HDD : Hid (x / 2 ^ (d + t) = n / 2 ^ t) := by show _ = _; rw [Nat.pow_add, ← Nat.div_div_eq_div_mul, HNE.out]
          by_cases hm : 8 - h < l
          · have ht8 : (8 : Int) - (h : Int) = (t : Int) := by omega
            have hmi : t < l := by omega
            have hml : l ≠ t := by omega
            clear htl hm
            go_wp2
            go_region
            go_wp2
            go_roundw
            case rel =>
              have hp := HP.out
              have hle := HLE.out
              refine ⟨d + t, by omega, ?_, ?_, ?_, by simpa using hsl, HV3⟩
              · rw [show ((at0 + (d + t) : Nat) : Int) = (P : Int) + (t : Int) by omega]
              · rw [HDD.out]; simp
              · rw [show ((wd - (d + t) : Nat) : Int) = (l : Int) - (t : Int) by omega]
            case measure => simp [intOf]; omega
          · obtain rfl : t = l := by omega
            have hmi : ¬ ((8 : Int) - (h : Int) < (t : Int)) := by omega
            clear htl hm
            go_wp2
            all_goals go_region
            all_goals go_wp2
            all_goals go_roundw
            case rel =>
              have hp := HP.out
              have hle := HLE.out
              refine ⟨d + t, by omega, ?_, ?_, ?_, by simpa using hsl, HV3⟩
              · rw [show ((at0 + (d + t) : Nat) : Int) = (P : Int) + (t : Int) by omega]
              · rw [HDD.out]; simp
              · rw [show ((wd - (d + t) : Nat) : Int) = 0 by omega]
            case measure => simp [intOf]; omega
        · obtain rfl : d = wd := by omega
          have HV2 := HV.out
          rw [Nat.mod_eq_of_lt hx, ← HN.out] at HV2
          have HV3 : Hid _ := HV2
          clear HV2
          go_wp2
          refine ⟨⟨i + 1, by omega, by go_num, ?_, hsl, HV3.out⟩, by simp [intOf]; omega⟩
          rw [Nat.mul_add, Nat.mul_one, HA.out]
    · obtain rfl : i = xs.length := by omega
      have HLV : Hid (Lies wr (some ⟨w.heap.size, 0, none⟩) (cellsOf (Um.lit (Um.num wd xs) k))) := fun j hj => by
        simp [cellsOf, Um.lit_len] at hj
        refine ⟨w.heap.size, 0, rfl, ?_⟩
        rw [Nat.zero_add, HV.out.cell j hj, List.take_length]
        simp [cellsOf, Um.lit, Um.bt, Um.by_]
        generalize ((Um.num wd xs : Nat) : Int) / 2 ^ (8 * j) = z
        omega
      go_wp2
      go_ret
      exact ⟨⟨_, rfl, HLV.out⟩, hb⟩
end Go.Proofs.YtjchkhdmjbojjaaDoor
