/-
  enc.unpackWide: numbers of up to 64 bits out of bytes.
-/
import Derived.Test.YtjchkhdmjbojjaaDoorLBMath
import Derived.Test.YtjchkhdmjbojjaaDoorLAppBlock
namespace Go.Proofs.YtjchkhdmjbojjaaDoor
open Go.RowKit
/-- What unpackWide reads. -/
def unw (s : List UInt8) (wd n : Nat) : List Nat := (List.range n).map fun i => Um.lev s / 2 ^ (wd * i) % 2 ^ wd
theorem unw_len (s : List UInt8) (wd n : Nat) : (unw s wd n).length = n := by simp [unw]
/-- A row of numbers without a sign of the call's own, all known. -/
structure URow (F : Nat → Nat) (n g : Nat) (w wr : World) : Prop where
  cell : ∀ j, j < n → wr.cell? ⟨g, j, none⟩ = some (.int .u64 (F j : Nat))
  froz : ∀ j, j < n → wr.frozen? ⟨g, j, none⟩ = false
  old : Below w.heap.size w wr
  ty : Typed g 55 wr
theorem URow.start (n : Nat) (w : World) (M : Array Value) (hM : M = madeCells #[.int .u64 0] n) : URow (fun _ => 0) n w.heap.size w (w.alloc (.cells M 55)) := by
  subst hM
  refine ⟨fun j hj => ?_, fun j _ => frozen_of_row _ w.heap.size j _ _ (heap_alloc_new w _), (Below.refl _ _).alloc (Nat.le_refl _) _, Typed.new _ _ _⟩
  rw [cell_of_row _ w.heap.size j _ _ (0, 0) (heap_alloc_new w _), Array.getElem?_eq_getElem (by rw [size_madeCells]; exact hj)]
  simp [madeCells, Nat.mod_one]
theorem URow.put {F F' : Nat → Nat} {n g i : Nat} {w wr : World} (h : URow F n g w wr) (hg : w.heap.size ≤ g) (hi : i < n) (ho : ∀ j, j ≠ i → F' j = F j) : URow F' n g w (wr.setCell ⟨g, i, none⟩ (.int .u64 (F' i : Nat))) := by
  refine ⟨fun j hj => ?_, fun j hj => by simpa using h.froz j hj, h.old.setCell hg _, h.ty.set _ _⟩
  by_cases e : j = i
  · subst e; exact World.cell?_setCell_same _ _ _ (h.cell j hj)
  · rw [World.cell?_setCell_other _ _ _ _ (fun e' => e (by injection e' with _ e'; exact e'.symm)), h.cell j hj, ho j e]
theorem URow.keep {F : Nat → Nat} {n g : Nat} {w wr w' : World} (h : URow F n g w wr) (hg : g < wr.heap.size) (hb : Below wr.heap.size wr w') : URow F n g w w' :=
  ⟨fun j hj => (hb.cell hg).trans (h.cell j hj), fun j hj => (hb.frozen hg).trans (h.froz j hj), h.old.trans (hb.mono h.old.size), h.ty.keep hb⟩
theorem URow.congr {F F' : Nat → Nat} {n g : Nat} {w wr : World} (h : URow F n g w wr) (he : ∀ j, j < n → F j = F' j) : URow F' n g w wr := ⟨fun j hj => by rw [← he j hj]; exact h.cell j hj, h.froz, h.old, h.ty⟩
theorem and_piece {a h t : Nat} (ha : a < 256) (ht : t ≤ 8) : bits .and .u8 ((a : Int) / 2 ^ h) ((2 ^ t - 1) % 256) = ((a / 2 ^ h % 2 ^ t : Nat) : Int) := by
  have hp := Nat.two_pow_pos t
  have h8 : 2 ^ t ≤ 2 ^ 8 := Nat.pow_le_pow_right (by omega) ht
  have h256 : (2 : Nat) ^ 8 = 256 := by decide
  have e1 : (a : Int) / 2 ^ h = ((a / 2 ^ h : Nat) : Int) := by simp
  have e2 : ((2 : Int) ^ t - 1) % 256 = ((2 ^ t - 1 : Nat) : Int) := by
    have e : (2 : Int) ^ t = ((2 ^ t : Nat) : Int) := by simp
    rw [e]; omega
  have hd : a / 2 ^ h ≤ a := Nat.div_le_self _ _
  rw [e1, e2, u8_and_nat _ _ (by omega) (by omega), Nat.and_two_pow_sub_one_eq_mod]
theorem or_piece {x y d t : Nat} (hx : x < 2 ^ d) (hy : y < 2 ^ t) (h : d + t ≤ 64) : bits .or .u64 (x : Int) (IntKind.u64.wrap ((y : Int) * 2 ^ d)) = ((x + y * 2 ^ d : Nat) : Int) := by
  have hp : y * 2 ^ d < 2 ^ 64 := by
    refine Nat.lt_of_lt_of_le (Nat.mul_lt_mul_of_pos_right hy (Nat.two_pow_pos d)) ?_
    rw [← Nat.pow_add]
    exact Nat.pow_le_pow_right (by omega) (by omega)
  have hx2 : x < 2 ^ 64 := Nat.lt_of_lt_of_le hx (Nat.pow_le_pow_right (by omega) (by omega))
  have e64 : (2 : Nat) ^ 64 = 18446744073709551616 := by decide
  have e : (y : Int) * 2 ^ d = ((y * 2 ^ d : Nat) : Int) := by simp
  rw [e, IntKind.wrap_u64, show (((y * 2 ^ d : Nat) : Int)) % 18446744073709551616 = ((y * 2 ^ d : Nat) : Int) by omega, u64_or_nat _ _ (by omega) (by omega), Um.or_above hx]
/-- What stands in the row: i numbers are read, and of the next one d bits. -/
def uwF (L wd i d : Nat) (j : Nat) : Nat := if j < i then L / 2 ^ (wd * j) % 2 ^ wd else if j = i then L / 2 ^ (wd * i) % 2 ^ d else 0
set_option maxRecDepth 100000 in
set_option maxHeartbeats 1600000 in
theorem unpackWide_any (s : ByteArray) (wd n : Nat) (w : World) (hwd : wd ≤ 64) (hn : n ≤ 200) (hs : n * wd ≤ 8 * s.size) (hsz : s.size ≤ 1000000) :
    Calls Tryd.prog 114 #[.string s, .int .i64 wd, .int .i64 n] w fun e w' => RetT e w' n 55 (u64s (unw s.data.toList wd n)) ∧ Below w.heap.size w w' := by
  obtain ⟨iv, hvi, hv0, hv1, hv2⟩ := info_parts Tryd.infoU64
  obtain ⟨M, hM⟩ : ∃ M, M = madeCells (Value.int .u64 0).cells (((n : Nat) : Int).toNat * iv.size) := ⟨_, rfl⟩
  have hMs : M = madeCells #[.int .u64 0] n := by rw [hM, hv1]; simp [Value.cells]
  have hmk : ∀ W : World, (Instr.makeSlice 99 (.int .i64 (n : Int)) (.int .i64 (n : Int))).run Tryd.prog W = .ok (.slice (some ⟨W.heap.size, 0, none⟩) n n) (W.alloc (.cells M 55)) := fun W => by
    have h := run_make (P := Tryd.prog) W 99 55 iv (.int .u64 0) Tryd.underlyingU64s hvi hv0 .i64 .i64 (n : Int) (n : Int) (by omega) (by omega) (by rw [hv2]; omega) (by omega)
    rw [← hM] at h
    simpa using h
  have HS : Hid (URow (uwF (Um.lev s.data.toList) wd 0 0) n w.heap.size w (w.alloc (.cells M 55))) := (URow.start _ _ _ hMs).congr fun j _ => by simp [uwF, Nat.mod_one]
  have HSZ : Hid (n * wd ≤ 8 * s.size) := hs
  clear hM hMs hs
  go_enter Tryd.func114, Tryd.ntmps114
  go_wp2
  clear hmk
  go_loopw [8, 17] (fun p x wr => ∃ i : Nat, i ≤ n ∧ x = .int .i64 i ∧ p = .int .i64 ((wd * i : Nat) : Int) ∧ w.heap.size < wr.heap.size ∧ Hid (URow (uwF (Um.lev s.data.toList) wd i 0) n w.heap.size w wr)) (fun _ x _ => n - (intOf x).toNat)
  case atStart => exact ⟨0, Nat.zero_le _, rfl, rfl, by simp, HS⟩
  case round =>
    clear HS
    obtain ⟨i, hik, rfl, rfl, hsl, HV⟩ := hrel
    have hb := HV.out.old
    by_cases hlt : i < n
    · have HW : Hid (wd * i + wd ≤ 8 * s.size) := by
        have h1 : wd * (i + 1) ≤ wd * n := Nat.mul_le_mul_left _ hlt
        have h2 := HSZ.out
        rw [Nat.mul_comm] at h2
        show _ ≤ _
        rw [Nat.mul_add, Nat.mul_one] at h1
        omega
      generalize ha : wd * i = at0 at *
      have HA : Hid (wd * i = at0) := ha
      clear ha
      go_wp2
      go_loopw [8, 10] (fun p h wr => ∃ (d : Nat), d ≤ wd ∧ p = .int .i64 ((at0 + d : Nat) : Int) ∧ h = .int .i64 (d : Int) ∧ w.heap.size < wr.heap.size ∧ Hid (URow (uwF (Um.lev s.data.toList) wd i d) n w.heap.size w wr)) (fun _ h _ => wd - (intOf h).toNat)
      case atStart => exact ⟨0, Nat.zero_le _, rfl, rfl, hsl, HV⟩
      case round =>
        clear HV hsl hb
        obtain ⟨d, hdw, rfl, rfl, hsl, HV⟩ := hrel
        by_cases hdl : d < wd
        · have hP : at0 + d < 8 * s.size := by have := HW.out; omega
          generalize hPe : at0 + d = P at *
          have HP : Hid (at0 + d = P) := hPe
          clear hPe
          obtain ⟨l, hle⟩ : ∃ l, wd - d = l := ⟨_, rfl⟩
          have hli : (wd : Int) - (d : Int) = (l : Int) := by omega
          have hl0 : 0 < l := by omega
          have HLE : Hid (wd - d = l) := hle
          clear hle
          obtain ⟨q, HQ⟩ : ∃ q, Hid (P / 8 = q) := ⟨P / 8, rfl⟩
          obtain ⟨h, HH⟩ : ∃ h, Hid (P % 8 = h) := ⟨P % 8, rfl⟩
          have hq : q < s.size := by rw [← HQ.out]; omega
          have hh : h < 8 := by rw [← HH.out]; omega
          have hqi : (P : Int) / 8 = (q : Int) := by rw [← HQ.out]; omega
          have hhi : (P : Int) % 8 = (h : Int) := by rw [← HH.out]; omega
          have hcq := HV.out.cell i hlt
          have hfq := HV.out.froz i hlt
          obtain ⟨t, ht⟩ : ∃ t, t = min l (8 - h) := ⟨_, rfl⟩
          have hmin : min (l : Int) (8 - (h : Int)) = (t : Int) := by omega
          have ht1 : 0 < t ∧ t ≤ 8 ∧ d + t ≤ wd ∧ h + t ≤ 8 := by have := HLE.out; omega
          clear ht
          have hbt : s[q].toNat < 256 := s[q].toNat_lt
          have HAND : Hid _ := and_piece (a := s[q].toNat) (h := h) (t := t) hbt ht1.2.1
          have HPI : Hid (s[q].toNat / 2 ^ h % 2 ^ t = Um.lev s.data.toList / 2 ^ at0 / 2 ^ d % 2 ^ t) := by
            show _ = _
            have h1 := Um.lev_piece s.data.toList P t (by rw [HQ.out, Array.length_toList]; exact hq) (by rw [HH.out]; omega)
            rw [Nat.div_div_eq_div_mul, ← Nat.pow_add, HP.out, ← h1]
            simp only [HQ.out, HH.out]
            rfl
          have HF : Hid (uwF (Um.lev s.data.toList) wd i d i = Um.lev s.data.toList / 2 ^ at0 % 2 ^ d) := by
            show _ = _
            simp [uwF, HA.out]
          have HF2 : Hid (uwF (Um.lev s.data.toList) wd i (d + t) i = Um.lev s.data.toList / 2 ^ at0 % 2 ^ (d + t)) := by
            show _ = _
            simp [uwF, HA.out]
          have HV2 : Hid _ := HV.out.put (Nat.le_refl _) hlt (F' := uwF (Um.lev s.data.toList) wd i (d + t)) fun j hj => by simp [uwF, hj]
          have hpl : s[q].toNat / 2 ^ h % 2 ^ t < 2 ^ t := Nat.mod_lt _ (Nat.two_pow_pos t)
          have HOR : Hid (bits .or .u64 (uwF (Um.lev s.data.toList) wd i d i : Nat) (IntKind.u64.wrap (((s[q].toNat / 2 ^ h % 2 ^ t : Nat) : Int) * 2 ^ d)) = ((uwF (Um.lev s.data.toList) wd i (d + t) i : Nat) : Int)) := by
            show _ = _
            rw [HF.out, or_piece (Nat.mod_lt _ (Nat.two_pow_pos d)) hpl (by omega), HF2.out, Um.low_more, HPI.out]
          have hp256 : s[q].toNat / 2 ^ h % 2 ^ t < 256 := Nat.lt_of_lt_of_le hpl (Nat.le_trans (Nat.pow_le_pow_right (by omega) ht1.2.1) (by decide))
          clear hpl
          go_wp2
          go_region
          rw [HAND.out]
          clear HAND
          generalize s[q].toNat / 2 ^ h % 2 ^ t = pc at *
          have HV3 : Hid (URow (uwF (Um.lev s.data.toList) wd i (d + t)) n w.heap.size w ((wr.setCell ⟨w.heap.size, i, none⟩ (Value.int IntKind.u64 (bits BinOp.or IntKind.u64 (uwF (Um.lev s.data.toList) wd i d i : Nat) (IntKind.u64.wrap (↑pc * 2 ^ d))))).drew.drew)) := by
            have h := HV2.out
            rw [HOR.out]
            exact URow.keep h (by simpa using hsl) (Below.refl _ _).drew.drew
          go_wp2
          go_region
          go_wp2
          go_roundw
          case rel =>
            have hp := HP.out
            refine ⟨d + t, by omega, ?_, ?_, by simpa using hsl, HV3⟩
            · rw [show ((at0 + (d + t) : Nat) : Int) = (P : Int) + (t : Int) by omega]
            · rw [show ((d + t : Nat) : Int) = (d : Int) + (t : Int) by omega]
          case measure => simp [intOf]; omega
        · obtain rfl : d = wd := by omega
          have HV3 : Hid (URow (uwF (Um.lev s.data.toList) d (i + 1) 0) n w.heap.size w wr) := HV.out.congr fun j hj => by
            unfold uwF
            by_cases h1 : j < i
            · rw [if_pos h1, if_pos (by omega)]
            · by_cases h2 : j = i
              · subst h2; rw [if_neg h1, if_pos rfl, if_pos (by omega)]
              · rw [if_neg h1, if_neg h2, if_neg (by omega)]; simp [Nat.mod_one]
          go_wp2
          refine ⟨⟨i + 1, by omega, by go_num, ?_, hsl, HV3.out⟩, by simp [intOf]; omega⟩
          rw [Nat.mul_add, Nat.mul_one, HA.out]
    · obtain rfl : i = n := by omega
      have HLV : Hid (Lies wr (some ⟨w.heap.size, 0, none⟩) (u64s (unw s.data.toList wd i))) := fun j hj => by
        rw [u64s_len, unw_len] at hj
        refine ⟨w.heap.size, 0, rfl, ?_⟩
        rw [Nat.zero_add, HV.out.cell j hj]
        simp [u64s, unw, uwF, hj]
      go_wp2
      go_ret
      exact ⟨⟨_, rfl, HLV.out, HV.out.ty⟩, hb⟩
end Go.Proofs.YtjchkhdmjbojjaaDoor
