/-
  enc.plainTexts and enc.plainBools: the bytes of texts; of numbers 0 or 1.
  wire.ReadText's refusals.
  Bytes behind bytes.
  bitrun.unpack: the numbers that bytes are, so many bits each.
-/
import Derived.Test.YtalphknhkkcpgaaDoorKBPNums
import Derived.Test.YtalphknhkkcpgaaDoorKPackF
import Derived.Test.YtalphknhkkcpgaaDoorKRefBits
import Derived.Test.YtalphknhkkcpgaaDoorKRd2
import Derived.RegionTactic
import Derived.Test.YtalphknhkkcpgaaDoorKBVal
import Derived.Test.YtalphknhkkcpgaaDoorKBMath
namespace Go.Proofs.YtalphknhkkcpgaaDoor
open Go.RowKit
theorem text_bytes (s : ByteArray) : ((⟨(Um.uv s.size).toArray⟩ : ByteArray) ++ s).data.toList = Um.txt s.data.toList := by
  rw [ByteArray.data_append, Array.toList_append]
  show _ = Um.uv s.data.toList.length ++ _
  rw [Array.length_toList]; rfl
set_option maxHeartbeats 1600000 in
set_option maxRecDepth 100000 in
theorem plainTexts_any (a : Option Addr) (vs : List Vl) (c : Nat) (w : World) (hn : vs.length ≤ 20000) (hl : LiesV w a vs) (hx : ∀ s ∈ vss vs, s.length ≤ 100) :
    Calls Tryd.prog 37 #[.slice a vs.length c] w fun e w' => e = .returned (.string ⟨(Um.txts (vss vs)).toArray⟩) ∧ Below w.heap.size w w' := by
  obtain ⟨i0, hi, hz0, hz1, hz2⟩ := info_parts Tryd.info5
  have HL : Hid (LiesV w a vs) := hl
  have HX : Hid (∀ s ∈ vss vs, s.length ≤ 100) := hx
  clear hl hx
  go_enter Tryd.func37, Tryd.ntmps37
  go_wp2
  go_loopw [3, 8] (fun b x wr => ∃ i : Nat, i ≤ vs.length ∧ x = .int .i64 i ∧ Hid (wr.ownsRow w.heap.size 5 1 b (Um.txts ((vss vs).take i)).length (cellsOf (Um.txts ((vss vs).take i)))) ∧ Below w.heap.size w wr) (fun _ x _ => vs.length - (intOf x).toNat)
  case atStart => exact ⟨0, Nat.zero_le _, rfl, World.ownsRow_nil w w.heap.size 5 1, Below.refl _ _⟩
  case round =>
    obtain ⟨i, hik, rfl, HO, hb⟩ := hrel
    generalize hwr0 : wr = wr0 at *
    by_cases hlt : i < vs.length
    · obtain ⟨b, o, rfl, hc0, hc1, hc2⟩ := (HL.out.keep hb) i hlt
      have hlv : i < (vss vs).length := by rw [vss_len]; exact hlt
      have HN : Hid (Um.txts ((vss vs).take (i + 1)) = Um.txts ((vss vs).take i) ++ Um.txt vs[i].s.data.toList) := by
        show _ = _
        rw [Um.txts_take (vss vs) i hlv]
        simp [vss]
      have hsl : vs[i].s.size ≤ 100 := by
        have h := HX.out (vss vs)[i] (List.getElem_mem hlv)
        simpa [vss] using h
      have hnl : (Um.txts ((vss vs).take i)).length ≤ 110 * 20000 := by
        refine Nat.le_trans (Um.txts_len _ (fun s hs => HX.out s (List.mem_of_mem_take hs))) (Nat.mul_le_mul_left _ ?_)
        rw [List.length_take]; omega
      have htl := Um.txt_len vs[i].s.data.toList (by rw [Array.length_toList]; show vs[i].s.size < _; omega)
      rw [Array.length_toList] at htl
      clear hlv
      generalize Um.txts ((vss vs).take i) = l at *
      generalize vs[i] = v at *
      obtain ⟨k, n, s⟩ := v
      simp only at hc0 hc1 hc2 HN hsl htl
      change (Um.txt s.data.toList).length ≤ s.size + 10 at htl
      go_wp2_with fail
      refine (text_any s _ (by omega)).mono ?_
      rintro e w1 ⟨rfl, hb1⟩
      have hob := hb.alloc hb.size (.cells #[.int .i64 k, .int .i64 n, .string s] 49)
      have hb2 := hob.trans (hb1.mono hob.size)
      have hown := ow_kept (HO.out.alloc (.cells #[.int .i64 k, .int .i64 n, .string s] 49)) hb1
      have htb := text_bytes s
      generalize (⟨(Um.uv s.size).toArray⟩ : ByteArray) ++ s = t at htb
      have hts : t.size = (Um.txt s.data.toList).length := by rw [← htb, Array.length_toList]; rfl
      obtain ⟨v', w', hr, hown', hgrow, _⟩ := Lib.run_append_own_string (P := Tryd.prog) w1 w.heap.size 79 9 79 5 i0 Tryd.underlying79 Tryd.underlying9 hi hz0 hz1 hz2 _ _ _ hown t (by unfold maxLen; omega) (by omega) hb2.size
      have hown2 := ow_str hown'
      rw [htb, ← HN.out] at hown2
      have hb3 := below_grown hb2 (Nat.le_refl _) hown hgrow
      clear hown hown' hgrow hts htb hc0 hc1 hc2
      go_wp2_with (at_builtin; refine Lib.wpList_append_run _ rfl _ _ 79 9 rfl _ _ rfl rfl _ _ hr ?_)
      go_roundw
      case rel => exact ⟨i + 1, by omega, by go_num, hown2, hb3⟩
      case measure => simp [intOf]; omega
    · obtain rfl : i = vs.length := by omega
      have ho := HO.out
      rw [← vss_len, List.take_length] at ho
      have hcv := ow_conv rfl ho
      go_wp2
      go_ret
      exact ⟨rfl, hb⟩
end Go.Proofs.YtalphknhkkcpgaaDoor

namespace Go.Proofs.YtalphknhkkcpgaaDoor
open Go.RowKit
set_option maxHeartbeats 800000 in
theorem readT_none (s : ByteArray) (w : World) (t : TypeId) (x : Value) (hs : s.size ≤ maxLen) (hg : w.cell? ⟨0, 0, none⟩ = some (.iface t x)) (hr : Um.rdv s.data.toList 0 0 = (0, 0)) :
    Calls Tryd.prog 77 #[.string s] w fun e w' => e = .returned (.tuple #[.string ⟨#[]⟩, .int .i64 0, .iface t x]) ∧ Below w.heap.size w w' := by
  have HR : Hid (Um.rdv s.data.toList 0 0 = (0, 0)) := hr
  clear hr
  go_enter Tryd.func77, Tryd.ntmps77
  go_wp2_with fail
  refine (readU_miss s _ (.iface t x) hs hg HR.out).mono ?_
  rintro e w1 ⟨rfl, hb1⟩
  go_wp2
  go_ret3
  exact ⟨rfl, hb1⟩
set_option maxHeartbeats 800000 in
theorem readT_long (s : ByteArray) (w : World) (ev : Value) (n k : Nat) (hs : s.size ≤ 1000000) (hg : w.cell? ⟨0, 0, none⟩ = some ev) (hr : Um.rdv s.data.toList 0 0 = (n, k)) (hk : 0 < k) (hf : s.size < k + n ∨ 200000 < n) :
    Calls Tryd.prog 77 #[.string s] w fun e w' => e = .returned (.tuple #[.string ⟨#[]⟩, .int .i64 0, ev]) ∧ Below w.heap.size w w' := by
  have hm : s.size ≤ maxLen := by unfold maxLen; omega
  have hk10 : k ≤ 10 := by have := (Um.rdv_room s.data.toList 0 0 (by simp)).2.1; rw [hr] at this; exact this
  have hkl : k ≤ s.size := by have := (Um.rdv_room s.data.toList 0 0 (by simp)).2.2; rw [hr] at this; simpa using this
  have HR : Hid (Um.rdv s.data.toList 0 0 = (n, k)) := hr
  clear hr
  by_cases hn : n ≤ 200000
  · have hd1 : decide (200000 < (n : Int)) = false := by simp; omega
    have hd2 : decide ((s.size : Int) - (k : Int) < (n : Int)) = true := by simp; omega
    go_enter Tryd.func77, Tryd.ntmps77
    go_wp2_with fail
    refine (readU_hit s _ ev n k hm hg HR.out hk).mono ?_
    rintro e w1 ⟨rfl, hb1⟩
    have hg1 := (hb1.cell (World.block_lt_of_cell? w _ hg)).trans hg
    go_wp2
    go_region
    all_goals (try go_wp2)
    all_goals go_ret3
    all_goals exact ⟨rfl, hb1.drew⟩
  · have hd1 : decide (200000 < (n : Int)) = true := by simp; omega
    go_enter Tryd.func77, Tryd.ntmps77
    go_wp2_with fail
    refine (readU_hit s _ ev n k hm hg HR.out hk).mono ?_
    rintro e w1 ⟨rfl, hb1⟩
    have hg1 := (hb1.cell (World.block_lt_of_cell? w _ hg)).trans hg
    go_wp2
    go_region
    all_goals (try go_wp2)
    all_goals go_ret3
    all_goals exact ⟨rfl, hb1.drew⟩
end Go.Proofs.YtalphknhkkcpgaaDoor

namespace Go.Proofs.YtalphknhkkcpgaaDoor
open Go.RowKit
theorem arr_app (l m : List UInt8) : (⟨l.toArray⟩ : ByteArray) ++ ⟨m.toArray⟩ = ⟨(l ++ m).toArray⟩ := by
  apply ByteArray.ext
  rw [ByteArray.data_append]
  simp
theorem txt_arr (s : ByteArray) : (⟨(Um.uv s.size).toArray⟩ : ByteArray) ++ s = ⟨(Um.txt s.data.toList).toArray⟩ := by
  have e : s = ⟨s.data.toList.toArray⟩ := by cases s; simp
  have h := arr_app (Um.uv s.size) s.data.toList
  rw [← e] at h
  rw [h]
  unfold Um.txt
  rw [Array.length_toList]; rfl
end Go.Proofs.YtalphknhkkcpgaaDoor

namespace Go.Proofs.YtalphknhkkcpgaaDoor
open Go.RowKit
/-- What a loop that fills a row of its own keeps. -/
structure GRow (f : Nat → Value) (k g : Nat) (w wr : World) (i : Nat) : Prop where
  done : ∀ j, j < i → wr.cell? ⟨g, j, none⟩ = some (f j)
  any : ∀ j, j < k → ∃ v, wr.cell? ⟨g, j, none⟩ = some v
  froz : ∀ j, j < k → wr.frozen? ⟨g, j, none⟩ = false
  old : Below w.heap.size w wr
theorem GRow.start (f : Nat → Value) (k ty : Nat) (w : World) (M : Array Value) (hM : M.size = k) : GRow f k w.heap.size w (w.alloc (.cells M ty)) 0 := by
  refine ⟨fun j h => absurd h (Nat.not_lt_zero _), fun j hj => ?_, fun j _ => ?_, (Below.refl _ _).alloc (Nat.le_refl _) _⟩
  · rw [cell_of_row _ w.heap.size j M ty (0, 0) (heap_alloc_new w _)]
    exact ⟨_, Array.getElem?_eq_getElem (by omega)⟩
  · exact frozen_of_row _ w.heap.size j M ty (heap_alloc_new w _)
theorem GRow.next {f : Nat → Value} {k g : Nat} {w wr : World} {i : Nat} {v : Value} (h : GRow f k g w wr i) (hg : w.heap.size ≤ g) (hi : i < k) (hv : v = f i) : GRow f k g w (wr.setCell ⟨g, i, none⟩ v) (i + 1) := by
  subst hv
  obtain ⟨v, hv⟩ := h.any i hi
  have hother : ∀ j, j ≠ i → (wr.setCell ⟨g, i, none⟩ (f i)).cell? ⟨g, j, none⟩ = wr.cell? ⟨g, j, none⟩ := fun j hj =>
    World.cell?_setCell_other _ _ _ _ (fun e => hj (by injection e with _ e; exact e.symm))
  refine ⟨fun j hj => ?_, fun j hj => ?_, fun j hj => by simpa using h.froz j hj, h.old.setCell hg _⟩
  · by_cases e : j = i
    · subst e; exact World.cell?_setCell_same _ _ _ hv
    · rw [hother j e]; exact h.done j (by omega)
  · by_cases e : j = i
    · subst e; exact ⟨_, World.cell?_setCell_same _ _ _ hv⟩
    · rw [hother j e]; exact h.any j hj
theorem and_mask {r k : Nat} (hr : r < 18446744073709551616) (hk : k ≤ 32) : bits .and .u64 (r : Int) (2 ^ k - 1) = ((r % 2 ^ k : Nat) : Int) := by
  have hp := Nat.two_pow_pos k
  have hp2 : 2 ^ k ≤ 4294967296 := Nat.le_trans (Nat.pow_le_pow_right (by omega) hk) (by decide)
  have e : (2 : Int) ^ k - 1 = ((2 ^ k - 1 : Nat) : Int) := by
    rw [Int.ofNat_sub hp]; simp
  rw [e, u64_and_nat r (2 ^ k - 1) hr (by omega), Nat.and_two_pow_sub_one_eq_mod]
theorem or_shift32 {r x h : Nat} (hr : r < 2 ^ h) (hx : x < 256) (hh : h ≤ 32) : bits .or .u64 (r : Int) (IntKind.u64.wrap ((x : Int) * 2 ^ h)) = ((r + x * 2 ^ h : Nat) : Int) ∧ r + x * 2 ^ h < 18446744073709551616 := by
  have h8 : 2 ^ h ≤ 2 ^ 32 := Nat.pow_le_pow_right (by omega) hh
  have hm : x * 2 ^ h ≤ 256 * 2 ^ 32 := Nat.mul_le_mul (by omega) h8
  have h32 : 2 ^ 32 = 4294967296 := by decide
  have e : (x : Int) * 2 ^ h = ((x * 2 ^ h : Nat) : Int) := by simp
  have e2 : IntKind.u64.wrap ((x : Int) * 2 ^ h) = ((x * 2 ^ h : Nat) : Int) := by
    rw [e, IntKind.wrap_u64]; omega
  refine ⟨?_, by omega⟩
  rw [e2, or64 r _ (by omega) (by omega), Um.or_above hr]
theorem mask_wrap {k : Nat} (hk : k ≤ 32) : IntKind.u64.wrap (2 ^ k) = 2 ^ k ∧ IntKind.u64.wrap (2 ^ k - 1) = 2 ^ k - 1 ∧ ((2 : Int) ^ k - 1) % 18446744073709551616 = 2 ^ k - 1 ∧ ((2 : Int) ^ k) % 18446744073709551616 = 2 ^ k := by
  have h := Nat.pow_le_pow_right (n := 2) (by omega) hk
  have e : ((2 ^ k : Nat) : Int) = (2 : Int) ^ k := by simp
  have h32 : (2 : Nat) ^ 32 = 4294967296 := by decide
  have hp := Nat.two_pow_pos k
  rw [← e, IntKind.wrap_u64, IntKind.wrap_u64]
  omega
/-- The loops' relations. -/
structure UO (s : ByteArray) (wd n : Nat) (w : World) (r h nx x : Value) (wr : World) (i q r' h' : Nat) : Prop where
  hx : x = .int .i64 i
  hr : r = .int .u64 r'
  hh : h = .int .i64 h'
  hn : nx = .int .i64 q
  le : i ≤ n
  hq : q ≤ s.size
  bal : wd * i + h' = 8 * q
  rest : r' = Um.lev (s.data.toList.take q) / 2 ^ (wd * i)
  row : GRow (fun j => .int .i64 ((Um.lev s.data.toList / 2 ^ (wd * j) % 2 ^ wd : Nat) : Int)) n w.heap.size w wr i
structure UI (s : ByteArray) (wd i : Nat) (r h nx : Value) (q r' h' : Nat) : Prop where
  hr : r = .int .u64 r'
  hh : h = .int .i64 h'
  hn : nx = .int .i64 q
  hq : q ≤ s.size
  bal : wd * i + h' = 8 * q
  rest : r' = Um.lev (s.data.toList.take q) / 2 ^ (wd * i)
  small : h' < wd + 8
theorem UI.lt {s : ByteArray} {wd i : Nat} {r h nx : Value} {q r' h' : Nat} (u : UI s wd i r h nx q r' h') : r' < 2 ^ h' := by
  rw [u.rest, show h' = 8 * q - wd * i by have := u.bal; omega]
  exact Um.div_lt_pow (Um.lev_take_lt _ _ (by simpa using u.hq)) (by have := u.bal; omega)
theorem UI.lt64 {s : ByteArray} {wd i : Nat} {r h nx : Value} {q r' h' : Nat} (u : UI s wd i r h nx q r' h') (hwd : wd ≤ 32) : r' < 18446744073709551616 :=
  Nat.lt_of_lt_of_le u.lt (Nat.le_trans (Nat.pow_le_pow_right (n := 2) (by omega) (show h' ≤ 64 by have := u.small; omega)) (by decide))
theorem UI.step {s : ByteArray} {wd i : Nat} {r h nx : Value} {q r' h' : Nat} (u : UI s wd i r h nx q r' h') (hq : q < s.size) (hh : h' < wd) :
    UI s wd i (.int .u64 ((r' + (s[q]).toNat * 2 ^ h' : Nat) : Int)) (.int .i64 ((h' + 8 : Nat) : Int)) (.int .i64 ((q + 1 : Nat) : Int)) (q + 1) (r' + (s[q]).toNat * 2 ^ h') (h' + 8) := by
  refine ⟨rfl, rfl, rfl, hq, by have := u.bal; omega, ?_, by omega⟩
  have e : (s.data.toList)[q]'(by simpa using hq) = s[q] := rfl
  rw [Um.lev_take _ q (by simpa using hq), Um.add_above _ _ _ _ (by have := u.bal; omega), ← u.rest, e, show 8 * q - wd * i = h' by have := u.bal; omega]
set_option maxRecDepth 100000 in
set_option maxHeartbeats 1600000 in
theorem unpack_any (s : ByteArray) (wd n : Nat) (w : World) (hs : s.size ≤ 1000000) (hn : n ≤ 20008) (hwd : wd ≤ 32) (hfit : wd * n ≤ 8 * s.size) :
    Calls Tryd.prog 105 #[.string s, .int .i64 wd, .int .i64 n] w fun e w' => (e = .returned (.slice (some ⟨w.heap.size, 0, none⟩) n n) ∧
      ∀ j, j < n → w'.cell? ⟨w.heap.size, j, none⟩ = some (.int .i64 ((Um.lev s.data.toList / 2 ^ (wd * j) % 2 ^ wd : Nat) : Int))) ∧ Below w.heap.size w w' := by
  obtain ⟨i0, hi, hz0, hz1, hz2⟩ := info_parts Tryd.info3
  obtain ⟨M, hM⟩ : ∃ M, M = madeCells (Value.int .i64 0).cells (((n : Nat) : Int).toNat * i0.size) := ⟨_, rfl⟩
  have hMs : M.size = n := by rw [hM, size_madeCells, hz1]; simp
  have hmk : ∀ W : World, (Instr.makeSlice 66 (.int .i64 (n : Int)) (.int .i64 (n : Int))).run Tryd.prog W = .ok (.slice (some ⟨W.heap.size, 0, none⟩) n n) (W.alloc (.cells M 3)) := fun W => by
    have h := run_make (P := Tryd.prog) W 66 3 i0 (.int .i64 0) Tryd.underlying66 hi hz0 .i64 .i64 (n : Int) (n : Int) (by omega) (by omega) (by rw [hz2]; omega) (by omega)
    rw [← hM] at h
    simpa using h
  have HS : Hid (GRow (fun j => .int .i64 ((Um.lev s.data.toList / 2 ^ (wd * j) % 2 ^ wd : Nat) : Int)) n w.heap.size w (w.alloc (.cells M 3)) 0) := GRow.start _ n 3 w M hMs
  have HF : Hid (wd * n ≤ 8 * s.size) := hfit
  clear hM hMs hi hz0 hz1 hz2 hfit
  have hmw := mask_wrap hwd
  go_enter Tryd.func105, Tryd.ntmps105
  go_wp2
  clear hmk
  go_loopw [8, 9, 10, 16] (fun r h nx x wr => ∃ i q r' h' : Nat, UO s wd n w r h nx x wr i q r' h' ∧ h' < 8) (fun _ _ _ x _ => n - (intOf x).toNat)
  case atStart => exact ⟨0, 0, 0, 0, ⟨rfl, rfl, rfl, rfl, Nat.zero_le _, Nat.zero_le _, by omega, by simp [Um.lev], HS⟩, by omega⟩
  case round =>
    obtain ⟨i, q, r, h, HU, hh⟩ := hrel
    obtain ⟨rfl, rfl, rfl, rfl, hle, hq, hbal, hrest, hrow⟩ := HU
    have HR : Hid (GRow (fun j => .int .i64 ((Um.lev s.data.toList / 2 ^ (wd * j) % 2 ^ wd : Nat) : Int)) n w.heap.size w wr i) := hrow
    have HI : Hid (UI s wd i (.int .u64 r) (.int .i64 h) (.int .i64 q) q r h) := ⟨rfl, rfl, rfl, hq, hbal, hrest, by omega⟩
    clear hbal hrest hrow
    by_cases hlt : i < n
    · go_wp2
      go_loop [8, 9, 10] (fun r h nx => ∃ q r' h' : Nat, Hid (UI s wd i r h nx q r' h')) (fun _ h _ => wd + 8 - (intOf h).toNat)
      case atStart => exact ⟨q, r, h, HI⟩
      case round =>
        clear HI hh hq
        obtain ⟨q, r, h, HI⟩ := hrel
        obtain ⟨rfl, rfl, rfl, hq, hbal, hrest, hsm⟩ := HI.out
        have hr64 := HI.out.lt64 hwd
        have hrl := HI.out.lt
        by_cases hw : h < wd
        · have hqs : q < s.size := by
            have h1 : wd * (i + 1) ≤ wd * n := Nat.mul_le_mul_left _ hlt
            have h2 := HF.out
            rw [Nat.mul_add, Nat.mul_one] at h1
            omega
          have HN : Hid (UI s wd i (.int .u64 ((r + (s[q]).toNat * 2 ^ h : Nat) : Int)) (.int .i64 ((h + 8 : Nat) : Int)) (.int .i64 ((q + 1 : Nat) : Int)) (q + 1) (r + (s[q]).toNat * 2 ^ h) (h + 8)) := HI.out.step hqs hw
          have hb8 : s[q].toNat < 256 := s[q].toNat_lt
          have hor := (or_shift32 hrl hb8 (by omega)).1
          clear hbal hrest hrl
          go_wp2
          go_round
          case rel => exact ⟨q + 1, r + (s[q]).toNat * 2 ^ h, h + 8, ⟨by simp, by go_num, by go_num, HN.out.hq, HN.out.bal, HN.out.rest, HN.out.small⟩⟩
          case measure => simp [intOf]; omega
        · have hand := and_mask hr64 hwd
          have HV : Hid (r % 2 ^ wd = Um.lev s.data.toList / 2 ^ (wd * i) % 2 ^ wd) := by
            show _ = _
            rw [hrest]
            exact Um.lev_cut _ q _ _ (by simpa using hq) (by omega)
          have HR2 : Hid (r / 2 ^ wd = Um.lev (s.data.toList.take q) / 2 ^ (wd * (i + 1))) := by
            show _ = _
            rw [hrest, Nat.div_div_eq_div_mul, ← Nat.pow_add, Nat.mul_add, Nat.mul_one]
          have HB2 : Hid (wd * (i + 1) + (h - wd) = 8 * q) := by show _ = _; rw [Nat.mul_add, Nat.mul_one]; omega
          have hmod : r % 2 ^ wd < 4294967296 := Nat.lt_of_lt_of_le (Nat.mod_lt _ (Nat.two_pow_pos wd)) (Nat.le_trans (Nat.pow_le_pow_right (n := 2) (by omega) hwd) (by decide))
          obtain ⟨v, hv⟩ := HR.out.any i hlt
          have hfz := HR.out.froz i hlt
          clear hbal hrest hrl
          generalize r % 2 ^ wd = m at hand HV hmod
          go_wp2
          go_roundw
          case rel => exact ⟨i + 1, q, r / 2 ^ wd, h - wd, ⟨by go_num, by simp, by go_num, rfl, by omega, hq, HB2.out, HR2.out, HR.out.next (Nat.le_refl _) hlt (by rw [HV.out])⟩, by omega⟩
          case measure => simp [intOf]; omega
    · go_wp2
      go_ret
      exact ⟨⟨rfl, fun j hj => HR.out.done j (by omega)⟩, HR.out.old⟩
end Go.Proofs.YtalphknhkkcpgaaDoor
