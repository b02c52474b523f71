/-
  The walk of the law WireBursts.
-/
import Derived.Test.YtfdcadlhapcddabSum
import Derived.Test.YtfdcadlhapcddabBurst
import Derived.RegionTactic
import Derived.BigRegion
import Derived.OpenShut
namespace Go.Proofs.Ytfdcadlhapcddab
open Go.RowKit
theorem ret_bool {a b : Bool} (h : a = b) : Ending.returned (.bool a) = .returned (.bool b) := by rw [h]
/-- What the loop keeps: the bytes so far lie in the row; they part from the text's within the turned bits. -/
structure Row (s : ByteArray) (a g : Nat) (w wr : World) (i : Nat) (l : List UInt8) : Prop where
  len : l.length = s.size
  cell : ∀ j (h : j < l.length), wr.cell? ⟨g, j, none⟩ = some (.int .u8 (l[j]).toNat)
  froz : ∀ j, j < s.size → wr.frozen? ⟨g, j, none⟩ = false
  num : ∃ u, u < 2 ^ i ∧ Crc.le l = Crc.le s.data.toList ^^^ (2 ^ a * u)
  old : Below w.heap.size w wr
theorem row_start (s : ByteArray) (a cp : Nat) (w w1 : World) (hb : Below w.heap.size w w1) :
    Row s a w1.heap.size w (w1.alloc (.cells (bytesRow s cp) 5 ((bytesRow s cp).size, (bytesRow s cp).size + 1))).drew 0 s.data.toList where
  len := by simp
  cell := fun j h => by
    have hj : j < s.data.size := by simpa using h
    have h1 : (w1.alloc (.cells (bytesRow s cp) 5 ((bytesRow s cp).size, (bytesRow s cp).size + 1))).drew.cell? ⟨w1.heap.size, j, none⟩ = (bytesRow s cp)[j]? :=
      cell_of_row _ w1.heap.size j (bytesRow s cp) 5 _ (heap_alloc_new w1 _)
    rw [h1, bytesRow_at s cp j hj]
    simp
  froz := fun j hj => by
    have h1 : (w1.alloc (.cells (bytesRow s cp) 5 ((bytesRow s cp).size, (bytesRow s cp).size + 1))).drew.heap[w1.heap.size]? = some (.cells (bytesRow s cp) 5 ((bytesRow s cp).size, (bytesRow s cp).size + 1)) := heap_alloc_new w1 _
    have h2 : j < (bytesRow s cp).size := by simp [bytesRow]; have : s.data.size = s.size := rfl; omega
    unfold World.frozen?
    rw [h1]
    simp
    omega
  num := ⟨0, by simp, by simp⟩
  old := (hb.alloc hb.size _).drew
theorem Row.next {s : ByteArray} {a g : Nat} {w wr : World} {i : Nat} {l : List UInt8} (h : Row s a g w wr i l) : Row s a g w wr (i + 1) l :=
  { h with num := by obtain ⟨u, hu, e⟩ := h.num; exact ⟨u, Nat.lt_of_lt_of_le hu (Nat.pow_le_pow_right (by omega) (by omega)), e⟩ }
theorem xor_bit (y b : Nat) (hy : y < 256) (hb : b < 8) : bits .xor .u8 (y : Int) (2 ^ b % 256) = ((y ^^^ 2 ^ b : Nat) : Int) := by
  have h2 : 2 ^ b < 256 := (Nat.pow_lt_pow_iff_right (a := 2) (by omega)).2 hb
  have e : ((2 : Int) ^ b % 256) = ((2 ^ b : Nat) : Int) := by
    have e1 : ((2 ^ b : Nat) : Int) = (2 : Int) ^ b := by simp
    rw [← e1]
    generalize (2 ^ b : Nat) = q at h2 ⊢
    omega
  rw [e]
  exact u8_xor_nat y (2 ^ b) hy h2
theorem Row.turn {s : ByteArray} {a g : Nat} {w wr : World} {i : Nat} {l : List UInt8} (h : Row s a g w wr i l) (hg : w.heap.size ≤ g) (hj : (a + i) / 8 < s.size) :
    ∃ l', Row s a g w (wr.setCell ⟨g, (a + i) / 8, none⟩ (.int .u8 (bits .xor .u8 ((l[(a + i) / 8]'(by rw [h.len]; exact hj)).toNat : Int) (2 ^ ((a + i) % 8) % 256)))).drew (i + 1) l' := by
  have hjl : (a + i) / 8 < l.length := by rw [h.len]; exact hj
  have hy : l[(a + i) / 8].toNat < 256 := l[(a + i) / 8].toNat_lt
  have h2 : 2 ^ ((a + i) % 8) < 2 ^ 8 := Nat.pow_lt_pow_right (by omega) (by omega)
  obtain ⟨x, hx⟩ : ∃ x : UInt8, x.toNat = l[(a + i) / 8].toNat ^^^ 2 ^ ((a + i) % 8) := by
    refine ⟨UInt8.ofNat (l[(a + i) / 8].toNat ^^^ 2 ^ ((a + i) % 8)), ?_⟩
    have := Nat.xor_lt_two_pow (n := 8) hy h2
    simp only [UInt8.toNat_ofNat']
    omega
  rw [xor_bit _ _ hy (by omega), ← hx]
  have hold := h.cell ((a + i) / 8) hjl
  refine ⟨l.set ((a + i) / 8) x, by rw [List.length_set]; exact h.len, ?_, ?_, ?_, ?_⟩
  · intro j hjj
    have hj2 : j < l.length := by simpa using hjj
    show (wr.setCell ⟨g, (a + i) / 8, none⟩ (.int .u8 (x.toNat : Int))).cell? ⟨g, j, none⟩ = _
    by_cases e : (a + i) / 8 = j
    · subst e
      rw [World.cell?_setCell_same _ _ _ hold]
      simp
    · rw [World.cell?_setCell_other _ _ _ _ (by simp), h.cell j hj2, List.getElem_set_ne e]
  · intro j hj
    simpa using h.froz j hj
  · obtain ⟨u, hu, e⟩ := h.num
    exact Crc.turn_step l s.data.toList a i u hu e hjl _ hx
  · exact (h.old.setCell hg _).drew
theorem Row.conv {s : ByteArray} {a g : Nat} {w wr : World} {i cp : Nat} {l : List UInt8} (h : Row s a g w wr i l) : (convert 29 9 (.slice (some ⟨g, 0, none⟩) s.size cp)).run Try.prog wr = .ok (.string ⟨l.toArray⟩) wr := by
  rw [← h.len]
  refine run_convert_bytes_back wr 29 9 5 ⟨g, 0, none⟩ cp l Try.underlying29 Try.underlying5 Try.underlying9 (fun j hj => ?_)
  have e : (⟨g, 0, none⟩ : Addr).add j = ⟨g, j, none⟩ := by unfold Addr.add; split <;> simp_all
  rw [e]
  exact h.cell j hj
theorem toList_data (s : ByteArray) : s.toList = s.data.toList := by
  obtain ⟨⟨l⟩⟩ := s
  simp
theorem burst_end {s : ByteArray} {a g : Nat} {w wr : World} {l : List UInt8} (h : Row s a g w wr 32 l) (ha : a < 8 * s.size) : ((l == s.toList) == ((Crc.rem l : Int) == (Crc.rem s.data.toList : Int))) = true := by
  obtain ⟨u, hu, e⟩ := h.num
  have hd : s.toList = s.data.toList := toList_data s
  rw [hd]
  by_cases hl : l = s.data.toList
  · subst hl; simp
  · have hr : ¬ Crc.rem l = Crc.rem s.data.toList := fun hr => hl (Crc.burst s.data.toList l (by rw [h.len]; simp) a u (by simp; omega) hu e hr)
    have h1 : (l == s.data.toList) = false := by simpa using hl
    have h2 : ((Crc.rem l : Int) == (Crc.rem s.data.toList : Int)) = false := by simp; omega
    rw [h1, h2]; rfl
set_option maxRecDepth 100000 in
set_option maxHeartbeats 800000 in
theorem bursts_main (s : ByteArray) (a t : Nat) (w : World) (hs : s.size ≤ 2000) (ha : a / 8 < s.size) (ht0 : 0 < t) (ht : t < 4294967296) :
    Calls Try.prog 5 #[.string s, .int .i64 a, .int .u32 t] w fun e w' => e = .returned (.bool true) ∧ Below w.heap.size w w' := by
  have ht1 : ((t : Int) == 0) = false := by simp; omega
  have hd1 : decide (2000 < (s.size : Int)) = false := by simp; omega
  have hd2 : decide ((a : Int) < 0) = false := by simp
  have hd3 : decide ((s.size : Int) ≤ (a : Int) / 8) = false := by simp; omega
  go_enter Try.func5, Try.ntmps5
  go_wp2_with fail
  refine (three_any _).mono ?_
  rintro e w1 ⟨rfl, hb1⟩
  have hcv := run_bytes_of_string (P := Try.prog) w1 9 29 5 s Try.underlying9 Try.underlying29 Try.underlying5
  generalize grownCap w1 s.size 0 5 = cp at hcv
  go_wp2_with fail
  clear hd1 hd2 hd3 ht1 hcv
  go_loopw [9] (fun i wr => ∃ (k : Nat) (l : List UInt8), k ≤ 32 ∧ i = .int .i64 k ∧ Row s a w1.heap.size w wr k l) (fun i _ => 32 - (intOf i).toNat)
  case atStart => exact ⟨0, s.data.toList, by omega, rfl, row_start s a cp w w1 hb1⟩
  case round =>
    obtain ⟨k, l, hk, rfl, hR⟩ := hrel
    by_cases hlt : k < 32
    · by_cases hbit : ((t : Int) / 2 ^ k).tmod 2 = 1
      · have hbt : (((t : Int) / 2 ^ k).tmod 2 == 1) = true := by simpa using hbit
        by_cases hj : (a + k) / 8 < s.size
        · have hjd : ((a : Int) + (k : Int)) / 8 < (s.size : Int) := by omega
          have hln := hR.len
          have hc := hR.cell ((a + k) / 8) (by omega)
          have hf := hR.froz ((a + k) / 8) hj
          clear hbit
          go_wp2_with fail
          go_region
          go_wp2
          go_roundw
          case rel => obtain ⟨l', h'⟩ := hR.turn hb1.size hj; exact ⟨k + 1, l', by omega, by go_num, h'⟩
          case measure => simp [intOf]; omega
        · have hjd : decide (((a : Int) + (k : Int)) / 8 < (s.size : Int)) = false := by simp; omega
          clear hbit
          go_wp2_with fail
          go_roundw
          case rel => exact ⟨k + 1, l, by omega, by go_num, hR.next⟩
          case measure => simp [intOf]; omega
      · have hbt : (((t : Int) / 2 ^ k).tmod 2 == 1) = false := by simpa using hbit
        clear hbit
        go_wp2_with fail
        go_roundw
        case rel => exact ⟨k + 1, l, by omega, by go_num, hR.next⟩
        case measure => simp [intOf]; omega
    · obtain rfl : k = 32 := by omega
      have hln := hR.len
      have hcv := hR.conv (cp := cp)
      have hsz : (⟨l.toArray⟩ : ByteArray).size ≤ 2000 := by show l.toArray.size ≤ 2000; simp; omega
      have hbel := hR.old
      have HE : Hid _ := burst_end hR (by omega)
      clear hR
      go_wp2_with fail
      refine (sum_any _ _ hsz).mono ?_
      rintro e w2 ⟨rfl, hb2⟩
      go_wp2_with fail
      refine (sum_any _ _ hs).mono ?_
      rintro e w3 ⟨rfl, hb3⟩
      go_wp2
      go_ret
      exact ⟨ret_bool HE.out, (hbel.trans (hb2.mono hbel.size)).trans (hb3.mono (Nat.le_trans hbel.size hb2.size))⟩
set_option maxHeartbeats 800000 in
set_option maxRecDepth 100000 in
theorem bursts_none (s : ByteArray) (a t : Int) (w : World) (hs : s.size ≤ maxLen) (ha0 : -9223372036854775808 ≤ a) (ha1 : a ≤ 9223372036854775807) (h : 2000 < s.size ∨ a < 0 ∨ t = 0 ∨ (0 ≤ a ∧ (s.size : Int) ≤ a / 8)) :
    Calls Try.prog 5 #[.string s, .int .i64 a, .int .u32 t] w fun e w' => e = .returned (.bool true) ∧ Below w.heap.size w w' := by
  unfold maxLen at hs
  by_cases h1 : 2000 < s.size
  · have hd1 : decide (2000 < (s.size : Int)) = true := by simp; omega
    clear h
    go_enter Try.func5, Try.ntmps5
    go_wp2_with (go_at_call 6; refine (three_any _).mono ?_; rintro e w1 ⟨rfl, hb1⟩)
    go_ret
    exact ⟨rfl, hb1⟩
  have hd1 : decide (2000 < (s.size : Int)) = false := by simp; omega
  by_cases h2 : a < 0
  · have hd2 : decide (a < 0) = true := by simpa using h2
    clear h
    go_enter Try.func5, Try.ntmps5
    go_wp2_with (go_at_call 6; refine (three_any _).mono ?_; rintro e w1 ⟨rfl, hb1⟩)
    go_ret
    exact ⟨rfl, hb1⟩
  have hd2 : decide (a < 0) = false := by simpa using h2
  by_cases h3 : t = 0
  · subst h3
    clear h
    go_enter Try.func5, Try.ntmps5
    go_wp2_with (go_at_call 6; refine (three_any _).mono ?_; rintro e w1 ⟨rfl, hb1⟩)
    go_ret
    exact ⟨rfl, hb1⟩
  have hd3 : (t == 0) = false := by simpa using h3
  have h4 : (s.size : Int) ≤ a / 8 := by omega
  have hd4 : decide ((s.size : Int) ≤ a / 8) = true := by simpa using h4
  clear h h1 h3
  go_enter Try.func5, Try.ntmps5
  go_wp2_with (go_at_call 6; refine (three_any _).mono ?_; rintro e w1 ⟨rfl, hb1⟩)
  go_ret
  exact ⟨rfl, hb1⟩
theorem wireBursts_walk (s : ByteArray) (a t : Int) (w : World) (hs : s.size ≤ maxLen) (ha : (Lit.int .i64 a).wf = true) (ht : (Lit.int .u32 t).wf = true) :
    Calls Try.prog 5 #[.string s, .int .i64 a, .int .u32 t] w fun e w' => e = .returned (.bool true) ∧ Below w.heap.size w w' := by
  have hab := bounds_i64 ha
  have htb := bounds_u32 ht
  by_cases h : 2000 < s.size ∨ a < 0 ∨ t = 0 ∨ (0 ≤ a ∧ (s.size : Int) ≤ a / 8)
  · exact bursts_none s a t w hs hab.1 hab.2 h
  · obtain ⟨a', rfl⟩ := Int.eq_ofNat_of_zero_le (show 0 ≤ a by omega)
    obtain ⟨t', rfl⟩ := Int.eq_ofNat_of_zero_le htb.1
    exact bursts_main s a' t' w (by omega) (by omega) (by omega) (by omega)
end Go.Proofs.Ytfdcadlhapcddab
