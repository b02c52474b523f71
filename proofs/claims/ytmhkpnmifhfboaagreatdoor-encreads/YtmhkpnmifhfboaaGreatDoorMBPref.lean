/-
  enc.inCommon: how many bytes two texts begin with.
  What the program knows of the type string.
-/
import Derived.Test.YtmhkpnmifhfboaaGreatDoorMBMath
import Derived.Test.YtmhkpnmifhfboaaGreatDoorMOwn
import Derived.Test.YtmhkpnmifhfboaaGreatDoorMBRd2
import Derived.Test.YtmhkpnmifhfboaaGreatDoorMBVal
import Derived.Deep.QuietTactic
import Derived.BigQuiet
import Derived.Lib.AppendZeros
namespace Go.Proofs.YtmhkpnmifhfboaaGreatDoor
open Go.RowKit
theorem below_dN {B : Nat} {a w : World} (h : Below B a w) (n : Nat) : Below B a (w.drewN n) := h.trans ⟨rfl, rfl, rfl, Nat.le_refl _, fun _ _ => rfl⟩
set_option maxRecDepth 100000 in
set_option maxHeartbeats 1600000 in
theorem inCommon_any (s t : ByteArray) (w : World) (hs : s.size ≤ 100) (ht : t.size ≤ 100) :
    Calls Tryz.prog 106 #[.string s, .string t] w fun e w' => e = .returned (.int .i64 (Um.lcp s.data.toList t.data.toList : Nat)) ∧ Below w.heap.size w w' := by
  go_enter Tryz.func106, Tryz.ntmps106
  go_wp2
  go_loopw [5] (fun x wr => ∃ k : Nat, k ≤ s.size ∧ k ≤ t.size ∧ x = .int .i64 k ∧ Hid (s.data.toList.take k = t.data.toList.take k) ∧ Below w.heap.size w wr) (fun x _ => s.size - (intOf x).toNat)
  case atStart => exact ⟨0, Nat.zero_le _, Nat.zero_le _, rfl, rfl, Below.refl _ _⟩
  case round =>
    obtain ⟨k, h1, h2, rfl, HT, hb⟩ := hrel
    by_cases hlt : k < s.size ∧ k < t.size
    · obtain ⟨hk1, hk2⟩ := hlt
      have g1 : s.data.toList[k]? = some s[k] := by rw [Array.getElem?_toList]; exact Array.getElem?_eq_getElem hk1
      have g2 : t.data.toList[k]? = some t[k] := by rw [Array.getElem?_toList]; exact Array.getElem?_eq_getElem hk2
      by_cases he : s[k].toNat = t[k].toNat
      · have HT2 : Hid (s.data.toList.take (k + 1) = t.data.toList.take (k + 1)) := by
          show _ = _
          rw [List.take_add_one, List.take_add_one, HT.out, g1, g2, UInt8.toNat_inj.1 he]
        clear g1 g2
        by_cases hts : t.size < s.size
        all_goals
          go_wp2
          go_quiet (fail)
          go_wp2
          go_roundw
          case rel => exact ⟨k + 1, by omega, by omega, by go_num, HT2, below_dN hb _⟩
          case measure => simp [intOf]; omega
      · have HE : Hid (Um.lcp s.data.toList t.data.toList = k) := Um.lcp_eq _ _ k (by rw [Array.length_toList]; exact h1) (by rw [Array.length_toList]; exact h2) HT.out (Or.inr (Or.inr (by
          rw [g1, g2]
          intro h
          exact he (by rw [Option.some.inj h]))))
        clear g1 g2
        by_cases hts : t.size < s.size
        all_goals
          go_wp2
          go_quiet (fail)
          go_wp2
          go_ret
          exact ⟨by rw [HE.out]; rfl, below_dN hb _⟩
    · have HE : Hid (Um.lcp s.data.toList t.data.toList = k) := Um.lcp_eq _ _ k (by rw [Array.length_toList]; exact h1) (by rw [Array.length_toList]; exact h2) HT.out (by
          rw [Array.length_toList, Array.length_toList]
          change k = s.size ∨ k = t.size ∨ _
          omega)
      by_cases hts : t.size < s.size
      · obtain rfl : k = t.size := by omega
        go_wp2
        go_quiet (fail)
        go_wp2
        go_ret
        exact ⟨by rw [HE.out]; rfl, below_dN hb _⟩
      · obtain rfl : k = s.size := by omega
        go_wp2
        go_quiet (fail)
        go_wp2
        go_ret
        exact ⟨by rw [HE.out]; rfl, below_dN hb _⟩
/-- A slice of texts: its cells. -/
def strsC (ts : List ByteArray) : List Value := ts.map Value.string
theorem strsC_len (ts : List ByteArray) : (strsC ts).length = ts.length := by simp [strsC]
/-- Where a slice of texts lies. -/
def LiesS (w : World) (a : Option Addr) (ts : List ByteArray) : Prop := ∀ j (h : j < ts.length), ∃ b o, a = some ⟨b, o, none⟩ ∧ w.cell? ⟨b, o + j, none⟩ = some (.string ts[j])
theorem LiesS.keep {w w' : World} {a : Option Addr} {ts : List ByteArray} (h : LiesS w a ts) (hb : Below w.heap.size w w') : LiesS w' a ts := fun j hj => by
  obtain ⟨b, o, e, hc⟩ := h j hj
  exact ⟨b, o, e, (hb.cell (World.block_lt_of_cell? w _ hc)).trans hc⟩
/-- The bytes of texts. -/
def bys (ts : List ByteArray) : List (List UInt8) := ts.map fun t => t.data.toList
theorem bys_len (ts : List ByteArray) : (bys ts).length = ts.length := by simp [bys]
theorem bys_at (ts : List ByteArray) (i : Nat) (h : i < ts.length) : (bys ts)[i]'(by rw [bys_len]; exact h) = ts[i].data.toList := by simp [bys]
theorem bys_le {ts : List ByteArray} (h : ∀ t ∈ ts, t.size ≤ 100) : ∀ l ∈ bys ts, l.length ≤ 100 := fun l hl => by
  obtain ⟨t, ht, rfl⟩ := List.mem_map.1 hl
  rw [Array.length_toList]; exact h t ht
theorem arr_cat (l m : List UInt8) : (⟨l.toArray⟩ : ByteArray) ++ ⟨m.toArray⟩ = ⟨(l ++ m).toArray⟩ := by
  apply ByteArray.ext
  rw [ByteArray.data_append]
  simp
theorem ext_toList (t : ByteArray) (k : Nat) : (t.extract k t.size).data.toList = t.data.toList.drop k := by
  rw [ByteArray.data_extract, Array.toList_extract, List.extract_eq_take_drop, List.take_of_length_le]
  rw [List.length_drop, Array.length_toList]
  exact Nat.le_refl _
/-- A text by its bytes. -/
def mk (l : List UInt8) : ByteArray := ⟨l.toArray⟩
theorem mk_bytes (t : ByteArray) : mk t.data.toList = t := by cases t; simp [mk]
theorem mk_list (l : List UInt8) : (mk l).data.toList = l := by simp [mk]
theorem mk_size (l : List UInt8) : (mk l).size = l.length := by simp [mk, ByteArray.size]
theorem tail_bytes (t : ByteArray) (m : Nat) : ((⟨(Um.uv (t.extract m t.size).size).toArray⟩ : ByteArray) ++ t.extract m t.size).data.toList = Um.txt (t.data.toList.drop m) := by
  rw [ByteArray.data_append, Array.toList_append, ext_toList]
  unfold Um.txt
  rw [← ext_toList t m, Array.length_toList]
  rfl
theorem bys_take_le {ts : List ByteArray} {p i : Nat} (h : ∀ j (h : j < ts.length), j < p → ts[j].size ≤ 100) (hi : i ≤ p) : ∀ s ∈ (bys ts).take i, s.length ≤ 100 := fun s hs => by
  obtain ⟨j, hj, rfl⟩ := List.getElem_of_mem hs
  rw [List.length_take, bys_len] at hj
  rw [List.getElem_take, bys_at ts j (by omega), Array.length_toList]
  exact h j (by omega) (by omega)
end Go.Proofs.YtmhkpnmifhfboaaGreatDoor

namespace Go.Proofs.YtmhkpnmifhfboaaGreatDoor
theorem Tryz.infoS : (Tryz.prog.info? 9).map (fun i => (i.zero, i.size, i.bytes)) = some (some (.string ⟨#[]⟩), 1, 16) := by kernel_rfl
end Go.Proofs.YtmhkpnmifhfboaaGreatDoor
