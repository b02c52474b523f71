/-
  The walk of the law WireTwice.
-/
import Derived.Test.YtfdcadlhapcddabDoorRd2
import Derived.Test.YtfdcadlhapcddabDoorWVarint
import Derived.Test.YtfdcadlhapcddabDoorSent
import Derived.OpenShut
namespace Go.Proofs.YtfdcadlhapcddabDoor
open Go.RowKit
theorem data_app (l : List UInt8) (b : ByteArray) : ((⟨l.toArray⟩ : ByteArray) ++ b).data.toList = l ++ b.data.toList := by simp
theorem size_app (l : List UInt8) (b : ByteArray) : ((⟨l.toArray⟩ : ByteArray) ++ b).size = l.length + b.size := by
  rw [ByteArray.size_append]; rfl
theorem cell_keep {w w1 : World} {g : Nat} {ev : Value} (hg : w.cell? ⟨g, 0, none⟩ = some ev) (hb : Below w.heap.size w w1) : w1.cell? ⟨g, 0, none⟩ = some ev :=
  (hb.cell (World.block_lt_of_cell? w _ hg)).trans hg
theorem rd_app (n : Nat) (b : ByteArray) (h : n < 18446744073709551616) : Um.rdv ((⟨(Um.uv n).toArray⟩ : ByteArray) ++ b).data.toList 0 0 = (n, (Um.uv n).length) := by
  rw [data_app]; exact Um.rdv_whole n _ h
theorem rd_app2 (a b : ByteArray) (h : a.size < 18446744073709551616) : Um.rdv ((⟨(Um.uv a.size).toArray⟩ : ByteArray) ++ a ++ b).data.toList 0 0 = (a.size, (Um.uv a.size).length) := by
  have e : ((⟨(Um.uv a.size).toArray⟩ : ByteArray) ++ a ++ b).data.toList = Um.uv a.size ++ (a.data.toList ++ b.data.toList) := by simp
  rw [e]; exact Um.rdv_whole _ _ h
/-- What is cut out of a written text with whatever behind it is the text. -/
theorem cut_text (a b : ByteArray) : ((⟨(Um.uv a.size).toArray⟩ : ByteArray) ++ a ++ b).extract (Um.uv a.size).length ((Um.uv a.size).length + a.size) = a := by
  rw [Lib.extract_eq]
  apply ByteArray.ext
  simp only [ByteArray.data_append, Array.toList_append]
  rw [show (Um.uv a.size).length + a.size - (Um.uv a.size).length = a.size by omega, List.append_assoc, List.drop_left']
  · rw [List.take_left' (by simp)]
  · simp
set_option maxHeartbeats 1000000 in
theorem twice_main (u : Nat) (n : Int) (a b : ByteArray) (w : World) (ev : Value) (hg : w.cell? ⟨0, 0, none⟩ = some ev) (hu : u < 18446744073709551616) (h1 : -9223372036854775808 ≤ n) (h2 : n ≤ 9223372036854775807) (ha : a.size ≤ 2000) (hb : b.size ≤ 1000) :
    Calls Tryd.prog 3 #[.int .u64 u, .int .i64 n, .string a, .string b] w fun e w' => e = .returned (.bool true) ∧ Below w.heap.size w w' := by
  have hd1 : decide (2000 < (a.size : Int)) = false := by simp; omega
  have hd2 : decide (1000 < (b.size : Int)) = false := by simp; omega
  have lu := Um.uv_ten hu
  have pu := Um.uv_pos u
  have lz := Um.uv_ten (zig_lt h1 h2)
  have pz := Um.uv_pos (zig n)
  have la := Um.uv_ten (n := a.size) (by omega)
  have pa := Um.uv_pos a.size
  go_enter Tryd.func3, Tryd.ntmps3
  go_wp2_with fail
  refine (three_any _).mono ?_
  rintro e w1 ⟨rfl, hb1⟩
  go_wp2_with fail
  refine (uvarint_any u _ hu).mono ?_
  rintro e w2 ⟨rfl, hb2⟩
  have k2 := hb1.trans (hb2.mono hb1.size)
  go_wp2_with fail
  refine (readU_hit _ _ ev u (Um.uv u).length (by rw [size_app]; unfold maxLen; omega) (cell_keep hg k2) (rd_app u b hu) pu).mono ?_
  rintro e w3 ⟨rfl, hb3⟩
  have k3 := k2.trans (hb3.mono k2.size)
  clear hb1 hb2 hb3 k2
  go_wp2_with fail
  refine (varint_any n _ h1 h2).mono ?_
  rintro e w4 ⟨rfl, hb4⟩
  have k4 := k3.trans (hb4.mono k3.size)
  go_wp2_with fail
  refine (readV_hit _ _ ev (zig n) (Um.uv (zig n)).length (by rw [size_app]; unfold maxLen; omega) (cell_keep hg k4) (rd_app _ b (zig_lt h1 h2)) pz).mono ?_
  rw [unz_zig]
  rintro e w5 ⟨rfl, hb5⟩
  have k5 := k4.trans (hb5.mono k4.size)
  clear hb4 hb5 k3 k4
  go_wp2_with fail
  refine (text_any a _ (by omega)).mono ?_
  rintro e w6 ⟨rfl, hb6⟩
  have k6 := k5.trans (hb6.mono k5.size)
  go_wp2_with fail
  refine (readT_hit _ _ ev a.size (Um.uv a.size).length (by rw [ByteArray.size_append, size_app]; omega) (cell_keep hg k6) (rd_app2 a b (by omega)) pa (by omega) (by rw [ByteArray.size_append, size_app]; omega)).mono ?_
  rw [cut_text]
  rintro e w7 ⟨rfl, hb7⟩
  have k7 := k6.trans (hb7.mono k6.size)
  clear hb6 hb7 k5 k6
  go_wp2
  go_ret
  exact ⟨rfl, k7⟩
set_option maxHeartbeats 1000000 in
theorem twice_none (u n : Int) (a b : ByteArray) (w : World) (ha : a.size ≤ maxLen) (hb : b.size ≤ maxLen) (h : 2000 < a.size ∨ 1000 < b.size) :
    Calls Tryd.prog 3 #[.int .u64 u, .int .i64 n, .string a, .string b] w fun e w' => e = .returned (.bool true) ∧ Below w.heap.size w w' := by
  unfold maxLen at ha hb
  by_cases h1 : 2000 < a.size
  · have hd1 : decide (2000 < (a.size : Int)) = true := by simp; omega
    clear h
    go_enter Tryd.func3, Tryd.ntmps3
    go_wp2_with (go_at_call 4; refine (three_any _).mono ?_; rintro e w1 ⟨rfl, hb1⟩)
    go_ret
    exact ⟨rfl, hb1⟩
  · have hd1 : decide (2000 < (a.size : Int)) = false := by simp; omega
    have hd2 : decide (1000 < (b.size : Int)) = true := by simp; omega
    clear h
    go_enter Tryd.func3, Tryd.ntmps3
    go_wp2_with (go_at_call 4; refine (three_any _).mono ?_; rintro e w1 ⟨rfl, hb1⟩)
    go_ret
    exact ⟨rfl, hb1⟩
theorem Tryd.gText : Tryd.prog.globalNamed "shredcol/api.ErrText" = some 0 := by kernel_rfl
theorem Tryd.gTextType : (Tryd.prog.globals[0]?).map (·.type) = some 26 := by kernel_rfl
theorem wireTwice_walk (u n : Int) (a b : ByteArray) (w : World) (hu : (Lit.int .u64 u).wf = true) (hn : (Lit.int .i64 n).wf = true) (ha : a.size ≤ maxLen) (hb : b.size ≤ maxLen) (hL : laidMetH Tryd.prog Rows.wireTwiceRow.laid w) :
    Calls Tryd.prog 3 #[.int .u64 u, .int .i64 n, .string a, .string b] w fun e w' => e = .returned (.bool true) ∧ Below w.heap.size w w' := by
  by_cases h : 2000 < a.size ∨ 1000 < b.size
  · exact twice_none u n a b w ha hb h
  · have hub := bounds_u64 hu
    have hnb := bounds_i64 hn
    obtain ⟨v, rfl⟩ := Int.eq_ofNat_of_zero_le hub.1
    have hL' : laidMet Tryd.prog Rows.wireTwiceRow.laid w := hL
    obtain ⟨p, hp⟩ := sent_of Tryd.gText Tryd.gTextType _ (List.mem_singleton.2 rfl) hL'
    exact twice_main v n a b w _ hp.var (by omega) hnb.1 hnb.2 (by omega) (by omega)
end Go.Proofs.YtfdcadlhapcddabDoor
