/-
  A disk's power; what is known of a disk.
-/
import Derived.Test.YtmpdkccmcnegkaaDoorIDkN
namespace Go.Proofs.YtmpdkccmcnegkaaDoor
open Go.RowKit Go.Maps
/-- What a disk holds. -/
structure DkSt where
  fs : List Fl
  done : Nat
  short : Bool
  left : Nat
  quota : Nat
/-- How many of so many steps are done. -/
def DkSt.k (s : DkSt) (n : Nat) : Nat := if s.short then min n s.left else n
def DkSt.spend (s : DkSt) (n : Nat) : DkSt := { s with done := s.done + s.k n, left := if s.short then s.left - s.k n else s.left }
theorem DkSt.k_le (s : DkSt) (n : Nat) : s.k n ≤ n := by unfold DkSt.k; split <;> omega
structure StOk (s : DkSt) : Prop where
  srt : Srt s.fs
  len : s.fs.length ≤ 40
  each : ∀ p ∈ s.fs, 1 ≤ p.2.size ∧ p.1.size ≤ 12
  used : fUsed s.fs ≤ s.quota
  quo : s.quota ≤ 500000
  lft : s.left ≤ 9223372036854775807
theorem StOk.spend {s : DkSt} (h : StOk s) (n : Nat) : StOk (s.spend n) := ⟨h.srt, h.len, h.each, h.used, h.quo, by have := h.lft; simp only [DkSt.spend]; split <;> omega⟩
abbrev dkBox (dn : Nat) (sh : Bool) (ld : Int) (q : Nat) (mb : Nat) : Array Value := #[.int .i64 dn, .bool sh, .int .i64 ld, .int .i64 q, .map (some mb)]
/-- A disk in memory. -/
structure DkAt (w : World) (P : Nat → Prop) (db : Nat) (s : DkSt) : Prop where
  box : ∃ mb ld, w.heap[db]? = some (.cells (dkBox s.done s.short ld s.quota mb) 51 (0, 0)) ∧ (s.short = true → ld = s.left) ∧ ∃ D vf, FM w P mb s.fs D vf
  dbP : P db
  lt : ∀ k, P k → k < w.heap.size
  ok : StOk s
theorem row5 {w : World} {g e : Nat} {x0 x1 x2 x3 x4 : Value} (h : w.heap[g]? = some (.cells #[x0, x1, x2, x3, x4] e (0, 0))) :
    (w.cell? ⟨g, 0, none⟩ = some x0 ∧ w.cell? ⟨g, 1, none⟩ = some x1 ∧ w.cell? ⟨g, 2, none⟩ = some x2 ∧ w.cell? ⟨g, 3, none⟩ = some x3 ∧ w.cell? ⟨g, 4, none⟩ = some x4) ∧ w.frozen? ⟨g, 0, none⟩ = false ∧ w.frozen? ⟨g, 1, none⟩ = false ∧ w.frozen? ⟨g, 2, none⟩ = false ∧ w.frozen? ⟨g, 3, none⟩ = false ∧ w.frozen? ⟨g, 4, none⟩ = false := by
  refine ⟨⟨cell_of_row w g 0 _ e _ h, cell_of_row w g 1 _ e _ h, cell_of_row w g 2 _ e _ h, cell_of_row w g 3 _ e _ h, cell_of_row w g 4 _ e _ h⟩, ?_⟩
  simp [World.frozen?, h]
theorem setRow {w : World} {g j : Nat} {cs : Array Value} {t : TypeId} (h : w.heap[g]? = some (.cells cs t (0, 0))) (v : Value) : (w.setCell ⟨g, j, none⟩ v).heap[g]? = some (.cells (cs.setIfInBounds j v) t (0, 0)) := by
  simp [World.setCell, Array.getElem?_modify, h]
theorem grown_set {w w' : World} {g j : Nat} (h : w.grownBy w' (some g)) (v : Value) : w.grownBy (w'.setCell ⟨g, j, none⟩ v) (some g) :=
  ⟨h.os, h.tape, h.output, by simpa using h.size, fun k hk hn => (Below.heap_setCell w' ⟨g, j, none⟩ v k (fun e => hn (by rw [e]))).trans (h.block k hk hn)⟩
theorem grown_rfl (w : World) (r : Option Nat) : w.grownBy w r := ⟨rfl, rfl, rfl, Nat.le_refl _, fun _ _ _ => rfl⟩
/-- Behind a step of the power: the disk's box alone has turned. -/
structure BoxR (W : World) (db : Nat) (cs : Array Value) (w' : World) : Prop where
  box : w'.heap[db]? = some (.cells cs 51 (0, 0))
  grown : W.grownBy w' (some db)
  size : w'.heap.size = W.heap.size
set_option maxRecDepth 100000 in
set_option maxHeartbeats 1600000 in
theorem spend_any (db dn q mb n left : Nat) (sh : Bool) (ld : Int) (W : World) (hb : W.heap[db]? = some (.cells (dkBox dn sh ld q mb) 51 (0, 0))) (hl : sh = true → ld = left) (hn : n ≤ 1000000) (hd : dn ≤ 1000000000) (hll : left ≤ 9223372036854775807) :
    Calls Tryd.prog 35 #[.pointer (some ⟨db, 0, none⟩), .int .i64 n] W fun e w' => e = .returned (.int .i64 ((if sh then min n left else n : Nat) : Int)) ∧
      BoxR W db (dkBox (dn + (if sh then min n left else n)) sh (if sh then ((left - min n left : Nat) : Int) else ld) q mb) w' := by
  obtain ⟨⟨p0, p1, p2, p3, p4⟩, f0, f1, f2, f3, f4⟩ := row5 hb
  have HB : Hid (W.heap[db]? = some (.cells (dkBox dn sh ld q mb) 51 (0, 0))) := hb
  clear hb
  cases sh with
  | false =>
    clear hl
    go_enter Tryd.func35, Tryd.ntmps35
    go_wp2
    go_ret
    refine ⟨rfl, ?_, grown_set (grown_rfl _ _) _, by simp⟩
    have := setRow (j := 0) HB.out (.int .i64 ((dn + n : Nat) : Int))
    simpa [dkBox] using this
  | true =>
    obtain rfl := hl rfl
    clear hl
    by_cases hnl : n ≤ left
    · have HM : Hid (min n left = n) := Nat.min_eq_left hnl
      rw [HM.out]
      go_enter Tryd.func35, Tryd.ntmps35
      go_wp2
      go_ret
      refine ⟨rfl, ?_, grown_set (grown_set (grown_rfl _ _) _) _, by simp⟩
      have := setRow (j := 0) (setRow (j := 2) HB.out (.int .i64 ((left : Int) - (n : Int)))) (.int .i64 ((dn : Int) + (n : Int)))
      rw [show ((left - n : Nat) : Int) = (left : Int) - (n : Int) by omega]
      simpa [dkBox] using this
    · have HM : Hid (min n left = left) := Nat.min_eq_right (by omega)
      rw [HM.out]
      go_enter Tryd.func35, Tryd.ntmps35
      go_wp2
      go_ret
      refine ⟨rfl, ?_, grown_set (grown_set (grown_rfl _ _) _) _, by simp⟩
      have := setRow (j := 0) (setRow (j := 2) HB.out (.int .i64 (0 : Int))) (.int .i64 ((dn : Int) + (left : Int)))
      simpa [dkBox] using this
end Go.Proofs.YtmpdkccmcnegkaaDoor
