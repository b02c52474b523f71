/-
  The walk of the law EncLess.
-/
import Derived.Test.YtjpdghpkbpdmeabDoorBFour
import Derived.Test.YtjpdghpkbpdmeabDoorBLess
import Derived.Deep.RegionHeld3
namespace Go.Proofs.YtjpdghpkbpdmeabDoor
open Go.RowKit
theorem below_tr' {B : Nat} {w1 W W' : World} (h : Below B w1 W) (hB : B ≤ w1.heap.size) (hb : Below W.heap.size W W') : Below B w1 W' := h.trans (hb.mono (Nat.le_trans hB h.size))
set_option maxRecDepth 100000 in
set_option maxHeartbeats 1600000 in
theorem encLess_walk (k1 n1 : Int) (s1 : ByteArray) (k2 n2 : Int) (s2 : ByteArray) (w : World) (h1 : -9223372036854775808 ≤ n1) (h2 : -9223372036854775808 ≤ n2) (kt st : TypeId) (kp sp : Value) (hgk : w.cell? ⟨0, 0, none⟩ = some (.iface kt kp)) (hgs : w.cell? ⟨2, 0, none⟩ = some (.iface st sp)) :
    Calls Tryd.prog 3 #[.agg #[.int .i64 k1, .int .i64 n1, .string s1], .agg #[.int .i64 k2, .int .i64 n2, .string s2]] w fun e w' => e = .returned (.bool true) ∧ Below w.heap.size w w' := by
  have hb0 : Below w.heap.size w ((w.alloc (.cells #[.int .i64 k1, .int .i64 n1, .string s1] 23)).alloc (.cells #[.int .i64 k2, .int .i64 n2, .string s2] 23)) := ((Below.refl _ _).alloc (Nat.le_refl _) _).alloc (by simp) _
  have HK : Hid _ := (hb0.cell (World.block_lt_of_cell? w _ hgk)).trans hgk
  have HS : Hid _ := (hb0.cell (World.block_lt_of_cell? w _ hgs)).trans hgs
  have HA : Hid _ := heap_alloc2_old w (.cells #[.int .i64 k1, .int .i64 n1, .string s1] 23) (.cells #[.int .i64 k2, .int .i64 n2, .string s2] 23)
  have HB : Hid (((w.alloc (.cells #[.int .i64 k1, .int .i64 n1, .string s1] 23)).alloc (.cells #[.int .i64 k2, .int .i64 n2, .string s2] 23)).heap[w.heap.size + 1]? = some (.cells #[.int .i64 k2, .int .i64 n2, .string s2] 23)) := by
    have e : w.heap.size + 1 = (w.alloc (.cells #[.int .i64 k1, .int .i64 n1, .string s1] 23)).heap.size := by simp
    show _ = _
    rw [e]
    exact heap_alloc_new _ _
  clear hgk hgs
  go_enter Tryd.func3, Tryd.ntmps3
  go_wp2_with fail
  refine (four_any _ kt st kp sp HK.out HS.out).mono ?_
  rintro e w1 ⟨rfl, hb1⟩
  have hb01 := hb0.trans (hb1.mono hb0.size)
  have HA1 : Hid _ := blk_keep hb1 HA.out
  have HB1 : Hid _ := blk_keep hb1 HB.out
  clear HA HB HK HS
  go_wp2_with fail
  have b10 : Below w1.heap.size w1 w1 := Below.refl _ _
  have HN : Hid (∀ W, Below w1.heap.size w1 W → (W.cell? ⟨w.heap.size, 0, none⟩ = some (.int .i64 k1) ∧ W.cell? ⟨w.heap.size, 1, none⟩ = some (.int .i64 n1) ∧ W.cell? ⟨w.heap.size, 2, none⟩ = some (.string s1)) ∧ (W.cell? ⟨w.heap.size + 1, 0, none⟩ = some (.int .i64 k2) ∧ W.cell? ⟨w.heap.size + 1, 1, none⟩ = some (.int .i64 n2) ∧ W.cell? ⟨w.heap.size + 1, 2, none⟩ = some (.string s2)) ∧ Below w1.heap.size w1 W) :=
    fun W hW => ⟨row_three (blk_keep hW HA1.out), row_three (blk_keep hW HB1.out), hW⟩
  obtain ⟨⟨ca0, ca1, ca2⟩, ⟨cb0, cb1, cb2⟩, _⟩ := HN.out w1 b10
  go_region_held3 (fun W => (W.cell? ⟨w.heap.size, 0, none⟩ = some (.int .i64 k1) ∧ W.cell? ⟨w.heap.size, 1, none⟩ = some (.int .i64 n1) ∧ W.cell? ⟨w.heap.size, 2, none⟩ = some (.string s1)) ∧ (W.cell? ⟨w.heap.size + 1, 0, none⟩ = some (.int .i64 k2) ∧ W.cell? ⟨w.heap.size + 1, 1, none⟩ = some (.int .i64 n2) ∧ W.cell? ⟨w.heap.size + 1, 2, none⟩ = some (.string s2)) ∧ Below w1.heap.size w1 W)
    (first | (refine HN.out _ ?_; assumption) | (refine HN.out _ ?_; exact b10.drew) | (refine HN.out _ (below_tr' ?_ (Nat.le_refl _) hb'); assumption) | (refine HN.out _ (below_tr' ?_ (Nat.le_refl _) hb'); exact b10.drew) | (refine HN.out _ (below_tr' ?_ (Nat.le_refl _) hb'); exact And.right (And.right (by assumption))))
    (first | (go_at_call 7; refine (less_any _ _ _ _ _ _ _ h1 h2).mono ?_; rintro e w' ⟨rfl, hb'⟩) | (go_at_call 8; refine (lessOf_any _ _ _ _ _ _ _ h1 h2).mono ?_; rintro e w' ⟨rfl, hb'⟩))
  all_goals
    obtain ⟨_, _, hbb⟩ := ‹_ ∧ _ ∧ Below w1.heap.size w1 _›
    go_wp2
    go_ret
    exact ⟨ret_b (by simp), hb01.trans (hbb.mono hb01.size)⟩
end Go.Proofs.YtjpdghpkbpdmeabDoor
