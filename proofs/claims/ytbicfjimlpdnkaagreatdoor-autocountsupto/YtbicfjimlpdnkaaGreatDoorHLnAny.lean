/-
  The closed fact of stage 8's laws: one leaf alone goes to the end.
-/
import Derived.Test.YtbicfjimlpdnkaaGreatDoorHBAutoK
import Derived.Test.YtbicfjimlpdnkaaGreatDoorHSameLies
import Derived.Test.YtbicfjimlpdnkaaGreatDoorHBChkD
namespace Go.Proofs.YtbicfjimlpdnkaaGreatDoor
open Go.RowKit
def lnX : Tr := .node 1 ⟨#[97]⟩ 1 1 []
def lnT : Tr := .node 0 ⟨#[114, 111, 111, 116]⟩ 1 0 [lnX]
theorem ln_sm : lnT.Sm := by
  refine .mk _ _ _ _ _ (by omega) (by decide) (by decide) (fun j h => ?_)
  obtain rfl : j = 0 := by simp at h; omega
  exact .mk _ _ _ _ _ (by omega) (by decide) (by decide) (fun j h => absurd h (by simp))
theorem ln_dp : lnT.Dp 2 := by
  refine .mk 1 _ _ _ _ _ (fun j h => ?_)
  obtain rfl : j = 0 := by simp at h; omega
  exact .mk 0 _ _ _ _ _ (fun j h => absurd h (by simp))
theorem ln_right : vldN lnT = 0 := by decide +kernel
theorem ln_ls : lsT [] lnT = [[]] := by simp [lsT, lsL, lnT, lnX]
theorem ln_next : (List.range (lsT [] lnT).length).map (nxtR (lsT [] lnT)) = [[1]] := by rw [ln_ls]; decide
set_option maxRecDepth 100000 in
set_option maxHeartbeats 3200000 in
/-- The law's closed fact. -/
theorem line_any (W : World) (eb es en : TypeId × Value) (he : Er3 W eb es en) :
    Calls Tryz.prog 4 #[] W fun e w' => e = .returned (.bool true) ∧ Below W.heap.size W w' := by
  obtain ⟨w0, HW0, HX, HY, HB⟩ := two_boxesS W #[.int .i64 1, .string ⟨#[97]⟩, .int .i64 1, .int .i64 1, .slice none 0 0] #[.int .i64 0, .string ⟨#[114, 111, 111, 116]⟩, .int .i64 1, .int .i64 0, .slice (some ⟨W.heap.size, 0, none⟩) 1 1] 24 24
  have hl : LiesN w0 (fun _ => True) (some ⟨W.heap.size, 0, none⟩) lnT.sub := by
    obtain ⟨⟨c0, c1, c2, c3, c4⟩, _⟩ := row_five HX.out
    refine ⟨fun _ => [.int .i64 1, .string ⟨#[97]⟩, .int .i64 1, .int .i64 1, .slice none 0 0], fun j hj => ?_, fun j hj => ?_⟩
    · obtain rfl : j = 0 := by simp [lnT, Tr.sub] at hj; omega
      exact ⟨W.heap.size, 0, _, _, _, _, _, rfl, trivial, rfl, c0, c1, c2, c3, c4⟩
    · obtain rfl : j = 0 := by simp [lnT, Tr.sub] at hj; omega
      exact .mk 1 ⟨#[97]⟩ 1 1 [] none 0 (by simp) (fun _ => []) (fun j h => absurd h (by simp)) (fun j h => absurd h (by simp))
  have he0 := he.keep HB.out
  have HC : Hid (Calls Tryz.prog 12 #[.agg #[.int .i64 0, .string ⟨#[114, 111, 111, 116]⟩, .int .i64 1, .int .i64 0, .slice (some ⟨W.heap.size, 0, none⟩) 1 1]] w0 fun e w' => (∃ la lc, e = .returned (.tuple #[.agg #[.slice la 1 lc], .nilIface]) ∧ LstR w' la [[1]]) ∧ Below w0.heap.size w0 w') := (by
    have h := build_right lnT 2 ln_dp (by omega) ln_sm ln_right (by decide) (some ⟨W.heap.size, 0, none⟩) 1 _ w0 hl (by decide) eb es en he0.b he0.s he0.n
    rw [ln_next, ln_ls] at h
    exact h)
  obtain ⟨⟨p0, p1, p2, p3, p4⟩, _⟩ := row_five HY.out
  clear hl he he0
  go_enter Tryz.func4, Tryz.ntmps4
  go_wp2_with fail
  rw [HW0.out]
  refine Calls.mono HC.out ?_
  rintro e w1 ⟨⟨la, lc, rfl, hls⟩, hb1⟩
  have HB1 : Hid (Below W.heap.size W w1) := HB.out.trans (hb1.mono HB.out.size)
  obtain ⟨b, o, pa, pc, rfl, d0, hli, hm⟩ := hls 0 (by simp)
  clear hls hb1 p0 p1 p2 p3 p4
  obtain ⟨w2, HW2, HZ, HI, HB2⟩ := two_boxesS w1 #[.slice (some ⟨b, o, none⟩) 1 lc] #[.int .i64 1] 46 3
  have HS : Hid (Calls Tryz.prog 13 #[.slice pa 1 pc, .slice (some ⟨w1.heap.size + 1, 0, none⟩) 1 1] w2 fun e w' => e = .returned (.bool true) ∧ Below w2.heap.size w2 w') := sameInts_lies w2 pa _ pc 1 [1] [1] (by unfold maxLen; simp) (hli.1.keep HB2.out) (fun j hj => by
    obtain rfl : j = 0 := by simpa [i64s] using hj
    exact ⟨_, 0, rfl, by simp [World.cell?, HI.out, i64s]⟩) (by simp)
  have e0 : ∀ ob, (w1.alloc ob).cell? ⟨b, o, none⟩ = some (.slice pa 1 pc) := fun ob => (((Below.refl w1.heap.size w1).alloc (Nat.le_refl _) ob).cell (World.block_lt_of_cell? w1 _ d0)).trans d0
  clear hli hm
  go_wp2_with fail
  rw [HW2.out]
  refine Calls.mono HS.out ?_
  rintro e w3 ⟨rfl, hb3⟩
  have HB3 : Hid (Below W.heap.size W w3) := (HB1.out.trans (HB2.out.mono HB1.out.size)).trans (hb3.mono (HB1.out.trans (HB2.out.mono HB1.out.size)).size)
  clear hb3
  go_wp2
  go_ret
  exact ⟨rfl, HB3.out⟩
end Go.Proofs.YtbicfjimlpdnkaaGreatDoor
