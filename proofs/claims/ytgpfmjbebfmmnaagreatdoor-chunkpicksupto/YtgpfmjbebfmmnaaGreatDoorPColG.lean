/-
  The reference's SameColumn.
-/
import Derived.Test.YtgpfmjbebfmmnaaGreatDoorPBColB
import Derived.Test.YtgpfmjbebfmmnaaGreatDoorPBSameInts
import Derived.Test.YtgpfmjbebfmmnaaGreatDoorPBSmall
import Derived.Test.YtgpfmjbebfmmnaaGreatDoorPBOwnN
import Derived.Deep.RegionHeld3
namespace Go.Proofs.YtgpfmjbebfmmnaaGreatDoor
open Go.RowKit
set_option maxRecDepth 100000 in
set_option maxHeartbeats 3200000 in
theorem sameColumn_any (i1 i2 : Int) (ra1 ra2 da1 da2 va1 va2 : Option Addr) (rc1 rc2 dc1 dc2 vc1 vc2 : Nat) (rs1 rs2 ds1 ds2 : List Int) (vs1 vs2 : List Vl) (W : World)
    (mr : rs1.length ≤ maxLen) (md : ds1.length ≤ maxLen) (mv : vs1.length ≤ maxLen)
    (hr1 : Lies W ra1 (i64s rs1)) (hr2 : Lies W ra2 (i64s rs2)) (hd1 : Lies W da1 (i64s ds1)) (hd2 : Lies W da2 (i64s ds2)) (hv1 : LiesV W va1 vs1) (hv2 : LiesV W va2 vs2) :
    Calls Tryz.prog 18 #[colV i1 ra1 rs1.length rc1 da1 ds1.length dc1 va1 vs1.length vc1, colV i2 ra2 rs2.length rc2 da2 ds2.length dc2 va2 vs2.length vc2] W fun e w' => RetSame e (i1 = i2 ∧ rs1 = rs2 ∧ ds1 = ds2 ∧ vs1 = vs2) ∧ Below W.heap.size W w' := by
 obtain ⟨b1, hq1⟩ : ∃ b, decide (rs1 = rs2) = b := ⟨_, rfl⟩
 obtain ⟨b2, hq2⟩ : ∃ b, decide (ds1 = ds2) = b := ⟨_, rfl⟩
 have hA : (W.alloc (.cells #[.int .i64 i1, .slice ra1 rs1.length rc1, .slice da1 ds1.length dc1, .slice va1 vs1.length vc1] 27)).heap[W.heap.size]? = some (.cells #[.int .i64 i1, .slice ra1 rs1.length rc1, .slice da1 ds1.length dc1, .slice va1 vs1.length vc1] 27 (0, 0)) := heap_alloc_new W _
 have hB := heap_alloc_new (W.alloc (.cells #[.int .i64 i1, .slice ra1 rs1.length rc1, .slice da1 ds1.length dc1, .slice va1 vs1.length vc1] 27)) (.cells #[.int .i64 i2, .slice ra2 rs2.length rc2, .slice da2 ds2.length dc2, .slice va2 vs2.length vc2] 27)
 rw [show (W.alloc (.cells #[.int .i64 i1, .slice ra1 rs1.length rc1, .slice da1 ds1.length dc1, .slice va1 vs1.length vc1] 27)).heap.size = W.heap.size + 1 by simp] at hB
 have HA : Hid _ := blk_alloc (o' := .cells #[.int .i64 i2, .slice ra2 rs2.length rc2, .slice da2 ds2.length dc2, .slice va2 vs2.length vc2] 27) hA
 have HB : Hid _ := hB
 have hb0 : Below W.heap.size W ((W.alloc (.cells #[.int .i64 i1, .slice ra1 rs1.length rc1, .slice da1 ds1.length dc1, .slice va1 vs1.length vc1] 27)).alloc (.cells #[.int .i64 i2, .slice ra2 rs2.length rc2, .slice da2 ds2.length dc2, .slice va2 vs2.length vc2] 27)) := ((Below.refl _ _).alloc (Nat.le_refl _) _).alloc (by simp) _
 clear hA hB
 have HB0 : Hid _ := hb0
 have HR1 : Hid (Lies ((W.alloc (.cells #[.int .i64 i1, .slice ra1 rs1.length rc1, .slice da1 ds1.length dc1, .slice va1 vs1.length vc1] 27)).alloc (.cells #[.int .i64 i2, .slice ra2 rs2.length rc2, .slice da2 ds2.length dc2, .slice va2 vs2.length vc2] 27)) ra1 (i64s rs1)) := hr1.keep hb0
 have HR2 : Hid (Lies ((W.alloc (.cells #[.int .i64 i1, .slice ra1 rs1.length rc1, .slice da1 ds1.length dc1, .slice va1 vs1.length vc1] 27)).alloc (.cells #[.int .i64 i2, .slice ra2 rs2.length rc2, .slice da2 ds2.length dc2, .slice va2 vs2.length vc2] 27)) ra2 (i64s rs2)) := hr2.keep hb0
 have HD1 : Hid (Lies ((W.alloc (.cells #[.int .i64 i1, .slice ra1 rs1.length rc1, .slice da1 ds1.length dc1, .slice va1 vs1.length vc1] 27)).alloc (.cells #[.int .i64 i2, .slice ra2 rs2.length rc2, .slice da2 ds2.length dc2, .slice va2 vs2.length vc2] 27)) da1 (i64s ds1)) := hd1.keep hb0
 have HD2 : Hid (Lies ((W.alloc (.cells #[.int .i64 i1, .slice ra1 rs1.length rc1, .slice da1 ds1.length dc1, .slice va1 vs1.length vc1] 27)).alloc (.cells #[.int .i64 i2, .slice ra2 rs2.length rc2, .slice da2 ds2.length dc2, .slice va2 vs2.length vc2] 27)) da2 (i64s ds2)) := hd2.keep hb0
 have HV1 : Hid (LiesV ((W.alloc (.cells #[.int .i64 i1, .slice ra1 rs1.length rc1, .slice da1 ds1.length dc1, .slice va1 vs1.length vc1] 27)).alloc (.cells #[.int .i64 i2, .slice ra2 rs2.length rc2, .slice da2 ds2.length dc2, .slice va2 vs2.length vc2] 27)) va1 vs1) := hv1.keep hb0
 have HV2 : Hid (LiesV ((W.alloc (.cells #[.int .i64 i1, .slice ra1 rs1.length rc1, .slice da1 ds1.length dc1, .slice va1 vs1.length vc1] 27)).alloc (.cells #[.int .i64 i2, .slice ra2 rs2.length rc2, .slice da2 ds2.length dc2, .slice va2 vs2.length vc2] 27)) va2 vs2) := hv2.keep hb0
 clear hb0 hr1 hr2 hd1 hd2 hv1 hv2
 have HM : Hid (rs1.length ≤ maxLen ∧ ds1.length ≤ maxLen ∧ vs1.length ≤ maxLen) := ⟨mr, md, mv⟩
 have HQ1 : Hid _ := hq1
 have HQ2 : Hid _ := hq2
 clear mr md mv hq1 hq2
 unfold colV
 by_cases hi : i1 = i2
 · subst hi
   have q0 : (i1 == i1) = true := by simp
   cases b1
   all_goals
    cases b2
    all_goals
     go_enter Tryz.func18, Tryz.ntmps18
     go_wp2_with fail
     refine (sameInts_lies _ ra1 ra2 rc1 rc2 rs1 rs2 HM.out.1 HR1.out HR2.out HQ1.out).mono ?_
     rintro e w1 ⟨rfl, hb1⟩
     obtain ⟨a0, a1, a2, a3⟩ := row_four (blk_keep hb1 HA.out)
     obtain ⟨c0, c1, c2, c3⟩ := row_four (blk_keep hb1 HB.out)
     have HB1 : Hid (Below W.heap.size W w1) := HB0.out.trans (hb1.mono HB0.out.size)
     first
      | (have HX : Hid (rs1 ≠ rs2) := of_decide_eq_false HQ1.out
         go_wp2
         go_ret
         exact ⟨⟨false, rfl, ⟨fun h => (by cases h), fun h => absurd h.2.1 HX.out⟩⟩, HB1.out⟩)
      | (have HX : Hid (rs1 = rs2) := (by show _ = _; exact of_decide_eq_true HQ1.out)
         have HA1 : Hid _ := blk_keep hb1 HA.out
         have HC1 : Hid _ := blk_keep hb1 HB.out
         have HD3 : Hid (Lies w1 da1 (i64s ds1)) := HD1.out.keep hb1
         have HD4 : Hid (Lies w1 da2 (i64s ds2)) := HD2.out.keep hb1
         have HV3 : Hid (LiesV w1 va1 vs1) := HV1.out.keep hb1
         have HV4 : Hid (LiesV w1 va2 vs2) := HV2.out.keep hb1
         clear hb1 HA HB HB0 HR1 HR2 HD1 HD2 HV1 HV2
         go_wp2_with fail
         refine (sameInts_lies _ da1 da2 dc1 dc2 ds1 ds2 HM.out.2.1 HD3.out HD4.out HQ2.out).mono ?_
         rintro e w2 ⟨rfl, hb2⟩
         clear a0 a1 a2 a3 c0 c1 c2 c3
         obtain ⟨a0, a1, a2, a3⟩ := row_four (blk_keep hb2 HA1.out)
         obtain ⟨c0, c1, c2, c3⟩ := row_four (blk_keep hb2 HC1.out)
         have HB2 : Hid (Below W.heap.size W w2) := HB1.out.trans (hb2.mono HB1.out.size)
         first
          | (have HY : Hid (ds1 ≠ ds2) := of_decide_eq_false HQ2.out
             go_wp2
             go_ret
             exact ⟨⟨false, rfl, ⟨fun h => (by cases h), fun h => absurd h.2.2.1 HY.out⟩⟩, HB2.out⟩)
          | (have HY : Hid (ds1 = ds2) := (by show _ = _; exact of_decide_eq_true HQ2.out)
             have HV5 : Hid (LiesV w2 va1 vs1) := HV3.out.keep hb2
             have HV6 : Hid (LiesV w2 va2 vs2) := HV4.out.keep hb2
             clear hb2 HA1 HC1 HD3 HD4 HV3 HV4
             go_wp2_with fail
             refine (sameVs_any _ va1 va2 vc1 vc2 vs1 vs2 HM.out.2.2 HV5.out HV6.out).mono ?_
             rintro e w3 ⟨⟨b3, rfl, hb3⟩, hbw⟩
             have HE : Hid (b3 = true ↔ vs1 = vs2) := hb3
             have HB3 : Hid (Below W.heap.size W w3) := HB2.out.trans (hbw.mono HB2.out.size)
             clear hb3 hbw a0 a1 a2 a3 c0 c1 c2 c3
             go_wp2
             go_ret
             exact ⟨⟨_, rfl, ⟨fun h => ⟨by first | trivial | rfl, HX.out, HY.out, HE.out.1 h⟩, fun h => HE.out.2 h.2.2.2⟩⟩, HB3.out⟩))
 · have q0 : (i1 == i2) = false := by simp [hi]
   have HI : Hid (¬ i1 = i2) := hi
   clear hi
   go_enter Tryz.func18, Tryz.ntmps18
   go_wp2
   go_ret
   exact ⟨⟨false, rfl, ⟨fun h => (by cases h), fun h => absurd h.1 HI.out⟩⟩, HB0.out⟩
end Go.Proofs.YtgpfmjbebfmmnaaGreatDoor
