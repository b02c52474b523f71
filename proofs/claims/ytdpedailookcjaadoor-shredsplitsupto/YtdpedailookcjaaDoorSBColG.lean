/-
  The reference's SameColumn.
  The law's twins: two elements of a list have the levels 0 and 1.
-/
import Derived.Test.YtdpedailookcjaaDoorSBWriter
import Derived.Test.YtdpedailookcjaaDoorSSameInts
import Derived.Test.YtdpedailookcjaaDoorSBSmall
import Derived.Test.YtdpedailookcjaaDoorSBRow4
import Derived.Test.YtdpedailookcjaaDoorSSameLies
import Derived.Deep.RegionHeld3
import Derived.Test.YtdpedailookcjaaDoorSBColDf
namespace Go.Proofs.YtdpedailookcjaaDoor
open Go.RowKit
set_option maxRecDepth 100000 in
set_option maxHeartbeats 3200000 in
theorem sameColumn_any (i1 i2 : Int) (ra1 ra2 da1 da2 va1 va2 : Option Addr) (rc1 rc2 dc1 dc2 vc1 vc2 : Nat) (rs1 rs2 ds1 ds2 : List Int) (vs1 vs2 : List Vl) (W : World)
    (mr : rs1.length ≤ maxLen) (md : ds1.length ≤ maxLen) (mv : vs1.length ≤ maxLen)
    (hr1 : Lies W ra1 (i64s rs1)) (hr2 : Lies W ra2 (i64s rs2)) (hd1 : Lies W da1 (i64s ds1)) (hd2 : Lies W da2 (i64s ds2)) (hv1 : LiesV W va1 vs1) (hv2 : LiesV W va2 vs2) :
    Calls Tryd.prog 13 #[colV i1 ra1 rs1.length rc1 da1 ds1.length dc1 va1 vs1.length vc1, colV i2 ra2 rs2.length rc2 da2 ds2.length dc2 va2 vs2.length vc2] W fun e w' => RetSame e (i1 = i2 ∧ rs1 = rs2 ∧ ds1 = ds2 ∧ vs1 = vs2) ∧ Below W.heap.size W w' := by
  obtain ⟨b1, hq1⟩ : ∃ b, decide (rs1 = rs2) = b := ⟨_, rfl⟩
  obtain ⟨b2, hq2⟩ : ∃ b, decide (ds1 = ds2) = b := ⟨_, rfl⟩
  have hA : (W.alloc (.cells #[.int .i64 i1, .slice ra1 rs1.length rc1, .slice da1 ds1.length dc1, .slice va1 vs1.length vc1] 41)).heap[W.heap.size]? = some (.cells #[.int .i64 i1, .slice ra1 rs1.length rc1, .slice da1 ds1.length dc1, .slice va1 vs1.length vc1] 41 (0, 0)) := heap_alloc_new W _
  have hB := heap_alloc_new (W.alloc (.cells #[.int .i64 i1, .slice ra1 rs1.length rc1, .slice da1 ds1.length dc1, .slice va1 vs1.length vc1] 41)) (.cells #[.int .i64 i2, .slice ra2 rs2.length rc2, .slice da2 ds2.length dc2, .slice va2 vs2.length vc2] 41)
  rw [show (W.alloc (.cells #[.int .i64 i1, .slice ra1 rs1.length rc1, .slice da1 ds1.length dc1, .slice va1 vs1.length vc1] 41)).heap.size = W.heap.size + 1 by simp] at hB
  have HA : Hid _ := blk_alloc (o' := .cells #[.int .i64 i2, .slice ra2 rs2.length rc2, .slice da2 ds2.length dc2, .slice va2 vs2.length vc2] 41) hA
  have HB : Hid _ := hB
  have hb0 : Below W.heap.size W ((W.alloc (.cells #[.int .i64 i1, .slice ra1 rs1.length rc1, .slice da1 ds1.length dc1, .slice va1 vs1.length vc1] 41)).alloc (.cells #[.int .i64 i2, .slice ra2 rs2.length rc2, .slice da2 ds2.length dc2, .slice va2 vs2.length vc2] 41)) := ((Below.refl _ _).alloc (Nat.le_refl _) _).alloc (by simp) _
  clear hA hB
  have HB0 : Hid _ := hb0
  have HR1 : Hid (Lies ((W.alloc (.cells #[.int .i64 i1, .slice ra1 rs1.length rc1, .slice da1 ds1.length dc1, .slice va1 vs1.length vc1] 41)).alloc (.cells #[.int .i64 i2, .slice ra2 rs2.length rc2, .slice da2 ds2.length dc2, .slice va2 vs2.length vc2] 41)) ra1 (i64s rs1)) := hr1.keep hb0
  have HR2 : Hid (Lies ((W.alloc (.cells #[.int .i64 i1, .slice ra1 rs1.length rc1, .slice da1 ds1.length dc1, .slice va1 vs1.length vc1] 41)).alloc (.cells #[.int .i64 i2, .slice ra2 rs2.length rc2, .slice da2 ds2.length dc2, .slice va2 vs2.length vc2] 41)) ra2 (i64s rs2)) := hr2.keep hb0
  have HD1 : Hid (Lies ((W.alloc (.cells #[.int .i64 i1, .slice ra1 rs1.length rc1, .slice da1 ds1.length dc1, .slice va1 vs1.length vc1] 41)).alloc (.cells #[.int .i64 i2, .slice ra2 rs2.length rc2, .slice da2 ds2.length dc2, .slice va2 vs2.length vc2] 41)) da1 (i64s ds1)) := hd1.keep hb0
  have HD2 : Hid (Lies ((W.alloc (.cells #[.int .i64 i1, .slice ra1 rs1.length rc1, .slice da1 ds1.length dc1, .slice va1 vs1.length vc1] 41)).alloc (.cells #[.int .i64 i2, .slice ra2 rs2.length rc2, .slice da2 ds2.length dc2, .slice va2 vs2.length vc2] 41)) da2 (i64s ds2)) := hd2.keep hb0
  have HV1 : Hid (LiesV ((W.alloc (.cells #[.int .i64 i1, .slice ra1 rs1.length rc1, .slice da1 ds1.length dc1, .slice va1 vs1.length vc1] 41)).alloc (.cells #[.int .i64 i2, .slice ra2 rs2.length rc2, .slice da2 ds2.length dc2, .slice va2 vs2.length vc2] 41)) va1 vs1) := hv1.keep hb0
  have HV2 : Hid (LiesV ((W.alloc (.cells #[.int .i64 i1, .slice ra1 rs1.length rc1, .slice da1 ds1.length dc1, .slice va1 vs1.length vc1] 41)).alloc (.cells #[.int .i64 i2, .slice ra2 rs2.length rc2, .slice da2 ds2.length dc2, .slice va2 vs2.length vc2] 41)) va2 vs2) := hv2.keep hb0
  clear hb0 hr1 hr2 hd1 hd2 hv1 hv2
  have HM : Hid (rs1.length ≤ maxLen ∧ ds1.length ≤ maxLen ∧ vs1.length ≤ maxLen) := ⟨mr, md, mv⟩
  have HQ1 : Hid _ := hq1
  have HQ2 : Hid _ := hq2
  clear mr md mv hq1 hq2
  unfold colV
  by_cases hi : i1 = i2
  · subst hi
    have q0 : (i1 == i1) = true := by simp
    cases b1
    all_goals
      cases b2
      all_goals
        go_enter Tryd.func13, Tryd.ntmps13
        go_wp2_with fail
        refine (sameInts_lies _ ra1 ra2 rc1 rc2 rs1 rs2 HM.out.1 HR1.out HR2.out HQ1.out).mono ?_
        rintro e w1 ⟨rfl, hb1⟩
        obtain ⟨a0, a1, a2, a3⟩ := row_four (blk_keep hb1 HA.out)
        obtain ⟨c0, c1, c2, c3⟩ := row_four (blk_keep hb1 HB.out)
        have HB1 : Hid (Below W.heap.size W w1) := HB0.out.trans (hb1.mono HB0.out.size)
        first
          | (have HX : Hid (rs1 ≠ rs2) := of_decide_eq_false HQ1.out
             go_wp2
             go_ret
             exact ⟨⟨false, rfl, ⟨fun h => (by cases h), fun h => absurd h.2.1 HX.out⟩⟩, HB1.out⟩)
          | (have HX : Hid (rs1 = rs2) := (by show _ = _; exact of_decide_eq_true HQ1.out)
             have HA1 : Hid _ := blk_keep hb1 HA.out
             have HC1 : Hid _ := blk_keep hb1 HB.out
             have HD3 : Hid (Lies w1 da1 (i64s ds1)) := HD1.out.keep hb1
             have HD4 : Hid (Lies w1 da2 (i64s ds2)) := HD2.out.keep hb1
             have HV3 : Hid (LiesV w1 va1 vs1) := HV1.out.keep hb1
             have HV4 : Hid (LiesV w1 va2 vs2) := HV2.out.keep hb1
             clear hb1 HA HB HB0 HR1 HR2 HD1 HD2 HV1 HV2
             go_wp2_with fail
             refine (sameInts_lies _ da1 da2 dc1 dc2 ds1 ds2 HM.out.2.1 HD3.out HD4.out HQ2.out).mono ?_
             rintro e w2 ⟨rfl, hb2⟩
             clear a0 a1 a2 a3 c0 c1 c2 c3
             obtain ⟨a0, a1, a2, a3⟩ := row_four (blk_keep hb2 HA1.out)
             obtain ⟨c0, c1, c2, c3⟩ := row_four (blk_keep hb2 HC1.out)
             have HB2 : Hid (Below W.heap.size W w2) := HB1.out.trans (hb2.mono HB1.out.size)
             first
               | (have HY : Hid (ds1 ≠ ds2) := of_decide_eq_false HQ2.out
                  go_wp2
                  go_ret
                  exact ⟨⟨false, rfl, ⟨fun h => (by cases h), fun h => absurd h.2.2.1 HY.out⟩⟩, HB2.out⟩)
               | (have HY : Hid (ds1 = ds2) := (by show _ = _; exact of_decide_eq_true HQ2.out)
                  have HV5 : Hid (LiesV w2 va1 vs1) := HV3.out.keep hb2
                  have HV6 : Hid (LiesV w2 va2 vs2) := HV4.out.keep hb2
                  clear hb2 HA1 HC1 HD3 HD4 HV3 HV4
                  go_wp2_with fail
                  refine (sameVs_any _ va1 va2 vc1 vc2 vs1 vs2 HM.out.2.2 HV5.out HV6.out).mono ?_
                  rintro e w3 ⟨⟨b3, rfl, hb3⟩, hbw⟩
                  have HE : Hid (b3 = true ↔ vs1 = vs2) := hb3
                  have HB3 : Hid (Below W.heap.size W w3) := HB2.out.trans (hbw.mono HB2.out.size)
                  clear hb3 hbw a0 a1 a2 a3 c0 c1 c2 c3
                  go_wp2
                  go_ret
                  exact ⟨⟨_, rfl, ⟨fun h => ⟨by first | trivial | rfl, HX.out, HY.out, HE.out.1 h⟩, fun h => HE.out.2 h.2.2.2⟩⟩, HB3.out⟩))
  · have q0 : (i1 == i2) = false := by simp [hi]
    have HI : Hid (¬ i1 = i2) := hi
    clear hi
    go_enter Tryd.func13, Tryd.ntmps13
    go_wp2
    go_ret
    exact ⟨⟨false, rfl, ⟨fun h => (by cases h), fun h => absurd h.1 HI.out⟩⟩, HB0.out⟩
end Go.Proofs.YtdpedailookcjaaDoor

namespace Go.Proofs.YtdpedailookcjaaDoor
open Go.RowKit
theorem ints_of_row {w : World} {N n : Nat} {v : Value} {xs : List Int} (h : w.ownsRow N 3 1 v n (i64s xs)) (hn : n = xs.length) : IntsAt w v xs := by
  subst hn
  rcases h.2 with ⟨rfl, h0⟩ | ⟨g, cap, cur, rfl, _⟩
  · exact .inl ⟨rfl, List.eq_nil_of_length_eq_zero h0⟩
  · refine .inr ⟨g, 0, cap, rfl, fun j hj => ?_⟩
    have h1 := h.cells (g := g) rfl j (.int .i64 xs[j]) (by simp [i64s, hj])
    rw [addr_plus] at h1
    exact h1
theorem liesD_nil (w : World) (P : Nat → Prop) (a : Option Addr) : LiesD w P a [] := ⟨fun _ => [], fun j hj => absurd hj (by simp), fun j hj => absurd hj (by simp)⟩
theorem liesD_one {w : World} {P : Nat → Prop} {b e : Nat} {x0 x1 x2 x3 x4 x5 : Value} {d : Dt} (h : w.heap[b]? = some (.cells #[x0, x1, x2, x3, x4, x5] e (0, 0))) (hP : P b) (hc : DtC w P d [x0, x1, x2, x3, x4, x5]) : LiesD w P (some ⟨b, 0, none⟩) [d] := by
  obtain ⟨c0, c1, c2, c3, c4, c5⟩ := row_six h
  refine ⟨fun _ => [x0, x1, x2, x3, x4, x5], fun j hj => ?_, fun j hj => ?_⟩
  · obtain rfl : j = 0 := by simp at hj; omega
    exact ⟨b, 0, x0, x1, x2, x3, x4, x5, rfl, hP, rfl, by simpa using c0, by simpa using c1, by simpa using c2, by simpa using c3, by simpa using c4, by simpa using c5⟩
  · obtain rfl : j = 0 := by simp at hj; omega
    exact hc
theorem liesD_two {w : World} {P : Nat → Prop} {b e : Nat} {x0 x1 x2 x3 x4 x5 : Value} {d : Dt} (h : w.heap[b]? = some (.cells #[x0, x1, x2, x3, x4, x5, x0, x1, x2, x3, x4, x5] e (0, 0))) (hP : P b) (hc : DtC w P d [x0, x1, x2, x3, x4, x5]) : LiesD w P (some ⟨b, 0, none⟩) [d, d] := by
  have cc : ∀ k u, (#[x0, x1, x2, x3, x4, x5, x0, x1, x2, x3, x4, x5] : Array Value)[k]? = some u → w.cell? ⟨b, k, none⟩ = some u := fun k u hu => by simp [World.cell?, h, hu]
  refine ⟨fun _ => [x0, x1, x2, x3, x4, x5], fun j hj => ?_, fun j hj => ?_⟩
  · have hj2 : j = 0 ∨ j = 1 := by simp at hj; omega
    rcases hj2 with rfl | rfl
    · exact ⟨b, 0, x0, x1, x2, x3, x4, x5, rfl, hP, rfl, cc 0 _ rfl, cc 1 _ rfl, cc 2 _ rfl, cc 3 _ rfl, cc 4 _ rfl, cc 5 _ rfl⟩
    · exact ⟨b, 0, x0, x1, x2, x3, x4, x5, rfl, hP, rfl, cc 6 _ rfl, cc 7 _ rfl, cc 8 _ rfl, cc 9 _ rfl, cc 10 _ rfl, cc 11 _ rfl⟩
  · have hj2 : j = 0 ∨ j = 1 := by simp at hj; omega
    rcases hj2 with rfl | rfl <;> exact hc
theorem tw_sm : twD.Sm := by
  have hv : twV.Sm := .mk _ _ _ _ (by decide) (by decide) (by decide) (fun j h => absurd h (by simp)) (fun j h => absurd h (by simp))
  refine .mk _ _ _ _ (by decide) (by decide) (by decide) (fun j h => absurd h (by simp)) (fun j h => ?_)
  obtain rfl : j = 0 := by simp at h; omega
  refine .mk _ _ _ _ (by decide) (by decide) (by decide) (fun j h => ?_) (fun j h => absurd h (by simp))
  have hj2 : j = 0 ∨ j = 1 := by simp at h; omega
  rcases hj2 with rfl | rfl <;> exact hv
theorem tw_smT : twT.Sm := by
  refine .mk _ _ _ _ _ (by omega) (by decide) (by decide) (fun j h => ?_)
  obtain rfl : j = 0 := by simp at h; omega
  exact .mk _ _ _ _ _ (by omega) (by decide) (by decide) (fun j h => absurd h (by simp))
theorem tw_dp : twT.Dp 2 := by
  refine .mk 1 _ _ _ _ _ (fun j h => ?_)
  obtain rfl : j = 0 := by simp at h; omega
  exact .mk 0 _ _ _ _ _ (fun j h => absurd h (by simp))
set_option maxRecDepth 100000 in
/-- Shred of the twins. -/
theorem tw_shred (eb es ek en : TypeId × Value) (W : World) (he : EC W eb es ek) (hen : W.cell? ⟨4, 0, none⟩ = some (.iface en.1 en.2)) :
    Calls Tryd.prog 7 #[.agg #[.int .i64 0, .string ⟨#[114, 111, 111, 116]⟩, .int .i64 1, .int .i64 0, .slice (some ⟨W.heap.size, 0, none⟩) 1 1], .slice (some ⟨W.heap.size + 1 + 1 + 1 + 1 + 1, 0, none⟩) 1 1] ((((((W.alloc (.cells #[.int .i64 1, .string ⟨#[97]⟩, .int .i64 3, .int .i64 1, .slice none 0 0] 24)).alloc (.cells #[.int .i64 0, .string ⟨#[114, 111, 111, 116]⟩, .int .i64 1, .int .i64 0, .slice (some ⟨W.heap.size, 0, none⟩) 1 1] 24)).alloc (.cells #[.bool false, .int .i64 1, .int .i64 0, .string ⟨#[]⟩, .slice none 0 0, .slice none 0 0] 55)).alloc (.cells #[.bool false, .int .i64 1, .int .i64 0, .string ⟨#[]⟩, .slice none 0 0, .slice none 0 0, .bool false, .int .i64 1, .int .i64 0, .string ⟨#[]⟩, .slice none 0 0, .slice none 0 0] 55)).alloc (.cells #[.bool false, .int .i64 0, .int .i64 0, .string ⟨#[]⟩, .slice (some ⟨W.heap.size + 1 + 1 + 1, 0, none⟩) 2 2, .slice none 0 0] 55)).alloc (.cells #[.bool false, .int .i64 0, .int .i64 0, .string ⟨#[]⟩, .slice none 0 0, .slice (some ⟨W.heap.size + 1 + 1 + 1 + 1, 0, none⟩) 1 1] 55)) fun e w' => (∃ ov, e = .returned (.tuple #[ov, .nilIface]) ∧ ColR w' W.heap.size ov [⟨1, [0, 1], [1, 1], [⟨1, 0, ⟨#[]⟩⟩, ⟨1, 0, ⟨#[]⟩⟩]⟩]) ∧ Below W.heap.size W w' := by
  have hb6 : Below W.heap.size W ((((((W.alloc (.cells #[.int .i64 1, .string ⟨#[97]⟩, .int .i64 3, .int .i64 1, .slice none 0 0] 24)).alloc (.cells #[.int .i64 0, .string ⟨#[114, 111, 111, 116]⟩, .int .i64 1, .int .i64 0, .slice (some ⟨W.heap.size, 0, none⟩) 1 1] 24)).alloc (.cells #[.bool false, .int .i64 1, .int .i64 0, .string ⟨#[]⟩, .slice none 0 0, .slice none 0 0] 55)).alloc (.cells #[.bool false, .int .i64 1, .int .i64 0, .string ⟨#[]⟩, .slice none 0 0, .slice none 0 0, .bool false, .int .i64 1, .int .i64 0, .string ⟨#[]⟩, .slice none 0 0, .slice none 0 0] 55)).alloc (.cells #[.bool false, .int .i64 0, .int .i64 0, .string ⟨#[]⟩, .slice (some ⟨W.heap.size + 1 + 1 + 1, 0, none⟩) 2 2, .slice none 0 0] 55)).alloc (.cells #[.bool false, .int .i64 0, .int .i64 0, .string ⟨#[]⟩, .slice none 0 0, .slice (some ⟨W.heap.size + 1 + 1 + 1 + 1, 0, none⟩) 1 1] 55)) := ((((((Below.refl _ _).alloc (Nat.le_refl _) _).alloc (by simp) _).alloc (by simp; omega) _).alloc (by simp; omega) _).alloc (by simp; omega) _).alloc (by simp; omega) _
  have k0 : ((((((W.alloc (.cells #[.int .i64 1, .string ⟨#[97]⟩, .int .i64 3, .int .i64 1, .slice none 0 0] 24)).alloc (.cells #[.int .i64 0, .string ⟨#[114, 111, 111, 116]⟩, .int .i64 1, .int .i64 0, .slice (some ⟨W.heap.size, 0, none⟩) 1 1] 24)).alloc (.cells #[.bool false, .int .i64 1, .int .i64 0, .string ⟨#[]⟩, .slice none 0 0, .slice none 0 0] 55)).alloc (.cells #[.bool false, .int .i64 1, .int .i64 0, .string ⟨#[]⟩, .slice none 0 0, .slice none 0 0, .bool false, .int .i64 1, .int .i64 0, .string ⟨#[]⟩, .slice none 0 0, .slice none 0 0] 55)).alloc (.cells #[.bool false, .int .i64 0, .int .i64 0, .string ⟨#[]⟩, .slice (some ⟨W.heap.size + 1 + 1 + 1, 0, none⟩) 2 2, .slice none 0 0] 55)).alloc (.cells #[.bool false, .int .i64 0, .int .i64 0, .string ⟨#[]⟩, .slice none 0 0, .slice (some ⟨W.heap.size + 1 + 1 + 1 + 1, 0, none⟩) 1 1] 55)).heap[W.heap.size]? = some (.cells #[.int .i64 1, .string ⟨#[97]⟩, .int .i64 3, .int .i64 1, .slice none 0 0] 24 (0, 0)) := blk_alloc (blk_alloc (blk_alloc (blk_alloc (blk_alloc (heap_alloc_new W _)))))
  have k3 : ((((((W.alloc (.cells #[.int .i64 1, .string ⟨#[97]⟩, .int .i64 3, .int .i64 1, .slice none 0 0] 24)).alloc (.cells #[.int .i64 0, .string ⟨#[114, 111, 111, 116]⟩, .int .i64 1, .int .i64 0, .slice (some ⟨W.heap.size, 0, none⟩) 1 1] 24)).alloc (.cells #[.bool false, .int .i64 1, .int .i64 0, .string ⟨#[]⟩, .slice none 0 0, .slice none 0 0] 55)).alloc (.cells #[.bool false, .int .i64 1, .int .i64 0, .string ⟨#[]⟩, .slice none 0 0, .slice none 0 0, .bool false, .int .i64 1, .int .i64 0, .string ⟨#[]⟩, .slice none 0 0, .slice none 0 0] 55)).alloc (.cells #[.bool false, .int .i64 0, .int .i64 0, .string ⟨#[]⟩, .slice (some ⟨W.heap.size + 1 + 1 + 1, 0, none⟩) 2 2, .slice none 0 0] 55)).alloc (.cells #[.bool false, .int .i64 0, .int .i64 0, .string ⟨#[]⟩, .slice none 0 0, .slice (some ⟨W.heap.size + 1 + 1 + 1 + 1, 0, none⟩) 1 1] 55)).heap[W.heap.size + 1 + 1 + 1]? = some (.cells #[.bool false, .int .i64 1, .int .i64 0, .string ⟨#[]⟩, .slice none 0 0, .slice none 0 0, .bool false, .int .i64 1, .int .i64 0, .string ⟨#[]⟩, .slice none 0 0, .slice none 0 0] 55 (0, 0)) := by
    have h := heap_alloc_new (((W.alloc (.cells #[.int .i64 1, .string ⟨#[97]⟩, .int .i64 3, .int .i64 1, .slice none 0 0] 24)).alloc (.cells #[.int .i64 0, .string ⟨#[114, 111, 111, 116]⟩, .int .i64 1, .int .i64 0, .slice (some ⟨W.heap.size, 0, none⟩) 1 1] 24)).alloc (.cells #[.bool false, .int .i64 1, .int .i64 0, .string ⟨#[]⟩, .slice none 0 0, .slice none 0 0] 55)) (.cells #[.bool false, .int .i64 1, .int .i64 0, .string ⟨#[]⟩, .slice none 0 0, .slice none 0 0, .bool false, .int .i64 1, .int .i64 0, .string ⟨#[]⟩, .slice none 0 0, .slice none 0 0] 55)
    rw [show (((W.alloc (.cells #[.int .i64 1, .string ⟨#[97]⟩, .int .i64 3, .int .i64 1, .slice none 0 0] 24)).alloc (.cells #[.int .i64 0, .string ⟨#[114, 111, 111, 116]⟩, .int .i64 1, .int .i64 0, .slice (some ⟨W.heap.size, 0, none⟩) 1 1] 24)).alloc (.cells #[.bool false, .int .i64 1, .int .i64 0, .string ⟨#[]⟩, .slice none 0 0, .slice none 0 0] 55)).heap.size = W.heap.size + 1 + 1 + 1 by simp] at h
    exact blk_alloc (blk_alloc h)
  have k4 : ((((((W.alloc (.cells #[.int .i64 1, .string ⟨#[97]⟩, .int .i64 3, .int .i64 1, .slice none 0 0] 24)).alloc (.cells #[.int .i64 0, .string ⟨#[114, 111, 111, 116]⟩, .int .i64 1, .int .i64 0, .slice (some ⟨W.heap.size, 0, none⟩) 1 1] 24)).alloc (.cells #[.bool false, .int .i64 1, .int .i64 0, .string ⟨#[]⟩, .slice none 0 0, .slice none 0 0] 55)).alloc (.cells #[.bool false, .int .i64 1, .int .i64 0, .string ⟨#[]⟩, .slice none 0 0, .slice none 0 0, .bool false, .int .i64 1, .int .i64 0, .string ⟨#[]⟩, .slice none 0 0, .slice none 0 0] 55)).alloc (.cells #[.bool false, .int .i64 0, .int .i64 0, .string ⟨#[]⟩, .slice (some ⟨W.heap.size + 1 + 1 + 1, 0, none⟩) 2 2, .slice none 0 0] 55)).alloc (.cells #[.bool false, .int .i64 0, .int .i64 0, .string ⟨#[]⟩, .slice none 0 0, .slice (some ⟨W.heap.size + 1 + 1 + 1 + 1, 0, none⟩) 1 1] 55)).heap[W.heap.size + 1 + 1 + 1 + 1]? = some (.cells #[.bool false, .int .i64 0, .int .i64 0, .string ⟨#[]⟩, .slice (some ⟨W.heap.size + 1 + 1 + 1, 0, none⟩) 2 2, .slice none 0 0] 55 (0, 0)) := by
    have h := heap_alloc_new ((((W.alloc (.cells #[.int .i64 1, .string ⟨#[97]⟩, .int .i64 3, .int .i64 1, .slice none 0 0] 24)).alloc (.cells #[.int .i64 0, .string ⟨#[114, 111, 111, 116]⟩, .int .i64 1, .int .i64 0, .slice (some ⟨W.heap.size, 0, none⟩) 1 1] 24)).alloc (.cells #[.bool false, .int .i64 1, .int .i64 0, .string ⟨#[]⟩, .slice none 0 0, .slice none 0 0] 55)).alloc (.cells #[.bool false, .int .i64 1, .int .i64 0, .string ⟨#[]⟩, .slice none 0 0, .slice none 0 0, .bool false, .int .i64 1, .int .i64 0, .string ⟨#[]⟩, .slice none 0 0, .slice none 0 0] 55)) (.cells #[.bool false, .int .i64 0, .int .i64 0, .string ⟨#[]⟩, .slice (some ⟨W.heap.size + 1 + 1 + 1, 0, none⟩) 2 2, .slice none 0 0] 55)
    rw [show ((((W.alloc (.cells #[.int .i64 1, .string ⟨#[97]⟩, .int .i64 3, .int .i64 1, .slice none 0 0] 24)).alloc (.cells #[.int .i64 0, .string ⟨#[114, 111, 111, 116]⟩, .int .i64 1, .int .i64 0, .slice (some ⟨W.heap.size, 0, none⟩) 1 1] 24)).alloc (.cells #[.bool false, .int .i64 1, .int .i64 0, .string ⟨#[]⟩, .slice none 0 0, .slice none 0 0] 55)).alloc (.cells #[.bool false, .int .i64 1, .int .i64 0, .string ⟨#[]⟩, .slice none 0 0, .slice none 0 0, .bool false, .int .i64 1, .int .i64 0, .string ⟨#[]⟩, .slice none 0 0, .slice none 0 0] 55)).heap.size = W.heap.size + 1 + 1 + 1 + 1 by simp] at h
    exact blk_alloc h
  have k5 : ((((((W.alloc (.cells #[.int .i64 1, .string ⟨#[97]⟩, .int .i64 3, .int .i64 1, .slice none 0 0] 24)).alloc (.cells #[.int .i64 0, .string ⟨#[114, 111, 111, 116]⟩, .int .i64 1, .int .i64 0, .slice (some ⟨W.heap.size, 0, none⟩) 1 1] 24)).alloc (.cells #[.bool false, .int .i64 1, .int .i64 0, .string ⟨#[]⟩, .slice none 0 0, .slice none 0 0] 55)).alloc (.cells #[.bool false, .int .i64 1, .int .i64 0, .string ⟨#[]⟩, .slice none 0 0, .slice none 0 0, .bool false, .int .i64 1, .int .i64 0, .string ⟨#[]⟩, .slice none 0 0, .slice none 0 0] 55)).alloc (.cells #[.bool false, .int .i64 0, .int .i64 0, .string ⟨#[]⟩, .slice (some ⟨W.heap.size + 1 + 1 + 1, 0, none⟩) 2 2, .slice none 0 0] 55)).alloc (.cells #[.bool false, .int .i64 0, .int .i64 0, .string ⟨#[]⟩, .slice none 0 0, .slice (some ⟨W.heap.size + 1 + 1 + 1 + 1, 0, none⟩) 1 1] 55)).heap[W.heap.size + 1 + 1 + 1 + 1 + 1]? = some (.cells #[.bool false, .int .i64 0, .int .i64 0, .string ⟨#[]⟩, .slice none 0 0, .slice (some ⟨W.heap.size + 1 + 1 + 1 + 1, 0, none⟩) 1 1] 55 (0, 0)) := by
    have h := heap_alloc_new (((((W.alloc (.cells #[.int .i64 1, .string ⟨#[97]⟩, .int .i64 3, .int .i64 1, .slice none 0 0] 24)).alloc (.cells #[.int .i64 0, .string ⟨#[114, 111, 111, 116]⟩, .int .i64 1, .int .i64 0, .slice (some ⟨W.heap.size, 0, none⟩) 1 1] 24)).alloc (.cells #[.bool false, .int .i64 1, .int .i64 0, .string ⟨#[]⟩, .slice none 0 0, .slice none 0 0] 55)).alloc (.cells #[.bool false, .int .i64 1, .int .i64 0, .string ⟨#[]⟩, .slice none 0 0, .slice none 0 0, .bool false, .int .i64 1, .int .i64 0, .string ⟨#[]⟩, .slice none 0 0, .slice none 0 0] 55)).alloc (.cells #[.bool false, .int .i64 0, .int .i64 0, .string ⟨#[]⟩, .slice (some ⟨W.heap.size + 1 + 1 + 1, 0, none⟩) 2 2, .slice none 0 0] 55)) (.cells #[.bool false, .int .i64 0, .int .i64 0, .string ⟨#[]⟩, .slice none 0 0, .slice (some ⟨W.heap.size + 1 + 1 + 1 + 1, 0, none⟩) 1 1] 55)
    rw [show (((((W.alloc (.cells #[.int .i64 1, .string ⟨#[97]⟩, .int .i64 3, .int .i64 1, .slice none 0 0] 24)).alloc (.cells #[.int .i64 0, .string ⟨#[114, 111, 111, 116]⟩, .int .i64 1, .int .i64 0, .slice (some ⟨W.heap.size, 0, none⟩) 1 1] 24)).alloc (.cells #[.bool false, .int .i64 1, .int .i64 0, .string ⟨#[]⟩, .slice none 0 0, .slice none 0 0] 55)).alloc (.cells #[.bool false, .int .i64 1, .int .i64 0, .string ⟨#[]⟩, .slice none 0 0, .slice none 0 0, .bool false, .int .i64 1, .int .i64 0, .string ⟨#[]⟩, .slice none 0 0, .slice none 0 0] 55)).alloc (.cells #[.bool false, .int .i64 0, .int .i64 0, .string ⟨#[]⟩, .slice (some ⟨W.heap.size + 1 + 1 + 1, 0, none⟩) 2 2, .slice none 0 0] 55)).heap.size = W.heap.size + 1 + 1 + 1 + 1 + 1 by simp] at h
    exact h
  have hsz : ((((((W.alloc (.cells #[.int .i64 1, .string ⟨#[97]⟩, .int .i64 3, .int .i64 1, .slice none 0 0] 24)).alloc (.cells #[.int .i64 0, .string ⟨#[114, 111, 111, 116]⟩, .int .i64 1, .int .i64 0, .slice (some ⟨W.heap.size, 0, none⟩) 1 1] 24)).alloc (.cells #[.bool false, .int .i64 1, .int .i64 0, .string ⟨#[]⟩, .slice none 0 0, .slice none 0 0] 55)).alloc (.cells #[.bool false, .int .i64 1, .int .i64 0, .string ⟨#[]⟩, .slice none 0 0, .slice none 0 0, .bool false, .int .i64 1, .int .i64 0, .string ⟨#[]⟩, .slice none 0 0, .slice none 0 0] 55)).alloc (.cells #[.bool false, .int .i64 0, .int .i64 0, .string ⟨#[]⟩, .slice (some ⟨W.heap.size + 1 + 1 + 1, 0, none⟩) 2 2, .slice none 0 0] 55)).alloc (.cells #[.bool false, .int .i64 0, .int .i64 0, .string ⟨#[]⟩, .slice none 0 0, .slice (some ⟨W.heap.size + 1 + 1 + 1 + 1, 0, none⟩) 1 1] 55)).heap.size = W.heap.size + 6 := by simp
  have hl : LiesN ((((((W.alloc (.cells #[.int .i64 1, .string ⟨#[97]⟩, .int .i64 3, .int .i64 1, .slice none 0 0] 24)).alloc (.cells #[.int .i64 0, .string ⟨#[114, 111, 111, 116]⟩, .int .i64 1, .int .i64 0, .slice (some ⟨W.heap.size, 0, none⟩) 1 1] 24)).alloc (.cells #[.bool false, .int .i64 1, .int .i64 0, .string ⟨#[]⟩, .slice none 0 0, .slice none 0 0] 55)).alloc (.cells #[.bool false, .int .i64 1, .int .i64 0, .string ⟨#[]⟩, .slice none 0 0, .slice none 0 0, .bool false, .int .i64 1, .int .i64 0, .string ⟨#[]⟩, .slice none 0 0, .slice none 0 0] 55)).alloc (.cells #[.bool false, .int .i64 0, .int .i64 0, .string ⟨#[]⟩, .slice (some ⟨W.heap.size + 1 + 1 + 1, 0, none⟩) 2 2, .slice none 0 0] 55)).alloc (.cells #[.bool false, .int .i64 0, .int .i64 0, .string ⟨#[]⟩, .slice none 0 0, .slice (some ⟨W.heap.size + 1 + 1 + 1 + 1, 0, none⟩) 1 1] 55)) (fun b => b < ((((((W.alloc (.cells #[.int .i64 1, .string ⟨#[97]⟩, .int .i64 3, .int .i64 1, .slice none 0 0] 24)).alloc (.cells #[.int .i64 0, .string ⟨#[114, 111, 111, 116]⟩, .int .i64 1, .int .i64 0, .slice (some ⟨W.heap.size, 0, none⟩) 1 1] 24)).alloc (.cells #[.bool false, .int .i64 1, .int .i64 0, .string ⟨#[]⟩, .slice none 0 0, .slice none 0 0] 55)).alloc (.cells #[.bool false, .int .i64 1, .int .i64 0, .string ⟨#[]⟩, .slice none 0 0, .slice none 0 0, .bool false, .int .i64 1, .int .i64 0, .string ⟨#[]⟩, .slice none 0 0, .slice none 0 0] 55)).alloc (.cells #[.bool false, .int .i64 0, .int .i64 0, .string ⟨#[]⟩, .slice (some ⟨W.heap.size + 1 + 1 + 1, 0, none⟩) 2 2, .slice none 0 0] 55)).alloc (.cells #[.bool false, .int .i64 0, .int .i64 0, .string ⟨#[]⟩, .slice none 0 0, .slice (some ⟨W.heap.size + 1 + 1 + 1 + 1, 0, none⟩) 1 1] 55)).heap.size) (some ⟨W.heap.size, 0, none⟩) twT.sub := by
    obtain ⟨⟨c0, c1, c2, c3, c4⟩, _⟩ := row_five k0
    refine ⟨fun _ => [.int .i64 1, .string ⟨#[97]⟩, .int .i64 3, .int .i64 1, .slice none 0 0], fun j hj => ?_, fun j hj => ?_⟩
    · obtain rfl : j = 0 := by simp [twT, Tr.sub] at hj; omega
      exact ⟨W.heap.size, 0, _, _, _, _, _, rfl, by rw [hsz]; omega, rfl, c0, c1, c2, c3, c4⟩
    · obtain rfl : j = 0 := by simp [twT, Tr.sub] at hj; omega
      exact .mk 1 ⟨#[97]⟩ 3 1 [] none 0 (by simp) (fun _ => []) (fun j h => absurd h (by simp)) (fun j h => absurd h (by simp))
  have hv : DtC ((((((W.alloc (.cells #[.int .i64 1, .string ⟨#[97]⟩, .int .i64 3, .int .i64 1, .slice none 0 0] 24)).alloc (.cells #[.int .i64 0, .string ⟨#[114, 111, 111, 116]⟩, .int .i64 1, .int .i64 0, .slice (some ⟨W.heap.size, 0, none⟩) 1 1] 24)).alloc (.cells #[.bool false, .int .i64 1, .int .i64 0, .string ⟨#[]⟩, .slice none 0 0, .slice none 0 0] 55)).alloc (.cells #[.bool false, .int .i64 1, .int .i64 0, .string ⟨#[]⟩, .slice none 0 0, .slice none 0 0, .bool false, .int .i64 1, .int .i64 0, .string ⟨#[]⟩, .slice none 0 0, .slice none 0 0] 55)).alloc (.cells #[.bool false, .int .i64 0, .int .i64 0, .string ⟨#[]⟩, .slice (some ⟨W.heap.size + 1 + 1 + 1, 0, none⟩) 2 2, .slice none 0 0] 55)).alloc (.cells #[.bool false, .int .i64 0, .int .i64 0, .string ⟨#[]⟩, .slice none 0 0, .slice (some ⟨W.heap.size + 1 + 1 + 1 + 1, 0, none⟩) 1 1] 55)) (fun b => b < ((((((W.alloc (.cells #[.int .i64 1, .string ⟨#[97]⟩, .int .i64 3, .int .i64 1, .slice none 0 0] 24)).alloc (.cells #[.int .i64 0, .string ⟨#[114, 111, 111, 116]⟩, .int .i64 1, .int .i64 0, .slice (some ⟨W.heap.size, 0, none⟩) 1 1] 24)).alloc (.cells #[.bool false, .int .i64 1, .int .i64 0, .string ⟨#[]⟩, .slice none 0 0, .slice none 0 0] 55)).alloc (.cells #[.bool false, .int .i64 1, .int .i64 0, .string ⟨#[]⟩, .slice none 0 0, .slice none 0 0, .bool false, .int .i64 1, .int .i64 0, .string ⟨#[]⟩, .slice none 0 0, .slice none 0 0] 55)).alloc (.cells #[.bool false, .int .i64 0, .int .i64 0, .string ⟨#[]⟩, .slice (some ⟨W.heap.size + 1 + 1 + 1, 0, none⟩) 2 2, .slice none 0 0] 55)).alloc (.cells #[.bool false, .int .i64 0, .int .i64 0, .string ⟨#[]⟩, .slice none 0 0, .slice (some ⟨W.heap.size + 1 + 1 + 1 + 1, 0, none⟩) 1 1] 55)).heap.size) twV [.bool false, .int .i64 1, .int .i64 0, .string ⟨#[]⟩, .slice none 0 0, .slice none 0 0] := DtC.join (d := twV) 0 0 (liesD_nil _ _ none) (liesD_nil _ _ none)
  have h3 := liesD_two (P := fun b => b < ((((((W.alloc (.cells #[.int .i64 1, .string ⟨#[97]⟩, .int .i64 3, .int .i64 1, .slice none 0 0] 24)).alloc (.cells #[.int .i64 0, .string ⟨#[114, 111, 111, 116]⟩, .int .i64 1, .int .i64 0, .slice (some ⟨W.heap.size, 0, none⟩) 1 1] 24)).alloc (.cells #[.bool false, .int .i64 1, .int .i64 0, .string ⟨#[]⟩, .slice none 0 0, .slice none 0 0] 55)).alloc (.cells #[.bool false, .int .i64 1, .int .i64 0, .string ⟨#[]⟩, .slice none 0 0, .slice none 0 0, .bool false, .int .i64 1, .int .i64 0, .string ⟨#[]⟩, .slice none 0 0, .slice none 0 0] 55)).alloc (.cells #[.bool false, .int .i64 0, .int .i64 0, .string ⟨#[]⟩, .slice (some ⟨W.heap.size + 1 + 1 + 1, 0, none⟩) 2 2, .slice none 0 0] 55)).alloc (.cells #[.bool false, .int .i64 0, .int .i64 0, .string ⟨#[]⟩, .slice none 0 0, .slice (some ⟨W.heap.size + 1 + 1 + 1 + 1, 0, none⟩) 1 1] 55)).heap.size) k3 (by rw [hsz]; omega) hv
  have h4 := liesD_one (P := fun b => b < ((((((W.alloc (.cells #[.int .i64 1, .string ⟨#[97]⟩, .int .i64 3, .int .i64 1, .slice none 0 0] 24)).alloc (.cells #[.int .i64 0, .string ⟨#[114, 111, 111, 116]⟩, .int .i64 1, .int .i64 0, .slice (some ⟨W.heap.size, 0, none⟩) 1 1] 24)).alloc (.cells #[.bool false, .int .i64 1, .int .i64 0, .string ⟨#[]⟩, .slice none 0 0, .slice none 0 0] 55)).alloc (.cells #[.bool false, .int .i64 1, .int .i64 0, .string ⟨#[]⟩, .slice none 0 0, .slice none 0 0, .bool false, .int .i64 1, .int .i64 0, .string ⟨#[]⟩, .slice none 0 0, .slice none 0 0] 55)).alloc (.cells #[.bool false, .int .i64 0, .int .i64 0, .string ⟨#[]⟩, .slice (some ⟨W.heap.size + 1 + 1 + 1, 0, none⟩) 2 2, .slice none 0 0] 55)).alloc (.cells #[.bool false, .int .i64 0, .int .i64 0, .string ⟨#[]⟩, .slice none 0 0, .slice (some ⟨W.heap.size + 1 + 1 + 1 + 1, 0, none⟩) 1 1] 55)).heap.size) (d := .mk false ⟨0, 0, ⟨#[]⟩⟩ [twV, twV] []) k4 (by rw [hsz]; omega) (DtC.join (d := .mk false ⟨0, 0, ⟨#[]⟩⟩ [twV, twV] []) 2 0 h3 (liesD_nil _ _ none))
  have h5 := liesD_one (P := fun b => b < ((((((W.alloc (.cells #[.int .i64 1, .string ⟨#[97]⟩, .int .i64 3, .int .i64 1, .slice none 0 0] 24)).alloc (.cells #[.int .i64 0, .string ⟨#[114, 111, 111, 116]⟩, .int .i64 1, .int .i64 0, .slice (some ⟨W.heap.size, 0, none⟩) 1 1] 24)).alloc (.cells #[.bool false, .int .i64 1, .int .i64 0, .string ⟨#[]⟩, .slice none 0 0, .slice none 0 0] 55)).alloc (.cells #[.bool false, .int .i64 1, .int .i64 0, .string ⟨#[]⟩, .slice none 0 0, .slice none 0 0, .bool false, .int .i64 1, .int .i64 0, .string ⟨#[]⟩, .slice none 0 0, .slice none 0 0] 55)).alloc (.cells #[.bool false, .int .i64 0, .int .i64 0, .string ⟨#[]⟩, .slice (some ⟨W.heap.size + 1 + 1 + 1, 0, none⟩) 2 2, .slice none 0 0] 55)).alloc (.cells #[.bool false, .int .i64 0, .int .i64 0, .string ⟨#[]⟩, .slice none 0 0, .slice (some ⟨W.heap.size + 1 + 1 + 1 + 1, 0, none⟩) 1 1] 55)).heap.size) (d := twD) k5 (by rw [hsz]; omega) (DtC.join (d := twD) 0 1 (liesD_nil _ _ none) h4)
  have h := shred_right eb es ek en twT 2 tw_dp (by omega) tw_smT tw_valid [twL] tw_leaves (by simp) (fun _ => twS) [twD] (by simp) (fun j hj => by
      obtain rfl : j = 0 := by simp at hj; omega
      exact ⟨tw_sm, tw_check⟩) (fun j hj => by
      obtain rfl : j = 0 := by simp at hj; omega
      exact ⟨by simp [twL], tw_steps, fun i hi => by
        obtain rfl : i = 0 := by simp at hi; omega
        exact tw_fit, by
        show (ents 1 twS [twD]).length ≤ 20000
        rw [tw_ents]
        simp⟩) (some ⟨W.heap.size, 0, none⟩) 1 (by simp [twT, Tr.sub]) (some ⟨W.heap.size + 1 + 1 + 1 + 1 + 1, 0, none⟩) 1 ((((((W.alloc (.cells #[.int .i64 1, .string ⟨#[97]⟩, .int .i64 3, .int .i64 1, .slice none 0 0] 24)).alloc (.cells #[.int .i64 0, .string ⟨#[114, 111, 111, 116]⟩, .int .i64 1, .int .i64 0, .slice (some ⟨W.heap.size, 0, none⟩) 1 1] 24)).alloc (.cells #[.bool false, .int .i64 1, .int .i64 0, .string ⟨#[]⟩, .slice none 0 0, .slice none 0 0] 55)).alloc (.cells #[.bool false, .int .i64 1, .int .i64 0, .string ⟨#[]⟩, .slice none 0 0, .slice none 0 0, .bool false, .int .i64 1, .int .i64 0, .string ⟨#[]⟩, .slice none 0 0, .slice none 0 0] 55)).alloc (.cells #[.bool false, .int .i64 0, .int .i64 0, .string ⟨#[]⟩, .slice (some ⟨W.heap.size + 1 + 1 + 1, 0, none⟩) 2 2, .slice none 0 0] 55)).alloc (.cells #[.bool false, .int .i64 0, .int .i64 0, .string ⟨#[]⟩, .slice none 0 0, .slice (some ⟨W.heap.size + 1 + 1 + 1 + 1, 0, none⟩) 1 1] 55)) (he.keep hb6) ((hb6.cell (World.block_lt_of_cell? W _ hen)).trans hen) hl h5
  refine Calls.mono h ?_
  rintro e w' ⟨⟨ov, rfl, hc⟩, hb⟩
  refine ⟨⟨ov, rfl, ?_⟩, hb6.trans (hb.mono hb6.size)⟩
  have hc2 := hc.down hb6.size
  have e1 : ([twL].mapIdx fun j f => colOf f twS [twD]) = [⟨1, [0, 1], [1, 1], [⟨1, 0, ⟨#[]⟩⟩, ⟨1, 0, ⟨#[]⟩⟩]⟩] := by
    show [colOf twL twS [twD]] = _
    unfold colOf
    show [(⟨1, eR (ents 1 twS [twD]), eD (ents 1 twS [twD]), eV (ents 1 twS [twD])⟩ : Col)] = _
    rw [tw_ents]
    rfl
  rw [← e1]
  exact hc2
set_option maxRecDepth 100000 in
set_option maxHeartbeats 1600000 in
theorem twins_any (eb es ek en : TypeId × Value) (W : World) (he : EC W eb es ek) (hen : W.cell? ⟨4, 0, none⟩ = some (.iface en.1 en.2)) :
    Calls Tryd.prog 4 #[] W fun e w' => e = .returned (.bool true) ∧ Below W.heap.size W w' := by
  have HS : Hid _ := tw_shred eb es ek en W he hen
  clear he hen
  go_enter Tryd.func4, Tryd.ntmps4
  go_wp2_with fail
  refine Calls.mono HS.out ?_
  rintro e w1 ⟨⟨ov, rfl, qs, h1, h2, h3⟩, hb1⟩
  have HB1 : Hid (Below W.heap.size W w1) := hb1
  obtain ⟨q, rfl⟩ : ∃ q, qs = [q] := by
    match qs, h1 with
    | [q], _ => exact ⟨q, rfl⟩
  obtain ⟨q0, q1, q2⟩ := q
  have hq := h3 0 (by simp) (by simp)
  have hr : w1.ownsRow W.heap.size 3 1 q0 2 (i64s [0, 1]) := hq.r
  have hd : w1.ownsRow W.heap.size 3 1 q1 2 (i64s [1, 1]) := hq.d
  have hv : w1.ownsRow W.heap.size 53 3 q2 2 (vcells [⟨1, 0, ⟨#[]⟩⟩, ⟨1, 0, ⟨#[]⟩⟩]) := hq.v
  obtain ⟨va, vc, rfl⟩ := own_sl hv
  obtain ⟨ob, oc, rfl⟩ := own_shape (n := 0) h2
  have cc : ∀ k u, [.int .i64 1, q0, q1, .slice va 2 vc][k]? = some u → w1.cell? ⟨ob, k, none⟩ = some u := fun k u hu => by
    have h := h2.cells (g := ob) rfl k u hu
    rwa [addr_plus, Nat.zero_add] at h
  have c1 := cc 1 _ rfl
  have c2 := cc 2 _ rfl
  have c3 := cc 3 _ rfl
  have HR : Hid (IntsAt w1 q0 [0, 1]) := ints_of_row hr rfl
  have HD : Hid (IntsAt w1 q1 [1, 1]) := ints_of_row hd rfl
  obtain ⟨ra, rc, rfl⟩ := own_sl hr
  obtain ⟨da, dc, rfl⟩ := own_sl hd
  clear h1 h2 h3 hq hr hd hv cc hb1 HS
  have hba : Below w1.heap.size w1 (w1.alloc (.cells #[.int .i64 0, .int .i64 1] 3)) := (Below.refl _ _).alloc (Nat.le_refl _) _
  have HBa : Hid _ := hba
  have HC1 : Hid _ := sameInts_any (w1.alloc (.cells #[.int .i64 0, .int .i64 1] 3)) (.slice ra 2 rc) (.slice (some ⟨w1.heap.size, 0, none⟩) 2 2) [0, 1] [0, 1] (HR.out.keep hba) (.inr ⟨w1.heap.size, 0, 2, rfl, fun j hj => by
    have hj2 : j = 0 ∨ j = 1 := by simp at hj; omega
    rcases hj2 with rfl | rfl
    · exact cell_alloc_at rfl rfl
    · exact cell_alloc_at rfl rfl⟩) (by unfold maxLen; simp)
  clear hba
  go_wp2_with fail
  refine Calls.mono HC1.out ?_
  rintro e w2 ⟨rfl, hb2⟩
  have HB2 : Hid (Below w1.heap.size w1 w2) := HBa.out.trans (hb2.mono HBa.out.size)
  have d1 := (HB2.out.cell (World.block_lt_of_cell? w1 _ c1)).trans c1
  have d2 := (HB2.out.cell (World.block_lt_of_cell? w1 _ c2)).trans c2
  have d3 := (HB2.out.cell (World.block_lt_of_cell? w1 _ c3)).trans c3
  clear hb2 c1 c2 c3 HC1
  have hba : Below w2.heap.size w2 (w2.alloc (.cells #[.int .i64 1, .int .i64 1] 3)) := (Below.refl _ _).alloc (Nat.le_refl _) _
  have HBb : Hid _ := hba
  have HC2 : Hid _ := sameInts_any (w2.alloc (.cells #[.int .i64 1, .int .i64 1] 3)) (.slice da 2 dc) (.slice (some ⟨w2.heap.size, 0, none⟩) 2 2) [1, 1] [1, 1] ((HD.out.keep HB2.out).keep hba) (.inr ⟨w2.heap.size, 0, 2, rfl, fun j hj => by
    have hj2 : j = 0 ∨ j = 1 := by simp at hj; omega
    rcases hj2 with rfl | rfl
    · exact cell_alloc_at rfl rfl
    · exact cell_alloc_at rfl rfl⟩) (by unfold maxLen; simp)
  clear hba
  go_wp2_with fail
  refine Calls.mono HC2.out ?_
  rintro e w3 ⟨rfl, hb3⟩
  have HB3 : Hid (Below w2.heap.size w2 w3) := HBb.out.trans (hb3.mono HBb.out.size)
  have e3 := (HB3.out.cell (World.block_lt_of_cell? w2 _ d3)).trans d3
  clear hb3 d1 d2 d3 HC2
  go_wp2
  go_ret
  exact ⟨rfl, (HB1.out.trans (HB2.out.mono HB1.out.size)).trans (HB3.out.mono (by have := HB1.out.size; have := HB2.out.size; omega))⟩
end Go.Proofs.YtdpedailookcjaaDoor
