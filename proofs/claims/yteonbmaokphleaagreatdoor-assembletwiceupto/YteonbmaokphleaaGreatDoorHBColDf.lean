/-
  shred.fits, where no level of Rep is outside.
  shred.fits.
  shred.Shred: the columns of right records.
-/
import Derived.Test.YteonbmaokphleaaGreatDoorHBWriter
import Derived.Test.YteonbmaokphleaaGreatDoorHBRow4
import Derived.Deep.RegionHeld3
import Derived.RegionTactic
import Derived.Test.YteonbmaokphleaaGreatDoorHBColOf
namespace Go.Proofs.YteonbmaokphleaaGreatDoor
open Go.RowKit
set_option maxRecDepth 100000 in
set_option maxHeartbeats 8000000 in
theorem sfits_f (lid kind mr md : Int) (pa : Option Addr) (pn pc : Nat) (cid : Int) (ra : Option Addr) (rs : List Int) (rc : Nat) (da : Option Addr) (ds : List Int) (dc : Nat) (va : Option Addr) (nv vc : Nat) (hr : rs.length ≤ 1048576) (hd : ds.length ≤ 1048576) (W : World) (hlr : Lies W ra (i64s rs)) (hld : Lies W da (i64s ds)) (HT : Hid ((rs.any fun x => !(btw 0 x mr)) = false)) :
    Calls Tryz.prog 109 #[leafV lid kind mr md pa pn pc, colV cid ra rs.length rc da ds.length dc va nv vc] W fun e w' => e = .returned (.bool (fitB lid mr md cid rs ds nv)) ∧ Below W.heap.size W w' := by
 have hb2 : Below W.heap.size W ((W.alloc (.cells #[.int .i64 lid, .int .i64 kind, .int .i64 mr, .int .i64 md, .slice pa pn pc] 72)).alloc (.cells #[.int .i64 cid, .slice ra rs.length rc, .slice da ds.length dc, .slice va nv vc] 50)) := ((Below.refl _ _).alloc (Nat.le_refl _) _).alloc (by simp) _
 have HB : Hid (Below W.heap.size W ((W.alloc (.cells #[.int .i64 lid, .int .i64 kind, .int .i64 mr, .int .i64 md, .slice pa pn pc] 72)).alloc (.cells #[.int .i64 cid, .slice ra rs.length rc, .slice da ds.length dc, .slice va nv vc] 50))) := hb2
 have HX : Hid (((W.alloc (.cells #[.int .i64 lid, .int .i64 kind, .int .i64 mr, .int .i64 md, .slice pa pn pc] 72)).alloc (.cells #[.int .i64 cid, .slice ra rs.length rc, .slice da ds.length dc, .slice va nv vc] 50)).heap[W.heap.size]? = some (.cells #[.int .i64 lid, .int .i64 kind, .int .i64 mr, .int .i64 md, .slice pa pn pc] 72 (0, 0))) := blk_alloc (heap_alloc_new W _)
 have HY : Hid (((W.alloc (.cells #[.int .i64 lid, .int .i64 kind, .int .i64 mr, .int .i64 md, .slice pa pn pc] 72)).alloc (.cells #[.int .i64 cid, .slice ra rs.length rc, .slice da ds.length dc, .slice va nv vc] 50)).heap[W.heap.size + 1]? = some (.cells #[.int .i64 cid, .slice ra rs.length rc, .slice da ds.length dc, .slice va nv vc] 50 (0, 0))) := (by
  have h := heap_alloc_new (W.alloc (.cells #[.int .i64 lid, .int .i64 kind, .int .i64 mr, .int .i64 md, .slice pa pn pc] 72)) (.cells #[.int .i64 cid, .slice ra rs.length rc, .slice da ds.length dc, .slice va nv vc] 50)
  rwa [show (W.alloc (.cells #[.int .i64 lid, .int .i64 kind, .int .i64 mr, .int .i64 md, .slice pa pn pc] 72)).heap.size = W.heap.size + 1 by simp] at h)
 have HLr : Hid (Lies ((W.alloc (.cells #[.int .i64 lid, .int .i64 kind, .int .i64 mr, .int .i64 md, .slice pa pn pc] 72)).alloc (.cells #[.int .i64 cid, .slice ra rs.length rc, .slice da ds.length dc, .slice va nv vc] 50)) ra (i64s rs)) := hlr.keep hb2
 have HLd : Hid (Lies ((W.alloc (.cells #[.int .i64 lid, .int .i64 kind, .int .i64 mr, .int .i64 md, .slice pa pn pc] 72)).alloc (.cells #[.int .i64 cid, .slice ra rs.length rc, .slice da ds.length dc, .slice va nv vc] 50)) da (i64s ds)) := hld.keep hb2
 clear hlr hld hb2
 unfold leafV colV
 by_cases h1 : cid = lid
 · by_cases h2 : rs.length = ds.length
   · subst h1
     have HE0 : Hid (fitB cid mr md cid rs ds nv = if headB rs = true then false else if (rs.any fun x => !(btw 0 x mr)) = true ∨ (ds.any fun x => !(btw 0 x md)) = true then false else decide (nv = cntE md ds)) := (by show _ = _; unfold fitB; rw [if_neg (by simp [h2])])
     have q2 : ((rs.length : Int) == (ds.length : Int)) = true := by simp [h2]
     have H2 : Hid (rs.length = ds.length) := h2
     clear h2
     obtain ⟨b1, H1⟩ : ∃ b1, Hid ((rs.any fun x => !(btw 0 x mr)) = b1) := ⟨_, rfl⟩
     obtain ⟨b2, Hb2⟩ : ∃ b2, Hid ((ds.any fun x => !(btw 0 x md)) = b2) := ⟨_, rfl⟩
     have b0 : Below ((W.alloc (.cells #[.int .i64 cid, .int .i64 kind, .int .i64 mr, .int .i64 md, .slice pa pn pc] 72)).alloc (.cells #[.int .i64 cid, .slice ra rs.length rc, .slice da ds.length dc, .slice va nv vc] 50)).heap.size ((W.alloc (.cells #[.int .i64 cid, .int .i64 kind, .int .i64 mr, .int .i64 md, .slice pa pn pc] 72)).alloc (.cells #[.int .i64 cid, .slice ra rs.length rc, .slice da ds.length dc, .slice va nv vc] 50)) ((W.alloc (.cells #[.int .i64 cid, .int .i64 kind, .int .i64 mr, .int .i64 md, .slice pa pn pc] 72)).alloc (.cells #[.int .i64 cid, .slice ra rs.length rc, .slice da ds.length dc, .slice va nv vc] 50)) := Below.refl _ _
     have HN : Hid (∀ X, Below ((W.alloc (.cells #[.int .i64 cid, .int .i64 kind, .int .i64 mr, .int .i64 md, .slice pa pn pc] 72)).alloc (.cells #[.int .i64 cid, .slice ra rs.length rc, .slice da ds.length dc, .slice va nv vc] 50)).heap.size ((W.alloc (.cells #[.int .i64 cid, .int .i64 kind, .int .i64 mr, .int .i64 md, .slice pa pn pc] 72)).alloc (.cells #[.int .i64 cid, .slice ra rs.length rc, .slice da ds.length dc, .slice va nv vc] 50)) X → X.cell? ⟨W.heap.size, 0, none⟩ = some (.int .i64 cid) ∧ X.cell? ⟨W.heap.size, 1, none⟩ = some (.int .i64 kind) ∧ X.cell? ⟨W.heap.size, 2, none⟩ = some (.int .i64 mr) ∧ X.cell? ⟨W.heap.size, 3, none⟩ = some (.int .i64 md) ∧ X.cell? ⟨W.heap.size, 4, none⟩ = some (.slice pa pn pc) ∧ X.cell? ⟨W.heap.size + 1, 0, none⟩ = some (.int .i64 cid) ∧ X.cell? ⟨W.heap.size + 1, 1, none⟩ = some (.slice ra rs.length rc) ∧ X.cell? ⟨W.heap.size + 1, 2, none⟩ = some (.slice da ds.length dc) ∧ X.cell? ⟨W.heap.size + 1, 3, none⟩ = some (.slice va nv vc) ∧ Below ((W.alloc (.cells #[.int .i64 cid, .int .i64 kind, .int .i64 mr, .int .i64 md, .slice pa pn pc] 72)).alloc (.cells #[.int .i64 cid, .slice ra rs.length rc, .slice da ds.length dc, .slice va nv vc] 50)).heap.size ((W.alloc (.cells #[.int .i64 cid, .int .i64 kind, .int .i64 mr, .int .i64 md, .slice pa pn pc] 72)).alloc (.cells #[.int .i64 cid, .slice ra rs.length rc, .slice da ds.length dc, .slice va nv vc] 50)) X) := fun X hX => by
      obtain ⟨⟨n0, n1, n2, n3, n4⟩, _⟩ := row_five (blk_keep hX HX.out)
      obtain ⟨l0, l1, l2, l3⟩ := row_four (blk_keep hX HY.out)
      exact ⟨n0, n1, n2, n3, n4, l0, l1, l2, l3, hX⟩
     have HC1 := containsO_any mr (W.heap.size + 1 + 1) ra rc rs hr ((((W.alloc (.cells #[.int .i64 cid, .int .i64 kind, .int .i64 mr, .int .i64 md, .slice pa pn pc] 72)).alloc (.cells #[.int .i64 cid, .slice ra rs.length rc, .slice da ds.length dc, .slice va nv vc] 50)).alloc (.cells #[.int .i64 mr] 3)).drew) (by
      have h := heap_alloc_new ((W.alloc (.cells #[.int .i64 cid, .int .i64 kind, .int .i64 mr, .int .i64 md, .slice pa pn pc] 72)).alloc (.cells #[.int .i64 cid, .slice ra rs.length rc, .slice da ds.length dc, .slice va nv vc] 50)) (.cells #[.int .i64 mr] 3)
      rw [show ((W.alloc (.cells #[.int .i64 cid, .int .i64 kind, .int .i64 mr, .int .i64 md, .slice pa pn pc] 72)).alloc (.cells #[.int .i64 cid, .slice ra rs.length rc, .slice da ds.length dc, .slice va nv vc] 50)).heap.size = W.heap.size + 1 + 1 by simp] at h
      exact h) (HLr.out.keep (b0.alloc (Nat.le_refl _) _).drew)
     have HC2 := containsO_any md (W.heap.size + 1 + 1 + 1) da dc ds hd (((((W.alloc (.cells #[.int .i64 cid, .int .i64 kind, .int .i64 mr, .int .i64 md, .slice pa pn pc] 72)).alloc (.cells #[.int .i64 cid, .slice ra rs.length rc, .slice da ds.length dc, .slice va nv vc] 50)).alloc (.cells #[.int .i64 mr] 3)).alloc (.cells #[.int .i64 md] 3)).drew) (by
      have h := heap_alloc_new (((W.alloc (.cells #[.int .i64 cid, .int .i64 kind, .int .i64 mr, .int .i64 md, .slice pa pn pc] 72)).alloc (.cells #[.int .i64 cid, .slice ra rs.length rc, .slice da ds.length dc, .slice va nv vc] 50)).alloc (.cells #[.int .i64 mr] 3)) (.cells #[.int .i64 md] 3)
      rw [show (((W.alloc (.cells #[.int .i64 cid, .int .i64 kind, .int .i64 mr, .int .i64 md, .slice pa pn pc] 72)).alloc (.cells #[.int .i64 cid, .slice ra rs.length rc, .slice da ds.length dc, .slice va nv vc] 50)).alloc (.cells #[.int .i64 mr] 3)).heap.size = W.heap.size + 1 + 1 + 1 by simp] at h
      exact h) (HLd.out.keep ((b0.alloc (Nat.le_refl _) _).alloc (by simp) _).drew)
     rw [H1.out] at HC1
     rw [Hb2.out] at HC2
     have HC1 : Hid _ := HC1
     have HC2 : Hid _ := HC2
     have HBx1 : Hid (Below W.heap.size W (((W.alloc (.cells #[.int .i64 cid, .int .i64 kind, .int .i64 mr, .int .i64 md, .slice pa pn pc] 72)).alloc (.cells #[.int .i64 cid, .slice ra rs.length rc, .slice da ds.length dc, .slice va nv vc] 50)).alloc (.cells #[.int .i64 mr] 3)).drew) := (HB.out.alloc (by simp; omega) _).drew
     have HBx2 : Hid (Below W.heap.size W ((((W.alloc (.cells #[.int .i64 cid, .int .i64 kind, .int .i64 mr, .int .i64 md, .slice pa pn pc] 72)).alloc (.cells #[.int .i64 cid, .slice ra rs.length rc, .slice da ds.length dc, .slice va nv vc] 50)).alloc (.cells #[.int .i64 mr] 3)).alloc (.cells #[.int .i64 md] 3)).drew) := ((HB.out.alloc (by simp; omega) _).alloc (by simp; omega) _).drew
     have HEg : Hid (headB rs = false → fitB cid mr md cid rs ds nv = if b1 = true ∨ b2 = true then false else decide (nv = cntE md ds)) := fun hh => by
      rw [HE0.out, H1.out, Hb2.out, hh]
      rfl
     cases b1 with
     | true => have h := H1.out; rw [HT.out] at h; cases h
     | false =>
      cases b2
      all_goals
       by_cases hl0 : rs.length = 0
       · have HE : Hid _ := HEg.out (by rw [List.eq_nil_of_length_eq_zero hl0]; rfl)
         have q0 : decide ((0 : Int) < (rs.length : Int)) = false := by rw [decide_eq_false_iff_not]; omega
         have hnp : ¬ 0 < rs.length := by omega
         clear HE0 hl0 HEg
         go_enter Tryz.func109, Tryz.ntmps109
         go_wp2
         go_region_held3 (fun X => X.cell? ⟨W.heap.size, 0, none⟩ = some (.int .i64 cid) ∧ X.cell? ⟨W.heap.size, 1, none⟩ = some (.int .i64 kind) ∧ X.cell? ⟨W.heap.size, 2, none⟩ = some (.int .i64 mr) ∧ X.cell? ⟨W.heap.size, 3, none⟩ = some (.int .i64 md) ∧ X.cell? ⟨W.heap.size, 4, none⟩ = some (.slice pa pn pc) ∧ X.cell? ⟨W.heap.size + 1, 0, none⟩ = some (.int .i64 cid) ∧ X.cell? ⟨W.heap.size + 1, 1, none⟩ = some (.slice ra rs.length rc) ∧ X.cell? ⟨W.heap.size + 1, 2, none⟩ = some (.slice da ds.length dc) ∧ X.cell? ⟨W.heap.size + 1, 3, none⟩ = some (.slice va nv vc) ∧ Below ((W.alloc (.cells #[.int .i64 cid, .int .i64 kind, .int .i64 mr, .int .i64 md, .slice pa pn pc] 72)).alloc (.cells #[.int .i64 cid, .slice ra rs.length rc, .slice da ds.length dc, .slice va nv vc] 50)).heap.size ((W.alloc (.cells #[.int .i64 cid, .int .i64 kind, .int .i64 mr, .int .i64 md, .slice pa pn pc] 72)).alloc (.cells #[.int .i64 cid, .slice ra rs.length rc, .slice da ds.length dc, .slice va nv vc] 50)) X) (first | (with_reducible refine HN.out _ ?_; repeat' (first | with_reducible assumption | with_reducible exact b0.drew | with_reducible exact b0 | with_reducible exact (b0.alloc (Nat.le_refl _) _).drew | with_reducible exact ((b0.alloc (Nat.le_refl _) _).alloc (by simp) _).drew | with_reducible refine Below.alloc ?_ ?_ _ | with_reducible exact Below.size (by assumption) | (simp; done) | (simp; omega) | omega))) (first | (go_at_call 128; with_reducible refine Calls.mono (outside_any mr _) ?_; rintro e w' ⟨rfl, hw'⟩; subst hw') | (go_at_call 128; with_reducible refine Calls.mono (outside_any md _) ?_; rintro e w' ⟨rfl, hw'⟩; subst hw') | (go_at_call 130; refine Calls.mono HC1.out ?_; rintro e w' ⟨rfl, hw'⟩; subst hw') | (go_at_call 130; refine Calls.mono HC2.out ?_; rintro e w' ⟨rfl, hw'⟩; subst hw'))
         all_goals first
          | (go_wp2; go_ret; exact ⟨by rw [HE.out]; rfl, HBx2.out⟩)
          | skip
         all_goals
          have hbl : Below ((W.alloc (.cells #[.int .i64 cid, .int .i64 kind, .int .i64 mr, .int .i64 md, .slice pa pn pc] 72)).alloc (.cells #[.int .i64 cid, .slice ra rs.length rc, .slice da ds.length dc, .slice va nv vc] 50)).heap.size ((W.alloc (.cells #[.int .i64 cid, .int .i64 kind, .int .i64 mr, .int .i64 md, .slice pa pn pc] 72)).alloc (.cells #[.int .i64 cid, .slice ra rs.length rc, .slice da ds.length dc, .slice va nv vc] 50)) ((((W.alloc (.cells #[.int .i64 cid, .int .i64 kind, .int .i64 mr, .int .i64 md, .slice pa pn pc] 72)).alloc (.cells #[.int .i64 cid, .slice ra rs.length rc, .slice da ds.length dc, .slice va nv vc] 50)).alloc (.cells #[.int .i64 mr] 3)).alloc (.cells #[.int .i64 md] 3)).drew := (((Below.refl _ _).alloc (Nat.le_refl _) _).alloc (by simp) _).drew
          have HX4 : Hid (((((W.alloc (.cells #[.int .i64 cid, .int .i64 kind, .int .i64 mr, .int .i64 md, .slice pa pn pc] 72)).alloc (.cells #[.int .i64 cid, .slice ra rs.length rc, .slice da ds.length dc, .slice va nv vc] 50)).alloc (.cells #[.int .i64 mr] 3)).alloc (.cells #[.int .i64 md] 3)).drew.heap[W.heap.size]? = some (.cells #[.int .i64 cid, .int .i64 kind, .int .i64 mr, .int .i64 md, .slice pa pn pc] 72 (0, 0))) := blk_keep hbl HX.out
          have HY4 : Hid (((((W.alloc (.cells #[.int .i64 cid, .int .i64 kind, .int .i64 mr, .int .i64 md, .slice pa pn pc] 72)).alloc (.cells #[.int .i64 cid, .slice ra rs.length rc, .slice da ds.length dc, .slice va nv vc] 50)).alloc (.cells #[.int .i64 mr] 3)).alloc (.cells #[.int .i64 md] 3)).drew.heap[W.heap.size + 1]? = some (.cells #[.int .i64 cid, .slice ra rs.length rc, .slice da ds.length dc, .slice va nv vc] 50 (0, 0))) := blk_keep hbl HY.out
          have HLd4 : Hid (Lies ((((W.alloc (.cells #[.int .i64 cid, .int .i64 kind, .int .i64 mr, .int .i64 md, .slice pa pn pc] 72)).alloc (.cells #[.int .i64 cid, .slice ra rs.length rc, .slice da ds.length dc, .slice va nv vc] 50)).alloc (.cells #[.int .i64 mr] 3)).alloc (.cells #[.int .i64 md] 3)).drew da (i64s ds)) := HLd.out.keep hbl
          have HBx : Hid (Below W.heap.size W ((((W.alloc (.cells #[.int .i64 cid, .int .i64 kind, .int .i64 mr, .int .i64 md, .slice pa pn pc] 72)).alloc (.cells #[.int .i64 cid, .slice ra rs.length rc, .slice da ds.length dc, .slice va nv vc] 50)).alloc (.cells #[.int .i64 mr] 3)).alloc (.cells #[.int .i64 md] 3)).drew) := HBx2.out
          go_wp2
          clear hbl HBx1 HBx2 HX HY HLd HB HC1 HC2 HN b0
          generalize ((((W.alloc (.cells #[.int .i64 cid, .int .i64 kind, .int .i64 mr, .int .i64 md, .slice pa pn pc] 72)).alloc (.cells #[.int .i64 cid, .slice ra rs.length rc, .slice da ds.length dc, .slice va nv vc] 50)).alloc (.cells #[.int .i64 mr] 3)).alloc (.cells #[.int .i64 md] 3)).drew = w4 at *
          have b40 : Below w4.heap.size w4 w4 := Below.refl _ _
          have HN4 : Hid (∀ X, Below w4.heap.size w4 X → (X.cell? ⟨W.heap.size, 0, none⟩ = some (.int .i64 cid) ∧ X.cell? ⟨W.heap.size, 1, none⟩ = some (.int .i64 kind) ∧ X.cell? ⟨W.heap.size, 2, none⟩ = some (.int .i64 mr) ∧ X.cell? ⟨W.heap.size, 3, none⟩ = some (.int .i64 md) ∧ X.cell? ⟨W.heap.size, 4, none⟩ = some (.slice pa pn pc)) ∧ (X.cell? ⟨W.heap.size + 1, 0, none⟩ = some (.int .i64 cid) ∧ X.cell? ⟨W.heap.size + 1, 1, none⟩ = some (.slice ra rs.length rc) ∧ X.cell? ⟨W.heap.size + 1, 2, none⟩ = some (.slice da ds.length dc) ∧ X.cell? ⟨W.heap.size + 1, 3, none⟩ = some (.slice va nv vc)) ∧ Below w4.heap.size w4 X) := fun X hX => ⟨(row_five (blk_keep hX HX4.out)).1, row_four (blk_keep hX HY4.out), hX⟩
          obtain ⟨⟨l0, l1, l2, l3, l4⟩, ⟨k0, k1, k2, k3⟩, _⟩ := HN4.out w4 b40
          go_region_held3 (fun X => (X.cell? ⟨W.heap.size, 0, none⟩ = some (.int .i64 cid) ∧ X.cell? ⟨W.heap.size, 1, none⟩ = some (.int .i64 kind) ∧ X.cell? ⟨W.heap.size, 2, none⟩ = some (.int .i64 mr) ∧ X.cell? ⟨W.heap.size, 3, none⟩ = some (.int .i64 md) ∧ X.cell? ⟨W.heap.size, 4, none⟩ = some (.slice pa pn pc)) ∧ (X.cell? ⟨W.heap.size + 1, 0, none⟩ = some (.int .i64 cid) ∧ X.cell? ⟨W.heap.size + 1, 1, none⟩ = some (.slice ra rs.length rc) ∧ X.cell? ⟨W.heap.size + 1, 2, none⟩ = some (.slice da ds.length dc) ∧ X.cell? ⟨W.heap.size + 1, 3, none⟩ = some (.slice va nv vc)) ∧ Below w4.heap.size w4 X) (first | (with_reducible refine HN4.out _ ?_; repeat' (first | with_reducible assumption | with_reducible exact b40.drew | with_reducible exact b40 | with_reducible exact HBV.out))) (first | (go_at_call 78; refine (valuesOf_any cid kind mr md pa pn pc da dc ds hd _ (HLd4.out.keep b40.drew)).mono ?_; rintro e w5 ⟨rfl, hb5⟩; have HBV : Hid (Below w4.heap.size w4 w5) := b40.drew.trans hb5; clear hb5))
          all_goals
           go_wp2
           go_ret
           refine ⟨ret_b ?_, HBx.out.trans (HBV.out.mono HBx.out.size)⟩
           rw [HE.out, Bool.eq_iff_iff]
           simp
           try omega
       · have hpos : 0 < rs.length := by omega
         have q0 : decide ((0 : Int) < (rs.length : Int)) = true := by rw [decide_eq_true_iff]; omega
         obtain ⟨rb, ro, era, hcell⟩ := HLr.out 0 (by simpa [i64s] using hpos)
         subst era
         obtain ⟨r, hr0⟩ : ∃ r, r = rs[0] := ⟨_, rfl⟩
         have hh := headB_at rs hpos
         rw [← hr0] at hh
         simp only [Nat.add_zero] at hcell
         rw [show (i64s rs)[0]'(by simpa [i64s] using hpos) = .int .i64 rs[0] by simp [i64s], ← hr0] at hcell
         have HH : Hid (headB rs = !(r == 0)) := hh
         clear hl0 hh hr0
         by_cases hz : r = 0
         · subst hz
           have HE : Hid _ := HEg.out (by rw [HH.out]; rfl)
           clear HE0 HEg HH
           go_enter Tryz.func109, Tryz.ntmps109
           go_wp2
           go_region_held3 (fun X => X.cell? ⟨W.heap.size, 0, none⟩ = some (.int .i64 cid) ∧ X.cell? ⟨W.heap.size, 1, none⟩ = some (.int .i64 kind) ∧ X.cell? ⟨W.heap.size, 2, none⟩ = some (.int .i64 mr) ∧ X.cell? ⟨W.heap.size, 3, none⟩ = some (.int .i64 md) ∧ X.cell? ⟨W.heap.size, 4, none⟩ = some (.slice pa pn pc) ∧ X.cell? ⟨W.heap.size + 1, 0, none⟩ = some (.int .i64 cid) ∧ X.cell? ⟨W.heap.size + 1, 1, none⟩ = some (.slice (some ⟨rb, ro, none⟩) rs.length rc) ∧ X.cell? ⟨W.heap.size + 1, 2, none⟩ = some (.slice da ds.length dc) ∧ X.cell? ⟨W.heap.size + 1, 3, none⟩ = some (.slice va nv vc) ∧ Below ((W.alloc (.cells #[.int .i64 cid, .int .i64 kind, .int .i64 mr, .int .i64 md, .slice pa pn pc] 72)).alloc (.cells #[.int .i64 cid, .slice (some ⟨rb, ro, none⟩) rs.length rc, .slice da ds.length dc, .slice va nv vc] 50)).heap.size ((W.alloc (.cells #[.int .i64 cid, .int .i64 kind, .int .i64 mr, .int .i64 md, .slice pa pn pc] 72)).alloc (.cells #[.int .i64 cid, .slice (some ⟨rb, ro, none⟩) rs.length rc, .slice da ds.length dc, .slice va nv vc] 50)) X) (first | (with_reducible refine HN.out _ ?_; repeat' (first | with_reducible assumption | with_reducible exact b0.drew | with_reducible exact b0 | with_reducible exact (b0.alloc (Nat.le_refl _) _).drew | with_reducible exact ((b0.alloc (Nat.le_refl _) _).alloc (by simp) _).drew | with_reducible refine Below.alloc ?_ ?_ _ | with_reducible exact Below.size (by assumption) | (simp; done) | (simp; omega) | omega))) (first | (go_at_call 128; with_reducible refine Calls.mono (outside_any mr _) ?_; rintro e w' ⟨rfl, hw'⟩; subst hw') | (go_at_call 128; with_reducible refine Calls.mono (outside_any md _) ?_; rintro e w' ⟨rfl, hw'⟩; subst hw') | (go_at_call 130; refine Calls.mono HC1.out ?_; rintro e w' ⟨rfl, hw'⟩; subst hw') | (go_at_call 130; refine Calls.mono HC2.out ?_; rintro e w' ⟨rfl, hw'⟩; subst hw'))
           all_goals first
            | (go_wp2; go_ret; exact ⟨by rw [HE.out]; rfl, HBx2.out⟩)
            | skip
           all_goals
            have hbl : Below ((W.alloc (.cells #[.int .i64 cid, .int .i64 kind, .int .i64 mr, .int .i64 md, .slice pa pn pc] 72)).alloc (.cells #[.int .i64 cid, .slice (some ⟨rb, ro, none⟩) rs.length rc, .slice da ds.length dc, .slice va nv vc] 50)).heap.size ((W.alloc (.cells #[.int .i64 cid, .int .i64 kind, .int .i64 mr, .int .i64 md, .slice pa pn pc] 72)).alloc (.cells #[.int .i64 cid, .slice (some ⟨rb, ro, none⟩) rs.length rc, .slice da ds.length dc, .slice va nv vc] 50)) ((((W.alloc (.cells #[.int .i64 cid, .int .i64 kind, .int .i64 mr, .int .i64 md, .slice pa pn pc] 72)).alloc (.cells #[.int .i64 cid, .slice (some ⟨rb, ro, none⟩) rs.length rc, .slice da ds.length dc, .slice va nv vc] 50)).alloc (.cells #[.int .i64 mr] 3)).alloc (.cells #[.int .i64 md] 3)).drew := (((Below.refl _ _).alloc (Nat.le_refl _) _).alloc (by simp) _).drew
            have HX4 : Hid (((((W.alloc (.cells #[.int .i64 cid, .int .i64 kind, .int .i64 mr, .int .i64 md, .slice pa pn pc] 72)).alloc (.cells #[.int .i64 cid, .slice (some ⟨rb, ro, none⟩) rs.length rc, .slice da ds.length dc, .slice va nv vc] 50)).alloc (.cells #[.int .i64 mr] 3)).alloc (.cells #[.int .i64 md] 3)).drew.heap[W.heap.size]? = some (.cells #[.int .i64 cid, .int .i64 kind, .int .i64 mr, .int .i64 md, .slice pa pn pc] 72 (0, 0))) := blk_keep hbl HX.out
            have HY4 : Hid (((((W.alloc (.cells #[.int .i64 cid, .int .i64 kind, .int .i64 mr, .int .i64 md, .slice pa pn pc] 72)).alloc (.cells #[.int .i64 cid, .slice (some ⟨rb, ro, none⟩) rs.length rc, .slice da ds.length dc, .slice va nv vc] 50)).alloc (.cells #[.int .i64 mr] 3)).alloc (.cells #[.int .i64 md] 3)).drew.heap[W.heap.size + 1]? = some (.cells #[.int .i64 cid, .slice (some ⟨rb, ro, none⟩) rs.length rc, .slice da ds.length dc, .slice va nv vc] 50 (0, 0))) := blk_keep hbl HY.out
            have HLd4 : Hid (Lies ((((W.alloc (.cells #[.int .i64 cid, .int .i64 kind, .int .i64 mr, .int .i64 md, .slice pa pn pc] 72)).alloc (.cells #[.int .i64 cid, .slice (some ⟨rb, ro, none⟩) rs.length rc, .slice da ds.length dc, .slice va nv vc] 50)).alloc (.cells #[.int .i64 mr] 3)).alloc (.cells #[.int .i64 md] 3)).drew da (i64s ds)) := HLd.out.keep hbl
            have HBx : Hid (Below W.heap.size W ((((W.alloc (.cells #[.int .i64 cid, .int .i64 kind, .int .i64 mr, .int .i64 md, .slice pa pn pc] 72)).alloc (.cells #[.int .i64 cid, .slice (some ⟨rb, ro, none⟩) rs.length rc, .slice da ds.length dc, .slice va nv vc] 50)).alloc (.cells #[.int .i64 mr] 3)).alloc (.cells #[.int .i64 md] 3)).drew) := HBx2.out
            go_wp2
            clear hbl HBx1 HBx2 HX HY HLd HB HC1 HC2 HN b0
            generalize ((((W.alloc (.cells #[.int .i64 cid, .int .i64 kind, .int .i64 mr, .int .i64 md, .slice pa pn pc] 72)).alloc (.cells #[.int .i64 cid, .slice (some ⟨rb, ro, none⟩) rs.length rc, .slice da ds.length dc, .slice va nv vc] 50)).alloc (.cells #[.int .i64 mr] 3)).alloc (.cells #[.int .i64 md] 3)).drew = w4 at *
            have b40 : Below w4.heap.size w4 w4 := Below.refl _ _
            have HN4 : Hid (∀ X, Below w4.heap.size w4 X → (X.cell? ⟨W.heap.size, 0, none⟩ = some (.int .i64 cid) ∧ X.cell? ⟨W.heap.size, 1, none⟩ = some (.int .i64 kind) ∧ X.cell? ⟨W.heap.size, 2, none⟩ = some (.int .i64 mr) ∧ X.cell? ⟨W.heap.size, 3, none⟩ = some (.int .i64 md) ∧ X.cell? ⟨W.heap.size, 4, none⟩ = some (.slice pa pn pc)) ∧ (X.cell? ⟨W.heap.size + 1, 0, none⟩ = some (.int .i64 cid) ∧ X.cell? ⟨W.heap.size + 1, 1, none⟩ = some (.slice (some ⟨rb, ro, none⟩) rs.length rc) ∧ X.cell? ⟨W.heap.size + 1, 2, none⟩ = some (.slice da ds.length dc) ∧ X.cell? ⟨W.heap.size + 1, 3, none⟩ = some (.slice va nv vc)) ∧ Below w4.heap.size w4 X) := fun X hX => ⟨(row_five (blk_keep hX HX4.out)).1, row_four (blk_keep hX HY4.out), hX⟩
            obtain ⟨⟨l0, l1, l2, l3, l4⟩, ⟨k0, k1, k2, k3⟩, _⟩ := HN4.out w4 b40
            go_region_held3 (fun X => (X.cell? ⟨W.heap.size, 0, none⟩ = some (.int .i64 cid) ∧ X.cell? ⟨W.heap.size, 1, none⟩ = some (.int .i64 kind) ∧ X.cell? ⟨W.heap.size, 2, none⟩ = some (.int .i64 mr) ∧ X.cell? ⟨W.heap.size, 3, none⟩ = some (.int .i64 md) ∧ X.cell? ⟨W.heap.size, 4, none⟩ = some (.slice pa pn pc)) ∧ (X.cell? ⟨W.heap.size + 1, 0, none⟩ = some (.int .i64 cid) ∧ X.cell? ⟨W.heap.size + 1, 1, none⟩ = some (.slice (some ⟨rb, ro, none⟩) rs.length rc) ∧ X.cell? ⟨W.heap.size + 1, 2, none⟩ = some (.slice da ds.length dc) ∧ X.cell? ⟨W.heap.size + 1, 3, none⟩ = some (.slice va nv vc)) ∧ Below w4.heap.size w4 X) (first | (with_reducible refine HN4.out _ ?_; repeat' (first | with_reducible assumption | with_reducible exact b40.drew | with_reducible exact b40 | with_reducible exact HBV.out))) (first | (go_at_call 78; refine (valuesOf_any cid kind mr md pa pn pc da dc ds hd _ (HLd4.out.keep b40.drew)).mono ?_; rintro e w5 ⟨rfl, hb5⟩; have HBV : Hid (Below w4.heap.size w4 w5) := b40.drew.trans hb5; clear hb5))
            all_goals
             go_wp2
             go_ret
             refine ⟨ret_b ?_, HBx.out.trans (HBV.out.mono HBx.out.size)⟩
             rw [HE.out, Bool.eq_iff_iff]
             simp
             try omega
         · have qr : (r == 0) = false := by simp [hz]
           have HF : Hid (fitB cid mr md cid rs ds nv = false) := (by show _ = _; rw [HE0.out, HH.out, qr]; rfl)
           clear hz HE0 HEg
           go_enter Tryz.func109, Tryz.ntmps109
           go_wp2
           go_ret
           exact ⟨by rw [HF.out]; rfl, HB.out⟩
   · have HE : Hid (fitB lid mr md cid rs ds nv = false) := (by show _ = _; unfold fitB; rw [if_pos (.inr h2)])
     subst h1
     have q2 : ((rs.length : Int) == (ds.length : Int)) = false := by rw [beq_eq_false_iff_ne]; omega
     clear h2
     go_enter Tryz.func109, Tryz.ntmps109
     go_wp2
     go_ret
     exact ⟨by rw [HE.out]; rfl, HB.out⟩
 · have HE : Hid (fitB lid mr md cid rs ds nv = false) := (by show _ = _; unfold fitB; rw [if_pos (.inl h1)])
   have q1 : (cid == lid) = false := by simp [h1]
   clear h1
   go_enter Tryz.func109, Tryz.ntmps109
   go_wp2
   go_ret
   exact ⟨by rw [HE.out]; rfl, HB.out⟩
theorem sfits_any (lid kind mr md : Int) (pa : Option Addr) (pn pc : Nat) (cid : Int) (ra : Option Addr) (rs : List Int) (rc : Nat) (da : Option Addr) (ds : List Int) (dc : Nat) (va : Option Addr) (nv vc : Nat) (hr : rs.length ≤ 1048576) (hd : ds.length ≤ 1048576) (W : World) (hlr : Lies W ra (i64s rs)) (hld : Lies W da (i64s ds)) :
    Calls Tryz.prog 109 #[leafV lid kind mr md pa pn pc, colV cid ra rs.length rc da ds.length dc va nv vc] W fun e w' => e = .returned (.bool (fitB lid mr md cid rs ds nv)) ∧ Below W.heap.size W w' := by
 cases hb : (rs.any fun x => !(btw 0 x mr))
 · exact sfits_f lid kind mr md pa pn pc cid ra rs rc da ds dc va nv vc hr hd W hlr hld hb
 · exact sfits_t lid kind mr md pa pn pc cid ra rs rc da ds dc va nv vc hr hd W hlr hld hb
theorem Tryz.infoC : (Tryz.prog.info? 50).map (fun i => (i.zero, i.size, i.bytes)) = some (some (.agg #[.int .i64 0, .slice none 0 0, .slice none 0 0, .slice none 0 0]), 4, 80) := by kernel_rfl
structure Col where
 id : Int
 reps : List Int
 defs : List Int
 vals : List Vl
def colC (c : Col) (q : Value × Value × Value) : List Value := [.int .i64 c.id, q.1, q.2.1, q.2.2]
structure ColQ (W : World) (N : Nat) (c : Col) (q : Value × Value × Value) : Prop where
 r : W.ownsRow N 3 1 q.1 c.reps.length (i64s c.reps)
 d : W.ownsRow N 3 1 q.2.1 c.defs.length (i64s c.defs)
 v : W.ownsRow N 54 3 q.2.2 c.vals.length (vcells c.vals)
def ColR (W : World) (N : Nat) (ov : Value) (cs : List Col) : Prop :=
 ∃ qs : List (Value × Value × Value), qs.length = cs.length ∧ W.ownsRow N 50 4 ov cs.length ((List.zipWith colC cs qs).flatten) ∧ ∀ j (h : j < cs.length) (h' : j < qs.length), ColQ W N cs[j] qs[j]
theorem ColQ.stay {W w' : World} {N : Nat} {c : Col} {q : Value × Value × Value} (h : ColQ W N c q) (hs : ∀ k cs e, W.heap[k]? = some (.cells cs e (0, 0)) → (e = 3 ∨ e = 54) → N ≤ k → w'.heap[k]? = W.heap[k]?) : ColQ w' N c q := by
 refine ⟨own_same h.r fun k hk => ?_, own_same h.d fun k hk => ?_, own_same h.v fun k hk => ?_⟩
 · obtain ⟨q1, _, cs, q3⟩ := own_block h.r hk; exact hs k cs _ q3 (.inl rfl) q1
 · obtain ⟨q1, _, cs, q3⟩ := own_block h.d hk; exact hs k cs _ q3 (.inl rfl) q1
 · obtain ⟨q1, _, cs, q3⟩ := own_block h.v hk; exact hs k cs _ q3 (.inr rfl) q1
theorem ColQ.down {W : World} {N N' : Nat} {c : Col} {q : Value × Value × Value} (h : ColQ W N c q) (hN : N' ≤ N) : ColQ W N' c q := ⟨own_low h.r hN, own_low h.d hN, own_low h.v hN⟩
theorem ColR.down {W : World} {N N' : Nat} {ov : Value} {cs : List Col} (h : ColR W N ov cs) (hN : N' ≤ N) : ColR W N' ov cs := by
 obtain ⟨qs, h1, h2, h3⟩ := h
 exact ⟨qs, h1, own_low h2 hN, fun j hj hj' => (h3 j hj hj').down hN⟩
theorem ColR.keep {W w' : World} {N : Nat} {ov : Value} {cs : List Col} (h : ColR W N ov cs) (hb : Below W.heap.size W w') : ColR w' N ov cs := by
 obtain ⟨qs, h1, h2, h3⟩ := h
 exact ⟨qs, h1, ow_kept h2 hb, fun j hj hj' => (h3 j hj hj').stay fun k cs e hk _ _ => hb.block k (lt_of_block hk)⟩
theorem col_len (cs : List Col) (qs : List (Value × Value × Value)) (h : qs.length = cs.length) : (List.zipWith colC cs qs).flatten.length = cs.length * 4 := by
 have h4 : ∀ (ls : List (List Value)), (∀ l ∈ ls, l.length = 4) → ls.flatten.length = ls.length * 4 := by
  intro ls
  induction ls with
  | nil => intro _; rfl
  | cons l ls ih =>
   intro hh
   rw [List.flatten_cons, List.length_append, hh l (by simp), ih (fun x hx => hh x (by simp [hx])), List.length_cons]
   omega
 rw [h4 _ (fun x hx => ?_)]
 · simp [h]
 · obtain ⟨i, hi, rfl⟩ := List.getElem_of_mem hx
   simp [colC]
theorem ColR.push {W w2 : World} {N : Nat} {ov ov2 : Value} {cs : List Col} {c : Col} {q : Value × Value × Value} {qs : List (Value × Value × Value)} {ob : Obj} (h1 : qs.length = cs.length) (h3 : ∀ j (h : j < cs.length) (h' : j < qs.length), ColQ W N cs[j] qs[j]) (h2 : W.ownsRow N 50 4 ov cs.length ((List.zipWith colC cs qs).flatten)) (hq : ColQ W N c q)
    (hown : w2.ownsRow N 50 4 ov2 (cs.length + 1) ((List.zipWith colC cs qs).flatten ++ colC c q)) (hg : (W.alloc ob).grownBy w2 ov.ownBlock) : ColR w2 N ov2 (cs ++ [c]) := by
 have hk : ∀ k cs' e, W.heap[k]? = some (.cells cs' e (0, 0)) → (e = 3 ∨ e = 54) → N ≤ k → w2.heap[k]? = W.heap[k]? := fun k cs' e hk he _ => by
  have hl := lt_of_block hk
  rw [hg.block k (by simp; omega) (own_type h2 hk (by rcases he with rfl | rfl <;> decide)), heap_alloc_old W ob hl]
 refine ⟨qs ++ [q], by simp [h1], ?_, fun j hj hj' => ?_⟩
 · rw [List.zipWith_append h1.symm, List.flatten_append]
   simpa using hown
 · by_cases hl : j < cs.length
   · rw [List.getElem_append_left (by omega), List.getElem_append_left (by omega)]
     exact (h3 j hl (by omega)).stay hk
   · have hj2 : j = cs.length := by simp at hj; omega
     subst hj2
     rw [List.getElem_append_right (by omega), List.getElem_append_right (by omega)]
     simp only [h1, Nat.sub_self, List.getElem_cons_zero]
     exact hq.stay hk
theorem LvR.at_ {W : World} {N : Nat} {lv : Value} {ls : List Lf} (h : LvR W N lv ls) (j : Nat) (hj : j < ls.length) : ∃ lb cap pa pc, lv = .slice (some ⟨lb, 0, none⟩) ls.length cap ∧ (W.cell? ⟨lb, j * 5, none⟩ = some (.int .i64 ls[j].id) ∧ W.cell? ⟨lb, j * 5 + 1, none⟩ = some (.int .i64 ls[j].kind) ∧ W.cell? ⟨lb, j * 5 + 2, none⟩ = some (.int .i64 (ls[j].mr : Nat)) ∧ W.cell? ⟨lb, j * 5 + 3, none⟩ = some (.int .i64 (ls[j].md : Nat)) ∧ W.cell? ⟨lb, j * 5 + 4, none⟩ = some (.slice pa ls[j].path.length pc)) ∧ Lies W pa (i64s ls[j].path) := by
 obtain ⟨pvs, h1, h2, h3⟩ := h
 have hjp : j < pvs.length := by omega
 have hz : j < (List.zipWith lfC ls pvs).length := by simp; omega
 have h5 : ∀ x ∈ List.zipWith lfC ls pvs, x.length = 5 := fun x hx => by
  obtain ⟨i, hi, rfl⟩ := List.getElem_of_mem hx
  simp [lfC]
 have hrow := h3 j hj hjp
 rcases h2.2 with ⟨_, h0⟩ | ⟨g, cap, cur, rfl, _⟩
 · omega
 · have hc : ∀ k u, (lfC ls[j] pvs[j])[k]? = some u → k < 5 → W.cell? ⟨g, j * 5 + k, none⟩ = some u := fun k u hu hk => by
     have h6 := h2.cells (g := g) rfl (j * 5 + k) u (by
      rw [flat5 _ h5 j k hk, List.getElem?_eq_getElem hz, List.getElem_zipWith]
      exact hu)
     rw [addr_plus, Nat.zero_add] at h6
     exact h6
   obtain ⟨pa, pc, hpv⟩ := own_sl hrow
   rw [hpv] at hc hrow
   refine ⟨g, cap, pa, pc, rfl, ⟨hc 0 _ rfl (by omega), hc 1 _ rfl (by omega), hc 2 _ rfl (by omega), hc 3 _ rfl (by omega), hc 4 _ rfl (by omega)⟩, fun k hk => ?_⟩
   rcases hrow.2 with ⟨_, h0⟩ | ⟨g', cap', cur', hv, rest⟩
   · simp [i64s] at hk; omega
   · injection hv with hv _ _
     subst hv
     have h7 := hrow.cells (g := g') rfl k (i64s ls[j].path)[k] (List.getElem?_eq_getElem hk)
     rw [addr_plus, Nat.zero_add] at h7
     exact ⟨g', 0, rfl, by simpa using h7⟩
def colOf (f : Lf) (sts : List Stp) (ds : List Dt) : Col := ⟨f.id, eR (ents f.md sts ds), eD (ents f.md sts ds), eV (ents f.md sts ds)⟩
set_option maxRecDepth 100000 in
set_option maxHeartbeats 3200000 in
theorem shred_right (eb es ek en : TypeId × Value) (t : Tr) (n : Nat) (hd : t.Dp n) (hn : n ≤ 1100000) (hs : t.Sm) (hv : vldN t = 0) (ls : List Lf) (hls : lvsT t = ls) (hln : ls.length ≤ 1000) (SF : Nat → List Stp) (ds : List Dt) (hds : ds.length ≤ 100) (hck : ∀ j (h : j < ds.length), ds[j].Sm ∧ chk false t ds[j] = 0)
    (hst : ∀ j (h : j < ls.length), ls[j].path.length ≤ 1000 ∧ StPath t ls[j].path 0 0 (SF j) ∧ (∀ i (h : i < ds.length), FitS (SF j) ds[i]) ∧ (ents ls[j].md (SF j) ds).length ≤ 20000)
    (a : Option Addr) (c : Nat) (hcap : t.sub.length ≤ c) (da : Option Addr) (dc : Nat) (W : World) (he : EC W eb es ek) (hen : W.cell? ⟨5, 0, none⟩ = some (.iface en.1 en.2)) (hl : LiesN W (fun b => b < W.heap.size) a t.sub) (hld : LiesD W (fun b => b < W.heap.size) da ds) :
    Calls Tryz.prog 7 #[nodeV t a c, .slice da ds.length dc] W fun e w' => (∃ ov, e = .returned (.tuple #[ov, .nilIface]) ∧ ColR w' W.heap.size ov (ls.mapIdx fun j f => colOf f (SF j) ds)) ∧ Below W.heap.size W w' := by
 obtain ⟨iv, hvi, hv0, hv1, hv2⟩ := info_parts Tryz.infoC
 have hb : Below W.heap.size W (W.alloc (.cells #[.int .i64 t.id, .string t.nm, .int .i64 t.rep, .int .i64 t.kind, .slice a t.sub.length c] 24)) := (Below.refl _ _).alloc (Nat.le_refl _) _
 have HX : Hid ((W.alloc (.cells #[.int .i64 t.id, .string t.nm, .int .i64 t.rep, .int .i64 t.kind, .slice a t.sub.length c] 24)).heap[W.heap.size]? = some (.cells #[.int .i64 t.id, .string t.nm, .int .i64 t.rep, .int .i64 t.kind, .slice a t.sub.length c] 24 (0, 0))) := heap_alloc_new W _
 have HLv := leaves_right t n hd hn hs a c _ (W.alloc (.cells #[.int .i64 t.id, .string t.nm, .int .i64 t.rep, .int .i64 t.kind, .slice a t.sub.length c] 24)) (hl.keep hb) hcap eb es en (he.keep hb).b (he.keep hb).s ((hb.cell (World.block_lt_of_cell? W _ hen)).trans hen) hv
 rw [hls] at HLv
 have HLv : Hid _ := HLv
 have HB : Hid (Below W.heap.size W (W.alloc (.cells #[.int .i64 t.id, .string t.nm, .int .i64 t.rep, .int .i64 t.kind, .slice a t.sub.length c] 24))) := hb
 have HEr : Hid (EC W eb es ek) := he
 have HEn : Hid (W.cell? ⟨5, 0, none⟩ = some (.iface en.1 en.2)) := hen
 have HL : Hid (LiesN W (fun b => b < W.heap.size) a t.sub) := hl
 have HLd : Hid (LiesD W (fun b => b < W.heap.size) da ds) := hld
 have HCk : Hid (∀ j (h : j < ds.length), ds[j].Sm ∧ chk false t ds[j] = 0) := hck
 have HSt : Hid (∀ j (h : j < ls.length), ls[j].path.length ≤ 1000 ∧ StPath t ls[j].path 0 0 (SF j) ∧ (∀ i (h : i < ds.length), FitS (SF j) ds[i]) ∧ (ents ls[j].md (SF j) ds).length ≤ 20000) := hst
 have HD : Hid (t.Dp n) := hd
 have HSm : Hid t.Sm := hs
 have HV : Hid (vldN t = 0) := hv
 have q : decide ((100 : Int) < (ds.length : Int)) = false := by simp; omega
 clear hl hld hck hst hd hs hv he hen hb hls
 unfold nodeV
 go_enter Tryz.func7, Tryz.ntmps7
 go_wp2_with fail
 refine Calls.mono HLv.out ?_
 rintro e w1 ⟨⟨lv, rfl, hlv⟩, hb1⟩
 have HB1 : Hid (Below W.heap.size W w1) := HB.out.trans (hb1.mono HB.out.size)
 have HX1 : Hid (w1.heap[W.heap.size]? = some (.cells #[.int .i64 t.id, .string t.nm, .int .i64 t.rep, .int .i64 t.kind, .slice a t.sub.length c] 24 (0, 0))) := blk_keep hb1 HX.out
 have HLr : Hid (LvR w1 W.heap.size lv ls) := hlv.down (by simp)
 obtain ⟨la, lc, rfl⟩ : ∃ la lc, lv = .slice la ls.length lc := (by obtain ⟨pvs, _, h2, _⟩ := hlv; exact own_sl h2)
 clear hb1 hlv HLv
 go_wp2
 clear q
 generalize (decide ((100 : Int) < (ds.length : Int))) = bq
 go_loopw [30] (fun x wr => ∃ i : Nat, i ≤ ds.length ∧ x = .int .i64 i ∧ Hid (Below w1.heap.size w1 wr)) (fun x _ => ds.length - (intOf x).toNat)
 case atStart => exact ⟨0, Nat.zero_le _, rfl, Below.refl _ _⟩
 case round =>
  obtain ⟨i, hi, rfl, HBr⟩ := hrel
  have hs1 := HB1.out.size
  have hbr : Below W.heap.size W wr := HB1.out.trans (HBr.out.mono hs1)
  by_cases hlt : i < ds.length
  · obtain ⟨b', o', al1, cl1, af1, cf1, ea, ⟨e0, e1, e2, e3, e4, e5⟩, hd1, hd2⟩ := (HLd.out.keep hbr).at_ i hlt
    subst ea
    have hb2 : Below wr.heap.size wr (wr.alloc (.cells #[.bool ds[i].no, .int .i64 ds[i].v.k, .int .i64 ds[i].v.n, .string ds[i].v.s, .slice al1 ds[i].l.length cl1, .slice af1 ds[i].f.length cf1] 56)) := (Below.refl _ _).alloc (Nat.le_refl _) _
    have HC := checkD_right eb es ek en t ds[i] n HD.out hn HSm.out (HCk.out i hlt).1 HV.out _ _ a c hcap al1 cl1 af1 cf1 (wr.alloc (.cells #[.bool ds[i].no, .int .i64 ds[i].v.k, .int .i64 ds[i].v.n, .string ds[i].v.s, .slice al1 ds[i].l.length cl1, .slice af1 ds[i].f.length cf1] 56)) ((HEr.out.keep hbr).keep hb2) ((hb2.cell (World.block_lt_of_cell? _ _ ((hbr.cell (World.block_lt_of_cell? W _ HEn.out)).trans HEn.out))).trans ((hbr.cell (World.block_lt_of_cell? W _ HEn.out)).trans HEn.out)) ((HL.out.keep hbr).keep hb2) (hd1.keep hb2) (hd2.keep hb2)
    rw [(HCk.out i hlt).2] at HC
    have HC : Hid _ := HC
    have HB2 : Hid _ := hb2
    obtain ⟨⟨p0, p1, p2, p3, p4⟩, _⟩ := row_five (blk_alloc (o' := (.cells #[.bool ds[i].no, .int .i64 ds[i].v.k, .int .i64 ds[i].v.n, .string ds[i].v.s, .slice al1 ds[i].l.length cl1, .slice af1 ds[i].f.length cf1] 56)) (blk_keep HBr.out HX1.out))
    clear hb2 hd1 hd2 hbr
    go_wp2_with fail
    refine Calls.mono HC.out ?_
    rintro e w3 ⟨rfl, hb3⟩
    have HB3 : Hid (Below w1.heap.size w1 w3) := (HBr.out.trans (HB2.out.mono HBr.out.size)).trans (hb3.mono (by have := HBr.out.size; simp; omega))
    clear hb3 p0 p1 p2 p3 p4 e0 e1 e2 e3 e4 e5
    rw [show erV eb es ek 0 = .nilIface from rfl]
    go_wp2
    go_roundw
    case rel => exact ⟨i + 1, by omega, by go_num, HB3⟩
    case measure => simp [intOf]; omega
  · obtain rfl : i = ds.length := by omega
    clear hbr
    have hsr := HBr.out.size
    have HB4 : Hid (Below W.heap.size W wr) := HB1.out.trans (HBr.out.mono hs1)
    have HX4 : Hid (wr.heap[W.heap.size]? = some (.cells #[.int .i64 t.id, .string t.nm, .int .i64 t.rep, .int .i64 t.kind, .slice a t.sub.length c] 24 (0, 0))) := blk_keep HBr.out HX1.out
    have HL4 : Hid (LvR wr W.heap.size (.slice la ls.length lc) ls) := HLr.out.stay fun k cs e hk _ _ => HBr.out.block k (lt_of_block hk)
    obtain ⟨w0, hw0⟩ : ∃ w0, w0 = wr := ⟨_, rfl⟩
    subst hw0
    go_wp2
    go_loopw [11, 48] (fun ov x wr => ∃ (i : Nat) (cs : List Col), i ≤ ls.length ∧ x = .int .i64 i ∧ Hid (cs = (ls.take i).mapIdx fun j f => colOf f (SF j) ds) ∧ Hid (ColR wr w0.heap.size ov cs) ∧ Hid (Below w0.heap.size w0 wr)) (fun _ x _ => ls.length - (intOf x).toNat)
    case atStart => exact ⟨0, [], Nat.zero_le _, rfl, rfl, ⟨[], rfl, World.ownsRow_nil _ _ _ _, fun j h => absurd h (by simp)⟩, Below.refl _ _⟩
    case round =>
     obtain ⟨i, cs, hi, rfl, HCs, HCr, HBw⟩ := hrel
     have hs4 := HBw.out.size
     have hbw : Below W.heap.size W wr := HB4.out.trans (HBw.out.mono (by omega))
     by_cases hlt : i < ls.length
     · obtain ⟨lb, cap, pa, pc, elv, ⟨g0, g1, g2, g3, g4⟩, hlies⟩ := (HL4.out.stay (w' := wr) fun k cs e hk _ _ => HBw.out.block k (lt_of_block hk)).at_ i hlt
       injection elv with ela _ elc
       subst ela elc
       obtain ⟨qs, hq1, hq2, hq3⟩ := HCr.out
       have hst := HSt.out i hlt
       have hb2 : Below wr.heap.size wr (wr.alloc (.cells #[.int .i64 ls[i].id, .int .i64 ls[i].kind, .int .i64 (ls[i].mr : Nat), .int .i64 (ls[i].md : Nat), .slice pa ls[i].path.length pc] 72)) := (Below.refl _ _).alloc (Nat.le_refl _) _
       have hb2' : Below W.heap.size W (wr.alloc (.cells #[.int .i64 ls[i].id, .int .i64 ls[i].kind, .int .i64 (ls[i].mr : Nat), .int .i64 (ls[i].md : Nat), .slice pa ls[i].path.length pc] 72)) := hbw.trans (hb2.mono (by omega))
       have HC : Hid _ := columnOf_any t HSm.out a c ls[i] hst.1 pa pc (SF i) ds hds da dc (wr.alloc (.cells #[.int .i64 ls[i].id, .int .i64 ls[i].kind, .int .i64 (ls[i].mr : Nat), .int .i64 (ls[i].md : Nat), .slice pa ls[i].path.length pc] 72)) (HL.out.stay (fun b h _ => by simp; omega) (fun b _ h => hb2'.block b h)) (hlies.keep hb2) hst.2.1 (HLd.out.stay (fun b h _ => by simp; omega) (fun b _ h => hb2'.block b h)) (fun j h => ⟨(HCk.out j h).1, hst.2.2.1 j h⟩) hst.2.2.2
       have HB2 : Hid (Below wr.heap.size wr (wr.alloc (.cells #[.int .i64 ls[i].id, .int .i64 ls[i].kind, .int .i64 (ls[i].mr : Nat), .int .i64 (ls[i].md : Nat), .slice pa ls[i].path.length pc] 72))) := hb2
       have HQ1 : Hid (qs.length = cs.length) := hq1
       have HQ2 : Hid (wr.ownsRow w0.heap.size 50 4 u11 cs.length ((List.zipWith colC cs qs).flatten)) := hq2
       have HQ3 : Hid (∀ j (h : j < cs.length) (h' : j < qs.length), ColQ wr w0.heap.size cs[j] qs[j]) := hq3
       have hcl : cs.length = i := by rw [HCs.out]; simp; omega
       have hfl := col_len cs qs hq1
       obtain ⟨⟨p0, p1, p2, p3, p4⟩, _⟩ := row_five (blk_alloc (o' := (.cells #[.int .i64 ls[i].id, .int .i64 ls[i].kind, .int .i64 (ls[i].mr : Nat), .int .i64 (ls[i].md : Nat), .slice pa ls[i].path.length pc] 72)) (blk_keep HBw.out HX4.out))
       clear hst hb2 hb2' hq1 hq2 hq3 hlies hbw
       go_wp2_with fail
       refine Calls.mono HC.out ?_
       rintro e w5 ⟨⟨rv, dv, vv, rfl, hr5, hd5, hv5⟩, hb5⟩
       obtain ⟨ra, rc, rfl⟩ := own_sl hr5
       obtain ⟨qa, qc, rfl⟩ := own_sl hd5
       obtain ⟨va, vc, rfl⟩ := own_sl hv5
       have HB5 : Hid (Below wr.heap.size wr (w5.alloc (.cells #[.int .i64 ls[i].id, .slice ra (eR (ents ls[i].md (SF i) ds)).length rc, .slice qa (eD (ents ls[i].md (SF i) ds)).length qc, .slice va (eV (ents ls[i].md (SF i) ds)).length vc] 50))) := (HB2.out.trans (hb5.mono (by simp))).alloc (by have := hb5.size; simp at this; omega) _
       have HR5 : Hid ((w5.alloc (.cells #[.int .i64 ls[i].id, .slice ra (eR (ents ls[i].md (SF i) ds)).length rc, .slice qa (eD (ents ls[i].md (SF i) ds)).length qc, .slice va (eV (ents ls[i].md (SF i) ds)).length vc] 50)).ownsRow w0.heap.size 50 4 u11 cs.length ((List.zipWith colC cs qs).flatten)) := ow_kept HQ2.out HB5.out
       have HQ5 : Hid (∀ j (h : j < cs.length) (h' : j < qs.length), ColQ (w5.alloc (.cells #[.int .i64 ls[i].id, .slice ra (eR (ents ls[i].md (SF i) ds)).length rc, .slice qa (eD (ents ls[i].md (SF i) ds)).length qc, .slice va (eV (ents ls[i].md (SF i) ds)).length vc] 50)) w0.heap.size cs[j] qs[j]) := fun j h h' => (HQ3.out j h h').stay fun k cs' e hk _ _ => HB5.out.block k (lt_of_block hk)
       have HN5 : Hid (ColQ (w5.alloc (.cells #[.int .i64 ls[i].id, .slice ra (eR (ents ls[i].md (SF i) ds)).length rc, .slice qa (eD (ents ls[i].md (SF i) ds)).length qc, .slice va (eV (ents ls[i].md (SF i) ds)).length vc] 50)) w0.heap.size (colOf ls[i] (SF i) ds) (.slice ra (eR (ents ls[i].md (SF i) ds)).length rc, .slice qa (eD (ents ls[i].md (SF i) ds)).length qc, .slice va (eV (ents ls[i].md (SF i) ds)).length vc)) := ⟨(own_low hr5 (by simp; omega)).alloc _, (own_low hd5 (by simp; omega)).alloc _, (own_low hv5 (by simp; omega)).alloc _⟩
       have hs5 : w0.heap.size ≤ w5.heap.size := by have := hb5.size; simp at this; omega
       clear hr5 hd5 hv5 hb5 p0 p1 p2 p3 p4 g0 g1 g2 g3 g4 HC
       go_wp2_with (at_builtin; refine wpList_append_own _ rfl _ _ 30 rfl w0.heap.size 50 iv (.agg #[.int .i64 0, .slice none 0 0, .slice none 0 0, .slice none 0 0]) 4 80 Tryz.underlying30 hvi hv0 hv1 hv2 rfl (by decide) _ cs.length (List.zipWith colC cs qs).flatten rfl (HR5.out.alloc _) ⟨w5.heap.size + 1, 0, none⟩ 1 1 [.int .i64 ls[i].id, .slice ra (eR (ents ls[i].md (SF i) ds)).length rc, .slice qa (eD (ents ls[i].md (SF i) ds)).length qc, .slice va (eV (ents ls[i].md (SF i) ds)).length vc] rfl rfl (by intro j v hv; have h := four_cells (w := w5.alloc (.cells #[.int .i64 ls[i].id, .slice ra (eR (ents ls[i].md (SF i) ds)).length rc, .slice qa (eD (ents ls[i].md (SF i) ds)).length qc, .slice va (eV (ents ls[i].md (SF i) ds)).length vc] 50)) (T := 50) j v hv; simpa using h) (by intro u hu; simp at hu; rcases hu with rfl | rfl | rfl | rfl <;> rfl) (by unfold maxLen; omega) (by omega) (by simp; omega) ?_; intro ov2 w6 hown6 hgrow6 _)
       have HCr6 : Hid (ColR w6 w0.heap.size ov2 (cs ++ [colOf ls[i] (SF i) ds])) := ColR.push HQ1.out HQ5.out HR5.out HN5.out (by simpa [colC, colOf] using hown6) hgrow6
       have HB6 : Hid (Below w0.heap.size w0 w6) := (by
        exact below_own ((HBw.out.trans (HB5.out.mono hs4)).alloc (by simp; omega) _) (Nat.le_refl _) (HR5.out.alloc _) hgrow6)
       have HCs6 : Hid (cs ++ [colOf ls[i] (SF i) ds] = (ls.take (i + 1)).mapIdx fun j f => colOf f (SF j) ds) := (by
        show _ = _
        rw [List.take_succ_eq_append_getElem hlt, List.mapIdx_append, ← HCs.out]
        have hm : min i ls.length = i := by omega
        simp [hm])
       clear hown6 hgrow6
       go_roundw
       case rel => exact ⟨i + 1, _, by omega, by go_num, HCs6, HCr6, HB6⟩
       case measure => simp [intOf]; omega
     · obtain rfl : i = ls.length := by omega
       have HB7 : Hid (Below W.heap.size W wr) := hbw
       have HE : Hid (cs = ls.mapIdx fun j f => colOf f (SF j) ds) := (by show _ = _; rw [HCs.out, List.take_length])
       obtain ⟨oa, oc, eov⟩ : ∃ oa oc, u11 = .slice oa cs.length oc := (by obtain ⟨qs, _, h2, _⟩ := HCr.out; exact own_sl h2)
       subst eov
       have hsw := HB4.out.size
       clear hbw
       go_wp2
       go_ret2
       refine ⟨⟨_, rfl, ?_⟩, HB7.out⟩
       rw [← HE.out]
       exact HCr.out.down hsw
end Go.Proofs.YteonbmaokphleaaGreatDoor
