/-
  shred.fits, where a level of Rep is outside.
  shred.fits, where no level of Rep is outside.
  shred.fits.
-/
import Derived.Test.YtbicfjimlpdnkaaGreatDoorHBWriter
import Derived.Test.YtbicfjimlpdnkaaGreatDoorHBRow4
import Derived.Deep.RegionHeld3
import Derived.RegionTactic
namespace Go.Proofs.YtbicfjimlpdnkaaGreatDoor
open Go.RowKit
set_option maxRecDepth 100000 in
set_option maxHeartbeats 8000000 in
theorem sfits_t (lid kind mr md : Int) (pa : Option Addr) (pn pc : Nat) (cid : Int) (ra : Option Addr) (rs : List Int) (rc : Nat) (da : Option Addr) (ds : List Int) (dc : Nat) (va : Option Addr) (nv vc : Nat) (hr : rs.length ≤ 1048576) (hd : ds.length ≤ 1048576) (W : World) (hlr : Lies W ra (i64s rs)) (hld : Lies W da (i64s ds)) (HT : Hid ((rs.any fun x => !(btw 0 x mr)) = true)) :
    Calls Tryz.prog 99 #[leafV lid kind mr md pa pn pc, colV cid ra rs.length rc da ds.length dc va nv vc] W fun e w' => e = .returned (.bool (fitB lid mr md cid rs ds nv)) ∧ Below W.heap.size W w' := by
  have hb2 : Below W.heap.size W ((W.alloc (.cells #[.int .i64 lid, .int .i64 kind, .int .i64 mr, .int .i64 md, .slice pa pn pc] 67)).alloc (.cells #[.int .i64 cid, .slice ra rs.length rc, .slice da ds.length dc, .slice va nv vc] 42)) := ((Below.refl _ _).alloc (Nat.le_refl _) _).alloc (by simp) _
  have HB : Hid (Below W.heap.size W ((W.alloc (.cells #[.int .i64 lid, .int .i64 kind, .int .i64 mr, .int .i64 md, .slice pa pn pc] 67)).alloc (.cells #[.int .i64 cid, .slice ra rs.length rc, .slice da ds.length dc, .slice va nv vc] 42))) := hb2
  have HX : Hid (((W.alloc (.cells #[.int .i64 lid, .int .i64 kind, .int .i64 mr, .int .i64 md, .slice pa pn pc] 67)).alloc (.cells #[.int .i64 cid, .slice ra rs.length rc, .slice da ds.length dc, .slice va nv vc] 42)).heap[W.heap.size]? = some (.cells #[.int .i64 lid, .int .i64 kind, .int .i64 mr, .int .i64 md, .slice pa pn pc] 67 (0, 0))) := blk_alloc (heap_alloc_new W _)
  have HY : Hid (((W.alloc (.cells #[.int .i64 lid, .int .i64 kind, .int .i64 mr, .int .i64 md, .slice pa pn pc] 67)).alloc (.cells #[.int .i64 cid, .slice ra rs.length rc, .slice da ds.length dc, .slice va nv vc] 42)).heap[W.heap.size + 1]? = some (.cells #[.int .i64 cid, .slice ra rs.length rc, .slice da ds.length dc, .slice va nv vc] 42 (0, 0))) := (by
    have h := heap_alloc_new (W.alloc (.cells #[.int .i64 lid, .int .i64 kind, .int .i64 mr, .int .i64 md, .slice pa pn pc] 67)) (.cells #[.int .i64 cid, .slice ra rs.length rc, .slice da ds.length dc, .slice va nv vc] 42)
    rwa [show (W.alloc (.cells #[.int .i64 lid, .int .i64 kind, .int .i64 mr, .int .i64 md, .slice pa pn pc] 67)).heap.size = W.heap.size + 1 by simp] at h)
  have HLr : Hid (Lies ((W.alloc (.cells #[.int .i64 lid, .int .i64 kind, .int .i64 mr, .int .i64 md, .slice pa pn pc] 67)).alloc (.cells #[.int .i64 cid, .slice ra rs.length rc, .slice da ds.length dc, .slice va nv vc] 42)) ra (i64s rs)) := hlr.keep hb2
  have HLd : Hid (Lies ((W.alloc (.cells #[.int .i64 lid, .int .i64 kind, .int .i64 mr, .int .i64 md, .slice pa pn pc] 67)).alloc (.cells #[.int .i64 cid, .slice ra rs.length rc, .slice da ds.length dc, .slice va nv vc] 42)) da (i64s ds)) := hld.keep hb2
  clear hlr hld hb2
  unfold leafV colV
  by_cases h1 : cid = lid
  · by_cases h2 : rs.length = ds.length
    · subst h1
      have HE0 : Hid (fitB cid mr md cid rs ds nv = if headB rs = true then false else if (rs.any fun x => !(btw 0 x mr)) = true ∨ (ds.any fun x => !(btw 0 x md)) = true then false else decide (nv = cntE md ds)) := (by show _ = _; unfold fitB; rw [if_neg (by simp [h2])])
      have q2 : ((rs.length : Int) == (ds.length : Int)) = true := by simp [h2]
      have H2 : Hid (rs.length = ds.length) := h2
      clear h2
      obtain ⟨b1, H1⟩ : ∃ b1, Hid ((rs.any fun x => !(btw 0 x mr)) = b1) := ⟨_, rfl⟩
      obtain ⟨b2, Hb2⟩ : ∃ b2, Hid ((ds.any fun x => !(btw 0 x md)) = b2) := ⟨_, rfl⟩
      have b0 : Below ((W.alloc (.cells #[.int .i64 cid, .int .i64 kind, .int .i64 mr, .int .i64 md, .slice pa pn pc] 67)).alloc (.cells #[.int .i64 cid, .slice ra rs.length rc, .slice da ds.length dc, .slice va nv vc] 42)).heap.size ((W.alloc (.cells #[.int .i64 cid, .int .i64 kind, .int .i64 mr, .int .i64 md, .slice pa pn pc] 67)).alloc (.cells #[.int .i64 cid, .slice ra rs.length rc, .slice da ds.length dc, .slice va nv vc] 42)) ((W.alloc (.cells #[.int .i64 cid, .int .i64 kind, .int .i64 mr, .int .i64 md, .slice pa pn pc] 67)).alloc (.cells #[.int .i64 cid, .slice ra rs.length rc, .slice da ds.length dc, .slice va nv vc] 42)) := Below.refl _ _
      have HN : Hid (∀ X, Below ((W.alloc (.cells #[.int .i64 cid, .int .i64 kind, .int .i64 mr, .int .i64 md, .slice pa pn pc] 67)).alloc (.cells #[.int .i64 cid, .slice ra rs.length rc, .slice da ds.length dc, .slice va nv vc] 42)).heap.size ((W.alloc (.cells #[.int .i64 cid, .int .i64 kind, .int .i64 mr, .int .i64 md, .slice pa pn pc] 67)).alloc (.cells #[.int .i64 cid, .slice ra rs.length rc, .slice da ds.length dc, .slice va nv vc] 42)) X → X.cell? ⟨W.heap.size, 0, none⟩ = some (.int .i64 cid) ∧ X.cell? ⟨W.heap.size, 1, none⟩ = some (.int .i64 kind) ∧ X.cell? ⟨W.heap.size, 2, none⟩ = some (.int .i64 mr) ∧ X.cell? ⟨W.heap.size, 3, none⟩ = some (.int .i64 md) ∧ X.cell? ⟨W.heap.size, 4, none⟩ = some (.slice pa pn pc) ∧ X.cell? ⟨W.heap.size + 1, 0, none⟩ = some (.int .i64 cid) ∧ X.cell? ⟨W.heap.size + 1, 1, none⟩ = some (.slice ra rs.length rc) ∧ X.cell? ⟨W.heap.size + 1, 2, none⟩ = some (.slice da ds.length dc) ∧ X.cell? ⟨W.heap.size + 1, 3, none⟩ = some (.slice va nv vc) ∧ Below ((W.alloc (.cells #[.int .i64 cid, .int .i64 kind, .int .i64 mr, .int .i64 md, .slice pa pn pc] 67)).alloc (.cells #[.int .i64 cid, .slice ra rs.length rc, .slice da ds.length dc, .slice va nv vc] 42)).heap.size ((W.alloc (.cells #[.int .i64 cid, .int .i64 kind, .int .i64 mr, .int .i64 md, .slice pa pn pc] 67)).alloc (.cells #[.int .i64 cid, .slice ra rs.length rc, .slice da ds.length dc, .slice va nv vc] 42)) X) := fun X hX => by
        obtain ⟨⟨n0, n1, n2, n3, n4⟩, _⟩ := row_five (blk_keep hX HX.out)
        obtain ⟨l0, l1, l2, l3⟩ := row_four (blk_keep hX HY.out)
        exact ⟨n0, n1, n2, n3, n4, l0, l1, l2, l3, hX⟩
      have HC1 := containsO_any mr (W.heap.size + 1 + 1) ra rc rs hr ((((W.alloc (.cells #[.int .i64 cid, .int .i64 kind, .int .i64 mr, .int .i64 md, .slice pa pn pc] 67)).alloc (.cells #[.int .i64 cid, .slice ra rs.length rc, .slice da ds.length dc, .slice va nv vc] 42)).alloc (.cells #[.int .i64 mr] 3)).drew) (by
        have h := heap_alloc_new ((W.alloc (.cells #[.int .i64 cid, .int .i64 kind, .int .i64 mr, .int .i64 md, .slice pa pn pc] 67)).alloc (.cells #[.int .i64 cid, .slice ra rs.length rc, .slice da ds.length dc, .slice va nv vc] 42)) (.cells #[.int .i64 mr] 3)
        rw [show ((W.alloc (.cells #[.int .i64 cid, .int .i64 kind, .int .i64 mr, .int .i64 md, .slice pa pn pc] 67)).alloc (.cells #[.int .i64 cid, .slice ra rs.length rc, .slice da ds.length dc, .slice va nv vc] 42)).heap.size = W.heap.size + 1 + 1 by simp] at h
        exact h) (HLr.out.keep (b0.alloc (Nat.le_refl _) _).drew)
      have HC2 := containsO_any md (W.heap.size + 1 + 1 + 1) da dc ds hd (((((W.alloc (.cells #[.int .i64 cid, .int .i64 kind, .int .i64 mr, .int .i64 md, .slice pa pn pc] 67)).alloc (.cells #[.int .i64 cid, .slice ra rs.length rc, .slice da ds.length dc, .slice va nv vc] 42)).alloc (.cells #[.int .i64 mr] 3)).alloc (.cells #[.int .i64 md] 3)).drew) (by
        have h := heap_alloc_new (((W.alloc (.cells #[.int .i64 cid, .int .i64 kind, .int .i64 mr, .int .i64 md, .slice pa pn pc] 67)).alloc (.cells #[.int .i64 cid, .slice ra rs.length rc, .slice da ds.length dc, .slice va nv vc] 42)).alloc (.cells #[.int .i64 mr] 3)) (.cells #[.int .i64 md] 3)
        rw [show (((W.alloc (.cells #[.int .i64 cid, .int .i64 kind, .int .i64 mr, .int .i64 md, .slice pa pn pc] 67)).alloc (.cells #[.int .i64 cid, .slice ra rs.length rc, .slice da ds.length dc, .slice va nv vc] 42)).alloc (.cells #[.int .i64 mr] 3)).heap.size = W.heap.size + 1 + 1 + 1 by simp] at h
        exact h) (HLd.out.keep ((b0.alloc (Nat.le_refl _) _).alloc (by simp) _).drew)
      rw [H1.out] at HC1
      rw [Hb2.out] at HC2
      have HC1 : Hid _ := HC1
      have HC2 : Hid _ := HC2
      have HBx1 : Hid (Below W.heap.size W (((W.alloc (.cells #[.int .i64 cid, .int .i64 kind, .int .i64 mr, .int .i64 md, .slice pa pn pc] 67)).alloc (.cells #[.int .i64 cid, .slice ra rs.length rc, .slice da ds.length dc, .slice va nv vc] 42)).alloc (.cells #[.int .i64 mr] 3)).drew) := (HB.out.alloc (by simp; omega) _).drew
      have HBx2 : Hid (Below W.heap.size W ((((W.alloc (.cells #[.int .i64 cid, .int .i64 kind, .int .i64 mr, .int .i64 md, .slice pa pn pc] 67)).alloc (.cells #[.int .i64 cid, .slice ra rs.length rc, .slice da ds.length dc, .slice va nv vc] 42)).alloc (.cells #[.int .i64 mr] 3)).alloc (.cells #[.int .i64 md] 3)).drew) := ((HB.out.alloc (by simp; omega) _).alloc (by simp; omega) _).drew
      have HEg : Hid (headB rs = false → fitB cid mr md cid rs ds nv = if b1 = true ∨ b2 = true then false else decide (nv = cntE md ds)) := fun hh => by
        rw [HE0.out, H1.out, Hb2.out, hh]
        rfl
      cases b1 with
      | true =>
        by_cases hl0 : rs.length = 0
        · have HE : Hid _ := HEg.out (by rw [List.eq_nil_of_length_eq_zero hl0]; rfl)
          have q0 : decide ((0 : Int) < (rs.length : Int)) = false := by rw [decide_eq_false_iff_not]; omega
          have hnp : ¬ 0 < rs.length := by omega
          clear HE0 hl0 HEg
          go_enter Tryz.func99, Tryz.ntmps99
          go_wp2
          refine wp_region_held_drew (S := (fun X => X.cell? ⟨W.heap.size, 0, none⟩ = some (.int .i64 cid) ∧ X.cell? ⟨W.heap.size, 1, none⟩ = some (.int .i64 kind) ∧ X.cell? ⟨W.heap.size, 2, none⟩ = some (.int .i64 mr) ∧ X.cell? ⟨W.heap.size, 3, none⟩ = some (.int .i64 md) ∧ X.cell? ⟨W.heap.size, 4, none⟩ = some (.slice pa pn pc) ∧ X.cell? ⟨W.heap.size + 1, 0, none⟩ = some (.int .i64 cid) ∧ X.cell? ⟨W.heap.size + 1, 1, none⟩ = some (.slice ra rs.length rc) ∧ X.cell? ⟨W.heap.size + 1, 2, none⟩ = some (.slice da ds.length dc) ∧ X.cell? ⟨W.heap.size + 1, 3, none⟩ = some (.slice va nv vc) ∧ Below ((W.alloc (.cells #[.int .i64 cid, .int .i64 kind, .int .i64 mr, .int .i64 md, .slice pa pn pc] 67)).alloc (.cells #[.int .i64 cid, .slice ra rs.length rc, .slice da ds.length dc, .slice va nv vc] 42)).heap.size ((W.alloc (.cells #[.int .i64 cid, .int .i64 kind, .int .i64 mr, .int .i64 md, .slice pa pn pc] 67)).alloc (.cells #[.int .i64 cid, .slice ra rs.length rc, .slice da ds.length dc, .slice va nv vc] 42)) X)) (by kernel_rfl) (HN.out _ b0.drew) (fun hHeld => ?_)
          refine wpAnyH_take (i := 0) (oi := { dst := some 31, op := Op.fieldAddr 42 (Operand.tmp 3) 1, type := 0, pos := "column.go:89", after := #[], guard := none }) (v := ?v0x10) rfl (by kernel_rfl) (by kernel_rfl) (by kernel_rfl) (fun _ _ _ h => h) (Or.inl ⟨by rfl, ?hy0x10⟩) hHeld ?_
          case hy0x10 => (intro w hSw; (try dsimp only at hSw); go_simp; (first | done | with_reducible rfl))
          (try simp only [Act.put, List.setIfInBounds_toArray, List.set_cons_zero, List.set_cons_succ])
          refine wpAnyH_take (i := 1) (oi := { dst := some 32, op := Op.load 36 (Operand.tmp 31), type := 36, pos := "column.go:89", after := #[{ on := 0, ground := Ground.data }], guard := none }) (v := ?v1x10) rfl (by kernel_rfl) (by kernel_rfl) (by kernel_rfl) (fun _ _ _ h => h) (Or.inl ⟨by rfl, ?hy1x10⟩) hHeld ?_
          case hy1x10 => (intro w hSw; (try dsimp only at hSw); go_simp; (first | done | with_reducible rfl))
          (try simp only [Act.put, List.setIfInBounds_toArray, List.set_cons_zero, List.set_cons_succ])
          refine wpAnyH_take (i := 2) (oi := { dst := some 33, op := Op.move (Operand.tmp 5), type := 152, pos := "column.go:89", after := #[], guard := none }) (v := ?v2x10) rfl (by kernel_rfl) (by kernel_rfl) (by kernel_rfl) (fun _ _ _ h => h) (Or.inl ⟨by rfl, ?hy2x10⟩) hHeld ?_
          case hy2x10 => (intro w hSw; (try dsimp only at hSw); go_simp; (first | done | with_reducible rfl))
          (try simp only [Act.put, List.setIfInBounds_toArray, List.set_cons_zero, List.set_cons_succ])
          refine wpAnyH_take (i := 3) (oi := { dst := some 34, op := Op.fieldAddr 67 (Operand.tmp 2) 2, type := 0, pos := "column.go:89", after := #[], guard := none }) (v := ?v3x10) rfl (by kernel_rfl) (by kernel_rfl) (by kernel_rfl) (fun _ _ _ h => h) (Or.inl ⟨by rfl, ?hy3x10⟩) hHeld ?_
          case hy3x10 => (intro w hSw; (try dsimp only at hSw); go_simp; (first | done | with_reducible rfl))
          (try simp only [Act.put, List.setIfInBounds_toArray, List.set_cons_zero, List.set_cons_succ])
          refine wpAnyH_take (i := 4) (oi := { dst := some 35, op := Op.load 3 (Operand.tmp 34), type := 3, pos := "column.go:89", after := #[{ on := 3, ground := Ground.data }], guard := none }) (v := ?v4x10) rfl (by kernel_rfl) (by kernel_rfl) (by kernel_rfl) (fun _ _ _ h => h) (Or.inl ⟨by rfl, ?hy4x10⟩) hHeld ?_
          case hy4x10 => (intro w hSw; (try dsimp only at hSw); go_simp; (first | done | with_reducible rfl))
          (try simp only [Act.put, List.setIfInBounds_toArray, List.set_cons_zero, List.set_cons_succ])
          refine wpAnyH_ready (rs := [5]) (by kernel_rfl) (by simp) ?_
          refine AllReadyH.cons (o := { dst := some 36, op := Op.call { callee := Callee.value (Operand.tmp 33), args := #[Operand.tmp 35], argTypes := #[3] }, type := 121, pos := "column.go:89", after := #[{ on := 2, ground := Ground.data }, { on := 4, ground := Ground.data }], guard := none }) rfl (fun K hK => ?_) AllReadyH.nil
          go_simp
          (go_at_call 114; (with_reducible refine Calls.mono (outside_any mr _) ?_); rintro e w' ⟨rfl, hw'⟩; subst hw')
          go_wp2_with fail
          refine hK.out _ _ (HN.out _ ((b0.alloc (Nat.le_refl _) _).drew)) (fun hH2 => ?_)
          (try simp only [Act.put, List.setIfInBounds_toArray, List.set_cons_zero, List.set_cons_succ])
          refine wpAnyH_ready (rs := [6]) (by kernel_rfl) (by simp) ?_
          refine AllReadyH.cons (o := { dst := some 37, op := Op.call { callee := Callee.value (Operand.func 116), args := #[Operand.tmp 32, Operand.tmp 36], argTypes := #[36, 121] }, type := 4, pos := "column.go:89", after := #[{ on := 1, ground := Ground.data }, { on := 5, ground := Ground.data }, { on := 5, ground := Ground.chain }], guard := none }) rfl (fun K hK => ?_) AllReadyH.nil
          go_simp
          (go_at_call 116; refine Calls.mono HC1.out ?_; rintro e w' ⟨rfl, hw'⟩; subst hw')
          go_wp2_with fail
          refine hK.out _ _ (HN.out _ ((b0.alloc (Nat.le_refl _) _).drew)) (fun hH3 => ?_)
          (try simp only [Act.put, List.setIfInBounds_toArray, List.set_cons_zero, List.set_cons_succ])
          refine wpAnyH_take (i := 7) (oi := { dst := some 38, op := Op.move (Operand.tmp 37), type := 4, pos := "column.go:89", after := #[{ on := 6, ground := Ground.data }, { on := 6, ground := Ground.chain }], guard := none }) (v := ?v7x10) rfl (by kernel_rfl) (by kernel_rfl) (by kernel_rfl) (fun _ _ _ h => h) (Or.inl ⟨by rfl, ?hy7x10⟩) hH3 ?_
          case hy7x10 => (intro w hSw; (try dsimp only at hSw); go_simp; (first | done | with_reducible rfl))
          (try simp only [Act.put, List.setIfInBounds_toArray, List.set_cons_zero, List.set_cons_succ])
          refine wpAnyH_take (i := 8) (oi := { dst := some 39, op := Op.fieldAddr 42 (Operand.tmp 3) 2, type := 0, pos := "column.go:89", after := #[{ on := 7, ground := Ground.guard }], guard := some (7, false) }) (v := undef) rfl (by kernel_rfl) (by kernel_rfl) (by kernel_rfl) (fun _ _ _ h => h) (Or.inr ⟨by rfl, rfl⟩) hH3 ?_
          (try simp only [Act.put, List.setIfInBounds_toArray, List.set_cons_zero, List.set_cons_succ])
          refine wpAnyH_take (i := 9) (oi := { dst := some 40, op := Op.load 36 (Operand.tmp 39), type := 36, pos := "column.go:89", after := #[{ on := 8, ground := Ground.data }, { on := 7, ground := Ground.guard }], guard := some (7, false) }) (v := undef) rfl (by kernel_rfl) (by kernel_rfl) (by kernel_rfl) (fun _ _ _ h => h) (Or.inr ⟨by rfl, rfl⟩) hH3 ?_
          (try simp only [Act.put, List.setIfInBounds_toArray, List.set_cons_zero, List.set_cons_succ])
          refine wpAnyH_take (i := 10) (oi := { dst := some 41, op := Op.move (Operand.tmp 5), type := 152, pos := "column.go:89", after := #[{ on := 7, ground := Ground.guard }], guard := some (7, false) }) (v := undef) rfl (by kernel_rfl) (by kernel_rfl) (by kernel_rfl) (fun _ _ _ h => h) (Or.inr ⟨by rfl, rfl⟩) hH3 ?_
          (try simp only [Act.put, List.setIfInBounds_toArray, List.set_cons_zero, List.set_cons_succ])
          refine wpAnyH_take (i := 11) (oi := { dst := some 42, op := Op.fieldAddr 67 (Operand.tmp 2) 3, type := 0, pos := "column.go:89", after := #[{ on := 7, ground := Ground.guard }], guard := some (7, false) }) (v := undef) rfl (by kernel_rfl) (by kernel_rfl) (by kernel_rfl) (fun _ _ _ h => h) (Or.inr ⟨by rfl, rfl⟩) hH3 ?_
          (try simp only [Act.put, List.setIfInBounds_toArray, List.set_cons_zero, List.set_cons_succ])
          refine wpAnyH_take (i := 12) (oi := { dst := some 43, op := Op.load 3 (Operand.tmp 42), type := 3, pos := "column.go:89", after := #[{ on := 11, ground := Ground.data }, { on := 7, ground := Ground.guard }], guard := some (7, false) }) (v := undef) rfl (by kernel_rfl) (by kernel_rfl) (by kernel_rfl) (fun _ _ _ h => h) (Or.inr ⟨by rfl, rfl⟩) hH3 ?_
          (try simp only [Act.put, List.setIfInBounds_toArray, List.set_cons_zero, List.set_cons_succ])
          refine wpAnyH_take (i := 13) (oi := { dst := some 44, op := Op.call { callee := Callee.value (Operand.tmp 41), args := #[Operand.tmp 43], argTypes := #[3] }, type := 121, pos := "column.go:89", after := #[{ on := 10, ground := Ground.data }, { on := 12, ground := Ground.data }, { on := 7, ground := Ground.chain }, { on := 7, ground := Ground.guard }], guard := some (7, false) }) (v := undef) rfl (by kernel_rfl) (by kernel_rfl) (by kernel_rfl) (fun _ _ _ h => h) (Or.inr ⟨by rfl, rfl⟩) hH3 ?_
          (try simp only [Act.put, List.setIfInBounds_toArray, List.set_cons_zero, List.set_cons_succ])
          refine wpAnyH_take (i := 14) (oi := { dst := some 45, op := Op.call { callee := Callee.value (Operand.func 116), args := #[Operand.tmp 40, Operand.tmp 44], argTypes := #[36, 121] }, type := 4, pos := "column.go:89", after := #[{ on := 9, ground := Ground.data }, { on := 13, ground := Ground.data }, { on := 13, ground := Ground.chain }, { on := 7, ground := Ground.guard }], guard := some (7, false) }) (v := undef) rfl (by kernel_rfl) (by kernel_rfl) (by kernel_rfl) (fun _ _ _ h => h) (Or.inr ⟨by rfl, rfl⟩) hH3 ?_
          (try simp only [Act.put, List.setIfInBounds_toArray, List.set_cons_zero, List.set_cons_succ])
          refine wpAnyH_take (i := 15) (oi := { dst := some 46, op := Op.pick (Operand.tmp 38) (Operand.const (Value.bool true)) (Operand.tmp 45), type := 4, pos := "column.go:89", after := #[{ on := 7, ground := Ground.data }, { on := 14, ground := Ground.data }], guard := none }) (v := ?v15x10) rfl (by kernel_rfl) (by kernel_rfl) (by kernel_rfl) (fun _ _ _ h => h) (Or.inl ⟨by rfl, ?hy15x10⟩) hH3 ?_
          case hy15x10 => (intro w hSw; (try dsimp only at hSw); go_simp; (first | done | with_reducible rfl))
          (try simp only [Act.put, List.setIfInBounds_toArray, List.set_cons_zero, List.set_cons_succ])
          refine wpAnyH_done (by kernel_rfl) ?_ _
          all_goals
            go_wp2
            go_ret
            exact ⟨by rw [HE.out]; rfl, HBx1.out⟩
        · have hpos : 0 < rs.length := by omega
          have q0 : decide ((0 : Int) < (rs.length : Int)) = true := by rw [decide_eq_true_iff]; omega
          obtain ⟨rb, ro, era, hcell⟩ := HLr.out 0 (by simpa [i64s] using hpos)
          subst era
          obtain ⟨r, hr0⟩ : ∃ r, r = rs[0] := ⟨_, rfl⟩
          have hh := headB_at rs hpos
          rw [← hr0] at hh
          simp only [Nat.add_zero] at hcell
          rw [show (i64s rs)[0]'(by simpa [i64s] using hpos) = .int .i64 rs[0] by simp [i64s], ← hr0] at hcell
          have HH : Hid (headB rs = !(r == 0)) := hh
          clear hl0 hh hr0
          by_cases hz : r = 0
          · subst hz
            have HE : Hid _ := HEg.out (by rw [HH.out]; rfl)
            clear HE0 HEg HH
            go_enter Tryz.func99, Tryz.ntmps99
            go_wp2
            refine wp_region_held_drew (S := (fun X => X.cell? ⟨W.heap.size, 0, none⟩ = some (.int .i64 cid) ∧ X.cell? ⟨W.heap.size, 1, none⟩ = some (.int .i64 kind) ∧ X.cell? ⟨W.heap.size, 2, none⟩ = some (.int .i64 mr) ∧ X.cell? ⟨W.heap.size, 3, none⟩ = some (.int .i64 md) ∧ X.cell? ⟨W.heap.size, 4, none⟩ = some (.slice pa pn pc) ∧ X.cell? ⟨W.heap.size + 1, 0, none⟩ = some (.int .i64 cid) ∧ X.cell? ⟨W.heap.size + 1, 1, none⟩ = some (.slice (some ⟨rb, ro, none⟩) rs.length rc) ∧ X.cell? ⟨W.heap.size + 1, 2, none⟩ = some (.slice da ds.length dc) ∧ X.cell? ⟨W.heap.size + 1, 3, none⟩ = some (.slice va nv vc) ∧ Below ((W.alloc (.cells #[.int .i64 cid, .int .i64 kind, .int .i64 mr, .int .i64 md, .slice pa pn pc] 67)).alloc (.cells #[.int .i64 cid, .slice (some ⟨rb, ro, none⟩) rs.length rc, .slice da ds.length dc, .slice va nv vc] 42)).heap.size ((W.alloc (.cells #[.int .i64 cid, .int .i64 kind, .int .i64 mr, .int .i64 md, .slice pa pn pc] 67)).alloc (.cells #[.int .i64 cid, .slice (some ⟨rb, ro, none⟩) rs.length rc, .slice da ds.length dc, .slice va nv vc] 42)) X)) (by kernel_rfl) (HN.out _ b0.drew) (fun hHeld => ?_)
            refine wpAnyH_take (i := 0) (oi := { dst := some 31, op := Op.fieldAddr 42 (Operand.tmp 3) 1, type := 0, pos := "column.go:89", after := #[], guard := none }) (v := ?v0x12) rfl (by kernel_rfl) (by kernel_rfl) (by kernel_rfl) (fun _ _ _ h => h) (Or.inl ⟨by rfl, ?hy0x12⟩) hHeld ?_
            case hy0x12 => (intro w hSw; (try dsimp only at hSw); go_simp; (first | done | with_reducible rfl))
            (try simp only [Act.put, List.setIfInBounds_toArray, List.set_cons_zero, List.set_cons_succ])
            refine wpAnyH_take (i := 1) (oi := { dst := some 32, op := Op.load 36 (Operand.tmp 31), type := 36, pos := "column.go:89", after := #[{ on := 0, ground := Ground.data }], guard := none }) (v := ?v1x12) rfl (by kernel_rfl) (by kernel_rfl) (by kernel_rfl) (fun _ _ _ h => h) (Or.inl ⟨by rfl, ?hy1x12⟩) hHeld ?_
            case hy1x12 => (intro w hSw; (try dsimp only at hSw); go_simp; (first | done | with_reducible rfl))
            (try simp only [Act.put, List.setIfInBounds_toArray, List.set_cons_zero, List.set_cons_succ])
            refine wpAnyH_take (i := 2) (oi := { dst := some 33, op := Op.move (Operand.tmp 5), type := 152, pos := "column.go:89", after := #[], guard := none }) (v := ?v2x12) rfl (by kernel_rfl) (by kernel_rfl) (by kernel_rfl) (fun _ _ _ h => h) (Or.inl ⟨by rfl, ?hy2x12⟩) hHeld ?_
            case hy2x12 => (intro w hSw; (try dsimp only at hSw); go_simp; (first | done | with_reducible rfl))
            (try simp only [Act.put, List.setIfInBounds_toArray, List.set_cons_zero, List.set_cons_succ])
            refine wpAnyH_take (i := 3) (oi := { dst := some 34, op := Op.fieldAddr 67 (Operand.tmp 2) 2, type := 0, pos := "column.go:89", after := #[], guard := none }) (v := ?v3x12) rfl (by kernel_rfl) (by kernel_rfl) (by kernel_rfl) (fun _ _ _ h => h) (Or.inl ⟨by rfl, ?hy3x12⟩) hHeld ?_
            case hy3x12 => (intro w hSw; (try dsimp only at hSw); go_simp; (first | done | with_reducible rfl))
            (try simp only [Act.put, List.setIfInBounds_toArray, List.set_cons_zero, List.set_cons_succ])
            refine wpAnyH_take (i := 4) (oi := { dst := some 35, op := Op.load 3 (Operand.tmp 34), type := 3, pos := "column.go:89", after := #[{ on := 3, ground := Ground.data }], guard := none }) (v := ?v4x12) rfl (by kernel_rfl) (by kernel_rfl) (by kernel_rfl) (fun _ _ _ h => h) (Or.inl ⟨by rfl, ?hy4x12⟩) hHeld ?_
            case hy4x12 => (intro w hSw; (try dsimp only at hSw); go_simp; (first | done | with_reducible rfl))
            (try simp only [Act.put, List.setIfInBounds_toArray, List.set_cons_zero, List.set_cons_succ])
            refine wpAnyH_ready (rs := [5]) (by kernel_rfl) (by simp) ?_
            refine AllReadyH.cons (o := { dst := some 36, op := Op.call { callee := Callee.value (Operand.tmp 33), args := #[Operand.tmp 35], argTypes := #[3] }, type := 121, pos := "column.go:89", after := #[{ on := 2, ground := Ground.data }, { on := 4, ground := Ground.data }], guard := none }) rfl (fun K hK => ?_) AllReadyH.nil
            go_simp
            (go_at_call 114; (with_reducible refine Calls.mono (outside_any mr _) ?_); rintro e w' ⟨rfl, hw'⟩; subst hw')
            go_wp2_with fail
            refine hK.out _ _ (HN.out _ ((b0.alloc (Nat.le_refl _) _).drew)) (fun hH2 => ?_)
            (try simp only [Act.put, List.setIfInBounds_toArray, List.set_cons_zero, List.set_cons_succ])
            refine wpAnyH_ready (rs := [6]) (by kernel_rfl) (by simp) ?_
            refine AllReadyH.cons (o := { dst := some 37, op := Op.call { callee := Callee.value (Operand.func 116), args := #[Operand.tmp 32, Operand.tmp 36], argTypes := #[36, 121] }, type := 4, pos := "column.go:89", after := #[{ on := 1, ground := Ground.data }, { on := 5, ground := Ground.data }, { on := 5, ground := Ground.chain }], guard := none }) rfl (fun K hK => ?_) AllReadyH.nil
            go_simp
            (go_at_call 116; refine Calls.mono HC1.out ?_; rintro e w' ⟨rfl, hw'⟩; subst hw')
            go_wp2_with fail
            refine hK.out _ _ (HN.out _ ((b0.alloc (Nat.le_refl _) _).drew)) (fun hH3 => ?_)
            (try simp only [Act.put, List.setIfInBounds_toArray, List.set_cons_zero, List.set_cons_succ])
            refine wpAnyH_take (i := 7) (oi := { dst := some 38, op := Op.move (Operand.tmp 37), type := 4, pos := "column.go:89", after := #[{ on := 6, ground := Ground.data }, { on := 6, ground := Ground.chain }], guard := none }) (v := ?v7x12) rfl (by kernel_rfl) (by kernel_rfl) (by kernel_rfl) (fun _ _ _ h => h) (Or.inl ⟨by rfl, ?hy7x12⟩) hH3 ?_
            case hy7x12 => (intro w hSw; (try dsimp only at hSw); go_simp; (first | done | with_reducible rfl))
            (try simp only [Act.put, List.setIfInBounds_toArray, List.set_cons_zero, List.set_cons_succ])
            refine wpAnyH_take (i := 8) (oi := { dst := some 39, op := Op.fieldAddr 42 (Operand.tmp 3) 2, type := 0, pos := "column.go:89", after := #[{ on := 7, ground := Ground.guard }], guard := some (7, false) }) (v := undef) rfl (by kernel_rfl) (by kernel_rfl) (by kernel_rfl) (fun _ _ _ h => h) (Or.inr ⟨by rfl, rfl⟩) hH3 ?_
            (try simp only [Act.put, List.setIfInBounds_toArray, List.set_cons_zero, List.set_cons_succ])
            refine wpAnyH_take (i := 9) (oi := { dst := some 40, op := Op.load 36 (Operand.tmp 39), type := 36, pos := "column.go:89", after := #[{ on := 8, ground := Ground.data }, { on := 7, ground := Ground.guard }], guard := some (7, false) }) (v := undef) rfl (by kernel_rfl) (by kernel_rfl) (by kernel_rfl) (fun _ _ _ h => h) (Or.inr ⟨by rfl, rfl⟩) hH3 ?_
            (try simp only [Act.put, List.setIfInBounds_toArray, List.set_cons_zero, List.set_cons_succ])
            refine wpAnyH_take (i := 10) (oi := { dst := some 41, op := Op.move (Operand.tmp 5), type := 152, pos := "column.go:89", after := #[{ on := 7, ground := Ground.guard }], guard := some (7, false) }) (v := undef) rfl (by kernel_rfl) (by kernel_rfl) (by kernel_rfl) (fun _ _ _ h => h) (Or.inr ⟨by rfl, rfl⟩) hH3 ?_
            (try simp only [Act.put, List.setIfInBounds_toArray, List.set_cons_zero, List.set_cons_succ])
            refine wpAnyH_take (i := 11) (oi := { dst := some 42, op := Op.fieldAddr 67 (Operand.tmp 2) 3, type := 0, pos := "column.go:89", after := #[{ on := 7, ground := Ground.guard }], guard := some (7, false) }) (v := undef) rfl (by kernel_rfl) (by kernel_rfl) (by kernel_rfl) (fun _ _ _ h => h) (Or.inr ⟨by rfl, rfl⟩) hH3 ?_
            (try simp only [Act.put, List.setIfInBounds_toArray, List.set_cons_zero, List.set_cons_succ])
            refine wpAnyH_take (i := 12) (oi := { dst := some 43, op := Op.load 3 (Operand.tmp 42), type := 3, pos := "column.go:89", after := #[{ on := 11, ground := Ground.data }, { on := 7, ground := Ground.guard }], guard := some (7, false) }) (v := undef) rfl (by kernel_rfl) (by kernel_rfl) (by kernel_rfl) (fun _ _ _ h => h) (Or.inr ⟨by rfl, rfl⟩) hH3 ?_
            (try simp only [Act.put, List.setIfInBounds_toArray, List.set_cons_zero, List.set_cons_succ])
            refine wpAnyH_take (i := 13) (oi := { dst := some 44, op := Op.call { callee := Callee.value (Operand.tmp 41), args := #[Operand.tmp 43], argTypes := #[3] }, type := 121, pos := "column.go:89", after := #[{ on := 10, ground := Ground.data }, { on := 12, ground := Ground.data }, { on := 7, ground := Ground.chain }, { on := 7, ground := Ground.guard }], guard := some (7, false) }) (v := undef) rfl (by kernel_rfl) (by kernel_rfl) (by kernel_rfl) (fun _ _ _ h => h) (Or.inr ⟨by rfl, rfl⟩) hH3 ?_
            (try simp only [Act.put, List.setIfInBounds_toArray, List.set_cons_zero, List.set_cons_succ])
            refine wpAnyH_take (i := 14) (oi := { dst := some 45, op := Op.call { callee := Callee.value (Operand.func 116), args := #[Operand.tmp 40, Operand.tmp 44], argTypes := #[36, 121] }, type := 4, pos := "column.go:89", after := #[{ on := 9, ground := Ground.data }, { on := 13, ground := Ground.data }, { on := 13, ground := Ground.chain }, { on := 7, ground := Ground.guard }], guard := some (7, false) }) (v := undef) rfl (by kernel_rfl) (by kernel_rfl) (by kernel_rfl) (fun _ _ _ h => h) (Or.inr ⟨by rfl, rfl⟩) hH3 ?_
            (try simp only [Act.put, List.setIfInBounds_toArray, List.set_cons_zero, List.set_cons_succ])
            refine wpAnyH_take (i := 15) (oi := { dst := some 46, op := Op.pick (Operand.tmp 38) (Operand.const (Value.bool true)) (Operand.tmp 45), type := 4, pos := "column.go:89", after := #[{ on := 7, ground := Ground.data }, { on := 14, ground := Ground.data }], guard := none }) (v := ?v15x12) rfl (by kernel_rfl) (by kernel_rfl) (by kernel_rfl) (fun _ _ _ h => h) (Or.inl ⟨by rfl, ?hy15x12⟩) hH3 ?_
            case hy15x12 => (intro w hSw; (try dsimp only at hSw); go_simp; (first | done | with_reducible rfl))
            (try simp only [Act.put, List.setIfInBounds_toArray, List.set_cons_zero, List.set_cons_succ])
            refine wpAnyH_done (by kernel_rfl) ?_ _
            all_goals
              go_wp2
              go_ret
              exact ⟨by rw [HE.out]; rfl, HBx1.out⟩
          · have qr : (r == 0) = false := by simp [hz]
            have HF : Hid (fitB cid mr md cid rs ds nv = false) := (by show _ = _; rw [HE0.out, HH.out, qr]; rfl)
            clear hz HE0 HEg
            go_enter Tryz.func99, Tryz.ntmps99
            go_wp2
            go_ret
            exact ⟨by rw [HF.out]; rfl, HB.out⟩
      | false => have h := H1.out; rw [HT.out] at h; cases h
    · have HE : Hid (fitB lid mr md cid rs ds nv = false) := (by show _ = _; unfold fitB; rw [if_pos (.inr h2)])
      subst h1
      have q2 : ((rs.length : Int) == (ds.length : Int)) = false := by rw [beq_eq_false_iff_ne]; omega
      clear h2
      go_enter Tryz.func99, Tryz.ntmps99
      go_wp2
      go_ret
      exact ⟨by rw [HE.out]; rfl, HB.out⟩
  · have HE : Hid (fitB lid mr md cid rs ds nv = false) := (by show _ = _; unfold fitB; rw [if_pos (.inl h1)])
    have q1 : (cid == lid) = false := by simp [h1]
    clear h1
    go_enter Tryz.func99, Tryz.ntmps99
    go_wp2
    go_ret
    exact ⟨by rw [HE.out]; rfl, HB.out⟩
end Go.Proofs.YtbicfjimlpdnkaaGreatDoor

namespace Go.Proofs.YtbicfjimlpdnkaaGreatDoor
open Go.RowKit
set_option maxRecDepth 100000 in
set_option maxHeartbeats 8000000 in
theorem sfits_f (lid kind mr md : Int) (pa : Option Addr) (pn pc : Nat) (cid : Int) (ra : Option Addr) (rs : List Int) (rc : Nat) (da : Option Addr) (ds : List Int) (dc : Nat) (va : Option Addr) (nv vc : Nat) (hr : rs.length ≤ 1048576) (hd : ds.length ≤ 1048576) (W : World) (hlr : Lies W ra (i64s rs)) (hld : Lies W da (i64s ds)) (HT : Hid ((rs.any fun x => !(btw 0 x mr)) = false)) :
    Calls Tryz.prog 99 #[leafV lid kind mr md pa pn pc, colV cid ra rs.length rc da ds.length dc va nv vc] W fun e w' => e = .returned (.bool (fitB lid mr md cid rs ds nv)) ∧ Below W.heap.size W w' := by
  have hb2 : Below W.heap.size W ((W.alloc (.cells #[.int .i64 lid, .int .i64 kind, .int .i64 mr, .int .i64 md, .slice pa pn pc] 67)).alloc (.cells #[.int .i64 cid, .slice ra rs.length rc, .slice da ds.length dc, .slice va nv vc] 42)) := ((Below.refl _ _).alloc (Nat.le_refl _) _).alloc (by simp) _
  have HB : Hid (Below W.heap.size W ((W.alloc (.cells #[.int .i64 lid, .int .i64 kind, .int .i64 mr, .int .i64 md, .slice pa pn pc] 67)).alloc (.cells #[.int .i64 cid, .slice ra rs.length rc, .slice da ds.length dc, .slice va nv vc] 42))) := hb2
  have HX : Hid (((W.alloc (.cells #[.int .i64 lid, .int .i64 kind, .int .i64 mr, .int .i64 md, .slice pa pn pc] 67)).alloc (.cells #[.int .i64 cid, .slice ra rs.length rc, .slice da ds.length dc, .slice va nv vc] 42)).heap[W.heap.size]? = some (.cells #[.int .i64 lid, .int .i64 kind, .int .i64 mr, .int .i64 md, .slice pa pn pc] 67 (0, 0))) := blk_alloc (heap_alloc_new W _)
  have HY : Hid (((W.alloc (.cells #[.int .i64 lid, .int .i64 kind, .int .i64 mr, .int .i64 md, .slice pa pn pc] 67)).alloc (.cells #[.int .i64 cid, .slice ra rs.length rc, .slice da ds.length dc, .slice va nv vc] 42)).heap[W.heap.size + 1]? = some (.cells #[.int .i64 cid, .slice ra rs.length rc, .slice da ds.length dc, .slice va nv vc] 42 (0, 0))) := (by
    have h := heap_alloc_new (W.alloc (.cells #[.int .i64 lid, .int .i64 kind, .int .i64 mr, .int .i64 md, .slice pa pn pc] 67)) (.cells #[.int .i64 cid, .slice ra rs.length rc, .slice da ds.length dc, .slice va nv vc] 42)
    rwa [show (W.alloc (.cells #[.int .i64 lid, .int .i64 kind, .int .i64 mr, .int .i64 md, .slice pa pn pc] 67)).heap.size = W.heap.size + 1 by simp] at h)
  have HLr : Hid (Lies ((W.alloc (.cells #[.int .i64 lid, .int .i64 kind, .int .i64 mr, .int .i64 md, .slice pa pn pc] 67)).alloc (.cells #[.int .i64 cid, .slice ra rs.length rc, .slice da ds.length dc, .slice va nv vc] 42)) ra (i64s rs)) := hlr.keep hb2
  have HLd : Hid (Lies ((W.alloc (.cells #[.int .i64 lid, .int .i64 kind, .int .i64 mr, .int .i64 md, .slice pa pn pc] 67)).alloc (.cells #[.int .i64 cid, .slice ra rs.length rc, .slice da ds.length dc, .slice va nv vc] 42)) da (i64s ds)) := hld.keep hb2
  clear hlr hld hb2
  unfold leafV colV
  by_cases h1 : cid = lid
  · by_cases h2 : rs.length = ds.length
    · subst h1
      have HE0 : Hid (fitB cid mr md cid rs ds nv = if headB rs = true then false else if (rs.any fun x => !(btw 0 x mr)) = true ∨ (ds.any fun x => !(btw 0 x md)) = true then false else decide (nv = cntE md ds)) := (by show _ = _; unfold fitB; rw [if_neg (by simp [h2])])
      have q2 : ((rs.length : Int) == (ds.length : Int)) = true := by simp [h2]
      have H2 : Hid (rs.length = ds.length) := h2
      clear h2
      obtain ⟨b1, H1⟩ : ∃ b1, Hid ((rs.any fun x => !(btw 0 x mr)) = b1) := ⟨_, rfl⟩
      obtain ⟨b2, Hb2⟩ : ∃ b2, Hid ((ds.any fun x => !(btw 0 x md)) = b2) := ⟨_, rfl⟩
      have b0 : Below ((W.alloc (.cells #[.int .i64 cid, .int .i64 kind, .int .i64 mr, .int .i64 md, .slice pa pn pc] 67)).alloc (.cells #[.int .i64 cid, .slice ra rs.length rc, .slice da ds.length dc, .slice va nv vc] 42)).heap.size ((W.alloc (.cells #[.int .i64 cid, .int .i64 kind, .int .i64 mr, .int .i64 md, .slice pa pn pc] 67)).alloc (.cells #[.int .i64 cid, .slice ra rs.length rc, .slice da ds.length dc, .slice va nv vc] 42)) ((W.alloc (.cells #[.int .i64 cid, .int .i64 kind, .int .i64 mr, .int .i64 md, .slice pa pn pc] 67)).alloc (.cells #[.int .i64 cid, .slice ra rs.length rc, .slice da ds.length dc, .slice va nv vc] 42)) := Below.refl _ _
      have HN : Hid (∀ X, Below ((W.alloc (.cells #[.int .i64 cid, .int .i64 kind, .int .i64 mr, .int .i64 md, .slice pa pn pc] 67)).alloc (.cells #[.int .i64 cid, .slice ra rs.length rc, .slice da ds.length dc, .slice va nv vc] 42)).heap.size ((W.alloc (.cells #[.int .i64 cid, .int .i64 kind, .int .i64 mr, .int .i64 md, .slice pa pn pc] 67)).alloc (.cells #[.int .i64 cid, .slice ra rs.length rc, .slice da ds.length dc, .slice va nv vc] 42)) X → X.cell? ⟨W.heap.size, 0, none⟩ = some (.int .i64 cid) ∧ X.cell? ⟨W.heap.size, 1, none⟩ = some (.int .i64 kind) ∧ X.cell? ⟨W.heap.size, 2, none⟩ = some (.int .i64 mr) ∧ X.cell? ⟨W.heap.size, 3, none⟩ = some (.int .i64 md) ∧ X.cell? ⟨W.heap.size, 4, none⟩ = some (.slice pa pn pc) ∧ X.cell? ⟨W.heap.size + 1, 0, none⟩ = some (.int .i64 cid) ∧ X.cell? ⟨W.heap.size + 1, 1, none⟩ = some (.slice ra rs.length rc) ∧ X.cell? ⟨W.heap.size + 1, 2, none⟩ = some (.slice da ds.length dc) ∧ X.cell? ⟨W.heap.size + 1, 3, none⟩ = some (.slice va nv vc) ∧ Below ((W.alloc (.cells #[.int .i64 cid, .int .i64 kind, .int .i64 mr, .int .i64 md, .slice pa pn pc] 67)).alloc (.cells #[.int .i64 cid, .slice ra rs.length rc, .slice da ds.length dc, .slice va nv vc] 42)).heap.size ((W.alloc (.cells #[.int .i64 cid, .int .i64 kind, .int .i64 mr, .int .i64 md, .slice pa pn pc] 67)).alloc (.cells #[.int .i64 cid, .slice ra rs.length rc, .slice da ds.length dc, .slice va nv vc] 42)) X) := fun X hX => by
        obtain ⟨⟨n0, n1, n2, n3, n4⟩, _⟩ := row_five (blk_keep hX HX.out)
        obtain ⟨l0, l1, l2, l3⟩ := row_four (blk_keep hX HY.out)
        exact ⟨n0, n1, n2, n3, n4, l0, l1, l2, l3, hX⟩
      have HC1 := containsO_any mr (W.heap.size + 1 + 1) ra rc rs hr ((((W.alloc (.cells #[.int .i64 cid, .int .i64 kind, .int .i64 mr, .int .i64 md, .slice pa pn pc] 67)).alloc (.cells #[.int .i64 cid, .slice ra rs.length rc, .slice da ds.length dc, .slice va nv vc] 42)).alloc (.cells #[.int .i64 mr] 3)).drew) (by
        have h := heap_alloc_new ((W.alloc (.cells #[.int .i64 cid, .int .i64 kind, .int .i64 mr, .int .i64 md, .slice pa pn pc] 67)).alloc (.cells #[.int .i64 cid, .slice ra rs.length rc, .slice da ds.length dc, .slice va nv vc] 42)) (.cells #[.int .i64 mr] 3)
        rw [show ((W.alloc (.cells #[.int .i64 cid, .int .i64 kind, .int .i64 mr, .int .i64 md, .slice pa pn pc] 67)).alloc (.cells #[.int .i64 cid, .slice ra rs.length rc, .slice da ds.length dc, .slice va nv vc] 42)).heap.size = W.heap.size + 1 + 1 by simp] at h
        exact h) (HLr.out.keep (b0.alloc (Nat.le_refl _) _).drew)
      have HC2 := containsO_any md (W.heap.size + 1 + 1 + 1) da dc ds hd (((((W.alloc (.cells #[.int .i64 cid, .int .i64 kind, .int .i64 mr, .int .i64 md, .slice pa pn pc] 67)).alloc (.cells #[.int .i64 cid, .slice ra rs.length rc, .slice da ds.length dc, .slice va nv vc] 42)).alloc (.cells #[.int .i64 mr] 3)).alloc (.cells #[.int .i64 md] 3)).drew) (by
        have h := heap_alloc_new (((W.alloc (.cells #[.int .i64 cid, .int .i64 kind, .int .i64 mr, .int .i64 md, .slice pa pn pc] 67)).alloc (.cells #[.int .i64 cid, .slice ra rs.length rc, .slice da ds.length dc, .slice va nv vc] 42)).alloc (.cells #[.int .i64 mr] 3)) (.cells #[.int .i64 md] 3)
        rw [show (((W.alloc (.cells #[.int .i64 cid, .int .i64 kind, .int .i64 mr, .int .i64 md, .slice pa pn pc] 67)).alloc (.cells #[.int .i64 cid, .slice ra rs.length rc, .slice da ds.length dc, .slice va nv vc] 42)).alloc (.cells #[.int .i64 mr] 3)).heap.size = W.heap.size + 1 + 1 + 1 by simp] at h
        exact h) (HLd.out.keep ((b0.alloc (Nat.le_refl _) _).alloc (by simp) _).drew)
      rw [H1.out] at HC1
      rw [Hb2.out] at HC2
      have HC1 : Hid _ := HC1
      have HC2 : Hid _ := HC2
      have HBx1 : Hid (Below W.heap.size W (((W.alloc (.cells #[.int .i64 cid, .int .i64 kind, .int .i64 mr, .int .i64 md, .slice pa pn pc] 67)).alloc (.cells #[.int .i64 cid, .slice ra rs.length rc, .slice da ds.length dc, .slice va nv vc] 42)).alloc (.cells #[.int .i64 mr] 3)).drew) := (HB.out.alloc (by simp; omega) _).drew
      have HBx2 : Hid (Below W.heap.size W ((((W.alloc (.cells #[.int .i64 cid, .int .i64 kind, .int .i64 mr, .int .i64 md, .slice pa pn pc] 67)).alloc (.cells #[.int .i64 cid, .slice ra rs.length rc, .slice da ds.length dc, .slice va nv vc] 42)).alloc (.cells #[.int .i64 mr] 3)).alloc (.cells #[.int .i64 md] 3)).drew) := ((HB.out.alloc (by simp; omega) _).alloc (by simp; omega) _).drew
      have HEg : Hid (headB rs = false → fitB cid mr md cid rs ds nv = if b1 = true ∨ b2 = true then false else decide (nv = cntE md ds)) := fun hh => by
        rw [HE0.out, H1.out, Hb2.out, hh]
        rfl
      cases b1 with
      | true => have h := H1.out; rw [HT.out] at h; cases h
      | false =>
        cases b2
        all_goals
          by_cases hl0 : rs.length = 0
          · have HE : Hid _ := HEg.out (by rw [List.eq_nil_of_length_eq_zero hl0]; rfl)
            have q0 : decide ((0 : Int) < (rs.length : Int)) = false := by rw [decide_eq_false_iff_not]; omega
            have hnp : ¬ 0 < rs.length := by omega
            clear HE0 hl0 HEg
            go_enter Tryz.func99, Tryz.ntmps99
            go_wp2
            go_region_held3 (fun X => X.cell? ⟨W.heap.size, 0, none⟩ = some (.int .i64 cid) ∧ X.cell? ⟨W.heap.size, 1, none⟩ = some (.int .i64 kind) ∧ X.cell? ⟨W.heap.size, 2, none⟩ = some (.int .i64 mr) ∧ X.cell? ⟨W.heap.size, 3, none⟩ = some (.int .i64 md) ∧ X.cell? ⟨W.heap.size, 4, none⟩ = some (.slice pa pn pc) ∧ X.cell? ⟨W.heap.size + 1, 0, none⟩ = some (.int .i64 cid) ∧ X.cell? ⟨W.heap.size + 1, 1, none⟩ = some (.slice ra rs.length rc) ∧ X.cell? ⟨W.heap.size + 1, 2, none⟩ = some (.slice da ds.length dc) ∧ X.cell? ⟨W.heap.size + 1, 3, none⟩ = some (.slice va nv vc) ∧ Below ((W.alloc (.cells #[.int .i64 cid, .int .i64 kind, .int .i64 mr, .int .i64 md, .slice pa pn pc] 67)).alloc (.cells #[.int .i64 cid, .slice ra rs.length rc, .slice da ds.length dc, .slice va nv vc] 42)).heap.size ((W.alloc (.cells #[.int .i64 cid, .int .i64 kind, .int .i64 mr, .int .i64 md, .slice pa pn pc] 67)).alloc (.cells #[.int .i64 cid, .slice ra rs.length rc, .slice da ds.length dc, .slice va nv vc] 42)) X) (first | (with_reducible refine HN.out _ ?_; repeat' (first | with_reducible assumption | with_reducible exact b0.drew | with_reducible exact b0 | with_reducible exact (b0.alloc (Nat.le_refl _) _).drew | with_reducible exact ((b0.alloc (Nat.le_refl _) _).alloc (by simp) _).drew | with_reducible refine Below.alloc ?_ ?_ _ | with_reducible exact Below.size (by assumption) | (simp; done) | (simp; omega) | omega))) (first | (go_at_call 114; with_reducible refine Calls.mono (outside_any mr _) ?_; rintro e w' ⟨rfl, hw'⟩; subst hw') | (go_at_call 114; with_reducible refine Calls.mono (outside_any md _) ?_; rintro e w' ⟨rfl, hw'⟩; subst hw') | (go_at_call 116; refine Calls.mono HC1.out ?_; rintro e w' ⟨rfl, hw'⟩; subst hw') | (go_at_call 116; refine Calls.mono HC2.out ?_; rintro e w' ⟨rfl, hw'⟩; subst hw'))
            all_goals first
              | (go_wp2; go_ret; exact ⟨by rw [HE.out]; rfl, HBx2.out⟩)
              | skip
            all_goals
              have hbl : Below ((W.alloc (.cells #[.int .i64 cid, .int .i64 kind, .int .i64 mr, .int .i64 md, .slice pa pn pc] 67)).alloc (.cells #[.int .i64 cid, .slice ra rs.length rc, .slice da ds.length dc, .slice va nv vc] 42)).heap.size ((W.alloc (.cells #[.int .i64 cid, .int .i64 kind, .int .i64 mr, .int .i64 md, .slice pa pn pc] 67)).alloc (.cells #[.int .i64 cid, .slice ra rs.length rc, .slice da ds.length dc, .slice va nv vc] 42)) ((((W.alloc (.cells #[.int .i64 cid, .int .i64 kind, .int .i64 mr, .int .i64 md, .slice pa pn pc] 67)).alloc (.cells #[.int .i64 cid, .slice ra rs.length rc, .slice da ds.length dc, .slice va nv vc] 42)).alloc (.cells #[.int .i64 mr] 3)).alloc (.cells #[.int .i64 md] 3)).drew := (((Below.refl _ _).alloc (Nat.le_refl _) _).alloc (by simp) _).drew
              have HX4 : Hid (((((W.alloc (.cells #[.int .i64 cid, .int .i64 kind, .int .i64 mr, .int .i64 md, .slice pa pn pc] 67)).alloc (.cells #[.int .i64 cid, .slice ra rs.length rc, .slice da ds.length dc, .slice va nv vc] 42)).alloc (.cells #[.int .i64 mr] 3)).alloc (.cells #[.int .i64 md] 3)).drew.heap[W.heap.size]? = some (.cells #[.int .i64 cid, .int .i64 kind, .int .i64 mr, .int .i64 md, .slice pa pn pc] 67 (0, 0))) := blk_keep hbl HX.out
              have HY4 : Hid (((((W.alloc (.cells #[.int .i64 cid, .int .i64 kind, .int .i64 mr, .int .i64 md, .slice pa pn pc] 67)).alloc (.cells #[.int .i64 cid, .slice ra rs.length rc, .slice da ds.length dc, .slice va nv vc] 42)).alloc (.cells #[.int .i64 mr] 3)).alloc (.cells #[.int .i64 md] 3)).drew.heap[W.heap.size + 1]? = some (.cells #[.int .i64 cid, .slice ra rs.length rc, .slice da ds.length dc, .slice va nv vc] 42 (0, 0))) := blk_keep hbl HY.out
              have HLd4 : Hid (Lies ((((W.alloc (.cells #[.int .i64 cid, .int .i64 kind, .int .i64 mr, .int .i64 md, .slice pa pn pc] 67)).alloc (.cells #[.int .i64 cid, .slice ra rs.length rc, .slice da ds.length dc, .slice va nv vc] 42)).alloc (.cells #[.int .i64 mr] 3)).alloc (.cells #[.int .i64 md] 3)).drew da (i64s ds)) := HLd.out.keep hbl
              have HBx : Hid (Below W.heap.size W ((((W.alloc (.cells #[.int .i64 cid, .int .i64 kind, .int .i64 mr, .int .i64 md, .slice pa pn pc] 67)).alloc (.cells #[.int .i64 cid, .slice ra rs.length rc, .slice da ds.length dc, .slice va nv vc] 42)).alloc (.cells #[.int .i64 mr] 3)).alloc (.cells #[.int .i64 md] 3)).drew) := HBx2.out
              go_wp2
              clear hbl HBx1 HBx2 HX HY HLd HB HC1 HC2 HN b0
              generalize ((((W.alloc (.cells #[.int .i64 cid, .int .i64 kind, .int .i64 mr, .int .i64 md, .slice pa pn pc] 67)).alloc (.cells #[.int .i64 cid, .slice ra rs.length rc, .slice da ds.length dc, .slice va nv vc] 42)).alloc (.cells #[.int .i64 mr] 3)).alloc (.cells #[.int .i64 md] 3)).drew = w4 at *
              have b40 : Below w4.heap.size w4 w4 := Below.refl _ _
              have HN4 : Hid (∀ X, Below w4.heap.size w4 X → (X.cell? ⟨W.heap.size, 0, none⟩ = some (.int .i64 cid) ∧ X.cell? ⟨W.heap.size, 1, none⟩ = some (.int .i64 kind) ∧ X.cell? ⟨W.heap.size, 2, none⟩ = some (.int .i64 mr) ∧ X.cell? ⟨W.heap.size, 3, none⟩ = some (.int .i64 md) ∧ X.cell? ⟨W.heap.size, 4, none⟩ = some (.slice pa pn pc)) ∧ (X.cell? ⟨W.heap.size + 1, 0, none⟩ = some (.int .i64 cid) ∧ X.cell? ⟨W.heap.size + 1, 1, none⟩ = some (.slice ra rs.length rc) ∧ X.cell? ⟨W.heap.size + 1, 2, none⟩ = some (.slice da ds.length dc) ∧ X.cell? ⟨W.heap.size + 1, 3, none⟩ = some (.slice va nv vc)) ∧ Below w4.heap.size w4 X) := fun X hX => ⟨(row_five (blk_keep hX HX4.out)).1, row_four (blk_keep hX HY4.out), hX⟩
              obtain ⟨⟨l0, l1, l2, l3, l4⟩, ⟨k0, k1, k2, k3⟩, _⟩ := HN4.out w4 b40
              go_region_held3 (fun X => (X.cell? ⟨W.heap.size, 0, none⟩ = some (.int .i64 cid) ∧ X.cell? ⟨W.heap.size, 1, none⟩ = some (.int .i64 kind) ∧ X.cell? ⟨W.heap.size, 2, none⟩ = some (.int .i64 mr) ∧ X.cell? ⟨W.heap.size, 3, none⟩ = some (.int .i64 md) ∧ X.cell? ⟨W.heap.size, 4, none⟩ = some (.slice pa pn pc)) ∧ (X.cell? ⟨W.heap.size + 1, 0, none⟩ = some (.int .i64 cid) ∧ X.cell? ⟨W.heap.size + 1, 1, none⟩ = some (.slice ra rs.length rc) ∧ X.cell? ⟨W.heap.size + 1, 2, none⟩ = some (.slice da ds.length dc) ∧ X.cell? ⟨W.heap.size + 1, 3, none⟩ = some (.slice va nv vc)) ∧ Below w4.heap.size w4 X) (first | (with_reducible refine HN4.out _ ?_; repeat' (first | with_reducible assumption | with_reducible exact b40.drew | with_reducible exact b40 | with_reducible exact HBV.out))) (first | (go_at_call 89; refine (valuesOf_any cid kind mr md pa pn pc da dc ds hd _ (HLd4.out.keep b40.drew)).mono ?_; rintro e w5 ⟨rfl, hb5⟩; have HBV : Hid (Below w4.heap.size w4 w5) := b40.drew.trans hb5; clear hb5))
              all_goals
                go_wp2
                go_ret
                refine ⟨ret_b ?_, HBx.out.trans (HBV.out.mono HBx.out.size)⟩
                rw [HE.out, Bool.eq_iff_iff]
                simp
                try omega
          · have hpos : 0 < rs.length := by omega
            have q0 : decide ((0 : Int) < (rs.length : Int)) = true := by rw [decide_eq_true_iff]; omega
            obtain ⟨rb, ro, era, hcell⟩ := HLr.out 0 (by simpa [i64s] using hpos)
            subst era
            obtain ⟨r, hr0⟩ : ∃ r, r = rs[0] := ⟨_, rfl⟩
            have hh := headB_at rs hpos
            rw [← hr0] at hh
            simp only [Nat.add_zero] at hcell
            rw [show (i64s rs)[0]'(by simpa [i64s] using hpos) = .int .i64 rs[0] by simp [i64s], ← hr0] at hcell
            have HH : Hid (headB rs = !(r == 0)) := hh
            clear hl0 hh hr0
            by_cases hz : r = 0
            · subst hz
              have HE : Hid _ := HEg.out (by rw [HH.out]; rfl)
              clear HE0 HEg HH
              go_enter Tryz.func99, Tryz.ntmps99
              go_wp2
              go_region_held3 (fun X => X.cell? ⟨W.heap.size, 0, none⟩ = some (.int .i64 cid) ∧ X.cell? ⟨W.heap.size, 1, none⟩ = some (.int .i64 kind) ∧ X.cell? ⟨W.heap.size, 2, none⟩ = some (.int .i64 mr) ∧ X.cell? ⟨W.heap.size, 3, none⟩ = some (.int .i64 md) ∧ X.cell? ⟨W.heap.size, 4, none⟩ = some (.slice pa pn pc) ∧ X.cell? ⟨W.heap.size + 1, 0, none⟩ = some (.int .i64 cid) ∧ X.cell? ⟨W.heap.size + 1, 1, none⟩ = some (.slice (some ⟨rb, ro, none⟩) rs.length rc) ∧ X.cell? ⟨W.heap.size + 1, 2, none⟩ = some (.slice da ds.length dc) ∧ X.cell? ⟨W.heap.size + 1, 3, none⟩ = some (.slice va nv vc) ∧ Below ((W.alloc (.cells #[.int .i64 cid, .int .i64 kind, .int .i64 mr, .int .i64 md, .slice pa pn pc] 67)).alloc (.cells #[.int .i64 cid, .slice (some ⟨rb, ro, none⟩) rs.length rc, .slice da ds.length dc, .slice va nv vc] 42)).heap.size ((W.alloc (.cells #[.int .i64 cid, .int .i64 kind, .int .i64 mr, .int .i64 md, .slice pa pn pc] 67)).alloc (.cells #[.int .i64 cid, .slice (some ⟨rb, ro, none⟩) rs.length rc, .slice da ds.length dc, .slice va nv vc] 42)) X) (first | (with_reducible refine HN.out _ ?_; repeat' (first | with_reducible assumption | with_reducible exact b0.drew | with_reducible exact b0 | with_reducible exact (b0.alloc (Nat.le_refl _) _).drew | with_reducible exact ((b0.alloc (Nat.le_refl _) _).alloc (by simp) _).drew | with_reducible refine Below.alloc ?_ ?_ _ | with_reducible exact Below.size (by assumption) | (simp; done) | (simp; omega) | omega))) (first | (go_at_call 114; with_reducible refine Calls.mono (outside_any mr _) ?_; rintro e w' ⟨rfl, hw'⟩; subst hw') | (go_at_call 114; with_reducible refine Calls.mono (outside_any md _) ?_; rintro e w' ⟨rfl, hw'⟩; subst hw') | (go_at_call 116; refine Calls.mono HC1.out ?_; rintro e w' ⟨rfl, hw'⟩; subst hw') | (go_at_call 116; refine Calls.mono HC2.out ?_; rintro e w' ⟨rfl, hw'⟩; subst hw'))
              all_goals first
                | (go_wp2; go_ret; exact ⟨by rw [HE.out]; rfl, HBx2.out⟩)
                | skip
              all_goals
                have hbl : Below ((W.alloc (.cells #[.int .i64 cid, .int .i64 kind, .int .i64 mr, .int .i64 md, .slice pa pn pc] 67)).alloc (.cells #[.int .i64 cid, .slice (some ⟨rb, ro, none⟩) rs.length rc, .slice da ds.length dc, .slice va nv vc] 42)).heap.size ((W.alloc (.cells #[.int .i64 cid, .int .i64 kind, .int .i64 mr, .int .i64 md, .slice pa pn pc] 67)).alloc (.cells #[.int .i64 cid, .slice (some ⟨rb, ro, none⟩) rs.length rc, .slice da ds.length dc, .slice va nv vc] 42)) ((((W.alloc (.cells #[.int .i64 cid, .int .i64 kind, .int .i64 mr, .int .i64 md, .slice pa pn pc] 67)).alloc (.cells #[.int .i64 cid, .slice (some ⟨rb, ro, none⟩) rs.length rc, .slice da ds.length dc, .slice va nv vc] 42)).alloc (.cells #[.int .i64 mr] 3)).alloc (.cells #[.int .i64 md] 3)).drew := (((Below.refl _ _).alloc (Nat.le_refl _) _).alloc (by simp) _).drew
                have HX4 : Hid (((((W.alloc (.cells #[.int .i64 cid, .int .i64 kind, .int .i64 mr, .int .i64 md, .slice pa pn pc] 67)).alloc (.cells #[.int .i64 cid, .slice (some ⟨rb, ro, none⟩) rs.length rc, .slice da ds.length dc, .slice va nv vc] 42)).alloc (.cells #[.int .i64 mr] 3)).alloc (.cells #[.int .i64 md] 3)).drew.heap[W.heap.size]? = some (.cells #[.int .i64 cid, .int .i64 kind, .int .i64 mr, .int .i64 md, .slice pa pn pc] 67 (0, 0))) := blk_keep hbl HX.out
                have HY4 : Hid (((((W.alloc (.cells #[.int .i64 cid, .int .i64 kind, .int .i64 mr, .int .i64 md, .slice pa pn pc] 67)).alloc (.cells #[.int .i64 cid, .slice (some ⟨rb, ro, none⟩) rs.length rc, .slice da ds.length dc, .slice va nv vc] 42)).alloc (.cells #[.int .i64 mr] 3)).alloc (.cells #[.int .i64 md] 3)).drew.heap[W.heap.size + 1]? = some (.cells #[.int .i64 cid, .slice (some ⟨rb, ro, none⟩) rs.length rc, .slice da ds.length dc, .slice va nv vc] 42 (0, 0))) := blk_keep hbl HY.out
                have HLd4 : Hid (Lies ((((W.alloc (.cells #[.int .i64 cid, .int .i64 kind, .int .i64 mr, .int .i64 md, .slice pa pn pc] 67)).alloc (.cells #[.int .i64 cid, .slice (some ⟨rb, ro, none⟩) rs.length rc, .slice da ds.length dc, .slice va nv vc] 42)).alloc (.cells #[.int .i64 mr] 3)).alloc (.cells #[.int .i64 md] 3)).drew da (i64s ds)) := HLd.out.keep hbl
                have HBx : Hid (Below W.heap.size W ((((W.alloc (.cells #[.int .i64 cid, .int .i64 kind, .int .i64 mr, .int .i64 md, .slice pa pn pc] 67)).alloc (.cells #[.int .i64 cid, .slice (some ⟨rb, ro, none⟩) rs.length rc, .slice da ds.length dc, .slice va nv vc] 42)).alloc (.cells #[.int .i64 mr] 3)).alloc (.cells #[.int .i64 md] 3)).drew) := HBx2.out
                go_wp2
                clear hbl HBx1 HBx2 HX HY HLd HB HC1 HC2 HN b0
                generalize ((((W.alloc (.cells #[.int .i64 cid, .int .i64 kind, .int .i64 mr, .int .i64 md, .slice pa pn pc] 67)).alloc (.cells #[.int .i64 cid, .slice (some ⟨rb, ro, none⟩) rs.length rc, .slice da ds.length dc, .slice va nv vc] 42)).alloc (.cells #[.int .i64 mr] 3)).alloc (.cells #[.int .i64 md] 3)).drew = w4 at *
                have b40 : Below w4.heap.size w4 w4 := Below.refl _ _
                have HN4 : Hid (∀ X, Below w4.heap.size w4 X → (X.cell? ⟨W.heap.size, 0, none⟩ = some (.int .i64 cid) ∧ X.cell? ⟨W.heap.size, 1, none⟩ = some (.int .i64 kind) ∧ X.cell? ⟨W.heap.size, 2, none⟩ = some (.int .i64 mr) ∧ X.cell? ⟨W.heap.size, 3, none⟩ = some (.int .i64 md) ∧ X.cell? ⟨W.heap.size, 4, none⟩ = some (.slice pa pn pc)) ∧ (X.cell? ⟨W.heap.size + 1, 0, none⟩ = some (.int .i64 cid) ∧ X.cell? ⟨W.heap.size + 1, 1, none⟩ = some (.slice (some ⟨rb, ro, none⟩) rs.length rc) ∧ X.cell? ⟨W.heap.size + 1, 2, none⟩ = some (.slice da ds.length dc) ∧ X.cell? ⟨W.heap.size + 1, 3, none⟩ = some (.slice va nv vc)) ∧ Below w4.heap.size w4 X) := fun X hX => ⟨(row_five (blk_keep hX HX4.out)).1, row_four (blk_keep hX HY4.out), hX⟩
                obtain ⟨⟨l0, l1, l2, l3, l4⟩, ⟨k0, k1, k2, k3⟩, _⟩ := HN4.out w4 b40
                go_region_held3 (fun X => (X.cell? ⟨W.heap.size, 0, none⟩ = some (.int .i64 cid) ∧ X.cell? ⟨W.heap.size, 1, none⟩ = some (.int .i64 kind) ∧ X.cell? ⟨W.heap.size, 2, none⟩ = some (.int .i64 mr) ∧ X.cell? ⟨W.heap.size, 3, none⟩ = some (.int .i64 md) ∧ X.cell? ⟨W.heap.size, 4, none⟩ = some (.slice pa pn pc)) ∧ (X.cell? ⟨W.heap.size + 1, 0, none⟩ = some (.int .i64 cid) ∧ X.cell? ⟨W.heap.size + 1, 1, none⟩ = some (.slice (some ⟨rb, ro, none⟩) rs.length rc) ∧ X.cell? ⟨W.heap.size + 1, 2, none⟩ = some (.slice da ds.length dc) ∧ X.cell? ⟨W.heap.size + 1, 3, none⟩ = some (.slice va nv vc)) ∧ Below w4.heap.size w4 X) (first | (with_reducible refine HN4.out _ ?_; repeat' (first | with_reducible assumption | with_reducible exact b40.drew | with_reducible exact b40 | with_reducible exact HBV.out))) (first | (go_at_call 89; refine (valuesOf_any cid kind mr md pa pn pc da dc ds hd _ (HLd4.out.keep b40.drew)).mono ?_; rintro e w5 ⟨rfl, hb5⟩; have HBV : Hid (Below w4.heap.size w4 w5) := b40.drew.trans hb5; clear hb5))
                all_goals
                  go_wp2
                  go_ret
                  refine ⟨ret_b ?_, HBx.out.trans (HBV.out.mono HBx.out.size)⟩
                  rw [HE.out, Bool.eq_iff_iff]
                  simp
                  try omega
            · have qr : (r == 0) = false := by simp [hz]
              have HF : Hid (fitB cid mr md cid rs ds nv = false) := (by show _ = _; rw [HE0.out, HH.out, qr]; rfl)
              clear hz HE0 HEg
              go_enter Tryz.func99, Tryz.ntmps99
              go_wp2
              go_ret
              exact ⟨by rw [HF.out]; rfl, HB.out⟩
    · have HE : Hid (fitB lid mr md cid rs ds nv = false) := (by show _ = _; unfold fitB; rw [if_pos (.inr h2)])
      subst h1
      have q2 : ((rs.length : Int) == (ds.length : Int)) = false := by rw [beq_eq_false_iff_ne]; omega
      clear h2
      go_enter Tryz.func99, Tryz.ntmps99
      go_wp2
      go_ret
      exact ⟨by rw [HE.out]; rfl, HB.out⟩
  · have HE : Hid (fitB lid mr md cid rs ds nv = false) := (by show _ = _; unfold fitB; rw [if_pos (.inl h1)])
    have q1 : (cid == lid) = false := by simp [h1]
    clear h1
    go_enter Tryz.func99, Tryz.ntmps99
    go_wp2
    go_ret
    exact ⟨by rw [HE.out]; rfl, HB.out⟩
end Go.Proofs.YtbicfjimlpdnkaaGreatDoor

namespace Go.Proofs.YtbicfjimlpdnkaaGreatDoor
open Go.RowKit
theorem sfits_any (lid kind mr md : Int) (pa : Option Addr) (pn pc : Nat) (cid : Int) (ra : Option Addr) (rs : List Int) (rc : Nat) (da : Option Addr) (ds : List Int) (dc : Nat) (va : Option Addr) (nv vc : Nat) (hr : rs.length ≤ 1048576) (hd : ds.length ≤ 1048576) (W : World) (hlr : Lies W ra (i64s rs)) (hld : Lies W da (i64s ds)) :
    Calls Tryz.prog 99 #[leafV lid kind mr md pa pn pc, colV cid ra rs.length rc da ds.length dc va nv vc] W fun e w' => e = .returned (.bool (fitB lid mr md cid rs ds nv)) ∧ Below W.heap.size W w' := by
  cases hb : (rs.any fun x => !(btw 0 x mr))
  · exact sfits_f lid kind mr md pa pn pc cid ra rs rc da ds dc va nv vc hr hd W hlr hld hb
  · exact sfits_t lid kind mr md pa pn pc cid ra rs rc da ds dc va nv vc hr hd W hlr hld hb
end Go.Proofs.YtbicfjimlpdnkaaGreatDoor
