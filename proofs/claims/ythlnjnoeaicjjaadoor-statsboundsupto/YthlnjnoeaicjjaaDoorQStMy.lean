/-
  stats.May, of each way to stand.
-/
import Derived.Test.YthlnjnoeaicjjaaDoorQBStMyB
import Derived.Deep.RegionWith
namespace Go.Proofs.YthlnjnoeaicjjaaDoor
open Go.RowKit
set_option maxRecDepth 100000 in
set_option maxHeartbeats 12800000 in
theorem may_any (i : Nat) (hi6 : i < 6) (s : St) (v : Vl) (W : World) (kt : TypeId) (kp : Value) (hk : W.cell? ⟨1, 0, none⟩ = some (.iface kt kp)) (hs : s.In) (hv : v.In) :
    Calls Tryd.prog 8 #[.agg #[.int .i64 s.e, .int .i64 s.u, .bool s.h, .int .i64 s.mn.k, .int .i64 s.mn.n, .string s.mn.s, .int .i64 s.mx.k, .int .i64 s.mx.n, .string s.mx.s], .string (stdT i), .agg #[.int .i64 v.k, .int .i64 v.n, .string v.s]] W fun e w' => (∃ (b : Bool) (ev : Value), e = .returned (.tuple #[.bool b, ev]) ∧ MyR i s v (.iface kt kp) b ev) ∧ Below W.heap.size W w' := by
  obtain ⟨w0, HW0, HX, HY, HB⟩ := two_boxes W #[.int .i64 s.e, .int .i64 s.u, .bool s.h, .int .i64 s.mn.k, .int .i64 s.mn.n, .string s.mn.s, .int .i64 s.mx.k, .int .i64 s.mx.n, .string s.mx.s] #[.int .i64 v.k, .int .i64 v.n, .string v.s] 34 23
  have HI0 : Hid (MyI W s v w0) := ⟨HX.out, HY.out, HB.out⟩
  have HKE : Hid (∀ X, Below W.heap.size W X → X.cell? ⟨1, 0, none⟩ = some (.iface kt kp)) := fun X hX => ckB hk hX
  clear hk HX HY HB
  go_enter Tryd.func8, Tryd.ntmps8
  go_wp2_with fail
  rw [HW0.out]
  refine (standing_any i hi6 w0).mono ?_
  rintro e w1 ⟨rfl, hb1⟩
  have HI1 : Hid _ := HI0.out.keep hb1
  clear hb1 HI0 HW0
  go_upto_region 4 with fail
  obtain ⟨bd, HBD⟩ : ∃ bd, Hid (myBad s v = bd) := ⟨_, rfl⟩
  go_cut [34] (fun x wx => x = .bool bd ∧ Hid (MyI W s v wx))
  case first =>
    have b0 : Below w1.heap.size w1 w1 := Below.refl _ _
    have HIV : Hid (∀ X, Below w1.heap.size w1 X → Calls Tryd.prog 20 #[.agg #[.int .i64 v.k, .int .i64 v.n, .string v.s]] X fun e w' => e = .returned (.bool (okV v.k v.k v.n v.s.size)) ∧ Below w1.heap.size w1 w') := fun X hX => (isValue_any v.k v.n v.s X).mono fun _ _ h => ⟨h.1, bel_next hX (Nat.le_refl _) h.2⟩
    obtain ⟨ok, HOK⟩ : ∃ ok, Hid (okV v.k v.k v.n v.s.size = ok) := ⟨_, rfl⟩
    rw [HOK.out] at HIV
    have HBD2 : Hid ((!ok || (s.h && !(s.mn.k == v.k))) = bd) := (by have h := HBD.out; unfold myBad at h; rw [HOK.out] at h; exact h)
    clear HOK
    cases ok
    · obtain rfl : true = bd := HBD2.out
      have HN : Hid (∀ X, Below w1.heap.size w1 X → (X.cell? ⟨W.heap.size, 0, none⟩ = some (.int .i64 s.e) ∧ X.cell? ⟨W.heap.size, 1, none⟩ = some (.int .i64 s.u) ∧ X.cell? ⟨W.heap.size, 2, none⟩ = some (.bool s.h) ∧ X.cell? ⟨W.heap.size, 3, none⟩ = some (.int .i64 s.mn.k) ∧ X.cell? ⟨W.heap.size, 4, none⟩ = some (.int .i64 s.mn.n) ∧ X.cell? ⟨W.heap.size, 5, none⟩ = some (.string s.mn.s) ∧ X.cell? ⟨W.heap.size, 6, none⟩ = some (.int .i64 s.mx.k) ∧ X.cell? ⟨W.heap.size, 7, none⟩ = some (.int .i64 s.mx.n) ∧ X.cell? ⟨W.heap.size, 8, none⟩ = some (.string s.mx.s)) ∧ (X.cell? ⟨W.heap.size + 1, 0, none⟩ = some (.int .i64 v.k) ∧ X.cell? ⟨W.heap.size + 1, 1, none⟩ = some (.int .i64 v.n) ∧ X.cell? ⟨W.heap.size + 1, 2, none⟩ = some (.string v.s)) ∧ Below w1.heap.size w1 X) := fun X hX => ⟨(row_nine (HI1.out.keep hX).st).1, row_three (HI1.out.keep hX).va, hX⟩
      refine wp_region_held_drew (S := (fun X => (X.cell? ⟨W.heap.size, 0, none⟩ = some (.int .i64 s.e) ∧ X.cell? ⟨W.heap.size, 1, none⟩ = some (.int .i64 s.u) ∧ X.cell? ⟨W.heap.size, 2, none⟩ = some (.bool s.h) ∧ X.cell? ⟨W.heap.size, 3, none⟩ = some (.int .i64 s.mn.k) ∧ X.cell? ⟨W.heap.size, 4, none⟩ = some (.int .i64 s.mn.n) ∧ X.cell? ⟨W.heap.size, 5, none⟩ = some (.string s.mn.s) ∧ X.cell? ⟨W.heap.size, 6, none⟩ = some (.int .i64 s.mx.k) ∧ X.cell? ⟨W.heap.size, 7, none⟩ = some (.int .i64 s.mx.n) ∧ X.cell? ⟨W.heap.size, 8, none⟩ = some (.string s.mx.s)) ∧ (X.cell? ⟨W.heap.size + 1, 0, none⟩ = some (.int .i64 v.k) ∧ X.cell? ⟨W.heap.size + 1, 1, none⟩ = some (.int .i64 v.n) ∧ X.cell? ⟨W.heap.size + 1, 2, none⟩ = some (.string v.s)) ∧ Below w1.heap.size w1 X)) (by kernel_rfl) (HN.out _ b0.drew) (fun hHeld => ?_)
      refine wpAnyH_take (i := 0) (oi := { dst := some 21, op := Op.load 23 (Operand.tmp 5), type := 23, pos := "may.go:17", after := #[], guard := none }) (v := ?vma0) rfl (by kernel_rfl) (by kernel_rfl) (by kernel_rfl) (fun _ _ _ h => h) (Or.inl ⟨by rfl, ?hyma0⟩) hHeld ?_
      case hyma0 => (intro w hSw; (try dsimp only at hSw); go_simp; (first | done | with_reducible rfl))
      (try simp only [Act.put, List.setIfInBounds_toArray, List.set_cons_zero, List.set_cons_succ])
      refine wpAnyH_ready (rs := [1]) (by kernel_rfl) (by simp) ?_
      refine AllReadyH.cons (o := { dst := some 22, op := Op.call { callee := Callee.value (Operand.func 20), args := #[Operand.tmp 21], argTypes := #[23] }, type := 4, pos := "may.go:17", after := #[{ on := 0, ground := Ground.data }], guard := none }) rfl (fun K hK => ?_) AllReadyH.nil
      go_simp
      (go_at_call 20; (with_reducible refine Calls.mono (HIV.out _ b0.drew) ?_); rintro e w2 ⟨rfl, hb2⟩)
      go_wp2_with fail
      refine hK.out _ _ (HN.out _ hb2) (fun hHma1 => ?_)
      (try simp only [Act.put, List.setIfInBounds_toArray, List.set_cons_zero, List.set_cons_succ])
      refine wpAnyH_take (i := 2) (oi := { dst := some 23, op := Op.unOp UnOp.not 4 (Operand.tmp 22), type := 4, pos := "may.go:17", after := #[{ on := 1, ground := Ground.data }], guard := none }) (v := ?vma2) rfl (by kernel_rfl) (by kernel_rfl) (by kernel_rfl) (fun _ _ _ h => h) (Or.inl ⟨by rfl, ?hyma2⟩) hHma1 ?_
      case hyma2 => (intro w hSw; (try dsimp only at hSw); go_simp; (first | done | with_reducible rfl))
      (try simp only [Act.put, List.setIfInBounds_toArray, List.set_cons_zero, List.set_cons_succ])
      refine wpAnyH_take (i := 3) (oi := { dst := some 24, op := Op.move (Operand.tmp 23), type := 4, pos := "may.go:17", after := #[{ on := 2, ground := Ground.data }, { on := 1, ground := Ground.chain }], guard := none }) (v := ?vma3) rfl (by kernel_rfl) (by kernel_rfl) (by kernel_rfl) (fun _ _ _ h => h) (Or.inl ⟨by rfl, ?hyma3⟩) hHma1 ?_
      case hyma3 => (intro w hSw; (try dsimp only at hSw); go_simp; (first | done | with_reducible rfl))
      (try simp only [Act.put, List.setIfInBounds_toArray, List.set_cons_zero, List.set_cons_succ])
      refine wpAnyH_take (i := 4) (oi := { dst := some 25, op := Op.fieldAddr 34 (Operand.tmp 3) 2, type := 0, pos := "may.go:17", after := #[{ on := 3, ground := Ground.guard }], guard := some (3, false) }) (v := undef) rfl (by kernel_rfl) (by kernel_rfl) (by kernel_rfl) (fun _ _ _ h => h) (Or.inr ⟨by rfl, rfl⟩) hHma1 ?_
      (try simp only [Act.put, List.setIfInBounds_toArray, List.set_cons_zero, List.set_cons_succ])
      refine wpAnyH_take (i := 5) (oi := { dst := some 26, op := Op.load 4 (Operand.tmp 25), type := 4, pos := "may.go:17", after := #[{ on := 4, ground := Ground.data }, { on := 3, ground := Ground.guard }], guard := some (3, false) }) (v := undef) rfl (by kernel_rfl) (by kernel_rfl) (by kernel_rfl) (fun _ _ _ h => h) (Or.inr ⟨by rfl, rfl⟩) hHma1 ?_
      (try simp only [Act.put, List.setIfInBounds_toArray, List.set_cons_zero, List.set_cons_succ])
      refine wpAnyH_take (i := 6) (oi := { dst := some 27, op := Op.move (Operand.tmp 26), type := 4, pos := "may.go:17", after := #[{ on := 5, ground := Ground.data }, { on := 3, ground := Ground.chain }, { on := 3, ground := Ground.guard }], guard := some (3, false) }) (v := undef) rfl (by kernel_rfl) (by kernel_rfl) (by kernel_rfl) (fun _ _ _ h => h) (Or.inr ⟨by rfl, rfl⟩) hHma1 ?_
      (try simp only [Act.put, List.setIfInBounds_toArray, List.set_cons_zero, List.set_cons_succ])
      refine wpAnyH_take (i := 7) (oi := { dst := some 28, op := Op.load 34 (Operand.tmp 3), type := 34, pos := "may.go:17", after := #[{ on := 6, ground := Ground.guard }], guard := some (6, true) }) (v := undef) rfl (by kernel_rfl) (by kernel_rfl) (by kernel_rfl) (fun _ _ _ h => h) (Or.inr ⟨by rfl, rfl⟩) hHma1 ?_
      (try simp only [Act.put, List.setIfInBounds_toArray, List.set_cons_zero, List.set_cons_succ])
      refine wpAnyH_take (i := 8) (oi := { dst := some 29, op := Op.call { callee := Callee.value (Operand.func 21), args := #[Operand.tmp 28], argTypes := #[34] }, type := 3, pos := "may.go:17", after := #[{ on := 7, ground := Ground.data }, { on := 6, ground := Ground.chain }, { on := 6, ground := Ground.guard }], guard := some (6, true) }) (v := undef) rfl (by kernel_rfl) (by kernel_rfl) (by kernel_rfl) (fun _ _ _ h => h) (Or.inr ⟨by rfl, rfl⟩) hHma1 ?_
      (try simp only [Act.put, List.setIfInBounds_toArray, List.set_cons_zero, List.set_cons_succ])
      refine wpAnyH_take (i := 9) (oi := { dst := some 30, op := Op.fieldAddr 23 (Operand.tmp 5) 0, type := 0, pos := "may.go:17", after := #[{ on := 6, ground := Ground.guard }], guard := some (6, true) }) (v := undef) rfl (by kernel_rfl) (by kernel_rfl) (by kernel_rfl) (fun _ _ _ h => h) (Or.inr ⟨by rfl, rfl⟩) hHma1 ?_
      (try simp only [Act.put, List.setIfInBounds_toArray, List.set_cons_zero, List.set_cons_succ])
      refine wpAnyH_take (i := 10) (oi := { dst := some 31, op := Op.load 3 (Operand.tmp 30), type := 3, pos := "may.go:17", after := #[{ on := 9, ground := Ground.data }, { on := 6, ground := Ground.guard }], guard := some (6, true) }) (v := undef) rfl (by kernel_rfl) (by kernel_rfl) (by kernel_rfl) (fun _ _ _ h => h) (Or.inr ⟨by rfl, rfl⟩) hHma1 ?_
      (try simp only [Act.put, List.setIfInBounds_toArray, List.set_cons_zero, List.set_cons_succ])
      refine wpAnyH_take (i := 11) (oi := { dst := some 32, op := Op.binOp BinOp.neq 3 (Operand.tmp 29) (Operand.tmp 31) 3, type := 4, pos := "may.go:17", after := #[{ on := 8, ground := Ground.data }, { on := 10, ground := Ground.data }, { on := 6, ground := Ground.guard }], guard := some (6, true) }) (v := undef) rfl (by kernel_rfl) (by kernel_rfl) (by kernel_rfl) (fun _ _ _ h => h) (Or.inr ⟨by rfl, rfl⟩) hHma1 ?_
      (try simp only [Act.put, List.setIfInBounds_toArray, List.set_cons_zero, List.set_cons_succ])
      refine wpAnyH_take (i := 12) (oi := { dst := some 33, op := Op.pick (Operand.tmp 27) (Operand.tmp 32) (Operand.const (Value.bool false)), type := 4, pos := "may.go:17", after := #[{ on := 6, ground := Ground.data }, { on := 11, ground := Ground.data }, { on := 3, ground := Ground.guard }], guard := some (3, false) }) (v := undef) rfl (by kernel_rfl) (by kernel_rfl) (by kernel_rfl) (fun _ _ _ h => h) (Or.inr ⟨by rfl, rfl⟩) hHma1 ?_
      (try simp only [Act.put, List.setIfInBounds_toArray, List.set_cons_zero, List.set_cons_succ])
      refine wpAnyH_take (i := 13) (oi := { dst := some 34, op := Op.pick (Operand.tmp 24) (Operand.const (Value.bool true)) (Operand.tmp 33), type := 4, pos := "may.go:17", after := #[{ on := 3, ground := Ground.data }, { on := 12, ground := Ground.data }], guard := none }) (v := ?vma13) rfl (by kernel_rfl) (by kernel_rfl) (by kernel_rfl) (fun _ _ _ h => h) (Or.inl ⟨by rfl, ?hyma13⟩) hHma1 ?_
      case hyma13 => (intro w hSw; (try dsimp only at hSw); go_simp; (first | done | with_reducible rfl))
      (try simp only [Act.put, List.setIfInBounds_toArray, List.set_cons_zero, List.set_cons_succ])
      refine wpAnyH_done (by kernel_rfl) ?_ _
      go_wp2
      go_meet
      exact ⟨rfl, HI1.out.keep hb2⟩
    · obtain ⟨sh, hsh⟩ : ∃ sh, s.h = sh := ⟨_, rfl⟩
      have HBD3 : Hid ((sh && !(s.mn.k == v.k)) = bd) := (by have h := HBD2.out; rw [hsh] at h; exact h)
      have HKd : Hid (∀ X, Below w1.heap.size w1 X → sh = true → Calls Tryd.prog 21 #[.agg #[.int .i64 s.e, .int .i64 s.u, .bool true, .int .i64 s.mn.k, .int .i64 s.mn.n, .string s.mn.s, .int .i64 s.mx.k, .int .i64 s.mx.n, .string s.mx.s]] X fun e w' => e = .returned (.int .i64 s.mn.k) ∧ Below w1.heap.size w1 w') := fun X hX hT => (by have h := kindS_any s X; unfold St.val St.cs at h; rw [hsh, hT] at h; exact h.mono fun _ _ h => ⟨h.1, bel_next hX (Nat.le_refl _) h.2⟩)
      clear HBD2
      cases sh
      · obtain rfl : false = bd := HBD3.out
        have HN : Hid (∀ X, Below w1.heap.size w1 X → (X.cell? ⟨W.heap.size, 0, none⟩ = some (.int .i64 s.e) ∧ X.cell? ⟨W.heap.size, 1, none⟩ = some (.int .i64 s.u) ∧ X.cell? ⟨W.heap.size, 2, none⟩ = some (.bool false) ∧ X.cell? ⟨W.heap.size, 3, none⟩ = some (.int .i64 s.mn.k) ∧ X.cell? ⟨W.heap.size, 4, none⟩ = some (.int .i64 s.mn.n) ∧ X.cell? ⟨W.heap.size, 5, none⟩ = some (.string s.mn.s) ∧ X.cell? ⟨W.heap.size, 6, none⟩ = some (.int .i64 s.mx.k) ∧ X.cell? ⟨W.heap.size, 7, none⟩ = some (.int .i64 s.mx.n) ∧ X.cell? ⟨W.heap.size, 8, none⟩ = some (.string s.mx.s)) ∧ (X.cell? ⟨W.heap.size + 1, 0, none⟩ = some (.int .i64 v.k) ∧ X.cell? ⟨W.heap.size + 1, 1, none⟩ = some (.int .i64 v.n) ∧ X.cell? ⟨W.heap.size + 1, 2, none⟩ = some (.string v.s)) ∧ Below w1.heap.size w1 X) := fun X hX => ⟨by have h := (row_nine (HI1.out.keep hX).st).1; rw [hsh] at h; exact h, row_three (HI1.out.keep hX).va, hX⟩
        clear hsh
        refine wp_region_held_drew (S := (fun X => (X.cell? ⟨W.heap.size, 0, none⟩ = some (.int .i64 s.e) ∧ X.cell? ⟨W.heap.size, 1, none⟩ = some (.int .i64 s.u) ∧ X.cell? ⟨W.heap.size, 2, none⟩ = some (.bool false) ∧ X.cell? ⟨W.heap.size, 3, none⟩ = some (.int .i64 s.mn.k) ∧ X.cell? ⟨W.heap.size, 4, none⟩ = some (.int .i64 s.mn.n) ∧ X.cell? ⟨W.heap.size, 5, none⟩ = some (.string s.mn.s) ∧ X.cell? ⟨W.heap.size, 6, none⟩ = some (.int .i64 s.mx.k) ∧ X.cell? ⟨W.heap.size, 7, none⟩ = some (.int .i64 s.mx.n) ∧ X.cell? ⟨W.heap.size, 8, none⟩ = some (.string s.mx.s)) ∧ (X.cell? ⟨W.heap.size + 1, 0, none⟩ = some (.int .i64 v.k) ∧ X.cell? ⟨W.heap.size + 1, 1, none⟩ = some (.int .i64 v.n) ∧ X.cell? ⟨W.heap.size + 1, 2, none⟩ = some (.string v.s)) ∧ Below w1.heap.size w1 X)) (by kernel_rfl) (HN.out _ b0.drew) (fun hHeld => ?_)
        refine wpAnyH_take (i := 0) (oi := { dst := some 21, op := Op.load 23 (Operand.tmp 5), type := 23, pos := "may.go:17", after := #[], guard := none }) (v := ?vmb0) rfl (by kernel_rfl) (by kernel_rfl) (by kernel_rfl) (fun _ _ _ h => h) (Or.inl ⟨by rfl, ?hymb0⟩) hHeld ?_
        case hymb0 => (intro w hSw; (try dsimp only at hSw); go_simp; (first | done | with_reducible rfl))
        (try simp only [Act.put, List.setIfInBounds_toArray, List.set_cons_zero, List.set_cons_succ])
        refine wpAnyH_ready (rs := [1]) (by kernel_rfl) (by simp) ?_
        refine AllReadyH.cons (o := { dst := some 22, op := Op.call { callee := Callee.value (Operand.func 20), args := #[Operand.tmp 21], argTypes := #[23] }, type := 4, pos := "may.go:17", after := #[{ on := 0, ground := Ground.data }], guard := none }) rfl (fun K hK => ?_) AllReadyH.nil
        go_simp
        (go_at_call 20; (with_reducible refine Calls.mono (HIV.out _ b0.drew) ?_); rintro e w2 ⟨rfl, hb2⟩)
        go_wp2_with fail
        refine hK.out _ _ (HN.out _ hb2) (fun hHmb1 => ?_)
        (try simp only [Act.put, List.setIfInBounds_toArray, List.set_cons_zero, List.set_cons_succ])
        refine wpAnyH_take (i := 2) (oi := { dst := some 23, op := Op.unOp UnOp.not 4 (Operand.tmp 22), type := 4, pos := "may.go:17", after := #[{ on := 1, ground := Ground.data }], guard := none }) (v := ?vmb2) rfl (by kernel_rfl) (by kernel_rfl) (by kernel_rfl) (fun _ _ _ h => h) (Or.inl ⟨by rfl, ?hymb2⟩) hHmb1 ?_
        case hymb2 => (intro w hSw; (try dsimp only at hSw); go_simp; (first | done | with_reducible rfl))
        (try simp only [Act.put, List.setIfInBounds_toArray, List.set_cons_zero, List.set_cons_succ])
        refine wpAnyH_take (i := 3) (oi := { dst := some 24, op := Op.move (Operand.tmp 23), type := 4, pos := "may.go:17", after := #[{ on := 2, ground := Ground.data }, { on := 1, ground := Ground.chain }], guard := none }) (v := ?vmb3) rfl (by kernel_rfl) (by kernel_rfl) (by kernel_rfl) (fun _ _ _ h => h) (Or.inl ⟨by rfl, ?hymb3⟩) hHmb1 ?_
        case hymb3 => (intro w hSw; (try dsimp only at hSw); go_simp; (first | done | with_reducible rfl))
        (try simp only [Act.put, List.setIfInBounds_toArray, List.set_cons_zero, List.set_cons_succ])
        refine wpAnyH_take (i := 4) (oi := { dst := some 25, op := Op.fieldAddr 34 (Operand.tmp 3) 2, type := 0, pos := "may.go:17", after := #[{ on := 3, ground := Ground.guard }], guard := some (3, false) }) (v := ?vmb4) rfl (by kernel_rfl) (by kernel_rfl) (by kernel_rfl) (fun _ _ _ h => h) (Or.inl ⟨by rfl, ?hymb4⟩) hHmb1 ?_
        case hymb4 => (intro w hSw; (try dsimp only at hSw); go_simp; (first | done | with_reducible rfl))
        (try simp only [Act.put, List.setIfInBounds_toArray, List.set_cons_zero, List.set_cons_succ])
        refine wpAnyH_take (i := 5) (oi := { dst := some 26, op := Op.load 4 (Operand.tmp 25), type := 4, pos := "may.go:17", after := #[{ on := 4, ground := Ground.data }, { on := 3, ground := Ground.guard }], guard := some (3, false) }) (v := ?vmb5) rfl (by kernel_rfl) (by kernel_rfl) (by kernel_rfl) (fun _ _ _ h => h) (Or.inl ⟨by rfl, ?hymb5⟩) hHmb1 ?_
        case hymb5 => (intro w hSw; (try dsimp only at hSw); go_simp; (first | done | with_reducible rfl))
        (try simp only [Act.put, List.setIfInBounds_toArray, List.set_cons_zero, List.set_cons_succ])
        refine wpAnyH_take (i := 6) (oi := { dst := some 27, op := Op.move (Operand.tmp 26), type := 4, pos := "may.go:17", after := #[{ on := 5, ground := Ground.data }, { on := 3, ground := Ground.chain }, { on := 3, ground := Ground.guard }], guard := some (3, false) }) (v := ?vmb6) rfl (by kernel_rfl) (by kernel_rfl) (by kernel_rfl) (fun _ _ _ h => h) (Or.inl ⟨by rfl, ?hymb6⟩) hHmb1 ?_
        case hymb6 => (intro w hSw; (try dsimp only at hSw); go_simp; (first | done | with_reducible rfl))
        (try simp only [Act.put, List.setIfInBounds_toArray, List.set_cons_zero, List.set_cons_succ])
        refine wpAnyH_take (i := 7) (oi := { dst := some 28, op := Op.load 34 (Operand.tmp 3), type := 34, pos := "may.go:17", after := #[{ on := 6, ground := Ground.guard }], guard := some (6, true) }) (v := undef) rfl (by kernel_rfl) (by kernel_rfl) (by kernel_rfl) (fun _ _ _ h => h) (Or.inr ⟨by rfl, rfl⟩) hHmb1 ?_
        (try simp only [Act.put, List.setIfInBounds_toArray, List.set_cons_zero, List.set_cons_succ])
        refine wpAnyH_take (i := 8) (oi := { dst := some 29, op := Op.call { callee := Callee.value (Operand.func 21), args := #[Operand.tmp 28], argTypes := #[34] }, type := 3, pos := "may.go:17", after := #[{ on := 7, ground := Ground.data }, { on := 6, ground := Ground.chain }, { on := 6, ground := Ground.guard }], guard := some (6, true) }) (v := undef) rfl (by kernel_rfl) (by kernel_rfl) (by kernel_rfl) (fun _ _ _ h => h) (Or.inr ⟨by rfl, rfl⟩) hHmb1 ?_
        (try simp only [Act.put, List.setIfInBounds_toArray, List.set_cons_zero, List.set_cons_succ])
        refine wpAnyH_take (i := 9) (oi := { dst := some 30, op := Op.fieldAddr 23 (Operand.tmp 5) 0, type := 0, pos := "may.go:17", after := #[{ on := 6, ground := Ground.guard }], guard := some (6, true) }) (v := undef) rfl (by kernel_rfl) (by kernel_rfl) (by kernel_rfl) (fun _ _ _ h => h) (Or.inr ⟨by rfl, rfl⟩) hHmb1 ?_
        (try simp only [Act.put, List.setIfInBounds_toArray, List.set_cons_zero, List.set_cons_succ])
        refine wpAnyH_take (i := 10) (oi := { dst := some 31, op := Op.load 3 (Operand.tmp 30), type := 3, pos := "may.go:17", after := #[{ on := 9, ground := Ground.data }, { on := 6, ground := Ground.guard }], guard := some (6, true) }) (v := undef) rfl (by kernel_rfl) (by kernel_rfl) (by kernel_rfl) (fun _ _ _ h => h) (Or.inr ⟨by rfl, rfl⟩) hHmb1 ?_
        (try simp only [Act.put, List.setIfInBounds_toArray, List.set_cons_zero, List.set_cons_succ])
        refine wpAnyH_take (i := 11) (oi := { dst := some 32, op := Op.binOp BinOp.neq 3 (Operand.tmp 29) (Operand.tmp 31) 3, type := 4, pos := "may.go:17", after := #[{ on := 8, ground := Ground.data }, { on := 10, ground := Ground.data }, { on := 6, ground := Ground.guard }], guard := some (6, true) }) (v := undef) rfl (by kernel_rfl) (by kernel_rfl) (by kernel_rfl) (fun _ _ _ h => h) (Or.inr ⟨by rfl, rfl⟩) hHmb1 ?_
        (try simp only [Act.put, List.setIfInBounds_toArray, List.set_cons_zero, List.set_cons_succ])
        refine wpAnyH_take (i := 12) (oi := { dst := some 33, op := Op.pick (Operand.tmp 27) (Operand.tmp 32) (Operand.const (Value.bool false)), type := 4, pos := "may.go:17", after := #[{ on := 6, ground := Ground.data }, { on := 11, ground := Ground.data }, { on := 3, ground := Ground.guard }], guard := some (3, false) }) (v := ?vmb12) rfl (by kernel_rfl) (by kernel_rfl) (by kernel_rfl) (fun _ _ _ h => h) (Or.inl ⟨by rfl, ?hymb12⟩) hHmb1 ?_
        case hymb12 => (intro w hSw; (try dsimp only at hSw); go_simp; (first | done | with_reducible rfl))
        (try simp only [Act.put, List.setIfInBounds_toArray, List.set_cons_zero, List.set_cons_succ])
        refine wpAnyH_take (i := 13) (oi := { dst := some 34, op := Op.pick (Operand.tmp 24) (Operand.const (Value.bool true)) (Operand.tmp 33), type := 4, pos := "may.go:17", after := #[{ on := 3, ground := Ground.data }, { on := 12, ground := Ground.data }], guard := none }) (v := ?vmb13) rfl (by kernel_rfl) (by kernel_rfl) (by kernel_rfl) (fun _ _ _ h => h) (Or.inl ⟨by rfl, ?hymb13⟩) hHmb1 ?_
        case hymb13 => (intro w hSw; (try dsimp only at hSw); go_simp; (first | done | with_reducible rfl))
        (try simp only [Act.put, List.setIfInBounds_toArray, List.set_cons_zero, List.set_cons_succ])
        refine wpAnyH_done (by kernel_rfl) ?_ _
        go_wp2
        go_meet
        exact ⟨rfl, HI1.out.keep hb2⟩
      · have HN : Hid (∀ X, Below w1.heap.size w1 X → (X.cell? ⟨W.heap.size, 0, none⟩ = some (.int .i64 s.e) ∧ X.cell? ⟨W.heap.size, 1, none⟩ = some (.int .i64 s.u) ∧ X.cell? ⟨W.heap.size, 2, none⟩ = some (.bool true) ∧ X.cell? ⟨W.heap.size, 3, none⟩ = some (.int .i64 s.mn.k) ∧ X.cell? ⟨W.heap.size, 4, none⟩ = some (.int .i64 s.mn.n) ∧ X.cell? ⟨W.heap.size, 5, none⟩ = some (.string s.mn.s) ∧ X.cell? ⟨W.heap.size, 6, none⟩ = some (.int .i64 s.mx.k) ∧ X.cell? ⟨W.heap.size, 7, none⟩ = some (.int .i64 s.mx.n) ∧ X.cell? ⟨W.heap.size, 8, none⟩ = some (.string s.mx.s)) ∧ (X.cell? ⟨W.heap.size + 1, 0, none⟩ = some (.int .i64 v.k) ∧ X.cell? ⟨W.heap.size + 1, 1, none⟩ = some (.int .i64 v.n) ∧ X.cell? ⟨W.heap.size + 1, 2, none⟩ = some (.string v.s)) ∧ Below w1.heap.size w1 X) := fun X hX => ⟨by have h := (row_nine (HI1.out.keep hX).st).1; rw [hsh] at h; exact h, row_three (HI1.out.keep hX).va, hX⟩
        clear hsh
        refine wp_region_held_drew (S := (fun X => (X.cell? ⟨W.heap.size, 0, none⟩ = some (.int .i64 s.e) ∧ X.cell? ⟨W.heap.size, 1, none⟩ = some (.int .i64 s.u) ∧ X.cell? ⟨W.heap.size, 2, none⟩ = some (.bool true) ∧ X.cell? ⟨W.heap.size, 3, none⟩ = some (.int .i64 s.mn.k) ∧ X.cell? ⟨W.heap.size, 4, none⟩ = some (.int .i64 s.mn.n) ∧ X.cell? ⟨W.heap.size, 5, none⟩ = some (.string s.mn.s) ∧ X.cell? ⟨W.heap.size, 6, none⟩ = some (.int .i64 s.mx.k) ∧ X.cell? ⟨W.heap.size, 7, none⟩ = some (.int .i64 s.mx.n) ∧ X.cell? ⟨W.heap.size, 8, none⟩ = some (.string s.mx.s)) ∧ (X.cell? ⟨W.heap.size + 1, 0, none⟩ = some (.int .i64 v.k) ∧ X.cell? ⟨W.heap.size + 1, 1, none⟩ = some (.int .i64 v.n) ∧ X.cell? ⟨W.heap.size + 1, 2, none⟩ = some (.string v.s)) ∧ Below w1.heap.size w1 X)) (by kernel_rfl) (HN.out _ b0.drew) (fun hHeld => ?_)
        refine wpAnyH_take (i := 0) (oi := { dst := some 21, op := Op.load 23 (Operand.tmp 5), type := 23, pos := "may.go:17", after := #[], guard := none }) (v := ?vmc0) rfl (by kernel_rfl) (by kernel_rfl) (by kernel_rfl) (fun _ _ _ h => h) (Or.inl ⟨by rfl, ?hymc0⟩) hHeld ?_
        case hymc0 => (intro w hSw; (try dsimp only at hSw); go_simp; (first | done | with_reducible rfl))
        (try simp only [Act.put, List.setIfInBounds_toArray, List.set_cons_zero, List.set_cons_succ])
        refine wpAnyH_ready (rs := [1]) (by kernel_rfl) (by simp) ?_
        refine AllReadyH.cons (o := { dst := some 22, op := Op.call { callee := Callee.value (Operand.func 20), args := #[Operand.tmp 21], argTypes := #[23] }, type := 4, pos := "may.go:17", after := #[{ on := 0, ground := Ground.data }], guard := none }) rfl (fun K hK => ?_) AllReadyH.nil
        go_simp
        (go_at_call 20; (with_reducible refine Calls.mono (HIV.out _ b0.drew) ?_); rintro e w2 ⟨rfl, hb2⟩)
        go_wp2_with fail
        refine hK.out _ _ (HN.out _ hb2) (fun hHmc1 => ?_)
        (try simp only [Act.put, List.setIfInBounds_toArray, List.set_cons_zero, List.set_cons_succ])
        refine wpAnyH_take (i := 2) (oi := { dst := some 23, op := Op.unOp UnOp.not 4 (Operand.tmp 22), type := 4, pos := "may.go:17", after := #[{ on := 1, ground := Ground.data }], guard := none }) (v := ?vmc2) rfl (by kernel_rfl) (by kernel_rfl) (by kernel_rfl) (fun _ _ _ h => h) (Or.inl ⟨by rfl, ?hymc2⟩) hHmc1 ?_
        case hymc2 => (intro w hSw; (try dsimp only at hSw); go_simp; (first | done | with_reducible rfl))
        (try simp only [Act.put, List.setIfInBounds_toArray, List.set_cons_zero, List.set_cons_succ])
        refine wpAnyH_take (i := 3) (oi := { dst := some 24, op := Op.move (Operand.tmp 23), type := 4, pos := "may.go:17", after := #[{ on := 2, ground := Ground.data }, { on := 1, ground := Ground.chain }], guard := none }) (v := ?vmc3) rfl (by kernel_rfl) (by kernel_rfl) (by kernel_rfl) (fun _ _ _ h => h) (Or.inl ⟨by rfl, ?hymc3⟩) hHmc1 ?_
        case hymc3 => (intro w hSw; (try dsimp only at hSw); go_simp; (first | done | with_reducible rfl))
        (try simp only [Act.put, List.setIfInBounds_toArray, List.set_cons_zero, List.set_cons_succ])
        refine wpAnyH_take (i := 4) (oi := { dst := some 25, op := Op.fieldAddr 34 (Operand.tmp 3) 2, type := 0, pos := "may.go:17", after := #[{ on := 3, ground := Ground.guard }], guard := some (3, false) }) (v := ?vmc4) rfl (by kernel_rfl) (by kernel_rfl) (by kernel_rfl) (fun _ _ _ h => h) (Or.inl ⟨by rfl, ?hymc4⟩) hHmc1 ?_
        case hymc4 => (intro w hSw; (try dsimp only at hSw); go_simp; (first | done | with_reducible rfl))
        (try simp only [Act.put, List.setIfInBounds_toArray, List.set_cons_zero, List.set_cons_succ])
        refine wpAnyH_take (i := 5) (oi := { dst := some 26, op := Op.load 4 (Operand.tmp 25), type := 4, pos := "may.go:17", after := #[{ on := 4, ground := Ground.data }, { on := 3, ground := Ground.guard }], guard := some (3, false) }) (v := ?vmc5) rfl (by kernel_rfl) (by kernel_rfl) (by kernel_rfl) (fun _ _ _ h => h) (Or.inl ⟨by rfl, ?hymc5⟩) hHmc1 ?_
        case hymc5 => (intro w hSw; (try dsimp only at hSw); go_simp; (first | done | with_reducible rfl))
        (try simp only [Act.put, List.setIfInBounds_toArray, List.set_cons_zero, List.set_cons_succ])
        refine wpAnyH_take (i := 6) (oi := { dst := some 27, op := Op.move (Operand.tmp 26), type := 4, pos := "may.go:17", after := #[{ on := 5, ground := Ground.data }, { on := 3, ground := Ground.chain }, { on := 3, ground := Ground.guard }], guard := some (3, false) }) (v := ?vmc6) rfl (by kernel_rfl) (by kernel_rfl) (by kernel_rfl) (fun _ _ _ h => h) (Or.inl ⟨by rfl, ?hymc6⟩) hHmc1 ?_
        case hymc6 => (intro w hSw; (try dsimp only at hSw); go_simp; (first | done | with_reducible rfl))
        (try simp only [Act.put, List.setIfInBounds_toArray, List.set_cons_zero, List.set_cons_succ])
        refine wpAnyH_take (i := 7) (oi := { dst := some 28, op := Op.load 34 (Operand.tmp 3), type := 34, pos := "may.go:17", after := #[{ on := 6, ground := Ground.guard }], guard := some (6, true) }) (v := ?vmc7) rfl (by kernel_rfl) (by kernel_rfl) (by kernel_rfl) (fun _ _ _ h => h) (Or.inl ⟨by rfl, ?hymc7⟩) hHmc1 ?_
        case hymc7 => (intro w hSw; (try dsimp only at hSw); go_simp; (first | done | with_reducible rfl))
        (try simp only [Act.put, List.setIfInBounds_toArray, List.set_cons_zero, List.set_cons_succ])
        refine wpAnyH_take (i := 9) (oi := { dst := some 30, op := Op.fieldAddr 23 (Operand.tmp 5) 0, type := 0, pos := "may.go:17", after := #[{ on := 6, ground := Ground.guard }], guard := some (6, true) }) (v := ?vmc9) rfl (by kernel_rfl) (by kernel_rfl) (by kernel_rfl) (fun _ _ _ h => h) (Or.inl ⟨by rfl, ?hymc9⟩) hHmc1 ?_
        case hymc9 => (intro w hSw; (try dsimp only at hSw); go_simp; (first | done | with_reducible rfl))
        (try simp only [Act.put, List.setIfInBounds_toArray, List.set_cons_zero, List.set_cons_succ])
        refine wpAnyH_take (i := 10) (oi := { dst := some 31, op := Op.load 3 (Operand.tmp 30), type := 3, pos := "may.go:17", after := #[{ on := 9, ground := Ground.data }, { on := 6, ground := Ground.guard }], guard := some (6, true) }) (v := ?vmc10) rfl (by kernel_rfl) (by kernel_rfl) (by kernel_rfl) (fun _ _ _ h => h) (Or.inl ⟨by rfl, ?hymc10⟩) hHmc1 ?_
        case hymc10 => (intro w hSw; (try dsimp only at hSw); go_simp; (first | done | with_reducible rfl))
        (try simp only [Act.put, List.setIfInBounds_toArray, List.set_cons_zero, List.set_cons_succ])
        refine wpAnyH_ready (rs := [8]) (by kernel_rfl) (by simp) ?_
        refine AllReadyH.cons (o := { dst := some 29, op := Op.call { callee := Callee.value (Operand.func 21), args := #[Operand.tmp 28], argTypes := #[34] }, type := 3, pos := "may.go:17", after := #[{ on := 7, ground := Ground.data }, { on := 6, ground := Ground.chain }, { on := 6, ground := Ground.guard }], guard := some (6, true) }) rfl (fun K hK => ?_) AllReadyH.nil
        go_simp
        (go_at_call 21; (with_reducible refine Calls.mono (HKd.out _ hb2 (by simp)) ?_); rintro e w3 ⟨rfl, hb3⟩)
        go_wp2_with fail
        refine hK.out _ _ (HN.out _ hb3) (fun hHmc8 => ?_)
        (try simp only [Act.put, List.setIfInBounds_toArray, List.set_cons_zero, List.set_cons_succ])
        refine wpAnyH_take (i := 11) (oi := { dst := some 32, op := Op.binOp BinOp.neq 3 (Operand.tmp 29) (Operand.tmp 31) 3, type := 4, pos := "may.go:17", after := #[{ on := 8, ground := Ground.data }, { on := 10, ground := Ground.data }, { on := 6, ground := Ground.guard }], guard := some (6, true) }) (v := ?vmc11) rfl (by kernel_rfl) (by kernel_rfl) (by kernel_rfl) (fun _ _ _ h => h) (Or.inl ⟨by rfl, ?hymc11⟩) hHmc8 ?_
        case hymc11 => (intro w hSw; (try dsimp only at hSw); go_simp; (first | done | with_reducible rfl))
        (try simp only [Act.put, List.setIfInBounds_toArray, List.set_cons_zero, List.set_cons_succ])
        refine wpAnyH_take (i := 12) (oi := { dst := some 33, op := Op.pick (Operand.tmp 27) (Operand.tmp 32) (Operand.const (Value.bool false)), type := 4, pos := "may.go:17", after := #[{ on := 6, ground := Ground.data }, { on := 11, ground := Ground.data }, { on := 3, ground := Ground.guard }], guard := some (3, false) }) (v := ?vmc12) rfl (by kernel_rfl) (by kernel_rfl) (by kernel_rfl) (fun _ _ _ h => h) (Or.inl ⟨by rfl, ?hymc12⟩) hHmc8 ?_
        case hymc12 => (intro w hSw; (try dsimp only at hSw); go_simp; (first | done | with_reducible rfl))
        (try simp only [Act.put, List.setIfInBounds_toArray, List.set_cons_zero, List.set_cons_succ])
        refine wpAnyH_take (i := 13) (oi := { dst := some 34, op := Op.pick (Operand.tmp 24) (Operand.const (Value.bool true)) (Operand.tmp 33), type := 4, pos := "may.go:17", after := #[{ on := 3, ground := Ground.data }, { on := 12, ground := Ground.data }], guard := none }) (v := ?vmc13) rfl (by kernel_rfl) (by kernel_rfl) (by kernel_rfl) (fun _ _ _ h => h) (Or.inl ⟨by rfl, ?hymc13⟩) hHmc8 ?_
        case hymc13 => (intro w hSw; (try dsimp only at hSw); go_simp; (first | done | with_reducible rfl))
        (try simp only [Act.put, List.setIfInBounds_toArray, List.set_cons_zero, List.set_cons_succ])
        refine wpAnyH_done (by kernel_rfl) ?_ _
        go_wp2
        go_meet
        exact ⟨by rw [← HBD3.out]; rfl, HI1.out.keep hb3⟩
  case rest =>
    obtain ⟨rfl, HI⟩ := hcut
    rename World => wx
    clear HI1
    cases bd
    · obtain ⟨sh, hsh⟩ : ∃ sh, s.h = sh := ⟨_, rfl⟩
      have HSH : Hid _ := hsh
      have hst : wx.heap[W.heap.size]? = some (.cells #[.int .i64 s.e, .int .i64 s.u, .bool sh, .int .i64 s.mn.k, .int .i64 s.mn.n, .string s.mn.s, .int .i64 s.mx.k, .int .i64 s.mx.n, .string s.mx.s] 34 (0, 0)) := by have h := HI.out.st; rw [hsh] at h; exact h
      obtain ⟨⟨x0, x1, x2, x3, x4, x5, x6, x7, x8⟩, _⟩ := row_nine hst
      have HST : Hid _ := hst
      clear hsh hst
      cases sh
      · go_wp2
        go_ret2
        exact ⟨⟨false, _, rfl, .inr ⟨HBD.out, rfl, fun _ => rfl, fun h => by rw [HSH.out] at h; cases h⟩⟩, HI.out.old⟩
      · go_upto_region 8 with fail
        have hg := hs.2.2
        obtain ⟨hmn, hmx⟩ := hg
        go_cut [10, 11] (fun x y w => ∃ (g1 g2 : Nat) (lo hi : Vl), x = .pointer (some ⟨g1, 0, none⟩) ∧ y = .pointer (some ⟨g2, 0, none⟩) ∧ Hid (Below wx.heap.size wx w) ∧ Hid (w.heap[g1]? = some (.cells #[.int .i64 lo.k, .int .i64 lo.n, .string lo.s] 23 (0, 0))) ∧ Hid (w.heap[g2]? = some (.cells #[.int .i64 hi.k, .int .i64 hi.n, .string hi.s] 23 (0, 0))) ∧ Hid (lo.Low ∧ hi.Low ∧ (okV s.mn.k s.mn.k s.mn.n s.mn.s.size = true → lo = s.mn) ∧ (okV v.k s.mx.k s.mx.n s.mx.s.size = true → hi = s.mx)))
        case first =>
          clear x0 x1 x2 x3 x4 x5 x6 x7 x8
          have b0 : Below wx.heap.size wx wx := Below.refl _ _
          have HN : Hid (∀ X, Below wx.heap.size wx X → (X.cell? ⟨W.heap.size, 0, none⟩ = some (.int .i64 s.e) ∧ X.cell? ⟨W.heap.size, 1, none⟩ = some (.int .i64 s.u) ∧ X.cell? ⟨W.heap.size, 2, none⟩ = some (.bool true) ∧ X.cell? ⟨W.heap.size, 3, none⟩ = some (.int .i64 s.mn.k) ∧ X.cell? ⟨W.heap.size, 4, none⟩ = some (.int .i64 s.mn.n) ∧ X.cell? ⟨W.heap.size, 5, none⟩ = some (.string s.mn.s) ∧ X.cell? ⟨W.heap.size, 6, none⟩ = some (.int .i64 s.mx.k) ∧ X.cell? ⟨W.heap.size, 7, none⟩ = some (.int .i64 s.mx.n) ∧ X.cell? ⟨W.heap.size, 8, none⟩ = some (.string s.mx.s)) ∧ (X.cell? ⟨W.heap.size + 1, 0, none⟩ = some (.int .i64 v.k) ∧ X.cell? ⟨W.heap.size + 1, 1, none⟩ = some (.int .i64 v.n) ∧ X.cell? ⟨W.heap.size + 1, 2, none⟩ = some (.string v.s)) ∧ Below wx.heap.size wx X) := fun X hX => ⟨(row_nine (blk_keep hX HST.out)).1, row_three (blk_keep hX HI.out.va), hX⟩
          have HLe : Hid (∀ X, Below wx.heap.size wx X → Calls Tryd.prog 22 #[.agg #[.int .i64 s.mn.k, .int .i64 s.mn.n, .string s.mn.s]] X fun e w' => (∃ x : Vl, e = .returned (.agg #[.int .i64 x.k, .int .i64 x.n, .string x.s]) ∧ x.Low ∧ (okV s.mn.k s.mn.k s.mn.n s.mn.s.size = true → x = s.mn)) ∧ Below wx.heap.size wx w' ∧ Below X.heap.size X w') := fun X hX => (leastFrom_any s.mn X hmn.2.1.1 hmn.2.2).mono fun _ _ h => ⟨h.1, bel_next hX (Nat.le_refl _) h.2, h.2⟩
          have HGr : Hid (∀ X, Below wx.heap.size wx X → Calls Tryd.prog 23 #[.agg #[.int .i64 s.mx.k, .int .i64 s.mx.n, .string s.mx.s], .int .i64 v.k] X fun e w' => (∃ x : Vl, e = .returned (.agg #[.int .i64 x.k, .int .i64 x.n, .string x.s]) ∧ x.Low ∧ (okV v.k s.mx.k s.mx.n s.mx.s.size = true → x = s.mx)) ∧ Below wx.heap.size wx w' ∧ Below X.heap.size X w') := fun X hX => (greatestTo_any s.mx v.k X hmx.2.1.1 hmx.2.1.2 hmx.2.2).mono fun _ _ h => ⟨h.1, bel_next hX (Nat.le_refl _) h.2, h.2⟩
          go_region_held3 (fun X => (X.cell? ⟨W.heap.size, 0, none⟩ = some (.int .i64 s.e) ∧ X.cell? ⟨W.heap.size, 1, none⟩ = some (.int .i64 s.u) ∧ X.cell? ⟨W.heap.size, 2, none⟩ = some (.bool true) ∧ X.cell? ⟨W.heap.size, 3, none⟩ = some (.int .i64 s.mn.k) ∧ X.cell? ⟨W.heap.size, 4, none⟩ = some (.int .i64 s.mn.n) ∧ X.cell? ⟨W.heap.size, 5, none⟩ = some (.string s.mn.s) ∧ X.cell? ⟨W.heap.size, 6, none⟩ = some (.int .i64 s.mx.k) ∧ X.cell? ⟨W.heap.size, 7, none⟩ = some (.int .i64 s.mx.n) ∧ X.cell? ⟨W.heap.size, 8, none⟩ = some (.string s.mx.s)) ∧ (X.cell? ⟨W.heap.size + 1, 0, none⟩ = some (.int .i64 v.k) ∧ X.cell? ⟨W.heap.size + 1, 1, none⟩ = some (.int .i64 v.n) ∧ X.cell? ⟨W.heap.size + 1, 2, none⟩ = some (.string v.s)) ∧ Below wx.heap.size wx X) (with_reducible refine HN.out _ ?_; repeat' (first | with_reducible assumption | with_reducible exact b0.drew | with_reducible exact b0 | with_reducible refine Below.drew ?_ | with_reducible exact Nat.le_refl _ | with_reducible refine Below.setCell ?_ ?_ _ | with_reducible refine Below.alloc ?_ ?_ _ | with_reducible exact Below.size (by assumption) | (simp; done) | (simp; omega) | omega)) (first
            | (go_at_call 22; (with_reducible refine Calls.mono (HLe.out _ ?_) ?_); (repeat' (first | with_reducible assumption | with_reducible exact b0.drew | with_reducible exact b0 | with_reducible refine Below.drew ?_ | with_reducible refine Below.alloc ?_ ?_ _ | with_reducible exact Below.size (by assumption) | with_reducible exact Nat.le_refl _ | (simp; done) | (simp; omega))); rintro e x1 ⟨⟨lo, rfl, hlo⟩, hbx1, hraw1⟩; have HLO : Hid _ := hlo; clear hlo; have hq1 : wx.heap.size ≤ x1.heap.size := hbx1.size; (first | (have hz1 : x1.heap[wx.heap.size]? = some (.cells #[.int .i64 0, .int .i64 0, .string ⟨#[]⟩] 23 (0, 0)) := blk_keep hraw1 (box_fst wx.drew); have hz2 : x1.heap[wx.heap.size + 1]? = some (.cells #[.int .i64 0, .int .i64 0, .string ⟨#[]⟩] 23 (0, 0)) := blk_keep hraw1 (box_snd wx.drew)) | (have hz1 : x1.heap[wx.heap.size]? = some (.cells #[.int .i64 0, .int .i64 0, .string ⟨#[]⟩] 23 (0, 0)) := blk_keep hraw1 (box_one wx.drew)) | skip); (first | (have hn1 : ¬ (x1.heap.size = wx.heap.size) := Nat.ne_of_gt (lt_of_block hz1); have hn2 : ¬ (wx.heap.size = x1.heap.size) := Nat.ne_of_lt (lt_of_block hz1)) | skip))
            | (go_at_call 23; (with_reducible refine Calls.mono (HGr.out _ ?_) ?_); (repeat' (first | with_reducible assumption | with_reducible exact b0.drew | with_reducible exact b0 | with_reducible refine Below.drew ?_ | with_reducible refine Below.alloc ?_ ?_ _ | with_reducible exact Below.size (by assumption) | with_reducible exact Nat.le_refl _ | (simp; done) | (simp; omega))); rintro e x2 ⟨⟨hi, rfl, hhi⟩, hbx2, hraw2⟩; have HHI : Hid _ := hhi; have HBX2 : Hid _ := hbx2; clear hhi; have hq2 : wx.heap.size ≤ x2.heap.size := hbx2.size; (first | (have hz5 := blk_keep hraw2 hz1; have hz6 := blk_keep hraw2 hz2; clear hz1 hz2) | (have hz5 := blk_keep hraw2 (blk_alloc hz1 (o' := (.cells #[.int .i64 0, .int .i64 0, .string ⟨#[]⟩] 23))); have hz6 : x2.heap[x1.heap.size]? = some (.cells #[.int .i64 0, .int .i64 0, .string ⟨#[]⟩] 23 (0, 0)) := blk_keep hraw2 (box_one x1); clear hz1) | (have hz5 := blk_keep hraw2 hz1; clear hz1) | (have hz5 : x2.heap[x1.heap.size]? = some (.cells #[.int .i64 0, .int .i64 0, .string ⟨#[]⟩] 23 (0, 0)) := blk_keep hraw2 (box_fst x1); have hz6 : x2.heap[x1.heap.size + 1]? = some (.cells #[.int .i64 0, .int .i64 0, .string ⟨#[]⟩] 23 (0, 0)) := blk_keep hraw2 (box_snd x1)) | (have hz5 : x2.heap[x1.heap.size]? = some (.cells #[.int .i64 0, .int .i64 0, .string ⟨#[]⟩] 23 (0, 0)) := blk_keep hraw2 (box_one x1)) | skip); (first | (obtain ⟨a0, a1, a2⟩ := row_three hz5; obtain ⟨a3, a4, a5⟩ := row_threeF hz5; have HZ5 : Hid _ := hz5; have hn3 := Nat.ne_of_gt (lt_of_block hz5); have hn4 := Nat.ne_of_lt (lt_of_block hz5); (obtain ⟨a6, a7, a8⟩ := row_three (blk_alloc hz5 (o' := (.cells #[.int .i64 0, .int .i64 0, .string ⟨#[]⟩] 23))); obtain ⟨a9, a10, a11⟩ := row_threeF (blk_alloc hz5 (o' := (.cells #[.int .i64 0, .int .i64 0, .string ⟨#[]⟩] 23))); obtain ⟨g6, g7, g8⟩ := row_three (box_one x2); obtain ⟨g9, g10, g11⟩ := row_threeF (box_one x2); obtain ⟨m6, m7, m8⟩ := row_three (blk_alloc hz5 (o' := (.cells #[.int .i64 lo.k, .int .i64 lo.n, .string lo.s] 23))); obtain ⟨m9, m10, m11⟩ := row_threeF (blk_alloc hz5 (o' := (.cells #[.int .i64 lo.k, .int .i64 lo.n, .string lo.s] 23)))); clear hz5) | (obtain ⟨a0, a1, a2⟩ := row_three (box_fst x2); obtain ⟨a3, a4, a5⟩ := row_threeF (box_fst x2); obtain ⟨a6, a7, a8⟩ := row_three (box_snd x2); obtain ⟨a9, a10, a11⟩ := row_threeF (box_snd x2); obtain ⟨m6, m7, m8⟩ := row_three (blk_alloc (box_one x2) (o' := (.cells #[.int .i64 lo.k, .int .i64 lo.n, .string lo.s] 23))); obtain ⟨m9, m10, m11⟩ := row_threeF (blk_alloc (box_one x2) (o' := (.cells #[.int .i64 lo.k, .int .i64 lo.n, .string lo.s] 23)))) | skip); (first | (obtain ⟨d0, d1, d2⟩ := row_three hz6; obtain ⟨d3, d4, d5⟩ := row_threeF hz6; have HZ6 : Hid _ := hz6; clear hz6) | skip)))
          all_goals go_wp2_with fail
          all_goals go_meet
          all_goals
            refine ⟨_, _, lo, hi, rfl, rfl, ?_⟩
            refine (fun (h : LoHi wx _ _ _ lo hi) => ⟨h.1, h.2.1, h.2.2, HLO.out.1, HHI.out.1, HLO.out.2, HHI.out.2⟩) ?_
            first
              | with_reducible exact lohi1 HBX2.out lo hi
              | with_reducible exact lohi2 HBX2.out lo hi
              | (with_reducible refine lohi3 HBX2.out HZ5.out ?_ lo hi; omega)
              | (with_reducible refine lohi5 HBX2.out HZ5.out ?_ lo hi; omega)
              | (with_reducible refine lohi4 HBX2.out HZ5.out HZ6.out ?_ ?_ ?_ lo hi <;> omega)
              | (with_reducible refine lohi4 HBX2.out HZ6.out HZ5.out ?_ ?_ ?_ lo hi <;> omega)
        case rest =>
          obtain ⟨g1, g2, lo, hi, rfl, rfl, HBy, H1, H2, HLH⟩ := hcut
          rename World => wy
          have HD0 : Hid (MyD W s v g1 g2 lo hi wy) := ⟨HI.out.keep HBy.out, H1.out, H2.out⟩
          have hvl : v.Low := hv.2.1.1
          have hlo : -9223372036854775808 ≤ lo.n := HLH.out.1
          have hhi : -9223372036854775808 ≤ hi.n := HLH.out.2.1
          have hvn : -9223372036854775808 ≤ v.n := hv.2.1.1
          clear HI HBy H1 H2 x0 x1 x2 x3 x4 x5 x6 x7 x8 HST hmn hmx
          obtain ⟨l0, l1, l2⟩ := row_three HD0.out.lo
          obtain ⟨u0, u1, u2⟩ := row_three HD0.out.hi
          obtain ⟨y0, y1, y2⟩ := row_three HD0.out.my.va
          obtain ⟨r0, HR0⟩ : ∃ r, Hid (vless hi.k hi.n hi.s lo.k lo.n lo.s = r) := ⟨_, rfl⟩
          obtain ⟨r1, HR1⟩ : ∃ r, Hid (vless v.k v.n v.s lo.k lo.n lo.s = r) := ⟨_, rfl⟩
          obtain ⟨r2, HR2⟩ : ∃ r, Hid (vless hi.k hi.n hi.s v.k v.n v.s = r) := ⟨_, rfl⟩
          have HGd : Hid (GoodS s v → lo = s.mn ∧ hi = s.mx) := fun h => ⟨HLH.out.2.2.1 (by have e := okV_kind h.1; rw [e]; have h2 := h.1; rw [e] at h2; exact h2), HLH.out.2.2.2 h.2.1⟩
          go_wp2_with fail
          refine (less_any hi.k hi.n hi.s lo.k lo.n lo.s _ hhi hlo).mono ?_
          rw [HR0.out]
          rintro e wa ⟨rfl, hba⟩
          have HDa : Hid _ := HD0.out.keep hba
          clear hba HD0 l0 l1 l2 u0 u1 u2 y0 y1 y2
          obtain ⟨l0, l1, l2⟩ := row_three HDa.out.lo
          obtain ⟨u0, u1, u2⟩ := row_three HDa.out.hi
          obtain ⟨y0, y1, y2⟩ := row_three HDa.out.my.va
          cases r0
          · go_upto_region 11 with fail
            obtain ⟨wt, HWT⟩ : ∃ wt, Hid (wt = (!r1 && !r2)) := ⟨_, rfl⟩
            have HEnd : Hid (∀ b : Bool, b = (stdB i lo v || stdB i hi v || (wt && stdB i v v)) → MyR i s v (.iface kt kp) b .nilIface) := fun b hb => .inr ⟨HBD.out, rfl, fun h => (by rw [HSH.out] at h; cases h), fun _ hg => (by
              obtain ⟨e1, e2⟩ := HGd.out hg
              rw [hb, HWT.out, ← HR1.out, ← HR2.out, e1, e2]
              rfl)⟩
            go_cut [12] (fun x w => x = .bool wt ∧ Hid (MyD W s v g1 g2 lo hi w))
            case first =>
              go_wp2_with fail
              refine (less_any v.k v.n v.s lo.k lo.n lo.s _ hvn hlo).mono ?_
              rw [HR1.out]
              rintro e wb ⟨rfl, hbb⟩
              have HDb : Hid _ := HDa.out.keep hbb
              clear hbb l0 l1 l2 u0 u1 u2 y0 y1 y2
              obtain ⟨u0, u1, u2⟩ := row_three HDb.out.hi
              obtain ⟨y0, y1, y2⟩ := row_three HDb.out.my.va
              cases r1
              · go_wp2_with fail
                refine (less_any hi.k hi.n hi.s v.k v.n v.s _ hhi hvn).mono ?_
                rw [HR2.out]
                rintro e wc ⟨rfl, hbc⟩
                have HDc : Hid _ := HDb.out.keep hbc
                go_wp2
                go_meet
                exact ⟨by rw [HWT.out]; rfl, HDc⟩
              · go_wp2
                go_meet
                exact ⟨by rw [HWT.out]; rfl, HDb⟩
            case rest =>
              obtain ⟨rfl, HDw⟩ := hcut
              rename World => wd
              clear HDa l0 l1 l2 u0 u1 u2 y0 y1 y2 HWT HR0 HR1 HR2
              obtain ⟨l0, l1, l2⟩ := row_three HDw.out.lo
              obtain ⟨u0, u1, u2⟩ := row_three HDw.out.hi
              obtain ⟨y0, y1, y2⟩ := row_three HDw.out.my.va
              obtain ⟨F, HF⟩ : ∃ F, Hid (fnN i = F) := ⟨_, rfl⟩
              rw [HF.out]
              rcases (show i = 0 ∨ i = 1 ∨ i = 2 ∨ i = 3 ∨ i = 4 ∨ i = 5 by omega) with rfl | rfl | rfl | rfl | rfl | rfl
              · obtain rfl : (24 : Nat) = F := HF.out
                go_wp2_with fail
                refine (stand0 lo v _ HLH.out.1 hvl).mono ?_
                obtain ⟨b1, HB1⟩ : ∃ b, Hid (stdB 0 lo v = b) := ⟨_, rfl⟩
                obtain ⟨b2, HB2⟩ : ∃ b, Hid (stdB 0 hi v = b) := ⟨_, rfl⟩
                obtain ⟨b3, HB3⟩ : ∃ b, Hid (stdB 0 v v = b) := ⟨_, rfl⟩
                have HFn : Hid (∀ b, b = (b1 || b2 || (wt && b3)) → MyR 0 s v (.iface kt kp) b .nilIface) := fun b hb => HEnd.out b (by rw [hb, HB1.out, HB2.out, HB3.out])
                rw [HB1.out]
                rintro e z1 ⟨rfl, hz1⟩
                have HD1 : Hid _ := HDw.out.keep hz1
                clear hz1 l0 l1 l2 u0 u1 u2 y0 y1 y2
                obtain ⟨u0, u1, u2⟩ := row_three HD1.out.hi
                obtain ⟨y0, y1, y2⟩ := row_three HD1.out.my.va
                cases b1
                · go_wp2_with fail
                  refine (stand0 hi v _ HLH.out.2.1 hvl).mono ?_
                  rw [HB2.out]
                  rintro e z2 ⟨rfl, hz2⟩
                  have HD2 : Hid _ := HD1.out.keep hz2
                  clear hz2 u0 u1 u2 y0 y1 y2
                  obtain ⟨y0, y1, y2⟩ := row_three HD2.out.my.va
                  cases b2
                  · cases wt
                    · go_wp2
                      go_ret2
                      exact ⟨⟨_, _, rfl, HFn.out _ rfl⟩, HD2.out.my.old⟩
                    · go_wp2_with fail
                      refine (stand0 v v _ hvl hvl).mono ?_
                      rw [HB3.out]
                      rintro e z3 ⟨rfl, hz3⟩
                      have HD3 : Hid _ := HD2.out.keep hz3
                      go_wp2
                      go_ret2
                      exact ⟨⟨_, _, rfl, HFn.out _ (by simp)⟩, HD3.out.my.old⟩
                  · go_wp2
                    go_ret2
                    exact ⟨⟨_, _, rfl, HFn.out _ rfl⟩, HD2.out.my.old⟩
                · go_wp2
                  go_ret2
                  exact ⟨⟨_, _, rfl, HFn.out _ rfl⟩, HD1.out.my.old⟩
              · obtain rfl : (47 : Nat) = F := HF.out
                go_wp2_with fail
                refine (stand1 lo v _ HLH.out.1 hvl).mono ?_
                obtain ⟨b1, HB1⟩ : ∃ b, Hid (stdB 1 lo v = b) := ⟨_, rfl⟩
                obtain ⟨b2, HB2⟩ : ∃ b, Hid (stdB 1 hi v = b) := ⟨_, rfl⟩
                obtain ⟨b3, HB3⟩ : ∃ b, Hid (stdB 1 v v = b) := ⟨_, rfl⟩
                have HFn : Hid (∀ b, b = (b1 || b2 || (wt && b3)) → MyR 1 s v (.iface kt kp) b .nilIface) := fun b hb => HEnd.out b (by rw [hb, HB1.out, HB2.out, HB3.out])
                rw [HB1.out]
                rintro e z1 ⟨rfl, hz1⟩
                have HD1 : Hid _ := HDw.out.keep hz1
                clear hz1 l0 l1 l2 u0 u1 u2 y0 y1 y2
                obtain ⟨u0, u1, u2⟩ := row_three HD1.out.hi
                obtain ⟨y0, y1, y2⟩ := row_three HD1.out.my.va
                cases b1
                · go_wp2_with fail
                  refine (stand1 hi v _ HLH.out.2.1 hvl).mono ?_
                  rw [HB2.out]
                  rintro e z2 ⟨rfl, hz2⟩
                  have HD2 : Hid _ := HD1.out.keep hz2
                  clear hz2 u0 u1 u2 y0 y1 y2
                  obtain ⟨y0, y1, y2⟩ := row_three HD2.out.my.va
                  cases b2
                  · cases wt
                    · go_wp2
                      go_ret2
                      exact ⟨⟨_, _, rfl, HFn.out _ rfl⟩, HD2.out.my.old⟩
                    · go_wp2_with fail
                      refine (stand1 v v _ hvl hvl).mono ?_
                      rw [HB3.out]
                      rintro e z3 ⟨rfl, hz3⟩
                      have HD3 : Hid _ := HD2.out.keep hz3
                      go_wp2
                      go_ret2
                      exact ⟨⟨_, _, rfl, HFn.out _ (by simp)⟩, HD3.out.my.old⟩
                  · go_wp2
                    go_ret2
                    exact ⟨⟨_, _, rfl, HFn.out _ rfl⟩, HD2.out.my.old⟩
                · go_wp2
                  go_ret2
                  exact ⟨⟨_, _, rfl, HFn.out _ rfl⟩, HD1.out.my.old⟩
              · obtain rfl : (48 : Nat) = F := HF.out
                go_wp2_with fail
                refine (stand2 lo v _ HLH.out.1 hvl).mono ?_
                obtain ⟨b1, HB1⟩ : ∃ b, Hid (stdB 2 lo v = b) := ⟨_, rfl⟩
                obtain ⟨b2, HB2⟩ : ∃ b, Hid (stdB 2 hi v = b) := ⟨_, rfl⟩
                obtain ⟨b3, HB3⟩ : ∃ b, Hid (stdB 2 v v = b) := ⟨_, rfl⟩
                have HFn : Hid (∀ b, b = (b1 || b2 || (wt && b3)) → MyR 2 s v (.iface kt kp) b .nilIface) := fun b hb => HEnd.out b (by rw [hb, HB1.out, HB2.out, HB3.out])
                rw [HB1.out]
                rintro e z1 ⟨rfl, hz1⟩
                have HD1 : Hid _ := HDw.out.keep hz1
                clear hz1 l0 l1 l2 u0 u1 u2 y0 y1 y2
                obtain ⟨u0, u1, u2⟩ := row_three HD1.out.hi
                obtain ⟨y0, y1, y2⟩ := row_three HD1.out.my.va
                cases b1
                · go_wp2_with fail
                  refine (stand2 hi v _ HLH.out.2.1 hvl).mono ?_
                  rw [HB2.out]
                  rintro e z2 ⟨rfl, hz2⟩
                  have HD2 : Hid _ := HD1.out.keep hz2
                  clear hz2 u0 u1 u2 y0 y1 y2
                  obtain ⟨y0, y1, y2⟩ := row_three HD2.out.my.va
                  cases b2
                  · cases wt
                    · go_wp2
                      go_ret2
                      exact ⟨⟨_, _, rfl, HFn.out _ rfl⟩, HD2.out.my.old⟩
                    · go_wp2_with fail
                      refine (stand2 v v _ hvl hvl).mono ?_
                      rw [HB3.out]
                      rintro e z3 ⟨rfl, hz3⟩
                      have HD3 : Hid _ := HD2.out.keep hz3
                      go_wp2
                      go_ret2
                      exact ⟨⟨_, _, rfl, HFn.out _ (by simp)⟩, HD3.out.my.old⟩
                  · go_wp2
                    go_ret2
                    exact ⟨⟨_, _, rfl, HFn.out _ rfl⟩, HD2.out.my.old⟩
                · go_wp2
                  go_ret2
                  exact ⟨⟨_, _, rfl, HFn.out _ rfl⟩, HD1.out.my.old⟩
              · obtain rfl : (49 : Nat) = F := HF.out
                go_wp2_with fail
                refine (stand3 lo v _ HLH.out.1 hvl).mono ?_
                obtain ⟨b1, HB1⟩ : ∃ b, Hid (stdB 3 lo v = b) := ⟨_, rfl⟩
                obtain ⟨b2, HB2⟩ : ∃ b, Hid (stdB 3 hi v = b) := ⟨_, rfl⟩
                obtain ⟨b3, HB3⟩ : ∃ b, Hid (stdB 3 v v = b) := ⟨_, rfl⟩
                have HFn : Hid (∀ b, b = (b1 || b2 || (wt && b3)) → MyR 3 s v (.iface kt kp) b .nilIface) := fun b hb => HEnd.out b (by rw [hb, HB1.out, HB2.out, HB3.out])
                rw [HB1.out]
                rintro e z1 ⟨rfl, hz1⟩
                have HD1 : Hid _ := HDw.out.keep hz1
                clear hz1 l0 l1 l2 u0 u1 u2 y0 y1 y2
                obtain ⟨u0, u1, u2⟩ := row_three HD1.out.hi
                obtain ⟨y0, y1, y2⟩ := row_three HD1.out.my.va
                cases b1
                · go_wp2_with fail
                  refine (stand3 hi v _ HLH.out.2.1 hvl).mono ?_
                  rw [HB2.out]
                  rintro e z2 ⟨rfl, hz2⟩
                  have HD2 : Hid _ := HD1.out.keep hz2
                  clear hz2 u0 u1 u2 y0 y1 y2
                  obtain ⟨y0, y1, y2⟩ := row_three HD2.out.my.va
                  cases b2
                  · cases wt
                    · go_wp2
                      go_ret2
                      exact ⟨⟨_, _, rfl, HFn.out _ rfl⟩, HD2.out.my.old⟩
                    · go_wp2_with fail
                      refine (stand3 v v _ hvl hvl).mono ?_
                      rw [HB3.out]
                      rintro e z3 ⟨rfl, hz3⟩
                      have HD3 : Hid _ := HD2.out.keep hz3
                      go_wp2
                      go_ret2
                      exact ⟨⟨_, _, rfl, HFn.out _ (by simp)⟩, HD3.out.my.old⟩
                  · go_wp2
                    go_ret2
                    exact ⟨⟨_, _, rfl, HFn.out _ rfl⟩, HD2.out.my.old⟩
                · go_wp2
                  go_ret2
                  exact ⟨⟨_, _, rfl, HFn.out _ rfl⟩, HD1.out.my.old⟩
              · obtain rfl : (50 : Nat) = F := HF.out
                go_wp2_with fail
                refine (stand4 lo v _ HLH.out.1 hvl).mono ?_
                obtain ⟨b1, HB1⟩ : ∃ b, Hid (stdB 4 lo v = b) := ⟨_, rfl⟩
                obtain ⟨b2, HB2⟩ : ∃ b, Hid (stdB 4 hi v = b) := ⟨_, rfl⟩
                obtain ⟨b3, HB3⟩ : ∃ b, Hid (stdB 4 v v = b) := ⟨_, rfl⟩
                have HFn : Hid (∀ b, b = (b1 || b2 || (wt && b3)) → MyR 4 s v (.iface kt kp) b .nilIface) := fun b hb => HEnd.out b (by rw [hb, HB1.out, HB2.out, HB3.out])
                rw [HB1.out]
                rintro e z1 ⟨rfl, hz1⟩
                have HD1 : Hid _ := HDw.out.keep hz1
                clear hz1 l0 l1 l2 u0 u1 u2 y0 y1 y2
                obtain ⟨u0, u1, u2⟩ := row_three HD1.out.hi
                obtain ⟨y0, y1, y2⟩ := row_three HD1.out.my.va
                cases b1
                · go_wp2_with fail
                  refine (stand4 hi v _ HLH.out.2.1 hvl).mono ?_
                  rw [HB2.out]
                  rintro e z2 ⟨rfl, hz2⟩
                  have HD2 : Hid _ := HD1.out.keep hz2
                  clear hz2 u0 u1 u2 y0 y1 y2
                  obtain ⟨y0, y1, y2⟩ := row_three HD2.out.my.va
                  cases b2
                  · cases wt
                    · go_wp2
                      go_ret2
                      exact ⟨⟨_, _, rfl, HFn.out _ rfl⟩, HD2.out.my.old⟩
                    · go_wp2_with fail
                      refine (stand4 v v _ hvl hvl).mono ?_
                      rw [HB3.out]
                      rintro e z3 ⟨rfl, hz3⟩
                      have HD3 : Hid _ := HD2.out.keep hz3
                      go_wp2
                      go_ret2
                      exact ⟨⟨_, _, rfl, HFn.out _ (by simp)⟩, HD3.out.my.old⟩
                  · go_wp2
                    go_ret2
                    exact ⟨⟨_, _, rfl, HFn.out _ rfl⟩, HD2.out.my.old⟩
                · go_wp2
                  go_ret2
                  exact ⟨⟨_, _, rfl, HFn.out _ rfl⟩, HD1.out.my.old⟩
              · obtain rfl : (51 : Nat) = F := HF.out
                go_wp2_with fail
                refine (stand5 lo v _ HLH.out.1 hvl).mono ?_
                obtain ⟨b1, HB1⟩ : ∃ b, Hid (stdB 5 lo v = b) := ⟨_, rfl⟩
                obtain ⟨b2, HB2⟩ : ∃ b, Hid (stdB 5 hi v = b) := ⟨_, rfl⟩
                obtain ⟨b3, HB3⟩ : ∃ b, Hid (stdB 5 v v = b) := ⟨_, rfl⟩
                have HFn : Hid (∀ b, b = (b1 || b2 || (wt && b3)) → MyR 5 s v (.iface kt kp) b .nilIface) := fun b hb => HEnd.out b (by rw [hb, HB1.out, HB2.out, HB3.out])
                rw [HB1.out]
                rintro e z1 ⟨rfl, hz1⟩
                have HD1 : Hid _ := HDw.out.keep hz1
                clear hz1 l0 l1 l2 u0 u1 u2 y0 y1 y2
                obtain ⟨u0, u1, u2⟩ := row_three HD1.out.hi
                obtain ⟨y0, y1, y2⟩ := row_three HD1.out.my.va
                cases b1
                · go_wp2_with fail
                  refine (stand5 hi v _ HLH.out.2.1 hvl).mono ?_
                  rw [HB2.out]
                  rintro e z2 ⟨rfl, hz2⟩
                  have HD2 : Hid _ := HD1.out.keep hz2
                  clear hz2 u0 u1 u2 y0 y1 y2
                  obtain ⟨y0, y1, y2⟩ := row_three HD2.out.my.va
                  cases b2
                  · cases wt
                    · go_wp2
                      go_ret2
                      exact ⟨⟨_, _, rfl, HFn.out _ rfl⟩, HD2.out.my.old⟩
                    · go_wp2_with fail
                      refine (stand5 v v _ hvl hvl).mono ?_
                      rw [HB3.out]
                      rintro e z3 ⟨rfl, hz3⟩
                      have HD3 : Hid _ := HD2.out.keep hz3
                      go_wp2
                      go_ret2
                      exact ⟨⟨_, _, rfl, HFn.out _ (by simp)⟩, HD3.out.my.old⟩
                  · go_wp2
                    go_ret2
                    exact ⟨⟨_, _, rfl, HFn.out _ rfl⟩, HD2.out.my.old⟩
                · go_wp2
                  go_ret2
                  exact ⟨⟨_, _, rfl, HFn.out _ rfl⟩, HD1.out.my.old⟩
          · go_wp2
            go_ret2
            refine ⟨⟨_, _, rfl, .inr ⟨HBD.out, rfl, fun h => (by rw [HSH.out] at h; cases h), fun _ hg => ?_⟩⟩, HDa.out.my.old⟩
            obtain ⟨e1, e2⟩ := HGd.out hg
            have h := hg.2.2
            unfold lss at h
            rw [← e1, ← e2, HR0.out] at h
            cases h
    · have hbe := HKE.out _ HI.out.old
      go_wp2_with fail
      go_quiet (fail)
      go_wp2
      go_ret2
      exact ⟨⟨false, _, rfl, .inl ⟨HBD.out, rfl, rfl⟩⟩, blw_drewN HI.out.old _⟩
end Go.Proofs.YthlnjnoeaicjjaaDoor
