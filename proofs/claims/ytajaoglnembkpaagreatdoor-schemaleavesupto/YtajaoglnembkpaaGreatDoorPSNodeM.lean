/-
  The reader of a schema's text: a leaf is read.
-/
import Derived.Test.YtajaoglnembkpaaGreatDoorPBSId
namespace Go.Proofs.YtajaoglnembkpaaGreatDoor
open Go.RowKit
/-- What a node's reading holds: the reader, the result's box, the node so far. -/
structure NdI (W : World) (r : Nat) (s : ByteArray) (q : Nat) (x0 x1 x2 x3 x4 : Value) (X : World) : Prop where
  rd : RdAt r s q X
  re : X.heap[W.heap.size]? = some (.cells #[.int .i64 0, .string ⟨#[]⟩, .int .i64 0, .int .i64 0, .slice none 0 0] 24 (0, 0))
  nd : X.heap[W.heap.size + 1]? = some (.cells #[x0, x1, x2, x3, x4] 24 (0, 0))
  fr : RFr r W X
  lt : r < W.heap.size
theorem NdI.step {W : World} {r : Nat} {s : ByteArray} {q q2 : Nat} {x0 x1 x2 x3 x4 : Value} {X w' : World} (h : NdI W r s q x0 x1 x2 x3 x4 X) (hr : RdAt r s q2 w') (hf : RFr r X w') : NdI W r s q2 x0 x1 x2 x3 x4 w' :=
  ⟨hr, hf.box h.re (by have := h.lt; omega), hf.box h.nd (by have := h.lt; omega), h.fr.trans hf, h.lt⟩
theorem NdI.keep {W : World} {r : Nat} {s : ByteArray} {q : Nat} {x0 x1 x2 x3 x4 : Value} {X w' : World} (h : NdI W r s q x0 x1 x2 x3 x4 X) (hb : Below X.heap.size X w') : NdI W r s q x0 x1 x2 x3 x4 w' :=
  ⟨blk_keep hb h.rd, blk_keep hb h.re, blk_keep hb h.nd, h.fr.trans (.of_below hb), h.lt⟩
theorem RFr.setNew {r g j : Nat} {W X : World} {v : Value} (h : RFr r W X) (hg : W.heap.size ≤ g) : RFr r W (X.setCell ⟨g, j, none⟩ v) := ⟨h.os, h.tape, h.output, by simpa using h.size, fun k hk hne => (Below.heap_setCell X ⟨g, j, none⟩ v k (by show k ≠ g; omega)).trans (h.keep k hk hne)⟩
theorem NdI.set {W : World} {r : Nat} {s : ByteArray} {q : Nat} {x0 x1 x2 x3 x4 y0 y1 y2 y3 y4 : Value} {X : World} (h : NdI W r s q x0 x1 x2 x3 x4 X) (j : Nat) (v : Value) (he : (#[x0, x1, x2, x3, x4] : Array Value).setIfInBounds j v = #[y0, y1, y2, y3, y4]) : NdI W r s q y0 y1 y2 y3 y4 (X.setCell ⟨W.heap.size + 1, j, none⟩ v) :=
  ⟨(Below.heap_setCell X ⟨W.heap.size + 1, j, none⟩ v r (by have := h.lt; show r ≠ W.heap.size + 1; omega)).trans h.rd, (Below.heap_setCell X ⟨W.heap.size + 1, j, none⟩ v W.heap.size (by show W.heap.size ≠ W.heap.size + 1; omega)).trans h.re, (row_setC h.nd).trans (by rw [he]), h.fr.setNew (by omega), h.lt⟩
/-- The words ahead of a node's end: where each stands, and what it tells. -/
structure HdAt (s : ByteArray) (p q : Nat) (id : Int) (nm : ByteArray) (rep kind : Nat) : Prop where
  ex : ∃ a1 n1 a2 n2 a3 n3 a4 d, (WdAt s p a1 n1 ∧ a1 < n1 ∧ Lib.idxOfS repW (s.extract a1 n1) = (rep : Int)) ∧ (WdAt s n1 a2 n2 ∧ a2 < n2 ∧ Lib.idxOfS kindW (s.extract a2 n2) = (kind : Int)) ∧ (WdAt s n2 a3 n3 ∧ a3 < n3 ∧ nm = s.extract a3 n3 ∧ ∀ h : 0 < (s.extract a3 n3).size, isLt (s.extract a3 n3)[0] = true) ∧ (WdAt s n3 a4 q ∧ a4 < q ∧ IdW (s.extract a4 q) d ∧ Lib.atoi d = some id)
set_option maxRecDepth 100000 in
set_option maxHeartbeats 6400000 in
theorem node_leaf (r : Nat) (s : ByteArray) (p q5 q : Nat) (id : Int) (nm : ByteArray) (rep kind : Nat) (deep : Int) (W : World) (hr : RdAt r s p W) (hm : s.size ≤ 100000) (hh : HdAt s p q5 id nm rep kind) (hrep : rep ≤ 100) (hkind : kind ≤ 100) (hk0 : kind ≠ 0) (a5 : Nat) (h5 : WdAt s q5 a5 q) (h5n : a5 < q) (h5w : Lib.idxOfS semiW (s.extract a5 q) = 0) :
    Calls Tryz.prog (35) #[.pointer (some ⟨r, 0, none⟩), .int .i64 deep] W fun e w' => e = .returned (.agg #[.int .i64 id, .string nm, .int .i64 (rep + 1 : Nat), .int .i64 (kind : Nat), .slice none 0 0]) ∧ RdAt r s q w' ∧ RFr r W w' := by
  obtain ⟨a1, n1, a2, n2, a3, n3, a4, d, ⟨u1, v1, x1⟩, ⟨u2, v2, x2⟩, ⟨u3, v3, rfl, x3⟩, ⟨u4, v4, x4, y4⟩⟩ := hh.ex
  have hrw : r < W.heap.size := lt_of_block hr
  obtain ⟨w0, HW0, HX, HY, HB⟩ := two_boxesS W #[.int .i64 0, .string ⟨#[]⟩, .int .i64 0, .int .i64 0, .slice none 0 0] #[.int .i64 0, .string ⟨#[]⟩, .int .i64 0, .int .i64 0, .slice none 0 0] 24 24
  have HI0 : Hid (NdI W r s p (.int .i64 0) (.string ⟨#[]⟩) (.int .i64 0) (.int .i64 0) (.slice none 0 0) w0) := ⟨blk_keep HB.out hr, HX.out, HY.out, .of_below HB.out, hrw⟩
  have U1 : Hid _ := And.intro u1 (And.intro v1 x1)
  have U2 : Hid _ := And.intro u2 (And.intro v2 x2)
  have U3 : Hid _ := And.intro u3 (And.intro v3 x3)
  have U4 : Hid _ := And.intro u4 (And.intro v4 (And.intro x4 y4))
  have U5 : Hid _ := And.intro h5 (And.intro h5n h5w)
  clear u1 v1 x1 u2 v2 x2 u3 v3 x3 u4 v4 x4 y4 h5 h5n h5w hr hh HX HY HB hrw
  obtain ⟨z, HZ⟩ : ∃ z, Hid (s.extract a3 n3 = z) := ⟨_, rfl⟩
  go_enter Tryz.func35, Tryz.ntmps35
  go_wp2_with fail
  rw [HW0.out]
  refine (repWords_any w0).mono ?_
  rintro e w1 ⟨rfl, hst, hb1⟩
  have HI1 : Hid _ := HI0.out.keep hb1
  have HST : Hid _ := hst
  clear hst hb1 HI0
  go_wp2_with fail
  refine (takeOne_any w0.heap.size 0 3 repW rep (by decide) r s p a1 n1 w1 HI1.out.rd hm U1.out.1 U1.out.2.1 U1.out.2.2 HST.out).mono ?_
  rintro e w2 ⟨rfl, hr2, hf2⟩
  have HI2 : Hid _ := HI1.out.step hr2 hf2
  clear hr2 hf2 HI1 HST
  obtain ⟨⟨p0, p1, p2, p3, p4⟩, f0, f1, f2, f3, f4⟩ := row_five HI2.out.nd
  have HI3 : Hid (NdI W r s n1 (.int .i64 0) (.string ⟨#[]⟩) (.int .i64 (1 + (rep : Nat))) (.int .i64 0) (.slice none 0 0) (w2.setCell ⟨W.heap.size + 1, 2, none⟩ (.int .i64 (1 + (rep : Nat))))) := HI2.out.set 2 _ rfl
  go_wp2_with fail
  refine (kindWords_any _).mono ?_
  rintro e w3 ⟨rfl, hst, hb3⟩
  have HI4 : Hid _ := HI3.out.keep hb3
  have HST : Hid (StrsAt w3 w2.heap.size 0 kindW) := (by show StrsAt _ _ _ _; simpa using hst)
  clear hst hb3 HI3 HI2 p0 p1 p2 p3 p4 f0 f1 f2 f3 f4
  go_wp2_with fail
  refine (takeOne_any w2.heap.size 0 6 kindW kind (by decide) r s n1 a2 n2 w3 HI4.out.rd hm U2.out.1 U2.out.2.1 U2.out.2.2 HST.out).mono ?_
  rintro e w4 ⟨rfl, hr4, hf4⟩
  have HI5 : Hid _ := HI4.out.step hr4 hf4
  clear hr4 hf4 HI4 HST
  obtain ⟨⟨p0, p1, p2, p3, p4⟩, f0, f1, f2, f3, f4⟩ := row_five HI5.out.nd
  have HI6 : Hid (NdI W r s n2 (.int .i64 0) (.string ⟨#[]⟩) (.int .i64 (1 + (rep : Nat))) (.int .i64 (kind : Nat)) (.slice none 0 0) (w4.setCell ⟨W.heap.size + 1, 3, none⟩ (.int .i64 (kind : Nat)))) := HI5.out.set 3 _ rfl
  go_wp2_with fail
  refine (take_letters r s n2 a3 n3 _ HI6.out.rd hm U3.out.1 U3.out.2.1 U3.out.2.2).mono ?_
  rw [HZ.out]
  rintro e w5 ⟨rfl, hr5, hf5⟩
  have HI7 : Hid _ := HI6.out.step hr5 hf5
  clear hr5 hf5 HI6 HI5 p0 p1 p2 p3 p4 f0 f1 f2 f3 f4
  obtain ⟨⟨p0, p1, p2, p3, p4⟩, f0, f1, f2, f3, f4⟩ := row_five HI7.out.nd
  have HI8 : Hid (NdI W r s n3 (.int .i64 0) (.string z) (.int .i64 (1 + (rep : Nat))) (.int .i64 (kind : Nat)) (.slice none 0 0) (w5.setCell ⟨W.heap.size + 1, 1, none⟩ (.string z))) := HI7.out.set 1 _ rfl
  go_wp2_with fail
  refine (takeID_any r s n3 a4 q5 _ HI8.out.rd hm U4.out.1 U4.out.2.1 d U4.out.2.2.1 id U4.out.2.2.2).mono ?_
  rintro e w6 ⟨rfl, hr6, hf6⟩
  have HI9 : Hid _ := HI8.out.step hr6 hf6
  clear hr6 hf6 HI8 HI7 p0 p1 p2 p3 p4 f0 f1 f2 f3 f4
  obtain ⟨⟨p0, p1, p2, p3, p4⟩, f0, f1, f2, f3, f4⟩ := row_five HI9.out.nd
  have HI10 : Hid (NdI W r s q5 (.int .i64 id) (.string z) (.int .i64 (1 + (rep : Nat))) (.int .i64 (kind : Nat)) (.slice none 0 0) (w6.setCell ⟨W.heap.size + 1, 0, none⟩ (.int .i64 id))) := HI9.out.set 0 _ rfl
  have qk : ((kind : Int) == 0) = false := beq_eq_false_iff_ne.2 (by omega)
  obtain ⟨w7, HW7⟩ : ∃ w7, Hid ((w6.setCell ⟨W.heap.size + 1, 0, none⟩ (.int .i64 id)).alloc (.cells #[.string ⟨#[59]⟩] 9) = w7) := ⟨_, rfl⟩
  have HST : Hid (StrsAt w7 w6.heap.size 0 semiW) := (by
    rw [← HW7.out]
    have h := heap_alloc_new (w6.setCell ⟨W.heap.size + 1, 0, none⟩ (.int .i64 id)) (.cells #[.string ⟨#[59]⟩] 9)
    rw [show (w6.setCell ⟨W.heap.size + 1, 0, none⟩ (.int .i64 id)).heap.size = w6.heap.size by simp] at h
    exact strs_row h fun j hj => (by obtain rfl : j = 0 := by simp [semiW] at hj; omega
                                     rfl))
  have HI11 : Hid (NdI W r s q5 (.int .i64 id) (.string z) (.int .i64 (1 + (rep : Nat))) (.int .i64 (kind : Nat)) (.slice none 0 0) w7) := (by
    rw [← HW7.out]
    exact HI10.out.keep ((Below.refl _ _).alloc (Nat.le_refl _) _))
  go_wp2_with fail
  rw [HW7.out]
  refine (takeOne_any w6.heap.size 0 1 semiW 0 (by decide) r s q5 a5 q w7 HI11.out.rd hm U5.out.1 U5.out.2.1 U5.out.2.2 HST.out).mono ?_
  rintro e w8 ⟨rfl, hr8, hf8⟩
  have HI12 : Hid _ := HI11.out.step hr8 hf8
  clear hr8 hf8 HI11 HI10 HI9 p0 p1 p2 p3 p4 f0 f1 f2 f3 f4 HST
  obtain ⟨⟨p0, p1, p2, p3, p4⟩, _⟩ := row_five HI12.out.nd
  obtain ⟨⟨z0, z1, z2, z3, z4⟩, f0, f1, f2, f3, f4⟩ := row_five HI12.out.re
  go_wp2
  have hE : (1 + ((rep : Nat) : Int)) = ((rep + 1 : Nat) : Int) := by omega
  have hlt := HI12.out.lt
  exact bodyPost_ret (v := .agg #[.int .i64 id, .string z, .int .i64 (1 + ((rep : Nat) : Int)), .int .i64 (kind : Nat), .slice none 0 0]) (results_cell_row Tryz.results35 _ _ W.heap.size 24 #[.int .i64 id, .string z, .int .i64 (1 + ((rep : Nat) : Int)), .int .i64 (kind : Nat), .slice none 0 0] (0, 0) _ rfl (row_setC (row_setC (row_setC (row_setC (row_setC HI12.out.re))))) Tryz.underlying24 rfl (by kernel_rfl)) rfl ⟨by rw [hE, HZ.out], (Below.heap_setCell _ ⟨W.heap.size, 4, none⟩ _ r (by show r ≠ W.heap.size; omega)).trans ((Below.heap_setCell _ ⟨W.heap.size, 3, none⟩ _ r (by show r ≠ W.heap.size; omega)).trans ((Below.heap_setCell _ ⟨W.heap.size, 2, none⟩ _ r (by show r ≠ W.heap.size; omega)).trans ((Below.heap_setCell _ ⟨W.heap.size, 1, none⟩ _ r (by show r ≠ W.heap.size; omega)).trans ((Below.heap_setCell _ ⟨W.heap.size, 0, none⟩ _ r (by show r ≠ W.heap.size; omega)).trans HI12.out.rd)))), ((((HI12.out.fr.setNew (Nat.le_refl _)).setNew (Nat.le_refl _)).setNew (Nat.le_refl _)).setNew (Nat.le_refl _)).setNew (Nat.le_refl _)⟩
end Go.Proofs.YtajaoglnembkpaaGreatDoor
