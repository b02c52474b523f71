/-
  stats.Merge, walked.
  The reference's StatsOf.
  What the boxes of a law over a leaf and a column hold.
  The reference's MergedOf; statsOf.
  The closed fact that stage 9's laws begin with.
-/
import Derived.Test.YthlnjnoeaicjjaaDoorQStOf
import Derived.BigQuiet
import Derived.Test.YthlnjnoeaicjjaaDoorQBStBase
namespace Go.Proofs.YthlnjnoeaicjjaaDoor
open Go.RowKit
/-- What Merge's boxes hold. -/
structure MgI (W : World) (a b : St) (X : World) : Prop where
  fst : X.heap[W.heap.size]? = some (.cells a.cs 34 (0, 0))
  snd : X.heap[W.heap.size + 1]? = some (.cells b.cs 34 (0, 0))
  re : X.heap[W.heap.size + 1 + 1]? = some (.cells #[.int .i64 0, .int .i64 0, .bool false, .int .i64 0, .int .i64 0, .string ⟨#[]⟩, .int .i64 0, .int .i64 0, .string ⟨#[]⟩] 34 (0, 0))
  old : Below W.heap.size W X
theorem MgI.keep {W : World} {a b : St} {X w' : World} (h : MgI W a b X) (hb : Below X.heap.size X w') : MgI W a b w' :=
  ⟨blk_keep hb h.fst, blk_keep hb h.snd, blk_keep hb h.re, h.old.trans (hb.mono h.old.size)⟩
theorem MgI.keep3 {W : World} {a b : St} {X w' : World} (h : MgI W a b X) (hb : Below (W.heap.size + 1 + 1 + 1) X w') : MgI W a b w' :=
  ⟨(hb.block _ (by omega)).trans h.fst, (hb.block _ (by omega)).trans h.snd, (hb.block _ (by omega)).trans h.re, h.old.trans (hb.mono (by omega))⟩
/-- The cells of two, one behind the other. -/
theorem row_two9 {w : World} {g t : Nat} {a b : St} (h : w.heap[g]? = some (.cells #[.int .i64 a.e, .int .i64 a.u, .bool a.h, .int .i64 a.mn.k, .int .i64 a.mn.n, .string a.mn.s, .int .i64 a.mx.k, .int .i64 a.mx.n, .string a.mx.s, .int .i64 b.e, .int .i64 b.u, .bool b.h, .int .i64 b.mn.k, .int .i64 b.mn.n, .string b.mn.s, .int .i64 b.mx.k, .int .i64 b.mx.n, .string b.mx.s] t (0, 0))) :
    (w.cell? ⟨g, 0, none⟩ = some (.int .i64 a.e) ∧ w.cell? ⟨g, 1, none⟩ = some (.int .i64 a.u) ∧ w.cell? ⟨g, 2, none⟩ = some (.bool a.h) ∧ w.cell? ⟨g, 3, none⟩ = some (.int .i64 a.mn.k) ∧ w.cell? ⟨g, 4, none⟩ = some (.int .i64 a.mn.n) ∧ w.cell? ⟨g, 5, none⟩ = some (.string a.mn.s) ∧ w.cell? ⟨g, 6, none⟩ = some (.int .i64 a.mx.k) ∧ w.cell? ⟨g, 7, none⟩ = some (.int .i64 a.mx.n) ∧ w.cell? ⟨g, 8, none⟩ = some (.string a.mx.s)) ∧ (w.cell? ⟨g, 9, none⟩ = some (.int .i64 b.e) ∧ w.cell? ⟨g, 10, none⟩ = some (.int .i64 b.u) ∧ w.cell? ⟨g, 11, none⟩ = some (.bool b.h) ∧ w.cell? ⟨g, 12, none⟩ = some (.int .i64 b.mn.k) ∧ w.cell? ⟨g, 13, none⟩ = some (.int .i64 b.mn.n) ∧ w.cell? ⟨g, 14, none⟩ = some (.string b.mn.s) ∧ w.cell? ⟨g, 15, none⟩ = some (.int .i64 b.mx.k) ∧ w.cell? ⟨g, 16, none⟩ = some (.int .i64 b.mx.n) ∧ w.cell? ⟨g, 17, none⟩ = some (.string b.mx.s)) := by
  refine ⟨⟨?_, ?_, ?_, ?_, ?_, ?_, ?_, ?_, ?_⟩, ?_, ?_, ?_, ?_, ?_, ?_, ?_, ?_, ?_⟩ <;> simp [World.cell?, h]
/-- Merge, as a function: both have values of one kind, or one has none. -/
def St.plus (s : St) (a : St) : St := if a.h then s.around a.mn a.mx else s
def St.merge (a b : St) : St := (St.plus ⟨a.e + b.e, a.u + b.u, false, Vl.zero, Vl.zero⟩ a).plus b
def St.unlike (a b : St) : Bool := a.h && b.h && !(a.mn.k == b.mn.k)
def MgR (a b : St) (kv : Value) (s : St) (ev : Value) : Prop := (St.unlike a b = true ∧ s = St.zero ∧ ev = kv) ∨ (St.unlike a b = false ∧ s = a.merge b ∧ ev = .nilIface)
set_option maxRecDepth 100000 in
set_option maxHeartbeats 6400000 in
theorem merge_any (a b : St) (W : World) (kt : TypeId) (kp : Value) (hk : W.cell? ⟨1, 0, none⟩ = some (.iface kt kp)) (ha : a.Low) (hb : b.Low)
    (b1 : -4611686018427387904 ≤ a.e ∧ a.e ≤ 4611686018427387904) (b2 : -4611686018427387904 ≤ b.e ∧ b.e ≤ 4611686018427387904) (b3 : -4611686018427387904 ≤ a.u ∧ a.u ≤ 4611686018427387904) (b4 : -4611686018427387904 ≤ b.u ∧ b.u < 4611686018427387904) (b5 : b.e < 4611686018427387904) :
    Calls Tryd.prog 18 #[a.val, b.val] W fun e w' => (∃ (s : St) (ev : Value), e = .returned (.tuple #[s.val, ev]) ∧ MgR a b (.iface kt kp) s ev) ∧ Below W.heap.size W w' := by
  obtain ⟨w0, HW0, HX, HY, HZ, HB⟩ := three_boxes W a.cs b.cs #[.int .i64 0, .int .i64 0, .bool false, .int .i64 0, .int .i64 0, .string ⟨#[]⟩, .int .i64 0, .int .i64 0, .string ⟨#[]⟩] 34 34 34
  have HI0 : Hid (MgI W a b w0) := ⟨HX.out, HY.out, HZ.out, HB.out⟩
  have HKE : Hid (∀ X, Below W.heap.size W X → X.cell? ⟨1, 0, none⟩ = some (.iface kt kp)) := fun X hX => ckB hk hX
  have hgN : 1 < W.heap.size := World.block_lt_of_cell? W _ hk
  clear HX HY HZ HB hk
  unfold St.cs at HW0
  show Calls Tryd.prog 18 #[.agg #[.int .i64 a.e, .int .i64 a.u, .bool a.h, .int .i64 a.mn.k, .int .i64 a.mn.n, .string a.mn.s, .int .i64 a.mx.k, .int .i64 a.mx.n, .string a.mx.s], .agg #[.int .i64 b.e, .int .i64 b.u, .bool b.h, .int .i64 b.mn.k, .int .i64 b.mn.n, .string b.mn.s, .int .i64 b.mx.k, .int .i64 b.mx.n, .string b.mx.s]] W fun e w' => (∃ (s : St) (ev : Value), e = .returned (.tuple #[s.val, ev]) ∧ MgR a b (.iface kt kp) s ev) ∧ Below W.heap.size W w'
  go_enter Tryd.func18, Tryd.ntmps18
  go_upto_region 1 with fail
  rw [HW0.out]
  clear HW0
  obtain ⟨ub, HUB⟩ : ∃ ub, Hid (St.unlike a b = ub) := ⟨_, rfl⟩
  go_cut [21] (fun x wx => x = .bool ub ∧ Hid (MgI W a b wx))
  case first =>
    obtain ⟨⟨x0, x1, x2, x3, x4, x5, x6, x7, x8⟩, _⟩ := st_row HI0.out.fst
    obtain ⟨⟨y0, y1, y2, y3, y4, y5, y6, y7, y8⟩, _⟩ := st_row HI0.out.snd
    have HU : Hid (a.h = true → b.h = true → ub = !(a.mn.k == b.mn.k)) := fun h1 h2 => by rw [← HUB.out]; simp [St.unlike, h1, h2]
    have HU1 : Hid (a.h = false → ub = false) := fun h1 => by rw [← HUB.out]; simp [St.unlike, h1]
    have HU2 : Hid (b.h = false → ub = false) := fun h1 => by rw [← HUB.out]; simp [St.unlike, h1]
    clear HUB
    by_cases h1 : a.h = true
    · rw [h1] at x2
      by_cases h2 : b.h = true
      · rw [h2] at y2
        have b0 : Below (W.heap.size + 1 + 1 + 1) w0 w0 := Below.refl _ _
        have hsz : W.heap.size + 1 + 1 + 1 ≤ w0.heap.size := lt_of_block HI0.out.re
        have HKA : Hid (∀ X, Below (W.heap.size + 1 + 1 + 1) w0 X → Calls Tryd.prog 21 #[.agg #[.int .i64 a.e, .int .i64 a.u, .bool true, .int .i64 a.mn.k, .int .i64 a.mn.n, .string a.mn.s, .int .i64 a.mx.k, .int .i64 a.mx.n, .string a.mx.s]] X fun e w' => e = .returned (.int .i64 a.mn.k) ∧ Below (W.heap.size + 1 + 1 + 1) w0 w') := fun X hX => (by have h := kindS_any a X; unfold St.val St.cs at h; rw [h1] at h; exact h.mono fun _ _ h => ⟨h.1, bel_next hX hsz h.2⟩)
        have HKB : Hid (∀ X, Below (W.heap.size + 1 + 1 + 1) w0 X → Calls Tryd.prog 21 #[.agg #[.int .i64 b.e, .int .i64 b.u, .bool true, .int .i64 b.mn.k, .int .i64 b.mn.n, .string b.mn.s, .int .i64 b.mx.k, .int .i64 b.mx.n, .string b.mx.s]] X fun e w' => e = .returned (.int .i64 b.mn.k) ∧ Below (W.heap.size + 1 + 1 + 1) w0 w') := fun X hX => (by have h := kindS_any b X; unfold St.val St.cs at h; rw [h2] at h; exact h.mono fun _ _ h => ⟨h.1, bel_next hX hsz h.2⟩)
        have HN : Hid (∀ X, Below (W.heap.size + 1 + 1 + 1) w0 X → (X.cell? ⟨W.heap.size, 0, none⟩ = some (.int .i64 a.e) ∧ X.cell? ⟨W.heap.size, 1, none⟩ = some (.int .i64 a.u) ∧ X.cell? ⟨W.heap.size, 2, none⟩ = some (.bool true) ∧ X.cell? ⟨W.heap.size, 3, none⟩ = some (.int .i64 a.mn.k) ∧ X.cell? ⟨W.heap.size, 4, none⟩ = some (.int .i64 a.mn.n) ∧ X.cell? ⟨W.heap.size, 5, none⟩ = some (.string a.mn.s) ∧ X.cell? ⟨W.heap.size, 6, none⟩ = some (.int .i64 a.mx.k) ∧ X.cell? ⟨W.heap.size, 7, none⟩ = some (.int .i64 a.mx.n) ∧ X.cell? ⟨W.heap.size, 8, none⟩ = some (.string a.mx.s)) ∧ (X.cell? ⟨W.heap.size + 1, 0, none⟩ = some (.int .i64 b.e) ∧ X.cell? ⟨W.heap.size + 1, 1, none⟩ = some (.int .i64 b.u) ∧ X.cell? ⟨W.heap.size + 1, 2, none⟩ = some (.bool true) ∧ X.cell? ⟨W.heap.size + 1, 3, none⟩ = some (.int .i64 b.mn.k) ∧ X.cell? ⟨W.heap.size + 1, 4, none⟩ = some (.int .i64 b.mn.n) ∧ X.cell? ⟨W.heap.size + 1, 5, none⟩ = some (.string b.mn.s) ∧ X.cell? ⟨W.heap.size + 1, 6, none⟩ = some (.int .i64 b.mx.k) ∧ X.cell? ⟨W.heap.size + 1, 7, none⟩ = some (.int .i64 b.mx.n) ∧ X.cell? ⟨W.heap.size + 1, 8, none⟩ = some (.string b.mx.s)) ∧ Below (W.heap.size + 1 + 1 + 1) w0 X) := fun X hX => ⟨by have h := (st_row ((hX.block _ (by omega)).trans HI0.out.fst)).1; rw [h1] at h; exact h, by have h := (st_row ((hX.block _ (by omega)).trans HI0.out.snd)).1; rw [h2] at h; exact h, hX⟩
        have HUb : Hid (ub = !(a.mn.k == b.mn.k)) := HU.out h1 h2
        clear HU HU1 HU2 h1 h2
        go_region_held3 (fun X => (X.cell? ⟨W.heap.size, 0, none⟩ = some (.int .i64 a.e) ∧ X.cell? ⟨W.heap.size, 1, none⟩ = some (.int .i64 a.u) ∧ X.cell? ⟨W.heap.size, 2, none⟩ = some (.bool true) ∧ X.cell? ⟨W.heap.size, 3, none⟩ = some (.int .i64 a.mn.k) ∧ X.cell? ⟨W.heap.size, 4, none⟩ = some (.int .i64 a.mn.n) ∧ X.cell? ⟨W.heap.size, 5, none⟩ = some (.string a.mn.s) ∧ X.cell? ⟨W.heap.size, 6, none⟩ = some (.int .i64 a.mx.k) ∧ X.cell? ⟨W.heap.size, 7, none⟩ = some (.int .i64 a.mx.n) ∧ X.cell? ⟨W.heap.size, 8, none⟩ = some (.string a.mx.s)) ∧ (X.cell? ⟨W.heap.size + 1, 0, none⟩ = some (.int .i64 b.e) ∧ X.cell? ⟨W.heap.size + 1, 1, none⟩ = some (.int .i64 b.u) ∧ X.cell? ⟨W.heap.size + 1, 2, none⟩ = some (.bool true) ∧ X.cell? ⟨W.heap.size + 1, 3, none⟩ = some (.int .i64 b.mn.k) ∧ X.cell? ⟨W.heap.size + 1, 4, none⟩ = some (.int .i64 b.mn.n) ∧ X.cell? ⟨W.heap.size + 1, 5, none⟩ = some (.string b.mn.s) ∧ X.cell? ⟨W.heap.size + 1, 6, none⟩ = some (.int .i64 b.mx.k) ∧ X.cell? ⟨W.heap.size + 1, 7, none⟩ = some (.int .i64 b.mx.n) ∧ X.cell? ⟨W.heap.size + 1, 8, none⟩ = some (.string b.mx.s)) ∧ Below (W.heap.size + 1 + 1 + 1) w0 X) (with_reducible refine HN.out _ ?_; repeat' (first | with_reducible assumption | with_reducible exact b0.drew | with_reducible exact b0)) (first | (go_at_call 21; (first | (with_reducible refine Calls.mono (HKA.out _ ?_) ?_) | (with_reducible refine Calls.mono (HKB.out _ ?_) ?_)); (first | with_reducible assumption | with_reducible exact b0.drew | with_reducible exact b0); rintro e xv ⟨rfl, hbv⟩))
        all_goals
          go_wp2
          go_meet
          exact ⟨by rw [HUb.out]; rfl, HI0.out.keep3 (by assumption)⟩
      · have hub := HU2.out (by simpa using h2)
        have h2' : b.h = false := by simpa using h2
        rw [h2'] at y2
        subst hub
        clear h1 h2 h2' HU HU1 HU2
        go_quiet (fail)
        go_wp2
        go_meet
        exact ⟨rfl, HI0.out.keep (blw_drewN (Below.refl _ _) _)⟩
    · have hub := HU1.out (by simpa using h1)
      have h1' : a.h = false := by simpa using h1
      rw [h1'] at x2
      subst hub
      clear h1 h1' HU HU1 HU2
      go_quiet (fail)
      go_wp2
      go_meet
      exact ⟨rfl, HI0.out.keep (blw_drewN (Below.refl _ _) _)⟩
  case rest =>
    obtain ⟨rfl, HI⟩ := hcut
    rename World => wx
    clear HI0
    obtain ⟨z1, z2⟩ := row_nine HI.out.re
    cases ub
    · obtain ⟨⟨x0, x1, x2, x3, x4, x5, x6, x7, x8⟩, _⟩ := st_row HI.out.fst
      obtain ⟨⟨y0, y1, y2, y3, y4, y5, y6, y7, y8⟩, _⟩ := st_row HI.out.snd
      have hw1 : IntKind.i64.wrap (a.e + b.e) = a.e + b.e := by rw [IntKind.wrap_i64]; omega
      have hw2 : IntKind.i64.wrap (a.u + b.u) = a.u + b.u := by rw [IntKind.wrap_i64]; omega
      go_upto_region 4 with fail
      obtain ⟨wy, HWY, HSY, HEY, HBY⟩ := two_boxes wx #[.int .i64 (a.e + b.e), .int .i64 (a.u + b.u), .bool false, .int .i64 0, .int .i64 0, .string ⟨#[]⟩, .int .i64 0, .int .i64 0, .string ⟨#[]⟩] #[.int .i64 a.e, .int .i64 a.u, .bool a.h, .int .i64 a.mn.k, .int .i64 a.mn.n, .string a.mn.s, .int .i64 a.mx.k, .int .i64 a.mx.n, .string a.mx.s, .int .i64 b.e, .int .i64 b.u, .bool b.h, .int .i64 b.mn.k, .int .i64 b.mn.n, .string b.mn.s, .int .i64 b.mx.k, .int .i64 b.mx.n, .string b.mx.s] 34 34
      have HB1 : Hid (Below wx.heap.size wx (wx.alloc (.cells #[.int .i64 (a.e + b.e), .int .i64 (a.u + b.u), .bool false, .int .i64 0, .int .i64 0, .string ⟨#[]⟩, .int .i64 0, .int .i64 0, .string ⟨#[]⟩] 34))) := (Below.refl _ _).alloc (Nat.le_refl _) _
      clear x0 x1 x2 x3 x4 x5 x6 x7 x8 y0 y1 y2 y3 y4 y5 y6 y7 y8 hw1 hw2
      obtain ⟨⟨x0, x1, x2, x3, x4, x5, x6, x7, x8⟩, _⟩ := st_row (blk_keep HB1.out HI.out.fst)
      obtain ⟨⟨y0, y1, y2, y3, y4, y5, y6, y7, y8⟩, _⟩ := st_row (blk_keep HB1.out HI.out.snd)
      go_wp2
      rw [HWY.out]
      have HSZ : Hid (W.heap.size + 1 + 1 < wx.heap.size) := lt_of_block HI.out.re
      clear x0 x1 x2 x3 x4 x5 x6 x7 x8 y0 y1 y2 y3 y4 y5 y6 y7 y8 HWY HB1 z1 z2
      obtain ⟨s0, HS0⟩ : ∃ s : St, Hid (s = ⟨a.e + b.e, a.u + b.u, false, Vl.zero, Vl.zero⟩) := ⟨_, rfl⟩
      have HSY2 : Hid (wy.heap[wx.heap.size]? = some (.cells s0.cs 34 (0, 0))) := (by show _ = _; rw [HS0.out]; exact HSY.out)
      have HMg : Hid (a.merge b = (s0.plus a).plus b) := (by show _ = _; rw [HS0.out]; rfl)
      have HL0 : Hid (s0.Low) := (by show St.Low _; rw [HS0.out]; exact ⟨Vl.zero_low, Vl.zero_low⟩)
      have HL1 : Hid ((s0.plus a).Low) := (by
        show St.Low _
        unfold St.plus
        split
        · exact HL0.out.around ha.1 ha.2
        · exact HL0.out)
      clear HSY HS0
      go_loopw [39] (fun x wr => Hid (Below wx.heap.size wx wr) ∧ Hid (wr.heap[wx.heap.size + 1]? = some (.cells #[.int .i64 a.e, .int .i64 a.u, .bool a.h, .int .i64 a.mn.k, .int .i64 a.mn.n, .string a.mn.s, .int .i64 a.mx.k, .int .i64 a.mx.n, .string a.mx.s, .int .i64 b.e, .int .i64 b.u, .bool b.h, .int .i64 b.mn.k, .int .i64 b.mn.n, .string b.mn.s, .int .i64 b.mx.k, .int .i64 b.mx.n, .string b.mx.s] 34 (0, 0))) ∧ ((x = .int .i64 0 ∧ Hid (wr.heap[wx.heap.size]? = some (.cells s0.cs 34 (0, 0)))) ∨ (x = .int .i64 1 ∧ Hid (wr.heap[wx.heap.size]? = some (.cells (s0.plus a).cs 34 (0, 0)))) ∨ (x = .int .i64 2 ∧ Hid (wr.heap[wx.heap.size]? = some (.cells (a.merge b).cs 34 (0, 0)))))) (fun x _ => 2 - (intOf x).toNat)
      case atStart => exact ⟨HBY, HEY, .inl ⟨rfl, HSY2⟩⟩
      case round =>
        obtain ⟨HBW, HE, ⟨rfl, HS⟩ | ⟨rfl, HS⟩ | ⟨rfl, HS⟩⟩ := hrel
        · clear HSY2 HEY HBY
          obtain ⟨⟨e0, e1, e2, e3, e4, e5, e6, e7, e8⟩, f0, f1, f2, f3, f4, f5, f6, f7, f8⟩ := row_two9 HE.out
          obtain ⟨s, HSs⟩ : ∃ s, Hid (s0 = s) := ⟨_, rfl⟩
          have HLs : Hid (s.Low) := (by show St.Low _; rw [← HSs.out]; exact HL0.out)
          rw [HSs.out] at HS
          have HLT : Hid (wx.heap.size + 1 < wr.heap.size) := lt_of_block HE.out
          obtain ⟨bh, hh⟩ : ∃ bh, a.h = bh := ⟨_, rfl⟩
          rw [hh] at e2
          cases bh
          · have HNx : Hid (s0.plus a = s) := (by show _ = _;  rw [HSs.out]; unfold St.plus; rw [hh]; rfl)
            clear hh
            have HB1 : Hid (Below wr.heap.size wr (wr.alloc (.cells #[.int .i64 a.e, .int .i64 a.u, .bool false, .int .i64 a.mn.k, .int .i64 a.mn.n, .string a.mn.s, .int .i64 a.mx.k, .int .i64 a.mx.n, .string a.mx.s] 34))) := (Below.refl _ _).alloc (Nat.le_refl _) _
            go_wp2
            go_roundw
            case rel => exact ⟨HBW.out.trans (HB1.out.mono (by have := HLT.out; omega)), blk_keep HB1.out HE.out, .inr <| .inl ⟨by go_num, by rw [HNx.out]; exact blk_keep HB1.out HS.out⟩⟩
            case measure => simp [intOf]
          · have HNx : Hid (s0.plus a = s.around a.mn a.mx) := (by show _ = _;  rw [HSs.out]; unfold St.plus; rw [hh]; rfl)
            clear hh
            have HB1 : Hid (Below wr.heap.size wr (wr.alloc (.cells #[.int .i64 a.e, .int .i64 a.u, .bool true, .int .i64 a.mn.k, .int .i64 a.mn.n, .string a.mn.s, .int .i64 a.mx.k, .int .i64 a.mx.n, .string a.mx.s] 34))) := (Below.refl _ _).alloc (Nat.le_refl _) _
            have HS1 : Hid _ := blk_keep HB1.out HS.out
            obtain ⟨⟨s0, s1, s2, s3, s4, s5, s6, s7, s8⟩, _⟩ := st_row HS1.out
            go_wp2_with fail
            refine (around_x s a.mn a.mx _ HLs.out ha.1 ha.2).mono ?_
            rintro e w2 ⟨⟨t, HT, rfl⟩, hb2⟩
            have HB2 : Hid (Below wr.heap.size wr w2) := HB1.out.trans (hb2.mono HB1.out.size)
            have HS2 : Hid _ := blk_keep hb2 HS1.out
            clear hb2 s0 s1 s2 s3 s4 s5 s6 s7 s8 e0 e1 e2 e3 e4 e5 e6 e7 e8 f0 f1 f2 f3 f4 f5 f6 f7 f8
            obtain ⟨⟨s0, s1, s2, s3, s4, s5, s6, s7, s8⟩, s9⟩ := st_row HS2.out
            go_wp2
            go_roundw
            case rel =>
              refine ⟨set9_below (HBW.out.trans (HB2.out.mono (by have := HLT.out; omega))) (Nat.le_refl _) _ _ _ _ _ _ _ _ _, set9_other (blk_keep HB2.out HE.out) (by omega) _ _ _ _ _ _ _ _ _, .inr <| .inl ⟨by go_num, ?_⟩⟩
              show _ = _
              rw [HNx.out, ← HT.out]
              exact set9_row HS2.out _ _ _ _ _ _ _ _ _
            case measure => simp [intOf]
        · clear HSY2 HEY HBY
          obtain ⟨⟨e0, e1, e2, e3, e4, e5, e6, e7, e8⟩, f0, f1, f2, f3, f4, f5, f6, f7, f8⟩ := row_two9 HE.out
          obtain ⟨s, HSs⟩ : ∃ s, Hid (s0.plus a = s) := ⟨_, rfl⟩
          have HLs : Hid (s.Low) := (by show St.Low _; rw [← HSs.out]; exact HL1.out)
          rw [HSs.out] at HS
          have HLT : Hid (wx.heap.size + 1 < wr.heap.size) := lt_of_block HE.out
          obtain ⟨bh, hh⟩ : ∃ bh, b.h = bh := ⟨_, rfl⟩
          rw [hh] at f2
          cases bh
          · have HNx : Hid (a.merge b = s) := (by show _ = _; rw [HMg.out];  rw [HSs.out]; unfold St.plus; rw [hh]; rfl)
            clear hh
            have HB1 : Hid (Below wr.heap.size wr (wr.alloc (.cells #[.int .i64 b.e, .int .i64 b.u, .bool false, .int .i64 b.mn.k, .int .i64 b.mn.n, .string b.mn.s, .int .i64 b.mx.k, .int .i64 b.mx.n, .string b.mx.s] 34))) := (Below.refl _ _).alloc (Nat.le_refl _) _
            go_wp2
            go_roundw
            case rel => exact ⟨HBW.out.trans (HB1.out.mono (by have := HLT.out; omega)), blk_keep HB1.out HE.out, .inr <| .inr ⟨by go_num, by rw [HNx.out]; exact blk_keep HB1.out HS.out⟩⟩
            case measure => simp [intOf]
          · have HNx : Hid (a.merge b = s.around b.mn b.mx) := (by show _ = _; rw [HMg.out];  rw [HSs.out]; unfold St.plus; rw [hh]; rfl)
            clear hh
            have HB1 : Hid (Below wr.heap.size wr (wr.alloc (.cells #[.int .i64 b.e, .int .i64 b.u, .bool true, .int .i64 b.mn.k, .int .i64 b.mn.n, .string b.mn.s, .int .i64 b.mx.k, .int .i64 b.mx.n, .string b.mx.s] 34))) := (Below.refl _ _).alloc (Nat.le_refl _) _
            have HS1 : Hid _ := blk_keep HB1.out HS.out
            obtain ⟨⟨s0, s1, s2, s3, s4, s5, s6, s7, s8⟩, _⟩ := st_row HS1.out
            go_wp2_with fail
            refine (around_x s b.mn b.mx _ HLs.out hb.1 hb.2).mono ?_
            rintro e w2 ⟨⟨t, HT, rfl⟩, hb2⟩
            have HB2 : Hid (Below wr.heap.size wr w2) := HB1.out.trans (hb2.mono HB1.out.size)
            have HS2 : Hid _ := blk_keep hb2 HS1.out
            clear hb2 s0 s1 s2 s3 s4 s5 s6 s7 s8 e0 e1 e2 e3 e4 e5 e6 e7 e8 f0 f1 f2 f3 f4 f5 f6 f7 f8
            obtain ⟨⟨s0, s1, s2, s3, s4, s5, s6, s7, s8⟩, s9⟩ := st_row HS2.out
            go_wp2
            go_roundw
            case rel =>
              refine ⟨set9_below (HBW.out.trans (HB2.out.mono (by have := HLT.out; omega))) (Nat.le_refl _) _ _ _ _ _ _ _ _ _, set9_other (blk_keep HB2.out HE.out) (by omega) _ _ _ _ _ _ _ _ _, .inr <| .inr ⟨by go_num, ?_⟩⟩
              show _ = _
              rw [HNx.out, ← HT.out]
              exact set9_row HS2.out _ _ _ _ _ _ _ _ _
            case measure => simp [intOf]
        · clear HL0 HL1 HMg HSY2 HEY HBY
          obtain ⟨s, HSs⟩ : ∃ s, Hid (a.merge b = s) := ⟨_, rfl⟩
          rw [HSs.out] at HS
          obtain ⟨⟨s0, s1, s2, s3, s4, s5, s6, s7, s8⟩, s9⟩ := st_row HS.out
          have HI2 : Hid _ := HI.out.keep HBW.out
          obtain ⟨z1, z2⟩ := row_nine HI2.out.re
          go_wp2
          exact bodyPost_ret (v := .tuple #[s.val, .nilIface]) (results_cR Tryd.results18 _ _ (W.heap.size + 1 + 1) 34 s.cs (0, 0) _ .nilIface rfl rfl (set9_row HI2.out.re _ _ _ _ _ _ _ _ _) Tryd.underlying34 rfl (by kernel_rfl)) rfl ⟨⟨s, _, rfl, .inr ⟨HUB.out, HSs.out.symm, rfl⟩⟩, set9_below HI2.out.old (by omega) _ _ _ _ _ _ _ _ _⟩
    · have hbe := HKE.out _ HI.out.old
      have hgN1 : ¬ (1 = W.heap.size + 1 + 1) := by omega
      go_wp2_with fail
      go_region
      all_goals
        go_wp2
        exact bodyPost_ret (v := .tuple #[St.zero.val, .iface kt kp]) (results_cR Tryd.results18 _ _ (W.heap.size + 1 + 1) 34 #[.int .i64 0, .int .i64 0, .bool false, .int .i64 0, .int .i64 0, .string ⟨#[]⟩, .int .i64 0, .int .i64 0, .string ⟨#[]⟩] (0, 0) _ (.iface kt kp) rfl rfl (blk_drew (set9_row HI.out.re _ _ _ _ _ _ _ _ _)) Tryd.underlying34 rfl (by kernel_rfl)) rfl ⟨⟨St.zero, _, rfl, .inl ⟨HUB.out, rfl, rfl⟩⟩, (set9_below HI.out.old (by omega) _ _ _ _ _ _ _ _ _).drew⟩
end Go.Proofs.YthlnjnoeaicjjaaDoor

namespace Go.Proofs.YthlnjnoeaicjjaaDoor
open Go.RowKit
/-- What its boxes hold. -/
structure RfI (W : World) (c : Cl) (t : St) (X : World) : Prop where
  co : X.heap[W.heap.size]? = some (.cells #[.int .i64 c.id, .slice c.ra c.rs.length c.rc, .slice c.da c.ds.length c.dc, .slice c.va c.vs.length c.vc] 44 (0, 0))
  re : X.heap[W.heap.size + 1]? = some (.cells #[.int .i64 0, .int .i64 0, .bool false, .int .i64 0, .int .i64 0, .string ⟨#[]⟩, .int .i64 0, .int .i64 0, .string ⟨#[]⟩] 25 (0, 0))
  st : X.heap[W.heap.size + 1 + 1]? = some (.cells t.cs 25 (0, 0))
  old : Below W.heap.size W X
theorem RfI.keep {W : World} {c : Cl} {t : St} {X w' : World} (h : RfI W c t X) (hb : Below (W.heap.size + 1 + 1 + 1) X w') : RfI W c t w' :=
  ⟨(hb.block _ (by omega)).trans h.co, (hb.block _ (by omega)).trans h.re, (hb.block _ (by omega)).trans h.st, h.old.trans (hb.mono (by omega))⟩
theorem RfI.setMn {W : World} {c : Cl} {t : St} {X : World} (h : RfI W c t X) (l : Vl) : RfI W c { t with mn := l } (((X.setCell ⟨W.heap.size + 1 + 1, 3, none⟩ (.int .i64 l.k)).setCell ⟨W.heap.size + 1 + 1, 4, none⟩ (.int .i64 l.n)).setCell ⟨W.heap.size + 1 + 1, 5, none⟩ (.string l.s)) :=
  ⟨blk_other (blk_other (blk_other h.co (by omega) _) (by omega) _) (by omega) _, blk_other (blk_other (blk_other h.re (by omega) _) (by omega) _) (by omega) _, row_setCell (row_setCell (row_setCell h.st _) _) _, ((h.old.setCell (by simp; omega) _).setCell (by simp; omega) _).setCell (by simp; omega) _⟩
theorem RfI.setMx {W : World} {c : Cl} {t : St} {X : World} (h : RfI W c t X) (l : Vl) : RfI W c { t with mx := l } (((X.setCell ⟨W.heap.size + 1 + 1, 6, none⟩ (.int .i64 l.k)).setCell ⟨W.heap.size + 1 + 1, 7, none⟩ (.int .i64 l.n)).setCell ⟨W.heap.size + 1 + 1, 8, none⟩ (.string l.s)) :=
  ⟨blk_other (blk_other (blk_other h.co (by omega) _) (by omega) _) (by omega) _, blk_other (blk_other (blk_other h.re (by omega) _) (by omega) _) (by omega) _, row_setCell (row_setCell (row_setCell h.st _) _) _, ((h.old.setCell (by simp; omega) _).setCell (by simp; omega) _).setCell (by simp; omega) _⟩
end Go.Proofs.YthlnjnoeaicjjaaDoor

namespace Go.Proofs.YthlnjnoeaicjjaaDoor
open Go.RowKit
/-- What the law's boxes hold. -/
structure LsI (W : World) (lid kind mr md : Int) (pa : Option Addr) (pn pc : Nat) (c : Cl) (X : World) : Prop where
  lf : X.heap[W.heap.size]? = some (.cells #[.int .i64 lid, .int .i64 kind, .int .i64 mr, .int .i64 md, .slice pa pn pc] 41 (0, 0))
  co : X.heap[W.heap.size + 1]? = some (.cells #[.int .i64 c.id, .slice c.ra c.rs.length c.rc, .slice c.da c.ds.length c.dc, .slice c.va c.vs.length c.vc] 44 (0, 0))
  old : Below W.heap.size W X
theorem LsI.keep {W : World} {lid kind mr md : Int} {pa : Option Addr} {pn pc : Nat} {c : Cl} {X w' : World} (h : LsI W lid kind mr md pa pn pc c X) (hb : Below X.heap.size X w') : LsI W lid kind mr md pa pn pc c w' :=
  ⟨blk_keep hb h.lf, blk_keep hb h.co, h.old.trans (hb.mono h.old.size)⟩
end Go.Proofs.YthlnjnoeaicjjaaDoor

namespace Go.Proofs.YthlnjnoeaicjjaaDoor
open Go.RowKit
/-- What MergedOf's boxes hold. -/
structure MoI (W : World) (a b o : St) (X : World) : Prop where
  fst : X.heap[W.heap.size]? = some (.cells a.cs 25 (0, 0))
  snd : X.heap[W.heap.size + 1]? = some (.cells b.cs 25 (0, 0))
  re : X.heap[W.heap.size + 1 + 1]? = some (.cells #[.int .i64 0, .int .i64 0, .bool false, .int .i64 0, .int .i64 0, .string ⟨#[]⟩, .int .i64 0, .int .i64 0, .string ⟨#[]⟩] 25 (0, 0))
  out : X.heap[W.heap.size + 1 + 1 + 1]? = some (.cells o.cs 25 (0, 0))
  old : Below W.heap.size W X
theorem MoI.keep {W : World} {a b o : St} {X w' : World} (h : MoI W a b o X) (hb : Below X.heap.size X w') : MoI W a b o w' :=
  ⟨blk_keep hb h.fst, blk_keep hb h.snd, blk_keep hb h.re, blk_keep hb h.out, h.old.trans (hb.mono h.old.size)⟩
theorem MoI.setMn {W : World} {a b o : St} {X : World} (h : MoI W a b o X) (l : Vl) : MoI W a b { o with mn := l } (((X.setCell ⟨W.heap.size + 1 + 1 + 1, 3, none⟩ (.int .i64 l.k)).setCell ⟨W.heap.size + 1 + 1 + 1, 4, none⟩ (.int .i64 l.n)).setCell ⟨W.heap.size + 1 + 1 + 1, 5, none⟩ (.string l.s)) :=
  ⟨blk_other (blk_other (blk_other h.fst (by omega) _) (by omega) _) (by omega) _, blk_other (blk_other (blk_other h.snd (by omega) _) (by omega) _) (by omega) _, blk_other (blk_other (blk_other h.re (by omega) _) (by omega) _) (by omega) _, row_setCell (row_setCell (row_setCell h.out _) _) _, ((h.old.setCell (by simp; omega) _).setCell (by simp; omega) _).setCell (by simp; omega) _⟩
theorem MoI.setMx {W : World} {a b o : St} {X : World} (h : MoI W a b o X) (l : Vl) : MoI W a b { o with mx := l } (((X.setCell ⟨W.heap.size + 1 + 1 + 1, 6, none⟩ (.int .i64 l.k)).setCell ⟨W.heap.size + 1 + 1 + 1, 7, none⟩ (.int .i64 l.n)).setCell ⟨W.heap.size + 1 + 1 + 1, 8, none⟩ (.string l.s)) :=
  ⟨blk_other (blk_other (blk_other h.fst (by omega) _) (by omega) _) (by omega) _, blk_other (blk_other (blk_other h.snd (by omega) _) (by omega) _) (by omega) _, blk_other (blk_other (blk_other h.re (by omega) _) (by omega) _) (by omega) _, row_setCell (row_setCell (row_setCell h.out _) _) _, ((h.old.setCell (by simp; omega) _).setCell (by simp; omega) _).setCell (by simp; omega) _⟩
end Go.Proofs.YthlnjnoeaicjjaaDoor

namespace Go.Proofs.YthlnjnoeaicjjaaDoor
open Go.RowKit
def twC (W : World) : Cl := ⟨1, some ⟨W.heap.size + 1, 0, none⟩, [0, 0], 2, some ⟨W.heap.size + 1 + 1, 0, none⟩, [0, 0], 2, some ⟨W.heap.size, 0, none⟩, [⟨2, 2, ⟨#[]⟩⟩, ⟨2, 1, ⟨#[]⟩⟩], 2⟩
theorem lies_two {w : World} {g t : Nat} {x y : Int} (h : w.heap[g]? = some (.cells #[.int .i64 x, .int .i64 y] t (0, 0))) : Lies w (some ⟨g, 0, none⟩) (i64s [x, y]) := fun j hj => by
  have hj2 : j < 2 := by simpa [i64s] using hj
  match j, hj2 with
  | 0, _ => exact ⟨g, 0, rfl, by simp [World.cell?, h, i64s]⟩
  | 1, _ => exact ⟨g, 0, rfl, by simp [World.cell?, h, i64s]⟩
theorem liesV_two {w : World} {g t : Nat} {x y : Vl} (h : w.heap[g]? = some (.cells #[.int .i64 x.k, .int .i64 x.n, .string x.s, .int .i64 y.k, .int .i64 y.n, .string y.s] t (0, 0))) : LiesV w (some ⟨g, 0, none⟩) [x, y] := fun j hj => by
  have hj2 : j < 2 := by simpa using hj
  match j, hj2 with
  | 0, _ => exact ⟨g, 0, rfl, by simp [World.cell?, h], by simp [World.cell?, h], by simp [World.cell?, h]⟩
  | 1, _ => exact ⟨g, 0, rfl, by simp [World.cell?, h], by simp [World.cell?, h], by simp [World.cell?, h]⟩
theorem twC_good (W : World) : GoodC 1 2 0 0 (twC W) := by
  refine ⟨by kernel_rfl, fun j hj => ?_⟩
  have hj2 : j < 2 := by simpa [twC] using hj
  match j, hj2 with
  | 0, _ => show badV 2 (⟨2, 2, ⟨#[]⟩⟩ : Vl) = false; kernel_rfl
  | 1, _ => show badV 2 (⟨2, 1, ⟨#[]⟩⟩ : Vl) = false; kernel_rfl
theorem twC_of (W : World) : ofC (twC W) = ⟨2, 0, true, ⟨2, 1, ⟨#[]⟩⟩, ⟨2, 2, ⟨#[]⟩⟩⟩ := by kernel_rfl
set_option maxRecDepth 100000 in
set_option maxHeartbeats 3200000 in
theorem two_any (W : World) (st kt bt : TypeId) (sp kp bp : Value)
    (hs : W.cell? ⟨3, 0, none⟩ = some (.iface st sp)) (hk : W.cell? ⟨1, 0, none⟩ = some (.iface kt kp)) (hbd : W.cell? ⟨2, 0, none⟩ = some (.iface bt bp)) :
    Calls Tryd.prog 5 #[] W fun e w' => e = .returned (.bool true) ∧ Below W.heap.size W w' := by
  obtain ⟨w0, HW0, HX, HY, HZ, HB⟩ := three_boxes W #[.int .i64 2, .int .i64 2, .string ⟨#[]⟩, .int .i64 2, .int .i64 1, .string ⟨#[]⟩] #[.int .i64 0, .int .i64 0] #[.int .i64 0, .int .i64 0] 23 3 3
  have HC : Hid _ := of_any 1 2 0 0 none 0 0 (twC W) w0 st kt bt sp kp bp (by simp [twC]) (by simp [twC]) (by simp [twC]) (by simp [twC]) (by simp [twC]) (by simp [twC]) (ckB hs HB.out) (ckB hk HB.out) (ckB hbd HB.out) ⟨lies_two HY.out, lies_two HZ.out, liesV_two (x := ⟨2, 2, ⟨#[]⟩⟩) (y := ⟨2, 1, ⟨#[]⟩⟩) HX.out⟩ (fun v hv => by simp [twC] at hv; rcases hv with rfl | rfl <;> simp [Vl.Low])
  clear HX HY HZ hs hk hbd
  go_enter Tryd.func5, Tryd.ntmps5
  go_wp2_with fail
  rw [HW0.out]
  refine Calls.mono HC.out ?_
  rintro e w1 ⟨⟨s, ev, rfl, hr⟩, hb1⟩
  have HB1 : Hid (Below W.heap.size W w1) := HB.out.trans (hb1.mono HB.out.size)
  have hg := twC_good W
  obtain ⟨rfl, rfl⟩ : ev = .nilIface ∧ s = ⟨2, 0, true, ⟨2, 1, ⟨#[]⟩⟩, ⟨2, 2, ⟨#[]⟩⟩⟩ := by
    rcases hr with ⟨h, _⟩ | ⟨_, p, hp, h, _⟩ | ⟨_, h2, h3⟩
    · rw [hg.1] at h; cases h
    · rw [hg.2 p hp] at h; cases h
    · exact ⟨h2, h3.trans (twC_of W)⟩
  clear hr hb1 HC HB HW0 hg
  unfold St.val St.cs
  go_wp2
  go_ret
  exact ⟨rfl, HB1.out.alloc HB1.out.size _⟩
end Go.Proofs.YthlnjnoeaicjjaaDoor
