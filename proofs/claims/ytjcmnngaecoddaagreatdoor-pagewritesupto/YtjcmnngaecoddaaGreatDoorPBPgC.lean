/-
  stats.Text of stats whose values are right ones.
  The reference's StatsText.
-/
import Derived.Test.YtjcmnngaecoddaaGreatDoorPBBase
import Derived.Test.YtjcmnngaecoddaaGreatDoorPPgB
import Derived.Test.YtjcmnngaecoddaaGreatDoorPBStBase
import Derived.Test.YtjcmnngaecoddaaGreatDoorPDictMath
import Derived.Test.YtjcmnngaecoddaaGreatDoorPBFix
import Derived.Test.YtjcmnngaecoddaaGreatDoorPBWordsMath
namespace Go.Proofs.YtjcmnngaecoddaaGreatDoor
open Go.RowKit
/-- What stands behind both numbers. -/
def stV (s : St) : List UInt8 := if s.h = true then [1, Um.bt s.mn.k] ++ Um.txt (plainB s.mn.k [s.mn]) ++ Um.txt (plainB s.mn.k [s.mx]) else [0]
/-- Stats as bytes. -/
def stTx (s : St) : List UInt8 := Um.uv s.e.toNat ++ Um.uv s.u.toNat ++ stV s
/-- Values that can be written. -/
structure St.Fit (s : St) : Prop where
  k1 : 1 ≤ s.mn.k
  k5 : s.mn.k ≤ 5
  ok : s.mn.Ok s.mn.k
  ok2 : s.mx.Ok s.mn.k
  in1 : s.mn.In
  in2 : s.mx.In
theorem boxed1 (W : World) (c1 : Array Value) (t1 : TypeId) : ∃ w0, Hid (W.alloc (.cells c1 t1) = w0) ∧ Hid (w0.heap[W.heap.size]? = some (.cells c1 t1 (0, 0))) ∧ Hid (Below W.heap.size W w0) := ⟨_, rfl, heap_alloc_new W _, (Below.refl _ _).alloc (Nat.le_refl _) _⟩
theorem liesV_one {X : World} {g : Nat} {v : Vl} {t : TypeId} (h : X.heap[g]? = some (.cells #[.int .i64 v.k, .int .i64 v.n, .string v.s] t (0, 0))) : LiesV X (some ⟨g, 0, none⟩) [v] := fun j hj => by
  obtain rfl : j = 0 := by simp at hj; exact hj
  obtain ⟨h0, h1, h2⟩ := row_three h
  exact ⟨g, 0, rfl, h0, h1, h2⟩
theorem conv_two {w : World} {g : Nat} {n m : Int} (h : w.heap[g]? = some (.cells #[.int .u8 n, .int .u8 m] 5 (0, 0))) :
    (convert 80 9 (.slice (some ⟨g, 0, none⟩) 2 2)).run Tryz.prog w = .ok (.string ⟨#[Um.bt n, Um.bt m]⟩) w := by
  refine run_convert_bytes_arg w 80 5 Tryz.underlying80 Tryz.underlying5 g 0 2 2 [n, m] rfl ?_ 9 Tryz.underlying9
  intro i hi
  have : i = 0 ∨ i = 1 := by omega
  rcases this with rfl | rfl <;> simp [World.cell?, h]
set_option maxRecDepth 100000 in
theorem valuesText_none (s : St) (hh : s.h = false) (W : World) : Calls Tryz.prog 75 #[s.val] W fun e w' => e = .returned (.string ⟨(stV s).toArray⟩) ∧ Below W.heap.size W w' := by
  have HT : Hid (stV s = [0]) := by show _ = _; unfold stV; rw [if_neg (by rw [hh]; simp)]
  obtain ⟨w0, HW0, HX, HB⟩ := boxed1 W s.cs 49
  have hst := (st_row HX.out).1
  rw [hh] at hst
  obtain ⟨s0, s1, s2, s3, s4, s5, s6, s7, s8⟩ := hst
  have hc0 : ∀ X : World, (convert 80 9 (.slice (some ⟨X.heap.size, 0, none⟩) 1 1)).run Tryz.prog (X.alloc (.cells #[.int .u8 0] 5)) = .ok (.string ⟨#[0]⟩) (X.alloc (.cells #[.int .u8 0] 5)) := fun X => conv_one (n := 0) (heap_alloc_new X _)
  unfold St.val
  unfold St.cs at HW0 HX ⊢
  rw [hh] at HW0 ⊢
  go_enter Tryz.func75, Tryz.ntmps75
  go_upto_region 1 with fail
  rw [HW0.out]
  go_upto_region 2 with fail
  obtain ⟨w1, HW1⟩ : ∃ w1, Hid (w0.alloc (.cells #[.int .u8 0] 5) = w1) := ⟨_, rfl⟩
  have b1 : Below w0.heap.size w0 w1 := by rw [← HW1.out]; exact (Below.refl _ _).alloc (Nat.le_refl _) _
  rw [HW1.out]
  have HB1 : Hid _ := b1
  clear hc0 HW1
  replace s2 := (b1.cell (World.block_lt_of_cell? _ _ s2)).trans s2
  clear b1 s0 s1 s3 s4 s5 s6 s7 s8
  go_wp2
  go_ret
  rw [HT.out]
  exact ⟨rfl, HB.out.trans (HB1.out.mono HB.out.size)⟩
set_option maxRecDepth 100000 in
set_option maxHeartbeats 6400000 in
theorem valuesText_some (s : St) (hh : s.h = true) (hf : s.Fit) (W : World) (kt st : TypeId) (kp sp : Value) (hgk : W.cell? ⟨3, 0, none⟩ = some (.iface kt kp)) (hgs : W.cell? ⟨0, 0, none⟩ = some (.iface st sp)) : Calls Tryz.prog 75 #[s.val] W fun e w' => e = .returned (.string ⟨(stV s).toArray⟩) ∧ Below W.heap.size W w' := by
  have HK : Hid (1 ≤ s.mn.k ∧ s.mn.k ≤ 5) := ⟨hf.k1, hf.k5⟩
  obtain ⟨w0, HW0, HX, HB⟩ := boxed1 W s.cs 49
  have HGK : Hid (∀ X, Below w0.heap.size w0 X → X.cell? ⟨3, 0, none⟩ = some (.iface kt kp)) := fun X hX => ((HB.out.trans (hX.mono HB.out.size)).cell (World.block_lt_of_cell? W _ hgk)).trans hgk
  have HGS : Hid (∀ X, Below w0.heap.size w0 X → X.cell? ⟨0, 0, none⟩ = some (.iface st sp)) := fun X hX => ((HB.out.trans (hX.mono HB.out.size)).cell (World.block_lt_of_cell? W _ hgs)).trans hgs
  have HN : Hid (∀ X, Below w0.heap.size w0 X → (X.cell? ⟨W.heap.size, 0, none⟩ = some (.int .i64 s.e) ∧ X.cell? ⟨W.heap.size, 1, none⟩ = some (.int .i64 s.u) ∧ X.cell? ⟨W.heap.size, 2, none⟩ = some (.bool true) ∧ X.cell? ⟨W.heap.size, 3, none⟩ = some (.int .i64 s.mn.k) ∧ X.cell? ⟨W.heap.size, 4, none⟩ = some (.int .i64 s.mn.n) ∧ X.cell? ⟨W.heap.size, 5, none⟩ = some (.string s.mn.s) ∧ X.cell? ⟨W.heap.size, 6, none⟩ = some (.int .i64 s.mx.k) ∧ X.cell? ⟨W.heap.size, 7, none⟩ = some (.int .i64 s.mx.n) ∧ X.cell? ⟨W.heap.size, 8, none⟩ = some (.string s.mx.s)) ∧ Below w0.heap.size w0 X) := fun X hX => (by
    have h := (st_row (blk_keep hX HX.out)).1
    rw [hh] at h
    exact ⟨h, hX⟩)
  have HKd : Hid (∀ X, Below w0.heap.size w0 X → Calls Tryz.prog 113 #[.agg #[.int .i64 s.e, .int .i64 s.u, .bool true, .int .i64 s.mn.k, .int .i64 s.mn.n, .string s.mn.s, .int .i64 s.mx.k, .int .i64 s.mx.n, .string s.mx.s]] X fun e w' => e = .returned (.int .i64 s.mn.k) ∧ Below w0.heap.size w0 w' ∧ Below X.heap.size X w') := fun X hX => (by
    have h := kindS_any s X
    unfold St.val St.cs at h
    rw [hh] at h
    exact h.mono fun _ _ h => ⟨h.1, hX.trans (h.2.mono hX.size), h.2⟩)
  obtain ⟨pmn, HPN⟩ : ∃ p, Hid ((⟨(plainB s.mn.k [s.mn]).toArray⟩ : ByteArray) = p) := ⟨_, rfl⟩
  obtain ⟨pmx, HPX⟩ : ∃ p, Hid ((⟨(plainB s.mn.k [s.mx]).toArray⟩ : ByteArray) = p) := ⟨_, rfl⟩
  have hzn : pmn.size ≤ 118 := by
    have h := plainB_len (kd := s.mn.k) (vs := [s.mn]) ⟨⟨hf.k1, hf.k5⟩, fun v hv => by rw [List.mem_singleton] at hv; subst hv; exact ⟨hf.ok, hf.in1⟩⟩
    rw [← HPN.out]; simpa [ByteArray.size] using h
  have hzx : pmx.size ≤ 118 := by
    have h := plainB_len (kd := s.mn.k) (vs := [s.mx]) ⟨⟨hf.k1, hf.k5⟩, fun v hv => by rw [List.mem_singleton] at hv; subst hv; exact ⟨hf.ok2, hf.in2⟩⟩
    rw [← HPX.out]; simpa [ByteArray.size] using h
  have HPmn : Hid (∀ X g, Below w0.heap.size w0 X → X.heap[g]? = some (.cells #[.int .i64 s.mn.k, .int .i64 s.mn.n, .string s.mn.s] 45 (0, 0)) → Calls Tryz.prog 67 #[.int .i64 s.mn.k, .slice (some ⟨g, 0, none⟩) 1 1] X fun e w' => e = .returned (.tuple #[.string pmn, .nilIface]) ∧ Below w0.heap.size w0 w') := fun X g hX hg => (by
    rw [← HPN.out]
    exact (plain_right (some ⟨g, 0, none⟩) [s.mn] 1 s.mn.k X kt st kp sp (HGK.out X hX) (HGS.out X hX) (by simp) hf.k1 hf.k5 (liesV_one hg) (fun j h => by obtain rfl : j = 0 := (by simp at h; exact h); exact hf.ok) (fun j h => by obtain rfl : j = 0 := (by simp at h; exact h); exact hf.in1.2.1)).mono fun _ _ h => ⟨h.1, hX.trans (h.2.mono hX.size)⟩)
  have HPmx : Hid (∀ X g, Below w0.heap.size w0 X → X.heap[g]? = some (.cells #[.int .i64 s.mx.k, .int .i64 s.mx.n, .string s.mx.s] 45 (0, 0)) → Calls Tryz.prog 67 #[.int .i64 s.mn.k, .slice (some ⟨g, 0, none⟩) 1 1] X fun e w' => e = .returned (.tuple #[.string pmx, .nilIface]) ∧ Below w0.heap.size w0 w') := fun X g hX hg => (by
    rw [← HPX.out]
    exact (plain_right (some ⟨g, 0, none⟩) [s.mx] 1 s.mn.k X kt st kp sp (HGK.out X hX) (HGS.out X hX) (by simp) hf.k1 hf.k5 (liesV_one hg) (fun j h => by obtain rfl : j = 0 := (by simp at h; exact h); exact hf.ok2) (fun j h => by obtain rfl : j = 0 := (by simp at h; exact h); exact hf.in2.2.1)).mono fun _ _ h => ⟨h.1, hX.trans (h.2.mono hX.size)⟩)
  have HTx : Hid (∀ p : ByteArray, p.size ≤ 118 → ∃ t : ByteArray, (⟨(Um.uv p.size).toArray⟩ : ByteArray) ++ p = t ∧ t.size ≤ 128 ∧ ∀ X, Below w0.heap.size w0 X → Calls Tryz.prog 39 #[.string p] X fun e w' => e = .returned (.string t) ∧ Below w0.heap.size w0 w' ∧ Below X.heap.size X w') := fun p hp => ⟨_, rfl, by have := Um.uv_ten (n := p.size) (by omega); rw [ByteArray.size_append]; show (Um.uv p.size).toArray.size + p.size ≤ 128; rw [List.size_toArray]; omega, fun X hX => (text_any p X (by omega)).mono fun _ _ h => ⟨h.1, hX.trans (h.2.mono hX.size), h.2⟩⟩
  obtain ⟨tmn, htn, hsn, htN⟩ := HTx.out pmn hzn
  obtain ⟨tmx, htx, hsx, htX⟩ := HTx.out pmx hzx
  have HTn : Hid _ := htN
  have HTm : Hid _ := htX
  have HSv : Hid ((⟨#[1, Um.bt s.mn.k]⟩ : ByteArray) ++ tmn ++ tmx = ⟨(stV s).toArray⟩) := by
    show _ = _
    unfold stV
    rw [if_pos hh, ← htn, ← htx, ← HPN.out, ← HPX.out, txt_arr, txt_arr, show (⟨#[1, Um.bt s.mn.k]⟩ : ByteArray) = ⟨[1, Um.bt s.mn.k].toArray⟩ from rfl, arr_app, arr_app]
  obtain ⟨s0, s1, s2, s3, s4, s5, s6, s7, s8⟩ := (HN.out w0 (Below.refl _ _)).1
  have hc0 : ∀ X : World, (convert 80 9 (.slice (some ⟨X.heap.size, 0, none⟩) 1 1)).run Tryz.prog (X.alloc (.cells #[.int .u8 0] 5)) = .ok (.string ⟨#[0]⟩) (X.alloc (.cells #[.int .u8 0] 5)) := fun X => conv_one (n := 0) (heap_alloc_new X _)
  clear htN htX htn htx HPN HPX HTx hf
  unfold St.val
  unfold St.cs at HW0 HX ⊢
  rw [hh] at HW0 ⊢
  go_enter Tryz.func75, Tryz.ntmps75
  go_upto_region 1 with fail
  rw [HW0.out]
  go_upto_region 2 with fail
  obtain ⟨w1, HW1⟩ : ∃ w1, Hid (w0.alloc (.cells #[.int .u8 0] 5) = w1) := ⟨_, rfl⟩
  have b1 : Below w0.heap.size w0 w1 := by rw [← HW1.out]; exact (Below.refl _ _).alloc (Nat.le_refl _) _
  rw [HW1.out]
  have HB1 : Hid _ := b1
  clear s0 s1 s2 s3 s4 s5 s6 s7 s8 hc0 HW1
  obtain ⟨s0, s1, s2, s3, s4, s5, s6, s7, s8⟩ := (HN.out w1 b1).1
  clear b1
  go_wp2_with fail
  go_cut [4, 5] (fun x y wx => x = .string pmn ∧ y = .nilIface ∧ Hid (Below w0.heap.size w0 wx))
  case first =>
    have b0 : Below w0.heap.size w0 w1 := HB1.out
    go_region_held3 (fun X => (X.cell? ⟨W.heap.size, 0, none⟩ = some (.int .i64 s.e) ∧ X.cell? ⟨W.heap.size, 1, none⟩ = some (.int .i64 s.u) ∧ X.cell? ⟨W.heap.size, 2, none⟩ = some (.bool true) ∧ X.cell? ⟨W.heap.size, 3, none⟩ = some (.int .i64 s.mn.k) ∧ X.cell? ⟨W.heap.size, 4, none⟩ = some (.int .i64 s.mn.n) ∧ X.cell? ⟨W.heap.size, 5, none⟩ = some (.string s.mn.s) ∧ X.cell? ⟨W.heap.size, 6, none⟩ = some (.int .i64 s.mx.k) ∧ X.cell? ⟨W.heap.size, 7, none⟩ = some (.int .i64 s.mx.n) ∧ X.cell? ⟨W.heap.size, 8, none⟩ = some (.string s.mx.s)) ∧ Below w0.heap.size w0 X) (with_reducible refine HN.out _ ?_; repeat' (first | with_reducible assumption | with_reducible exact b0.drew | with_reducible exact b0 | with_reducible refine Below.drew ?_ | with_reducible exact Nat.le_refl _ | with_reducible refine Below.setCell ?_ ?_ _ | with_reducible refine Below.alloc ?_ ?_ _ | with_reducible exact Below.size (by assumption) | (simp; done) | (simp; omega) | omega)) (first
      | (go_at_call 113; (with_reducible refine Calls.mono (HKd.out _ ?_) ?_); (repeat' (first | with_reducible assumption | with_reducible exact b0.drew | with_reducible exact b0 | with_reducible refine Below.drew ?_ | with_reducible refine Below.alloc ?_ ?_ _ | with_reducible exact Below.size (by assumption) | with_reducible exact Nat.le_refl _ | (simp; done) | (simp; omega))); rintro e x1 ⟨rfl, hbx1, hraw1⟩; (first | (have hzz0 := blk_keep hraw1 (blk_drw (heap_alloc_new _ (.cells #[.int .i64 s.mn.k, .int .i64 s.mn.n, .string s.mn.s] 45)))) | (have hzz0 := blk_keep hraw1 (heap_alloc_new _ (.cells #[.int .i64 s.mn.k, .int .i64 s.mn.n, .string s.mn.s] 45))) | skip))
      | (go_at_call 67; (with_reducible refine Calls.mono (HPmn.out _ _ ?_ ?_) ?_); (repeat' (first | with_reducible assumption | with_reducible exact b0.drew | with_reducible exact b0 | with_reducible refine Below.drew ?_ | with_reducible refine Below.alloc ?_ ?_ _ | with_reducible exact Below.size (by assumption) | with_reducible exact Nat.le_refl _ | (simp; done) | (simp; omega))); (try (first | exact hzz0 | exact heap_alloc_new _ _ | exact blk_drw (heap_alloc_new _ _))); rintro e x2 ⟨rfl, hbx2⟩))
    all_goals (have HBX : Hid _ := hbx2; go_wp2_with fail; go_meet; exact ⟨rfl, rfl, HBX.out⟩)
  case rest =>
    obtain ⟨rfl, rfl, HB4⟩ := hcut
    rename World => w4
    clear s0 s1 s2 s3 s4 s5 s6 s7 s8 HB1
    obtain ⟨s0, s1, s2, s3, s4, s5, s6, s7, s8⟩ := (HN.out w4 HB4.out).1
    go_wp2_with fail
    go_cut [6, 5] (fun x y wx => x = .string pmx ∧ y = .nilIface ∧ Hid (Below w0.heap.size w0 wx))
    case first =>
      have b0 : Below w0.heap.size w0 w4 := HB4.out
      go_region_held3 (fun X => (X.cell? ⟨W.heap.size, 0, none⟩ = some (.int .i64 s.e) ∧ X.cell? ⟨W.heap.size, 1, none⟩ = some (.int .i64 s.u) ∧ X.cell? ⟨W.heap.size, 2, none⟩ = some (.bool true) ∧ X.cell? ⟨W.heap.size, 3, none⟩ = some (.int .i64 s.mn.k) ∧ X.cell? ⟨W.heap.size, 4, none⟩ = some (.int .i64 s.mn.n) ∧ X.cell? ⟨W.heap.size, 5, none⟩ = some (.string s.mn.s) ∧ X.cell? ⟨W.heap.size, 6, none⟩ = some (.int .i64 s.mx.k) ∧ X.cell? ⟨W.heap.size, 7, none⟩ = some (.int .i64 s.mx.n) ∧ X.cell? ⟨W.heap.size, 8, none⟩ = some (.string s.mx.s)) ∧ Below w0.heap.size w0 X) (with_reducible refine HN.out _ ?_; repeat' (first | with_reducible assumption | with_reducible exact b0.drew | with_reducible exact b0 | with_reducible refine Below.drew ?_ | with_reducible exact Nat.le_refl _ | with_reducible refine Below.setCell ?_ ?_ _ | with_reducible refine Below.alloc ?_ ?_ _ | with_reducible exact Below.size (by assumption) | (simp; done) | (simp; omega) | omega)) (first
        | (go_at_call 113; (with_reducible refine Calls.mono (HKd.out _ ?_) ?_); (repeat' (first | with_reducible assumption | with_reducible exact b0.drew | with_reducible exact b0 | with_reducible refine Below.drew ?_ | with_reducible refine Below.alloc ?_ ?_ _ | with_reducible exact Below.size (by assumption) | with_reducible exact Nat.le_refl _ | (simp; done) | (simp; omega))); rintro e x1 ⟨rfl, hbx1, hraw1⟩; (first | (have hzz0 := blk_keep hraw1 (blk_drw (heap_alloc_new _ (.cells #[.int .i64 s.mx.k, .int .i64 s.mx.n, .string s.mx.s] 45)))) | (have hzz0 := blk_keep hraw1 (heap_alloc_new _ (.cells #[.int .i64 s.mx.k, .int .i64 s.mx.n, .string s.mx.s] 45))) | skip))
        | (go_at_call 67; (with_reducible refine Calls.mono (HPmx.out _ _ ?_ ?_) ?_); (repeat' (first | with_reducible assumption | with_reducible exact b0.drew | with_reducible exact b0 | with_reducible refine Below.drew ?_ | with_reducible refine Below.alloc ?_ ?_ _ | with_reducible exact Below.size (by assumption) | with_reducible exact Nat.le_refl _ | (simp; done) | (simp; omega))); (try (first | exact hzz0 | exact heap_alloc_new _ _ | exact blk_drw (heap_alloc_new _ _))); rintro e x2 ⟨rfl, hbx2⟩))
      all_goals (have HBX : Hid _ := hbx2; go_wp2_with fail; go_meet; exact ⟨rfl, rfl, HBX.out⟩)
    case rest =>
      obtain ⟨rfl, rfl, HB7⟩ := hcut
      rename World => w7
      clear s0 s1 s2 s3 s4 s5 s6 s7 s8 HB4
      obtain ⟨s0, s1, s2, s3, s4, s5, s6, s7, s8⟩ := (HN.out w7 HB7.out).1
      go_wp2_with fail
      have hwr : IntKind.u8.wrap s.mn.k = s.mn.k := (by have := HK.out; unfold IntKind.wrap IntKind.signed IntKind.bits; simp; omega)
      have hc0 : ∀ X : World, (convert 80 9 (.slice (some ⟨X.heap.size, 0, none⟩) 2 2)).run Tryz.prog (X.alloc (.cells #[.int .u8 1, .int .u8 s.mn.k] 5)) = .ok (.string ⟨#[Um.bt 1, Um.bt s.mn.k]⟩) (X.alloc (.cells #[.int .u8 1, .int .u8 s.mn.k] 5)) := fun X => conv_two (heap_alloc_new X _)
      have hc1 : ∀ X : World, (convert 80 9 (.slice (some ⟨X.heap.size, 0, none⟩) 2 2)).run Tryz.prog (X.alloc (.cells #[.int .u8 1, .int .u8 s.mn.k] 5)).drew = .ok (.string ⟨#[Um.bt 1, Um.bt s.mn.k]⟩) (X.alloc (.cells #[.int .u8 1, .int .u8 s.mn.k] 5)).drew := fun X => conv_two (blk_drw (heap_alloc_new X _))
      have b0 : Below w0.heap.size w0 w7 := HB7.out
      go_region_with (first
        | (go_at_call 113; (with_reducible refine Calls.mono (HKd.out _ ?_) ?_); (repeat' (first | with_reducible assumption | with_reducible exact b0.drew | with_reducible exact b0 | with_reducible refine Below.drew ?_ | with_reducible refine Below.alloc ?_ ?_ _ | with_reducible exact Below.size (by assumption) | with_reducible exact Nat.le_refl _ | (simp; done) | (simp; omega))); rintro e x1 ⟨rfl, hbx1, hraw1⟩; (first | (have hzz := blk_keep hraw1 hzz0; clear hzz0; have hzz0 := hzz; clear hzz) | (have hzz0 := blk_keep hraw1 (blk_drw (heap_alloc_new _ (.cells #[.int .u8 1, .int .u8 s.mn.k] 5)))) | (have hzz0 := blk_keep hraw1 (heap_alloc_new _ (.cells #[.int .u8 1, .int .u8 s.mn.k] 5))) | skip); (try (have hcz := conv_two hzz0)))
        | (go_at_call 39; (with_reducible refine Calls.mono (HTn.out _ ?_) ?_); (repeat' (first | with_reducible assumption | with_reducible exact b0.drew | with_reducible exact b0 | with_reducible refine Below.drew ?_ | with_reducible refine Below.alloc ?_ ?_ _ | with_reducible exact Below.size (by assumption) | with_reducible exact Nat.le_refl _ | (simp; done) | (simp; omega))); rintro e x2 ⟨rfl, hbx2, hraw2⟩; (first | (have hzz := blk_keep hraw2 hzz0; clear hzz0; have hzz0 := hzz; clear hzz) | (have hzz0 := blk_keep hraw2 (blk_drw (heap_alloc_new _ (.cells #[.int .u8 1, .int .u8 s.mn.k] 5)))) | (have hzz0 := blk_keep hraw2 (heap_alloc_new _ (.cells #[.int .u8 1, .int .u8 s.mn.k] 5))) | skip); (try (have hcz := conv_two hzz0)))
        | (go_at_call 39; (with_reducible refine Calls.mono (HTm.out _ ?_) ?_); (repeat' (first | with_reducible assumption | with_reducible exact b0.drew | with_reducible exact b0 | with_reducible refine Below.drew ?_ | with_reducible refine Below.alloc ?_ ?_ _ | with_reducible exact Below.size (by assumption) | with_reducible exact Nat.le_refl _ | (simp; done) | (simp; omega))); rintro e x3 ⟨rfl, hbx3, hraw3⟩; (first | (have hzz := blk_keep hraw3 hzz0; clear hzz0; have hzz0 := hzz; clear hzz) | (have hzz0 := blk_keep hraw3 (blk_drw (heap_alloc_new _ (.cells #[.int .u8 1, .int .u8 s.mn.k] 5)))) | (have hzz0 := blk_keep hraw3 (heap_alloc_new _ (.cells #[.int .u8 1, .int .u8 s.mn.k] 5))) | skip); (try (have hcz := conv_two hzz0))))
      all_goals (have HBX : Hid _ := hbx3; clear hbx1 hbx2 hbx3 hraw1 hraw2 hraw3 b0 hc0 hc1; (try clear hcz); (try clear hzz0); go_wp2; go_ret; rw [← HSv.out]; refine ⟨rfl, HB.out.trans (Below.mono (B := w0.heap.size) ?_ HB.out.size)⟩; first | exact HBX.out | exact HBX.out.alloc HBX.out.size _ | exact (HBX.out.alloc HBX.out.size _).drew)
theorem valuesText_any (s : St) (hf : s.h = true → s.Fit) (W : World) (kt st : TypeId) (kp sp : Value) (hgk : W.cell? ⟨3, 0, none⟩ = some (.iface kt kp)) (hgs : W.cell? ⟨0, 0, none⟩ = some (.iface st sp)) : Calls Tryz.prog 75 #[s.val] W fun e w' => e = .returned (.string ⟨(stV s).toArray⟩) ∧ Below W.heap.size W w' := by
  cases hh : s.h with
  | false => exact valuesText_none s hh W
  | true => exact valuesText_some s hh (hf hh) W kt st kp sp hgk hgs
theorem stV_len (s : St) (hf : s.h = true → s.Fit) : (stV s).length ≤ 258 := by
  unfold stV
  split
  · rename_i hh
    have hf := hf hh
    have h1 := plainB_len (kd := s.mn.k) (vs := [s.mn]) ⟨⟨hf.k1, hf.k5⟩, fun v hv => by rw [List.mem_singleton] at hv; subst hv; exact ⟨hf.ok, hf.in1⟩⟩
    have h2 := plainB_len (kd := s.mn.k) (vs := [s.mx]) ⟨⟨hf.k1, hf.k5⟩, fun v hv => by rw [List.mem_singleton] at hv; subst hv; exact ⟨hf.ok2, hf.in2⟩⟩
    simp only [List.length_cons, List.length_nil] at h1 h2
    have h3 := Um.txt_len (plainB s.mn.k [s.mn]) (by omega)
    have h4 := Um.txt_len (plainB s.mn.k [s.mx]) (by omega)
    simp only [List.length_append, List.length_cons, List.length_nil]
    omega
  · simp
theorem stTx_len (s : St) (hf : s.h = true → s.Fit) (he : s.e ≤ 9223372036854775807) (hu : s.u ≤ 9223372036854775807) : (stTx s).length ≤ 278 := by
  have h1 := stV_len s hf
  have h2 := Um.uv_ten (n := s.e.toNat) (by omega)
  have h3 := Um.uv_ten (n := s.u.toNat) (by omega)
  unfold stTx
  simp only [List.length_append]
  omega
set_option maxRecDepth 100000 in
set_option maxHeartbeats 6400000 in
theorem stText_any (s : St) (hf : s.h = true → s.Fit) (he : 0 ≤ s.e ∧ s.e ≤ 9223372036854775807) (hu : 0 ≤ s.u ∧ s.u ≤ 9223372036854775807) (W : World) (kt st : TypeId) (kp sp : Value) (hgk : W.cell? ⟨3, 0, none⟩ = some (.iface kt kp)) (hgs : W.cell? ⟨0, 0, none⟩ = some (.iface st sp)) : Calls Tryz.prog 38 #[s.val] W fun e w' => e = .returned (.string ⟨(stTx s).toArray⟩) ∧ Below W.heap.size W w' := by
  have hvl := stV_len s hf
  have hle := Um.uv_ten (n := s.e.toNat) (by omega)
  have hlu := Um.uv_ten (n := s.u.toNat) (by omega)
  obtain ⟨w0, HW0, HX, HB⟩ := boxed1 W s.cs 49
  obtain ⟨vt, HVt⟩ : ∃ p, Hid ((⟨(stV s).toArray⟩ : ByteArray) = p) := ⟨_, rfl⟩
  obtain ⟨et, HEt⟩ : ∃ p, Hid ((⟨(Um.uv s.e.toNat).toArray⟩ : ByteArray) = p) := ⟨_, rfl⟩
  obtain ⟨ut, HUt⟩ : ∃ p, Hid ((⟨(Um.uv s.u.toNat).toArray⟩ : ByteArray) = p) := ⟨_, rfl⟩
  have hz1 : vt.size ≤ 258 := by rw [← HVt.out]; simpa [ByteArray.size] using hvl
  have hz2 : et.size ≤ 10 := by rw [← HEt.out]; simpa [ByteArray.size] using hle
  have hz3 : ut.size ≤ 10 := by rw [← HUt.out]; simpa [ByteArray.size] using hlu
  have HSt : Hid (et ++ ut ++ vt = ⟨(stTx s).toArray⟩) := by show _ = _; rw [← HVt.out, ← HEt.out, ← HUt.out, arr_app, arr_app]; rfl
  have HN : Hid (∀ X, Below w0.heap.size w0 X → (X.cell? ⟨W.heap.size, 0, none⟩ = some (.int .i64 s.e) ∧ X.cell? ⟨W.heap.size, 1, none⟩ = some (.int .i64 s.u) ∧ X.cell? ⟨W.heap.size, 2, none⟩ = some (.bool s.h) ∧ X.cell? ⟨W.heap.size, 3, none⟩ = some (.int .i64 s.mn.k) ∧ X.cell? ⟨W.heap.size, 4, none⟩ = some (.int .i64 s.mn.n) ∧ X.cell? ⟨W.heap.size, 5, none⟩ = some (.string s.mn.s) ∧ X.cell? ⟨W.heap.size, 6, none⟩ = some (.int .i64 s.mx.k) ∧ X.cell? ⟨W.heap.size, 7, none⟩ = some (.int .i64 s.mx.n) ∧ X.cell? ⟨W.heap.size, 8, none⟩ = some (.string s.mx.s)) ∧ Below w0.heap.size w0 X) := fun X hX => ⟨(st_row (blk_keep hX HX.out)).1, hX⟩
  have HCe : Hid (∀ X, Below w0.heap.size w0 X → Calls Tryz.prog 74 #[.int .i64 s.e] X fun e w' => e = .returned (.string et) ∧ Below w0.heap.size w0 w') := fun X hX => (by
    have h := countText_any s.e.toNat X (by omega)
    rw [Int.toNat_of_nonneg he.1, HEt.out] at h
    exact h.mono fun _ _ h => ⟨h.1, hX.trans (h.2.mono hX.size)⟩)
  have HCu : Hid (∀ X, Below w0.heap.size w0 X → Calls Tryz.prog 74 #[.int .i64 s.u] X fun e w' => e = .returned (.string ut) ∧ Below w0.heap.size w0 w') := fun X hX => (by
    have h := countText_any s.u.toNat X (by omega)
    rw [Int.toNat_of_nonneg hu.1, HUt.out] at h
    exact h.mono fun _ _ h => ⟨h.1, hX.trans (h.2.mono hX.size)⟩)
  have HCv : Hid (∀ X, Below w0.heap.size w0 X → Calls Tryz.prog 75 #[.agg #[.int .i64 s.e, .int .i64 s.u, .bool s.h, .int .i64 s.mn.k, .int .i64 s.mn.n, .string s.mn.s, .int .i64 s.mx.k, .int .i64 s.mx.n, .string s.mx.s]] X fun e w' => e = .returned (.string vt) ∧ Below w0.heap.size w0 w') := fun X hX => (by
    have h := valuesText_any s hf X kt st kp sp (((HB.out.trans (hX.mono HB.out.size)).cell (World.block_lt_of_cell? W _ hgk)).trans hgk) (((HB.out.trans (hX.mono HB.out.size)).cell (World.block_lt_of_cell? W _ hgs)).trans hgs)
    rw [HVt.out] at h
    exact h.mono fun _ _ h => ⟨h.1, hX.trans (h.2.mono hX.size)⟩)
  have hq1 : ∀ W : World, (Op.stringOp .add et ut).run Tryz.prog W = .ok (.string (et ++ ut)) W := fun W => run_string_add_sum _ _ _ (by omega)
  have hq2 : ∀ W : World, (Op.stringOp .add (et ++ ut) vt).run Tryz.prog W = .ok (.string (et ++ ut ++ vt)) W := fun W => run_string_add_sum _ _ _ (by rw [ByteArray.size_append]; omega)
  obtain ⟨s0, s1, s2, s3, s4, s5, s6, s7, s8⟩ := (HN.out w0 (Below.refl _ _)).1
  clear hgk hgs hf he hu hvl hle hlu HVt HEt HUt
  unfold St.val
  unfold St.cs at HW0 HX ⊢
  go_enter Tryz.func38, Tryz.ntmps38
  go_upto_region 1 with fail
  rw [HW0.out]
  have b0 : Below w0.heap.size w0 w0 := Below.refl _ _
  go_region_held3 (fun X => (X.cell? ⟨W.heap.size, 0, none⟩ = some (.int .i64 s.e) ∧ X.cell? ⟨W.heap.size, 1, none⟩ = some (.int .i64 s.u) ∧ X.cell? ⟨W.heap.size, 2, none⟩ = some (.bool s.h) ∧ X.cell? ⟨W.heap.size, 3, none⟩ = some (.int .i64 s.mn.k) ∧ X.cell? ⟨W.heap.size, 4, none⟩ = some (.int .i64 s.mn.n) ∧ X.cell? ⟨W.heap.size, 5, none⟩ = some (.string s.mn.s) ∧ X.cell? ⟨W.heap.size, 6, none⟩ = some (.int .i64 s.mx.k) ∧ X.cell? ⟨W.heap.size, 7, none⟩ = some (.int .i64 s.mx.n) ∧ X.cell? ⟨W.heap.size, 8, none⟩ = some (.string s.mx.s)) ∧ Below w0.heap.size w0 X) (with_reducible refine HN.out _ ?_; repeat' (first | with_reducible assumption | with_reducible exact b0.drew | with_reducible exact b0 | with_reducible refine Below.drew ?_ | with_reducible exact Nat.le_refl _ | with_reducible refine Below.setCell ?_ ?_ _ | with_reducible refine Below.alloc ?_ ?_ _ | with_reducible exact Below.size (by assumption) | (simp; done) | (simp; omega) | omega)) (first
    | (go_at_call 74; (with_reducible refine Calls.mono (HCe.out _ ?_) ?_); (repeat' (first | with_reducible assumption | with_reducible exact b0.drew | with_reducible exact b0 | with_reducible refine Below.drew ?_ | with_reducible refine Below.alloc ?_ ?_ _ | with_reducible exact Below.size (by assumption) | with_reducible exact Nat.le_refl _ | (simp; done) | (simp; omega))); rintro e x1 ⟨rfl, hbx1⟩)
    | (go_at_call 74; (with_reducible refine Calls.mono (HCu.out _ ?_) ?_); (repeat' (first | with_reducible assumption | with_reducible exact b0.drew | with_reducible exact b0 | with_reducible refine Below.drew ?_ | with_reducible refine Below.alloc ?_ ?_ _ | with_reducible exact Below.size (by assumption) | with_reducible exact Nat.le_refl _ | (simp; done) | (simp; omega))); rintro e x2 ⟨rfl, hbx2⟩)
    | (go_at_call 75; (with_reducible refine Calls.mono (HCv.out _ ?_) ?_); (repeat' (first | with_reducible assumption | with_reducible exact b0.drew | with_reducible exact b0 | with_reducible refine Below.drew ?_ | with_reducible refine Below.alloc ?_ ?_ _ | with_reducible exact Below.size (by assumption) | with_reducible exact Nat.le_refl _ | (simp; done) | (simp; omega))); rintro e x3 ⟨rfl, hbx3⟩))
  all_goals (have HBX : Hid _ := hbx3; go_wp2; go_ret; rw [← HSt.out]; exact ⟨rfl, HB.out.trans (HBX.out.mono HB.out.size)⟩)
end Go.Proofs.YtjcmnngaecoddaaGreatDoor

namespace Go.Proofs.YtjcmnngaecoddaaGreatDoor
open Go.RowKit
set_option maxRecDepth 100000 in
theorem countR_any (n : Nat) (W : World) (h1 : n ≤ 9223372036854775807) : Calls Tryz.prog 50 #[.int .i64 n] W fun e w' => e = .returned (.string ⟨(Um.uv n).toArray⟩) ∧ Below W.heap.size W w' := by
  have hcv : IntKind.u64.wrap (n : Int) = (n : Int) := by unfold IntKind.wrap IntKind.signed IntKind.bits; simp; omega
  have hq : decide ((n : Int) < 0) = false := by simp
  go_enter Tryz.func50, Tryz.ntmps50
  go_wp2_with (go_at_call 29; refine (seven_any n _ (by omega)).mono ?_; rintro e w1 ⟨rfl, hb1⟩)
  go_ret
  exact ⟨rfl, hb1⟩
set_option maxRecDepth 100000 in
set_option maxHeartbeats 6400000 in
theorem statsText_any (s : St) (hf : s.h = true → s.Fit) (he : 0 ≤ s.e ∧ s.e ≤ 9223372036854775807) (hu : 0 ≤ s.u ∧ s.u ≤ 9223372036854775807) (W : World) : Calls Tryz.prog 23 #[.agg #[.int .i64 s.e, .int .i64 s.u, .bool s.h, .int .i64 s.mn.k, .int .i64 s.mn.n, .string s.mn.s, .int .i64 s.mx.k, .int .i64 s.mx.n, .string s.mx.s]] W fun e w' => e = .returned (.string ⟨(stTx s).toArray⟩) ∧ Below W.heap.size W w' := by
  have hle := Um.uv_ten (n := s.e.toNat) (by omega)
  have hlu := Um.uv_ten (n := s.u.toNat) (by omega)
  obtain ⟨w0, HW0, HX, HB⟩ := boxed1 W #[.int .i64 s.e, .int .i64 s.u, .bool s.h, .int .i64 s.mn.k, .int .i64 s.mn.n, .string s.mn.s, .int .i64 s.mx.k, .int .i64 s.mx.n, .string s.mx.s] 60
  obtain ⟨et, HEt⟩ : ∃ p, Hid ((⟨(Um.uv s.e.toNat).toArray⟩ : ByteArray) = p) := ⟨_, rfl⟩
  obtain ⟨ut, HUt⟩ : ∃ p, Hid ((⟨(Um.uv s.u.toNat).toArray⟩ : ByteArray) = p) := ⟨_, rfl⟩
  have hz2 : et.size ≤ 10 := by rw [← HEt.out]; simpa [ByteArray.size] using hle
  have hz3 : ut.size ≤ 10 := by rw [← HUt.out]; simpa [ByteArray.size] using hlu
  have HN : Hid (∀ X, Below w0.heap.size w0 X → (X.cell? ⟨W.heap.size, 0, none⟩ = some (.int .i64 s.e) ∧ X.cell? ⟨W.heap.size, 1, none⟩ = some (.int .i64 s.u) ∧ X.cell? ⟨W.heap.size, 2, none⟩ = some (.bool s.h) ∧ X.cell? ⟨W.heap.size, 3, none⟩ = some (.int .i64 s.mn.k) ∧ X.cell? ⟨W.heap.size, 4, none⟩ = some (.int .i64 s.mn.n) ∧ X.cell? ⟨W.heap.size, 5, none⟩ = some (.string s.mn.s) ∧ X.cell? ⟨W.heap.size, 6, none⟩ = some (.int .i64 s.mx.k) ∧ X.cell? ⟨W.heap.size, 7, none⟩ = some (.int .i64 s.mx.n) ∧ X.cell? ⟨W.heap.size, 8, none⟩ = some (.string s.mx.s)) ∧ Below w0.heap.size w0 X) := fun X hX => ⟨(st_row (blk_keep hX HX.out)).1, hX⟩
  have HCe : Hid (∀ X, Below w0.heap.size w0 X → Calls Tryz.prog 50 #[.int .i64 s.e] X fun e w' => e = .returned (.string et) ∧ Below w0.heap.size w0 w') := fun X hX => (by
    have h := countR_any s.e.toNat X (by omega)
    rw [Int.toNat_of_nonneg he.1, HEt.out] at h
    exact h.mono fun _ _ h => ⟨h.1, hX.trans (h.2.mono hX.size)⟩)
  have HCu : Hid (∀ X, Below w0.heap.size w0 X → Calls Tryz.prog 50 #[.int .i64 s.u] X fun e w' => e = .returned (.string ut) ∧ Below w0.heap.size w0 w') := fun X hX => (by
    have h := countR_any s.u.toNat X (by omega)
    rw [Int.toNat_of_nonneg hu.1, HUt.out] at h
    exact h.mono fun _ _ h => ⟨h.1, hX.trans (h.2.mono hX.size)⟩)
  have hq1 : ∀ W : World, (Op.stringOp .add et ut).run Tryz.prog W = .ok (.string (et ++ ut)) W := fun W => run_string_add_sum _ _ _ (by omega)
  obtain ⟨s0, s1, s2, s3, s4, s5, s6, s7, s8⟩ := (HN.out w0 (Below.refl _ _)).1
  go_enter Tryz.func23, Tryz.ntmps23
  go_upto_region 1 with fail
  rw [HW0.out]
  go_cut [3] (fun x wx => x = .string (et ++ ut) ∧ Hid (Below w0.heap.size w0 wx))
  case first =>
    have b0 : Below w0.heap.size w0 w0 := Below.refl _ _
    go_region_held3 (fun X => (X.cell? ⟨W.heap.size, 0, none⟩ = some (.int .i64 s.e) ∧ X.cell? ⟨W.heap.size, 1, none⟩ = some (.int .i64 s.u) ∧ X.cell? ⟨W.heap.size, 2, none⟩ = some (.bool s.h) ∧ X.cell? ⟨W.heap.size, 3, none⟩ = some (.int .i64 s.mn.k) ∧ X.cell? ⟨W.heap.size, 4, none⟩ = some (.int .i64 s.mn.n) ∧ X.cell? ⟨W.heap.size, 5, none⟩ = some (.string s.mn.s) ∧ X.cell? ⟨W.heap.size, 6, none⟩ = some (.int .i64 s.mx.k) ∧ X.cell? ⟨W.heap.size, 7, none⟩ = some (.int .i64 s.mx.n) ∧ X.cell? ⟨W.heap.size, 8, none⟩ = some (.string s.mx.s)) ∧ Below w0.heap.size w0 X) (with_reducible refine HN.out _ ?_; repeat' (first | with_reducible assumption | with_reducible exact b0.drew | with_reducible exact b0 | with_reducible refine Below.drew ?_ | with_reducible exact Nat.le_refl _ | with_reducible refine Below.setCell ?_ ?_ _ | with_reducible refine Below.alloc ?_ ?_ _ | with_reducible exact Below.size (by assumption) | (simp; done) | (simp; omega) | omega)) (first
      | (go_at_call 50; (with_reducible refine Calls.mono (HCe.out _ ?_) ?_); (repeat' (first | with_reducible assumption | with_reducible exact b0.drew | with_reducible exact b0 | with_reducible refine Below.drew ?_ | with_reducible refine Below.alloc ?_ ?_ _ | with_reducible exact Below.size (by assumption) | with_reducible exact Nat.le_refl _ | (simp; done) | (simp; omega))); rintro e x1 ⟨rfl, hbx1⟩)
      | (go_at_call 50; (with_reducible refine Calls.mono (HCu.out _ ?_) ?_); (repeat' (first | with_reducible assumption | with_reducible exact b0.drew | with_reducible exact b0 | with_reducible refine Below.drew ?_ | with_reducible refine Below.alloc ?_ ?_ _ | with_reducible exact Below.size (by assumption) | with_reducible exact Nat.le_refl _ | (simp; done) | (simp; omega))); rintro e x2 ⟨rfl, hbx2⟩))
    all_goals (have HBX : Hid _ := hbx2; go_wp2_with fail; go_meet; exact ⟨rfl, HBX.out⟩)
  case rest =>
    obtain ⟨rfl, HB1⟩ := hcut
    rename World => w1
    clear s0 s1 s2 s3 s4 s5 s6 s7 s8 hq1
    obtain ⟨s0, s1, s2, s3, s4, s5, s6, s7, s8⟩ := (HN.out w1 HB1.out).1
    have hz4 : (et ++ ut).size ≤ 20 := by rw [ByteArray.size_append]; omega
    have HEu : Hid (et ++ ut = ⟨(Um.uv s.e.toNat ++ Um.uv s.u.toNat).toArray⟩) := (by show _ = _; rw [← HEt.out, ← HUt.out, arr_app])
    generalize et ++ ut = eu at hz4 HEu ⊢
    clear hz2 hz3 HCe HCu HEt HUt
    go_wp2_with fail
    refine Calls.mono (isValueR_any s.mn.k s.mn.k s.mn.n s.mn.s w1) ?_
    rintro e w2 ⟨rfl, hb2⟩
    have HB2 : Hid (Below w0.heap.size w0 w2) := HB1.out.trans (hb2.mono HB1.out.size)
    clear s0 s1 s2 s3 s4 s5 s6 s7 s8 hb2 HB1
    obtain ⟨s0, s1, s2, s3, s4, s5, s6, s7, s8⟩ := (HN.out w2 HB2.out).1
    go_wp2_with fail
    refine Calls.mono (isValueR_any s.mx.k s.mx.k s.mx.n s.mx.s w2) ?_
    rintro e w3 ⟨rfl, hb3⟩
    have HB3 : Hid (Below w0.heap.size w0 w3) := HB2.out.trans (hb3.mono HB2.out.size)
    clear s0 s1 s2 s3 s4 s5 s6 s7 s8 hb3 HB2
    obtain ⟨s0, s1, s2, s3, s4, s5, s6, s7, s8⟩ := (HN.out w3 HB3.out).1
    obtain ⟨vh, HVh⟩ : ∃ x, Hid (s.h = x) := ⟨_, rfl⟩
    rw [HVh.out] at s2 ⊢
    cases vh with
    | false =>
      have HT : Hid (stTx s = Um.uv s.e.toNat ++ Um.uv s.u.toNat ++ [0]) := by show _ = _; unfold stTx stV; rw [if_neg (by rw [HVh.out]; simp)]
      have HBy : Hid (Calls Tryz.prog 28 #[.int .i64 0] w3 fun e w' => e = .returned (.string ⟨#[Um.bt 0]⟩) ∧ Below w3.heap.size w3 w') := byte_any 0 w3 (by omega) (by omega)
      have hq1 : ∀ W : World, (Op.stringOp .add eu ⟨#[Um.bt 0]⟩).run Tryz.prog W = .ok (.string (eu ++ ⟨#[Um.bt 0]⟩)) W := fun W => run_string_add_sum _ _ _ (by rw [show (⟨#[Um.bt 0]⟩ : ByteArray).size = 1 from rfl]; omega)
      go_wp2_with fail
      refine Calls.mono HBy.out ?_
      rintro e w4 ⟨rfl, hb4⟩
      have HB4 : Hid (Below w0.heap.size w0 w4) := HB3.out.trans (hb4.mono HB3.out.size)
      clear hb4
      go_wp2
      go_ret
      rw [HT.out, HEu.out, show (⟨#[Um.bt 0]⟩ : ByteArray) = ⟨[(0 : UInt8)].toArray⟩ from rfl, arr_app]
      exact ⟨rfl, HB.out.trans (HB4.out.mono HB.out.size)⟩
    | true =>
      have hf := hf HVh.out
      have ho1 := okV_iff.2 hf.ok
      have hk2 : s.mx.k = s.mn.k := hf.ok2.1
      have ho2 : okV s.mx.k s.mx.k s.mx.n s.mx.s.size = true := (by rw [hk2]; have := okV_iff.2 hf.ok2; rw [hk2] at this; exact this)
      rw [ho1, ho2]
      have HK2 : Hid _ := hk2
      have HT : Hid (stTx s = Um.uv s.e.toNat ++ Um.uv s.u.toNat ++ ([1, Um.bt s.mn.k] ++ Um.txt (plainB s.mn.k [s.mn]) ++ Um.txt (plainB s.mn.k [s.mx]))) := by show _ = _; unfold stTx stV; rw [if_pos HVh.out]
      obtain ⟨pmn, HPN⟩ : ∃ p, Hid ((⟨(plainB s.mn.k [s.mn]).toArray⟩ : ByteArray) = p) := ⟨_, rfl⟩
      obtain ⟨pmx, HPX⟩ : ∃ p, Hid ((⟨(plainB s.mn.k [s.mx]).toArray⟩ : ByteArray) = p) := ⟨_, rfl⟩
      have hr1 : Right s.mn.k [s.mn] := ⟨⟨hf.k1, hf.k5⟩, fun v hv => by rw [List.mem_singleton] at hv; subst hv; exact ⟨hf.ok, hf.in1⟩⟩
      have hr2 : Right s.mn.k [s.mx] := ⟨⟨hf.k1, hf.k5⟩, fun v hv => by rw [List.mem_singleton] at hv; subst hv; exact ⟨hf.ok2, hf.in2⟩⟩
      have hzn : pmn.size ≤ 118 := by have h := plainB_len hr1; rw [← HPN.out]; simpa [ByteArray.size] using h
      have hzx : pmx.size ≤ 118 := by have h := plainB_len hr2; rw [← HPX.out]; simpa [ByteArray.size] using h
      have hk15 : 1 ≤ s.mn.k ∧ s.mn.k ≤ 5 := ⟨hf.k1, hf.k5⟩
      have HPmn : Hid (∀ X g, X.heap[g]? = some (.cells #[.int .i64 s.mn.k, .int .i64 s.mn.n, .string s.mn.s] 45 (0, 0)) → Calls Tryz.prog 45 #[.int .i64 s.mn.k, .slice (some ⟨g, 0, none⟩) 1 1] X fun e w' => e = .returned (.string pmn) ∧ Below X.heap.size X w') := fun X g hg => (by
        rw [← HPN.out]
        exact plainOf_any (some ⟨g, 0, none⟩) [s.mn] 1 s.mn.k X (by simp) (liesV_one hg) hr1)
      have HPmx : Hid (∀ X g, X.heap[g]? = some (.cells #[.int .i64 s.mx.k, .int .i64 s.mx.n, .string s.mx.s] 45 (0, 0)) → Calls Tryz.prog 45 #[.int .i64 s.mx.k, .slice (some ⟨g, 0, none⟩) 1 1] X fun e w' => e = .returned (.string pmx) ∧ Below X.heap.size X w') := fun X g hg => (by
        rw [← HPX.out]
        have h := plainOf_any (some ⟨g, 0, none⟩) [s.mx] 1 s.mn.k X (by simp) (liesV_one hg) hr2
        rw [← HK2.out] at h ⊢
        exact h)
      have HBy : Hid (∀ X, Calls Tryz.prog 28 #[.int .i64 1] X fun e w' => e = .returned (.string ⟨#[Um.bt 1]⟩) ∧ Below X.heap.size X w') := fun X => byte_any 1 X (by omega) (by omega)
      have HBk : Hid (∀ X, Calls Tryz.prog 28 #[.int .i64 s.mn.k] X fun e w' => e = .returned (.string ⟨#[Um.bt s.mn.k]⟩) ∧ Below X.heap.size X w') := fun X => byte_any s.mn.k X (by omega) (by omega)
      have HTx : Hid (∀ p : ByteArray, p.size ≤ 118 → ∃ t : ByteArray, (⟨(Um.txt p.data.toList).toArray⟩ : ByteArray) = t ∧ t.size ≤ 128 ∧ ∀ X, Calls Tryz.prog 25 #[.string p] X fun e w' => e = .returned (.string t) ∧ Below X.heap.size X w') := fun p hp => ⟨_, rfl, by have := Um.uv_ten (n := p.size) (by omega); rw [← txt_arr, ByteArray.size_append]; show (Um.uv p.size).toArray.size + p.size ≤ 128; rw [List.size_toArray]; omega, fun X => by rw [← txt_arr]; exact long_any p X (by omega)⟩
      obtain ⟨tmn, htn, hsn, htN⟩ := HTx.out pmn hzn
      obtain ⟨tmx, htx, hsx, htX⟩ := HTx.out pmx hzx
      have HTn : Hid _ := htN
      have HTm : Hid _ := htX
      have HSv : Hid (eu ++ ⟨#[Um.bt 1]⟩ ++ ⟨#[Um.bt s.mn.k]⟩ ++ tmn ++ tmx = ⟨(stTx s).toArray⟩) := by
        show _ = _
        rw [HT.out, HEu.out, ← htn, ← htx, ← HPN.out, ← HPX.out, show (⟨#[Um.bt 1]⟩ : ByteArray) = ⟨[(1 : UInt8)].toArray⟩ from rfl, show (⟨#[Um.bt s.mn.k]⟩ : ByteArray) = ⟨[Um.bt s.mn.k].toArray⟩ from rfl, arr_app, arr_app, arr_app, arr_app]
        simp only [List.append_assoc, List.cons_append, List.nil_append]
      have z1 : (⟨#[Um.bt 1]⟩ : ByteArray).size = 1 := rfl
      have z2 : (⟨#[Um.bt s.mn.k]⟩ : ByteArray).size = 1 := rfl
      have hq1 : ∀ W : World, (Op.stringOp .add eu ⟨#[Um.bt 1]⟩).run Tryz.prog W = .ok (.string (eu ++ ⟨#[Um.bt 1]⟩)) W := fun W => run_string_add_sum _ _ _ (by rw [z1]; omega)
      have hq2 : ∀ W : World, (Op.stringOp .add (eu ++ ⟨#[Um.bt 1]⟩) ⟨#[Um.bt s.mn.k]⟩).run Tryz.prog W = .ok (.string (eu ++ ⟨#[Um.bt 1]⟩ ++ ⟨#[Um.bt s.mn.k]⟩)) W := fun W => run_string_add_sum _ _ _ (by rw [ByteArray.size_append, z1, z2]; omega)
      have hq3 : ∀ W : World, (Op.stringOp .add (eu ++ ⟨#[Um.bt 1]⟩ ++ ⟨#[Um.bt s.mn.k]⟩) tmn).run Tryz.prog W = .ok (.string (eu ++ ⟨#[Um.bt 1]⟩ ++ ⟨#[Um.bt s.mn.k]⟩ ++ tmn)) W := fun W => run_string_add_sum _ _ _ (by rw [ByteArray.size_append, ByteArray.size_append, z1, z2]; omega)
      have hq4 : ∀ W : World, (Op.stringOp .add (eu ++ ⟨#[Um.bt 1]⟩ ++ ⟨#[Um.bt s.mn.k]⟩ ++ tmn) tmx).run Tryz.prog W = .ok (.string (eu ++ ⟨#[Um.bt 1]⟩ ++ ⟨#[Um.bt s.mn.k]⟩ ++ tmn ++ tmx)) W := fun W => run_string_add_sum _ _ _ (by rw [ByteArray.size_append, ByteArray.size_append, ByteArray.size_append, z1, z2]; omega)
      clear z1 z2 htN htX htn htx HPN HPX HTx hf ho1 ho2 hk2 hr1 hr2 HT HEu hzn hzx hsn hsx hz4
      go_wp2_with fail
      refine Calls.mono (HPmn.out _ _ (heap_alloc_new w3 _)) ?_
      rintro e w4 ⟨rfl, hb4⟩
      have HB4 : Hid (Below w0.heap.size w0 w4) := (by have h1 : Below w0.heap.size w0 (w3.alloc (.cells #[.int .i64 s.mn.k, .int .i64 s.mn.n, .string s.mn.s] 45)) := HB3.out.alloc HB3.out.size _; exact h1.trans (hb4.mono h1.size))
      clear s0 s1 s2 s3 s4 s5 s6 s7 s8 hb4 HB3
      obtain ⟨s0, s1, s2, s3, s4, s5, s6, s7, s8⟩ := (HN.out w4 HB4.out).1
      go_wp2_with fail
      refine Calls.mono (HPmx.out _ _ (heap_alloc_new w4 _)) ?_
      rintro e w5 ⟨rfl, hb5⟩
      have HB5 : Hid (Below w0.heap.size w0 w5) := (by have h1 : Below w0.heap.size w0 (w4.alloc (.cells #[.int .i64 s.mx.k, .int .i64 s.mx.n, .string s.mx.s] 45)) := HB4.out.alloc HB4.out.size _; exact h1.trans (hb5.mono h1.size))
      clear s0 s1 s2 s3 s4 s5 s6 s7 s8 hb5 HB4
      go_wp2_with fail
      refine Calls.mono (HBy.out _) ?_
      rintro e w6 ⟨rfl, hb6⟩
      have HB6 : Hid (Below w0.heap.size w0 w6) := HB5.out.trans (hb6.mono HB5.out.size)
      clear hb6 HB5
      go_wp2_with fail
      refine Calls.mono (HBk.out _) ?_
      rintro e w7 ⟨rfl, hb7⟩
      have HB7 : Hid (Below w0.heap.size w0 w7) := HB6.out.trans (hb7.mono HB6.out.size)
      clear hb7 HB6
      go_wp2_with fail
      refine Calls.mono (HTn.out _) ?_
      rintro e w8 ⟨rfl, hb8⟩
      have HB8 : Hid (Below w0.heap.size w0 w8) := HB7.out.trans (hb8.mono HB7.out.size)
      clear hb8 HB7
      go_wp2_with fail
      refine Calls.mono (HTm.out _) ?_
      rintro e w9 ⟨rfl, hb9⟩
      have HB9 : Hid (Below w0.heap.size w0 w9) := HB8.out.trans (hb9.mono HB8.out.size)
      clear hb9 HB8
      go_wp2
      go_ret
      rw [HSv.out]
      exact ⟨rfl, HB.out.trans (HB9.out.mono HB.out.size)⟩
end Go.Proofs.YtjcmnngaecoddaaGreatDoor
