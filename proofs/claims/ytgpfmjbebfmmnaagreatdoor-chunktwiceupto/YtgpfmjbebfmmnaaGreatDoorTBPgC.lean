/-
  stats.Text of stats whose values are right ones.
  page.checkLeaf: whether a leaf is one.
  The closure of chunk.Marks.
  chunk.lay: exact.
-/
import Derived.Test.YtgpfmjbebfmmnaaGreatDoorTBBase
import Derived.Test.YtgpfmjbebfmmnaaGreatDoorTPgB
import Derived.Test.YtgpfmjbebfmmnaaGreatDoorTBStBase
import Derived.Test.YtgpfmjbebfmmnaaGreatDoorTBMapV
import Derived.Test.YtgpfmjbebfmmnaaGreatDoorTBColS
import Derived.Deep.DeepCutAuto
import Derived.Deep.RegionHeld3
import Derived.Deep.RegionLaw
namespace Go.Proofs.YtgpfmjbebfmmnaaGreatDoor
open Go.RowKit
/-- What stands behind both numbers. -/
def stV (s : St) : List UInt8 := if s.h = true then [1, Um.bt s.mn.k] ++ Um.txt (plainB s.mn.k [s.mn]) ++ Um.txt (plainB s.mn.k [s.mx]) else [0]
/-- Stats as bytes. -/
def stTx (s : St) : List UInt8 := Um.uv s.e.toNat ++ Um.uv s.u.toNat ++ stV s
/-- Values that can be written. -/
structure St.Fit (s : St) : Prop where
  k1 : 1 ≤ s.mn.k
  k5 : s.mn.k ≤ 5
  ok : s.mn.Ok s.mn.k
  ok2 : s.mx.Ok s.mn.k
  in1 : s.mn.In
  in2 : s.mx.In
theorem boxed1 (W : World) (c1 : Array Value) (t1 : TypeId) : ∃ w0, Hid (W.alloc (.cells c1 t1) = w0) ∧ Hid (w0.heap[W.heap.size]? = some (.cells c1 t1 (0, 0))) ∧ Hid (Below W.heap.size W w0) := ⟨_, rfl, heap_alloc_new W _, (Below.refl _ _).alloc (Nat.le_refl _) _⟩
theorem liesV_one {X : World} {g : Nat} {v : Vl} {t : TypeId} (h : X.heap[g]? = some (.cells #[.int .i64 v.k, .int .i64 v.n, .string v.s] t (0, 0))) : LiesV X (some ⟨g, 0, none⟩) [v] := fun j hj => by
  obtain rfl : j = 0 := by simp at hj; exact hj
  obtain ⟨h0, h1, h2⟩ := row_three h
  exact ⟨g, 0, rfl, h0, h1, h2⟩
theorem conv_two {w : World} {g : Nat} {n m : Int} (h : w.heap[g]? = some (.cells #[.int .u8 n, .int .u8 m] 5 (0, 0))) :
    (convert 67 9 (.slice (some ⟨g, 0, none⟩) 2 2)).run Tryz.prog w = .ok (.string ⟨#[Um.bt n, Um.bt m]⟩) w := by
  refine run_convert_bytes_arg w 67 5 Tryz.underlying67 Tryz.underlying5 g 0 2 2 [n, m] rfl ?_ 9 Tryz.underlying9
  intro i hi
  have : i = 0 ∨ i = 1 := by omega
  rcases this with rfl | rfl <;> simp [World.cell?, h]
set_option maxRecDepth 100000 in
theorem valuesText_none (s : St) (hh : s.h = false) (W : World) : Calls Tryz.prog 121 #[s.val] W fun e w' => e = .returned (.string ⟨(stV s).toArray⟩) ∧ Below W.heap.size W w' := by
  have HT : Hid (stV s = [0]) := by show _ = _; unfold stV; rw [if_neg (by rw [hh]; simp)]
  obtain ⟨w0, HW0, HX, HB⟩ := boxed1 W s.cs 54
  have hst := (st_row HX.out).1
  rw [hh] at hst
  obtain ⟨s0, s1, s2, s3, s4, s5, s6, s7, s8⟩ := hst
  have hc0 : ∀ X : World, (convert 67 9 (.slice (some ⟨X.heap.size, 0, none⟩) 1 1)).run Tryz.prog (X.alloc (.cells #[.int .u8 0] 5)) = .ok (.string ⟨#[0]⟩) (X.alloc (.cells #[.int .u8 0] 5)) := fun X => conv_one (n := 0) (heap_alloc_new X _)
  unfold St.val
  unfold St.cs at HW0 HX ⊢
  rw [hh] at HW0 ⊢
  go_enter Tryz.func121, Tryz.ntmps121
  go_upto_region 1 with fail
  rw [HW0.out]
  go_upto_region 2 with fail
  obtain ⟨w1, HW1⟩ : ∃ w1, Hid (w0.alloc (.cells #[.int .u8 0] 5) = w1) := ⟨_, rfl⟩
  have b1 : Below w0.heap.size w0 w1 := by rw [← HW1.out]; exact (Below.refl _ _).alloc (Nat.le_refl _) _
  rw [HW1.out]
  have HB1 : Hid _ := b1
  clear hc0 HW1
  replace s2 := (b1.cell (World.block_lt_of_cell? _ _ s2)).trans s2
  clear b1 s0 s1 s3 s4 s5 s6 s7 s8
  go_wp2
  go_ret
  rw [HT.out]
  exact ⟨rfl, HB.out.trans (HB1.out.mono HB.out.size)⟩
set_option maxRecDepth 100000 in
set_option maxHeartbeats 6400000 in
theorem valuesText_some (s : St) (hh : s.h = true) (hf : s.Fit) (W : World) (kt st : TypeId) (kp sp : Value) (hgk : W.cell? ⟨3, 0, none⟩ = some (.iface kt kp)) (hgs : W.cell? ⟨0, 0, none⟩ = some (.iface st sp)) : Calls Tryz.prog 121 #[s.val] W fun e w' => e = .returned (.string ⟨(stV s).toArray⟩) ∧ Below W.heap.size W w' := by
  have HK : Hid (1 ≤ s.mn.k ∧ s.mn.k ≤ 5) := ⟨hf.k1, hf.k5⟩
  obtain ⟨w0, HW0, HX, HB⟩ := boxed1 W s.cs 54
  have HGK : Hid (∀ X, Below w0.heap.size w0 X → X.cell? ⟨3, 0, none⟩ = some (.iface kt kp)) := fun X hX => ((HB.out.trans (hX.mono HB.out.size)).cell (World.block_lt_of_cell? W _ hgk)).trans hgk
  have HGS : Hid (∀ X, Below w0.heap.size w0 X → X.cell? ⟨0, 0, none⟩ = some (.iface st sp)) := fun X hX => ((HB.out.trans (hX.mono HB.out.size)).cell (World.block_lt_of_cell? W _ hgs)).trans hgs
  have HN : Hid (∀ X, Below w0.heap.size w0 X → (X.cell? ⟨W.heap.size, 0, none⟩ = some (.int .i64 s.e) ∧ X.cell? ⟨W.heap.size, 1, none⟩ = some (.int .i64 s.u) ∧ X.cell? ⟨W.heap.size, 2, none⟩ = some (.bool true) ∧ X.cell? ⟨W.heap.size, 3, none⟩ = some (.int .i64 s.mn.k) ∧ X.cell? ⟨W.heap.size, 4, none⟩ = some (.int .i64 s.mn.n) ∧ X.cell? ⟨W.heap.size, 5, none⟩ = some (.string s.mn.s) ∧ X.cell? ⟨W.heap.size, 6, none⟩ = some (.int .i64 s.mx.k) ∧ X.cell? ⟨W.heap.size, 7, none⟩ = some (.int .i64 s.mx.n) ∧ X.cell? ⟨W.heap.size, 8, none⟩ = some (.string s.mx.s)) ∧ Below w0.heap.size w0 X) := fun X hX => (by
    have h := (st_row (blk_keep hX HX.out)).1
    rw [hh] at h
    exact ⟨h, hX⟩)
  have HKd : Hid (∀ X, Below w0.heap.size w0 X → Calls Tryz.prog 158 #[.agg #[.int .i64 s.e, .int .i64 s.u, .bool true, .int .i64 s.mn.k, .int .i64 s.mn.n, .string s.mn.s, .int .i64 s.mx.k, .int .i64 s.mx.n, .string s.mx.s]] X fun e w' => e = .returned (.int .i64 s.mn.k) ∧ Below w0.heap.size w0 w' ∧ Below X.heap.size X w') := fun X hX => (by
    have h := kindS_any s X
    unfold St.val St.cs at h
    rw [hh] at h
    exact h.mono fun _ _ h => ⟨h.1, hX.trans (h.2.mono hX.size), h.2⟩)
  obtain ⟨pmn, HPN⟩ : ∃ p, Hid ((⟨(plainB s.mn.k [s.mn]).toArray⟩ : ByteArray) = p) := ⟨_, rfl⟩
  obtain ⟨pmx, HPX⟩ : ∃ p, Hid ((⟨(plainB s.mn.k [s.mx]).toArray⟩ : ByteArray) = p) := ⟨_, rfl⟩
  have hzn : pmn.size ≤ 118 := by
    have h := plainB_len (kd := s.mn.k) (vs := [s.mn]) ⟨⟨hf.k1, hf.k5⟩, fun v hv => by rw [List.mem_singleton] at hv; subst hv; exact ⟨hf.ok, hf.in1⟩⟩
    rw [← HPN.out]; simpa [ByteArray.size] using h
  have hzx : pmx.size ≤ 118 := by
    have h := plainB_len (kd := s.mn.k) (vs := [s.mx]) ⟨⟨hf.k1, hf.k5⟩, fun v hv => by rw [List.mem_singleton] at hv; subst hv; exact ⟨hf.ok2, hf.in2⟩⟩
    rw [← HPX.out]; simpa [ByteArray.size] using h
  have HPmn : Hid (∀ X g, Below w0.heap.size w0 X → X.heap[g]? = some (.cells #[.int .i64 s.mn.k, .int .i64 s.mn.n, .string s.mn.s] 52 (0, 0)) → Calls Tryz.prog 113 #[.int .i64 s.mn.k, .slice (some ⟨g, 0, none⟩) 1 1] X fun e w' => e = .returned (.tuple #[.string pmn, .nilIface]) ∧ Below w0.heap.size w0 w') := fun X g hX hg => (by
    rw [← HPN.out]
    exact (plain_right (some ⟨g, 0, none⟩) [s.mn] 1 s.mn.k X kt st kp sp (HGK.out X hX) (HGS.out X hX) (by simp) hf.k1 hf.k5 (liesV_one hg) (fun j h => by obtain rfl : j = 0 := (by simp at h; exact h); exact hf.ok) (fun j h => by obtain rfl : j = 0 := (by simp at h; exact h); exact hf.in1.2.1)).mono fun _ _ h => ⟨h.1, hX.trans (h.2.mono hX.size)⟩)
  have HPmx : Hid (∀ X g, Below w0.heap.size w0 X → X.heap[g]? = some (.cells #[.int .i64 s.mx.k, .int .i64 s.mx.n, .string s.mx.s] 52 (0, 0)) → Calls Tryz.prog 113 #[.int .i64 s.mn.k, .slice (some ⟨g, 0, none⟩) 1 1] X fun e w' => e = .returned (.tuple #[.string pmx, .nilIface]) ∧ Below w0.heap.size w0 w') := fun X g hX hg => (by
    rw [← HPX.out]
    exact (plain_right (some ⟨g, 0, none⟩) [s.mx] 1 s.mn.k X kt st kp sp (HGK.out X hX) (HGS.out X hX) (by simp) hf.k1 hf.k5 (liesV_one hg) (fun j h => by obtain rfl : j = 0 := (by simp at h; exact h); exact hf.ok2) (fun j h => by obtain rfl : j = 0 := (by simp at h; exact h); exact hf.in2.2.1)).mono fun _ _ h => ⟨h.1, hX.trans (h.2.mono hX.size)⟩)
  have HTx : Hid (∀ p : ByteArray, p.size ≤ 118 → ∃ t : ByteArray, (⟨(Um.uv p.size).toArray⟩ : ByteArray) ++ p = t ∧ t.size ≤ 128 ∧ ∀ X, Below w0.heap.size w0 X → Calls Tryz.prog 76 #[.string p] X fun e w' => e = .returned (.string t) ∧ Below w0.heap.size w0 w' ∧ Below X.heap.size X w') := fun p hp => ⟨_, rfl, by have := Um.uv_ten (n := p.size) (by omega); rw [ByteArray.size_append]; show (Um.uv p.size).toArray.size + p.size ≤ 128; rw [List.size_toArray]; omega, fun X hX => (text_any p X (by omega)).mono fun _ _ h => ⟨h.1, hX.trans (h.2.mono hX.size), h.2⟩⟩
  obtain ⟨tmn, htn, hsn, htN⟩ := HTx.out pmn hzn
  obtain ⟨tmx, htx, hsx, htX⟩ := HTx.out pmx hzx
  have HTn : Hid _ := htN
  have HTm : Hid _ := htX
  have HSv : Hid ((⟨#[1, Um.bt s.mn.k]⟩ : ByteArray) ++ tmn ++ tmx = ⟨(stV s).toArray⟩) := by
    show _ = _
    unfold stV
    rw [if_pos hh, ← htn, ← htx, ← HPN.out, ← HPX.out, txt_arr, txt_arr, show (⟨#[1, Um.bt s.mn.k]⟩ : ByteArray) = ⟨[1, Um.bt s.mn.k].toArray⟩ from rfl, arr_app, arr_app]
  obtain ⟨s0, s1, s2, s3, s4, s5, s6, s7, s8⟩ := (HN.out w0 (Below.refl _ _)).1
  have hc0 : ∀ X : World, (convert 67 9 (.slice (some ⟨X.heap.size, 0, none⟩) 1 1)).run Tryz.prog (X.alloc (.cells #[.int .u8 0] 5)) = .ok (.string ⟨#[0]⟩) (X.alloc (.cells #[.int .u8 0] 5)) := fun X => conv_one (n := 0) (heap_alloc_new X _)
  clear htN htX htn htx HPN HPX HTx hf
  unfold St.val
  unfold St.cs at HW0 HX ⊢
  rw [hh] at HW0 ⊢
  go_enter Tryz.func121, Tryz.ntmps121
  go_upto_region 1 with fail
  rw [HW0.out]
  go_upto_region 2 with fail
  obtain ⟨w1, HW1⟩ : ∃ w1, Hid (w0.alloc (.cells #[.int .u8 0] 5) = w1) := ⟨_, rfl⟩
  have b1 : Below w0.heap.size w0 w1 := by rw [← HW1.out]; exact (Below.refl _ _).alloc (Nat.le_refl _) _
  rw [HW1.out]
  have HB1 : Hid _ := b1
  clear s0 s1 s2 s3 s4 s5 s6 s7 s8 hc0 HW1
  obtain ⟨s0, s1, s2, s3, s4, s5, s6, s7, s8⟩ := (HN.out w1 b1).1
  clear b1
  go_wp2_with fail
  go_cut [4, 5] (fun x y wx => x = .string pmn ∧ y = .nilIface ∧ Hid (Below w0.heap.size w0 wx))
  case first =>
    have b0 : Below w0.heap.size w0 w1 := HB1.out
    go_region_held3 (fun X => (X.cell? ⟨W.heap.size, 0, none⟩ = some (.int .i64 s.e) ∧ X.cell? ⟨W.heap.size, 1, none⟩ = some (.int .i64 s.u) ∧ X.cell? ⟨W.heap.size, 2, none⟩ = some (.bool true) ∧ X.cell? ⟨W.heap.size, 3, none⟩ = some (.int .i64 s.mn.k) ∧ X.cell? ⟨W.heap.size, 4, none⟩ = some (.int .i64 s.mn.n) ∧ X.cell? ⟨W.heap.size, 5, none⟩ = some (.string s.mn.s) ∧ X.cell? ⟨W.heap.size, 6, none⟩ = some (.int .i64 s.mx.k) ∧ X.cell? ⟨W.heap.size, 7, none⟩ = some (.int .i64 s.mx.n) ∧ X.cell? ⟨W.heap.size, 8, none⟩ = some (.string s.mx.s)) ∧ Below w0.heap.size w0 X) (with_reducible refine HN.out _ ?_; repeat' (first | with_reducible assumption | with_reducible exact b0.drew | with_reducible exact b0 | with_reducible refine Below.drew ?_ | with_reducible exact Nat.le_refl _ | with_reducible refine Below.setCell ?_ ?_ _ | with_reducible refine Below.alloc ?_ ?_ _ | with_reducible exact Below.size (by assumption) | (simp; done) | (simp; omega) | omega)) (first
      | (go_at_call 158; (with_reducible refine Calls.mono (HKd.out _ ?_) ?_); (repeat' (first | with_reducible assumption | with_reducible exact b0.drew | with_reducible exact b0 | with_reducible refine Below.drew ?_ | with_reducible refine Below.alloc ?_ ?_ _ | with_reducible exact Below.size (by assumption) | with_reducible exact Nat.le_refl _ | (simp; done) | (simp; omega))); rintro e x1 ⟨rfl, hbx1, hraw1⟩; (first | (have hzz0 := blk_keep hraw1 (blk_drw (heap_alloc_new _ (.cells #[.int .i64 s.mn.k, .int .i64 s.mn.n, .string s.mn.s] 52)))) | (have hzz0 := blk_keep hraw1 (heap_alloc_new _ (.cells #[.int .i64 s.mn.k, .int .i64 s.mn.n, .string s.mn.s] 52))) | skip))
      | (go_at_call 113; (with_reducible refine Calls.mono (HPmn.out _ _ ?_ ?_) ?_); (repeat' (first | with_reducible assumption | with_reducible exact b0.drew | with_reducible exact b0 | with_reducible refine Below.drew ?_ | with_reducible refine Below.alloc ?_ ?_ _ | with_reducible exact Below.size (by assumption) | with_reducible exact Nat.le_refl _ | (simp; done) | (simp; omega))); (try (first | exact hzz0 | exact heap_alloc_new _ _ | exact blk_drw (heap_alloc_new _ _))); rintro e x2 ⟨rfl, hbx2⟩))
    all_goals (have HBX : Hid _ := hbx2; go_wp2_with fail; go_meet; exact ⟨rfl, rfl, HBX.out⟩)
  case rest =>
    obtain ⟨rfl, rfl, HB4⟩ := hcut
    rename World => w4
    clear s0 s1 s2 s3 s4 s5 s6 s7 s8 HB1
    obtain ⟨s0, s1, s2, s3, s4, s5, s6, s7, s8⟩ := (HN.out w4 HB4.out).1
    go_wp2_with fail
    go_cut [6, 5] (fun x y wx => x = .string pmx ∧ y = .nilIface ∧ Hid (Below w0.heap.size w0 wx))
    case first =>
      have b0 : Below w0.heap.size w0 w4 := HB4.out
      go_region_held3 (fun X => (X.cell? ⟨W.heap.size, 0, none⟩ = some (.int .i64 s.e) ∧ X.cell? ⟨W.heap.size, 1, none⟩ = some (.int .i64 s.u) ∧ X.cell? ⟨W.heap.size, 2, none⟩ = some (.bool true) ∧ X.cell? ⟨W.heap.size, 3, none⟩ = some (.int .i64 s.mn.k) ∧ X.cell? ⟨W.heap.size, 4, none⟩ = some (.int .i64 s.mn.n) ∧ X.cell? ⟨W.heap.size, 5, none⟩ = some (.string s.mn.s) ∧ X.cell? ⟨W.heap.size, 6, none⟩ = some (.int .i64 s.mx.k) ∧ X.cell? ⟨W.heap.size, 7, none⟩ = some (.int .i64 s.mx.n) ∧ X.cell? ⟨W.heap.size, 8, none⟩ = some (.string s.mx.s)) ∧ Below w0.heap.size w0 X) (with_reducible refine HN.out _ ?_; repeat' (first | with_reducible assumption | with_reducible exact b0.drew | with_reducible exact b0 | with_reducible refine Below.drew ?_ | with_reducible exact Nat.le_refl _ | with_reducible refine Below.setCell ?_ ?_ _ | with_reducible refine Below.alloc ?_ ?_ _ | with_reducible exact Below.size (by assumption) | (simp; done) | (simp; omega) | omega)) (first
        | (go_at_call 158; (with_reducible refine Calls.mono (HKd.out _ ?_) ?_); (repeat' (first | with_reducible assumption | with_reducible exact b0.drew | with_reducible exact b0 | with_reducible refine Below.drew ?_ | with_reducible refine Below.alloc ?_ ?_ _ | with_reducible exact Below.size (by assumption) | with_reducible exact Nat.le_refl _ | (simp; done) | (simp; omega))); rintro e x1 ⟨rfl, hbx1, hraw1⟩; (first | (have hzz0 := blk_keep hraw1 (blk_drw (heap_alloc_new _ (.cells #[.int .i64 s.mx.k, .int .i64 s.mx.n, .string s.mx.s] 52)))) | (have hzz0 := blk_keep hraw1 (heap_alloc_new _ (.cells #[.int .i64 s.mx.k, .int .i64 s.mx.n, .string s.mx.s] 52))) | skip))
        | (go_at_call 113; (with_reducible refine Calls.mono (HPmx.out _ _ ?_ ?_) ?_); (repeat' (first | with_reducible assumption | with_reducible exact b0.drew | with_reducible exact b0 | with_reducible refine Below.drew ?_ | with_reducible refine Below.alloc ?_ ?_ _ | with_reducible exact Below.size (by assumption) | with_reducible exact Nat.le_refl _ | (simp; done) | (simp; omega))); (try (first | exact hzz0 | exact heap_alloc_new _ _ | exact blk_drw (heap_alloc_new _ _))); rintro e x2 ⟨rfl, hbx2⟩))
      all_goals (have HBX : Hid _ := hbx2; go_wp2_with fail; go_meet; exact ⟨rfl, rfl, HBX.out⟩)
    case rest =>
      obtain ⟨rfl, rfl, HB7⟩ := hcut
      rename World => w7
      clear s0 s1 s2 s3 s4 s5 s6 s7 s8 HB4
      obtain ⟨s0, s1, s2, s3, s4, s5, s6, s7, s8⟩ := (HN.out w7 HB7.out).1
      go_wp2_with fail
      have hwr : IntKind.u8.wrap s.mn.k = s.mn.k := (by have := HK.out; unfold IntKind.wrap IntKind.signed IntKind.bits; simp; omega)
      have hc0 : ∀ X : World, (convert 67 9 (.slice (some ⟨X.heap.size, 0, none⟩) 2 2)).run Tryz.prog (X.alloc (.cells #[.int .u8 1, .int .u8 s.mn.k] 5)) = .ok (.string ⟨#[Um.bt 1, Um.bt s.mn.k]⟩) (X.alloc (.cells #[.int .u8 1, .int .u8 s.mn.k] 5)) := fun X => conv_two (heap_alloc_new X _)
      have hc1 : ∀ X : World, (convert 67 9 (.slice (some ⟨X.heap.size, 0, none⟩) 2 2)).run Tryz.prog (X.alloc (.cells #[.int .u8 1, .int .u8 s.mn.k] 5)).drew = .ok (.string ⟨#[Um.bt 1, Um.bt s.mn.k]⟩) (X.alloc (.cells #[.int .u8 1, .int .u8 s.mn.k] 5)).drew := fun X => conv_two (blk_drw (heap_alloc_new X _))
      have b0 : Below w0.heap.size w0 w7 := HB7.out
      go_region_with (first
        | (go_at_call 158; (with_reducible refine Calls.mono (HKd.out _ ?_) ?_); (repeat' (first | with_reducible assumption | with_reducible exact b0.drew | with_reducible exact b0 | with_reducible refine Below.drew ?_ | with_reducible refine Below.alloc ?_ ?_ _ | with_reducible exact Below.size (by assumption) | with_reducible exact Nat.le_refl _ | (simp; done) | (simp; omega))); rintro e x1 ⟨rfl, hbx1, hraw1⟩; (first | (have hzz := blk_keep hraw1 hzz0; clear hzz0; have hzz0 := hzz; clear hzz) | (have hzz0 := blk_keep hraw1 (blk_drw (heap_alloc_new _ (.cells #[.int .u8 1, .int .u8 s.mn.k] 5)))) | (have hzz0 := blk_keep hraw1 (heap_alloc_new _ (.cells #[.int .u8 1, .int .u8 s.mn.k] 5))) | skip); (try (have hcz := conv_two hzz0)))
        | (go_at_call 76; (with_reducible refine Calls.mono (HTn.out _ ?_) ?_); (repeat' (first | with_reducible assumption | with_reducible exact b0.drew | with_reducible exact b0 | with_reducible refine Below.drew ?_ | with_reducible refine Below.alloc ?_ ?_ _ | with_reducible exact Below.size (by assumption) | with_reducible exact Nat.le_refl _ | (simp; done) | (simp; omega))); rintro e x2 ⟨rfl, hbx2, hraw2⟩; (first | (have hzz := blk_keep hraw2 hzz0; clear hzz0; have hzz0 := hzz; clear hzz) | (have hzz0 := blk_keep hraw2 (blk_drw (heap_alloc_new _ (.cells #[.int .u8 1, .int .u8 s.mn.k] 5)))) | (have hzz0 := blk_keep hraw2 (heap_alloc_new _ (.cells #[.int .u8 1, .int .u8 s.mn.k] 5))) | skip); (try (have hcz := conv_two hzz0)))
        | (go_at_call 76; (with_reducible refine Calls.mono (HTm.out _ ?_) ?_); (repeat' (first | with_reducible assumption | with_reducible exact b0.drew | with_reducible exact b0 | with_reducible refine Below.drew ?_ | with_reducible refine Below.alloc ?_ ?_ _ | with_reducible exact Below.size (by assumption) | with_reducible exact Nat.le_refl _ | (simp; done) | (simp; omega))); rintro e x3 ⟨rfl, hbx3, hraw3⟩; (first | (have hzz := blk_keep hraw3 hzz0; clear hzz0; have hzz0 := hzz; clear hzz) | (have hzz0 := blk_keep hraw3 (blk_drw (heap_alloc_new _ (.cells #[.int .u8 1, .int .u8 s.mn.k] 5)))) | (have hzz0 := blk_keep hraw3 (heap_alloc_new _ (.cells #[.int .u8 1, .int .u8 s.mn.k] 5))) | skip); (try (have hcz := conv_two hzz0))))
      all_goals (have HBX : Hid _ := hbx3; clear hbx1 hbx2 hbx3 hraw1 hraw2 hraw3 b0 hc0 hc1; (try clear hcz); (try clear hzz0); go_wp2; go_ret; rw [← HSv.out]; refine ⟨rfl, HB.out.trans (Below.mono (B := w0.heap.size) ?_ HB.out.size)⟩; first | exact HBX.out | exact HBX.out.alloc HBX.out.size _ | exact (HBX.out.alloc HBX.out.size _).drew)
theorem valuesText_any (s : St) (hf : s.h = true → s.Fit) (W : World) (kt st : TypeId) (kp sp : Value) (hgk : W.cell? ⟨3, 0, none⟩ = some (.iface kt kp)) (hgs : W.cell? ⟨0, 0, none⟩ = some (.iface st sp)) : Calls Tryz.prog 121 #[s.val] W fun e w' => e = .returned (.string ⟨(stV s).toArray⟩) ∧ Below W.heap.size W w' := by
  cases hh : s.h with
  | false => exact valuesText_none s hh W
  | true => exact valuesText_some s hh (hf hh) W kt st kp sp hgk hgs
theorem stV_len (s : St) (hf : s.h = true → s.Fit) : (stV s).length ≤ 258 := by
  unfold stV
  split
  · rename_i hh
    have hf := hf hh
    have h1 := plainB_len (kd := s.mn.k) (vs := [s.mn]) ⟨⟨hf.k1, hf.k5⟩, fun v hv => by rw [List.mem_singleton] at hv; subst hv; exact ⟨hf.ok, hf.in1⟩⟩
    have h2 := plainB_len (kd := s.mn.k) (vs := [s.mx]) ⟨⟨hf.k1, hf.k5⟩, fun v hv => by rw [List.mem_singleton] at hv; subst hv; exact ⟨hf.ok2, hf.in2⟩⟩
    simp only [List.length_cons, List.length_nil] at h1 h2
    have h3 := Um.txt_len (plainB s.mn.k [s.mn]) (by omega)
    have h4 := Um.txt_len (plainB s.mn.k [s.mx]) (by omega)
    simp only [List.length_append, List.length_cons, List.length_nil]
    omega
  · simp
theorem stTx_len (s : St) (hf : s.h = true → s.Fit) (he : s.e ≤ 9223372036854775807) (hu : s.u ≤ 9223372036854775807) : (stTx s).length ≤ 278 := by
  have h1 := stV_len s hf
  have h2 := Um.uv_ten (n := s.e.toNat) (by omega)
  have h3 := Um.uv_ten (n := s.u.toNat) (by omega)
  unfold stTx
  simp only [List.length_append]
  omega
set_option maxRecDepth 100000 in
set_option maxHeartbeats 6400000 in
theorem stText_any (s : St) (hf : s.h = true → s.Fit) (he : 0 ≤ s.e ∧ s.e ≤ 9223372036854775807) (hu : 0 ≤ s.u ∧ s.u ≤ 9223372036854775807) (W : World) (kt st : TypeId) (kp sp : Value) (hgk : W.cell? ⟨3, 0, none⟩ = some (.iface kt kp)) (hgs : W.cell? ⟨0, 0, none⟩ = some (.iface st sp)) : Calls Tryz.prog 75 #[s.val] W fun e w' => e = .returned (.string ⟨(stTx s).toArray⟩) ∧ Below W.heap.size W w' := by
  have hvl := stV_len s hf
  have hle := Um.uv_ten (n := s.e.toNat) (by omega)
  have hlu := Um.uv_ten (n := s.u.toNat) (by omega)
  obtain ⟨w0, HW0, HX, HB⟩ := boxed1 W s.cs 54
  obtain ⟨vt, HVt⟩ : ∃ p, Hid ((⟨(stV s).toArray⟩ : ByteArray) = p) := ⟨_, rfl⟩
  obtain ⟨et, HEt⟩ : ∃ p, Hid ((⟨(Um.uv s.e.toNat).toArray⟩ : ByteArray) = p) := ⟨_, rfl⟩
  obtain ⟨ut, HUt⟩ : ∃ p, Hid ((⟨(Um.uv s.u.toNat).toArray⟩ : ByteArray) = p) := ⟨_, rfl⟩
  have hz1 : vt.size ≤ 258 := by rw [← HVt.out]; simpa [ByteArray.size] using hvl
  have hz2 : et.size ≤ 10 := by rw [← HEt.out]; simpa [ByteArray.size] using hle
  have hz3 : ut.size ≤ 10 := by rw [← HUt.out]; simpa [ByteArray.size] using hlu
  have HSt : Hid (et ++ ut ++ vt = ⟨(stTx s).toArray⟩) := by show _ = _; rw [← HVt.out, ← HEt.out, ← HUt.out, arr_app, arr_app]; rfl
  have HN : Hid (∀ X, Below w0.heap.size w0 X → (X.cell? ⟨W.heap.size, 0, none⟩ = some (.int .i64 s.e) ∧ X.cell? ⟨W.heap.size, 1, none⟩ = some (.int .i64 s.u) ∧ X.cell? ⟨W.heap.size, 2, none⟩ = some (.bool s.h) ∧ X.cell? ⟨W.heap.size, 3, none⟩ = some (.int .i64 s.mn.k) ∧ X.cell? ⟨W.heap.size, 4, none⟩ = some (.int .i64 s.mn.n) ∧ X.cell? ⟨W.heap.size, 5, none⟩ = some (.string s.mn.s) ∧ X.cell? ⟨W.heap.size, 6, none⟩ = some (.int .i64 s.mx.k) ∧ X.cell? ⟨W.heap.size, 7, none⟩ = some (.int .i64 s.mx.n) ∧ X.cell? ⟨W.heap.size, 8, none⟩ = some (.string s.mx.s)) ∧ Below w0.heap.size w0 X) := fun X hX => ⟨(st_row (blk_keep hX HX.out)).1, hX⟩
  have HCe : Hid (∀ X, Below w0.heap.size w0 X → Calls Tryz.prog 120 #[.int .i64 s.e] X fun e w' => e = .returned (.string et) ∧ Below w0.heap.size w0 w') := fun X hX => (by
    have h := countText_any s.e.toNat X (by omega)
    rw [Int.toNat_of_nonneg he.1, HEt.out] at h
    exact h.mono fun _ _ h => ⟨h.1, hX.trans (h.2.mono hX.size)⟩)
  have HCu : Hid (∀ X, Below w0.heap.size w0 X → Calls Tryz.prog 120 #[.int .i64 s.u] X fun e w' => e = .returned (.string ut) ∧ Below w0.heap.size w0 w') := fun X hX => (by
    have h := countText_any s.u.toNat X (by omega)
    rw [Int.toNat_of_nonneg hu.1, HUt.out] at h
    exact h.mono fun _ _ h => ⟨h.1, hX.trans (h.2.mono hX.size)⟩)
  have HCv : Hid (∀ X, Below w0.heap.size w0 X → Calls Tryz.prog 121 #[.agg #[.int .i64 s.e, .int .i64 s.u, .bool s.h, .int .i64 s.mn.k, .int .i64 s.mn.n, .string s.mn.s, .int .i64 s.mx.k, .int .i64 s.mx.n, .string s.mx.s]] X fun e w' => e = .returned (.string vt) ∧ Below w0.heap.size w0 w') := fun X hX => (by
    have h := valuesText_any s hf X kt st kp sp (((HB.out.trans (hX.mono HB.out.size)).cell (World.block_lt_of_cell? W _ hgk)).trans hgk) (((HB.out.trans (hX.mono HB.out.size)).cell (World.block_lt_of_cell? W _ hgs)).trans hgs)
    rw [HVt.out] at h
    exact h.mono fun _ _ h => ⟨h.1, hX.trans (h.2.mono hX.size)⟩)
  have hq1 : ∀ W : World, (Op.stringOp .add et ut).run Tryz.prog W = .ok (.string (et ++ ut)) W := fun W => run_string_add_sum _ _ _ (by omega)
  have hq2 : ∀ W : World, (Op.stringOp .add (et ++ ut) vt).run Tryz.prog W = .ok (.string (et ++ ut ++ vt)) W := fun W => run_string_add_sum _ _ _ (by rw [ByteArray.size_append]; omega)
  obtain ⟨s0, s1, s2, s3, s4, s5, s6, s7, s8⟩ := (HN.out w0 (Below.refl _ _)).1
  clear hgk hgs hf he hu hvl hle hlu HVt HEt HUt
  unfold St.val
  unfold St.cs at HW0 HX ⊢
  go_enter Tryz.func75, Tryz.ntmps75
  go_upto_region 1 with fail
  rw [HW0.out]
  have b0 : Below w0.heap.size w0 w0 := Below.refl _ _
  go_region_held3 (fun X => (X.cell? ⟨W.heap.size, 0, none⟩ = some (.int .i64 s.e) ∧ X.cell? ⟨W.heap.size, 1, none⟩ = some (.int .i64 s.u) ∧ X.cell? ⟨W.heap.size, 2, none⟩ = some (.bool s.h) ∧ X.cell? ⟨W.heap.size, 3, none⟩ = some (.int .i64 s.mn.k) ∧ X.cell? ⟨W.heap.size, 4, none⟩ = some (.int .i64 s.mn.n) ∧ X.cell? ⟨W.heap.size, 5, none⟩ = some (.string s.mn.s) ∧ X.cell? ⟨W.heap.size, 6, none⟩ = some (.int .i64 s.mx.k) ∧ X.cell? ⟨W.heap.size, 7, none⟩ = some (.int .i64 s.mx.n) ∧ X.cell? ⟨W.heap.size, 8, none⟩ = some (.string s.mx.s)) ∧ Below w0.heap.size w0 X) (with_reducible refine HN.out _ ?_; repeat' (first | with_reducible assumption | with_reducible exact b0.drew | with_reducible exact b0 | with_reducible refine Below.drew ?_ | with_reducible exact Nat.le_refl _ | with_reducible refine Below.setCell ?_ ?_ _ | with_reducible refine Below.alloc ?_ ?_ _ | with_reducible exact Below.size (by assumption) | (simp; done) | (simp; omega) | omega)) (first
    | (go_at_call 120; (with_reducible refine Calls.mono (HCe.out _ ?_) ?_); (repeat' (first | with_reducible assumption | with_reducible exact b0.drew | with_reducible exact b0 | with_reducible refine Below.drew ?_ | with_reducible refine Below.alloc ?_ ?_ _ | with_reducible exact Below.size (by assumption) | with_reducible exact Nat.le_refl _ | (simp; done) | (simp; omega))); rintro e x1 ⟨rfl, hbx1⟩)
    | (go_at_call 120; (with_reducible refine Calls.mono (HCu.out _ ?_) ?_); (repeat' (first | with_reducible assumption | with_reducible exact b0.drew | with_reducible exact b0 | with_reducible refine Below.drew ?_ | with_reducible refine Below.alloc ?_ ?_ _ | with_reducible exact Below.size (by assumption) | with_reducible exact Nat.le_refl _ | (simp; done) | (simp; omega))); rintro e x2 ⟨rfl, hbx2⟩)
    | (go_at_call 121; (with_reducible refine Calls.mono (HCv.out _ ?_) ?_); (repeat' (first | with_reducible assumption | with_reducible exact b0.drew | with_reducible exact b0 | with_reducible refine Below.drew ?_ | with_reducible refine Below.alloc ?_ ?_ _ | with_reducible exact Below.size (by assumption) | with_reducible exact Nat.le_refl _ | (simp; done) | (simp; omega))); rintro e x3 ⟨rfl, hbx3⟩))
  all_goals (have HBX : Hid _ := hbx3; go_wp2; go_ret; rw [← HSt.out]; exact ⟨rfl, HB.out.trans (HBX.out.mono HB.out.size)⟩)
end Go.Proofs.YtgpfmjbebfmmnaaGreatDoor

namespace Go.Proofs.YtgpfmjbebfmmnaaGreatDoor
open Go.RowKit
def noneC (lid : Int) : Cl := ⟨lid, none, [], 0, none, [], 0, none, [], 0⟩
theorem noneC_fit (lid kind mr md : Int) : (isLfB kind mr md && fitB lid mr md (noneC lid).id (noneC lid).rs (noneC lid).ds (noneC lid).vs.length) = isLfB kind mr md := by
  have : fitB lid mr md (noneC lid).id (noneC lid).rs (noneC lid).ds (noneC lid).vs.length = true := by
    unfold fitB noneC
    simp [headB, cntE]
  rw [this, Bool.and_true]
set_option maxRecDepth 100000 in
set_option maxHeartbeats 3200000 in
theorem pgLeaf_any (lid kind mr md : Int) (pa : Option Addr) (pn pc : Nat) (W : World) (st kt bt : TypeId) (sp kp bp : Value)
    (hs : W.cell? ⟨0, 0, none⟩ = some (.iface st sp)) (hk : W.cell? ⟨3, 0, none⟩ = some (.iface kt kp)) (hbd : W.cell? ⟨1, 0, none⟩ = some (.iface bt bp)) :
    Calls Tryz.prog 130 #[.agg #[.int .i64 lid, .int .i64 kind, .int .i64 mr, .int .i64 md, .slice pa pn pc]] W fun e w' => e = .returned (if isLfB kind mr md = true then .nilIface else .iface st sp) ∧ Below W.heap.size W w' := by
  obtain ⟨w0, HW0, HX, HB⟩ := boxed1 W #[.int .i64 lid, .int .i64 kind, .int .i64 mr, .int .i64 md, .slice pa pn pc] 39
  obtain ⟨⟨p0, p1, p2, p3, p4⟩, _⟩ := row_five HX.out
  have ck : ∀ {g : Nat} {v : Value}, W.cell? ⟨g, 0, none⟩ = some v → w0.cell? ⟨g, 0, none⟩ = some v := fun h => (HB.out.cell (World.block_lt_of_cell? W _ h)).trans h
  have HP : Hid (Calls Tryz.prog 46 #[.agg #[.int .i64 lid, .int .i64 kind, .int .i64 mr, .int .i64 md, .slice pa pn pc], .agg #[.int .i64 lid, .slice none 0 0, .slice none 0 0, .slice none 0 0], .int .i64 0, .int .i64 0] w0 fun e w' => PtRet w0.heap.size lid kind mr md (noneC lid) 0 0 (.iface st sp) (.iface kt kp) (.iface bt bp) e w' ∧ Below w0.heap.size w0 w') := part_any lid kind mr md 0 0 pa pn pc (noneC lid) w0 st kt bt sp kp bp (by simp [noneC]) (by simp [noneC]) (by simp [noneC]) (by simp [noneC]) (by simp [noneC]) (by simp [noneC]) (ck hs) (ck hk) (ck hbd) ⟨fun j h => absurd h (by simp [noneC, i64s]), fun j h => absurd h (by simp [noneC, i64s]), fun j h => absurd h (by simp [noneC])⟩
  clear ck hs hk hbd
  obtain ⟨rv, HRv⟩ : ∃ rv, Hid ((if isLfB kind mr md = true then Value.nilIface else .iface st sp) = rv) := ⟨_, rfl⟩
  rw [HRv.out]
  go_enter Tryz.func130, Tryz.ntmps130
  go_upto_region 1 with fail
  rw [HW0.out]
  go_wp2_with fail
  refine Calls.mono HP.out ?_
  rintro e w1 ⟨hp, hb1⟩
  have HB1 : Hid (∀ o, Below W.heap.size W (w1.alloc o)) := fun o => (HB.out.trans (hb1.mono HB.out.size)).alloc (HB.out.trans (hb1.mono HB.out.size)).size o
  clear hb1 p0 p1 p2 p3 p4
  rcases hp with (⟨h1, rfl⟩ | ⟨_, p, hp, _⟩) | ⟨_, h2, _⟩ | ⟨hg, _, k, a, b, rfl, _⟩
  · rw [noneC_fit] at h1
    have HE : Hid (rv = .iface st sp) := HRv.out.symm.trans (if_neg (by rw [h1]; simp))
    clear h1
    go_wp2
    go_ret
    rw [HE.out]
    exact ⟨rfl, HB1.out _⟩
  · exact absurd hp (by simp [noneC])
  · exact absurd ⟨Int.le_refl 0, Int.le_refl 0, Int.natCast_nonneg _⟩ h2
  · have h1 := hg.1
    rw [noneC_fit] at h1
    have HE : Hid (rv = .nilIface) := HRv.out.symm.trans (if_pos h1)
    clear h1 hg
    go_wp2
    go_ret
    rw [HE.out]
    exact ⟨rfl, HB1.out _⟩
end Go.Proofs.YtgpfmjbebfmmnaaGreatDoor

namespace Go.Proofs.YtgpfmjbebfmmnaaGreatDoor
open Go.RowKit
theorem Tryz.infoMk : (Tryz.prog.info? 56).map (fun i => (i.zero, i.size, i.bytes)) = some (some (.agg #[.int .i64 0, .int .i64 0, .int .i64 0, .int .i64 0, .int .i64 0, .int .i64 0, .bool false, .int .i64 0, .int .i64 0, .string ⟨#[]⟩, .int .i64 0, .int .i64 0, .string ⟨#[]⟩]), 13, 120) := by kernel_rfl
theorem one_mk (m : Mk) : ∀ u ∈ m.cs, u.oneCell' = true := fun u hu => by
  simp only [Mk.cs, List.mem_cons, List.not_mem_nil, or_false] at hu
  rcases hu with rfl | rfl | rfl | rfl | rfl | rfl | rfl | rfl | rfl | rfl | rfl | rfl | rfl <;> rfl
set_option maxRecDepth 100000 in
set_option maxHeartbeats 6400000 in
theorem marks1_any (lid kind mr md : Int) (pa : Option Addr) (pn pc : Nat) (at_ size fst : Int) (gL g1 g2 N : Nat) (lv : Value) (ms : List Mk) (k : Cl) (hn12 : g2 ≠ g1) (hn2L : g2 ≠ gL) (hn1L : g1 ≠ gL) (hgd : GoodC lid kind mr md k) (hin : ∀ v ∈ k.vs, v.Low) (hbk : k.rs.length + k.ds.length + k.vs.length ≤ 2000) (hcap : k.Cap) (hms : ms.length ≤ 100000) (hfs : 0 ≤ fst ∧ fst ≤ 1000000) (W : World) (hI : MkS gL g1 g2 N lid kind mr md pa pn pc fst lv ms W) (hN : N ≤ W.heap.size) (st kt bt : TypeId) (sp kp bp : Value) (hs : W.cell? ⟨0, 0, none⟩ = some (.iface st sp)) (hk : W.cell? ⟨3, 0, none⟩ = some (.iface kt kp)) (hbd : W.cell? ⟨1, 0, none⟩ = some (.iface bt bp)) (hat : k.At W) :
    Calls Tryz.prog 38 #[.int .i64 at_, .int .i64 size, .agg #[.int .i64 k.id, .slice k.ra k.rs.length k.rc, .slice k.da k.ds.length k.dc, .slice k.va k.vs.length k.vc], .pointer (some ⟨gL, 0, none⟩), .pointer (some ⟨g2, 0, none⟩), .pointer (some ⟨g1, 0, none⟩)] W fun e w' => e = .returned .nilIface ∧ (∃ lv', MkS gL g1 g2 N lid kind mr md pa pn pc (fst + (cntE 0 k.rs : Nat)) lv' (ms ++ [⟨at_, size, fst, (cntE 0 k.rs : Nat), ofC k⟩]) w') ∧ MFr g1 g2 N W w' := by
  obtain ⟨im, hmi, hm0, hm1, hm2⟩ := info_parts Tryz.infoMk
  obtain ⟨w0, HW0, HX, HB⟩ := boxed1 W #[.int .i64 k.id, .slice k.ra k.rs.length k.rc, .slice k.da k.ds.length k.dc, .slice k.va k.vs.length k.vc] 27
  have HI0 : Hid (MkS gL g1 g2 N lid kind mr md pa pn pc fst lv ms w0) := hI.keep HB.out
  obtain ⟨s, HSt⟩ : ∃ s, Hid (ofC k = s) := ⟨_, rfl⟩
  have HOf : Hid (Calls Tryz.prog 39 #[.agg #[.int .i64 lid, .int .i64 kind, .int .i64 mr, .int .i64 md, .slice pa pn pc], .agg #[.int .i64 k.id, .slice k.ra k.rs.length k.rc, .slice k.da k.ds.length k.dc, .slice k.va k.vs.length k.vc]] w0 fun e w' => e = .returned (.tuple #[.agg #[.int .i64 s.e, .int .i64 s.u, .bool s.h, .int .i64 s.mn.k, .int .i64 s.mn.n, .string s.mn.s, .int .i64 s.mx.k, .int .i64 s.mx.n, .string s.mx.s], .nilIface]) ∧ Below w0.heap.size w0 w') := (of_any lid kind mr md pa pn pc k w0 st kt bt sp kp bp (by omega) (by omega) (by omega) hcap.1 hcap.2.1 hcap.2.2 (ckB hs HB.out) (ckB hk HB.out) (ckB hbd HB.out) (hat.keep HB.out) hin).mono fun e w' h => (by
    obtain ⟨⟨s', ev, rfl, h2⟩, h3⟩ := h
    refine ⟨?_, h3⟩
    rcases h2 with ⟨h1, _⟩ | ⟨_, p, hp, h1, _⟩ | ⟨_, h1, h2⟩
    · have := hgd.1
      rw [h1] at this
      cases this
    · have := hgd.2 p hp
      rw [h1] at this
      cases this
    · rw [h1, h2, HSt.out]
      rfl)
  have HAT : Hid (k.At w0) := hat.keep HB.out
  have HM0 : Hid (MFr g1 g2 N W w0) := .of_below HB.out
  have hcn : cntE 0 k.rs ≤ k.rs.length := List.length_filter_le _ _
  rw [HSt.out]
  clear hI hs hk hbd hat HB hgd hcap hin
  obtain ⟨⟨p0, p1, p2, p3, p4⟩, _⟩ := row_five HI0.out.lf
  obtain ⟨k0, k1, k2, k3⟩ := row_four HX.out
  go_enter Tryz.func38, Tryz.ntmps38
  go_upto_region 1 with fail
  rw [HW0.out]
  clear HW0
  go_wp2_with fail
  refine Calls.mono HOf.out ?_
  rintro e w1 ⟨rfl, hb1⟩
  have HI1 : Hid (MkS gL g1 g2 N lid kind mr md pa pn pc fst lv ms w1) := HI0.out.keep hb1
  have HX1 : Hid _ := blk_keep hb1 HX.out
  have HA1 : Hid (k.At w1) := HAT.out.keep hb1
  have HM1 : Hid (MFr g1 g2 N W w1) := HM0.out.trans (.of_below hb1)
  have hN1 : N ≤ w1.heap.size := Nat.le_trans hN HM1.out.size
  clear hb1 HX HI0 HAT HM0 HOf p0 p1 p2 p3 p4 k0 k1 k2 k3
  obtain ⟨w2, HW2, HS2, HB2⟩ := boxed1 w1 #[.int .i64 s.e, .int .i64 s.u, .bool s.h, .int .i64 s.mn.k, .int .i64 s.mn.n, .string s.mn.s, .int .i64 s.mx.k, .int .i64 s.mx.n, .string s.mx.s] 54
  have HI2 : Hid (MkS gL g1 g2 N lid kind mr md pa pn pc fst lv ms w2) := HI1.out.keep HB2.out
  have HX2 : Hid _ := blk_keep HB2.out HX1.out
  have HA2 : Hid (k.At w2) := HA1.out.keep HB2.out
  have HM2 : Hid (MFr g1 g2 N W w2) := HM1.out.trans (.of_below HB2.out)
  have hN2 : N ≤ w2.heap.size := Nat.le_trans hN1 HB2.out.size
  have HCt : Hid (∀ X, Below w2.heap.size w2 X → Calls Tryz.prog 40 #[.agg #[.int .i64 k.id, .slice k.ra k.rs.length k.rc, .slice k.da k.ds.length k.dc, .slice k.va k.vs.length k.vc]] X fun e w' => e = .returned (.int .i64 (cntE 0 k.rs : Nat)) ∧ Below w2.heap.size w2 w' ∧ Below X.heap.size X w') := fun X hX => (count_any k.id k.ra k.rs k.rc k.da k.ds.length k.dc k.va k.vs.length k.vc (by omega) X (HA2.out.keep hX).r).mono fun e w' h => ⟨h.1, bel_next hX (Nat.le_refl _) h.2, h.2⟩
  clear HB2 HX1 HA1 HI1 HM1
  go_upto_region 4 with fail
  rw [HW2.out]
  clear HW2
  obtain ⟨c0, _⟩ := row_oneC HI2.out.fc
  obtain ⟨k0, k1, k2, k3⟩ := row_four HX2.out
  obtain ⟨⟨s0, s1, s2, s3, s4, s5, s6, s7, s8⟩, _⟩ := row_nine HS2.out
  go_cut [12] (fun p wx => ∃ h, p = .pointer (some ⟨h, 0, none⟩) ∧ Hid (wx.heap[h]? = some (.cells #[.int .i64 at_, .int .i64 size, .int .i64 fst, .int .i64 (cntE 0 k.rs : Nat), .int .i64 s.e, .int .i64 s.u, .bool s.h, .int .i64 s.mn.k, .int .i64 s.mn.n, .string s.mn.s, .int .i64 s.mx.k, .int .i64 s.mx.n, .string s.mx.s] 56 (0, 0))) ∧ Hid (Below w2.heap.size w2 wx))
  case first =>
    have b0 : Below w2.heap.size w2 w2 := Below.refl _ _
    have HN : Hid (∀ X, Below w2.heap.size w2 X → X.cell? ⟨g2, 0, none⟩ = some (.int .i64 fst) ∧ (X.cell? ⟨W.heap.size, 0, none⟩ = some (.int .i64 k.id) ∧ X.cell? ⟨W.heap.size, 1, none⟩ = some (.slice k.ra k.rs.length k.rc) ∧ X.cell? ⟨W.heap.size, 2, none⟩ = some (.slice k.da k.ds.length k.dc) ∧ X.cell? ⟨W.heap.size, 3, none⟩ = some (.slice k.va k.vs.length k.vc)) ∧ (X.cell? ⟨w1.heap.size, 0, none⟩ = some (.int .i64 s.e) ∧ X.cell? ⟨w1.heap.size, 1, none⟩ = some (.int .i64 s.u) ∧ X.cell? ⟨w1.heap.size, 2, none⟩ = some (.bool s.h) ∧ X.cell? ⟨w1.heap.size, 3, none⟩ = some (.int .i64 s.mn.k) ∧ X.cell? ⟨w1.heap.size, 4, none⟩ = some (.int .i64 s.mn.n) ∧ X.cell? ⟨w1.heap.size, 5, none⟩ = some (.string s.mn.s) ∧ X.cell? ⟨w1.heap.size, 6, none⟩ = some (.int .i64 s.mx.k) ∧ X.cell? ⟨w1.heap.size, 7, none⟩ = some (.int .i64 s.mx.n) ∧ X.cell? ⟨w1.heap.size, 8, none⟩ = some (.string s.mx.s)) ∧ Below w2.heap.size w2 X) := fun X hX => ⟨(row_oneC (blk_keep hX HI2.out.fc)).1, row_four (blk_keep hX HX2.out), (row_nine (blk_keep hX HS2.out)).1, hX⟩
    go_region_held3 (fun X => X.cell? ⟨g2, 0, none⟩ = some (.int .i64 fst) ∧ (X.cell? ⟨W.heap.size, 0, none⟩ = some (.int .i64 k.id) ∧ X.cell? ⟨W.heap.size, 1, none⟩ = some (.slice k.ra k.rs.length k.rc) ∧ X.cell? ⟨W.heap.size, 2, none⟩ = some (.slice k.da k.ds.length k.dc) ∧ X.cell? ⟨W.heap.size, 3, none⟩ = some (.slice k.va k.vs.length k.vc)) ∧ (X.cell? ⟨w1.heap.size, 0, none⟩ = some (.int .i64 s.e) ∧ X.cell? ⟨w1.heap.size, 1, none⟩ = some (.int .i64 s.u) ∧ X.cell? ⟨w1.heap.size, 2, none⟩ = some (.bool s.h) ∧ X.cell? ⟨w1.heap.size, 3, none⟩ = some (.int .i64 s.mn.k) ∧ X.cell? ⟨w1.heap.size, 4, none⟩ = some (.int .i64 s.mn.n) ∧ X.cell? ⟨w1.heap.size, 5, none⟩ = some (.string s.mn.s) ∧ X.cell? ⟨w1.heap.size, 6, none⟩ = some (.int .i64 s.mx.k) ∧ X.cell? ⟨w1.heap.size, 7, none⟩ = some (.int .i64 s.mx.n) ∧ X.cell? ⟨w1.heap.size, 8, none⟩ = some (.string s.mx.s)) ∧ Below w2.heap.size w2 X) (with_reducible refine HN.out _ ?_; repeat' (first | with_reducible assumption | with_reducible exact b0.drew | with_reducible exact b0 | with_reducible refine Below.drew ?_ | with_reducible exact Nat.le_refl _ | with_reducible refine Below.setCell ?_ ?_ _ | with_reducible refine Below.alloc ?_ ?_ _ | with_reducible exact Below.size (by assumption) | (simp; done) | (simp; omega) | omega)) (first
      | (go_at_call 40; (with_reducible refine Calls.mono (HCt.out _ ?_) ?_); (repeat' (first | with_reducible assumption | with_reducible exact b0.drew | with_reducible exact b0 | with_reducible refine Below.drew ?_ | with_reducible refine Below.alloc ?_ ?_ _ | with_reducible exact Below.size (by assumption) | with_reducible exact Nat.le_refl _ | (simp; done) | (simp; omega))); rintro e x1 ⟨rfl, hbx1, hraw1⟩; have HBX1 : Hid (Below w2.heap.size w2 x1) := hbx1; (first | (have hzz := blk_keep hraw1 hzz0; clear hzz0; have hzz0 := hzz; clear hzz) | (have hzz0 := blk_keep hraw1 (blk_drew (heap_alloc_new _ (.cells #[.int .i64 0, .int .i64 0, .int .i64 0, .int .i64 0, .int .i64 0, .int .i64 0, .bool false, .int .i64 0, .int .i64 0, .string ⟨#[]⟩, .int .i64 0, .int .i64 0, .string ⟨#[]⟩] 56)))) | (have hzz0 := blk_keep hraw1 (heap_alloc_new _ (.cells #[.int .i64 0, .int .i64 0, .int .i64 0, .int .i64 0, .int .i64 0, .int .i64 0, .bool false, .int .i64 0, .int .i64 0, .string ⟨#[]⟩, .int .i64 0, .int .i64 0, .string ⟨#[]⟩] 56))) | skip); (first | (obtain ⟨z1, z2⟩ := row_mk hzz0; have HZZ : Hid _ := hzz0; clear hzz0) | skip)))
    · go_wp2_with fail
      go_meet
      exact ⟨x1.heap.size, rfl, heap_alloc_new _ _, HBX1.out.alloc HBX1.out.size _⟩
    all_goals
      go_wp2_with fail
      go_meet
      exact ⟨w2.heap.size, rfl, set13_row HZZ.out _ _ _ _ _ _ _ _ _ _ _ _ _, set13_below HBX1.out (Nat.le_refl _) _ _ _ _ _ _ _ _ _ _ _ _ _⟩
  case rest =>
    obtain ⟨h, rfl, HMk, HBx⟩ := hcut
    rename World => wx
    have HI3 : Hid (MkS gL g1 g2 N lid kind mr md pa pn pc fst lv ms wx) := HI2.out.keep HBx.out
    have HM3 : Hid (MFr g1 g2 N W wx) := HM2.out.trans (.of_below HBx.out)
    have hN3 : N ≤ wx.heap.size := Nat.le_trans hN2 HBx.out.size
    obtain ⟨la, lc, rfl⟩ := own_slC HI3.out.row
    have hhg : h ≠ g2 := fun e => by
      subst e
      have h1 := HMk.out
      rw [HI3.out.fc] at h1
      injection h1 with h1
      injection h1 with _ h1 _
      exact absurd h1 (by decide)
    clear c0 k0 k1 k2 k3 s0 s1 s2 s3 s4 s5 s6 s7 s8 HI2 HM2 HX2 HA2 HS2 HCt HBx
    obtain ⟨c0, fz⟩ := row_oneC HI3.out.fc
    obtain ⟨⟨x0, y1, y2, y3, y4, y5, y6, y7, y8, y9, ya, yb, yc⟩, _⟩ := row_mk HMk.out
    obtain ⟨n, HCn⟩ : ∃ n : Nat, Hid (cntE 0 k.rs = n) := ⟨_, rfl⟩
    rw [HCn.out] at hcn HMk y3
    go_upto_region 6 with fail
    obtain ⟨w5, HW5⟩ : ∃ w5, Hid (wx.setCell ⟨g2, 0, none⟩ (.int .i64 (fst + (n : Nat))) = w5) := ⟨_, rfl⟩
    obtain ⟨hm5, hf5⟩ := HI3.out.setF hn12 hn2L (fst + (n : Nat))
    have HMk5 : Hid _ := blk_other HMk.out hhg (j := 0) (.int .i64 (fst + (n : Nat)))
    rw [HW5.out] at hm5 hf5 HMk5 ⊢
    have HI5 : Hid (MkS gL g1 g2 N lid kind mr md pa pn pc (fst + (n : Nat)) (.slice la ms.length lc) ms w5) := hm5
    have HM5 : Hid (MFr g1 g2 N W w5) := HM3.out.trans hf5
    have hN5 : N ≤ w5.heap.size := Nat.le_trans hN3 hf5.size
    clear hm5 hf5 HW5 HI3 HM3 c0 fz x0 y1 y2 y3 y4 y5 y6 y7 y8 y9 ya yb yc
    obtain ⟨⟨x0, y1, y2, y3, y4, y5, y6, y7, y8, y9, ya, yb, yc⟩, _⟩ := row_mk HMk5.out
    obtain ⟨d0, fz⟩ := row_oneC HI5.out.lc
    have HI6 : Hid (MkS gL g1 g2 N lid kind mr md pa pn pc (fst + (n : Nat)) (.slice la ms.length lc) ms (w5.alloc (.cells #[.int .i64 at_, .int .i64 size, .int .i64 fst, .int .i64 (n : Nat), .int .i64 s.e, .int .i64 s.u, .bool s.h, .int .i64 s.mn.k, .int .i64 s.mn.n, .string s.mn.s, .int .i64 s.mx.k, .int .i64 s.mx.n, .string s.mx.s] 56))) := HI5.out.keep ((Below.refl _ _).alloc (Nat.le_refl _) _)
    have HM6 : Hid (MFr g1 g2 N W (w5.alloc (.cells #[.int .i64 at_, .int .i64 size, .int .i64 fst, .int .i64 (n : Nat), .int .i64 s.e, .int .i64 s.u, .bool s.h, .int .i64 s.mn.k, .int .i64 s.mn.n, .string s.mn.s, .int .i64 s.mx.k, .int .i64 s.mx.n, .string s.mx.s] 56))) := HM5.out.trans (.of_below ((Below.refl _ _).alloc (Nat.le_refl _) _))
    go_wp2_with (at_builtin; refine wpList_append_any _ rfl _ _ 47 rfl N 56 im (.agg #[.int .i64 0, .int .i64 0, .int .i64 0, .int .i64 0, .int .i64 0, .int .i64 0, .bool false, .int .i64 0, .int .i64 0, .string ⟨#[]⟩, .int .i64 0, .int .i64 0, .string ⟨#[]⟩]) 13 120 Tryz.underlying47 hmi hm0 hm1 hm2 rfl (by decide) _ _ (mkF ms) rfl HI6.out.row (some ⟨w5.heap.size, 0, none⟩) 1 1 (Mk.cs ⟨at_, size, fst, (n : Nat), s⟩) rfl rfl (fun j u hu => ⟨_, rfl, by rw [addr_add, Nat.zero_add]; exact cell_alloc_at (cs := (Mk.cs ⟨at_, size, fst, (n : Nat), s⟩).toArray) (T := 56) (by simpa using hu) rfl⟩) (one_mk _) (by unfold maxLen; omega) (by omega) (by simp; omega) ?_; intro v1 x1 hown1 hg1 hw1; obtain ⟨e1, e2, e3⟩ := HI6.out.app (m := ⟨at_, size, fst, (n : Nat), s⟩) (Ne.symm hn12) hn1L hown1 hg1 hw1; obtain ⟨a1, q1, rfl⟩ := own_slC hown1; have HI7 : Hid _ := e2; have HM7 : Hid (MFr g1 g2 N W _) := HM6.out.trans e3; clear hown1 hg1 hw1 e2 e3 d0 fz; obtain ⟨d0, fz⟩ := row_oneC e1; clear e1)
    go_ret
    rw [HCn.out]
    exact ⟨rfl, ⟨_, HI7.out⟩, HM7.out⟩
end Go.Proofs.YtgpfmjbebfmmnaaGreatDoor

namespace Go.Proofs.YtgpfmjbebfmmnaaGreatDoor
open Go.RowKit
/-- A row of the call's own lies ahead of some blocks, or behind them. -/
def Lo (M Z : Nat) (v : Value) : Prop := ∀ c, v.ownBlock = some c → c < M ∨ Z ≤ c
theorem lo_next {M Z : Nat} {v v' : Value} {X : World} (h : Lo M Z v) (hw : v'.ownBlock = v.ownBlock ∨ v'.ownBlock = some X.heap.size) (hz : Z ≤ X.heap.size) : Lo M Z v' := fun c hc => by
  rcases hw with e | e
  · exact h c (e ▸ hc)
  · rw [e] at hc
    injection hc with hc
    subst hc
    exact .inr hz
theorem mid_next {M Z g j : Nat} {v x : Value} {W X w1 : World} (hm : ∀ b, M ≤ b → b < Z → X.heap[b]? = W.heap[b]?) (hlo : Lo M Z v) (hg : X.grownBy w1 v.ownBlock) (hgM : g < M) (hz : Z ≤ X.heap.size) : ∀ b, M ≤ b → b < Z → (w1.setCell ⟨g, j, none⟩ x).heap[b]? = W.heap[b]? := fun b h1 h2 => by
  rw [Below.heap_setCell _ ⟨g, j, none⟩ _ _ (show b ≠ g by omega), hg.block b (by omega) (fun e => by have := hlo b e.symm; omega)]
  exact hm b h1 h2
/-- What lay holds. -/
structure LyI (g N M : Nat) (id : Int) (W W0 : World) (k : Cl) (R D : List Int) (V : List Vl) (X : World) : Prop where
  acc : ∃ rv dv vv, AcI g N id rv R dv D vv V X ∧ Lo M W.heap.size rv ∧ Lo M W.heap.size dv ∧ Lo M W.heap.size vv
  bx : X.heap[W.heap.size]? = some (.cells #[.int .i64 k.id, .slice k.ra k.rs.length k.rc, .slice k.da k.ds.length k.dc, .slice k.va k.vs.length k.vc] 27 (0, 0))
  fr : DFr g N W0 X
  mid : ∀ b, M ≤ b → b < W.heap.size → X.heap[b]? = W.heap[b]?
set_option maxRecDepth 100000 in
set_option maxHeartbeats 6400000 in
theorem lay_any (g N M : Nat) (id : Int) (rv dv vv : Value) (R D : List Int) (V : List Vl) (k : Cl) (W : World) (hI : AcI g N id rv R dv D vv V W) (hl1 : Lo M W.heap.size rv) (hl2 : Lo M W.heap.size dv) (hl3 : Lo M W.heap.size vv) (hgM : g < M) (hN : N ≤ W.heap.size) (hk : k.At W) (hf : k.Fr M) (hr : R.length + k.rs.length ≤ 1048576) (hd : D.length + k.ds.length ≤ 1048576) (hv : V.length + k.vs.length ≤ 1048576) :
    Calls Tryz.prog 37 #[.pointer (some ⟨g, 0, none⟩), .agg #[.int .i64 k.id, .slice k.ra k.rs.length k.rc, .slice k.da k.ds.length k.dc, .slice k.va k.vs.length k.vc]] W fun e w' => e = .returned (.tuple #[]) ∧ (∃ rv dv vv, AcI g N id rv (R ++ k.rs) dv (D ++ k.ds) vv (V ++ k.vs) w') ∧ DFr g N W w' := by
  obtain ⟨iv, hvi, hv0, hv1, hv2⟩ := info_parts Tryz.info3
  obtain ⟨iw, hwi, hw0, hw1, hw2⟩ := info_parts Tryz.infoV
  obtain ⟨w0, HW0, HX, HB⟩ := boxed1 W #[.int .i64 k.id, .slice k.ra k.rs.length k.rc, .slice k.da k.ds.length k.dc, .slice k.va k.vs.length k.vc] 27
  have hgl : g < W.heap.size := lt_of_block hI.cell
  have hgn : W.heap.size ≠ g := by omega
  have HD0 : Hid (DFr g N W w0) := .of_below HB.out
  have HI : Hid (LyI g N M id W W k R D V w0) := ⟨⟨rv, dv, vv, hI.stay HB.out, hl1, hl2, hl3⟩, HX.out, HD0.out, fun b _ h2 => HB.out.block b h2⟩
  have HLr : Hid _ := hr
  have HLd : Hid _ := hd
  have HLv : Hid _ := hv
  clear hI hl1 hl2 hl3 HX HB hr hd hv HD0
  clear rv dv vv
  go_enter Tryz.func37, Tryz.ntmps37
  go_upto_region 1 with fail
  rw [HW0.out]
  clear HW0
  generalize w0 = wa at HI ⊢
  go_cut [] (fun wx => Hid (LyI g N M id W W k (R ++ k.rs) D V wx))
  case first =>
    obtain ⟨rv, dv, vv, hI, hlo1, hlo2, hlo3⟩ := HI.out.acc
    obtain ⟨xra, xrc, rfl⟩ := own_slC hI.rrow
    obtain ⟨xda, xdc, rfl⟩ := own_slC hI.drow
    obtain ⟨xva, xvc, rfl⟩ := own_slC hI.vrow
    have HLo1 : Hid (Lo M W.heap.size (.slice xra R.length xrc)) := hlo1
    have HLo2 : Hid (Lo M W.heap.size (.slice xda D.length xdc)) := hlo2
    have HLo3 : Hid (Lo M W.heap.size (.slice xva V.length xvc)) := hlo3
    have HAa : Hid (AcI g N id (.slice xra R.length xrc) R (.slice xda D.length xdc) D (.slice xva V.length xvc) V wa.drew) := hI.stay (Below.refl _ _).drew
    obtain ⟨g0, g1, g2, g3⟩ := row_four hI.cell
    obtain ⟨f0, f1, f2, f3⟩ := row_fourA hI.cell
    obtain ⟨k0, k1, k2, k3⟩ := row_four HI.out.bx
    have HAT : Hid (k.At wa.drew) := hk.same hf (fun b h1 h2 => HI.out.mid b h1 h2)
    clear hI hlo1 hlo2 hlo3
    go_wp2_with fail
    go_region_law (refine step_append_any _ rfl _ _ 22 rfl N 3 iv (.int .i64 0) 1 8 Tryz.underlying22 hvi hv0 hv1 hv2 rfl (by decide) _ _ (i64s R) rfl HAa.out.rrow k.ra k.rs.length k.rc (i64s k.rs) rfl (by rw [i64s_len, Nat.mul_one]) (news_i HAT.out.r) (one_i _) (by have := HLr.out; unfold maxLen; omega) (by have := HLr.out; omega) (Nat.le_trans hN (show W.heap.size ≤ wa.drew.heap.size from HI.out.fr.size)) ?_; intro v1 x1 hown1 hg1 hw1; obtain ⟨e1, e2, e3⟩ := AcI.appR HAa.out hown1 hg1 hw1; have HLoN : Hid (Lo M W.heap.size v1) := lo_next (X := wa.drew) HLo1.out hw1 HI.out.fr.size; have HMid : Hid (∀ b, M ≤ b → b < W.heap.size → (x1.setCell ⟨g, 1, none⟩ v1).heap[b]? = W.heap[b]?) := mid_next (X := wa.drew) HI.out.mid HLo1.out hg1 hgM HI.out.fr.size; obtain ⟨a1, c1, rfl⟩ := own_slC hown1; have HA1 : Hid _ := e2; have HE3 : Hid (DFr g N wa.drew _) := e3; clear hown1 hg1 hw1 e2 e3 g0 g1 g2 g3 f0 f1 f2 f3; obtain ⟨g0, g1, g2, g3⟩ := row_four e1; obtain ⟨f0, f1, f2, f3⟩ := row_fourA e1; clear e1)
    all_goals
      have HIf : Hid (LyI g N M id W W k (R ++ k.rs) (D) (V) _) := ⟨⟨_, _, _, HA1.out, HLoN.out, HLo2.out, HLo3.out⟩, HE3.out.box (blk_drew HI.out.bx) hgn (by decide), HI.out.fr.trans ((DFr.drew _ _ wa).trans HE3.out), HMid.out⟩
      go_wp2_with fail
      go_meet
      exact HIf
  case rest =>
    clear HI
    have HI : Hid (LyI g N M id W W k (R ++ k.rs) D V _) := hcut
    clear hcut wa
    rename World => wa
    go_upto_region 2 with fail
    go_cut [] (fun wx => Hid (LyI g N M id W W k (R ++ k.rs) (D ++ k.ds) V wx))
    case first =>
      obtain ⟨rv, dv, vv, hI, hlo1, hlo2, hlo3⟩ := HI.out.acc
      obtain ⟨xra, xrc, rfl⟩ := own_slC hI.rrow
      obtain ⟨xda, xdc, rfl⟩ := own_slC hI.drow
      obtain ⟨xva, xvc, rfl⟩ := own_slC hI.vrow
      have HLo1 : Hid (Lo M W.heap.size (.slice xra (R ++ k.rs).length xrc)) := hlo1
      have HLo2 : Hid (Lo M W.heap.size (.slice xda D.length xdc)) := hlo2
      have HLo3 : Hid (Lo M W.heap.size (.slice xva V.length xvc)) := hlo3
      have HAa : Hid (AcI g N id (.slice xra (R ++ k.rs).length xrc) (R ++ k.rs) (.slice xda D.length xdc) D (.slice xva V.length xvc) V wa.drew) := hI.stay (Below.refl _ _).drew
      obtain ⟨g0, g1, g2, g3⟩ := row_four hI.cell
      obtain ⟨f0, f1, f2, f3⟩ := row_fourA hI.cell
      obtain ⟨k0, k1, k2, k3⟩ := row_four HI.out.bx
      have HAT : Hid (k.At wa.drew) := hk.same hf (fun b h1 h2 => HI.out.mid b h1 h2)
      clear hI hlo1 hlo2 hlo3
      go_wp2_with fail
      go_region_law (refine step_append_any _ rfl _ _ 22 rfl N 3 iv (.int .i64 0) 1 8 Tryz.underlying22 hvi hv0 hv1 hv2 rfl (by decide) _ _ (i64s D) rfl HAa.out.drow k.da k.ds.length k.dc (i64s k.ds) rfl (by rw [i64s_len, Nat.mul_one]) (news_i HAT.out.d) (one_i _) (by have := HLd.out; unfold maxLen; omega) (by have := HLd.out; omega) (Nat.le_trans hN (show W.heap.size ≤ wa.drew.heap.size from HI.out.fr.size)) ?_; intro v1 x1 hown1 hg1 hw1; obtain ⟨e1, e2, e3⟩ := AcI.appD HAa.out hown1 hg1 hw1; have HLoN : Hid (Lo M W.heap.size v1) := lo_next (X := wa.drew) HLo2.out hw1 HI.out.fr.size; have HMid : Hid (∀ b, M ≤ b → b < W.heap.size → (x1.setCell ⟨g, 2, none⟩ v1).heap[b]? = W.heap[b]?) := mid_next (X := wa.drew) HI.out.mid HLo2.out hg1 hgM HI.out.fr.size; obtain ⟨a1, c1, rfl⟩ := own_slC hown1; have HA1 : Hid _ := e2; have HE3 : Hid (DFr g N wa.drew _) := e3; clear hown1 hg1 hw1 e2 e3 g0 g1 g2 g3 f0 f1 f2 f3; obtain ⟨g0, g1, g2, g3⟩ := row_four e1; obtain ⟨f0, f1, f2, f3⟩ := row_fourA e1; clear e1)
      all_goals
        have HIf : Hid (LyI g N M id W W k ((R ++ k.rs)) (D ++ k.ds) (V) _) := ⟨⟨_, _, _, HA1.out, HLo1.out, HLoN.out, HLo3.out⟩, HE3.out.box (blk_drew HI.out.bx) hgn (by decide), HI.out.fr.trans ((DFr.drew _ _ wa).trans HE3.out), HMid.out⟩
        go_wp2_with fail
        go_meet
        exact HIf
    case rest =>
      clear HI
      have HI : Hid (LyI g N M id W W k (R ++ k.rs) (D ++ k.ds) V _) := hcut
      clear hcut wa
      rename World => wa
      obtain ⟨rv, dv, vv, hI, hlo1, hlo2, hlo3⟩ := HI.out.acc
      obtain ⟨xra, xrc, rfl⟩ := own_slC hI.rrow
      obtain ⟨xda, xdc, rfl⟩ := own_slC hI.drow
      obtain ⟨xva, xvc, rfl⟩ := own_slC hI.vrow
      have HLo1 : Hid (Lo M W.heap.size (.slice xra (R ++ k.rs).length xrc)) := hlo1
      have HLo2 : Hid (Lo M W.heap.size (.slice xda (D ++ k.ds).length xdc)) := hlo2
      have HLo3 : Hid (Lo M W.heap.size (.slice xva V.length xvc)) := hlo3
      have HAa : Hid (AcI g N id (.slice xra (R ++ k.rs).length xrc) (R ++ k.rs) (.slice xda (D ++ k.ds).length xdc) (D ++ k.ds) (.slice xva V.length xvc) V wa.drew) := hI.stay (Below.refl _ _).drew
      obtain ⟨g0, g1, g2, g3⟩ := row_four hI.cell
      obtain ⟨f0, f1, f2, f3⟩ := row_fourA hI.cell
      obtain ⟨k0, k1, k2, k3⟩ := row_four HI.out.bx
      have HAT : Hid (k.At wa.drew) := hk.same hf (fun b h1 h2 => HI.out.mid b h1 h2)
      clear hI hlo1 hlo2 hlo3
      go_wp2_with fail
      go_region_law (refine step_append_any _ rfl _ _ 25 rfl N 52 iw (.agg #[.int .i64 0, .int .i64 0, .string ⟨#[]⟩]) 3 32 Tryz.underlying25 hwi hw0 hw1 hw2 rfl (by decide) _ _ (vcells V) rfl HAa.out.vrow k.va k.vs.length k.vc (vcells k.vs) rfl (vcells_len _) (news_v HAT.out.v) (one_v _) (by have := HLv.out; unfold maxLen; omega) (by have := HLv.out; omega) (Nat.le_trans hN (show W.heap.size ≤ wa.drew.heap.size from HI.out.fr.size)) ?_; intro v1 x1 hown1 hg1 hw1; obtain ⟨e1, e2, e3⟩ := AcI.appV HAa.out hown1 hg1 hw1; have HLoN : Hid (Lo M W.heap.size v1) := lo_next (X := wa.drew) HLo3.out hw1 HI.out.fr.size; have HMid : Hid (∀ b, M ≤ b → b < W.heap.size → (x1.setCell ⟨g, 3, none⟩ v1).heap[b]? = W.heap[b]?) := mid_next (X := wa.drew) HI.out.mid HLo3.out hg1 hgM HI.out.fr.size; obtain ⟨a1, c1, rfl⟩ := own_slC hown1; have HA1 : Hid _ := e2; have HE3 : Hid (DFr g N wa.drew _) := e3; clear hown1 hg1 hw1 e2 e3 g0 g1 g2 g3 f0 f1 f2 f3; obtain ⟨g0, g1, g2, g3⟩ := row_four e1; obtain ⟨f0, f1, f2, f3⟩ := row_fourA e1; clear e1)
      all_goals
        have HIf : Hid (LyI g N M id W W k ((R ++ k.rs)) ((D ++ k.ds)) (V ++ k.vs) _) := ⟨⟨_, _, _, HA1.out, HLo1.out, HLo2.out, HLoN.out⟩, HE3.out.box (blk_drew HI.out.bx) hgn (by decide), HI.out.fr.trans ((DFr.drew _ _ wa).trans HE3.out), HMid.out⟩
        go_wp2
        go_end0
        obtain ⟨rv, dv, vv, h1, _⟩ := HIf.out.acc
        exact ⟨rfl, ⟨rv, dv, vv, h1⟩, HIf.out.fr⟩
end Go.Proofs.YtgpfmjbebfmmnaaGreatDoor
