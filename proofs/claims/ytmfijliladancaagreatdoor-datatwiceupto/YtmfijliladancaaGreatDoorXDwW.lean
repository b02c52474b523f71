/-
  The reader of a record's text: a value.
-/
import Derived.Test.YtmfijliladancaaGreatDoorXDwV
namespace Go.Proofs.YtmfijliladancaaGreatDoor
open Go.RowKit
/-- What a value's reading holds: the reader, the result's box, the value so far. -/
structure VbI (W : World) (r : Nat) (s : ByteArray) (q : Nat) (x0 x1 x2 : Value) (X : World) : Prop where
  rd : Rdd r s q X
  re : X.heap[W.heap.size]? = some (.cells #[.int .i64 0, .int .i64 0, .string ⟨#[]⟩] 26 (0, 0))
  nd : X.heap[W.heap.size + 1]? = some (.cells #[x0, x1, x2] 26 (0, 0))
  fr : RFr r W X
  lt : r < W.heap.size
theorem VbI.step {W : World} {r : Nat} {s : ByteArray} {q q2 : Nat} {x0 x1 x2 : Value} {X w' : World} (h : VbI W r s q x0 x1 x2 X) (hr : Rdd r s q2 w') (hf : RFr r X w') : VbI W r s q2 x0 x1 x2 w' :=
  ⟨hr, hf.box h.re (by have := h.lt; omega), hf.box h.nd (by have := h.lt; omega), h.fr.trans hf, h.lt⟩
theorem RFr.setNw {r g j : Nat} {W X : World} {v : Value} (h : RFr r W X) (hg : W.heap.size ≤ g) : RFr r W (X.setCell ⟨g, j, none⟩ v) := ⟨h.os, h.tape, h.output, by simpa using h.size, fun k hk hne => (Below.heap_setCell X ⟨g, j, none⟩ v k (by show k ≠ g; omega)).trans (h.keep k hk hne)⟩
theorem VbI.set {W : World} {r : Nat} {s : ByteArray} {q : Nat} {x0 x1 x2 y0 y1 y2 : Value} {X : World} (h : VbI W r s q x0 x1 x2 X) (j : Nat) (v : Value) (he : (#[x0, x1, x2] : Array Value).setIfInBounds j v = #[y0, y1, y2]) : VbI W r s q y0 y1 y2 (X.setCell ⟨W.heap.size + 1, j, none⟩ v) :=
  ⟨(Below.heap_setCell X ⟨W.heap.size + 1, j, none⟩ v r (by have := h.lt; show r ≠ W.heap.size + 1; omega)).trans h.rd, (Below.heap_setCell X ⟨W.heap.size + 1, j, none⟩ v W.heap.size (by show W.heap.size ≠ W.heap.size + 1; omega)).trans h.re, (row_setC h.nd).trans (by rw [he]), h.fr.setNw (by omega), h.lt⟩
theorem row_threeZ {w : World} {g e : Nat} {x0 x1 x2 : Value} (h : w.heap[g]? = some (.cells #[x0, x1, x2] e (0, 0))) : (w.cell? ⟨g, 0, none⟩ = some x0 ∧ w.cell? ⟨g, 1, none⟩ = some x1 ∧ w.cell? ⟨g, 2, none⟩ = some x2) ∧ w.frozen? ⟨g, 0, none⟩ = false ∧ w.frozen? ⟨g, 1, none⟩ = false ∧ w.frozen? ⟨g, 2, none⟩ = false := by
  refine ⟨row_threeB h, ?_, ?_, ?_⟩ <;> simp [World.frozen?, h]
theorem ba_nil {s : ByteArray} (h : s.size = 0) : s = ⟨#[]⟩ := by
  cases s with
  | mk a =>
    have h1 : a.size = 0 := h
    rw [Array.eq_empty_of_size_eq_zero h1]
theorem ba_back (s : ByteArray) : (⟨s.data.toList.toArray⟩ : ByteArray) = s := by simp
theorem u64_back (n : Int) (h0 : -9223372036854775808 ≤ n) (h1 : n ≤ 9223372036854775807) : IntKind.i64.wrap ((Um.u64 n : Nat) : Int) = n := by
  rw [IntKind.wrap_i64, Um.u64_int]
  omega
set_option maxRecDepth 100000 in
set_option maxHeartbeats 6400000 in
theorem value_any (r : Nat) (s : ByteArray) (p : Nat) (v : Vl) (hin : v.In) (hok : OkV v.k v.k v.n v.s.size) (W : World) (hr : Rdd r s p W) (hs : s.size ≤ 100000) (hw : Wo s p (vx v)) (hp : p ≤ s.size) (hnd : dgB (nx s (p + (vx v).length)) = false) (htab : TabR r W) :
    Calls Tryz.prog (54) #[.pointer (some ⟨r, 0, none⟩), .int .i64 v.k] W fun e w' => e = .returned (.agg #[.int .i64 v.k, .int .i64 v.n, .string v.s]) ∧ Rdd r s (p + (vx v).length) w' ∧ RFr r W w' := by
  obtain ⟨k, n, t⟩ := v
  obtain ⟨_, hn, _⟩ := hin
  dsimp only at hn
  have hrw : r < W.heap.size := lt_of_block hr
  obtain ⟨w0, HW0, HX, HY, HB⟩ := two_boxesS W #[.int .i64 0, .int .i64 0, .string ⟨#[]⟩] #[.int .i64 k, .int .i64 0, .string ⟨#[]⟩] 26 26
  have HI0 : Hid (VbI W r s p (.int .i64 k) (.int .i64 0) (.string ⟨#[]⟩) w0) := ⟨hr.keep HB.out, HX.out, HY.out, .of_below HB.out, hrw⟩
  have htab0 : TabR r w0 := htab.on (.of_below HB.out)
  have hok2 := hok.2
  rcases hok2 with ⟨hk, hz, h01⟩ | ⟨hk, hz, hlo, hhi⟩ | ⟨hk, hz⟩ | ⟨hk, hz, hle⟩
  · dsimp only at hk hz h01
    subst hk
    obtain rfl := ba_nil hz
    have HV : Hid (vx ⟨1, n, ⟨#[]⟩⟩ = boolB n) := rfl
    rw [HV.out] at hw ⊢
    have HC : Hid _ := boolean_any r s p n h01 w0 HI0.out.rd hs hw hp
    obtain ⟨L, HL⟩ := hid_name (boolB n).length
    rw [HL.out] at HC ⊢
    clear hw hnd htab htab0 hr hok
    go_enter Tryz.func54, Tryz.ntmps54
    go_wp2_with fail
    rw [HW0.out]
    refine Calls.mono HC.out ?_
    rintro e w1 ⟨rfl, hr1, hf1⟩
    have HI1 : Hid _ := HI0.out.step hr1 hf1
    clear hr1 hf1
    obtain ⟨⟨p0, p1, p2⟩, f0, f1, f2⟩ := row_threeZ HI1.out.nd
    obtain ⟨⟨z0, z1, z2⟩, y0, y1, y2⟩ := row_threeZ HI1.out.re
    have HI2 : Hid (VbI W r s (p + L) (.int .i64 1) (.int .i64 n) (.string ⟨#[]⟩) (w1.setCell ⟨W.heap.size + 1, 1, none⟩ (.int .i64 n))) := HI1.out.set 1 _ rfl
    go_wp2
    exact bodyPost_ret (v := .agg #[.int .i64 1, .int .i64 n, .string ⟨#[]⟩]) (results_cell_row Tryz.results54 _ _ W.heap.size 26 #[.int .i64 1, .int .i64 n, .string ⟨#[]⟩] (0, 0) _ rfl (row_setC (row_setC (row_setC HI2.out.re))) Tryz.underlying26 rfl (by kernel_rfl)) rfl ⟨rfl, (Below.heap_setCell _ ⟨W.heap.size, 2, none⟩ _ r (by show r ≠ W.heap.size; omega)).trans ((Below.heap_setCell _ ⟨W.heap.size, 1, none⟩ _ r (by show r ≠ W.heap.size; omega)).trans ((Below.heap_setCell _ ⟨W.heap.size, 0, none⟩ _ r (by show r ≠ W.heap.size; omega)).trans HI2.out.rd)), ((HI2.out.fr.setNw (Nat.le_refl _)).setNw (Nat.le_refl _)).setNw (Nat.le_refl _)⟩
  · dsimp only at hk hz hlo hhi
    subst hk
    obtain rfl := ba_nil hz
    have HV : Hid (vx ⟨2, n, ⟨#[]⟩⟩ = Lib.itoa n) := rfl
    rw [HV.out] at hw hnd ⊢
    have HC : Hid (Calls Tryz.prog (68) #[.pointer (some ⟨r, 0, none⟩), .int .i64 32] w0 fun e w' => e = .returned (.int .i64 n) ∧ Rdd r s (p + (Lib.itoa n).length) w' ∧ RFr r w0 w') := number_any r s p n 32 (by omega) (by simp; omega) (by simp; omega) w0 HI0.out.rd hs hw hp hnd htab0
    obtain ⟨L, HL⟩ := hid_name (Lib.itoa n).length
    rw [HL.out] at HC ⊢
    clear hw hnd htab htab0 hr hok
    go_enter Tryz.func54, Tryz.ntmps54
    go_wp2_with fail
    rw [HW0.out]
    refine Calls.mono HC.out ?_
    rintro e w1 ⟨rfl, hr1, hf1⟩
    have HI1 : Hid _ := HI0.out.step hr1 hf1
    clear hr1 hf1
    obtain ⟨⟨p0, p1, p2⟩, f0, f1, f2⟩ := row_threeZ HI1.out.nd
    obtain ⟨⟨z0, z1, z2⟩, y0, y1, y2⟩ := row_threeZ HI1.out.re
    have HI2 : Hid (VbI W r s (p + L) (.int .i64 2) (.int .i64 n) (.string ⟨#[]⟩) (w1.setCell ⟨W.heap.size + 1, 1, none⟩ (.int .i64 n))) := HI1.out.set 1 _ rfl
    go_wp2
    exact bodyPost_ret (v := .agg #[.int .i64 2, .int .i64 n, .string ⟨#[]⟩]) (results_cell_row Tryz.results54 _ _ W.heap.size 26 #[.int .i64 2, .int .i64 n, .string ⟨#[]⟩] (0, 0) _ rfl (row_setC (row_setC (row_setC HI2.out.re))) Tryz.underlying26 rfl (by kernel_rfl)) rfl ⟨rfl, (Below.heap_setCell _ ⟨W.heap.size, 2, none⟩ _ r (by show r ≠ W.heap.size; omega)).trans ((Below.heap_setCell _ ⟨W.heap.size, 1, none⟩ _ r (by show r ≠ W.heap.size; omega)).trans ((Below.heap_setCell _ ⟨W.heap.size, 0, none⟩ _ r (by show r ≠ W.heap.size; omega)).trans HI2.out.rd)), ((HI2.out.fr.setNw (Nat.le_refl _)).setNw (Nat.le_refl _)).setNw (Nat.le_refl _)⟩
  · dsimp only at hk hz
    rcases hk with rfl | rfl
    · obtain rfl := ba_nil hz
      have HV : Hid (vx ⟨3, n, ⟨#[]⟩⟩ = Lib.itoa n) := rfl
      rw [HV.out] at hw hnd ⊢
      have HC : Hid (Calls Tryz.prog (68) #[.pointer (some ⟨r, 0, none⟩), .int .i64 64] w0 fun e w' => e = .returned (.int .i64 n) ∧ Rdd r s (p + (Lib.itoa n).length) w' ∧ RFr r w0 w') := number_any r s p n 64 (by omega) (by simp; omega) (by simp; omega) w0 HI0.out.rd hs hw hp hnd htab0
      obtain ⟨L, HL⟩ := hid_name (Lib.itoa n).length
      rw [HL.out] at HC ⊢
      clear hw hnd htab htab0 hr hok
      go_enter Tryz.func54, Tryz.ntmps54
      go_wp2_with fail
      rw [HW0.out]
      refine Calls.mono HC.out ?_
      rintro e w1 ⟨rfl, hr1, hf1⟩
      have HI1 : Hid _ := HI0.out.step hr1 hf1
      clear hr1 hf1
      obtain ⟨⟨p0, p1, p2⟩, f0, f1, f2⟩ := row_threeZ HI1.out.nd
      obtain ⟨⟨z0, z1, z2⟩, y0, y1, y2⟩ := row_threeZ HI1.out.re
      have HI2 : Hid (VbI W r s (p + L) (.int .i64 3) (.int .i64 n) (.string ⟨#[]⟩) (w1.setCell ⟨W.heap.size + 1, 1, none⟩ (.int .i64 n))) := HI1.out.set 1 _ rfl
      go_wp2
      exact bodyPost_ret (v := .agg #[.int .i64 3, .int .i64 n, .string ⟨#[]⟩]) (results_cell_row Tryz.results54 _ _ W.heap.size 26 #[.int .i64 3, .int .i64 n, .string ⟨#[]⟩] (0, 0) _ rfl (row_setC (row_setC (row_setC HI2.out.re))) Tryz.underlying26 rfl (by kernel_rfl)) rfl ⟨rfl, (Below.heap_setCell _ ⟨W.heap.size, 2, none⟩ _ r (by show r ≠ W.heap.size; omega)).trans ((Below.heap_setCell _ ⟨W.heap.size, 1, none⟩ _ r (by show r ≠ W.heap.size; omega)).trans ((Below.heap_setCell _ ⟨W.heap.size, 0, none⟩ _ r (by show r ≠ W.heap.size; omega)).trans HI2.out.rd)), ((HI2.out.fr.setNw (Nat.le_refl _)).setNw (Nat.le_refl _)).setNw (Nat.le_refl _)⟩
    · obtain rfl := ba_nil hz
      have HV : Hid (vx ⟨5, n, ⟨#[]⟩⟩ = 120 :: hx (Um.u64 n) 16) := rfl
      rw [HV.out] at hw hnd ⊢
      have qb := u64_back n hn.1 hn.2
      have hul := Um.u64_lt n
      have hws := hw.le (by simp)
      simp only [List.length_cons, hx_len] at hws ⊢
      have HT : Hid (Calls Tryz.prog (32) #[.pointer (some ⟨r, 0, none⟩), .string ⟨#[120]⟩] w0 fun e w' => e = .returned (.tuple #[]) ∧ Rdd r s (p + 1) w' ∧ RFr r w0 w') := dtake_any r s ⟨#[120]⟩ p w0 HI0.out.rd hs (Wo.left (u := [120]) hw) hp
      have HD : Hid (∀ X, Rdd r s (p + 1) X → Calls Tryz.prog (70) #[.pointer (some ⟨r, 0, none⟩), .int .i64 16] X fun e w' => e = .returned (.int .u64 (Um.u64 n : Nat)) ∧ Rdd r s (p + 1 + 16) w' ∧ RFr r X w') := fun X hX => digits_any r s (p + 1) (Um.u64 n) 16 (by omega) (by simpa using hul) X hX hs hw.tail (by omega)
      obtain ⟨u, HU⟩ := hid_name (Um.u64 n)
      rw [HU.out] at HD qb
      clear hw hnd htab htab0 hr hok hul
      go_enter Tryz.func54, Tryz.ntmps54
      go_wp2_with fail
      rw [HW0.out]
      refine Calls.mono HT.out ?_
      rintro e w9 ⟨rfl, hr9, hf9⟩
      have HI9 : Hid _ := HI0.out.step hr9 hf9
      clear hr9 hf9
      go_wp2_with fail
      refine Calls.mono (HD.out _ HI9.out.rd) ?_
      rintro e w1 ⟨rfl, hr1, hf1⟩
      have HI1 : Hid _ := HI9.out.step hr1 hf1
      clear hr1 hf1
      obtain ⟨⟨p0, p1, p2⟩, f0, f1, f2⟩ := row_threeZ HI1.out.nd
      obtain ⟨⟨z0, z1, z2⟩, y0, y1, y2⟩ := row_threeZ HI1.out.re
      have HI2 : Hid (VbI W r s (p + 1 + 16) (.int .i64 5) (.int .i64 n) (.string ⟨#[]⟩) (w1.setCell ⟨W.heap.size + 1, 1, none⟩ (.int .i64 n))) := HI1.out.set 1 _ rfl
      go_wp2
      exact bodyPost_ret (v := .agg #[.int .i64 5, .int .i64 n, .string ⟨#[]⟩]) (results_cell_row Tryz.results54 _ _ W.heap.size 26 #[.int .i64 5, .int .i64 n, .string ⟨#[]⟩] (0, 0) _ rfl (row_setC (row_setC (row_setC HI2.out.re))) Tryz.underlying26 rfl (by kernel_rfl)) rfl ⟨rfl, (Below.heap_setCell _ ⟨W.heap.size, 2, none⟩ _ r (by show r ≠ W.heap.size; omega)).trans ((Below.heap_setCell _ ⟨W.heap.size, 1, none⟩ _ r (by show r ≠ W.heap.size; omega)).trans ((Below.heap_setCell _ ⟨W.heap.size, 0, none⟩ _ r (by show r ≠ W.heap.size; omega)).trans HI2.out.rd)), ((HI2.out.fr.setNw (Nat.le_refl _)).setNw (Nat.le_refl _)).setNw (Nat.le_refl _)⟩
  · dsimp only at hk hz hle
    subst hk
    subst hz
    have HV : Hid (vx ⟨4, 0, t⟩ = 34 :: (bysT t.data.toList ++ [34])) := rfl
    rw [HV.out] at hw ⊢
    have HC : Hid (Calls Tryz.prog (69) #[.pointer (some ⟨r, 0, none⟩)] w0 fun e w' => e = .returned (.string t) ∧ Rdd r s (p + (34 :: (bysT t.data.toList ++ [34])).length) w' ∧ RFr r w0 w') := (by
      have h := bytes_any r s p t.data.toList (by rw [Array.length_toList]; exact hle) w0 HI0.out.rd hs hw hp
      rw [ba_back] at h
      have e : (34 :: (bysT t.data.toList ++ [34])).length = 2 + (bysT t.data.toList).length := by simp; omega
      rw [e]
      exact h)
    obtain ⟨L, HL⟩ := hid_name (34 :: (bysT t.data.toList ++ [34])).length
    rw [HL.out] at HC ⊢
    clear hw hnd htab htab0 hr hok
    go_enter Tryz.func54, Tryz.ntmps54
    go_wp2_with fail
    rw [HW0.out]
    refine Calls.mono HC.out ?_
    rintro e w1 ⟨rfl, hr1, hf1⟩
    have HI1 : Hid _ := HI0.out.step hr1 hf1
    clear hr1 hf1
    obtain ⟨⟨p0, p1, p2⟩, f0, f1, f2⟩ := row_threeZ HI1.out.nd
    obtain ⟨⟨z0, z1, z2⟩, y0, y1, y2⟩ := row_threeZ HI1.out.re
    have HI2 : Hid (VbI W r s (p + L) (.int .i64 4) (.int .i64 0) (.string t) (w1.setCell ⟨W.heap.size + 1, 2, none⟩ (.string t))) := HI1.out.set 2 _ rfl
    go_wp2
    exact bodyPost_ret (v := .agg #[.int .i64 4, .int .i64 0, .string t]) (results_cell_row Tryz.results54 _ _ W.heap.size 26 #[.int .i64 4, .int .i64 0, .string t] (0, 0) _ rfl (row_setC (row_setC (row_setC HI2.out.re))) Tryz.underlying26 rfl (by kernel_rfl)) rfl ⟨rfl, (Below.heap_setCell _ ⟨W.heap.size, 2, none⟩ _ r (by show r ≠ W.heap.size; omega)).trans ((Below.heap_setCell _ ⟨W.heap.size, 1, none⟩ _ r (by show r ≠ W.heap.size; omega)).trans ((Below.heap_setCell _ ⟨W.heap.size, 0, none⟩ _ r (by show r ≠ W.heap.size; omega)).trans HI2.out.rd)), ((HI2.out.fr.setNw (Nat.le_refl _)).setNw (Nat.le_refl _)).setNw (Nat.le_refl _)⟩
end Go.Proofs.YtmfijliladancaaGreatDoor
