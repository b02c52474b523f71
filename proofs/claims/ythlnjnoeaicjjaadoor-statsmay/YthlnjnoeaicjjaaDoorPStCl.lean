/-
  How values stand: the functions of stats.standings, and what its map tells of a text.
-/
import Derived.Test.YthlnjnoeaicjjaaDoorPStStd
namespace Go.Proofs.YthlnjnoeaicjjaaDoor
open Go.RowKit
/-- How one value stands to another: <, <=, =, !=, >, >=. -/
def stdB : Nat → Vl → Vl → Bool
  | 0, a, b => lss a b
  | 1, a, b => !lss b a
  | 2, a, b => !lss a b && !lss b a
  | 3, a, b => lss a b || lss b a
  | 4, a, b => lss b a
  | _, a, b => !lss a b
/-- The text of each. -/
def stdT : Nat → ByteArray
  | 0 => ⟨#[60]⟩
  | 1 => ⟨#[60, 61]⟩
  | 2 => ⟨#[61]⟩
  | 3 => ⟨#[33, 61]⟩
  | 4 => ⟨#[62]⟩
  | _ => ⟨#[62, 61]⟩
theorem stand0 (a b : Vl) (W : World) (ha : a.Low) (hb : b.Low) : Calls Tryd.prog 24 #[.agg #[.int .i64 a.k, .int .i64 a.n, .string a.s], .agg #[.int .i64 b.k, .int .i64 b.n, .string b.s]] W fun e w' => e = .returned (.bool (stdB 0 a b)) ∧ Below W.heap.size W w' := less_any a.k a.n a.s b.k b.n b.s W ha hb
set_option maxRecDepth 100000 in
set_option maxHeartbeats 1600000 in
theorem stand1 (a b : Vl) (W : World) (ha : a.Low) (hb : b.Low) : Calls Tryd.prog 47 #[.agg #[.int .i64 a.k, .int .i64 a.n, .string a.s], .agg #[.int .i64 b.k, .int .i64 b.n, .string b.s]] W fun e w' => e = .returned (.bool (stdB 1 a b)) ∧ Below W.heap.size W w' := by
  obtain ⟨w0, HW0, HX, HY, HB⟩ := two_boxes W #[.int .i64 a.k, .int .i64 a.n, .string a.s] #[.int .i64 b.k, .int .i64 b.n, .string b.s] 23 23
  obtain ⟨x0, x1, x2⟩ := row_three HX.out
  obtain ⟨y0, y1, y2⟩ := row_three HY.out
  unfold Vl.Low at ha hb
  go_enter Tryd.func47, Tryd.ntmps47
  go_wp2_with fail
  rw [HW0.out]
  refine (less_any b.k b.n b.s a.k a.n a.s w0 hb ha).mono ?_
  obtain ⟨r, HR⟩ : ∃ r, Hid (vless b.k b.n b.s a.k a.n a.s = r) := ⟨_, rfl⟩
  rw [HR.out]
  rintro e w1 ⟨rfl, hb1⟩
  go_wp2
  go_ret
  exact ⟨ret_b (by simp [stdB, lss, HR.out]), HB.out.trans (hb1.mono HB.out.size)⟩
set_option maxRecDepth 100000 in
set_option maxHeartbeats 1600000 in
theorem stand4 (a b : Vl) (W : World) (ha : a.Low) (hb : b.Low) : Calls Tryd.prog 50 #[.agg #[.int .i64 a.k, .int .i64 a.n, .string a.s], .agg #[.int .i64 b.k, .int .i64 b.n, .string b.s]] W fun e w' => e = .returned (.bool (stdB 4 a b)) ∧ Below W.heap.size W w' := by
  obtain ⟨w0, HW0, HX, HY, HB⟩ := two_boxes W #[.int .i64 a.k, .int .i64 a.n, .string a.s] #[.int .i64 b.k, .int .i64 b.n, .string b.s] 23 23
  obtain ⟨x0, x1, x2⟩ := row_three HX.out
  obtain ⟨y0, y1, y2⟩ := row_three HY.out
  unfold Vl.Low at ha hb
  go_enter Tryd.func50, Tryd.ntmps50
  go_wp2_with fail
  rw [HW0.out]
  refine (less_any b.k b.n b.s a.k a.n a.s w0 hb ha).mono ?_
  obtain ⟨r, HR⟩ : ∃ r, Hid (vless b.k b.n b.s a.k a.n a.s = r) := ⟨_, rfl⟩
  rw [HR.out]
  rintro e w1 ⟨rfl, hb1⟩
  go_wp2
  go_ret
  exact ⟨ret_b (by simp [stdB, lss, HR.out]), HB.out.trans (hb1.mono HB.out.size)⟩
set_option maxRecDepth 100000 in
set_option maxHeartbeats 1600000 in
theorem stand5 (a b : Vl) (W : World) (ha : a.Low) (hb : b.Low) : Calls Tryd.prog 51 #[.agg #[.int .i64 a.k, .int .i64 a.n, .string a.s], .agg #[.int .i64 b.k, .int .i64 b.n, .string b.s]] W fun e w' => e = .returned (.bool (stdB 5 a b)) ∧ Below W.heap.size W w' := by
  obtain ⟨w0, HW0, HX, HY, HB⟩ := two_boxes W #[.int .i64 a.k, .int .i64 a.n, .string a.s] #[.int .i64 b.k, .int .i64 b.n, .string b.s] 23 23
  obtain ⟨x0, x1, x2⟩ := row_three HX.out
  obtain ⟨y0, y1, y2⟩ := row_three HY.out
  unfold Vl.Low at ha hb
  go_enter Tryd.func51, Tryd.ntmps51
  go_wp2_with fail
  rw [HW0.out]
  refine (less_any a.k a.n a.s b.k b.n b.s w0 ha hb).mono ?_
  obtain ⟨r, HR⟩ : ∃ r, Hid (vless a.k a.n a.s b.k b.n b.s = r) := ⟨_, rfl⟩
  rw [HR.out]
  rintro e w1 ⟨rfl, hb1⟩
  go_wp2
  go_ret
  exact ⟨ret_b (by simp [stdB, lss, HR.out]), HB.out.trans (hb1.mono HB.out.size)⟩
set_option maxRecDepth 100000 in
set_option maxHeartbeats 1600000 in
theorem stand2 (a b : Vl) (W : World) (ha : a.Low) (hb : b.Low) : Calls Tryd.prog 48 #[.agg #[.int .i64 a.k, .int .i64 a.n, .string a.s], .agg #[.int .i64 b.k, .int .i64 b.n, .string b.s]] W fun e w' => e = .returned (.bool (stdB 2 a b)) ∧ Below W.heap.size W w' := by
  obtain ⟨w0, HW0, HX, HY, HB⟩ := two_boxes W #[.int .i64 a.k, .int .i64 a.n, .string a.s] #[.int .i64 b.k, .int .i64 b.n, .string b.s] 23 23
  obtain ⟨x0, x1, x2⟩ := row_three HX.out
  obtain ⟨y0, y1, y2⟩ := row_three HY.out
  unfold Vl.Low at ha hb
  go_enter Tryd.func48, Tryd.ntmps48
  go_wp2_with fail
  rw [HW0.out]
  refine (less_any a.k a.n a.s b.k b.n b.s w0 ha hb).mono ?_
  obtain ⟨r, HR⟩ : ∃ r, Hid (vless a.k a.n a.s b.k b.n b.s = r) := ⟨_, rfl⟩
  obtain ⟨q, HQ⟩ : ∃ r, Hid (vless b.k b.n b.s a.k a.n a.s = r) := ⟨_, rfl⟩
  rw [HR.out]
  rintro e w1 ⟨rfl, hb1⟩
  have HB1 : Hid (Below W.heap.size W w1) := HB.out.trans (hb1.mono HB.out.size)
  clear x0 x1 x2 y0 y1 y2
  obtain ⟨x0, x1, x2⟩ := row_three (blk_keep hb1 HX.out)
  obtain ⟨y0, y1, y2⟩ := row_three (blk_keep hb1 HY.out)
  cases r
  · go_wp2_with fail
    refine (less_any b.k b.n b.s a.k a.n a.s w1 hb ha).mono ?_
    rw [HQ.out]
    rintro e w2 ⟨rfl, hb2⟩
    go_wp2
    go_ret
    exact ⟨ret_b (by simp [stdB, lss, HR.out, HQ.out]), HB1.out.trans (hb2.mono HB1.out.size)⟩
  · go_wp2
    go_ret
    exact ⟨ret_b (by simp [stdB, lss, HR.out]), HB1.out⟩
set_option maxRecDepth 100000 in
set_option maxHeartbeats 1600000 in
theorem stand3 (a b : Vl) (W : World) (ha : a.Low) (hb : b.Low) : Calls Tryd.prog 49 #[.agg #[.int .i64 a.k, .int .i64 a.n, .string a.s], .agg #[.int .i64 b.k, .int .i64 b.n, .string b.s]] W fun e w' => e = .returned (.bool (stdB 3 a b)) ∧ Below W.heap.size W w' := by
  obtain ⟨w0, HW0, HX, HY, HB⟩ := two_boxes W #[.int .i64 a.k, .int .i64 a.n, .string a.s] #[.int .i64 b.k, .int .i64 b.n, .string b.s] 23 23
  obtain ⟨x0, x1, x2⟩ := row_three HX.out
  obtain ⟨y0, y1, y2⟩ := row_three HY.out
  unfold Vl.Low at ha hb
  go_enter Tryd.func49, Tryd.ntmps49
  go_wp2_with fail
  rw [HW0.out]
  refine (less_any a.k a.n a.s b.k b.n b.s w0 ha hb).mono ?_
  obtain ⟨r, HR⟩ : ∃ r, Hid (vless a.k a.n a.s b.k b.n b.s = r) := ⟨_, rfl⟩
  obtain ⟨q, HQ⟩ : ∃ r, Hid (vless b.k b.n b.s a.k a.n a.s = r) := ⟨_, rfl⟩
  rw [HR.out]
  rintro e w1 ⟨rfl, hb1⟩
  have HB1 : Hid (Below W.heap.size W w1) := HB.out.trans (hb1.mono HB.out.size)
  clear x0 x1 x2 y0 y1 y2
  obtain ⟨x0, x1, x2⟩ := row_three (blk_keep hb1 HX.out)
  obtain ⟨y0, y1, y2⟩ := row_three (blk_keep hb1 HY.out)
  cases r
  · go_wp2_with fail
    refine (less_any b.k b.n b.s a.k a.n a.s w1 hb ha).mono ?_
    rw [HQ.out]
    rintro e w2 ⟨rfl, hb2⟩
    go_wp2
    go_ret
    exact ⟨ret_b (by simp [stdB, lss, HR.out, HQ.out]), HB1.out.trans (hb2.mono HB1.out.size)⟩
  · go_wp2
    go_ret
    exact ⟨ret_b (by simp [stdB, lss, HR.out]), HB1.out⟩
/-- What the map tells of a text. -/
theorem look_run {w : World} {r : Nat} {es : Array MapEntry} {c : Nat} (k : ByteArray) (hb : w.heap[r]? = some (.map es c)) (v : Value) (i : Nat) (hf : Instr.findNow .string (.string k) es.toList 0 = some (some (i, v))) :
    (Instr.lookup 71 (.map (some r)) (.string k) true).run Tryd.prog w = .ok (.tuple #[v, .bool true]) w := by
  simp [Instr.lookup, run_underlying Tryd.mapT, MapKept.run_getObj_map hb, MapKept.run_checkKey Tryd.underlying9 (isKeyS k), Instr.findKey, run_underlying Tryd.underlying9, hf, Result.andThen]
theorem look_none {w : World} {r : Nat} {es : Array MapEntry} {c : Nat} (k : ByteArray) (hb : w.heap[r]? = some (.map es c)) (hf : Instr.findNow .string (.string k) es.toList 0 = some none) :
    (Instr.lookup 71 (.map (some r)) (.string k) true).run Tryd.prog w = .ok (.tuple #[.nilFunc, .bool false]) w := by
  simp [Instr.lookup, run_underlying Tryd.mapT, MapKept.run_getObj_map hb, MapKept.run_checkKey Tryd.underlying9 (isKeyS k), Instr.findKey, run_underlying Tryd.underlying9, hf, Result.andThen]
theorem ba_ne {a b : ByteArray} (h : a ≠ b) : (a == b) = false := by
  cases hc : (a == b)
  · rfl
  · exact absurd ((MapKept.bytes_beq a b).1 hc) h
theorem find_none {k : ByteArray} (h : ∀ i, i < 6 → k ≠ stdT i) : Instr.findNow .string (.string k) stdE.toList 0 = some none := by
  have h0 := h 0 (by omega)
  have h1 := h 1 (by omega)
  have h2 := h 2 (by omega)
  have h3 := h 3 (by omega)
  have h4 := h 4 (by omega)
  have h5 := h 5 (by omega)
  simp only [stdT] at h0 h1 h2 h3 h4 h5
  have e0 : (k == (⟨#[60]⟩ : ByteArray)) = false := ba_ne h0
  have e1 : (k == (⟨#[60, 61]⟩ : ByteArray)) = false := ba_ne h1
  have e2 : (k == (⟨#[61]⟩ : ByteArray)) = false := ba_ne h2
  have e3 : (k == (⟨#[33, 61]⟩ : ByteArray)) = false := ba_ne h3
  have e4 : (k == (⟨#[62]⟩ : ByteArray)) = false := ba_ne h4
  have e5 : (k == (⟨#[62, 61]⟩ : ByteArray)) = false := ba_ne h5
  simp [stdE, Instr.findNow, Instr.sameNow, e0, e1, e2, e3, e4, e5]
end Go.Proofs.YthlnjnoeaicjjaaDoor
