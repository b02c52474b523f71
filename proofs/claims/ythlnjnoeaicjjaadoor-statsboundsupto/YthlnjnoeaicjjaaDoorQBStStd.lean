/-
  stats.standings: a map of texts to functions, entry by entry.
  How values stand: the functions of stats.standings, and what its map tells of a text.
-/
import Derived.Test.YthlnjnoeaicjjaaDoorQBStBase
import Derived.MapKept
import Derived.Carry
namespace Go.Proofs.YthlnjnoeaicjjaaDoor
open Go.RowKit
/-- A block that holds another thing. -/
def setObjB (w : World) (b : Nat) (o : Obj) : World := { w with heap := w.heap.setIfInBounds b o }
theorem setObjB_at {w : World} {b : Nat} {o o' : Obj} (h : w.heap[b]? = some o') : (setObjB w b o).heap[b]? = some o := by
  have hl := lt_of_block h
  simp [setObjB, hl]
theorem setObjB_below {B b : Nat} {a w : World} (h : Below B a w) (hb : B ≤ b) (o : Obj) : Below B a (setObjB w b o) :=
  h.trans ⟨rfl, rfl, rfl, by simp [setObjB], fun k hk => by simp only [setObjB]; rw [Array.getElem?_setIfInBounds_ne (by omega)]⟩
/-- The map's type: texts to functions. -/
theorem Tryd.mapT : Tryd.prog.underlying 71 = some (.map 9 37) := by kernel_rfl
theorem isKeyS (s : ByteArray) : MapKept.IsKey .string (.string s) := trivial
theorem upd_new {w : World} {r c : Nat} {es : Array MapEntry} (k : ByteArray) (v : Value) (hb : w.heap[r]? = some (.map es c)) (hf : Instr.findNow .string (.string k) es.toList 0 = some none) :
    (Instr.mapUpdate 71 (.map (some r)) (.string k) v).run Tryd.prog w = .ok () (setObjB w r (.map (es.push ⟨.string k, v, c⟩) (c + 1))) := by
  simp [Instr.mapUpdate, run_underlying Tryd.mapT, MapKept.run_getObj_map hb, MapKept.run_checkKey Tryd.underlying9 (isKeyS k), Instr.findKey, run_underlying Tryd.underlying9, hf, MapKept.run_setObj_map _ hb, Result.andThen, setObjB]
/-- The entries. -/
def stdE : Array MapEntry := #[⟨.string ⟨#[60]⟩, .func (.func 24) #[] #[], 0⟩, ⟨.string ⟨#[60, 61]⟩, .func (.func 47) #[] #[], 1⟩, ⟨.string ⟨#[61]⟩, .func (.func 48) #[] #[], 2⟩, ⟨.string ⟨#[33, 61]⟩, .func (.func 49) #[] #[], 3⟩, ⟨.string ⟨#[62]⟩, .func (.func 50) #[] #[], 4⟩, ⟨.string ⟨#[62, 61]⟩, .func (.func 51) #[] #[], 5⟩]
set_option maxRecDepth 100000 in
set_option maxHeartbeats 1600000 in
theorem standings_any (W : World) : Calls Tryd.prog 32 #[] W fun e w' => e = .returned (.map (some W.heap.size)) ∧ w'.heap[W.heap.size]? = some (.map stdE 6) ∧ Below W.heap.size W w' := by
  have hmm := @run_makeMap Tryd.prog
  have b0 : Below W.heap.size W (W.alloc (.map #[] 0)) := (Below.refl _ _).alloc (Nat.le_refl _) _
  have g0 : (W.alloc (.map #[] 0)).heap[W.heap.size]? = some (.map #[] 0) := heap_alloc_new W _
  have h0 := upd_new ⟨#[60]⟩ (.func (.func 24) #[] #[]) g0 (by kernel_rfl)
  obtain ⟨w1, hw1⟩ : ∃ x, setObjB (W.alloc (.map #[] 0)) W.heap.size (.map #[⟨.string ⟨#[60]⟩, .func (.func 24) #[] #[], 0⟩] 1) = x := ⟨_, rfl⟩
  have r0 : (Instr.mapUpdate 71 (.map (some W.heap.size)) (.string ⟨#[60]⟩) (.func (.func 24) #[] #[])).run Tryd.prog (W.alloc (.map #[] 0)) = .ok () w1 := h0.trans (by rw [← hw1]; rfl)
  have b1 : Below W.heap.size W w1 := by rw [← hw1]; exact setObjB_below b0 (Nat.le_refl _) _
  have g1 : w1.heap[W.heap.size]? = some (.map #[⟨.string ⟨#[60]⟩, .func (.func 24) #[] #[], 0⟩] 1) := by rw [← hw1]; exact setObjB_at g0
  clear h0 hw1
  have h1 := upd_new ⟨#[60, 61]⟩ (.func (.func 47) #[] #[]) g1 (by kernel_rfl)
  obtain ⟨w2, hw2⟩ : ∃ x, setObjB w1 W.heap.size (.map #[⟨.string ⟨#[60]⟩, .func (.func 24) #[] #[], 0⟩, ⟨.string ⟨#[60, 61]⟩, .func (.func 47) #[] #[], 1⟩] 2) = x := ⟨_, rfl⟩
  have r1 : (Instr.mapUpdate 71 (.map (some W.heap.size)) (.string ⟨#[60, 61]⟩) (.func (.func 47) #[] #[])).run Tryd.prog w1 = .ok () w2 := h1.trans (by rw [← hw2]; rfl)
  have b2 : Below W.heap.size W w2 := by rw [← hw2]; exact setObjB_below b1 (Nat.le_refl _) _
  have g2 : w2.heap[W.heap.size]? = some (.map #[⟨.string ⟨#[60]⟩, .func (.func 24) #[] #[], 0⟩, ⟨.string ⟨#[60, 61]⟩, .func (.func 47) #[] #[], 1⟩] 2) := by rw [← hw2]; exact setObjB_at g1
  clear h1 hw2
  have h2 := upd_new ⟨#[61]⟩ (.func (.func 48) #[] #[]) g2 (by kernel_rfl)
  obtain ⟨w3, hw3⟩ : ∃ x, setObjB w2 W.heap.size (.map #[⟨.string ⟨#[60]⟩, .func (.func 24) #[] #[], 0⟩, ⟨.string ⟨#[60, 61]⟩, .func (.func 47) #[] #[], 1⟩, ⟨.string ⟨#[61]⟩, .func (.func 48) #[] #[], 2⟩] 3) = x := ⟨_, rfl⟩
  have r2 : (Instr.mapUpdate 71 (.map (some W.heap.size)) (.string ⟨#[61]⟩) (.func (.func 48) #[] #[])).run Tryd.prog w2 = .ok () w3 := h2.trans (by rw [← hw3]; rfl)
  have b3 : Below W.heap.size W w3 := by rw [← hw3]; exact setObjB_below b2 (Nat.le_refl _) _
  have g3 : w3.heap[W.heap.size]? = some (.map #[⟨.string ⟨#[60]⟩, .func (.func 24) #[] #[], 0⟩, ⟨.string ⟨#[60, 61]⟩, .func (.func 47) #[] #[], 1⟩, ⟨.string ⟨#[61]⟩, .func (.func 48) #[] #[], 2⟩] 3) := by rw [← hw3]; exact setObjB_at g2
  clear h2 hw3
  have h3 := upd_new ⟨#[33, 61]⟩ (.func (.func 49) #[] #[]) g3 (by kernel_rfl)
  obtain ⟨w4, hw4⟩ : ∃ x, setObjB w3 W.heap.size (.map #[⟨.string ⟨#[60]⟩, .func (.func 24) #[] #[], 0⟩, ⟨.string ⟨#[60, 61]⟩, .func (.func 47) #[] #[], 1⟩, ⟨.string ⟨#[61]⟩, .func (.func 48) #[] #[], 2⟩, ⟨.string ⟨#[33, 61]⟩, .func (.func 49) #[] #[], 3⟩] 4) = x := ⟨_, rfl⟩
  have r3 : (Instr.mapUpdate 71 (.map (some W.heap.size)) (.string ⟨#[33, 61]⟩) (.func (.func 49) #[] #[])).run Tryd.prog w3 = .ok () w4 := h3.trans (by rw [← hw4]; rfl)
  have b4 : Below W.heap.size W w4 := by rw [← hw4]; exact setObjB_below b3 (Nat.le_refl _) _
  have g4 : w4.heap[W.heap.size]? = some (.map #[⟨.string ⟨#[60]⟩, .func (.func 24) #[] #[], 0⟩, ⟨.string ⟨#[60, 61]⟩, .func (.func 47) #[] #[], 1⟩, ⟨.string ⟨#[61]⟩, .func (.func 48) #[] #[], 2⟩, ⟨.string ⟨#[33, 61]⟩, .func (.func 49) #[] #[], 3⟩] 4) := by rw [← hw4]; exact setObjB_at g3
  clear h3 hw4
  have h4 := upd_new ⟨#[62]⟩ (.func (.func 50) #[] #[]) g4 (by kernel_rfl)
  obtain ⟨w5, hw5⟩ : ∃ x, setObjB w4 W.heap.size (.map #[⟨.string ⟨#[60]⟩, .func (.func 24) #[] #[], 0⟩, ⟨.string ⟨#[60, 61]⟩, .func (.func 47) #[] #[], 1⟩, ⟨.string ⟨#[61]⟩, .func (.func 48) #[] #[], 2⟩, ⟨.string ⟨#[33, 61]⟩, .func (.func 49) #[] #[], 3⟩, ⟨.string ⟨#[62]⟩, .func (.func 50) #[] #[], 4⟩] 5) = x := ⟨_, rfl⟩
  have r4 : (Instr.mapUpdate 71 (.map (some W.heap.size)) (.string ⟨#[62]⟩) (.func (.func 50) #[] #[])).run Tryd.prog w4 = .ok () w5 := h4.trans (by rw [← hw5]; rfl)
  have b5 : Below W.heap.size W w5 := by rw [← hw5]; exact setObjB_below b4 (Nat.le_refl _) _
  have g5 : w5.heap[W.heap.size]? = some (.map #[⟨.string ⟨#[60]⟩, .func (.func 24) #[] #[], 0⟩, ⟨.string ⟨#[60, 61]⟩, .func (.func 47) #[] #[], 1⟩, ⟨.string ⟨#[61]⟩, .func (.func 48) #[] #[], 2⟩, ⟨.string ⟨#[33, 61]⟩, .func (.func 49) #[] #[], 3⟩, ⟨.string ⟨#[62]⟩, .func (.func 50) #[] #[], 4⟩] 5) := by rw [← hw5]; exact setObjB_at g4
  clear h4 hw5
  have h5 := upd_new ⟨#[62, 61]⟩ (.func (.func 51) #[] #[]) g5 (by kernel_rfl)
  obtain ⟨w6, hw6⟩ : ∃ x, setObjB w5 W.heap.size (.map #[⟨.string ⟨#[60]⟩, .func (.func 24) #[] #[], 0⟩, ⟨.string ⟨#[60, 61]⟩, .func (.func 47) #[] #[], 1⟩, ⟨.string ⟨#[61]⟩, .func (.func 48) #[] #[], 2⟩, ⟨.string ⟨#[33, 61]⟩, .func (.func 49) #[] #[], 3⟩, ⟨.string ⟨#[62]⟩, .func (.func 50) #[] #[], 4⟩, ⟨.string ⟨#[62, 61]⟩, .func (.func 51) #[] #[], 5⟩] 6) = x := ⟨_, rfl⟩
  have r5 : (Instr.mapUpdate 71 (.map (some W.heap.size)) (.string ⟨#[62, 61]⟩) (.func (.func 51) #[] #[])).run Tryd.prog w5 = .ok () w6 := h5.trans (by rw [← hw6]; rfl)
  have b6 : Below W.heap.size W w6 := by rw [← hw6]; exact setObjB_below b5 (Nat.le_refl _) _
  have g6 : w6.heap[W.heap.size]? = some (.map #[⟨.string ⟨#[60]⟩, .func (.func 24) #[] #[], 0⟩, ⟨.string ⟨#[60, 61]⟩, .func (.func 47) #[] #[], 1⟩, ⟨.string ⟨#[61]⟩, .func (.func 48) #[] #[], 2⟩, ⟨.string ⟨#[33, 61]⟩, .func (.func 49) #[] #[], 3⟩, ⟨.string ⟨#[62]⟩, .func (.func 50) #[] #[], 4⟩, ⟨.string ⟨#[62, 61]⟩, .func (.func 51) #[] #[], 5⟩] 6) := by rw [← hw6]; exact setObjB_at g5
  clear h5 hw6
  go_enter Tryd.func32, Tryd.ntmps32
  go_wp2
  go_ret
  exact ⟨rfl, g6, b6⟩
end Go.Proofs.YthlnjnoeaicjjaaDoor

namespace Go.Proofs.YthlnjnoeaicjjaaDoor
open Go.RowKit
/-- How one value stands to another: <, <=, =, !=, >, >=. -/
def stdB : Nat → Vl → Vl → Bool
  | 0, a, b => lss a b
  | 1, a, b => !lss b a
  | 2, a, b => !lss a b && !lss b a
  | 3, a, b => lss a b || lss b a
  | 4, a, b => lss b a
  | _, a, b => !lss a b
/-- The text of each. -/
def stdT : Nat → ByteArray
  | 0 => ⟨#[60]⟩
  | 1 => ⟨#[60, 61]⟩
  | 2 => ⟨#[61]⟩
  | 3 => ⟨#[33, 61]⟩
  | 4 => ⟨#[62]⟩
  | _ => ⟨#[62, 61]⟩
theorem stand0 (a b : Vl) (W : World) (ha : a.Low) (hb : b.Low) : Calls Tryd.prog 24 #[.agg #[.int .i64 a.k, .int .i64 a.n, .string a.s], .agg #[.int .i64 b.k, .int .i64 b.n, .string b.s]] W fun e w' => e = .returned (.bool (stdB 0 a b)) ∧ Below W.heap.size W w' := less_any a.k a.n a.s b.k b.n b.s W ha hb
set_option maxRecDepth 100000 in
set_option maxHeartbeats 1600000 in
theorem stand1 (a b : Vl) (W : World) (ha : a.Low) (hb : b.Low) : Calls Tryd.prog 47 #[.agg #[.int .i64 a.k, .int .i64 a.n, .string a.s], .agg #[.int .i64 b.k, .int .i64 b.n, .string b.s]] W fun e w' => e = .returned (.bool (stdB 1 a b)) ∧ Below W.heap.size W w' := by
  obtain ⟨w0, HW0, HX, HY, HB⟩ := two_boxes W #[.int .i64 a.k, .int .i64 a.n, .string a.s] #[.int .i64 b.k, .int .i64 b.n, .string b.s] 23 23
  obtain ⟨x0, x1, x2⟩ := row_three HX.out
  obtain ⟨y0, y1, y2⟩ := row_three HY.out
  unfold Vl.Low at ha hb
  go_enter Tryd.func47, Tryd.ntmps47
  go_wp2_with fail
  rw [HW0.out]
  refine (less_any b.k b.n b.s a.k a.n a.s w0 hb ha).mono ?_
  obtain ⟨r, HR⟩ : ∃ r, Hid (vless b.k b.n b.s a.k a.n a.s = r) := ⟨_, rfl⟩
  rw [HR.out]
  rintro e w1 ⟨rfl, hb1⟩
  go_wp2
  go_ret
  exact ⟨ret_b (by simp [stdB, lss, HR.out]), HB.out.trans (hb1.mono HB.out.size)⟩
set_option maxRecDepth 100000 in
set_option maxHeartbeats 1600000 in
theorem stand4 (a b : Vl) (W : World) (ha : a.Low) (hb : b.Low) : Calls Tryd.prog 50 #[.agg #[.int .i64 a.k, .int .i64 a.n, .string a.s], .agg #[.int .i64 b.k, .int .i64 b.n, .string b.s]] W fun e w' => e = .returned (.bool (stdB 4 a b)) ∧ Below W.heap.size W w' := by
  obtain ⟨w0, HW0, HX, HY, HB⟩ := two_boxes W #[.int .i64 a.k, .int .i64 a.n, .string a.s] #[.int .i64 b.k, .int .i64 b.n, .string b.s] 23 23
  obtain ⟨x0, x1, x2⟩ := row_three HX.out
  obtain ⟨y0, y1, y2⟩ := row_three HY.out
  unfold Vl.Low at ha hb
  go_enter Tryd.func50, Tryd.ntmps50
  go_wp2_with fail
  rw [HW0.out]
  refine (less_any b.k b.n b.s a.k a.n a.s w0 hb ha).mono ?_
  obtain ⟨r, HR⟩ : ∃ r, Hid (vless b.k b.n b.s a.k a.n a.s = r) := ⟨_, rfl⟩
  rw [HR.out]
  rintro e w1 ⟨rfl, hb1⟩
  go_wp2
  go_ret
  exact ⟨ret_b (by simp [stdB, lss, HR.out]), HB.out.trans (hb1.mono HB.out.size)⟩
set_option maxRecDepth 100000 in
set_option maxHeartbeats 1600000 in
theorem stand5 (a b : Vl) (W : World) (ha : a.Low) (hb : b.Low) : Calls Tryd.prog 51 #[.agg #[.int .i64 a.k, .int .i64 a.n, .string a.s], .agg #[.int .i64 b.k, .int .i64 b.n, .string b.s]] W fun e w' => e = .returned (.bool (stdB 5 a b)) ∧ Below W.heap.size W w' := by
  obtain ⟨w0, HW0, HX, HY, HB⟩ := two_boxes W #[.int .i64 a.k, .int .i64 a.n, .string a.s] #[.int .i64 b.k, .int .i64 b.n, .string b.s] 23 23
  obtain ⟨x0, x1, x2⟩ := row_three HX.out
  obtain ⟨y0, y1, y2⟩ := row_three HY.out
  unfold Vl.Low at ha hb
  go_enter Tryd.func51, Tryd.ntmps51
  go_wp2_with fail
  rw [HW0.out]
  refine (less_any a.k a.n a.s b.k b.n b.s w0 ha hb).mono ?_
  obtain ⟨r, HR⟩ : ∃ r, Hid (vless a.k a.n a.s b.k b.n b.s = r) := ⟨_, rfl⟩
  rw [HR.out]
  rintro e w1 ⟨rfl, hb1⟩
  go_wp2
  go_ret
  exact ⟨ret_b (by simp [stdB, lss, HR.out]), HB.out.trans (hb1.mono HB.out.size)⟩
set_option maxRecDepth 100000 in
set_option maxHeartbeats 1600000 in
theorem stand2 (a b : Vl) (W : World) (ha : a.Low) (hb : b.Low) : Calls Tryd.prog 48 #[.agg #[.int .i64 a.k, .int .i64 a.n, .string a.s], .agg #[.int .i64 b.k, .int .i64 b.n, .string b.s]] W fun e w' => e = .returned (.bool (stdB 2 a b)) ∧ Below W.heap.size W w' := by
  obtain ⟨w0, HW0, HX, HY, HB⟩ := two_boxes W #[.int .i64 a.k, .int .i64 a.n, .string a.s] #[.int .i64 b.k, .int .i64 b.n, .string b.s] 23 23
  obtain ⟨x0, x1, x2⟩ := row_three HX.out
  obtain ⟨y0, y1, y2⟩ := row_three HY.out
  unfold Vl.Low at ha hb
  go_enter Tryd.func48, Tryd.ntmps48
  go_wp2_with fail
  rw [HW0.out]
  refine (less_any a.k a.n a.s b.k b.n b.s w0 ha hb).mono ?_
  obtain ⟨r, HR⟩ : ∃ r, Hid (vless a.k a.n a.s b.k b.n b.s = r) := ⟨_, rfl⟩
  obtain ⟨q, HQ⟩ : ∃ r, Hid (vless b.k b.n b.s a.k a.n a.s = r) := ⟨_, rfl⟩
  rw [HR.out]
  rintro e w1 ⟨rfl, hb1⟩
  have HB1 : Hid (Below W.heap.size W w1) := HB.out.trans (hb1.mono HB.out.size)
  clear x0 x1 x2 y0 y1 y2
  obtain ⟨x0, x1, x2⟩ := row_three (blk_keep hb1 HX.out)
  obtain ⟨y0, y1, y2⟩ := row_three (blk_keep hb1 HY.out)
  cases r
  · go_wp2_with fail
    refine (less_any b.k b.n b.s a.k a.n a.s w1 hb ha).mono ?_
    rw [HQ.out]
    rintro e w2 ⟨rfl, hb2⟩
    go_wp2
    go_ret
    exact ⟨ret_b (by simp [stdB, lss, HR.out, HQ.out]), HB1.out.trans (hb2.mono HB1.out.size)⟩
  · go_wp2
    go_ret
    exact ⟨ret_b (by simp [stdB, lss, HR.out]), HB1.out⟩
set_option maxRecDepth 100000 in
set_option maxHeartbeats 1600000 in
theorem stand3 (a b : Vl) (W : World) (ha : a.Low) (hb : b.Low) : Calls Tryd.prog 49 #[.agg #[.int .i64 a.k, .int .i64 a.n, .string a.s], .agg #[.int .i64 b.k, .int .i64 b.n, .string b.s]] W fun e w' => e = .returned (.bool (stdB 3 a b)) ∧ Below W.heap.size W w' := by
  obtain ⟨w0, HW0, HX, HY, HB⟩ := two_boxes W #[.int .i64 a.k, .int .i64 a.n, .string a.s] #[.int .i64 b.k, .int .i64 b.n, .string b.s] 23 23
  obtain ⟨x0, x1, x2⟩ := row_three HX.out
  obtain ⟨y0, y1, y2⟩ := row_three HY.out
  unfold Vl.Low at ha hb
  go_enter Tryd.func49, Tryd.ntmps49
  go_wp2_with fail
  rw [HW0.out]
  refine (less_any a.k a.n a.s b.k b.n b.s w0 ha hb).mono ?_
  obtain ⟨r, HR⟩ : ∃ r, Hid (vless a.k a.n a.s b.k b.n b.s = r) := ⟨_, rfl⟩
  obtain ⟨q, HQ⟩ : ∃ r, Hid (vless b.k b.n b.s a.k a.n a.s = r) := ⟨_, rfl⟩
  rw [HR.out]
  rintro e w1 ⟨rfl, hb1⟩
  have HB1 : Hid (Below W.heap.size W w1) := HB.out.trans (hb1.mono HB.out.size)
  clear x0 x1 x2 y0 y1 y2
  obtain ⟨x0, x1, x2⟩ := row_three (blk_keep hb1 HX.out)
  obtain ⟨y0, y1, y2⟩ := row_three (blk_keep hb1 HY.out)
  cases r
  · go_wp2_with fail
    refine (less_any b.k b.n b.s a.k a.n a.s w1 hb ha).mono ?_
    rw [HQ.out]
    rintro e w2 ⟨rfl, hb2⟩
    go_wp2
    go_ret
    exact ⟨ret_b (by simp [stdB, lss, HR.out, HQ.out]), HB1.out.trans (hb2.mono HB1.out.size)⟩
  · go_wp2
    go_ret
    exact ⟨ret_b (by simp [stdB, lss, HR.out]), HB1.out⟩
/-- What the map tells of a text. -/
theorem look_run {w : World} {r : Nat} {es : Array MapEntry} {c : Nat} (k : ByteArray) (hb : w.heap[r]? = some (.map es c)) (v : Value) (i : Nat) (hf : Instr.findNow .string (.string k) es.toList 0 = some (some (i, v))) :
    (Instr.lookup 71 (.map (some r)) (.string k) true).run Tryd.prog w = .ok (.tuple #[v, .bool true]) w := by
  simp [Instr.lookup, run_underlying Tryd.mapT, MapKept.run_getObj_map hb, MapKept.run_checkKey Tryd.underlying9 (isKeyS k), Instr.findKey, run_underlying Tryd.underlying9, hf, Result.andThen]
theorem look_none {w : World} {r : Nat} {es : Array MapEntry} {c : Nat} (k : ByteArray) (hb : w.heap[r]? = some (.map es c)) (hf : Instr.findNow .string (.string k) es.toList 0 = some none) :
    (Instr.lookup 71 (.map (some r)) (.string k) true).run Tryd.prog w = .ok (.tuple #[.nilFunc, .bool false]) w := by
  simp [Instr.lookup, run_underlying Tryd.mapT, MapKept.run_getObj_map hb, MapKept.run_checkKey Tryd.underlying9 (isKeyS k), Instr.findKey, run_underlying Tryd.underlying9, hf, Result.andThen]
theorem ba_ne {a b : ByteArray} (h : a ≠ b) : (a == b) = false := by
  cases hc : (a == b)
  · rfl
  · exact absurd ((MapKept.bytes_beq a b).1 hc) h
theorem find_none {k : ByteArray} (h : ∀ i, i < 6 → k ≠ stdT i) : Instr.findNow .string (.string k) stdE.toList 0 = some none := by
  have h0 := h 0 (by omega)
  have h1 := h 1 (by omega)
  have h2 := h 2 (by omega)
  have h3 := h 3 (by omega)
  have h4 := h 4 (by omega)
  have h5 := h 5 (by omega)
  simp only [stdT] at h0 h1 h2 h3 h4 h5
  have e0 : (k == (⟨#[60]⟩ : ByteArray)) = false := ba_ne h0
  have e1 : (k == (⟨#[60, 61]⟩ : ByteArray)) = false := ba_ne h1
  have e2 : (k == (⟨#[61]⟩ : ByteArray)) = false := ba_ne h2
  have e3 : (k == (⟨#[33, 61]⟩ : ByteArray)) = false := ba_ne h3
  have e4 : (k == (⟨#[62]⟩ : ByteArray)) = false := ba_ne h4
  have e5 : (k == (⟨#[62, 61]⟩ : ByteArray)) = false := ba_ne h5
  simp [stdE, Instr.findNow, Instr.sameNow, e0, e1, e2, e3, e4, e5]
end Go.Proofs.YthlnjnoeaicjjaaDoor
