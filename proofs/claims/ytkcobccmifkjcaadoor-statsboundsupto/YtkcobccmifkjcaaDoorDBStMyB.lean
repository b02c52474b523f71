/-
  stats.May: what its boxes hold, what it answers.
  The reference's StandsOf; stats.May of a text that is no way to stand.
  The reference's MayOf, and why both are one.
  What is known of values bounds them: the mathematics of StatsBounds.
  stats.May, of each way to stand.
-/
import Derived.Test.YtkcobccmifkjcaaDoorDBStStd
import Derived.Test.YtkcobccmifkjcaaDoorDBStSh
import Derived.Test.YtkcobccmifkjcaaDoorDOpenSt
import Derived.Test.YtkcobccmifkjcaaDoorDBVal
import Derived.BigQuiet
import Derived.Deep.RegionHeld3
import Derived.Test.YtkcobccmifkjcaaDoorDBLess
import Derived.Test.YtkcobccmifkjcaaDoorDBStBase
import Derived.Deep.RegionWith
namespace Go.Proofs.YtkcobccmifkjcaaDoor
open Go.RowKit
/-- What May's boxes hold. -/
structure MyI (W : World) (s : St) (v : Vl) (X : World) : Prop where
  st : X.heap[W.heap.size]? = some (.cells #[.int .i64 s.e, .int .i64 s.u, .bool s.h, .int .i64 s.mn.k, .int .i64 s.mn.n, .string s.mn.s, .int .i64 s.mx.k, .int .i64 s.mx.n, .string s.mx.s] 36 (0, 0))
  va : X.heap[W.heap.size + 1]? = some (.cells #[.int .i64 v.k, .int .i64 v.n, .string v.s] 34 (0, 0))
  old : Below W.heap.size W X
theorem MyI.keep {W : World} {s : St} {v : Vl} {X w' : World} (h : MyI W s v X) (hb : Below X.heap.size X w') : MyI W s v w' :=
  ⟨blk_keep hb h.st, blk_keep hb h.va, h.old.trans (hb.mono h.old.size)⟩
/-- Is it an error? -/
def myBad (s : St) (v : Vl) : Bool := !(okV v.k v.k v.n v.s.size) || (s.h && !(s.mn.k == v.k))
/-- May some value stand so? -/
def mayB (i : Nat) (s : St) (v : Vl) : Bool := stdB i s.mn v || stdB i s.mx v || ((!lss v s.mn && !lss s.mx v) && stdB i v v)
/-- Right bounds. -/
def GoodS (s : St) (v : Vl) : Prop := okV v.k s.mn.k s.mn.n s.mn.s.size = true ∧ okV v.k s.mx.k s.mx.n s.mx.s.size = true ∧ lss s.mx s.mn = false
/-- What May answers, of a way to stand that there is. -/
def MyR (i : Nat) (s : St) (v : Vl) (kv : Value) (b : Bool) (ev : Value) : Prop :=
  (myBad s v = true ∧ b = false ∧ ev = kv) ∨ (myBad s v = false ∧ ev = .nilIface ∧ (s.h = false → b = false) ∧ (s.h = true → GoodS s v → b = mayB i s v))
theorem box_one (w : World) : (w.alloc (.cells #[.int .i64 0, .int .i64 0, .string ⟨#[]⟩] 34)).heap[w.heap.size]? = some (.cells #[.int .i64 0, .int .i64 0, .string ⟨#[]⟩] 34 (0, 0)) := heap_alloc_new w _
theorem box_fst (w : World) : ((w.alloc (.cells #[.int .i64 0, .int .i64 0, .string ⟨#[]⟩] 34)).alloc (.cells #[.int .i64 0, .int .i64 0, .string ⟨#[]⟩] 34)).heap[w.heap.size]? = some (.cells #[.int .i64 0, .int .i64 0, .string ⟨#[]⟩] 34 (0, 0)) := blk_alloc (heap_alloc_new w _)
theorem box_snd (w : World) : ((w.alloc (.cells #[.int .i64 0, .int .i64 0, .string ⟨#[]⟩] 34)).alloc (.cells #[.int .i64 0, .int .i64 0, .string ⟨#[]⟩] 34)).heap[w.heap.size + 1]? = some (.cells #[.int .i64 0, .int .i64 0, .string ⟨#[]⟩] 34 (0, 0)) := by
  have h := heap_alloc_new (w.alloc (.cells #[.int .i64 0, .int .i64 0, .string ⟨#[]⟩] 34)) (.cells #[.int .i64 0, .int .i64 0, .string ⟨#[]⟩] 34)
  rwa [show (w.alloc (.cells #[.int .i64 0, .int .i64 0, .string ⟨#[]⟩] 34)).heap.size = w.heap.size + 1 by simp] at h
/-- May's boxes, with both ends. -/
structure MyD (W : World) (s : St) (v : Vl) (g1 g2 : Nat) (lo hi : Vl) (X : World) : Prop where
  my : MyI W s v X
  lo : X.heap[g1]? = some (.cells #[.int .i64 lo.k, .int .i64 lo.n, .string lo.s] 34 (0, 0))
  hi : X.heap[g2]? = some (.cells #[.int .i64 hi.k, .int .i64 hi.n, .string hi.s] 34 (0, 0))
theorem MyD.keep {W : World} {s : St} {v : Vl} {g1 g2 : Nat} {lo hi : Vl} {X w' : World} (h : MyD W s v g1 g2 lo hi X) (hb : Below X.heap.size X w') : MyD W s v g1 g2 lo hi w' := ⟨h.my.keep hb, blk_keep hb h.lo, blk_keep hb h.hi⟩
/-- Two boxes with two values. -/
def LoHi (wx w : World) (g1 g2 : Nat) (lo hi : Vl) : Prop := Below wx.heap.size wx w ∧ w.heap[g1]? = some (.cells #[.int .i64 lo.k, .int .i64 lo.n, .string lo.s] 34 (0, 0)) ∧ w.heap[g2]? = some (.cells #[.int .i64 hi.k, .int .i64 hi.n, .string hi.s] 34 (0, 0))
theorem lohi1 {wx x2 : World} (h : Below wx.heap.size wx x2) (lo hi : Vl) : LoHi wx ((x2.alloc (.cells #[.int .i64 lo.k, .int .i64 lo.n, .string lo.s] 34)).alloc (.cells #[.int .i64 hi.k, .int .i64 hi.n, .string hi.s] 34)) x2.heap.size (x2.heap.size + 1) lo hi := by
  have hs := h.size
  refine ⟨(h.alloc h.size _).alloc (by simp; omega) _, blk_alloc (heap_alloc_new x2 _), ?_⟩
  have h := heap_alloc_new (x2.alloc (.cells #[.int .i64 lo.k, .int .i64 lo.n, .string lo.s] 34)) (.cells #[.int .i64 hi.k, .int .i64 hi.n, .string hi.s] 34)
  rwa [show (x2.alloc (.cells #[.int .i64 lo.k, .int .i64 lo.n, .string lo.s] 34)).heap.size = x2.heap.size + 1 by simp] at h
theorem lohi2 {wx x2 : World} (h : Below wx.heap.size wx x2) (lo hi : Vl) : LoHi wx ((x2.alloc (.cells #[.int .i64 hi.k, .int .i64 hi.n, .string hi.s] 34)).alloc (.cells #[.int .i64 lo.k, .int .i64 lo.n, .string lo.s] 34)) (x2.heap.size + 1) x2.heap.size lo hi := by
  have hs := h.size
  refine ⟨(h.alloc h.size _).alloc (by simp; omega) _, ?_, blk_alloc (heap_alloc_new x2 _)⟩
  have h := heap_alloc_new (x2.alloc (.cells #[.int .i64 hi.k, .int .i64 hi.n, .string hi.s] 34)) (.cells #[.int .i64 lo.k, .int .i64 lo.n, .string lo.s] 34)
  rwa [show (x2.alloc (.cells #[.int .i64 hi.k, .int .i64 hi.n, .string hi.s] 34)).heap.size = x2.heap.size + 1 by simp] at h
theorem lohi3 {wx x2 : World} {a : Nat} (h : Below wx.heap.size wx x2) (za : x2.heap[a]? = some (.cells #[.int .i64 0, .int .i64 0, .string ⟨#[]⟩] 34 (0, 0))) (ha : wx.heap.size ≤ a) (lo hi : Vl) : LoHi wx (set3 (set3 (x2.alloc (.cells #[.int .i64 0, .int .i64 0, .string ⟨#[]⟩] 34)) a (.int .i64 lo.k) (.int .i64 lo.n) (.string lo.s)) x2.heap.size (.int .i64 hi.k) (.int .i64 hi.n) (.string hi.s)) a x2.heap.size lo hi := by
  have hl := lt_of_block za
  exact ⟨set3_below (set3_below (h.alloc h.size _) ha _ _ _) h.size _ _ _, set3_other (set3_row (blk_alloc za) _ _ _) (by omega) _ _ _, set3_row (set3_other (box_one x2) (by omega) _ _ _) _ _ _⟩
theorem lohi4 {wx x2 : World} {a b : Nat} (h : Below wx.heap.size wx x2) (za : x2.heap[a]? = some (.cells #[.int .i64 0, .int .i64 0, .string ⟨#[]⟩] 34 (0, 0))) (zb : x2.heap[b]? = some (.cells #[.int .i64 0, .int .i64 0, .string ⟨#[]⟩] 34 (0, 0))) (hab : a ≠ b) (ha : wx.heap.size ≤ a) (hb : wx.heap.size ≤ b) (lo hi : Vl) : LoHi wx (set3 (set3 x2 a (.int .i64 lo.k) (.int .i64 lo.n) (.string lo.s)) b (.int .i64 hi.k) (.int .i64 hi.n) (.string hi.s)) a b lo hi :=
  ⟨set3_below (set3_below h ha _ _ _) hb _ _ _, set3_other (set3_row za _ _ _) hab _ _ _, set3_row (set3_other zb (fun e => hab e.symm) _ _ _) _ _ _⟩
theorem lohi5 {wx x2 : World} {a : Nat} (h : Below wx.heap.size wx x2) (za : x2.heap[a]? = some (.cells #[.int .i64 0, .int .i64 0, .string ⟨#[]⟩] 34 (0, 0))) (ha : wx.heap.size ≤ a) (lo hi : Vl) : LoHi wx (set3 (x2.alloc (.cells #[.int .i64 lo.k, .int .i64 lo.n, .string lo.s] 34)) a (.int .i64 hi.k) (.int .i64 hi.n) (.string hi.s)) x2.heap.size a lo hi := by
  have hl := lt_of_block za
  exact ⟨set3_below (h.alloc h.size _) ha _ _ _, set3_other (heap_alloc_new x2 _) (by omega) _ _ _, set3_row (blk_alloc za) _ _ _⟩
/-- The function of each way to stand. -/
def fnN : Nat → Nat
  | 0 => 38
  | 1 => 47
  | 2 => 48
  | 3 => 49
  | 4 => 50
  | _ => 51
theorem look_std {w : World} {r : Nat} (hb : w.heap[r]? = some (.map stdE 6)) (i : Nat) (hi : i < 6) :
    (Instr.lookup 76 (.map (some r)) (.string (stdT i)) true).run Tryd.prog w = .ok (.tuple #[.func (.func (fnN i)) #[] #[], .bool true]) w := by
  match i, hi with
  | 0, _ => exact look_run _ hb _ 0 (by kernel_rfl)
  | 1, _ => exact look_run _ hb _ 1 (by kernel_rfl)
  | 2, _ => exact look_run _ hb _ 2 (by kernel_rfl)
  | 3, _ => exact look_run _ hb _ 3 (by kernel_rfl)
  | 4, _ => exact look_run _ hb _ 4 (by kernel_rfl)
  | 5, _ => exact look_run _ hb _ 5 (by kernel_rfl)
end Go.Proofs.YtkcobccmifkjcaaDoor

namespace Go.Proofs.YtkcobccmifkjcaaDoor
open Go.RowKit
theorem str_ne {k : ByteArray} {l : List UInt8} (h : k ≠ ⟨l.toArray⟩) : (k.toList == l) = false := by
  rw [beq_eq_false_iff_ne]
  intro e
  apply h
  rw [ByteArray.toList_eq] at e
  obtain ⟨d⟩ := k
  congr 1
  exact Array.toList_inj.1 (by simpa using e)
set_option maxRecDepth 100000 in
set_option maxHeartbeats 3200000 in
theorem standsOf_any (i : Nat) (hi6 : i < 6) (a b : Vl) (W : World) (ha : a.Low) (hb : b.Low) :
    Calls Tryd.prog 19 #[.agg #[.int .i64 a.k, .int .i64 a.n, .string a.s], .string (stdT i), .agg #[.int .i64 b.k, .int .i64 b.n, .string b.s]] W fun e w' => e = .returned (.tuple #[.bool (stdB i a b), .bool true]) ∧ Below W.heap.size W w' := by
  unfold Vl.Low at ha hb
  obtain ⟨w0, HW0, HX, HY, HB⟩ := two_boxes W #[.int .i64 a.k, .int .i64 a.n, .string a.s] #[.int .i64 b.k, .int .i64 b.n, .string b.s] 34 34
  obtain ⟨x0, x1, x2⟩ := row_three HX.out
  obtain ⟨y0, y1, y2⟩ := row_three HY.out
  go_enter Tryd.func19, Tryd.ntmps19
  go_wp2_with fail
  rw [HW0.out]
  refine (lessOf_any a.k a.n a.s b.k b.n b.s w0 ha hb).mono ?_
  obtain ⟨r, HR⟩ : ∃ r, Hid (vless a.k a.n a.s b.k b.n b.s = r) := ⟨_, rfl⟩
  obtain ⟨q, HQ⟩ : ∃ r, Hid (vless b.k b.n b.s a.k a.n a.s = r) := ⟨_, rfl⟩
  rw [HR.out]
  rintro e w1 ⟨rfl, hb1⟩
  have HB1 : Hid (Below W.heap.size W w1) := HB.out.trans (hb1.mono HB.out.size)
  clear x0 x1 x2 y0 y1 y2
  obtain ⟨x0, x1, x2⟩ := row_three (blk_keep hb1 HX.out)
  obtain ⟨y0, y1, y2⟩ := row_three (blk_keep hb1 HY.out)
  clear hb1 HX HY HB HW0
  go_wp2_with fail
  refine (lessOf_any b.k b.n b.s a.k a.n a.s w1 hb ha).mono ?_
  rw [HQ.out]
  rintro e w2 ⟨rfl, hb2⟩
  have HB2 : Hid (Below W.heap.size W w2) := HB1.out.trans (hb2.mono HB1.out.size)
  clear x0 x1 x2 y0 y1 y2 hb2 HB1
  rcases (show i = 0 ∨ i = 1 ∨ i = 2 ∨ i = 3 ∨ i = 4 ∨ i = 5 by omega) with rfl | rfl | rfl | rfl | rfl | rfl
  · unfold stdT
    all_goals (cases r <;> cases q)
    all_goals
      go_wp2
      go_ret2
      exact ⟨by simp [stdB, lss, HR.out], HB2.out⟩
  · unfold stdT
    all_goals (cases r <;> cases q)
    all_goals
      go_wp2
      go_ret2
      exact ⟨by simp [stdB, lss, HQ.out], HB2.out⟩
  · unfold stdT
    all_goals (cases r <;> cases q)
    all_goals
      go_wp2
      go_ret2
      exact ⟨by simp [stdB, lss, HR.out, HQ.out], HB2.out⟩
  · unfold stdT
    all_goals (cases r <;> cases q)
    all_goals
      go_wp2
      go_ret2
      exact ⟨by simp [stdB, lss, HR.out, HQ.out], HB2.out⟩
  · unfold stdT
    all_goals (cases r <;> cases q)
    all_goals
      go_wp2
      go_ret2
      exact ⟨by simp [stdB, lss, HQ.out], HB2.out⟩
  · unfold stdT
    all_goals (cases r <;> cases q)
    all_goals
      go_wp2
      go_ret2
      exact ⟨by simp [stdB, lss, HR.out], HB2.out⟩
set_option maxRecDepth 100000 in
set_option maxHeartbeats 3200000 in
theorem standsOf_none (how : ByteArray) (hn : ∀ i, i < 6 → how ≠ stdT i) (a b : Vl) (W : World) (ha : a.Low) (hb : b.Low) :
    Calls Tryd.prog 19 #[.agg #[.int .i64 a.k, .int .i64 a.n, .string a.s], .string how, .agg #[.int .i64 b.k, .int .i64 b.n, .string b.s]] W fun e w' => e = .returned (.tuple #[.bool false, .bool false]) ∧ Below W.heap.size W w' := by
  unfold Vl.Low at ha hb
  have h0 := str_ne (l := [60]) (hn 0 (by omega))
  have h1 := str_ne (l := [60, 61]) (hn 1 (by omega))
  have h2 := str_ne (l := [61]) (hn 2 (by omega))
  have h3 := str_ne (l := [33, 61]) (hn 3 (by omega))
  have h4 := str_ne (l := [62]) (hn 4 (by omega))
  have h5 := str_ne (l := [62, 61]) (hn 5 (by omega))
  obtain ⟨w0, HW0, HX, HY, HB⟩ := two_boxes W #[.int .i64 a.k, .int .i64 a.n, .string a.s] #[.int .i64 b.k, .int .i64 b.n, .string b.s] 34 34
  obtain ⟨x0, x1, x2⟩ := row_three HX.out
  obtain ⟨y0, y1, y2⟩ := row_three HY.out
  go_enter Tryd.func19, Tryd.ntmps19
  go_wp2_with fail
  rw [HW0.out]
  refine (lessOf_any a.k a.n a.s b.k b.n b.s w0 ha hb).mono ?_
  rintro e w1 ⟨rfl, hb1⟩
  have HB1 : Hid (Below W.heap.size W w1) := HB.out.trans (hb1.mono HB.out.size)
  clear x0 x1 x2 y0 y1 y2
  obtain ⟨x0, x1, x2⟩ := row_three (blk_keep hb1 HX.out)
  obtain ⟨y0, y1, y2⟩ := row_three (blk_keep hb1 HY.out)
  clear hb1 HX HY HB HW0
  go_wp2_with fail
  refine (lessOf_any b.k b.n b.s a.k a.n a.s w1 hb ha).mono ?_
  rintro e w2 ⟨rfl, hb2⟩
  have HB2 : Hid (Below W.heap.size W w2) := HB1.out.trans (hb2.mono HB1.out.size)
  clear x0 x1 x2 y0 y1 y2 hb2 HB1
  go_wp2
  go_ret2
  exact ⟨rfl, HB2.out⟩
set_option maxRecDepth 100000 in
set_option maxHeartbeats 3200000 in
theorem may_none (how : ByteArray) (hn : ∀ i, i < 6 → how ≠ stdT i) (s : St) (v : Vl) (W : World) (tt : TypeId) (tp : Value) (ht : W.cell? ⟨1, 0, none⟩ = some (.iface tt tp)) :
    Calls Tryd.prog 21 #[.agg #[.int .i64 s.e, .int .i64 s.u, .bool s.h, .int .i64 s.mn.k, .int .i64 s.mn.n, .string s.mn.s, .int .i64 s.mx.k, .int .i64 s.mx.n, .string s.mx.s], .string how, .agg #[.int .i64 v.k, .int .i64 v.n, .string v.s]] W fun e w' => e = .returned (.tuple #[.bool false, .iface tt tp]) ∧ Below W.heap.size W w' := by
  obtain ⟨w0, HW0, HX, HY, HB⟩ := two_boxes W #[.int .i64 s.e, .int .i64 s.u, .bool s.h, .int .i64 s.mn.k, .int .i64 s.mn.n, .string s.mn.s, .int .i64 s.mx.k, .int .i64 s.mx.n, .string s.mx.s] #[.int .i64 v.k, .int .i64 v.n, .string v.s] 36 34
  have HKE : Hid (∀ X, Below W.heap.size W X → X.cell? ⟨1, 0, none⟩ = some (.iface tt tp)) := fun X hX => ckB ht hX
  clear ht HX HY
  go_enter Tryd.func21, Tryd.ntmps21
  go_wp2_with fail
  rw [HW0.out]
  refine (standings_any w0).mono ?_
  rintro e w1 ⟨rfl, hm, hb1⟩
  have hlk := look_none how hm (find_none hn)
  have HB1 : Hid (Below W.heap.size W w1) := HB.out.trans (hb1.mono HB.out.size)
  have hbe := HKE.out _ HB1.out
  clear hm hb1 HW0 HB
  go_wp2_with fail
  go_quiet (fail)
  go_wp2
  go_ret2
  exact ⟨rfl, blw_drewN HB1.out _⟩
end Go.Proofs.YtkcobccmifkjcaaDoor

namespace Go.Proofs.YtkcobccmifkjcaaDoor
open Go.RowKit
/-- What the reference answers. -/
def mayR (i : Nat) (s : St) (v : Vl) : Bool := if s.h then (if i = 2 then !lss v s.mn && !lss s.mx v else stdB i s.mn v || stdB i s.mx v) else false
theorem lss_tri {a b : Vl} (ha : a.Low) (hb : b.Low) (k : Int) (o1 : okV k a.k a.n a.s.size = true) (o2 : okV k b.k b.n b.s.size = true) : (lss a b && lss b a) = false ∧ ((lss a b || lss b a) = true ↔ a ≠ b) := by
  obtain ⟨ak, an, asx⟩ := a
  obtain ⟨bk, bn, bsx⟩ := b
  have e1 := okV_kind (v := ⟨ak, an, asx⟩) o1
  have e2 := okV_kind (v := ⟨bk, bn, bsx⟩) o2
  simp only at e1 e2 o1 o2
  subst e1
  subst e2
  have h := vless_tri _ an bn asx bsx ha hb (okV_iff.1 o1) (okV_iff.1 o2)
  refine ⟨h.1, h.2.trans ?_⟩
  simp
theorem lss_same {a b : Vl} (ha : a.Low) (hb : b.Low) (k : Int) (o1 : okV k a.k a.n a.s.size = true) (o2 : okV k b.k b.n b.s.size = true) (h1 : lss a b = false) (h2 : lss b a = false) : a = b := by
  have h := (lss_tri ha hb k o1 o2).2
  rw [h1, h2] at h
  exact Classical.byContradiction fun hn => by have := h.2 hn; cases this
theorem lss_irr {a : Vl} (ha : a.Low) (k : Int) (o1 : okV k a.k a.n a.s.size = true) : lss a a = false := by
  have h := (lss_tri ha ha k o1 o1).1
  rwa [Bool.and_self] at h
theorem may_same (i : Nat) (hi : i < 6) (s : St) (v : Vl) (hs : s.Low) (hv : v.Low) (hh : s.h = true) (hg : GoodS s v) (ho : okV v.k v.k v.n v.s.size = true) : mayB i s v = mayR i s v := by
  obtain ⟨g1, g2, g3⟩ := hg
  have hir : lss v v = false := lss_irr hv v.k ho
  have hmm : ∀ (h1 : lss s.mn v = false) (h2 : lss v s.mn = false), lss s.mx v = false := fun h1 h2 => by
    have e := lss_same hs.1 hv v.k g1 ho h1 h2
    rw [e] at g3
    exact g3
  have hxx : ∀ (h1 : lss s.mx v = false) (h2 : lss v s.mx = false), lss v s.mn = false := fun h1 h2 => by
    have e := lss_same hs.2 hv v.k g2 ho h1 h2
    rw [e] at g3
    exact g3
  unfold mayB mayR
  rw [hh]
  rcases (show i = 0 ∨ i = 1 ∨ i = 2 ∨ i = 3 ∨ i = 4 ∨ i = 5 by omega) with rfl | rfl | rfl | rfl | rfl | rfl
  all_goals
    simp only [stdB, hir]
    revert hmm hxx
    generalize lss s.mn v = a
    generalize lss v s.mn = b
    generalize lss s.mx v = c
    generalize lss v s.mx = d
    revert a b c d
    decide
set_option maxRecDepth 100000 in
set_option maxHeartbeats 3200000 in
theorem mayOf_any (i : Nat) (hi6 : i < 6) (s : St) (v : Vl) (W : World) (hs : s.Low) (hv : v.Low) :
    Calls Tryd.prog 23 #[.agg #[.int .i64 s.e, .int .i64 s.u, .bool s.h, .int .i64 s.mn.k, .int .i64 s.mn.n, .string s.mn.s, .int .i64 s.mx.k, .int .i64 s.mx.n, .string s.mx.s], .string (stdT i), .agg #[.int .i64 v.k, .int .i64 v.n, .string v.s]] W fun e w' => e = .returned (.bool (mayR i s v)) ∧ Below W.heap.size W w' := by
  obtain ⟨w0, HW0, HX, HY, HB⟩ := two_boxes W #[.int .i64 s.e, .int .i64 s.u, .bool s.h, .int .i64 s.mn.k, .int .i64 s.mn.n, .string s.mn.s, .int .i64 s.mx.k, .int .i64 s.mx.n, .string s.mx.s] #[.int .i64 v.k, .int .i64 v.n, .string v.s] 46 34
  obtain ⟨⟨x0, x1, x2, x3, x4, x5, x6, x7, x8⟩, _⟩ := row_nine HX.out
  obtain ⟨y0, y1, y2⟩ := row_three HY.out
  obtain ⟨sh, hsh⟩ : ∃ sh, s.h = sh := ⟨_, rfl⟩
  have HMR : Hid (mayR i s v = if sh then (if i = 2 then !lss v s.mn && !lss s.mx v else stdB i s.mn v || stdB i s.mx v) else false) := (by show _ = _; unfold mayR; rw [hsh])
  rw [hsh] at x2
  have hs1 := hs.1
  have hs2 := hs.2
  clear hsh
  go_enter Tryd.func23, Tryd.ntmps23
  go_upto_region 1 with fail
  rw [HW0.out]
  cases sh
  · go_wp2
    go_ret
    exact ⟨by rw [HMR.out]; rfl, HB.out⟩
  · go_wp2_with fail
    refine (standsOf_any i hi6 s.mn v w0 hs1 hv).mono ?_
    obtain ⟨b1, HB1⟩ : ∃ b, Hid (stdB i s.mn v = b) := ⟨_, rfl⟩
    obtain ⟨b2, HB2⟩ : ∃ b, Hid (stdB i s.mx v = b) := ⟨_, rfl⟩
    rw [HB1.out]
    rintro e w1 ⟨rfl, hb1⟩
    have HX1 : Hid _ := blk_keep hb1 HX.out
    have HY1 : Hid _ := blk_keep hb1 HY.out
    have HBw : Hid (Below W.heap.size W w1) := HB.out.trans (hb1.mono HB.out.size)
    clear x0 x1 x2 x3 x4 x5 x6 x7 x8 y0 y1 y2 hb1 HX HY HB HW0
    obtain ⟨⟨x0, x1, x2, x3, x4, x5, x6, x7, x8⟩, _⟩ := row_nine HX1.out
    obtain ⟨y0, y1, y2⟩ := row_three HY1.out
    clear x2
    go_wp2_with fail
    refine (standsOf_any i hi6 s.mx v w1 hs2 hv).mono ?_
    rw [HB2.out]
    rintro e w2 ⟨rfl, hb2⟩
    have HX2 : Hid _ := blk_keep hb2 HX1.out
    have HY2 : Hid _ := blk_keep hb2 HY1.out
    have HBx : Hid (Below W.heap.size W w2) := HBw.out.trans (hb2.mono HBw.out.size)
    clear x0 x1 x3 x4 x5 x6 x7 x8 y0 y1 y2 hb2 HX1 HY1 HBw
    obtain ⟨⟨x0, x1, x2, x3, x4, x5, x6, x7, x8⟩, _⟩ := row_nine HX2.out
    obtain ⟨y0, y1, y2⟩ := row_three HY2.out
    clear x2
    have hvn : -9223372036854775808 ≤ v.n := hv
    have hn1 : -9223372036854775808 ≤ s.mn.n := hs1
    have hn2 : -9223372036854775808 ≤ s.mx.n := hs2
    rcases Decidable.em (i = 2) with h2 | h2
    · subst h2
      have HM2 : Hid (mayR 2 s v = (!lss v s.mn && !lss s.mx v)) := (by show _ = _; rw [HMR.out]; rfl)
      unfold stdT
      go_wp2_with fail
      refine (lessOf_any v.k v.n v.s s.mn.k s.mn.n s.mn.s w2 hvn hn1).mono ?_
      obtain ⟨r1, HR1⟩ : ∃ r, Hid (vless v.k v.n v.s s.mn.k s.mn.n s.mn.s = r) := ⟨_, rfl⟩
      obtain ⟨r2, HR2⟩ : ∃ r, Hid (vless s.mx.k s.mx.n s.mx.s v.k v.n v.s = r) := ⟨_, rfl⟩
      rw [HR1.out]
      rintro e w3 ⟨rfl, hb3⟩
      have HX3 : Hid _ := blk_keep hb3 HX2.out
      have HY3 : Hid _ := blk_keep hb3 HY2.out
      have HBy : Hid (Below W.heap.size W w3) := HBx.out.trans (hb3.mono HBx.out.size)
      clear x0 x1 x3 x4 x5 x6 x7 x8 y0 y1 y2 hb3 HX2 HY2 HBx
      obtain ⟨⟨x0, x1, x2, x3, x4, x5, x6, x7, x8⟩, _⟩ := row_nine HX3.out
      obtain ⟨y0, y1, y2⟩ := row_three HY3.out
      clear x2
      go_wp2_with fail
      refine (lessOf_any s.mx.k s.mx.n s.mx.s v.k v.n v.s w3 hn2 hvn).mono ?_
      rw [HR2.out]
      rintro e w4 ⟨rfl, hb4⟩
      have HBz : Hid (Below W.heap.size W w4) := HBy.out.trans (hb4.mono HBy.out.size)
      clear x0 x1 x3 x4 x5 x6 x7 x8 y0 y1 y2 hb4
      cases r1
      all_goals
        go_wp2
        go_ret
        exact ⟨by rw [HM2.out]; simp [lss, HR1.out, HR2.out], HBz.out⟩
    · have HM2 : Hid (mayR i s v = (b1 || b2)) := (by show _ = _; rw [HMR.out]; simp only [if_true]; rw [if_neg h2, HB1.out, HB2.out])
      have hq : ((stdT i).toList == [61]) = false := str_ne (l := [61]) (by
        rcases (show i = 0 ∨ i = 1 ∨ i = 3 ∨ i = 4 ∨ i = 5 by omega) with rfl | rfl | rfl | rfl | rfl <;> (intro h; have h1 := congrArg ByteArray.data h; simp [stdT] at h1))
      clear h2
      cases b1
      all_goals
        go_wp2
        go_ret
        exact ⟨by rw [HM2.out]; simp, HBx.out⟩
end Go.Proofs.YtkcobccmifkjcaaDoor

namespace Go.Proofs.YtkcobccmifkjcaaDoor
open Go.RowKit
/-- A right value of a kind. -/
def Rv (k : Int) (v : Vl) : Prop := okV k v.k v.n v.s.size = true ∧ v.Low
theorem Rv.tri {k : Int} {a b : Vl} (ha : Rv k a) (hb : Rv k b) : (lss a b && lss b a) = false ∧ ((lss a b || lss b a) = true ↔ a ≠ b) := lss_tri ha.2 hb.2 k ha.1 hb.1
theorem Rv.same {k : Int} {a b : Vl} (ha : Rv k a) (hb : Rv k b) (h1 : lss a b = false) (h2 : lss b a = false) : a = b := lss_same ha.2 hb.2 k ha.1 hb.1 h1 h2
theorem Rv.irr {k : Int} {a : Vl} (ha : Rv k a) : lss a a = false := lss_irr ha.2 k ha.1
theorem Rv.trans {k : Int} {a b c : Vl} (ha : Rv k a) (hb : Rv k b) (hc : Rv k c) (h1 : lss a b = true) (h2 : lss b c = true) : lss a c = true := by
  have e1 := okV_kind ha.1
  have e2 := okV_kind hb.1
  have e3 := okV_kind hc.1
  unfold lss at *
  rw [e1, e2] at h1
  rw [e2, e3] at h2
  rw [e1, e3]
  exact vless_trans k _ _ _ _ _ _ h1 h2
/-- a is at most b, b at most c. -/
theorem Rv.le {k : Int} {a b c : Vl} (ha : Rv k a) (hb : Rv k b) (hc : Rv k c) (h1 : lss b a = false) (h2 : lss c b = false) : lss c a = false := by
  cases h : lss c a
  · rfl
  · cases h3 : lss a b
    · have e := Rv.same ha hb h3 h1
      rw [e, h2] at h
      exact h.symm
    · have h4 := Rv.trans hc ha hb h h3
      rw [h2] at h4
      exact h4.symm
theorem Rv.asym {k : Int} {a b : Vl} (ha : Rv k a) (hb : Rv k b) (h : lss a b = true) : lss b a = false := by
  have h1 := (Rv.tri ha hb).1
  rw [h, Bool.true_and] at h1
  exact h1
/-- The least and the greatest of values. -/
structure Ends (l : List Vl) (m x : Vl) : Prop where
  mi : m ∈ l
  mb : ∀ y ∈ l, lss y m = false
  xi : x ∈ l
  xb : ∀ y ∈ l, lss x y = false
theorem Ends.one {k : Int} {l : List Vl} {m x m' x' : Vl} (hl : ∀ y ∈ l, Rv k y) (h : Ends l m x) (h' : Ends l m' x') : m = m' ∧ x = x' :=
  ⟨Rv.same (hl _ h.mi) (hl _ h'.mi) (h'.mb _ h.mi) (h.mb _ h'.mi), Rv.same (hl _ h.xi) (hl _ h'.xi) (h.xb _ h'.xi) (h'.xb _ h.xi)⟩
/-- Two together. -/
theorem Ends.app {k : Int} {l l' : List Vl} {m x m' x' : Vl} (hl : ∀ y ∈ l, Rv k y) (hl' : ∀ y ∈ l', Rv k y) (h : Ends l m x) (h' : Ends l' m' x') : Ends (l ++ l') (if lss m' m then m' else m) (if lss x x' then x' else x) := by
  refine ⟨?_, fun y hy => ?_, ?_, fun y hy => ?_⟩
  · split
    · exact List.mem_append.2 (.inr h'.mi)
    · exact List.mem_append.2 (.inl h.mi)
  · rcases List.mem_append.1 hy with hy | hy
    · cases hc : lss m' m
      · simpa using h.mb y hy
      · have h1 := Rv.asym (hl' _ h'.mi) (hl _ h.mi) hc
        simpa using Rv.le (hl' _ h'.mi) (hl _ h.mi) (hl _ hy) h1 (h.mb y hy)
    · cases hc : lss m' m
      · simpa using Rv.le (hl _ h.mi) (hl' _ h'.mi) (hl' _ hy) hc (h'.mb y hy)
      · simpa using h'.mb y hy
  · split
    · exact List.mem_append.2 (.inr h'.xi)
    · exact List.mem_append.2 (.inl h.xi)
  · rcases List.mem_append.1 hy with hy | hy
    · cases hc : lss x x'
      · simpa using h.xb y hy
      · have h1 := Rv.asym (hl _ h.xi) (hl' _ h'.xi) hc
        simpa using Rv.le (hl _ hy) (hl _ h.xi) (hl' _ h'.xi) (h.xb y hy) h1
    · cases hc : lss x x'
      · simpa using Rv.le (hl' _ hy) (hl' _ h'.xi) (hl _ h.xi) (h'.xb y hy) hc
      · simpa using h'.xb y hy
theorem Ends.single {k : Int} {v : Vl} (h : Rv k v) : Ends [v] v v := ⟨by simp, fun y hy => by simp at hy; subst hy; exact h.irr, by simp, fun y hy => by simp at hy; subst hy; exact h.irr⟩
/-- Of tells the ends. -/
theorem ofK_ends {k : Int} (c : Cl) (hc : ∀ y ∈ c.vs, Rv k y) : ∀ i, 0 < i → i ≤ c.vs.length → (ofK c i).h = true ∧ Ends (c.vs.take i) (ofK c i).mn (ofK c i).mx
  | 1, _, h1 => by
    rw [ofK_succ c h1]
    have e : c.vs.take 1 = [c.vs[0]] := by rw [List.take_succ_eq_append_getElem h1]; rfl
    rw [e]
    exact ⟨rfl, Ends.single (hc _ (List.getElem_mem _))⟩
  | i + 2, _, h1 => by
    obtain ⟨h2, h3⟩ := ofK_ends c hc (i + 1) (by omega) (by omega)
    rw [ofK_succ c h1, List.take_succ_eq_append_getElem h1]
    have h4 := h3.app (fun y hy => hc y (List.mem_of_mem_take hy)) (fun y hy => by simp at hy; subst hy; exact hc _ (List.getElem_mem _)) (Ends.single (hc _ (List.getElem_mem h1)))
    unfold St.around
    simp only [h2, Bool.not_true, Bool.false_or]
    exact ⟨trivial, h4⟩
theorem ofC_ends {k : Int} (c : Cl) (hc : ∀ y ∈ c.vs, Rv k y) (h : 0 < c.vs.length) : (ofC c).h = true ∧ Ends c.vs (ofC c).mn (ofC c).mx := by
  have h1 := ofK_ends c hc c.vs.length h (Nat.le_refl _)
  have e : ofK c c.vs.length = ofC c := by unfold ofK ofC; rw [List.take_length]
  rw [e, List.take_length] at h1
  exact h1
theorem ofC_none (c : Cl) (h : c.vs.length = 0) : ofC c = ⟨(c.rs.length : Nat), (c.rs.length : Int) - (c.vs.length : Nat), false, Vl.zero, Vl.zero⟩ := by
  unfold ofC
  rw [List.eq_nil_of_length_eq_zero h]
  rfl
theorem ofK_eu (c : Cl) : ∀ i, i ≤ c.vs.length → (ofK c i).e = (c.rs.length : Nat) ∧ (ofK c i).u = (c.rs.length : Int) - (c.vs.length : Nat)
  | 0, _ => ⟨rfl, rfl⟩
  | i + 1, hi => by rw [ofK_succ c hi]; exact ofK_eu c i (by omega)
theorem ofC_eu (c : Cl) : (ofC c).e = (c.rs.length : Nat) ∧ (ofC c).u = (c.rs.length : Int) - (c.vs.length : Nat) := by
  have h := ofK_eu c c.vs.length (Nat.le_refl _)
  have e : ofK c c.vs.length = ofC c := by unfold ofK ofC; rw [List.take_length]
  rwa [e] at h
theorem St.eq_of {s t : St} (h1 : s.e = t.e) (h2 : s.u = t.u) (h3 : s.h = t.h) (h4 : s.mn = t.mn) (h5 : s.mx = t.mx) : s = t := by
  cases s; cases t; simp_all
/-- Merged stats are those of what is joined. -/
theorem merge_of {k : Int} (a b c : Cl) (ha : ∀ y ∈ a.vs, Rv k y) (hb : ∀ y ∈ b.vs, Rv k y) (hr : c.rs = a.rs ++ b.rs) (hv : c.vs = a.vs ++ b.vs) : ofC c = (ofC a).merge (ofC b) ∧ St.unlike (ofC a) (ofC b) = false := by
  have hc : ∀ y ∈ c.vs, Rv k y := fun y hy => by
    rw [hv] at hy
    rcases List.mem_append.1 hy with h | h
    · exact ha y h
    · exact hb y h
  obtain ⟨c1, c2⟩ := ofC_eu c
  obtain ⟨a1, a2⟩ := ofC_eu a
  obtain ⟨b1, b2⟩ := ofC_eu b
  have he : (ofC c).e = (ofC a).e + (ofC b).e := by rw [c1, a1, b1, hr]; simp
  have hu : (ofC c).u = (ofC a).u + (ofC b).u := by rw [c2, a2, b2, hr, hv]; simp; omega
  rcases Nat.eq_zero_or_pos a.vs.length with za | za
  · have ea := ofC_none a za
    have hva : a.vs = [] := List.eq_nil_of_length_eq_zero za
    rcases Nat.eq_zero_or_pos b.vs.length with zb | zb
    · have eb := ofC_none b zb
      have ec := ofC_none c (by rw [hv]; simp [za, zb])
      refine ⟨?_, by rw [ea]; rfl⟩
      refine St.eq_of ?_ ?_ ?_ ?_ ?_
      · rw [he]; rw [ea, eb]; rfl
      · rw [hu]; rw [ea, eb]; rfl
      · rw [ea, eb, ec]; rfl
      · rw [ea, eb, ec]; rfl
      · rw [ea, eb, ec]; rfl
    · obtain ⟨hh, hends⟩ := ofC_ends b hb zb
      have hvc : c.vs = b.vs := by rw [hv, hva]; rfl
      obtain ⟨hh2, hends2⟩ := ofC_ends c hc (by rw [hvc]; exact zb)
      rw [hvc] at hends2
      obtain ⟨e1, e2⟩ := Ends.one hb hends2 hends
      have hm : (ofC a).merge (ofC b) = ⟨(ofC a).e + (ofC b).e, (ofC a).u + (ofC b).u, true, (ofC b).mn, (ofC b).mx⟩ := by
        unfold St.merge St.plus
        rw [hh]
        rw [show (ofC a).h = false by rw [ea]]
        rfl
      refine ⟨?_, by unfold St.unlike; rw [show (ofC a).h = false by rw [ea]]; rfl⟩
      rw [hm]
      exact St.eq_of he hu hh2 e1 e2
  · obtain ⟨ah, aend⟩ := ofC_ends a ha za
    obtain ⟨ch, cend⟩ := ofC_ends c hc (by rw [hv]; simp; omega)
    rcases Nat.eq_zero_or_pos b.vs.length with zb | zb
    · have eb := ofC_none b zb
      have hvb : b.vs = [] := List.eq_nil_of_length_eq_zero zb
      have hvc : c.vs = a.vs := by rw [hv, hvb]; simp
      rw [hvc] at cend
      obtain ⟨e1, e2⟩ := Ends.one ha cend aend
      have hm : (ofC a).merge (ofC b) = ⟨(ofC a).e + (ofC b).e, (ofC a).u + (ofC b).u, true, (ofC a).mn, (ofC a).mx⟩ := by
        unfold St.merge St.plus
        rw [ah]
        rw [show (ofC b).h = false by rw [eb]]
        rfl
      refine ⟨?_, by unfold St.unlike; rw [show (ofC b).h = false by rw [eb]]; simp⟩
      rw [hm]
      exact St.eq_of he hu ch e1 e2
    · obtain ⟨bh, bend⟩ := ofC_ends b hb zb
      have happ := aend.app ha hb bend
      rw [hv] at cend
      obtain ⟨e1, e2⟩ := Ends.one (fun y hy => by rw [← hv] at hy; exact hc y hy) cend happ
      have hm : (ofC a).merge (ofC b) = ⟨(ofC a).e + (ofC b).e, (ofC a).u + (ofC b).u, true, if lss (ofC b).mn (ofC a).mn then (ofC b).mn else (ofC a).mn, if lss (ofC a).mx (ofC b).mx then (ofC b).mx else (ofC a).mx⟩ := by
        unfold St.merge St.plus
        rw [ah, bh]
        simp [St.around]
      have k1 := okV_kind (ha _ aend.mi).1
      have k2 := okV_kind (hb _ bend.mi).1
      refine ⟨?_, by unfold St.unlike; rw [k1, k2]; simp⟩
      rw [hm]
      exact St.eq_of he hu ch e1 e2
/-- Where a value stands so, some may. -/
theorem may_true {k : Int} (i : Nat) (hi : i < 6) (s : St) (v x : Vl) (l : List Vl) (hl : ∀ y ∈ l, Rv k y) (hv : Rv k v) (he : Ends l s.mn s.mx) (hx : x ∈ l) (hst : stdB i x v = true) : mayB i s v = true := by
  have rm := hl _ he.mi
  have rx := hl _ he.xi
  have rr := hl _ hx
  have h1 := he.mb x hx
  have h2 := he.xb x hx
  have lt1 : lss x v = true → lss s.mn v = true := fun h => by
    cases hc : lss s.mn v
    · have := Rv.le hv rm rr hc h1
      rw [h] at this
      exact this.symm
    · rfl
  have lt2 : lss v x = true → lss v s.mx = true := fun h => by
    cases hc : lss v s.mx
    · have := Rv.le rr rx hv h2 hc
      rw [h] at this
      exact this.symm
    · rfl
  have le1 : lss v x = false → lss v s.mn = false := fun h => Rv.le rm rr hv h1 h
  have le2 : lss x v = false → lss s.mx v = false := fun h => Rv.le hv rr rx h h2
  have hir := hv.irr
  unfold mayB
  rcases (show i = 0 ∨ i = 1 ∨ i = 2 ∨ i = 3 ∨ i = 4 ∨ i = 5 by omega) with rfl | rfl | rfl | rfl | rfl | rfl
  all_goals
    simp only [stdB, hir] at hst ⊢
    revert hst lt1 lt2 le1 le2
    generalize lss x v = p
    generalize lss v x = q
    generalize lss s.mn v = a
    generalize lss v s.mn = b
    generalize lss s.mx v = c
    generalize lss v s.mx = d
    revert p q a b c d
    decide
end Go.Proofs.YtkcobccmifkjcaaDoor

namespace Go.Proofs.YtkcobccmifkjcaaDoor
open Go.RowKit
set_option maxRecDepth 100000 in
set_option maxHeartbeats 12800000 in
theorem may_any (i : Nat) (hi6 : i < 6) (s : St) (v : Vl) (W : World) (kt : TypeId) (kp : Value) (hk : W.cell? ⟨0, 0, none⟩ = some (.iface kt kp)) (hs : s.In) (hv : v.In) :
    Calls Tryd.prog 21 #[.agg #[.int .i64 s.e, .int .i64 s.u, .bool s.h, .int .i64 s.mn.k, .int .i64 s.mn.n, .string s.mn.s, .int .i64 s.mx.k, .int .i64 s.mx.n, .string s.mx.s], .string (stdT i), .agg #[.int .i64 v.k, .int .i64 v.n, .string v.s]] W fun e w' => (∃ (b : Bool) (ev : Value), e = .returned (.tuple #[.bool b, ev]) ∧ MyR i s v (.iface kt kp) b ev) ∧ Below W.heap.size W w' := by
  obtain ⟨w0, HW0, HX, HY, HB⟩ := two_boxes W #[.int .i64 s.e, .int .i64 s.u, .bool s.h, .int .i64 s.mn.k, .int .i64 s.mn.n, .string s.mn.s, .int .i64 s.mx.k, .int .i64 s.mx.n, .string s.mx.s] #[.int .i64 v.k, .int .i64 v.n, .string v.s] 36 34
  have HI0 : Hid (MyI W s v w0) := ⟨HX.out, HY.out, HB.out⟩
  have HKE : Hid (∀ X, Below W.heap.size W X → X.cell? ⟨0, 0, none⟩ = some (.iface kt kp)) := fun X hX => ckB hk hX
  clear hk HX HY HB
  go_enter Tryd.func21, Tryd.ntmps21
  go_wp2_with fail
  rw [HW0.out]
  refine (standings_any w0).mono ?_
  rintro e w1 ⟨rfl, hm, hb1⟩
  have HI1 : Hid _ := HI0.out.keep hb1
  have hlk := look_std hm i hi6
  clear hm hb1 HI0 HW0
  go_upto_region 4 with fail
  clear hlk
  obtain ⟨bd, HBD⟩ : ∃ bd, Hid (myBad s v = bd) := ⟨_, rfl⟩
  go_cut [35] (fun x wx => x = .bool bd ∧ Hid (MyI W s v wx))
  case first =>
    have b0 : Below w1.heap.size w1 w1 := Below.refl _ _
    have HIV : Hid (∀ X, Below w1.heap.size w1 X → Calls Tryd.prog 35 #[.agg #[.int .i64 v.k, .int .i64 v.n, .string v.s]] X fun e w' => e = .returned (.bool (okV v.k v.k v.n v.s.size)) ∧ Below w1.heap.size w1 w') := fun X hX => (isValue_any v.k v.n v.s X).mono fun _ _ h => ⟨h.1, bel_next hX (Nat.le_refl _) h.2⟩
    obtain ⟨ok, HOK⟩ : ∃ ok, Hid (okV v.k v.k v.n v.s.size = ok) := ⟨_, rfl⟩
    rw [HOK.out] at HIV
    have HBD2 : Hid ((!ok || (s.h && !(s.mn.k == v.k))) = bd) := (by have h := HBD.out; unfold myBad at h; rw [HOK.out] at h; exact h)
    clear HOK
    cases ok
    · obtain rfl : true = bd := HBD2.out
      have HN : Hid (∀ X, Below w1.heap.size w1 X → (X.cell? ⟨W.heap.size, 0, none⟩ = some (.int .i64 s.e) ∧ X.cell? ⟨W.heap.size, 1, none⟩ = some (.int .i64 s.u) ∧ X.cell? ⟨W.heap.size, 2, none⟩ = some (.bool s.h) ∧ X.cell? ⟨W.heap.size, 3, none⟩ = some (.int .i64 s.mn.k) ∧ X.cell? ⟨W.heap.size, 4, none⟩ = some (.int .i64 s.mn.n) ∧ X.cell? ⟨W.heap.size, 5, none⟩ = some (.string s.mn.s) ∧ X.cell? ⟨W.heap.size, 6, none⟩ = some (.int .i64 s.mx.k) ∧ X.cell? ⟨W.heap.size, 7, none⟩ = some (.int .i64 s.mx.n) ∧ X.cell? ⟨W.heap.size, 8, none⟩ = some (.string s.mx.s)) ∧ (X.cell? ⟨W.heap.size + 1, 0, none⟩ = some (.int .i64 v.k) ∧ X.cell? ⟨W.heap.size + 1, 1, none⟩ = some (.int .i64 v.n) ∧ X.cell? ⟨W.heap.size + 1, 2, none⟩ = some (.string v.s)) ∧ Below w1.heap.size w1 X) := fun X hX => ⟨(row_nine (HI1.out.keep hX).st).1, row_three (HI1.out.keep hX).va, hX⟩
      refine wp_region_held_drew (S := (fun X => (X.cell? ⟨W.heap.size, 0, none⟩ = some (.int .i64 s.e) ∧ X.cell? ⟨W.heap.size, 1, none⟩ = some (.int .i64 s.u) ∧ X.cell? ⟨W.heap.size, 2, none⟩ = some (.bool s.h) ∧ X.cell? ⟨W.heap.size, 3, none⟩ = some (.int .i64 s.mn.k) ∧ X.cell? ⟨W.heap.size, 4, none⟩ = some (.int .i64 s.mn.n) ∧ X.cell? ⟨W.heap.size, 5, none⟩ = some (.string s.mn.s) ∧ X.cell? ⟨W.heap.size, 6, none⟩ = some (.int .i64 s.mx.k) ∧ X.cell? ⟨W.heap.size, 7, none⟩ = some (.int .i64 s.mx.n) ∧ X.cell? ⟨W.heap.size, 8, none⟩ = some (.string s.mx.s)) ∧ (X.cell? ⟨W.heap.size + 1, 0, none⟩ = some (.int .i64 v.k) ∧ X.cell? ⟨W.heap.size + 1, 1, none⟩ = some (.int .i64 v.n) ∧ X.cell? ⟨W.heap.size + 1, 2, none⟩ = some (.string v.s)) ∧ Below w1.heap.size w1 X)) (by kernel_rfl) (HN.out _ b0.drew) (fun hHeld => ?_)
      refine wpAnyH_take (i := 0) (oi := { dst := some 22, op := Op.load 34 (Operand.tmp 5), type := 34, pos := "may.go:17", after := #[], guard := none }) (v := ?vma0) rfl (by kernel_rfl) (by kernel_rfl) (by kernel_rfl) (fun _ _ _ h => h) (Or.inl ⟨by rfl, ?hyma0⟩) hHeld ?_
      case hyma0 => (intro w hSw; (try dsimp only at hSw); go_simp; (first | done | with_reducible rfl))
      (try simp only [Act.put, List.setIfInBounds_toArray, List.set_cons_zero, List.set_cons_succ])
      refine wpAnyH_ready (rs := [1]) (by kernel_rfl) (by simp) ?_
      refine AllReadyH.cons (o := { dst := some 23, op := Op.call { callee := Callee.value (Operand.func 35), args := #[Operand.tmp 22], argTypes := #[34] }, type := 4, pos := "may.go:17", after := #[{ on := 0, ground := Ground.data }], guard := none }) rfl (fun K hK => ?_) AllReadyH.nil
      go_simp
      (go_at_call 35; (with_reducible refine Calls.mono (HIV.out _ b0.drew) ?_); rintro e w2 ⟨rfl, hb2⟩)
      go_wp2_with fail
      refine hK.out _ _ (HN.out _ hb2) (fun hHma1 => ?_)
      (try simp only [Act.put, List.setIfInBounds_toArray, List.set_cons_zero, List.set_cons_succ])
      refine wpAnyH_take (i := 2) (oi := { dst := some 24, op := Op.unOp UnOp.not 4 (Operand.tmp 23), type := 4, pos := "may.go:17", after := #[{ on := 1, ground := Ground.data }], guard := none }) (v := ?vma2) rfl (by kernel_rfl) (by kernel_rfl) (by kernel_rfl) (fun _ _ _ h => h) (Or.inl ⟨by rfl, ?hyma2⟩) hHma1 ?_
      case hyma2 => (intro w hSw; (try dsimp only at hSw); go_simp; (first | done | with_reducible rfl))
      (try simp only [Act.put, List.setIfInBounds_toArray, List.set_cons_zero, List.set_cons_succ])
      refine wpAnyH_take (i := 3) (oi := { dst := some 25, op := Op.move (Operand.tmp 24), type := 4, pos := "may.go:17", after := #[{ on := 2, ground := Ground.data }, { on := 1, ground := Ground.chain }], guard := none }) (v := ?vma3) rfl (by kernel_rfl) (by kernel_rfl) (by kernel_rfl) (fun _ _ _ h => h) (Or.inl ⟨by rfl, ?hyma3⟩) hHma1 ?_
      case hyma3 => (intro w hSw; (try dsimp only at hSw); go_simp; (first | done | with_reducible rfl))
      (try simp only [Act.put, List.setIfInBounds_toArray, List.set_cons_zero, List.set_cons_succ])
      refine wpAnyH_take (i := 4) (oi := { dst := some 26, op := Op.fieldAddr 36 (Operand.tmp 3) 2, type := 0, pos := "may.go:17", after := #[{ on := 3, ground := Ground.guard }], guard := some (3, false) }) (v := undef) rfl (by kernel_rfl) (by kernel_rfl) (by kernel_rfl) (fun _ _ _ h => h) (Or.inr ⟨by rfl, rfl⟩) hHma1 ?_
      (try simp only [Act.put, List.setIfInBounds_toArray, List.set_cons_zero, List.set_cons_succ])
      refine wpAnyH_take (i := 5) (oi := { dst := some 27, op := Op.load 4 (Operand.tmp 26), type := 4, pos := "may.go:17", after := #[{ on := 4, ground := Ground.data }, { on := 3, ground := Ground.guard }], guard := some (3, false) }) (v := undef) rfl (by kernel_rfl) (by kernel_rfl) (by kernel_rfl) (fun _ _ _ h => h) (Or.inr ⟨by rfl, rfl⟩) hHma1 ?_
      (try simp only [Act.put, List.setIfInBounds_toArray, List.set_cons_zero, List.set_cons_succ])
      refine wpAnyH_take (i := 6) (oi := { dst := some 28, op := Op.move (Operand.tmp 27), type := 4, pos := "may.go:17", after := #[{ on := 5, ground := Ground.data }, { on := 3, ground := Ground.chain }, { on := 3, ground := Ground.guard }], guard := some (3, false) }) (v := undef) rfl (by kernel_rfl) (by kernel_rfl) (by kernel_rfl) (fun _ _ _ h => h) (Or.inr ⟨by rfl, rfl⟩) hHma1 ?_
      (try simp only [Act.put, List.setIfInBounds_toArray, List.set_cons_zero, List.set_cons_succ])
      refine wpAnyH_take (i := 7) (oi := { dst := some 29, op := Op.load 36 (Operand.tmp 3), type := 36, pos := "may.go:17", after := #[{ on := 6, ground := Ground.guard }], guard := some (6, true) }) (v := undef) rfl (by kernel_rfl) (by kernel_rfl) (by kernel_rfl) (fun _ _ _ h => h) (Or.inr ⟨by rfl, rfl⟩) hHma1 ?_
      (try simp only [Act.put, List.setIfInBounds_toArray, List.set_cons_zero, List.set_cons_succ])
      refine wpAnyH_take (i := 8) (oi := { dst := some 30, op := Op.call { callee := Callee.value (Operand.func 33), args := #[Operand.tmp 29], argTypes := #[36] }, type := 3, pos := "may.go:17", after := #[{ on := 7, ground := Ground.data }, { on := 6, ground := Ground.chain }, { on := 6, ground := Ground.guard }], guard := some (6, true) }) (v := undef) rfl (by kernel_rfl) (by kernel_rfl) (by kernel_rfl) (fun _ _ _ h => h) (Or.inr ⟨by rfl, rfl⟩) hHma1 ?_
      (try simp only [Act.put, List.setIfInBounds_toArray, List.set_cons_zero, List.set_cons_succ])
      refine wpAnyH_take (i := 9) (oi := { dst := some 31, op := Op.fieldAddr 34 (Operand.tmp 5) 0, type := 0, pos := "may.go:17", after := #[{ on := 6, ground := Ground.guard }], guard := some (6, true) }) (v := undef) rfl (by kernel_rfl) (by kernel_rfl) (by kernel_rfl) (fun _ _ _ h => h) (Or.inr ⟨by rfl, rfl⟩) hHma1 ?_
      (try simp only [Act.put, List.setIfInBounds_toArray, List.set_cons_zero, List.set_cons_succ])
      refine wpAnyH_take (i := 10) (oi := { dst := some 32, op := Op.load 3 (Operand.tmp 31), type := 3, pos := "may.go:17", after := #[{ on := 9, ground := Ground.data }, { on := 6, ground := Ground.guard }], guard := some (6, true) }) (v := undef) rfl (by kernel_rfl) (by kernel_rfl) (by kernel_rfl) (fun _ _ _ h => h) (Or.inr ⟨by rfl, rfl⟩) hHma1 ?_
      (try simp only [Act.put, List.setIfInBounds_toArray, List.set_cons_zero, List.set_cons_succ])
      refine wpAnyH_take (i := 11) (oi := { dst := some 33, op := Op.binOp BinOp.neq 3 (Operand.tmp 30) (Operand.tmp 32) 3, type := 4, pos := "may.go:17", after := #[{ on := 8, ground := Ground.data }, { on := 10, ground := Ground.data }, { on := 6, ground := Ground.guard }], guard := some (6, true) }) (v := undef) rfl (by kernel_rfl) (by kernel_rfl) (by kernel_rfl) (fun _ _ _ h => h) (Or.inr ⟨by rfl, rfl⟩) hHma1 ?_
      (try simp only [Act.put, List.setIfInBounds_toArray, List.set_cons_zero, List.set_cons_succ])
      refine wpAnyH_take (i := 12) (oi := { dst := some 34, op := Op.pick (Operand.tmp 28) (Operand.tmp 33) (Operand.const (Value.bool false)), type := 4, pos := "may.go:17", after := #[{ on := 6, ground := Ground.data }, { on := 11, ground := Ground.data }, { on := 3, ground := Ground.guard }], guard := some (3, false) }) (v := undef) rfl (by kernel_rfl) (by kernel_rfl) (by kernel_rfl) (fun _ _ _ h => h) (Or.inr ⟨by rfl, rfl⟩) hHma1 ?_
      (try simp only [Act.put, List.setIfInBounds_toArray, List.set_cons_zero, List.set_cons_succ])
      refine wpAnyH_take (i := 13) (oi := { dst := some 35, op := Op.pick (Operand.tmp 25) (Operand.const (Value.bool true)) (Operand.tmp 34), type := 4, pos := "may.go:17", after := #[{ on := 3, ground := Ground.data }, { on := 12, ground := Ground.data }], guard := none }) (v := ?vma13) rfl (by kernel_rfl) (by kernel_rfl) (by kernel_rfl) (fun _ _ _ h => h) (Or.inl ⟨by rfl, ?hyma13⟩) hHma1 ?_
      case hyma13 => (intro w hSw; (try dsimp only at hSw); go_simp; (first | done | with_reducible rfl))
      (try simp only [Act.put, List.setIfInBounds_toArray, List.set_cons_zero, List.set_cons_succ])
      refine wpAnyH_done (by kernel_rfl) ?_ _
      go_wp2
      go_meet
      exact ⟨rfl, HI1.out.keep hb2⟩
    · obtain ⟨sh, hsh⟩ : ∃ sh, s.h = sh := ⟨_, rfl⟩
      have HBD3 : Hid ((sh && !(s.mn.k == v.k)) = bd) := (by have h := HBD2.out; rw [hsh] at h; exact h)
      have HKd : Hid (∀ X, Below w1.heap.size w1 X → sh = true → Calls Tryd.prog 33 #[.agg #[.int .i64 s.e, .int .i64 s.u, .bool true, .int .i64 s.mn.k, .int .i64 s.mn.n, .string s.mn.s, .int .i64 s.mx.k, .int .i64 s.mx.n, .string s.mx.s]] X fun e w' => e = .returned (.int .i64 s.mn.k) ∧ Below w1.heap.size w1 w') := fun X hX hT => (by have h := kindS_any s X; unfold St.val St.cs at h; rw [hsh, hT] at h; exact h.mono fun _ _ h => ⟨h.1, bel_next hX (Nat.le_refl _) h.2⟩)
      clear HBD2
      cases sh
      · obtain rfl : false = bd := HBD3.out
        have HN : Hid (∀ X, Below w1.heap.size w1 X → (X.cell? ⟨W.heap.size, 0, none⟩ = some (.int .i64 s.e) ∧ X.cell? ⟨W.heap.size, 1, none⟩ = some (.int .i64 s.u) ∧ X.cell? ⟨W.heap.size, 2, none⟩ = some (.bool false) ∧ X.cell? ⟨W.heap.size, 3, none⟩ = some (.int .i64 s.mn.k) ∧ X.cell? ⟨W.heap.size, 4, none⟩ = some (.int .i64 s.mn.n) ∧ X.cell? ⟨W.heap.size, 5, none⟩ = some (.string s.mn.s) ∧ X.cell? ⟨W.heap.size, 6, none⟩ = some (.int .i64 s.mx.k) ∧ X.cell? ⟨W.heap.size, 7, none⟩ = some (.int .i64 s.mx.n) ∧ X.cell? ⟨W.heap.size, 8, none⟩ = some (.string s.mx.s)) ∧ (X.cell? ⟨W.heap.size + 1, 0, none⟩ = some (.int .i64 v.k) ∧ X.cell? ⟨W.heap.size + 1, 1, none⟩ = some (.int .i64 v.n) ∧ X.cell? ⟨W.heap.size + 1, 2, none⟩ = some (.string v.s)) ∧ Below w1.heap.size w1 X) := fun X hX => ⟨by have h := (row_nine (HI1.out.keep hX).st).1; rw [hsh] at h; exact h, row_three (HI1.out.keep hX).va, hX⟩
        clear hsh
        refine wp_region_held_drew (S := (fun X => (X.cell? ⟨W.heap.size, 0, none⟩ = some (.int .i64 s.e) ∧ X.cell? ⟨W.heap.size, 1, none⟩ = some (.int .i64 s.u) ∧ X.cell? ⟨W.heap.size, 2, none⟩ = some (.bool false) ∧ X.cell? ⟨W.heap.size, 3, none⟩ = some (.int .i64 s.mn.k) ∧ X.cell? ⟨W.heap.size, 4, none⟩ = some (.int .i64 s.mn.n) ∧ X.cell? ⟨W.heap.size, 5, none⟩ = some (.string s.mn.s) ∧ X.cell? ⟨W.heap.size, 6, none⟩ = some (.int .i64 s.mx.k) ∧ X.cell? ⟨W.heap.size, 7, none⟩ = some (.int .i64 s.mx.n) ∧ X.cell? ⟨W.heap.size, 8, none⟩ = some (.string s.mx.s)) ∧ (X.cell? ⟨W.heap.size + 1, 0, none⟩ = some (.int .i64 v.k) ∧ X.cell? ⟨W.heap.size + 1, 1, none⟩ = some (.int .i64 v.n) ∧ X.cell? ⟨W.heap.size + 1, 2, none⟩ = some (.string v.s)) ∧ Below w1.heap.size w1 X)) (by kernel_rfl) (HN.out _ b0.drew) (fun hHeld => ?_)
        refine wpAnyH_take (i := 0) (oi := { dst := some 22, op := Op.load 34 (Operand.tmp 5), type := 34, pos := "may.go:17", after := #[], guard := none }) (v := ?vmb0) rfl (by kernel_rfl) (by kernel_rfl) (by kernel_rfl) (fun _ _ _ h => h) (Or.inl ⟨by rfl, ?hymb0⟩) hHeld ?_
        case hymb0 => (intro w hSw; (try dsimp only at hSw); go_simp; (first | done | with_reducible rfl))
        (try simp only [Act.put, List.setIfInBounds_toArray, List.set_cons_zero, List.set_cons_succ])
        refine wpAnyH_ready (rs := [1]) (by kernel_rfl) (by simp) ?_
        refine AllReadyH.cons (o := { dst := some 23, op := Op.call { callee := Callee.value (Operand.func 35), args := #[Operand.tmp 22], argTypes := #[34] }, type := 4, pos := "may.go:17", after := #[{ on := 0, ground := Ground.data }], guard := none }) rfl (fun K hK => ?_) AllReadyH.nil
        go_simp
        (go_at_call 35; (with_reducible refine Calls.mono (HIV.out _ b0.drew) ?_); rintro e w2 ⟨rfl, hb2⟩)
        go_wp2_with fail
        refine hK.out _ _ (HN.out _ hb2) (fun hHmb1 => ?_)
        (try simp only [Act.put, List.setIfInBounds_toArray, List.set_cons_zero, List.set_cons_succ])
        refine wpAnyH_take (i := 2) (oi := { dst := some 24, op := Op.unOp UnOp.not 4 (Operand.tmp 23), type := 4, pos := "may.go:17", after := #[{ on := 1, ground := Ground.data }], guard := none }) (v := ?vmb2) rfl (by kernel_rfl) (by kernel_rfl) (by kernel_rfl) (fun _ _ _ h => h) (Or.inl ⟨by rfl, ?hymb2⟩) hHmb1 ?_
        case hymb2 => (intro w hSw; (try dsimp only at hSw); go_simp; (first | done | with_reducible rfl))
        (try simp only [Act.put, List.setIfInBounds_toArray, List.set_cons_zero, List.set_cons_succ])
        refine wpAnyH_take (i := 3) (oi := { dst := some 25, op := Op.move (Operand.tmp 24), type := 4, pos := "may.go:17", after := #[{ on := 2, ground := Ground.data }, { on := 1, ground := Ground.chain }], guard := none }) (v := ?vmb3) rfl (by kernel_rfl) (by kernel_rfl) (by kernel_rfl) (fun _ _ _ h => h) (Or.inl ⟨by rfl, ?hymb3⟩) hHmb1 ?_
        case hymb3 => (intro w hSw; (try dsimp only at hSw); go_simp; (first | done | with_reducible rfl))
        (try simp only [Act.put, List.setIfInBounds_toArray, List.set_cons_zero, List.set_cons_succ])
        refine wpAnyH_take (i := 4) (oi := { dst := some 26, op := Op.fieldAddr 36 (Operand.tmp 3) 2, type := 0, pos := "may.go:17", after := #[{ on := 3, ground := Ground.guard }], guard := some (3, false) }) (v := ?vmb4) rfl (by kernel_rfl) (by kernel_rfl) (by kernel_rfl) (fun _ _ _ h => h) (Or.inl ⟨by rfl, ?hymb4⟩) hHmb1 ?_
        case hymb4 => (intro w hSw; (try dsimp only at hSw); go_simp; (first | done | with_reducible rfl))
        (try simp only [Act.put, List.setIfInBounds_toArray, List.set_cons_zero, List.set_cons_succ])
        refine wpAnyH_take (i := 5) (oi := { dst := some 27, op := Op.load 4 (Operand.tmp 26), type := 4, pos := "may.go:17", after := #[{ on := 4, ground := Ground.data }, { on := 3, ground := Ground.guard }], guard := some (3, false) }) (v := ?vmb5) rfl (by kernel_rfl) (by kernel_rfl) (by kernel_rfl) (fun _ _ _ h => h) (Or.inl ⟨by rfl, ?hymb5⟩) hHmb1 ?_
        case hymb5 => (intro w hSw; (try dsimp only at hSw); go_simp; (first | done | with_reducible rfl))
        (try simp only [Act.put, List.setIfInBounds_toArray, List.set_cons_zero, List.set_cons_succ])
        refine wpAnyH_take (i := 6) (oi := { dst := some 28, op := Op.move (Operand.tmp 27), type := 4, pos := "may.go:17", after := #[{ on := 5, ground := Ground.data }, { on := 3, ground := Ground.chain }, { on := 3, ground := Ground.guard }], guard := some (3, false) }) (v := ?vmb6) rfl (by kernel_rfl) (by kernel_rfl) (by kernel_rfl) (fun _ _ _ h => h) (Or.inl ⟨by rfl, ?hymb6⟩) hHmb1 ?_
        case hymb6 => (intro w hSw; (try dsimp only at hSw); go_simp; (first | done | with_reducible rfl))
        (try simp only [Act.put, List.setIfInBounds_toArray, List.set_cons_zero, List.set_cons_succ])
        refine wpAnyH_take (i := 7) (oi := { dst := some 29, op := Op.load 36 (Operand.tmp 3), type := 36, pos := "may.go:17", after := #[{ on := 6, ground := Ground.guard }], guard := some (6, true) }) (v := undef) rfl (by kernel_rfl) (by kernel_rfl) (by kernel_rfl) (fun _ _ _ h => h) (Or.inr ⟨by rfl, rfl⟩) hHmb1 ?_
        (try simp only [Act.put, List.setIfInBounds_toArray, List.set_cons_zero, List.set_cons_succ])
        refine wpAnyH_take (i := 8) (oi := { dst := some 30, op := Op.call { callee := Callee.value (Operand.func 33), args := #[Operand.tmp 29], argTypes := #[36] }, type := 3, pos := "may.go:17", after := #[{ on := 7, ground := Ground.data }, { on := 6, ground := Ground.chain }, { on := 6, ground := Ground.guard }], guard := some (6, true) }) (v := undef) rfl (by kernel_rfl) (by kernel_rfl) (by kernel_rfl) (fun _ _ _ h => h) (Or.inr ⟨by rfl, rfl⟩) hHmb1 ?_
        (try simp only [Act.put, List.setIfInBounds_toArray, List.set_cons_zero, List.set_cons_succ])
        refine wpAnyH_take (i := 9) (oi := { dst := some 31, op := Op.fieldAddr 34 (Operand.tmp 5) 0, type := 0, pos := "may.go:17", after := #[{ on := 6, ground := Ground.guard }], guard := some (6, true) }) (v := undef) rfl (by kernel_rfl) (by kernel_rfl) (by kernel_rfl) (fun _ _ _ h => h) (Or.inr ⟨by rfl, rfl⟩) hHmb1 ?_
        (try simp only [Act.put, List.setIfInBounds_toArray, List.set_cons_zero, List.set_cons_succ])
        refine wpAnyH_take (i := 10) (oi := { dst := some 32, op := Op.load 3 (Operand.tmp 31), type := 3, pos := "may.go:17", after := #[{ on := 9, ground := Ground.data }, { on := 6, ground := Ground.guard }], guard := some (6, true) }) (v := undef) rfl (by kernel_rfl) (by kernel_rfl) (by kernel_rfl) (fun _ _ _ h => h) (Or.inr ⟨by rfl, rfl⟩) hHmb1 ?_
        (try simp only [Act.put, List.setIfInBounds_toArray, List.set_cons_zero, List.set_cons_succ])
        refine wpAnyH_take (i := 11) (oi := { dst := some 33, op := Op.binOp BinOp.neq 3 (Operand.tmp 30) (Operand.tmp 32) 3, type := 4, pos := "may.go:17", after := #[{ on := 8, ground := Ground.data }, { on := 10, ground := Ground.data }, { on := 6, ground := Ground.guard }], guard := some (6, true) }) (v := undef) rfl (by kernel_rfl) (by kernel_rfl) (by kernel_rfl) (fun _ _ _ h => h) (Or.inr ⟨by rfl, rfl⟩) hHmb1 ?_
        (try simp only [Act.put, List.setIfInBounds_toArray, List.set_cons_zero, List.set_cons_succ])
        refine wpAnyH_take (i := 12) (oi := { dst := some 34, op := Op.pick (Operand.tmp 28) (Operand.tmp 33) (Operand.const (Value.bool false)), type := 4, pos := "may.go:17", after := #[{ on := 6, ground := Ground.data }, { on := 11, ground := Ground.data }, { on := 3, ground := Ground.guard }], guard := some (3, false) }) (v := ?vmb12) rfl (by kernel_rfl) (by kernel_rfl) (by kernel_rfl) (fun _ _ _ h => h) (Or.inl ⟨by rfl, ?hymb12⟩) hHmb1 ?_
        case hymb12 => (intro w hSw; (try dsimp only at hSw); go_simp; (first | done | with_reducible rfl))
        (try simp only [Act.put, List.setIfInBounds_toArray, List.set_cons_zero, List.set_cons_succ])
        refine wpAnyH_take (i := 13) (oi := { dst := some 35, op := Op.pick (Operand.tmp 25) (Operand.const (Value.bool true)) (Operand.tmp 34), type := 4, pos := "may.go:17", after := #[{ on := 3, ground := Ground.data }, { on := 12, ground := Ground.data }], guard := none }) (v := ?vmb13) rfl (by kernel_rfl) (by kernel_rfl) (by kernel_rfl) (fun _ _ _ h => h) (Or.inl ⟨by rfl, ?hymb13⟩) hHmb1 ?_
        case hymb13 => (intro w hSw; (try dsimp only at hSw); go_simp; (first | done | with_reducible rfl))
        (try simp only [Act.put, List.setIfInBounds_toArray, List.set_cons_zero, List.set_cons_succ])
        refine wpAnyH_done (by kernel_rfl) ?_ _
        go_wp2
        go_meet
        exact ⟨rfl, HI1.out.keep hb2⟩
      · have HN : Hid (∀ X, Below w1.heap.size w1 X → (X.cell? ⟨W.heap.size, 0, none⟩ = some (.int .i64 s.e) ∧ X.cell? ⟨W.heap.size, 1, none⟩ = some (.int .i64 s.u) ∧ X.cell? ⟨W.heap.size, 2, none⟩ = some (.bool true) ∧ X.cell? ⟨W.heap.size, 3, none⟩ = some (.int .i64 s.mn.k) ∧ X.cell? ⟨W.heap.size, 4, none⟩ = some (.int .i64 s.mn.n) ∧ X.cell? ⟨W.heap.size, 5, none⟩ = some (.string s.mn.s) ∧ X.cell? ⟨W.heap.size, 6, none⟩ = some (.int .i64 s.mx.k) ∧ X.cell? ⟨W.heap.size, 7, none⟩ = some (.int .i64 s.mx.n) ∧ X.cell? ⟨W.heap.size, 8, none⟩ = some (.string s.mx.s)) ∧ (X.cell? ⟨W.heap.size + 1, 0, none⟩ = some (.int .i64 v.k) ∧ X.cell? ⟨W.heap.size + 1, 1, none⟩ = some (.int .i64 v.n) ∧ X.cell? ⟨W.heap.size + 1, 2, none⟩ = some (.string v.s)) ∧ Below w1.heap.size w1 X) := fun X hX => ⟨by have h := (row_nine (HI1.out.keep hX).st).1; rw [hsh] at h; exact h, row_three (HI1.out.keep hX).va, hX⟩
        clear hsh
        refine wp_region_held_drew (S := (fun X => (X.cell? ⟨W.heap.size, 0, none⟩ = some (.int .i64 s.e) ∧ X.cell? ⟨W.heap.size, 1, none⟩ = some (.int .i64 s.u) ∧ X.cell? ⟨W.heap.size, 2, none⟩ = some (.bool true) ∧ X.cell? ⟨W.heap.size, 3, none⟩ = some (.int .i64 s.mn.k) ∧ X.cell? ⟨W.heap.size, 4, none⟩ = some (.int .i64 s.mn.n) ∧ X.cell? ⟨W.heap.size, 5, none⟩ = some (.string s.mn.s) ∧ X.cell? ⟨W.heap.size, 6, none⟩ = some (.int .i64 s.mx.k) ∧ X.cell? ⟨W.heap.size, 7, none⟩ = some (.int .i64 s.mx.n) ∧ X.cell? ⟨W.heap.size, 8, none⟩ = some (.string s.mx.s)) ∧ (X.cell? ⟨W.heap.size + 1, 0, none⟩ = some (.int .i64 v.k) ∧ X.cell? ⟨W.heap.size + 1, 1, none⟩ = some (.int .i64 v.n) ∧ X.cell? ⟨W.heap.size + 1, 2, none⟩ = some (.string v.s)) ∧ Below w1.heap.size w1 X)) (by kernel_rfl) (HN.out _ b0.drew) (fun hHeld => ?_)
        refine wpAnyH_take (i := 0) (oi := { dst := some 22, op := Op.load 34 (Operand.tmp 5), type := 34, pos := "may.go:17", after := #[], guard := none }) (v := ?vmc0) rfl (by kernel_rfl) (by kernel_rfl) (by kernel_rfl) (fun _ _ _ h => h) (Or.inl ⟨by rfl, ?hymc0⟩) hHeld ?_
        case hymc0 => (intro w hSw; (try dsimp only at hSw); go_simp; (first | done | with_reducible rfl))
        (try simp only [Act.put, List.setIfInBounds_toArray, List.set_cons_zero, List.set_cons_succ])
        refine wpAnyH_ready (rs := [1]) (by kernel_rfl) (by simp) ?_
        refine AllReadyH.cons (o := { dst := some 23, op := Op.call { callee := Callee.value (Operand.func 35), args := #[Operand.tmp 22], argTypes := #[34] }, type := 4, pos := "may.go:17", after := #[{ on := 0, ground := Ground.data }], guard := none }) rfl (fun K hK => ?_) AllReadyH.nil
        go_simp
        (go_at_call 35; (with_reducible refine Calls.mono (HIV.out _ b0.drew) ?_); rintro e w2 ⟨rfl, hb2⟩)
        go_wp2_with fail
        refine hK.out _ _ (HN.out _ hb2) (fun hHmc1 => ?_)
        (try simp only [Act.put, List.setIfInBounds_toArray, List.set_cons_zero, List.set_cons_succ])
        refine wpAnyH_take (i := 2) (oi := { dst := some 24, op := Op.unOp UnOp.not 4 (Operand.tmp 23), type := 4, pos := "may.go:17", after := #[{ on := 1, ground := Ground.data }], guard := none }) (v := ?vmc2) rfl (by kernel_rfl) (by kernel_rfl) (by kernel_rfl) (fun _ _ _ h => h) (Or.inl ⟨by rfl, ?hymc2⟩) hHmc1 ?_
        case hymc2 => (intro w hSw; (try dsimp only at hSw); go_simp; (first | done | with_reducible rfl))
        (try simp only [Act.put, List.setIfInBounds_toArray, List.set_cons_zero, List.set_cons_succ])
        refine wpAnyH_take (i := 3) (oi := { dst := some 25, op := Op.move (Operand.tmp 24), type := 4, pos := "may.go:17", after := #[{ on := 2, ground := Ground.data }, { on := 1, ground := Ground.chain }], guard := none }) (v := ?vmc3) rfl (by kernel_rfl) (by kernel_rfl) (by kernel_rfl) (fun _ _ _ h => h) (Or.inl ⟨by rfl, ?hymc3⟩) hHmc1 ?_
        case hymc3 => (intro w hSw; (try dsimp only at hSw); go_simp; (first | done | with_reducible rfl))
        (try simp only [Act.put, List.setIfInBounds_toArray, List.set_cons_zero, List.set_cons_succ])
        refine wpAnyH_take (i := 4) (oi := { dst := some 26, op := Op.fieldAddr 36 (Operand.tmp 3) 2, type := 0, pos := "may.go:17", after := #[{ on := 3, ground := Ground.guard }], guard := some (3, false) }) (v := ?vmc4) rfl (by kernel_rfl) (by kernel_rfl) (by kernel_rfl) (fun _ _ _ h => h) (Or.inl ⟨by rfl, ?hymc4⟩) hHmc1 ?_
        case hymc4 => (intro w hSw; (try dsimp only at hSw); go_simp; (first | done | with_reducible rfl))
        (try simp only [Act.put, List.setIfInBounds_toArray, List.set_cons_zero, List.set_cons_succ])
        refine wpAnyH_take (i := 5) (oi := { dst := some 27, op := Op.load 4 (Operand.tmp 26), type := 4, pos := "may.go:17", after := #[{ on := 4, ground := Ground.data }, { on := 3, ground := Ground.guard }], guard := some (3, false) }) (v := ?vmc5) rfl (by kernel_rfl) (by kernel_rfl) (by kernel_rfl) (fun _ _ _ h => h) (Or.inl ⟨by rfl, ?hymc5⟩) hHmc1 ?_
        case hymc5 => (intro w hSw; (try dsimp only at hSw); go_simp; (first | done | with_reducible rfl))
        (try simp only [Act.put, List.setIfInBounds_toArray, List.set_cons_zero, List.set_cons_succ])
        refine wpAnyH_take (i := 6) (oi := { dst := some 28, op := Op.move (Operand.tmp 27), type := 4, pos := "may.go:17", after := #[{ on := 5, ground := Ground.data }, { on := 3, ground := Ground.chain }, { on := 3, ground := Ground.guard }], guard := some (3, false) }) (v := ?vmc6) rfl (by kernel_rfl) (by kernel_rfl) (by kernel_rfl) (fun _ _ _ h => h) (Or.inl ⟨by rfl, ?hymc6⟩) hHmc1 ?_
        case hymc6 => (intro w hSw; (try dsimp only at hSw); go_simp; (first | done | with_reducible rfl))
        (try simp only [Act.put, List.setIfInBounds_toArray, List.set_cons_zero, List.set_cons_succ])
        refine wpAnyH_take (i := 7) (oi := { dst := some 29, op := Op.load 36 (Operand.tmp 3), type := 36, pos := "may.go:17", after := #[{ on := 6, ground := Ground.guard }], guard := some (6, true) }) (v := ?vmc7) rfl (by kernel_rfl) (by kernel_rfl) (by kernel_rfl) (fun _ _ _ h => h) (Or.inl ⟨by rfl, ?hymc7⟩) hHmc1 ?_
        case hymc7 => (intro w hSw; (try dsimp only at hSw); go_simp; (first | done | with_reducible rfl))
        (try simp only [Act.put, List.setIfInBounds_toArray, List.set_cons_zero, List.set_cons_succ])
        refine wpAnyH_take (i := 9) (oi := { dst := some 31, op := Op.fieldAddr 34 (Operand.tmp 5) 0, type := 0, pos := "may.go:17", after := #[{ on := 6, ground := Ground.guard }], guard := some (6, true) }) (v := ?vmc9) rfl (by kernel_rfl) (by kernel_rfl) (by kernel_rfl) (fun _ _ _ h => h) (Or.inl ⟨by rfl, ?hymc9⟩) hHmc1 ?_
        case hymc9 => (intro w hSw; (try dsimp only at hSw); go_simp; (first | done | with_reducible rfl))
        (try simp only [Act.put, List.setIfInBounds_toArray, List.set_cons_zero, List.set_cons_succ])
        refine wpAnyH_take (i := 10) (oi := { dst := some 32, op := Op.load 3 (Operand.tmp 31), type := 3, pos := "may.go:17", after := #[{ on := 9, ground := Ground.data }, { on := 6, ground := Ground.guard }], guard := some (6, true) }) (v := ?vmc10) rfl (by kernel_rfl) (by kernel_rfl) (by kernel_rfl) (fun _ _ _ h => h) (Or.inl ⟨by rfl, ?hymc10⟩) hHmc1 ?_
        case hymc10 => (intro w hSw; (try dsimp only at hSw); go_simp; (first | done | with_reducible rfl))
        (try simp only [Act.put, List.setIfInBounds_toArray, List.set_cons_zero, List.set_cons_succ])
        refine wpAnyH_ready (rs := [8]) (by kernel_rfl) (by simp) ?_
        refine AllReadyH.cons (o := { dst := some 30, op := Op.call { callee := Callee.value (Operand.func 33), args := #[Operand.tmp 29], argTypes := #[36] }, type := 3, pos := "may.go:17", after := #[{ on := 7, ground := Ground.data }, { on := 6, ground := Ground.chain }, { on := 6, ground := Ground.guard }], guard := some (6, true) }) rfl (fun K hK => ?_) AllReadyH.nil
        go_simp
        (go_at_call 33; (with_reducible refine Calls.mono (HKd.out _ hb2 (by simp)) ?_); rintro e w3 ⟨rfl, hb3⟩)
        go_wp2_with fail
        refine hK.out _ _ (HN.out _ hb3) (fun hHmc8 => ?_)
        (try simp only [Act.put, List.setIfInBounds_toArray, List.set_cons_zero, List.set_cons_succ])
        refine wpAnyH_take (i := 11) (oi := { dst := some 33, op := Op.binOp BinOp.neq 3 (Operand.tmp 30) (Operand.tmp 32) 3, type := 4, pos := "may.go:17", after := #[{ on := 8, ground := Ground.data }, { on := 10, ground := Ground.data }, { on := 6, ground := Ground.guard }], guard := some (6, true) }) (v := ?vmc11) rfl (by kernel_rfl) (by kernel_rfl) (by kernel_rfl) (fun _ _ _ h => h) (Or.inl ⟨by rfl, ?hymc11⟩) hHmc8 ?_
        case hymc11 => (intro w hSw; (try dsimp only at hSw); go_simp; (first | done | with_reducible rfl))
        (try simp only [Act.put, List.setIfInBounds_toArray, List.set_cons_zero, List.set_cons_succ])
        refine wpAnyH_take (i := 12) (oi := { dst := some 34, op := Op.pick (Operand.tmp 28) (Operand.tmp 33) (Operand.const (Value.bool false)), type := 4, pos := "may.go:17", after := #[{ on := 6, ground := Ground.data }, { on := 11, ground := Ground.data }, { on := 3, ground := Ground.guard }], guard := some (3, false) }) (v := ?vmc12) rfl (by kernel_rfl) (by kernel_rfl) (by kernel_rfl) (fun _ _ _ h => h) (Or.inl ⟨by rfl, ?hymc12⟩) hHmc8 ?_
        case hymc12 => (intro w hSw; (try dsimp only at hSw); go_simp; (first | done | with_reducible rfl))
        (try simp only [Act.put, List.setIfInBounds_toArray, List.set_cons_zero, List.set_cons_succ])
        refine wpAnyH_take (i := 13) (oi := { dst := some 35, op := Op.pick (Operand.tmp 25) (Operand.const (Value.bool true)) (Operand.tmp 34), type := 4, pos := "may.go:17", after := #[{ on := 3, ground := Ground.data }, { on := 12, ground := Ground.data }], guard := none }) (v := ?vmc13) rfl (by kernel_rfl) (by kernel_rfl) (by kernel_rfl) (fun _ _ _ h => h) (Or.inl ⟨by rfl, ?hymc13⟩) hHmc8 ?_
        case hymc13 => (intro w hSw; (try dsimp only at hSw); go_simp; (first | done | with_reducible rfl))
        (try simp only [Act.put, List.setIfInBounds_toArray, List.set_cons_zero, List.set_cons_succ])
        refine wpAnyH_done (by kernel_rfl) ?_ _
        go_wp2
        go_meet
        exact ⟨by rw [← HBD3.out]; rfl, HI1.out.keep hb3⟩
  case rest =>
    obtain ⟨rfl, HI⟩ := hcut
    rename World => wx
    clear HI1
    cases bd
    · obtain ⟨sh, hsh⟩ : ∃ sh, s.h = sh := ⟨_, rfl⟩
      have HSH : Hid _ := hsh
      have hst : wx.heap[W.heap.size]? = some (.cells #[.int .i64 s.e, .int .i64 s.u, .bool sh, .int .i64 s.mn.k, .int .i64 s.mn.n, .string s.mn.s, .int .i64 s.mx.k, .int .i64 s.mx.n, .string s.mx.s] 36 (0, 0)) := by have h := HI.out.st; rw [hsh] at h; exact h
      obtain ⟨⟨x0, x1, x2, x3, x4, x5, x6, x7, x8⟩, _⟩ := row_nine hst
      have HST : Hid _ := hst
      clear hsh hst
      cases sh
      · go_wp2
        go_ret2
        exact ⟨⟨false, _, rfl, .inr ⟨HBD.out, rfl, fun _ => rfl, fun h => by rw [HSH.out] at h; cases h⟩⟩, HI.out.old⟩
      · go_upto_region 8 with fail
        have hg := hs.2.2
        obtain ⟨hmn, hmx⟩ := hg
        go_cut [10, 11] (fun x y w => ∃ (g1 g2 : Nat) (lo hi : Vl), x = .pointer (some ⟨g1, 0, none⟩) ∧ y = .pointer (some ⟨g2, 0, none⟩) ∧ Hid (Below wx.heap.size wx w) ∧ Hid (w.heap[g1]? = some (.cells #[.int .i64 lo.k, .int .i64 lo.n, .string lo.s] 34 (0, 0))) ∧ Hid (w.heap[g2]? = some (.cells #[.int .i64 hi.k, .int .i64 hi.n, .string hi.s] 34 (0, 0))) ∧ Hid (lo.Low ∧ hi.Low ∧ (okV s.mn.k s.mn.k s.mn.n s.mn.s.size = true → lo = s.mn) ∧ (okV v.k s.mx.k s.mx.n s.mx.s.size = true → hi = s.mx)))
        case first =>
          clear x0 x1 x2 x3 x4 x5 x6 x7 x8
          have b0 : Below wx.heap.size wx wx := Below.refl _ _
          have HN : Hid (∀ X, Below wx.heap.size wx X → (X.cell? ⟨W.heap.size, 0, none⟩ = some (.int .i64 s.e) ∧ X.cell? ⟨W.heap.size, 1, none⟩ = some (.int .i64 s.u) ∧ X.cell? ⟨W.heap.size, 2, none⟩ = some (.bool true) ∧ X.cell? ⟨W.heap.size, 3, none⟩ = some (.int .i64 s.mn.k) ∧ X.cell? ⟨W.heap.size, 4, none⟩ = some (.int .i64 s.mn.n) ∧ X.cell? ⟨W.heap.size, 5, none⟩ = some (.string s.mn.s) ∧ X.cell? ⟨W.heap.size, 6, none⟩ = some (.int .i64 s.mx.k) ∧ X.cell? ⟨W.heap.size, 7, none⟩ = some (.int .i64 s.mx.n) ∧ X.cell? ⟨W.heap.size, 8, none⟩ = some (.string s.mx.s)) ∧ (X.cell? ⟨W.heap.size + 1, 0, none⟩ = some (.int .i64 v.k) ∧ X.cell? ⟨W.heap.size + 1, 1, none⟩ = some (.int .i64 v.n) ∧ X.cell? ⟨W.heap.size + 1, 2, none⟩ = some (.string v.s)) ∧ Below wx.heap.size wx X) := fun X hX => ⟨(row_nine (blk_keep hX HST.out)).1, row_three (blk_keep hX HI.out.va), hX⟩
          have HLe : Hid (∀ X, Below wx.heap.size wx X → Calls Tryd.prog 36 #[.agg #[.int .i64 s.mn.k, .int .i64 s.mn.n, .string s.mn.s]] X fun e w' => (∃ x : Vl, e = .returned (.agg #[.int .i64 x.k, .int .i64 x.n, .string x.s]) ∧ x.Low ∧ (okV s.mn.k s.mn.k s.mn.n s.mn.s.size = true → x = s.mn)) ∧ Below wx.heap.size wx w' ∧ Below X.heap.size X w') := fun X hX => (leastFrom_any s.mn X hmn.2.1.1 hmn.2.2).mono fun _ _ h => ⟨h.1, bel_next hX (Nat.le_refl _) h.2, h.2⟩
          have HGr : Hid (∀ X, Below wx.heap.size wx X → Calls Tryd.prog 37 #[.agg #[.int .i64 s.mx.k, .int .i64 s.mx.n, .string s.mx.s], .int .i64 v.k] X fun e w' => (∃ x : Vl, e = .returned (.agg #[.int .i64 x.k, .int .i64 x.n, .string x.s]) ∧ x.Low ∧ (okV v.k s.mx.k s.mx.n s.mx.s.size = true → x = s.mx)) ∧ Below wx.heap.size wx w' ∧ Below X.heap.size X w') := fun X hX => (greatestTo_any s.mx v.k X hmx.2.1.1 hmx.2.1.2 hmx.2.2).mono fun _ _ h => ⟨h.1, bel_next hX (Nat.le_refl _) h.2, h.2⟩
          go_region_held3 (fun X => (X.cell? ⟨W.heap.size, 0, none⟩ = some (.int .i64 s.e) ∧ X.cell? ⟨W.heap.size, 1, none⟩ = some (.int .i64 s.u) ∧ X.cell? ⟨W.heap.size, 2, none⟩ = some (.bool true) ∧ X.cell? ⟨W.heap.size, 3, none⟩ = some (.int .i64 s.mn.k) ∧ X.cell? ⟨W.heap.size, 4, none⟩ = some (.int .i64 s.mn.n) ∧ X.cell? ⟨W.heap.size, 5, none⟩ = some (.string s.mn.s) ∧ X.cell? ⟨W.heap.size, 6, none⟩ = some (.int .i64 s.mx.k) ∧ X.cell? ⟨W.heap.size, 7, none⟩ = some (.int .i64 s.mx.n) ∧ X.cell? ⟨W.heap.size, 8, none⟩ = some (.string s.mx.s)) ∧ (X.cell? ⟨W.heap.size + 1, 0, none⟩ = some (.int .i64 v.k) ∧ X.cell? ⟨W.heap.size + 1, 1, none⟩ = some (.int .i64 v.n) ∧ X.cell? ⟨W.heap.size + 1, 2, none⟩ = some (.string v.s)) ∧ Below wx.heap.size wx X) (with_reducible refine HN.out _ ?_; repeat' (first | with_reducible assumption | with_reducible exact b0.drew | with_reducible exact b0 | with_reducible refine Below.drew ?_ | with_reducible exact Nat.le_refl _ | with_reducible refine Below.setCell ?_ ?_ _ | with_reducible refine Below.alloc ?_ ?_ _ | with_reducible exact Below.size (by assumption) | (simp; done) | (simp; omega) | omega)) (first
            | (go_at_call 36; (with_reducible refine Calls.mono (HLe.out _ ?_) ?_); (repeat' (first | with_reducible assumption | with_reducible exact b0.drew | with_reducible exact b0 | with_reducible refine Below.drew ?_ | with_reducible refine Below.alloc ?_ ?_ _ | with_reducible exact Below.size (by assumption) | with_reducible exact Nat.le_refl _ | (simp; done) | (simp; omega))); rintro e x1 ⟨⟨lo, rfl, hlo⟩, hbx1, hraw1⟩; have HLO : Hid _ := hlo; clear hlo; have hq1 : wx.heap.size ≤ x1.heap.size := hbx1.size; (first | (have hz1 : x1.heap[wx.heap.size]? = some (.cells #[.int .i64 0, .int .i64 0, .string ⟨#[]⟩] 34 (0, 0)) := blk_keep hraw1 (box_fst wx.drew); have hz2 : x1.heap[wx.heap.size + 1]? = some (.cells #[.int .i64 0, .int .i64 0, .string ⟨#[]⟩] 34 (0, 0)) := blk_keep hraw1 (box_snd wx.drew)) | (have hz1 : x1.heap[wx.heap.size]? = some (.cells #[.int .i64 0, .int .i64 0, .string ⟨#[]⟩] 34 (0, 0)) := blk_keep hraw1 (box_one wx.drew)) | skip); (first | (have hn1 : ¬ (x1.heap.size = wx.heap.size) := Nat.ne_of_gt (lt_of_block hz1); have hn2 : ¬ (wx.heap.size = x1.heap.size) := Nat.ne_of_lt (lt_of_block hz1)) | skip))
            | (go_at_call 37; (with_reducible refine Calls.mono (HGr.out _ ?_) ?_); (repeat' (first | with_reducible assumption | with_reducible exact b0.drew | with_reducible exact b0 | with_reducible refine Below.drew ?_ | with_reducible refine Below.alloc ?_ ?_ _ | with_reducible exact Below.size (by assumption) | with_reducible exact Nat.le_refl _ | (simp; done) | (simp; omega))); rintro e x2 ⟨⟨hi, rfl, hhi⟩, hbx2, hraw2⟩; have HHI : Hid _ := hhi; have HBX2 : Hid _ := hbx2; clear hhi; have hq2 : wx.heap.size ≤ x2.heap.size := hbx2.size; (first | (have hz5 := blk_keep hraw2 hz1; have hz6 := blk_keep hraw2 hz2; clear hz1 hz2) | (have hz5 := blk_keep hraw2 (blk_alloc hz1 (o' := (.cells #[.int .i64 0, .int .i64 0, .string ⟨#[]⟩] 34))); have hz6 : x2.heap[x1.heap.size]? = some (.cells #[.int .i64 0, .int .i64 0, .string ⟨#[]⟩] 34 (0, 0)) := blk_keep hraw2 (box_one x1); clear hz1) | (have hz5 := blk_keep hraw2 hz1; clear hz1) | (have hz5 : x2.heap[x1.heap.size]? = some (.cells #[.int .i64 0, .int .i64 0, .string ⟨#[]⟩] 34 (0, 0)) := blk_keep hraw2 (box_fst x1); have hz6 : x2.heap[x1.heap.size + 1]? = some (.cells #[.int .i64 0, .int .i64 0, .string ⟨#[]⟩] 34 (0, 0)) := blk_keep hraw2 (box_snd x1)) | (have hz5 : x2.heap[x1.heap.size]? = some (.cells #[.int .i64 0, .int .i64 0, .string ⟨#[]⟩] 34 (0, 0)) := blk_keep hraw2 (box_one x1)) | skip); (first | (obtain ⟨a0, a1, a2⟩ := row_three hz5; obtain ⟨a3, a4, a5⟩ := row_threeF hz5; have HZ5 : Hid _ := hz5; have hn3 := Nat.ne_of_gt (lt_of_block hz5); have hn4 := Nat.ne_of_lt (lt_of_block hz5); (obtain ⟨a6, a7, a8⟩ := row_three (blk_alloc hz5 (o' := (.cells #[.int .i64 0, .int .i64 0, .string ⟨#[]⟩] 34))); obtain ⟨a9, a10, a11⟩ := row_threeF (blk_alloc hz5 (o' := (.cells #[.int .i64 0, .int .i64 0, .string ⟨#[]⟩] 34))); obtain ⟨g6, g7, g8⟩ := row_three (box_one x2); obtain ⟨g9, g10, g11⟩ := row_threeF (box_one x2); obtain ⟨m6, m7, m8⟩ := row_three (blk_alloc hz5 (o' := (.cells #[.int .i64 lo.k, .int .i64 lo.n, .string lo.s] 34))); obtain ⟨m9, m10, m11⟩ := row_threeF (blk_alloc hz5 (o' := (.cells #[.int .i64 lo.k, .int .i64 lo.n, .string lo.s] 34)))); clear hz5) | (obtain ⟨a0, a1, a2⟩ := row_three (box_fst x2); obtain ⟨a3, a4, a5⟩ := row_threeF (box_fst x2); obtain ⟨a6, a7, a8⟩ := row_three (box_snd x2); obtain ⟨a9, a10, a11⟩ := row_threeF (box_snd x2); obtain ⟨m6, m7, m8⟩ := row_three (blk_alloc (box_one x2) (o' := (.cells #[.int .i64 lo.k, .int .i64 lo.n, .string lo.s] 34))); obtain ⟨m9, m10, m11⟩ := row_threeF (blk_alloc (box_one x2) (o' := (.cells #[.int .i64 lo.k, .int .i64 lo.n, .string lo.s] 34)))) | skip); (first | (obtain ⟨d0, d1, d2⟩ := row_three hz6; obtain ⟨d3, d4, d5⟩ := row_threeF hz6; have HZ6 : Hid _ := hz6; clear hz6) | skip)))
          all_goals go_wp2_with fail
          all_goals go_meet
          all_goals
            refine ⟨_, _, lo, hi, rfl, rfl, ?_⟩
            refine (fun (h : LoHi wx _ _ _ lo hi) => ⟨h.1, h.2.1, h.2.2, HLO.out.1, HHI.out.1, HLO.out.2, HHI.out.2⟩) ?_
            first
              | with_reducible exact lohi1 HBX2.out lo hi
              | with_reducible exact lohi2 HBX2.out lo hi
              | (with_reducible refine lohi3 HBX2.out HZ5.out ?_ lo hi; omega)
              | (with_reducible refine lohi5 HBX2.out HZ5.out ?_ lo hi; omega)
              | (with_reducible refine lohi4 HBX2.out HZ5.out HZ6.out ?_ ?_ ?_ lo hi <;> omega)
              | (with_reducible refine lohi4 HBX2.out HZ6.out HZ5.out ?_ ?_ ?_ lo hi <;> omega)
        case rest =>
          obtain ⟨g1, g2, lo, hi, rfl, rfl, HBy, H1, H2, HLH⟩ := hcut
          rename World => wy
          have HD0 : Hid (MyD W s v g1 g2 lo hi wy) := ⟨HI.out.keep HBy.out, H1.out, H2.out⟩
          have hvl : v.Low := hv.2.1.1
          have hlo : -9223372036854775808 ≤ lo.n := HLH.out.1
          have hhi : -9223372036854775808 ≤ hi.n := HLH.out.2.1
          have hvn : -9223372036854775808 ≤ v.n := hv.2.1.1
          clear HI HBy H1 H2 x0 x1 x2 x3 x4 x5 x6 x7 x8 HST hmn hmx
          obtain ⟨l0, l1, l2⟩ := row_three HD0.out.lo
          obtain ⟨u0, u1, u2⟩ := row_three HD0.out.hi
          obtain ⟨y0, y1, y2⟩ := row_three HD0.out.my.va
          obtain ⟨r0, HR0⟩ : ∃ r, Hid (vless hi.k hi.n hi.s lo.k lo.n lo.s = r) := ⟨_, rfl⟩
          obtain ⟨r1, HR1⟩ : ∃ r, Hid (vless v.k v.n v.s lo.k lo.n lo.s = r) := ⟨_, rfl⟩
          obtain ⟨r2, HR2⟩ : ∃ r, Hid (vless hi.k hi.n hi.s v.k v.n v.s = r) := ⟨_, rfl⟩
          have HGd : Hid (GoodS s v → lo = s.mn ∧ hi = s.mx) := fun h => ⟨HLH.out.2.2.1 (by have e := okV_kind h.1; rw [e]; have h2 := h.1; rw [e] at h2; exact h2), HLH.out.2.2.2 h.2.1⟩
          go_wp2_with fail
          refine (less_any hi.k hi.n hi.s lo.k lo.n lo.s _ hhi hlo).mono ?_
          rw [HR0.out]
          rintro e wa ⟨rfl, hba⟩
          have HDa : Hid _ := HD0.out.keep hba
          clear hba HD0 l0 l1 l2 u0 u1 u2 y0 y1 y2
          obtain ⟨l0, l1, l2⟩ := row_three HDa.out.lo
          obtain ⟨u0, u1, u2⟩ := row_three HDa.out.hi
          obtain ⟨y0, y1, y2⟩ := row_three HDa.out.my.va
          cases r0
          · go_upto_region 11 with fail
            obtain ⟨wt, HWT⟩ : ∃ wt, Hid (wt = (!r1 && !r2)) := ⟨_, rfl⟩
            have HEnd : Hid (∀ b : Bool, b = (stdB i lo v || stdB i hi v || (wt && stdB i v v)) → MyR i s v (.iface kt kp) b .nilIface) := fun b hb => .inr ⟨HBD.out, rfl, fun h => (by rw [HSH.out] at h; cases h), fun _ hg => (by
              obtain ⟨e1, e2⟩ := HGd.out hg
              rw [hb, HWT.out, ← HR1.out, ← HR2.out, e1, e2]
              rfl)⟩
            go_cut [12] (fun x w => x = .bool wt ∧ Hid (MyD W s v g1 g2 lo hi w))
            case first =>
              go_wp2_with fail
              refine (less_any v.k v.n v.s lo.k lo.n lo.s _ hvn hlo).mono ?_
              rw [HR1.out]
              rintro e wb ⟨rfl, hbb⟩
              have HDb : Hid _ := HDa.out.keep hbb
              clear hbb l0 l1 l2 u0 u1 u2 y0 y1 y2
              obtain ⟨u0, u1, u2⟩ := row_three HDb.out.hi
              obtain ⟨y0, y1, y2⟩ := row_three HDb.out.my.va
              cases r1
              · go_wp2_with fail
                refine (less_any hi.k hi.n hi.s v.k v.n v.s _ hhi hvn).mono ?_
                rw [HR2.out]
                rintro e wc ⟨rfl, hbc⟩
                have HDc : Hid _ := HDb.out.keep hbc
                go_wp2
                go_meet
                exact ⟨by rw [HWT.out]; rfl, HDc⟩
              · go_wp2
                go_meet
                exact ⟨by rw [HWT.out]; rfl, HDb⟩
            case rest =>
              obtain ⟨rfl, HDw⟩ := hcut
              rename World => wd
              clear HDa l0 l1 l2 u0 u1 u2 y0 y1 y2 HWT HR0 HR1 HR2
              obtain ⟨l0, l1, l2⟩ := row_three HDw.out.lo
              obtain ⟨u0, u1, u2⟩ := row_three HDw.out.hi
              obtain ⟨y0, y1, y2⟩ := row_three HDw.out.my.va
              obtain ⟨F, HF⟩ : ∃ F, Hid (fnN i = F) := ⟨_, rfl⟩
              rw [HF.out]
              rcases (show i = 0 ∨ i = 1 ∨ i = 2 ∨ i = 3 ∨ i = 4 ∨ i = 5 by omega) with rfl | rfl | rfl | rfl | rfl | rfl
              · obtain rfl : (38 : Nat) = F := HF.out
                go_wp2_with fail
                refine (stand0 lo v _ HLH.out.1 hvl).mono ?_
                obtain ⟨b1, HB1⟩ : ∃ b, Hid (stdB 0 lo v = b) := ⟨_, rfl⟩
                obtain ⟨b2, HB2⟩ : ∃ b, Hid (stdB 0 hi v = b) := ⟨_, rfl⟩
                obtain ⟨b3, HB3⟩ : ∃ b, Hid (stdB 0 v v = b) := ⟨_, rfl⟩
                have HFn : Hid (∀ b, b = (b1 || b2 || (wt && b3)) → MyR 0 s v (.iface kt kp) b .nilIface) := fun b hb => HEnd.out b (by rw [hb, HB1.out, HB2.out, HB3.out])
                rw [HB1.out]
                rintro e z1 ⟨rfl, hz1⟩
                have HD1 : Hid _ := HDw.out.keep hz1
                clear hz1 l0 l1 l2 u0 u1 u2 y0 y1 y2
                obtain ⟨u0, u1, u2⟩ := row_three HD1.out.hi
                obtain ⟨y0, y1, y2⟩ := row_three HD1.out.my.va
                cases b1
                · go_wp2_with fail
                  refine (stand0 hi v _ HLH.out.2.1 hvl).mono ?_
                  rw [HB2.out]
                  rintro e z2 ⟨rfl, hz2⟩
                  have HD2 : Hid _ := HD1.out.keep hz2
                  clear hz2 u0 u1 u2 y0 y1 y2
                  obtain ⟨y0, y1, y2⟩ := row_three HD2.out.my.va
                  cases b2
                  · cases wt
                    · go_wp2
                      go_ret2
                      exact ⟨⟨_, _, rfl, HFn.out _ rfl⟩, HD2.out.my.old⟩
                    · go_wp2_with fail
                      refine (stand0 v v _ hvl hvl).mono ?_
                      rw [HB3.out]
                      rintro e z3 ⟨rfl, hz3⟩
                      have HD3 : Hid _ := HD2.out.keep hz3
                      go_wp2
                      go_ret2
                      exact ⟨⟨_, _, rfl, HFn.out _ (by simp)⟩, HD3.out.my.old⟩
                  · go_wp2
                    go_ret2
                    exact ⟨⟨_, _, rfl, HFn.out _ rfl⟩, HD2.out.my.old⟩
                · go_wp2
                  go_ret2
                  exact ⟨⟨_, _, rfl, HFn.out _ rfl⟩, HD1.out.my.old⟩
              · obtain rfl : (47 : Nat) = F := HF.out
                go_wp2_with fail
                refine (stand1 lo v _ HLH.out.1 hvl).mono ?_
                obtain ⟨b1, HB1⟩ : ∃ b, Hid (stdB 1 lo v = b) := ⟨_, rfl⟩
                obtain ⟨b2, HB2⟩ : ∃ b, Hid (stdB 1 hi v = b) := ⟨_, rfl⟩
                obtain ⟨b3, HB3⟩ : ∃ b, Hid (stdB 1 v v = b) := ⟨_, rfl⟩
                have HFn : Hid (∀ b, b = (b1 || b2 || (wt && b3)) → MyR 1 s v (.iface kt kp) b .nilIface) := fun b hb => HEnd.out b (by rw [hb, HB1.out, HB2.out, HB3.out])
                rw [HB1.out]
                rintro e z1 ⟨rfl, hz1⟩
                have HD1 : Hid _ := HDw.out.keep hz1
                clear hz1 l0 l1 l2 u0 u1 u2 y0 y1 y2
                obtain ⟨u0, u1, u2⟩ := row_three HD1.out.hi
                obtain ⟨y0, y1, y2⟩ := row_three HD1.out.my.va
                cases b1
                · go_wp2_with fail
                  refine (stand1 hi v _ HLH.out.2.1 hvl).mono ?_
                  rw [HB2.out]
                  rintro e z2 ⟨rfl, hz2⟩
                  have HD2 : Hid _ := HD1.out.keep hz2
                  clear hz2 u0 u1 u2 y0 y1 y2
                  obtain ⟨y0, y1, y2⟩ := row_three HD2.out.my.va
                  cases b2
                  · cases wt
                    · go_wp2
                      go_ret2
                      exact ⟨⟨_, _, rfl, HFn.out _ rfl⟩, HD2.out.my.old⟩
                    · go_wp2_with fail
                      refine (stand1 v v _ hvl hvl).mono ?_
                      rw [HB3.out]
                      rintro e z3 ⟨rfl, hz3⟩
                      have HD3 : Hid _ := HD2.out.keep hz3
                      go_wp2
                      go_ret2
                      exact ⟨⟨_, _, rfl, HFn.out _ (by simp)⟩, HD3.out.my.old⟩
                  · go_wp2
                    go_ret2
                    exact ⟨⟨_, _, rfl, HFn.out _ rfl⟩, HD2.out.my.old⟩
                · go_wp2
                  go_ret2
                  exact ⟨⟨_, _, rfl, HFn.out _ rfl⟩, HD1.out.my.old⟩
              · obtain rfl : (48 : Nat) = F := HF.out
                go_wp2_with fail
                refine (stand2 lo v _ HLH.out.1 hvl).mono ?_
                obtain ⟨b1, HB1⟩ : ∃ b, Hid (stdB 2 lo v = b) := ⟨_, rfl⟩
                obtain ⟨b2, HB2⟩ : ∃ b, Hid (stdB 2 hi v = b) := ⟨_, rfl⟩
                obtain ⟨b3, HB3⟩ : ∃ b, Hid (stdB 2 v v = b) := ⟨_, rfl⟩
                have HFn : Hid (∀ b, b = (b1 || b2 || (wt && b3)) → MyR 2 s v (.iface kt kp) b .nilIface) := fun b hb => HEnd.out b (by rw [hb, HB1.out, HB2.out, HB3.out])
                rw [HB1.out]
                rintro e z1 ⟨rfl, hz1⟩
                have HD1 : Hid _ := HDw.out.keep hz1
                clear hz1 l0 l1 l2 u0 u1 u2 y0 y1 y2
                obtain ⟨u0, u1, u2⟩ := row_three HD1.out.hi
                obtain ⟨y0, y1, y2⟩ := row_three HD1.out.my.va
                cases b1
                · go_wp2_with fail
                  refine (stand2 hi v _ HLH.out.2.1 hvl).mono ?_
                  rw [HB2.out]
                  rintro e z2 ⟨rfl, hz2⟩
                  have HD2 : Hid _ := HD1.out.keep hz2
                  clear hz2 u0 u1 u2 y0 y1 y2
                  obtain ⟨y0, y1, y2⟩ := row_three HD2.out.my.va
                  cases b2
                  · cases wt
                    · go_wp2
                      go_ret2
                      exact ⟨⟨_, _, rfl, HFn.out _ rfl⟩, HD2.out.my.old⟩
                    · go_wp2_with fail
                      refine (stand2 v v _ hvl hvl).mono ?_
                      rw [HB3.out]
                      rintro e z3 ⟨rfl, hz3⟩
                      have HD3 : Hid _ := HD2.out.keep hz3
                      go_wp2
                      go_ret2
                      exact ⟨⟨_, _, rfl, HFn.out _ (by simp)⟩, HD3.out.my.old⟩
                  · go_wp2
                    go_ret2
                    exact ⟨⟨_, _, rfl, HFn.out _ rfl⟩, HD2.out.my.old⟩
                · go_wp2
                  go_ret2
                  exact ⟨⟨_, _, rfl, HFn.out _ rfl⟩, HD1.out.my.old⟩
              · obtain rfl : (49 : Nat) = F := HF.out
                go_wp2_with fail
                refine (stand3 lo v _ HLH.out.1 hvl).mono ?_
                obtain ⟨b1, HB1⟩ : ∃ b, Hid (stdB 3 lo v = b) := ⟨_, rfl⟩
                obtain ⟨b2, HB2⟩ : ∃ b, Hid (stdB 3 hi v = b) := ⟨_, rfl⟩
                obtain ⟨b3, HB3⟩ : ∃ b, Hid (stdB 3 v v = b) := ⟨_, rfl⟩
                have HFn : Hid (∀ b, b = (b1 || b2 || (wt && b3)) → MyR 3 s v (.iface kt kp) b .nilIface) := fun b hb => HEnd.out b (by rw [hb, HB1.out, HB2.out, HB3.out])
                rw [HB1.out]
                rintro e z1 ⟨rfl, hz1⟩
                have HD1 : Hid _ := HDw.out.keep hz1
                clear hz1 l0 l1 l2 u0 u1 u2 y0 y1 y2
                obtain ⟨u0, u1, u2⟩ := row_three HD1.out.hi
                obtain ⟨y0, y1, y2⟩ := row_three HD1.out.my.va
                cases b1
                · go_wp2_with fail
                  refine (stand3 hi v _ HLH.out.2.1 hvl).mono ?_
                  rw [HB2.out]
                  rintro e z2 ⟨rfl, hz2⟩
                  have HD2 : Hid _ := HD1.out.keep hz2
                  clear hz2 u0 u1 u2 y0 y1 y2
                  obtain ⟨y0, y1, y2⟩ := row_three HD2.out.my.va
                  cases b2
                  · cases wt
                    · go_wp2
                      go_ret2
                      exact ⟨⟨_, _, rfl, HFn.out _ rfl⟩, HD2.out.my.old⟩
                    · go_wp2_with fail
                      refine (stand3 v v _ hvl hvl).mono ?_
                      rw [HB3.out]
                      rintro e z3 ⟨rfl, hz3⟩
                      have HD3 : Hid _ := HD2.out.keep hz3
                      go_wp2
                      go_ret2
                      exact ⟨⟨_, _, rfl, HFn.out _ (by simp)⟩, HD3.out.my.old⟩
                  · go_wp2
                    go_ret2
                    exact ⟨⟨_, _, rfl, HFn.out _ rfl⟩, HD2.out.my.old⟩
                · go_wp2
                  go_ret2
                  exact ⟨⟨_, _, rfl, HFn.out _ rfl⟩, HD1.out.my.old⟩
              · obtain rfl : (50 : Nat) = F := HF.out
                go_wp2_with fail
                refine (stand4 lo v _ HLH.out.1 hvl).mono ?_
                obtain ⟨b1, HB1⟩ : ∃ b, Hid (stdB 4 lo v = b) := ⟨_, rfl⟩
                obtain ⟨b2, HB2⟩ : ∃ b, Hid (stdB 4 hi v = b) := ⟨_, rfl⟩
                obtain ⟨b3, HB3⟩ : ∃ b, Hid (stdB 4 v v = b) := ⟨_, rfl⟩
                have HFn : Hid (∀ b, b = (b1 || b2 || (wt && b3)) → MyR 4 s v (.iface kt kp) b .nilIface) := fun b hb => HEnd.out b (by rw [hb, HB1.out, HB2.out, HB3.out])
                rw [HB1.out]
                rintro e z1 ⟨rfl, hz1⟩
                have HD1 : Hid _ := HDw.out.keep hz1
                clear hz1 l0 l1 l2 u0 u1 u2 y0 y1 y2
                obtain ⟨u0, u1, u2⟩ := row_three HD1.out.hi
                obtain ⟨y0, y1, y2⟩ := row_three HD1.out.my.va
                cases b1
                · go_wp2_with fail
                  refine (stand4 hi v _ HLH.out.2.1 hvl).mono ?_
                  rw [HB2.out]
                  rintro e z2 ⟨rfl, hz2⟩
                  have HD2 : Hid _ := HD1.out.keep hz2
                  clear hz2 u0 u1 u2 y0 y1 y2
                  obtain ⟨y0, y1, y2⟩ := row_three HD2.out.my.va
                  cases b2
                  · cases wt
                    · go_wp2
                      go_ret2
                      exact ⟨⟨_, _, rfl, HFn.out _ rfl⟩, HD2.out.my.old⟩
                    · go_wp2_with fail
                      refine (stand4 v v _ hvl hvl).mono ?_
                      rw [HB3.out]
                      rintro e z3 ⟨rfl, hz3⟩
                      have HD3 : Hid _ := HD2.out.keep hz3
                      go_wp2
                      go_ret2
                      exact ⟨⟨_, _, rfl, HFn.out _ (by simp)⟩, HD3.out.my.old⟩
                  · go_wp2
                    go_ret2
                    exact ⟨⟨_, _, rfl, HFn.out _ rfl⟩, HD2.out.my.old⟩
                · go_wp2
                  go_ret2
                  exact ⟨⟨_, _, rfl, HFn.out _ rfl⟩, HD1.out.my.old⟩
              · obtain rfl : (51 : Nat) = F := HF.out
                go_wp2_with fail
                refine (stand5 lo v _ HLH.out.1 hvl).mono ?_
                obtain ⟨b1, HB1⟩ : ∃ b, Hid (stdB 5 lo v = b) := ⟨_, rfl⟩
                obtain ⟨b2, HB2⟩ : ∃ b, Hid (stdB 5 hi v = b) := ⟨_, rfl⟩
                obtain ⟨b3, HB3⟩ : ∃ b, Hid (stdB 5 v v = b) := ⟨_, rfl⟩
                have HFn : Hid (∀ b, b = (b1 || b2 || (wt && b3)) → MyR 5 s v (.iface kt kp) b .nilIface) := fun b hb => HEnd.out b (by rw [hb, HB1.out, HB2.out, HB3.out])
                rw [HB1.out]
                rintro e z1 ⟨rfl, hz1⟩
                have HD1 : Hid _ := HDw.out.keep hz1
                clear hz1 l0 l1 l2 u0 u1 u2 y0 y1 y2
                obtain ⟨u0, u1, u2⟩ := row_three HD1.out.hi
                obtain ⟨y0, y1, y2⟩ := row_three HD1.out.my.va
                cases b1
                · go_wp2_with fail
                  refine (stand5 hi v _ HLH.out.2.1 hvl).mono ?_
                  rw [HB2.out]
                  rintro e z2 ⟨rfl, hz2⟩
                  have HD2 : Hid _ := HD1.out.keep hz2
                  clear hz2 u0 u1 u2 y0 y1 y2
                  obtain ⟨y0, y1, y2⟩ := row_three HD2.out.my.va
                  cases b2
                  · cases wt
                    · go_wp2
                      go_ret2
                      exact ⟨⟨_, _, rfl, HFn.out _ rfl⟩, HD2.out.my.old⟩
                    · go_wp2_with fail
                      refine (stand5 v v _ hvl hvl).mono ?_
                      rw [HB3.out]
                      rintro e z3 ⟨rfl, hz3⟩
                      have HD3 : Hid _ := HD2.out.keep hz3
                      go_wp2
                      go_ret2
                      exact ⟨⟨_, _, rfl, HFn.out _ (by simp)⟩, HD3.out.my.old⟩
                  · go_wp2
                    go_ret2
                    exact ⟨⟨_, _, rfl, HFn.out _ rfl⟩, HD2.out.my.old⟩
                · go_wp2
                  go_ret2
                  exact ⟨⟨_, _, rfl, HFn.out _ rfl⟩, HD1.out.my.old⟩
          · go_wp2
            go_ret2
            refine ⟨⟨_, _, rfl, .inr ⟨HBD.out, rfl, fun h => (by rw [HSH.out] at h; cases h), fun _ hg => ?_⟩⟩, HDa.out.my.old⟩
            obtain ⟨e1, e2⟩ := HGd.out hg
            have h := hg.2.2
            unfold lss at h
            rw [← e1, ← e2, HR0.out] at h
            cases h
    · have hbe := HKE.out _ HI.out.old
      go_wp2_with fail
      go_quiet (fail)
      go_wp2
      go_ret2
      exact ⟨⟨false, _, rfl, .inl ⟨HBD.out, rfl, rfl⟩⟩, blw_drewN HI.out.old _⟩
end Go.Proofs.YtkcobccmifkjcaaDoor
