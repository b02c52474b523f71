/-
  stats.May: what its boxes hold, what it answers.
  The reference's StandsOf; stats.May of a text that is no way to stand.
  The reference's MayOf, and why both are one.
-/
import Derived.Test.YtkcobccmifkjcaaDoorCBStStd
import Derived.Test.YtkcobccmifkjcaaDoorCBStSh
import Derived.Test.YtkcobccmifkjcaaDoorCOpenSt
import Derived.Test.YtkcobccmifkjcaaDoorCBVal
import Derived.BigQuiet
import Derived.Deep.RegionHeld3
import Derived.Test.YtkcobccmifkjcaaDoorCBLess
namespace Go.Proofs.YtkcobccmifkjcaaDoor
open Go.RowKit
/-- What May's boxes hold. -/
structure MyI (W : World) (s : St) (v : Vl) (X : World) : Prop where
  st : X.heap[W.heap.size]? = some (.cells #[.int .i64 s.e, .int .i64 s.u, .bool s.h, .int .i64 s.mn.k, .int .i64 s.mn.n, .string s.mn.s, .int .i64 s.mx.k, .int .i64 s.mx.n, .string s.mx.s] 36 (0, 0))
  va : X.heap[W.heap.size + 1]? = some (.cells #[.int .i64 v.k, .int .i64 v.n, .string v.s] 34 (0, 0))
  old : Below W.heap.size W X
theorem MyI.keep {W : World} {s : St} {v : Vl} {X w' : World} (h : MyI W s v X) (hb : Below X.heap.size X w') : MyI W s v w' :=
  ⟨blk_keep hb h.st, blk_keep hb h.va, h.old.trans (hb.mono h.old.size)⟩
/-- Is it an error? -/
def myBad (s : St) (v : Vl) : Bool := !(okV v.k v.k v.n v.s.size) || (s.h && !(s.mn.k == v.k))
/-- May some value stand so? -/
def mayB (i : Nat) (s : St) (v : Vl) : Bool := stdB i s.mn v || stdB i s.mx v || ((!lss v s.mn && !lss s.mx v) && stdB i v v)
/-- Right bounds. -/
def GoodS (s : St) (v : Vl) : Prop := okV v.k s.mn.k s.mn.n s.mn.s.size = true ∧ okV v.k s.mx.k s.mx.n s.mx.s.size = true ∧ lss s.mx s.mn = false
/-- What May answers, of a way to stand that there is. -/
def MyR (i : Nat) (s : St) (v : Vl) (kv : Value) (b : Bool) (ev : Value) : Prop :=
  (myBad s v = true ∧ b = false ∧ ev = kv) ∨ (myBad s v = false ∧ ev = .nilIface ∧ (s.h = false → b = false) ∧ (s.h = true → GoodS s v → b = mayB i s v))
theorem box_one (w : World) : (w.alloc (.cells #[.int .i64 0, .int .i64 0, .string ⟨#[]⟩] 34)).heap[w.heap.size]? = some (.cells #[.int .i64 0, .int .i64 0, .string ⟨#[]⟩] 34 (0, 0)) := heap_alloc_new w _
theorem box_fst (w : World) : ((w.alloc (.cells #[.int .i64 0, .int .i64 0, .string ⟨#[]⟩] 34)).alloc (.cells #[.int .i64 0, .int .i64 0, .string ⟨#[]⟩] 34)).heap[w.heap.size]? = some (.cells #[.int .i64 0, .int .i64 0, .string ⟨#[]⟩] 34 (0, 0)) := blk_alloc (heap_alloc_new w _)
theorem box_snd (w : World) : ((w.alloc (.cells #[.int .i64 0, .int .i64 0, .string ⟨#[]⟩] 34)).alloc (.cells #[.int .i64 0, .int .i64 0, .string ⟨#[]⟩] 34)).heap[w.heap.size + 1]? = some (.cells #[.int .i64 0, .int .i64 0, .string ⟨#[]⟩] 34 (0, 0)) := by
  have h := heap_alloc_new (w.alloc (.cells #[.int .i64 0, .int .i64 0, .string ⟨#[]⟩] 34)) (.cells #[.int .i64 0, .int .i64 0, .string ⟨#[]⟩] 34)
  rwa [show (w.alloc (.cells #[.int .i64 0, .int .i64 0, .string ⟨#[]⟩] 34)).heap.size = w.heap.size + 1 by simp] at h
/-- May's boxes, with both ends. -/
structure MyD (W : World) (s : St) (v : Vl) (g1 g2 : Nat) (lo hi : Vl) (X : World) : Prop where
  my : MyI W s v X
  lo : X.heap[g1]? = some (.cells #[.int .i64 lo.k, .int .i64 lo.n, .string lo.s] 34 (0, 0))
  hi : X.heap[g2]? = some (.cells #[.int .i64 hi.k, .int .i64 hi.n, .string hi.s] 34 (0, 0))
theorem MyD.keep {W : World} {s : St} {v : Vl} {g1 g2 : Nat} {lo hi : Vl} {X w' : World} (h : MyD W s v g1 g2 lo hi X) (hb : Below X.heap.size X w') : MyD W s v g1 g2 lo hi w' := ⟨h.my.keep hb, blk_keep hb h.lo, blk_keep hb h.hi⟩
/-- Two boxes with two values. -/
def LoHi (wx w : World) (g1 g2 : Nat) (lo hi : Vl) : Prop := Below wx.heap.size wx w ∧ w.heap[g1]? = some (.cells #[.int .i64 lo.k, .int .i64 lo.n, .string lo.s] 34 (0, 0)) ∧ w.heap[g2]? = some (.cells #[.int .i64 hi.k, .int .i64 hi.n, .string hi.s] 34 (0, 0))
theorem lohi1 {wx x2 : World} (h : Below wx.heap.size wx x2) (lo hi : Vl) : LoHi wx ((x2.alloc (.cells #[.int .i64 lo.k, .int .i64 lo.n, .string lo.s] 34)).alloc (.cells #[.int .i64 hi.k, .int .i64 hi.n, .string hi.s] 34)) x2.heap.size (x2.heap.size + 1) lo hi := by
  have hs := h.size
  refine ⟨(h.alloc h.size _).alloc (by simp; omega) _, blk_alloc (heap_alloc_new x2 _), ?_⟩
  have h := heap_alloc_new (x2.alloc (.cells #[.int .i64 lo.k, .int .i64 lo.n, .string lo.s] 34)) (.cells #[.int .i64 hi.k, .int .i64 hi.n, .string hi.s] 34)
  rwa [show (x2.alloc (.cells #[.int .i64 lo.k, .int .i64 lo.n, .string lo.s] 34)).heap.size = x2.heap.size + 1 by simp] at h
theorem lohi2 {wx x2 : World} (h : Below wx.heap.size wx x2) (lo hi : Vl) : LoHi wx ((x2.alloc (.cells #[.int .i64 hi.k, .int .i64 hi.n, .string hi.s] 34)).alloc (.cells #[.int .i64 lo.k, .int .i64 lo.n, .string lo.s] 34)) (x2.heap.size + 1) x2.heap.size lo hi := by
  have hs := h.size
  refine ⟨(h.alloc h.size _).alloc (by simp; omega) _, ?_, blk_alloc (heap_alloc_new x2 _)⟩
  have h := heap_alloc_new (x2.alloc (.cells #[.int .i64 hi.k, .int .i64 hi.n, .string hi.s] 34)) (.cells #[.int .i64 lo.k, .int .i64 lo.n, .string lo.s] 34)
  rwa [show (x2.alloc (.cells #[.int .i64 hi.k, .int .i64 hi.n, .string hi.s] 34)).heap.size = x2.heap.size + 1 by simp] at h
theorem lohi3 {wx x2 : World} {a : Nat} (h : Below wx.heap.size wx x2) (za : x2.heap[a]? = some (.cells #[.int .i64 0, .int .i64 0, .string ⟨#[]⟩] 34 (0, 0))) (ha : wx.heap.size ≤ a) (lo hi : Vl) : LoHi wx (set3 (set3 (x2.alloc (.cells #[.int .i64 0, .int .i64 0, .string ⟨#[]⟩] 34)) a (.int .i64 lo.k) (.int .i64 lo.n) (.string lo.s)) x2.heap.size (.int .i64 hi.k) (.int .i64 hi.n) (.string hi.s)) a x2.heap.size lo hi := by
  have hl := lt_of_block za
  exact ⟨set3_below (set3_below (h.alloc h.size _) ha _ _ _) h.size _ _ _, set3_other (set3_row (blk_alloc za) _ _ _) (by omega) _ _ _, set3_row (set3_other (box_one x2) (by omega) _ _ _) _ _ _⟩
theorem lohi4 {wx x2 : World} {a b : Nat} (h : Below wx.heap.size wx x2) (za : x2.heap[a]? = some (.cells #[.int .i64 0, .int .i64 0, .string ⟨#[]⟩] 34 (0, 0))) (zb : x2.heap[b]? = some (.cells #[.int .i64 0, .int .i64 0, .string ⟨#[]⟩] 34 (0, 0))) (hab : a ≠ b) (ha : wx.heap.size ≤ a) (hb : wx.heap.size ≤ b) (lo hi : Vl) : LoHi wx (set3 (set3 x2 a (.int .i64 lo.k) (.int .i64 lo.n) (.string lo.s)) b (.int .i64 hi.k) (.int .i64 hi.n) (.string hi.s)) a b lo hi :=
  ⟨set3_below (set3_below h ha _ _ _) hb _ _ _, set3_other (set3_row za _ _ _) hab _ _ _, set3_row (set3_other zb (fun e => hab e.symm) _ _ _) _ _ _⟩
theorem lohi5 {wx x2 : World} {a : Nat} (h : Below wx.heap.size wx x2) (za : x2.heap[a]? = some (.cells #[.int .i64 0, .int .i64 0, .string ⟨#[]⟩] 34 (0, 0))) (ha : wx.heap.size ≤ a) (lo hi : Vl) : LoHi wx (set3 (x2.alloc (.cells #[.int .i64 lo.k, .int .i64 lo.n, .string lo.s] 34)) a (.int .i64 hi.k) (.int .i64 hi.n) (.string hi.s)) x2.heap.size a lo hi := by
  have hl := lt_of_block za
  exact ⟨set3_below (h.alloc h.size _) ha _ _ _, set3_other (heap_alloc_new x2 _) (by omega) _ _ _, set3_row (blk_alloc za) _ _ _⟩
/-- The function of each way to stand. -/
def fnN : Nat → Nat
  | 0 => 38
  | 1 => 47
  | 2 => 48
  | 3 => 49
  | 4 => 50
  | _ => 51
theorem look_std {w : World} {r : Nat} (hb : w.heap[r]? = some (.map stdE 6)) (i : Nat) (hi : i < 6) :
    (Instr.lookup 76 (.map (some r)) (.string (stdT i)) true).run Tryd.prog w = .ok (.tuple #[.func (.func (fnN i)) #[] #[], .bool true]) w := by
  match i, hi with
  | 0, _ => exact look_run _ hb _ 0 (by kernel_rfl)
  | 1, _ => exact look_run _ hb _ 1 (by kernel_rfl)
  | 2, _ => exact look_run _ hb _ 2 (by kernel_rfl)
  | 3, _ => exact look_run _ hb _ 3 (by kernel_rfl)
  | 4, _ => exact look_run _ hb _ 4 (by kernel_rfl)
  | 5, _ => exact look_run _ hb _ 5 (by kernel_rfl)
end Go.Proofs.YtkcobccmifkjcaaDoor

namespace Go.Proofs.YtkcobccmifkjcaaDoor
open Go.RowKit
theorem str_ne {k : ByteArray} {l : List UInt8} (h : k ≠ ⟨l.toArray⟩) : (k.toList == l) = false := by
  rw [beq_eq_false_iff_ne]
  intro e
  apply h
  rw [ByteArray.toList_eq] at e
  obtain ⟨d⟩ := k
  congr 1
  exact Array.toList_inj.1 (by simpa using e)
set_option maxRecDepth 100000 in
set_option maxHeartbeats 3200000 in
theorem standsOf_any (i : Nat) (hi6 : i < 6) (a b : Vl) (W : World) (ha : a.Low) (hb : b.Low) :
    Calls Tryd.prog 19 #[.agg #[.int .i64 a.k, .int .i64 a.n, .string a.s], .string (stdT i), .agg #[.int .i64 b.k, .int .i64 b.n, .string b.s]] W fun e w' => e = .returned (.tuple #[.bool (stdB i a b), .bool true]) ∧ Below W.heap.size W w' := by
  unfold Vl.Low at ha hb
  obtain ⟨w0, HW0, HX, HY, HB⟩ := two_boxes W #[.int .i64 a.k, .int .i64 a.n, .string a.s] #[.int .i64 b.k, .int .i64 b.n, .string b.s] 34 34
  obtain ⟨x0, x1, x2⟩ := row_three HX.out
  obtain ⟨y0, y1, y2⟩ := row_three HY.out
  go_enter Tryd.func19, Tryd.ntmps19
  go_wp2_with fail
  rw [HW0.out]
  refine (lessOf_any a.k a.n a.s b.k b.n b.s w0 ha hb).mono ?_
  obtain ⟨r, HR⟩ : ∃ r, Hid (vless a.k a.n a.s b.k b.n b.s = r) := ⟨_, rfl⟩
  obtain ⟨q, HQ⟩ : ∃ r, Hid (vless b.k b.n b.s a.k a.n a.s = r) := ⟨_, rfl⟩
  rw [HR.out]
  rintro e w1 ⟨rfl, hb1⟩
  have HB1 : Hid (Below W.heap.size W w1) := HB.out.trans (hb1.mono HB.out.size)
  clear x0 x1 x2 y0 y1 y2
  obtain ⟨x0, x1, x2⟩ := row_three (blk_keep hb1 HX.out)
  obtain ⟨y0, y1, y2⟩ := row_three (blk_keep hb1 HY.out)
  clear hb1 HX HY HB HW0
  go_wp2_with fail
  refine (lessOf_any b.k b.n b.s a.k a.n a.s w1 hb ha).mono ?_
  rw [HQ.out]
  rintro e w2 ⟨rfl, hb2⟩
  have HB2 : Hid (Below W.heap.size W w2) := HB1.out.trans (hb2.mono HB1.out.size)
  clear x0 x1 x2 y0 y1 y2 hb2 HB1
  rcases (show i = 0 ∨ i = 1 ∨ i = 2 ∨ i = 3 ∨ i = 4 ∨ i = 5 by omega) with rfl | rfl | rfl | rfl | rfl | rfl
  · unfold stdT
    all_goals (cases r <;> cases q)
    all_goals
      go_wp2
      go_ret2
      exact ⟨by simp [stdB, lss, HR.out], HB2.out⟩
  · unfold stdT
    all_goals (cases r <;> cases q)
    all_goals
      go_wp2
      go_ret2
      exact ⟨by simp [stdB, lss, HQ.out], HB2.out⟩
  · unfold stdT
    all_goals (cases r <;> cases q)
    all_goals
      go_wp2
      go_ret2
      exact ⟨by simp [stdB, lss, HR.out, HQ.out], HB2.out⟩
  · unfold stdT
    all_goals (cases r <;> cases q)
    all_goals
      go_wp2
      go_ret2
      exact ⟨by simp [stdB, lss, HR.out, HQ.out], HB2.out⟩
  · unfold stdT
    all_goals (cases r <;> cases q)
    all_goals
      go_wp2
      go_ret2
      exact ⟨by simp [stdB, lss, HQ.out], HB2.out⟩
  · unfold stdT
    all_goals (cases r <;> cases q)
    all_goals
      go_wp2
      go_ret2
      exact ⟨by simp [stdB, lss, HR.out], HB2.out⟩
set_option maxRecDepth 100000 in
set_option maxHeartbeats 3200000 in
theorem standsOf_none (how : ByteArray) (hn : ∀ i, i < 6 → how ≠ stdT i) (a b : Vl) (W : World) (ha : a.Low) (hb : b.Low) :
    Calls Tryd.prog 19 #[.agg #[.int .i64 a.k, .int .i64 a.n, .string a.s], .string how, .agg #[.int .i64 b.k, .int .i64 b.n, .string b.s]] W fun e w' => e = .returned (.tuple #[.bool false, .bool false]) ∧ Below W.heap.size W w' := by
  unfold Vl.Low at ha hb
  have h0 := str_ne (l := [60]) (hn 0 (by omega))
  have h1 := str_ne (l := [60, 61]) (hn 1 (by omega))
  have h2 := str_ne (l := [61]) (hn 2 (by omega))
  have h3 := str_ne (l := [33, 61]) (hn 3 (by omega))
  have h4 := str_ne (l := [62]) (hn 4 (by omega))
  have h5 := str_ne (l := [62, 61]) (hn 5 (by omega))
  obtain ⟨w0, HW0, HX, HY, HB⟩ := two_boxes W #[.int .i64 a.k, .int .i64 a.n, .string a.s] #[.int .i64 b.k, .int .i64 b.n, .string b.s] 34 34
  obtain ⟨x0, x1, x2⟩ := row_three HX.out
  obtain ⟨y0, y1, y2⟩ := row_three HY.out
  go_enter Tryd.func19, Tryd.ntmps19
  go_wp2_with fail
  rw [HW0.out]
  refine (lessOf_any a.k a.n a.s b.k b.n b.s w0 ha hb).mono ?_
  rintro e w1 ⟨rfl, hb1⟩
  have HB1 : Hid (Below W.heap.size W w1) := HB.out.trans (hb1.mono HB.out.size)
  clear x0 x1 x2 y0 y1 y2
  obtain ⟨x0, x1, x2⟩ := row_three (blk_keep hb1 HX.out)
  obtain ⟨y0, y1, y2⟩ := row_three (blk_keep hb1 HY.out)
  clear hb1 HX HY HB HW0
  go_wp2_with fail
  refine (lessOf_any b.k b.n b.s a.k a.n a.s w1 hb ha).mono ?_
  rintro e w2 ⟨rfl, hb2⟩
  have HB2 : Hid (Below W.heap.size W w2) := HB1.out.trans (hb2.mono HB1.out.size)
  clear x0 x1 x2 y0 y1 y2 hb2 HB1
  go_wp2
  go_ret2
  exact ⟨rfl, HB2.out⟩
set_option maxRecDepth 100000 in
set_option maxHeartbeats 3200000 in
theorem may_none (how : ByteArray) (hn : ∀ i, i < 6 → how ≠ stdT i) (s : St) (v : Vl) (W : World) (tt : TypeId) (tp : Value) (ht : W.cell? ⟨1, 0, none⟩ = some (.iface tt tp)) :
    Calls Tryd.prog 21 #[.agg #[.int .i64 s.e, .int .i64 s.u, .bool s.h, .int .i64 s.mn.k, .int .i64 s.mn.n, .string s.mn.s, .int .i64 s.mx.k, .int .i64 s.mx.n, .string s.mx.s], .string how, .agg #[.int .i64 v.k, .int .i64 v.n, .string v.s]] W fun e w' => e = .returned (.tuple #[.bool false, .iface tt tp]) ∧ Below W.heap.size W w' := by
  obtain ⟨w0, HW0, HX, HY, HB⟩ := two_boxes W #[.int .i64 s.e, .int .i64 s.u, .bool s.h, .int .i64 s.mn.k, .int .i64 s.mn.n, .string s.mn.s, .int .i64 s.mx.k, .int .i64 s.mx.n, .string s.mx.s] #[.int .i64 v.k, .int .i64 v.n, .string v.s] 36 34
  have HKE : Hid (∀ X, Below W.heap.size W X → X.cell? ⟨1, 0, none⟩ = some (.iface tt tp)) := fun X hX => ckB ht hX
  clear ht HX HY
  go_enter Tryd.func21, Tryd.ntmps21
  go_wp2_with fail
  rw [HW0.out]
  refine (standings_any w0).mono ?_
  rintro e w1 ⟨rfl, hm, hb1⟩
  have hlk := look_none how hm (find_none hn)
  have HB1 : Hid (Below W.heap.size W w1) := HB.out.trans (hb1.mono HB.out.size)
  have hbe := HKE.out _ HB1.out
  clear hm hb1 HW0 HB
  go_wp2_with fail
  go_quiet (fail)
  go_wp2
  go_ret2
  exact ⟨rfl, blw_drewN HB1.out _⟩
end Go.Proofs.YtkcobccmifkjcaaDoor

namespace Go.Proofs.YtkcobccmifkjcaaDoor
open Go.RowKit
/-- What the reference answers. -/
def mayR (i : Nat) (s : St) (v : Vl) : Bool := if s.h then (if i = 2 then !lss v s.mn && !lss s.mx v else stdB i s.mn v || stdB i s.mx v) else false
theorem lss_tri {a b : Vl} (ha : a.Low) (hb : b.Low) (k : Int) (o1 : okV k a.k a.n a.s.size = true) (o2 : okV k b.k b.n b.s.size = true) : (lss a b && lss b a) = false ∧ ((lss a b || lss b a) = true ↔ a ≠ b) := by
  obtain ⟨ak, an, asx⟩ := a
  obtain ⟨bk, bn, bsx⟩ := b
  have e1 := okV_kind (v := ⟨ak, an, asx⟩) o1
  have e2 := okV_kind (v := ⟨bk, bn, bsx⟩) o2
  simp only at e1 e2 o1 o2
  subst e1
  subst e2
  have h := vless_tri _ an bn asx bsx ha hb (okV_iff.1 o1) (okV_iff.1 o2)
  refine ⟨h.1, h.2.trans ?_⟩
  simp
theorem lss_same {a b : Vl} (ha : a.Low) (hb : b.Low) (k : Int) (o1 : okV k a.k a.n a.s.size = true) (o2 : okV k b.k b.n b.s.size = true) (h1 : lss a b = false) (h2 : lss b a = false) : a = b := by
  have h := (lss_tri ha hb k o1 o2).2
  rw [h1, h2] at h
  exact Classical.byContradiction fun hn => by have := h.2 hn; cases this
theorem lss_irr {a : Vl} (ha : a.Low) (k : Int) (o1 : okV k a.k a.n a.s.size = true) : lss a a = false := by
  have h := (lss_tri ha ha k o1 o1).1
  rwa [Bool.and_self] at h
theorem may_same (i : Nat) (hi : i < 6) (s : St) (v : Vl) (hs : s.Low) (hv : v.Low) (hh : s.h = true) (hg : GoodS s v) (ho : okV v.k v.k v.n v.s.size = true) : mayB i s v = mayR i s v := by
  obtain ⟨g1, g2, g3⟩ := hg
  have hir : lss v v = false := lss_irr hv v.k ho
  have hmm : ∀ (h1 : lss s.mn v = false) (h2 : lss v s.mn = false), lss s.mx v = false := fun h1 h2 => by
    have e := lss_same hs.1 hv v.k g1 ho h1 h2
    rw [e] at g3
    exact g3
  have hxx : ∀ (h1 : lss s.mx v = false) (h2 : lss v s.mx = false), lss v s.mn = false := fun h1 h2 => by
    have e := lss_same hs.2 hv v.k g2 ho h1 h2
    rw [e] at g3
    exact g3
  unfold mayB mayR
  rw [hh]
  rcases (show i = 0 ∨ i = 1 ∨ i = 2 ∨ i = 3 ∨ i = 4 ∨ i = 5 by omega) with rfl | rfl | rfl | rfl | rfl | rfl
  all_goals
    simp only [stdB, hir]
    revert hmm hxx
    generalize lss s.mn v = a
    generalize lss v s.mn = b
    generalize lss s.mx v = c
    generalize lss v s.mx = d
    revert a b c d
    decide
set_option maxRecDepth 100000 in
set_option maxHeartbeats 3200000 in
theorem mayOf_any (i : Nat) (hi6 : i < 6) (s : St) (v : Vl) (W : World) (hs : s.Low) (hv : v.Low) :
    Calls Tryd.prog 23 #[.agg #[.int .i64 s.e, .int .i64 s.u, .bool s.h, .int .i64 s.mn.k, .int .i64 s.mn.n, .string s.mn.s, .int .i64 s.mx.k, .int .i64 s.mx.n, .string s.mx.s], .string (stdT i), .agg #[.int .i64 v.k, .int .i64 v.n, .string v.s]] W fun e w' => e = .returned (.bool (mayR i s v)) ∧ Below W.heap.size W w' := by
  obtain ⟨w0, HW0, HX, HY, HB⟩ := two_boxes W #[.int .i64 s.e, .int .i64 s.u, .bool s.h, .int .i64 s.mn.k, .int .i64 s.mn.n, .string s.mn.s, .int .i64 s.mx.k, .int .i64 s.mx.n, .string s.mx.s] #[.int .i64 v.k, .int .i64 v.n, .string v.s] 46 34
  obtain ⟨⟨x0, x1, x2, x3, x4, x5, x6, x7, x8⟩, _⟩ := row_nine HX.out
  obtain ⟨y0, y1, y2⟩ := row_three HY.out
  obtain ⟨sh, hsh⟩ : ∃ sh, s.h = sh := ⟨_, rfl⟩
  have HMR : Hid (mayR i s v = if sh then (if i = 2 then !lss v s.mn && !lss s.mx v else stdB i s.mn v || stdB i s.mx v) else false) := (by show _ = _; unfold mayR; rw [hsh])
  rw [hsh] at x2
  have hs1 := hs.1
  have hs2 := hs.2
  clear hsh
  go_enter Tryd.func23, Tryd.ntmps23
  go_upto_region 1 with fail
  rw [HW0.out]
  cases sh
  · go_wp2
    go_ret
    exact ⟨by rw [HMR.out]; rfl, HB.out⟩
  · go_wp2_with fail
    refine (standsOf_any i hi6 s.mn v w0 hs1 hv).mono ?_
    obtain ⟨b1, HB1⟩ : ∃ b, Hid (stdB i s.mn v = b) := ⟨_, rfl⟩
    obtain ⟨b2, HB2⟩ : ∃ b, Hid (stdB i s.mx v = b) := ⟨_, rfl⟩
    rw [HB1.out]
    rintro e w1 ⟨rfl, hb1⟩
    have HX1 : Hid _ := blk_keep hb1 HX.out
    have HY1 : Hid _ := blk_keep hb1 HY.out
    have HBw : Hid (Below W.heap.size W w1) := HB.out.trans (hb1.mono HB.out.size)
    clear x0 x1 x2 x3 x4 x5 x6 x7 x8 y0 y1 y2 hb1 HX HY HB HW0
    obtain ⟨⟨x0, x1, x2, x3, x4, x5, x6, x7, x8⟩, _⟩ := row_nine HX1.out
    obtain ⟨y0, y1, y2⟩ := row_three HY1.out
    clear x2
    go_wp2_with fail
    refine (standsOf_any i hi6 s.mx v w1 hs2 hv).mono ?_
    rw [HB2.out]
    rintro e w2 ⟨rfl, hb2⟩
    have HX2 : Hid _ := blk_keep hb2 HX1.out
    have HY2 : Hid _ := blk_keep hb2 HY1.out
    have HBx : Hid (Below W.heap.size W w2) := HBw.out.trans (hb2.mono HBw.out.size)
    clear x0 x1 x3 x4 x5 x6 x7 x8 y0 y1 y2 hb2 HX1 HY1 HBw
    obtain ⟨⟨x0, x1, x2, x3, x4, x5, x6, x7, x8⟩, _⟩ := row_nine HX2.out
    obtain ⟨y0, y1, y2⟩ := row_three HY2.out
    clear x2
    have hvn : -9223372036854775808 ≤ v.n := hv
    have hn1 : -9223372036854775808 ≤ s.mn.n := hs1
    have hn2 : -9223372036854775808 ≤ s.mx.n := hs2
    rcases Decidable.em (i = 2) with h2 | h2
    · subst h2
      have HM2 : Hid (mayR 2 s v = (!lss v s.mn && !lss s.mx v)) := (by show _ = _; rw [HMR.out]; rfl)
      unfold stdT
      go_wp2_with fail
      refine (lessOf_any v.k v.n v.s s.mn.k s.mn.n s.mn.s w2 hvn hn1).mono ?_
      obtain ⟨r1, HR1⟩ : ∃ r, Hid (vless v.k v.n v.s s.mn.k s.mn.n s.mn.s = r) := ⟨_, rfl⟩
      obtain ⟨r2, HR2⟩ : ∃ r, Hid (vless s.mx.k s.mx.n s.mx.s v.k v.n v.s = r) := ⟨_, rfl⟩
      rw [HR1.out]
      rintro e w3 ⟨rfl, hb3⟩
      have HX3 : Hid _ := blk_keep hb3 HX2.out
      have HY3 : Hid _ := blk_keep hb3 HY2.out
      have HBy : Hid (Below W.heap.size W w3) := HBx.out.trans (hb3.mono HBx.out.size)
      clear x0 x1 x3 x4 x5 x6 x7 x8 y0 y1 y2 hb3 HX2 HY2 HBx
      obtain ⟨⟨x0, x1, x2, x3, x4, x5, x6, x7, x8⟩, _⟩ := row_nine HX3.out
      obtain ⟨y0, y1, y2⟩ := row_three HY3.out
      clear x2
      go_wp2_with fail
      refine (lessOf_any s.mx.k s.mx.n s.mx.s v.k v.n v.s w3 hn2 hvn).mono ?_
      rw [HR2.out]
      rintro e w4 ⟨rfl, hb4⟩
      have HBz : Hid (Below W.heap.size W w4) := HBy.out.trans (hb4.mono HBy.out.size)
      clear x0 x1 x3 x4 x5 x6 x7 x8 y0 y1 y2 hb4
      cases r1
      all_goals
        go_wp2
        go_ret
        exact ⟨by rw [HM2.out]; simp [lss, HR1.out, HR2.out], HBz.out⟩
    · have HM2 : Hid (mayR i s v = (b1 || b2)) := (by show _ = _; rw [HMR.out]; simp only [if_true]; rw [if_neg h2, HB1.out, HB2.out])
      have hq : ((stdT i).toList == [61]) = false := str_ne (l := [61]) (by
        rcases (show i = 0 ∨ i = 1 ∨ i = 3 ∨ i = 4 ∨ i = 5 by omega) with rfl | rfl | rfl | rfl | rfl <;> (intro h; have h1 := congrArg ByteArray.data h; simp [stdT] at h1))
      clear h2
      cases b1
      all_goals
        go_wp2
        go_ret
        exact ⟨by rw [HM2.out]; simp, HBx.out⟩
end Go.Proofs.YtkcobccmifkjcaaDoor
