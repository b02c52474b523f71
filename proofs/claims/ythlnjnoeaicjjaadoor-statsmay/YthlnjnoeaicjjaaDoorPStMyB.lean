/-
  stats.May: what its boxes hold, what it answers.
-/
import Derived.Test.YthlnjnoeaicjjaaDoorPStCl
import Derived.Test.YthlnjnoeaicjjaaDoorPStGr
import Derived.Test.YthlnjnoeaicjjaaDoorPOpenSt
import Derived.Test.YthlnjnoeaicjjaaDoorPBVal
import Derived.BigQuiet
import Derived.Deep.RegionHeld3
namespace Go.Proofs.YthlnjnoeaicjjaaDoor
open Go.RowKit
/-- What May's boxes hold. -/
structure MyI (W : World) (s : St) (v : Vl) (X : World) : Prop where
  st : X.heap[W.heap.size]? = some (.cells #[.int .i64 s.e, .int .i64 s.u, .bool s.h, .int .i64 s.mn.k, .int .i64 s.mn.n, .string s.mn.s, .int .i64 s.mx.k, .int .i64 s.mx.n, .string s.mx.s] 34 (0, 0))
  va : X.heap[W.heap.size + 1]? = some (.cells #[.int .i64 v.k, .int .i64 v.n, .string v.s] 23 (0, 0))
  old : Below W.heap.size W X
theorem MyI.keep {W : World} {s : St} {v : Vl} {X w' : World} (h : MyI W s v X) (hb : Below X.heap.size X w') : MyI W s v w' :=
  ⟨blk_keep hb h.st, blk_keep hb h.va, h.old.trans (hb.mono h.old.size)⟩
/-- Is it an error? -/
def myBad (s : St) (v : Vl) : Bool := !(okV v.k v.k v.n v.s.size) || (s.h && !(s.mn.k == v.k))
/-- May some value stand so? -/
def mayB (i : Nat) (s : St) (v : Vl) : Bool := stdB i s.mn v || stdB i s.mx v || ((!lss v s.mn && !lss s.mx v) && stdB i v v)
/-- Right bounds. -/
def GoodS (s : St) (v : Vl) : Prop := okV v.k s.mn.k s.mn.n s.mn.s.size = true ∧ okV v.k s.mx.k s.mx.n s.mx.s.size = true ∧ lss s.mx s.mn = false
/-- What May answers, of a way to stand that there is. -/
def MyR (i : Nat) (s : St) (v : Vl) (kv : Value) (b : Bool) (ev : Value) : Prop :=
  (myBad s v = true ∧ b = false ∧ ev = kv) ∨ (myBad s v = false ∧ ev = .nilIface ∧ (s.h = false → b = false) ∧ (s.h = true → GoodS s v → b = mayB i s v))
theorem box_one (w : World) : (w.alloc (.cells #[.int .i64 0, .int .i64 0, .string ⟨#[]⟩] 23)).heap[w.heap.size]? = some (.cells #[.int .i64 0, .int .i64 0, .string ⟨#[]⟩] 23 (0, 0)) := heap_alloc_new w _
theorem box_fst (w : World) : ((w.alloc (.cells #[.int .i64 0, .int .i64 0, .string ⟨#[]⟩] 23)).alloc (.cells #[.int .i64 0, .int .i64 0, .string ⟨#[]⟩] 23)).heap[w.heap.size]? = some (.cells #[.int .i64 0, .int .i64 0, .string ⟨#[]⟩] 23 (0, 0)) := blk_alloc (heap_alloc_new w _)
theorem box_snd (w : World) : ((w.alloc (.cells #[.int .i64 0, .int .i64 0, .string ⟨#[]⟩] 23)).alloc (.cells #[.int .i64 0, .int .i64 0, .string ⟨#[]⟩] 23)).heap[w.heap.size + 1]? = some (.cells #[.int .i64 0, .int .i64 0, .string ⟨#[]⟩] 23 (0, 0)) := by
  have h := heap_alloc_new (w.alloc (.cells #[.int .i64 0, .int .i64 0, .string ⟨#[]⟩] 23)) (.cells #[.int .i64 0, .int .i64 0, .string ⟨#[]⟩] 23)
  rwa [show (w.alloc (.cells #[.int .i64 0, .int .i64 0, .string ⟨#[]⟩] 23)).heap.size = w.heap.size + 1 by simp] at h
/-- May's boxes, with both ends. -/
structure MyD (W : World) (s : St) (v : Vl) (g1 g2 : Nat) (lo hi : Vl) (X : World) : Prop where
  my : MyI W s v X
  lo : X.heap[g1]? = some (.cells #[.int .i64 lo.k, .int .i64 lo.n, .string lo.s] 23 (0, 0))
  hi : X.heap[g2]? = some (.cells #[.int .i64 hi.k, .int .i64 hi.n, .string hi.s] 23 (0, 0))
theorem MyD.keep {W : World} {s : St} {v : Vl} {g1 g2 : Nat} {lo hi : Vl} {X w' : World} (h : MyD W s v g1 g2 lo hi X) (hb : Below X.heap.size X w') : MyD W s v g1 g2 lo hi w' := ⟨h.my.keep hb, blk_keep hb h.lo, blk_keep hb h.hi⟩
/-- Two boxes with two values. -/
def LoHi (wx w : World) (g1 g2 : Nat) (lo hi : Vl) : Prop := Below wx.heap.size wx w ∧ w.heap[g1]? = some (.cells #[.int .i64 lo.k, .int .i64 lo.n, .string lo.s] 23 (0, 0)) ∧ w.heap[g2]? = some (.cells #[.int .i64 hi.k, .int .i64 hi.n, .string hi.s] 23 (0, 0))
theorem lohi1 {wx x2 : World} (h : Below wx.heap.size wx x2) (lo hi : Vl) : LoHi wx ((x2.alloc (.cells #[.int .i64 lo.k, .int .i64 lo.n, .string lo.s] 23)).alloc (.cells #[.int .i64 hi.k, .int .i64 hi.n, .string hi.s] 23)) x2.heap.size (x2.heap.size + 1) lo hi := by
  have hs := h.size
  refine ⟨(h.alloc h.size _).alloc (by simp; omega) _, blk_alloc (heap_alloc_new x2 _), ?_⟩
  have h := heap_alloc_new (x2.alloc (.cells #[.int .i64 lo.k, .int .i64 lo.n, .string lo.s] 23)) (.cells #[.int .i64 hi.k, .int .i64 hi.n, .string hi.s] 23)
  rwa [show (x2.alloc (.cells #[.int .i64 lo.k, .int .i64 lo.n, .string lo.s] 23)).heap.size = x2.heap.size + 1 by simp] at h
theorem lohi2 {wx x2 : World} (h : Below wx.heap.size wx x2) (lo hi : Vl) : LoHi wx ((x2.alloc (.cells #[.int .i64 hi.k, .int .i64 hi.n, .string hi.s] 23)).alloc (.cells #[.int .i64 lo.k, .int .i64 lo.n, .string lo.s] 23)) (x2.heap.size + 1) x2.heap.size lo hi := by
  have hs := h.size
  refine ⟨(h.alloc h.size _).alloc (by simp; omega) _, ?_, blk_alloc (heap_alloc_new x2 _)⟩
  have h := heap_alloc_new (x2.alloc (.cells #[.int .i64 hi.k, .int .i64 hi.n, .string hi.s] 23)) (.cells #[.int .i64 lo.k, .int .i64 lo.n, .string lo.s] 23)
  rwa [show (x2.alloc (.cells #[.int .i64 hi.k, .int .i64 hi.n, .string hi.s] 23)).heap.size = x2.heap.size + 1 by simp] at h
theorem lohi3 {wx x2 : World} {a : Nat} (h : Below wx.heap.size wx x2) (za : x2.heap[a]? = some (.cells #[.int .i64 0, .int .i64 0, .string ⟨#[]⟩] 23 (0, 0))) (ha : wx.heap.size ≤ a) (lo hi : Vl) : LoHi wx (set3 (set3 (x2.alloc (.cells #[.int .i64 0, .int .i64 0, .string ⟨#[]⟩] 23)) a (.int .i64 lo.k) (.int .i64 lo.n) (.string lo.s)) x2.heap.size (.int .i64 hi.k) (.int .i64 hi.n) (.string hi.s)) a x2.heap.size lo hi := by
  have hl := lt_of_block za
  exact ⟨set3_below (set3_below (h.alloc h.size _) ha _ _ _) h.size _ _ _, set3_other (set3_row (blk_alloc za) _ _ _) (by omega) _ _ _, set3_row (set3_other (box_one x2) (by omega) _ _ _) _ _ _⟩
theorem lohi4 {wx x2 : World} {a b : Nat} (h : Below wx.heap.size wx x2) (za : x2.heap[a]? = some (.cells #[.int .i64 0, .int .i64 0, .string ⟨#[]⟩] 23 (0, 0))) (zb : x2.heap[b]? = some (.cells #[.int .i64 0, .int .i64 0, .string ⟨#[]⟩] 23 (0, 0))) (hab : a ≠ b) (ha : wx.heap.size ≤ a) (hb : wx.heap.size ≤ b) (lo hi : Vl) : LoHi wx (set3 (set3 x2 a (.int .i64 lo.k) (.int .i64 lo.n) (.string lo.s)) b (.int .i64 hi.k) (.int .i64 hi.n) (.string hi.s)) a b lo hi :=
  ⟨set3_below (set3_below h ha _ _ _) hb _ _ _, set3_other (set3_row za _ _ _) hab _ _ _, set3_row (set3_other zb (fun e => hab e.symm) _ _ _) _ _ _⟩
theorem lohi5 {wx x2 : World} {a : Nat} (h : Below wx.heap.size wx x2) (za : x2.heap[a]? = some (.cells #[.int .i64 0, .int .i64 0, .string ⟨#[]⟩] 23 (0, 0))) (ha : wx.heap.size ≤ a) (lo hi : Vl) : LoHi wx (set3 (x2.alloc (.cells #[.int .i64 lo.k, .int .i64 lo.n, .string lo.s] 23)) a (.int .i64 hi.k) (.int .i64 hi.n) (.string hi.s)) x2.heap.size a lo hi := by
  have hl := lt_of_block za
  exact ⟨set3_below (h.alloc h.size _) ha _ _ _, set3_other (heap_alloc_new x2 _) (by omega) _ _ _, set3_row (blk_alloc za) _ _ _⟩
/-- The function of each way to stand. -/
def fnN : Nat → Nat
  | 0 => 24
  | 1 => 47
  | 2 => 48
  | 3 => 49
  | 4 => 50
  | _ => 51
theorem look_std {w : World} {r : Nat} (hb : w.heap[r]? = some (.map stdE 6)) (i : Nat) (hi : i < 6) :
    (Instr.lookup 71 (.map (some r)) (.string (stdT i)) true).run Tryd.prog w = .ok (.tuple #[.func (.func (fnN i)) #[] #[], .bool true]) w := by
  match i, hi with
  | 0, _ => exact look_run _ hb _ 0 (by kernel_rfl)
  | 1, _ => exact look_run _ hb _ 1 (by kernel_rfl)
  | 2, _ => exact look_run _ hb _ 2 (by kernel_rfl)
  | 3, _ => exact look_run _ hb _ 3 (by kernel_rfl)
  | 4, _ => exact look_run _ hb _ 4 (by kernel_rfl)
  | 5, _ => exact look_run _ hb _ 5 (by kernel_rfl)
/-- stats.Standing: the function of that name. -/
theorem standing_any (i : Nat) (hi : i < 6) (W : World) : Calls Tryd.prog 19 #[.string (stdT i)] W fun e w' => e = .returned (.tuple #[.func (.func (fnN i)) #[] #[], .bool true]) ∧ Below W.heap.size W w' := by
  go_enter Tryd.func19, Tryd.ntmps19
  go_wp2_with fail
  refine (standings_any W).mono ?_
  rintro e w1 ⟨rfl, hm, hb1⟩
  have hlk := look_std hm i hi
  clear hm
  go_wp2
  go_ret2
  exact ⟨rfl, hb1⟩
theorem standing_none (how : ByteArray) (hn : ∀ i, i < 6 → how ≠ stdT i) (W : World) : Calls Tryd.prog 19 #[.string how] W fun e w' => e = .returned (.tuple #[.nilFunc, .bool false]) ∧ Below W.heap.size W w' := by
  go_enter Tryd.func19, Tryd.ntmps19
  go_wp2_with fail
  refine (standings_any W).mono ?_
  rintro e w1 ⟨rfl, hm, hb1⟩
  have hlk := look_none how hm (find_none hn)
  clear hm
  go_wp2
  go_ret2
  exact ⟨rfl, hb1⟩
end Go.Proofs.YthlnjnoeaicjjaaDoor
