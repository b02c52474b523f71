/-
  What bitrun.Runs holds, and its closure where nothing is open.
-/
import Derived.Test.YtjchkhdmjbojjaaDoorKPackF
import Derived.Test.YtjchkhdmjbojjaaDoorKRefBits
import Derived.Test.YtjchkhdmjbojjaaDoorKBMath
import Derived.Lib.AppendStr
import Derived.OneCell
import Derived.Deep.DeepCutAuto
import Derived.Deep.RegionLaw
import Derived.Deep.RegionHeld3
namespace Go.Proofs.YtjchkhdmjbojjaaDoor
open Go.RowKit
set_option linter.unusedVariables false
/-- A string appended to a row of the call's own, as one step of a region that draws. -/
theorem step_own_string {P : Program} {ops : Array Oper} {o : Oper} {a : Act} {w : World} {K : Act → World → Prop} {Q : Exit → Act → World → Prop} {E : Prop}
    (hgd : o.guard = none) (sl x : Operand) (t u : TypeId) (ho : o.op = .call { callee := .builtin .append, args := #[sl, x], argTypes := #[t, u] })
    (base : Nat) (e : TypeId) (i : TypeInfo) (ht : P.underlying t = some (.slice e)) (hu : P.underlying u = some .string) (hi : P.info? e = some i) (hz : i.zero = some (.int .u8 0))
    (hsize : i.size = 1) (hby : i.bytes = 1)
    (v : Value) (n : Nat) (xs : List Value) (hs : a.eval sl = v) (hown : w.ownsRow base e 1 v n xs) (s : ByteArray) (hx : a.eval x = .string s)
    (h63 : n + s.size ≤ maxLen) (hbytes : n + s.size ≤ 140737488355328) (hbase : base ≤ w.heap.size)
    (h : ∀ v' w', w'.ownsRow base e 1 v' (n + s.size) (xs ++ Lib.strCells s) → w.grownBy w' v.ownBlock → K (a.put o.dst v') w') :
    if Region.wanted o (yielded ops a.tmps) = true then Oper.wp P o a w K Q else E := by
  have hw : Region.wanted o (yielded ops a.tmps) = true := by simp [Region.wanted, hgd]
  rw [if_pos hw]
  obtain ⟨v', w', hr, h2, h3, _⟩ := Lib.run_append_own_string (P := P) w base t u o.type e i ht hu hi hz hsize hby v n xs hown s h63 hbytes hbase
  unfold Oper.wp execOp
  simp only [ho, resolve, invoke, builtin, Sem.run_bind, Sem.run_pure, Result.andThen_ok, List.map_toArray, List.map_cons, List.map_nil, hs, hx, hr]
  exact h v' w' h2 h3
/-- A slice appended to a row of the call's own, as one step of a region that draws. -/
theorem step_own_slice {P : Program} {ops : Array Oper} {o : Oper} {a : Act} {w : World} {K : Act → World → Prop} {Q : Exit → Act → World → Prop} {E : Prop}
    (hgd : o.guard = none) (s x : Operand) (t : TypeId) (ho : o.op = .call { callee := .builtin .append, args := #[s, x], argTypes := #[t, t] })
    (base : Nat) (e : TypeId) (i : TypeInfo) (z : Value) (size bytes : Nat) (ht : P.underlying t = some (.slice e)) (hi : P.info? e = some i) (hz : i.zero = some z)
    (hsize : i.size = size) (hby : i.bytes = bytes) (hzs : z.cells.size = size) (hsz : 0 < size)
    (v : Value) (n : Nat) (xs : List Value) (hs : a.eval s = v) (hown : w.ownsRow base e size v n xs)
    (ad : Addr) (m c : Nat) (news : List Value) (hx : a.eval x = .slice (some ad) m c) (hl : news.length = m * size) (hnews : ∀ j u, news[j]? = some u → w.cell? (ad.add j) = some u) (h1 : ∀ u ∈ news, u.oneCell' = true)
    (h63 : n + m ≤ maxLen) (hbytes : (n + m) * bytes ≤ 140737488355328) (hbase : base ≤ w.heap.size)
    (h : ∀ v' w', w'.ownsRow base e size v' (n + m) (xs ++ news) → w.grownBy w' v.ownBlock → K (a.put o.dst v') w') :
    if Region.wanted o (yielded ops a.tmps) = true then Oper.wp P o a w K Q else E := by
  have hw : Region.wanted o (yielded ops a.tmps) = true := by simp [Region.wanted, hgd]
  rw [if_pos hw]
  exact wp_append_own w s x t ho base e i z size bytes ht hi hz hsize hby hzs hsz v n xs hs hown ad m c news hx hl hnews h1 h63 hbytes hbase fun v' w' h2 h3 _ => h v' w' h2 h3
/-- What Runs holds: its captured variables and the bytes so far. -/
structure RI (w0 : World) (Bl Bw Bb Bo : Nat) (a : Option Addr) (n c wd : Nat) (wr : World) (bs : List UInt8) (op : Nat) : Prop where
  hl : wr.heap[Bl]? = some (.cells #[.slice a n c] 49 (0, 0))
  hw : wr.heap[Bw]? = some (.cells #[.int .i64 wd] 3 (0, 0))
  ho : wr.heap[Bo]? = some (.cells #[.int .i64 op] 3 (0, 0))
  hb : ∃ v, wr.heap[Bb]? = some (.cells #[v] 76 (0, 0)) ∧ wr.ownsRow w0.heap.size 5 1 v bs.length (cellsOf bs)
  old : Below w0.heap.size w0 wr
  new : w0.heap.size ≤ Bb ∧ w0.heap.size ≤ Bo
theorem own_apart {w : World} {B n g e : Nat} {v : Value} {xs : List Value} {cs : Array Value} (hown : w.ownsRow B 5 1 v n xs) (h : w.heap[g]? = some (.cells cs e (0, 0))) (hne : e ≠ 5) : v.ownBlock ≠ some g := by
  rcases hown.2 with ⟨rfl, _⟩ | ⟨g1, _, cur1, rfl, _, hg1, _⟩
  · simp [Value.ownBlock]
  · intro he
    simp [Value.ownBlock] at he
    subst he
    rw [hg1] at h
    injection h with h
    injection h with _ h _
    exact hne h.symm
theorem kept_block {w w' : World} {B n g e : Nat} {v : Value} {xs : List Value} {cs : Array Value} (hown : w.ownsRow B 5 1 v n xs) (h : w.heap[g]? = some (.cells cs e (0, 0))) (hne : e ≠ 5) (hg : w.grownBy w' v.ownBlock) : w'.heap[g]? = some (.cells cs e (0, 0)) :=
  (hg.block g (lt_of_block h) (fun e => own_apart hown h hne e.symm)).trans h
theorem below_block {w w' : World} {g : Nat} {o : Obj} (hb : Below w.heap.size w w') (h : w.heap[g]? = some o) : w'.heap[g]? = some o := (hb.block g (lt_of_block h)).trans h
theorem own_kept {w w' : World} {base e size n : Nat} {v : Value} {xs : List Value} (h : w.ownsRow base e size v n xs) (hb : Below w.heap.size w w') : w'.ownsRow base e size v n xs := by
  refine ⟨h.1, ?_⟩
  rcases h.2 with hn | ⟨g, cap, cur, rfl, hbg, hgg, rest⟩
  · exact .inl hn
  · exact .inr ⟨g, cap, cur, rfl, hbg, (hb.block g (Array.getElem?_eq_some_iff.1 hgg).1).trans hgg, rest⟩
theorem one_other {w : World} {g k : Nat} {o : Obj} (h : w.heap[g]? = some o) (hne : g ≠ k) (v : Value) : (w.setCell ⟨k, 0, none⟩ v).heap[g]? = some o := by
  rw [Below.heap_setCell _ _ _ _ hne]; exact h
/-- .. behind what a call has made. -/
theorem RI.below {w0 : World} {Bl Bw Bb Bo : Nat} {a : Option Addr} {n c wd : Nat} {w w' : World} {bs : List UInt8} {op : Nat} (h : RI w0 Bl Bw Bb Bo a n c wd w bs op) (hb : Below w.heap.size w w') : RI w0 Bl Bw Bb Bo a n c wd w' bs op := by
  obtain ⟨v, h1, h2⟩ := h.hb
  refine ⟨below_block hb h.hl, below_block hb h.hw, below_block hb h.ho, ⟨v, below_block hb h1, ?_⟩, h.old.trans (hb.mono h.old.size), h.new⟩
  refine ⟨h2.1, ?_⟩
  rcases h2.2 with hn | ⟨g, cap, cur, rfl, hbg, hgg, rest⟩
  · exact .inl hn
  · exact .inr ⟨g, cap, cur, rfl, hbg, (hb.block g (Array.getElem?_eq_some_iff.1 hgg).1).trans hgg, rest⟩
/-- .. behind 'b = append(b, ..)'. -/
theorem RI.push {w0 : World} {Bl Bw Bb Bo : Nat} {a : Option Addr} {n c wd : Nat} {w w' : World} {bs bs' : List UInt8} {op : Nat} {v v' : Value} (h : RI w0 Bl Bw Bb Bo a n c wd w bs op) (hne : Bl ≠ Bb ∧ Bw ≠ Bb ∧ Bo ≠ Bb)
    (hv : w.heap[Bb]? = some (.cells #[v] 76 (0, 0))) (hown : w.ownsRow w0.heap.size 5 1 v bs.length (cellsOf bs)) (hg : w.grownBy w' v.ownBlock) (hown' : w'.ownsRow w0.heap.size 5 1 v' bs'.length (cellsOf bs')) :
    RI w0 Bl Bw Bb Bo a n c wd (w'.setCell ⟨Bb, 0, none⟩ v') bs' op := by
  have kb := kept_block hown hv (by decide) hg
  have kl := kept_block hown h.hl (by decide) hg
  have kw := kept_block hown h.hw (by decide) hg
  have ko := kept_block hown h.ho (by decide) hg
  refine ⟨one_other kl hne.1 _, one_other kw hne.2.1 _, one_other ko hne.2.2 _, ⟨v', one_setCell kb, ownsRow_setCell_other hown' (own_apart hown' kb (by decide)) _⟩, ?_, h.new⟩
  exact (h.old.grown hg h.old.size (fun k hk => (hown.lt k hk).1)).setCell h.new.1 _
theorem strCells_of (l : List UInt8) : Lib.strCells ⟨l.toArray⟩ = cellsOf l := by simp [Lib.strCells, cellsOf]
theorem cells_app (l m : List UInt8) : cellsOf (l ++ m) = cellsOf l ++ cellsOf m := by simp [cellsOf]
theorem len_app (l m : List UInt8) (k : Nat) (h : k = m.length) : l.length + k = (l ++ m).length := by simp [h]
theorem own_str {w : World} {B : Nat} {v : Value} {l m : List UInt8} (h : w.ownsRow B 5 1 v (l.length + (⟨m.toArray⟩ : ByteArray).size) (cellsOf l ++ Lib.strCells ⟨m.toArray⟩)) : w.ownsRow B 5 1 v (l ++ m).length (cellsOf (l ++ m)) := by
  rw [strCells_of, ← cells_app] at h
  have e : l.length + (⟨m.toArray⟩ : ByteArray).size = (l ++ m).length := by simp [ByteArray.size]
  rw [e] at h
  exact h
theorem wrap_mul (g wd : Nat) (h : g * wd ≤ 2501 * 32) : IntKind.i64.wrap ((g : Int) * (wd : Int)) = ((g * wd : Nat) : Int) := by
  have e : (g : Int) * (wd : Int) = ((g * wd : Nat) : Int) := by simp
  rw [e, IntKind.wrap_i64]
  omega
theorem div_room (n wd : Nat) : (wd * n + 7) / 8 ≤ wd * ((n + 7) / 8) := by
  have h1 : n ≤ 8 * ((n + 7) / 8) := by omega
  have h2 : wd * n ≤ wd * (8 * ((n + 7) / 8)) := Nat.mul_le_mul_left _ h1
  rw [Nat.mul_left_comm] at h2
  omega
theorem own_lit {w : World} {B : Nat} {v : Value} {l : List UInt8} {N k : Nat} (h : w.ownsRow B 5 1 v (l.length + k) (cellsOf l ++ cellsOf (Um.lit N k))) : w.ownsRow B 5 1 v (l ++ Um.lit N k).length (cellsOf (l ++ Um.lit N k)) := by
  rw [← cells_app] at h
  have e : l.length + k = (l ++ Um.lit N k).length := by simp [Um.lit_len]
  rw [e] at h
  exact h
theorem wrap_odd (g : Nat) (h : g ≤ 100000) : IntKind.u64.wrap (IntKind.i64.wrap (2 * (g : Int) + 1)) = ((2 * g + 1 : Nat) : Int) := by
  have e : IntKind.i64.wrap (2 * (g : Int) + 1) = 2 * (g : Int) + 1 := by rw [IntKind.wrap_i64]; omega
  rw [e, IntKind.wrap_u64]
  omega
set_option maxRecDepth 100000 in
set_option maxHeartbeats 800000 in
/-- Nothing is open. -/
theorem shut_none (w0 : World) (Bl Bw Bb Bo : Nat) (a : Option Addr) (n c wd : Nat) (w : World) (bs : List UInt8) (op : Nat) (hI : RI w0 Bl Bw Bb Bo a n c wd w bs op) (hop : op ≤ 20000) :
    Calls Tryd.prog 64 #[.int .i64 op, .pointer (some ⟨Bo, 0, none⟩), .pointer (some ⟨Bb, 0, none⟩), .pointer (some ⟨Bl, 0, none⟩), .pointer (some ⟨Bw, 0, none⟩)] w fun e w' => e = .returned (.tuple #[]) ∧ RI w0 Bl Bw Bb Bo a n c wd w' bs op := by
  have HI : Hid (RI w0 Bl Bw Bb Bo a n c wd w bs op) := hI
  have cO := cell_of_one hI.ho
  have hsub : (op : Int) - (op : Int) = ((0 : Nat) : Int) := by omega
  clear hI
  go_enter Tryd.func64, Tryd.ntmps64
  go_wp2_with fail
  refine (eights_any 0 w (by omega)).mono ?_
  rintro e w1 ⟨rfl, hw⟩
  obtain rfl := hw.symm
  go_wp2_with fail
  go_end0
  exact ⟨rfl, HI.out⟩
end Go.Proofs.YtjchkhdmjbojjaaDoor
