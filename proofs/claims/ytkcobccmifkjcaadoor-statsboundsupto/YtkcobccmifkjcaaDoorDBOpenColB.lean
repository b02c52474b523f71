/-
  Columns and leaves that came in, and how bulky they are.
  slim of stage 9's laws.
  The walk of the law StatsMerge.
  The walk of the law StatsOf.
-/
import Derived.Test.YtkcobccmifkjcaaDoorDBOpenCol
import Derived.Test.YtkcobccmifkjcaaDoorDOpenNode
import Derived.Test.YtkcobccmifkjcaaDoorDBStBase
import Derived.Test.YtkcobccmifkjcaaDoorDBStRf
import Derived.Test.YtkcobccmifkjcaaDoorDBCode
import Derived.Test.YtkcobccmifkjcaaDoorDBColH
import Derived.Test.YtkcobccmifkjcaaDoorDRefErr
namespace Go.Proofs.YtkcobccmifkjcaaDoor
open Go.ChangeShapes Go.WideShapes Go.ChangeAt Go.RowKit
def sumV : List Vl → Nat
  | [] => 0
  | v :: vs => v.s.size + 1 + sumV vs
theorem sumV_bulk {H : Type} : ∀ (ts : List Vl) (l : List (DataW H)), ts.length = l.length → (∀ j (h : j < ts.length) (h' : j < l.length), ts[j].s.size + 1 ≤ Rows.uptoBulk l[j]) → sumV ts ≤ Rows.uptoBulkAll l
  | [], [], _, _ => by simp [sumV]
  | [], _ :: _, h, _ => by simp at h
  | _ :: _, [], h, _ => by simp at h
  | t :: ts, d :: l, hl, h => by
    have h0 := h 0 (by simp) (by simp)
    have ih := sumV_bulk ts l (by simpa using hl) (fun j hj hj' => h (j + 1) (by simp; omega) (by simp; omega))
    simp only [List.getElem_cons_zero] at h0
    rw [sumV]
    simp only [Rows.uptoBulkAll]
    omega
theorem sumV_len : ∀ vs : List Vl, vs.length ≤ sumV vs
  | [] => Nat.le_refl _
  | v :: vs => by have := sumV_len vs; rw [sumV, List.length_cons]; omega
set_option maxRecDepth 100000 in
/-- What the cells of a value hold, and how bulky they are. -/
theorem valB_cells {H : Type} {enc : TypeId × Value → H} {W : World} {base n : Nat} {sp : Nat → Bool} {held : Bool} {cs : List Value} {x : DataW H × List MemPlace} (h : DataW.trod enc Tryd.prog W base sp held n 34 cs = some x) :
    ∃ v : Vl, cs = [.int .i64 v.k, .int .i64 v.n, .string v.s] ∧ v.In ∧ v.s.size + 1 ≤ Rows.uptoBulk x.1 := by
  obtain ⟨xs, m, _, rfl, hl, hlen, hf⟩ := DataW.trod_struct Tryd.underlying34 h
  rw [Tryd.cellsV] at hl
  match cs, hl with
  | [c0, c1, c2], _ =>
    match xs, hlen with
    | [y0, y1, y2], _ =>
      have g0 := hf 0 _ rfl
      have g1 := hf 1 _ rfl
      have g2 := hf 2 _ rfl
      simp [Tryd.cellsI, Tryd.cellsI64, Tryd.cellsS] at g0 g1 g2
      obtain ⟨k, e0, _, h0⟩ := DataW.trod_int Tryd.underlying3 g0
      obtain ⟨n, e1, _, h1⟩ := DataW.trod_int Tryd.underlying2 g1
      obtain ⟨s, e2, hy2, h2⟩ := DataW.trod_string Tryd.underlying9 g2
      simp at e0 e1 e2
      subst e0 e1 e2
      refine ⟨⟨k, n, s⟩, rfl, ⟨bounds_i64 h0, bounds_i64 h1, h2⟩, ?_⟩
      have e1 : Rows.uptoBulk y2.1 = s.size + 1 := by rw [hy2]; simp [Rows.uptoBulk]
      simp only [Rows.uptoBulk, Rows.uptoBulkAll, List.map_cons, List.map_nil]
      omega
set_option maxRecDepth 100000 in
theorem intsB_cells {H : Type} {enc : TypeId × Value → H} {W : World} {n : Nat} {cs : List Value} {x : DataW H × List MemPlace} (hf : DataW.trod enc Tryd.prog W 0 (fun _ => true) true n 22 cs = some x) :
    ∃ a c xs, cs = [.slice a (List.length xs) c] ∧ Lies W a (i64s xs) ∧ List.length xs + 1 ≤ Rows.uptoBulk x.1 + 1 := by
  rcases DataW.trod_slice Tryd.underlying22 hf with ⟨rfl, rfl⟩ | ⟨a, len, cap, elems, rest, m, rfl, rfl, rfl, _, hl, hm, hlen, hel, _, _⟩
  · exact ⟨none, 0, [], rfl, fun j hj => absurd hj (by simp [i64s]), by simp⟩
  · rw [Tryd.cellsI] at hel
    have each : ∀ i, i < len → ∃ z : Int, W.cell? (a.add i) = some (.int .i64 z) := fun i hi => by
      have h1 := hel i hi
      have h2 : elems[i]? = some (elems[i]'(by omega)) := List.getElem?_eq_getElem (by omega)
      rw [h2] at h1
      obtain ⟨cs', h3, h4⟩ := Option.bind_eq_some_iff.1 h1
      obtain ⟨k, e0, _, _⟩ := DataW.trod_int Tryd.underlying3 h4
      subst e0
      obtain ⟨_, _, hcell⟩ := World.cells?_some h3
      have e0 := hcell 0 (by omega)
      have z : (a.add (i * 1)).add 0 = a.add i := by unfold Addr.add; simp
      rw [z] at e0
      exact ⟨k, by simpa using e0⟩
    obtain ⟨f, hfx⟩ := Deep.choose_lt each
    refine ⟨some a, cap, (List.range len).map f, by simp, fun j hj => ?_, ?_⟩
    · have hj' : j < len := by simpa [i64s] using hj
      have h0 := hfx j hj'
      obtain ⟨b, off, spot⟩ := a
      have hspot : spot = none := by
        have := World.cell?_spot (hfx 0 (by omega))
        simpa [Addr.add] using this
      subst hspot
      rw [addr_add] at h0
      exact ⟨b, off, rfl, by simpa [i64s] using h0⟩
    · have h1 := bulk_len (elems.map (·.1))
      rw [List.length_map, hlen] at h1
      simp only [Rows.uptoBulk]
      simp
      omega
set_option maxRecDepth 100000 in
theorem valsB_cells {H : Type} {enc : TypeId × Value → H} {W : World} {n : Nat} {cs : List Value} {x : DataW H × List MemPlace} (hf : DataW.trod enc Tryd.prog W 0 (fun _ => true) true n 25 cs = some x) :
    ∃ a c vs, cs = [.slice a (List.length vs) c] ∧ LiesV W a vs ∧ (∀ v ∈ vs, v.In) ∧ sumV vs ≤ Rows.uptoBulk x.1 := by
  rcases DataW.trod_slice Tryd.underlying25 hf with ⟨rfl, rfl⟩ | ⟨a, len, cap, elems, rest, m, rfl, rfl, rfl, _, hl, hm, hlen, hel, _, _⟩
  · exact ⟨none, 0, [], rfl, fun j hj => absurd hj (by simp), fun v hv => absurd hv (by simp), by simp [sumV]⟩
  · rw [Tryd.cellsV] at hel
    have each : ∀ i, i < len → ∃ v : Vl, (W.cell? (a.add (i * 3)) = some (.int .i64 v.k) ∧ W.cell? ((a.add (i * 3)).add 1) = some (.int .i64 v.n) ∧ W.cell? ((a.add (i * 3)).add 2) = some (.string v.s)) ∧ v.In ∧ ∀ h : i < elems.length, v.s.size + 1 ≤ Rows.uptoBulk elems[i].1 := fun i hi => by
      have h1 := hel i hi
      have h2 : elems[i]? = some (elems[i]'(by omega)) := List.getElem?_eq_getElem (by omega)
      rw [h2] at h1
      obtain ⟨cs', h3, h4⟩ := Option.bind_eq_some_iff.1 h1
      obtain ⟨v, rfl, hin, hbk⟩ := valB_cells h4
      obtain ⟨_, _, hcell⟩ := World.cells?_some h3
      have e0 := hcell 0 (by omega)
      have e1 := hcell 1 (by omega)
      have e2 := hcell 2 (by omega)
      have z : (a.add (i * 3)).add 0 = a.add (i * 3) := by unfold Addr.add; simp
      rw [z] at e0
      exact ⟨v, ⟨by simpa using e0, by simpa using e1, by simpa using e2⟩, hin, fun _ => hbk⟩
    have : Inhabited Vl := ⟨⟨0, 0, ⟨#[]⟩⟩⟩
    obtain ⟨f, hfx⟩ := Deep.choose_lt each
    refine ⟨some a, cap, (List.range len).map f, by simp, fun j hj => ?_, fun v hv => ?_, ?_⟩
    · have hj' : j < len := by simpa using hj
      obtain ⟨⟨h0, h1, h2⟩, _⟩ := hfx j hj'
      obtain ⟨b, off, spot⟩ := a
      have hspot : spot = none := by
        have := World.cell?_spot (hfx 0 (by omega)).1.1
        simpa [Addr.add] using this
      subst hspot
      rw [addr_plus] at h0 h1 h2
      rw [addr_plus] at h1 h2
      refine ⟨b, off, rfl, ?_, ?_, ?_⟩
      · simpa using h0
      · simpa using h1
      · simpa using h2
    · obtain ⟨i, hi, rfl⟩ := List.mem_map.1 hv
      exact (hfx i (by simpa using hi)).2.1
    · have h1 := sumV_bulk ((List.range len).map f) (elems.map (·.1)) (by simp [hlen]) (fun j hj hj' => by
        have hj2 : j < len := by simpa using hj
        simpa using (hfx j hj2).2.2 (by omega))
      simp only [Rows.uptoBulk]
      omega
/-- How bulky a column is. -/
def Cl.bulk (c : Cl) : Nat := c.rs.length + c.ds.length + sumV c.vs
set_option maxRecDepth 100000 in
/-- What a column holds. -/
theorem open_columnB {H : Type} {enc : TypeId × Value → H} {W : World} {base : Nat} {v : Value} {d : DataW H} {ps : List MemPlace} (hv : Value.okWide Tryd.prog W .any base 27 v) (h : DataW.Trod enc Tryd.prog W 0 (fun _ => true) true 27 v d ps) :
    ∃ c : Cl, v = c.val ∧ c.At W ∧ (∀ v ∈ c.vs, v.In) ∧ c.bulk ≤ Rows.uptoBulk d := by
  obtain ⟨cs, rfl, _⟩ := okWide_struct Tryd.underlying27 hv
  obtain ⟨fuel, hf0⟩ := h
  obtain ⟨xs, m, _, hdp, hl, hlen, hf⟩ := DataW.trod_struct Tryd.underlying27 hf0
  obtain ⟨rfl, rfl⟩ := Prod.mk.inj hdp
  rw [Tryd.cellsC] at hl
  obtain ⟨cl, hcl⟩ : ∃ cl, (Value.agg cs).cells.toList = cl := ⟨_, rfl⟩
  have hcs : cs.toList = cl := hcl
  rw [hcl] at hl hf
  match cl, hl, hcs, hf with
  | [c0, c1, c2, c3], _, hcs, hf =>
    match xs, hlen, hf with
    | [y0, y1, y2, y3], _, hf =>
      have g0 := hf 0 _ rfl
      have g1 := hf 1 _ rfl
      have g2 := hf 2 _ rfl
      have g3 := hf 3 _ rfl
      simp [Tryd.cellsI, Tryd.cellsIs, Tryd.cellsVs] at g0 g1 g2 g3
      obtain ⟨k, e0, _, _⟩ := DataW.trod_int Tryd.underlying3 g0
      obtain ⟨ra, rc, rs, e1, l1, m1⟩ := intsB_cells g1
      obtain ⟨da, dc, ds, e2, l2, m2⟩ := intsB_cells g2
      obtain ⟨va, vc, vs, e3, l3, i3, m3⟩ := valsB_cells g3
      simp at e0 e1 e2 e3
      subst e0 e1 e2 e3
      refine ⟨⟨k, ra, rs, rc, da, ds, dc, va, vs, vc⟩, ?_, ⟨l1, l2, l3⟩, i3, ?_⟩
      · show Value.agg cs = Value.agg _
        congr 1
        exact Array.toList_inj.1 hcs
      · simp only [Rows.uptoBulk, Rows.uptoBulkAll, List.map_cons, List.map_nil, Cl.bulk]
        omega
end Go.Proofs.YtkcobccmifkjcaaDoor

namespace Go.Proofs.YtkcobccmifkjcaaDoor
open Go.RowKit
/-- The letters of values. -/
def letV : List Vl → Nat
  | [] => 0
  | v :: vs => v.s.size + letV vs
theorem letV_sum : ∀ vs : List Vl, letV vs + vs.length = sumV vs
  | [] => rfl
  | v :: vs => by have := letV_sum vs; rw [sumV, letV, List.length_cons]; omega
theorem letV_app : ∀ (xs ys : List Vl), letV (xs ++ ys) = letV xs + letV ys
  | [], ys => by simp [letV]
  | x :: xs, ys => by rw [List.cons_append, letV, letV, letV_app xs ys]; omega
theorem letV_succ {vs : List Vl} {i : Nat} (h : i < vs.length) : letV (vs.take (i + 1)) = letV (vs.take i) + vs[i].s.size := by
  rw [List.take_succ_eq_append_getElem h, letV_app]
  simp [letV]
theorem letV_le (vs : List Vl) (i : Nat) : letV (vs.take i) ≤ letV vs := by
  have h := letV_app (vs.take i) (vs.drop i)
  rw [List.take_append_drop] at h
  omega
/-- The law says something. -/
def slimB (c : Cl) (pn : Nat) : Bool := decide (c.bulk ≤ 2000) && decide (pn ≤ 100)
set_option maxRecDepth 100000 in
set_option maxHeartbeats 1600000 in
theorem slim3_any (lid kind mr md : Int) (pa : Option Addr) (pn pc : Nat) (c : Cl) (hn : c.bulk ≤ 1048576) (W : World) (hat : c.At W) :
    Calls Tryd.prog 8 #[.agg #[.int .i64 lid, .int .i64 kind, .int .i64 mr, .int .i64 md, .slice pa pn pc], .agg #[.int .i64 c.id, .slice c.ra c.rs.length c.rc, .slice c.da c.ds.length c.dc, .slice c.va c.vs.length c.vc]] W fun e w' => e = .returned (.bool (slimB c pn)) ∧ Below W.heap.size W w' := by
  obtain ⟨w0, HW0, HX, HY, HB⟩ := two_boxes W #[.int .i64 lid, .int .i64 kind, .int .i64 mr, .int .i64 md, .slice pa pn pc] #[.int .i64 c.id, .slice c.ra c.rs.length c.rc, .slice c.da c.ds.length c.dc, .slice c.va c.vs.length c.vc] 24 27
  have HL : Hid (LiesV w0 c.va c.vs) := (hat.keep HB.out).v
  have hls := letV_sum c.vs
  have hcb : c.bulk = c.rs.length + c.ds.length + sumV c.vs := rfl
  rw [← hls] at hcb
  have HCB : Hid _ := hcb
  have hbb : c.rs.length + c.ds.length + (letV c.vs + c.vs.length) ≤ 1048576 := by rw [← hcb]; exact hn
  clear hat hls hcb hn
  obtain ⟨⟨p0, p1, p2, p3, p4⟩, _⟩ := row_five HX.out
  obtain ⟨k0, k1, k2, k3⟩ := row_four HY.out
  obtain ⟨rn, HRN⟩ : ∃ n, Hid (c.rs.length = n) := ⟨_, rfl⟩
  obtain ⟨dn, HDN⟩ : ∃ n, Hid (c.ds.length = n) := ⟨_, rfl⟩
  rw [HRN.out] at HW0 HY k1 hbb HCB ⊢
  rw [HDN.out] at HW0 HY k2 hbb HCB ⊢
  have hw1 : IntKind.i64.wrap ((rn : Int) + (dn : Int)) = ((rn + dn : Nat) : Int) := by rw [IntKind.wrap_i64]; omega
  have hw2 : IntKind.i64.wrap (((rn + dn : Nat) : Int) + (c.vs.length : Int)) = ((rn + dn + c.vs.length : Nat) : Int) := by rw [IntKind.wrap_i64]; omega
  go_enter Tryd.func8, Tryd.ntmps8
  go_upto_region 1 with fail
  rw [HW0.out]
  go_wp2
  go_loop [5, 6] (fun y x => ∃ i : Nat, i ≤ c.vs.length ∧ x = .int .i64 i ∧ y = .int .i64 ((rn + dn + c.vs.length + letV (c.vs.take i) : Nat) : Int)) (fun _ x => c.vs.length - (intOf x).toNat)
  case atStart => exact ⟨0, Nat.zero_le _, rfl, rfl⟩
  case round =>
    obtain ⟨i, hi, rfl, rfl⟩ := hrel
    have hle := letV_le c.vs i
    obtain ⟨q, HQ⟩ : ∃ q, Hid (letV (c.vs.take i) = q) := ⟨_, rfl⟩
    by_cases hlt : i < c.vs.length
    · have HN : Hid (letV (c.vs.take (i + 1)) = q + c.vs[i].s.size) := (by show _ = _; rw [letV_succ hlt, HQ.out])
      have hle2 := letV_le c.vs (i + 1)
      rw [HN.out] at hle2
      rw [HQ.out] at hle ⊢
      obtain ⟨b, o, hva, c0, c1, c2⟩ := HL.out i hlt
      rw [hva] at k3 ⊢
      generalize c.vs[i] = v at *
      clear hva
      go_wp2
      go_round
      case rel => exact ⟨i + 1, by omega, by go_num, by rw [HN.out]; go_num⟩
      case measure => simp [intOf]; omega
    · obtain rfl : i = c.vs.length := by omega
      have HE : Hid (c.bulk = rn + dn + c.vs.length + q) := (by have h := HCB.out; have h2 := HQ.out; rw [List.take_length] at h2; show _ = _; rw [h, h2]; omega)
      rw [HQ.out]
      by_cases h1 : rn + dn + c.vs.length + q ≤ 2000
      · have q1 : decide ((rn : Int) + (dn : Int) + (c.vs.length : Int) + (q : Int) ≤ 2000) = true := by rw [decide_eq_true_iff]; omega
        have HF : Hid (slimB c pn = decide ((pn : Int) ≤ 100)) := (by
          show _ = _
          unfold slimB
          rw [HE.out, decide_eq_true h1, Bool.true_and, decide_eq_decide]
          omega)
        clear h1 hbb hle hw1 hw2
        go_wp2
        go_ret
        exact ⟨by rw [HF.out]; try simp, HB.out⟩
      · have q1 : decide ((rn : Int) + (dn : Int) + (c.vs.length : Int) + (q : Int) ≤ 2000) = false := by rw [decide_eq_false_iff_not]; omega
        have HF : Hid (slimB c pn = false) := (by
          show _ = _
          unfold slimB
          rw [HE.out, decide_eq_false h1, Bool.false_and])
        clear h1 hbb hle hw1 hw2
        go_wp2
        go_ret
        exact ⟨by rw [HF.out]; try simp, HB.out⟩
end Go.Proofs.YtkcobccmifkjcaaDoor

namespace Go.Proofs.YtkcobccmifkjcaaDoor
open Go.RowKit
theorem ecT {w : World} {A : Nat → Addr} (h : Errs w A) (i : Nat) (hi : i < 8) : w.cell? ⟨errG i, 0, none⟩ = some (errV (A i)) := (h.at_ i hi).var
/-- What the law's boxes hold. -/
structure LmI (W : World) (a b : St) (X : World) : Prop where
  fst : X.heap[W.heap.size]? = some (.cells a.cs 46 (0, 0))
  snd : X.heap[W.heap.size + 1]? = some (.cells b.cs 46 (0, 0))
  old : Below W.heap.size W X
theorem LmI.keep {W : World} {a b : St} {X w' : World} (h : LmI W a b X) (hb : Below X.heap.size X w') : LmI W a b w' :=
  ⟨blk_keep hb h.fst, blk_keep hb h.snd, h.old.trans (hb.mono h.old.size)⟩
theorem LmI.keep2 {W : World} {a b : St} {X w' : World} (h : LmI W a b X) (hb : Below (W.heap.size + 1 + 1) X w') : LmI W a b w' :=
  ⟨(hb.block _ (by omega)).trans h.fst, (hb.block _ (by omega)).trans h.snd, h.old.trans (hb.mono (by omega))⟩
theorem LmI.fin {W : World} {a b : St} {w1 x3 : World} {g : Nat} (h : LmI W a b w1) (hB : Below w1.heap.size w1 x3) (hz : x3.heap[g]? = some (.cells #[.int .i64 0, .int .i64 0, .bool false, .int .i64 0, .int .i64 0, .string ⟨#[]⟩, .int .i64 0, .int .i64 0, .string ⟨#[]⟩] 36 (0, 0))) (hg : w1.heap.size ≤ g) (s : St) :
    W.heap.size + 1 < g ∧ LmI W a b (set9 x3 g (.int .i64 s.e) (.int .i64 s.u) (.bool s.h) (.int .i64 s.mn.k) (.int .i64 s.mn.n) (.string s.mn.s) (.int .i64 s.mx.k) (.int .i64 s.mx.n) (.string s.mx.s)) ∧ (set9 x3 g (.int .i64 s.e) (.int .i64 s.u) (.bool s.h) (.int .i64 s.mn.k) (.int .i64 s.mn.n) (.string s.mn.s) (.int .i64 s.mx.k) (.int .i64 s.mx.n) (.string s.mx.s)).heap[g]? = some (.cells s.cs 36 (0, 0)) :=
  ⟨Nat.lt_of_lt_of_le (lt_of_block h.snd) hg, h.keep (set9_below hB hg _ _ _ _ _ _ _ _ _), set9_row hz _ _ _ _ _ _ _ _ _⟩
set_option maxRecDepth 100000 in
set_option maxHeartbeats 6400000 in
theorem statsMerge_walk (a b : St) (W : World) (A : Nat → Addr) (hE : Errs W A) (ha : a.Low) (hb : b.Low) :
    Calls Tryd.prog 4 #[.agg #[.int .i64 a.e, .int .i64 a.u, .bool a.h, .int .i64 a.mn.k, .int .i64 a.mn.n, .string a.mn.s, .int .i64 a.mx.k, .int .i64 a.mx.n, .string a.mx.s], .agg #[.int .i64 b.e, .int .i64 b.u, .bool b.h, .int .i64 b.mn.k, .int .i64 b.mn.n, .string b.mn.s, .int .i64 b.mx.k, .int .i64 b.mx.n, .string b.mx.s]] W fun e w' => e = .returned (.bool true) ∧ Below W.heap.size W w' := by
  obtain ⟨w0, HW0, HX, HY, HB⟩ := two_boxes W #[.int .i64 a.e, .int .i64 a.u, .bool a.h, .int .i64 a.mn.k, .int .i64 a.mn.n, .string a.mn.s, .int .i64 a.mx.k, .int .i64 a.mx.n, .string a.mx.s] #[.int .i64 b.e, .int .i64 b.u, .bool b.h, .int .i64 b.mn.k, .int .i64 b.mn.n, .string b.mn.s, .int .i64 b.mx.k, .int .i64 b.mx.n, .string b.mx.s] 46 46
  have HI0 : Hid (LmI W a b w0) := ⟨HX.out, HY.out, HB.out⟩
  have HA0 : Hid (∀ X, Below W.heap.size W X → Errs X A) := fun X hX => hE.keep hX
  clear HX HY HB hE
  go_enter Tryd.func4, Tryd.ntmps4
  go_wp2_with fail
  rw [HW0.out]
  clear HW0
  have hE0 := HA0.out _ HI0.out.old
  refine (two_any w0 _ _ _ _ _ _ (ecT hE0 2 (by omega)) (ecT hE0 3 (by omega)) (ecT hE0 1 (by omega))).mono ?_
  clear hE0
  rintro e w1 ⟨rfl, hb1⟩
  have HI1 : Hid _ := HI0.out.keep hb1
  clear HI0 hb1
  obtain ⟨⟨x0, x1, x2, x3, x4, x5, x6, x7, x8⟩, _⟩ := st_row HI1.out.fst
  obtain ⟨⟨y0, y1, y2, y3, y4, y5, y6, y7, y8⟩, _⟩ := st_row HI1.out.snd
  rcases Decidable.em ((1099511627776 : Int) < a.e) with t0 | t0
  · have q0 : decide ((1099511627776 : Int) < a.e) = true := decide_eq_true t0
    clear t0
    go_wp2
    go_ret
    exact ⟨rfl, HI1.out.old⟩
  have q0 : decide ((1099511627776 : Int) < a.e) = false := decide_eq_false t0
  rcases Decidable.em ((1099511627776 : Int) < b.e) with t1 | t1
  · have q1 : decide ((1099511627776 : Int) < b.e) = true := decide_eq_true t1
    clear t1
    go_wp2
    go_ret
    exact ⟨rfl, HI1.out.old⟩
  have q1 : decide ((1099511627776 : Int) < b.e) = false := decide_eq_false t1
  rcases Decidable.em ((1099511627776 : Int) < a.u) with t2 | t2
  · have q2 : decide ((1099511627776 : Int) < a.u) = true := decide_eq_true t2
    clear t2
    go_wp2
    go_ret
    exact ⟨rfl, HI1.out.old⟩
  have q2 : decide ((1099511627776 : Int) < a.u) = false := decide_eq_false t2
  rcases Decidable.em ((1099511627776 : Int) < b.u) with t3 | t3
  · have q3 : decide ((1099511627776 : Int) < b.u) = true := decide_eq_true t3
    clear t3
    go_wp2
    go_ret
    exact ⟨rfl, HI1.out.old⟩
  have q3 : decide ((1099511627776 : Int) < b.u) = false := decide_eq_false t3
  rcases Decidable.em (a.e < (0 : Int)) with t4 | t4
  · have q4 : decide (a.e < (0 : Int)) = true := decide_eq_true t4
    clear t4
    go_wp2
    go_ret
    exact ⟨rfl, HI1.out.old⟩
  have q4 : decide (a.e < (0 : Int)) = false := decide_eq_false t4
  rcases Decidable.em (b.e < (0 : Int)) with t5 | t5
  · have q5 : decide (b.e < (0 : Int)) = true := decide_eq_true t5
    clear t5
    go_wp2
    go_ret
    exact ⟨rfl, HI1.out.old⟩
  have q5 : decide (b.e < (0 : Int)) = false := decide_eq_false t5
  rcases Decidable.em (a.u < (0 : Int)) with t6 | t6
  · have q6 : decide (a.u < (0 : Int)) = true := decide_eq_true t6
    clear t6
    go_wp2
    go_ret
    exact ⟨rfl, HI1.out.old⟩
  have q6 : decide (a.u < (0 : Int)) = false := decide_eq_false t6
  rcases Decidable.em (b.u < (0 : Int)) with t7 | t7
  · have q7 : decide (b.u < (0 : Int)) = true := decide_eq_true t7
    clear t7
    go_wp2
    go_ret
    exact ⟨rfl, HI1.out.old⟩
  have q7 : decide (b.u < (0 : Int)) = false := decide_eq_false t7
  go_upto_region 6 with fail
  clear q0 q1 q2 q3 q4 q5 q6 q7
  have c1 : -4611686018427387904 ≤ a.e ∧ a.e ≤ 4611686018427387904 := by omega
  have c2 : -4611686018427387904 ≤ b.e ∧ b.e ≤ 4611686018427387904 := by omega
  have c3 : -4611686018427387904 ≤ a.u ∧ a.u ≤ 4611686018427387904 := by omega
  have c4 : -4611686018427387904 ≤ b.u ∧ b.u < 4611686018427387904 := by omega
  have c5 : b.e < 4611686018427387904 := by omega
  clear t0 t1 t2 t3 t4 t5 t6 t7
  have hE1 := HA0.out _ HI1.out.old
  go_cut [6, 7] (fun x y wx => ∃ (s : St) (g : Nat), x = .pointer (some ⟨g, 0, none⟩) ∧ Hid (W.heap.size + 1 < g) ∧ Hid (LmI W a b wx) ∧ Hid (wx.heap[g]? = some (.cells s.cs 36 (0, 0))) ∧ Hid (MgR a b (errV (A 3)) s y))
  case first =>
    clear hE1
    have b0 : Below w1.heap.size w1 w1 := Below.refl _ _
    have HN : Hid (∀ X, Below w1.heap.size w1 X → (X.cell? ⟨W.heap.size, 0, none⟩ = some (.int .i64 a.e) ∧ X.cell? ⟨W.heap.size, 1, none⟩ = some (.int .i64 a.u) ∧ X.cell? ⟨W.heap.size, 2, none⟩ = some (.bool a.h) ∧ X.cell? ⟨W.heap.size, 3, none⟩ = some (.int .i64 a.mn.k) ∧ X.cell? ⟨W.heap.size, 4, none⟩ = some (.int .i64 a.mn.n) ∧ X.cell? ⟨W.heap.size, 5, none⟩ = some (.string a.mn.s) ∧ X.cell? ⟨W.heap.size, 6, none⟩ = some (.int .i64 a.mx.k) ∧ X.cell? ⟨W.heap.size, 7, none⟩ = some (.int .i64 a.mx.n) ∧ X.cell? ⟨W.heap.size, 8, none⟩ = some (.string a.mx.s)) ∧ (X.cell? ⟨W.heap.size + 1, 0, none⟩ = some (.int .i64 b.e) ∧ X.cell? ⟨W.heap.size + 1, 1, none⟩ = some (.int .i64 b.u) ∧ X.cell? ⟨W.heap.size + 1, 2, none⟩ = some (.bool b.h) ∧ X.cell? ⟨W.heap.size + 1, 3, none⟩ = some (.int .i64 b.mn.k) ∧ X.cell? ⟨W.heap.size + 1, 4, none⟩ = some (.int .i64 b.mn.n) ∧ X.cell? ⟨W.heap.size + 1, 5, none⟩ = some (.string b.mn.s) ∧ X.cell? ⟨W.heap.size + 1, 6, none⟩ = some (.int .i64 b.mx.k) ∧ X.cell? ⟨W.heap.size + 1, 7, none⟩ = some (.int .i64 b.mx.n) ∧ X.cell? ⟨W.heap.size + 1, 8, none⟩ = some (.string b.mx.s)) ∧ Below w1.heap.size w1 X) := fun X hX => ⟨(st_row (blk_keep hX HI1.out.fst)).1, (st_row (blk_keep hX HI1.out.snd)).1, hX⟩
    have HOA : Hid (∀ X, Below w1.heap.size w1 X → Calls Tryd.prog 14 #[.agg #[.int .i64 a.e, .int .i64 a.u, .bool a.h, .int .i64 a.mn.k, .int .i64 a.mn.n, .string a.mn.s, .int .i64 a.mx.k, .int .i64 a.mx.n, .string a.mx.s]] X fun e w' => e = .returned (.agg #[.int .i64 a.e, .int .i64 a.u, .bool a.h, .int .i64 a.mn.k, .int .i64 a.mn.n, .string a.mn.s, .int .i64 a.mx.k, .int .i64 a.mx.n, .string a.mx.s]) ∧ Below w1.heap.size w1 w' ∧ Below X.heap.size X w') := fun X hX => (statsOfL_any a X).mono fun _ _ h => ⟨h.1, bel_next hX (Nat.le_refl _) h.2, h.2⟩
    have HOB : Hid (∀ X, Below w1.heap.size w1 X → Calls Tryd.prog 14 #[.agg #[.int .i64 b.e, .int .i64 b.u, .bool b.h, .int .i64 b.mn.k, .int .i64 b.mn.n, .string b.mn.s, .int .i64 b.mx.k, .int .i64 b.mx.n, .string b.mx.s]] X fun e w' => e = .returned (.agg #[.int .i64 b.e, .int .i64 b.u, .bool b.h, .int .i64 b.mn.k, .int .i64 b.mn.n, .string b.mn.s, .int .i64 b.mx.k, .int .i64 b.mx.n, .string b.mx.s]) ∧ Below w1.heap.size w1 w' ∧ Below X.heap.size X w') := fun X hX => (statsOfL_any b X).mono fun _ _ h => ⟨h.1, bel_next hX (Nat.le_refl _) h.2, h.2⟩
    have HOM : Hid (∀ X, Below w1.heap.size w1 X → Calls Tryd.prog 16 #[.agg #[.int .i64 a.e, .int .i64 a.u, .bool a.h, .int .i64 a.mn.k, .int .i64 a.mn.n, .string a.mn.s, .int .i64 a.mx.k, .int .i64 a.mx.n, .string a.mx.s], .agg #[.int .i64 b.e, .int .i64 b.u, .bool b.h, .int .i64 b.mn.k, .int .i64 b.mn.n, .string b.mn.s, .int .i64 b.mx.k, .int .i64 b.mx.n, .string b.mx.s]] X fun e w' => (∃ (s : St) (ev : Value), e = .returned (.tuple #[.agg #[.int .i64 s.e, .int .i64 s.u, .bool s.h, .int .i64 s.mn.k, .int .i64 s.mn.n, .string s.mn.s, .int .i64 s.mx.k, .int .i64 s.mx.n, .string s.mx.s], ev]) ∧ MgR a b (errV (A 3)) s ev) ∧ Below w1.heap.size w1 w' ∧ Below X.heap.size X w') := fun X hX => (merge_any a b X _ _ (ecT (HA0.out _ (HI1.out.keep hX).old) 3 (by omega)) ha hb c1 c2 c3 c4 c5).mono fun _ _ h => ⟨h.1, bel_next hX (Nat.le_refl _) h.2, h.2⟩
    go_region_held3 (fun X => (X.cell? ⟨W.heap.size, 0, none⟩ = some (.int .i64 a.e) ∧ X.cell? ⟨W.heap.size, 1, none⟩ = some (.int .i64 a.u) ∧ X.cell? ⟨W.heap.size, 2, none⟩ = some (.bool a.h) ∧ X.cell? ⟨W.heap.size, 3, none⟩ = some (.int .i64 a.mn.k) ∧ X.cell? ⟨W.heap.size, 4, none⟩ = some (.int .i64 a.mn.n) ∧ X.cell? ⟨W.heap.size, 5, none⟩ = some (.string a.mn.s) ∧ X.cell? ⟨W.heap.size, 6, none⟩ = some (.int .i64 a.mx.k) ∧ X.cell? ⟨W.heap.size, 7, none⟩ = some (.int .i64 a.mx.n) ∧ X.cell? ⟨W.heap.size, 8, none⟩ = some (.string a.mx.s)) ∧ (X.cell? ⟨W.heap.size + 1, 0, none⟩ = some (.int .i64 b.e) ∧ X.cell? ⟨W.heap.size + 1, 1, none⟩ = some (.int .i64 b.u) ∧ X.cell? ⟨W.heap.size + 1, 2, none⟩ = some (.bool b.h) ∧ X.cell? ⟨W.heap.size + 1, 3, none⟩ = some (.int .i64 b.mn.k) ∧ X.cell? ⟨W.heap.size + 1, 4, none⟩ = some (.int .i64 b.mn.n) ∧ X.cell? ⟨W.heap.size + 1, 5, none⟩ = some (.string b.mn.s) ∧ X.cell? ⟨W.heap.size + 1, 6, none⟩ = some (.int .i64 b.mx.k) ∧ X.cell? ⟨W.heap.size + 1, 7, none⟩ = some (.int .i64 b.mx.n) ∧ X.cell? ⟨W.heap.size + 1, 8, none⟩ = some (.string b.mx.s)) ∧ Below w1.heap.size w1 X) (with_reducible refine HN.out _ ?_; repeat' (first | with_reducible assumption | with_reducible exact b0.drew | with_reducible exact b0 | with_reducible refine Below.drew ?_ | with_reducible exact Nat.le_refl _ | with_reducible refine Below.setCell ?_ ?_ _ | with_reducible refine Below.alloc ?_ ?_ _ | with_reducible exact Below.size (by assumption) | (simp; done) | (simp; omega) | omega)) (first | (go_at_call 14; (first | (with_reducible refine Calls.mono (HOA.out _ ?_) ?_) | (with_reducible refine Calls.mono (HOB.out _ ?_) ?_)); (repeat' (first | with_reducible assumption | with_reducible exact b0.drew | with_reducible exact b0 | with_reducible refine Below.drew ?_ | with_reducible refine Below.alloc ?_ ?_ _ | with_reducible exact Below.size (by assumption) | with_reducible exact Nat.le_refl _)); rintro e x1 ⟨rfl, hbx1, hraw1⟩; (first | (have hzz := blk_keep hraw1 hzz0; clear hzz0; have hzz0 := hzz; clear hzz) | (have hzz0 := blk_keep hraw1 (blk_drew (heap_alloc_new _ (.cells #[.int .i64 0, .int .i64 0, .bool false, .int .i64 0, .int .i64 0, .string ⟨#[]⟩, .int .i64 0, .int .i64 0, .string ⟨#[]⟩] 36)))) | (have hzz0 := blk_keep hraw1 (heap_alloc_new _ (.cells #[.int .i64 0, .int .i64 0, .bool false, .int .i64 0, .int .i64 0, .string ⟨#[]⟩, .int .i64 0, .int .i64 0, .string ⟨#[]⟩] 36))) | skip)) | (go_at_call 16; (with_reducible refine Calls.mono (HOM.out _ ?_) ?_); (repeat' (first | with_reducible assumption | with_reducible exact b0.drew | with_reducible exact b0 | with_reducible refine Below.drew ?_ | with_reducible refine Below.alloc ?_ ?_ _ | with_reducible exact Below.size (by assumption) | with_reducible exact Nat.le_refl _)); rintro e x3 ⟨⟨s, ev, rfl, hmr⟩, hbx3, hraw3⟩; have HMR : Hid (MgR a b (errV (A 3)) s ev) := hmr; have HBX3 : Hid _ := hbx3; clear hmr; (first | (have hzz := blk_keep hraw3 hzz0; clear hzz0; have hzz0 := hzz; clear hzz) | (have hzz0 := blk_keep hraw3 (blk_drew (heap_alloc_new _ (.cells #[.int .i64 0, .int .i64 0, .bool false, .int .i64 0, .int .i64 0, .string ⟨#[]⟩, .int .i64 0, .int .i64 0, .string ⟨#[]⟩] 36)))) | (have hzz0 := blk_keep hraw3 (heap_alloc_new _ (.cells #[.int .i64 0, .int .i64 0, .bool false, .int .i64 0, .int .i64 0, .string ⟨#[]⟩, .int .i64 0, .int .i64 0, .string ⟨#[]⟩] 36))) | skip); (first | (obtain ⟨z1, z2⟩ := row_nine hzz0; have HZZ : Hid _ := hzz0; clear hzz0) | skip)))
    · go_wp2_with fail
      go_meet
      exact ⟨s, x3.heap.size, rfl, Nat.lt_of_lt_of_le (lt_of_block HI1.out.snd) HBX3.out.size, HI1.out.keep (HBX3.out.alloc HBX3.out.size _), heap_alloc_new _ _, HMR⟩
    all_goals
      go_wp2_with fail
      go_meet
      have h := LmI.fin HI1.out HBX3.out HZZ.out (by first | exact Nat.le_refl _ | exact Below.size (by assumption)) s
      exact ⟨s, _, rfl, h.1, h.2.1, h.2.2, HMR⟩
  case rest =>
    obtain ⟨s, g, rfl, HG, HI, HS, HMR⟩ := hcut
    rename World => wx
    rename Value => ev
    clear HI1 hE1 x0 x1 x2 x3 x4 x5 x6 x7 x8 y0 y1 y2 y3 y4 y5 y6 y7 y8
    obtain ⟨⟨x0, x1, x2, x3, x4, x5, x6, x7, x8⟩, _⟩ := st_row HI.out.fst
    obtain ⟨⟨y0, y1, y2, y3, y4, y5, y6, y7, y8⟩, _⟩ := st_row HI.out.snd
    go_wp2_with fail
    refine (mergedOf_any a b wx ha hb c1 c2 c3 c4 c5).mono ?_
    rintro e w3 ⟨⟨t, c, rfl, hmo⟩, hb3⟩
    have HI3 : Hid _ := HI.out.keep hb3
    have HS3 : Hid _ := blk_keep hb3 HS.out
    rcases HMR.out with ⟨hu, rfl, rfl⟩ | ⟨hu, rfl, rfl⟩
    · obtain ⟨rfl, rfl⟩ : t = St.zero ∧ c = 4 := by
        rcases hmo with ⟨_, h1, h2⟩ | ⟨h0, _⟩
        · exact ⟨h1, h2⟩
        · rw [hu] at h0; cases h0
      clear hmo hu HMR x0 x1 x2 x3 x4 x5 x6 x7 x8 y0 y1 y2 y3 y4 y5 y6 y7 y8 HI HS
      have HB4 : Hid (Below w3.heap.size w3 (w3.alloc (.cells #[.int .i64 0, .int .i64 0, .bool false, .int .i64 0, .int .i64 0, .string ⟨#[]⟩, .int .i64 0, .int .i64 0, .string ⟨#[]⟩] 46))) := (Below.refl _ _).alloc (Nat.le_refl _) _
      have HI4 : Hid _ := HI3.out.keep HB4.out
      have HS4 : Hid ((w3.alloc (.cells #[.int .i64 0, .int .i64 0, .bool false, .int .i64 0, .int .i64 0, .string ⟨#[]⟩, .int .i64 0, .int .i64 0, .string ⟨#[]⟩] 46)).heap[g]? = some (.cells #[.int .i64 0, .int .i64 0, .bool false, .int .i64 0, .int .i64 0, .string ⟨#[]⟩, .int .i64 0, .int .i64 0, .string ⟨#[]⟩] 36 (0, 0))) := blk_keep HB4.out HS3.out
      unfold St.val St.cs St.zero Vl.zero
      go_wp2_with fail
      refine (coded_sent _ A (HA0.out _ HI4.out.old) 3 (by omega) 4 true rfl).mono ?_
      rintro e w5 ⟨rfl, hb5⟩
      have HI5 : Hid _ := HI4.out.keep hb5
      have HS5 : Hid _ := blk_keep hb5 HS4.out
      clear hb5
      obtain ⟨⟨x0, x1, x2, x3, x4, x5, x6, x7, x8⟩, _⟩ := row_nine HS5.out
      go_wp2
      go_ret
      exact ⟨rfl, HI5.out.old⟩
    · obtain ⟨rfl, rfl⟩ : t = a.merge b ∧ c = 0 := by
        rcases hmo with ⟨h0, _⟩ | ⟨_, h1, h2⟩
        · rw [hu] at h0; cases h0
        · exact ⟨h1, h2⟩
      clear hmo hu HMR x0 x1 x2 x3 x4 x5 x6 x7 x8 y0 y1 y2 y3 y4 y5 y6 y7 y8 HI HS
      generalize a.merge b = t at *
      have HB4 : Hid (Below w3.heap.size w3 (w3.alloc (.cells #[.int .i64 t.e, .int .i64 t.u, .bool t.h, .int .i64 t.mn.k, .int .i64 t.mn.n, .string t.mn.s, .int .i64 t.mx.k, .int .i64 t.mx.n, .string t.mx.s] 46))) := (Below.refl _ _).alloc (Nat.le_refl _) _
      have HI4 : Hid _ := HI3.out.keep HB4.out
      have HS4 : Hid _ := blk_keep HB4.out HS3.out
      have HT4 : Hid _ := heap_alloc_new w3 (.cells #[.int .i64 t.e, .int .i64 t.u, .bool t.h, .int .i64 t.mn.k, .int .i64 t.mn.n, .string t.mn.s, .int .i64 t.mx.k, .int .i64 t.mx.n, .string t.mx.s] 46)
      unfold St.val St.cs
      go_wp2_with fail
      obtain ⟨wq, HWQ⟩ : ∃ w, Hid (w3.alloc (.cells #[.int .i64 t.e, .int .i64 t.u, .bool t.h, .int .i64 t.mn.k, .int .i64 t.mn.n, .string t.mn.s, .int .i64 t.mx.k, .int .i64 t.mx.n, .string t.mx.s] 46) = w) := ⟨_, rfl⟩
      rw [HWQ.out] at HI4 HS4 HT4
      rw [HWQ.out]
      clear HB4 HWQ
      have b0 : Below wq.heap.size wq wq := Below.refl _ _
      have HN : Hid (∀ X, Below wq.heap.size wq X → (X.cell? ⟨g, 0, none⟩ = some (.int .i64 t.e) ∧ X.cell? ⟨g, 1, none⟩ = some (.int .i64 t.u) ∧ X.cell? ⟨g, 2, none⟩ = some (.bool t.h) ∧ X.cell? ⟨g, 3, none⟩ = some (.int .i64 t.mn.k) ∧ X.cell? ⟨g, 4, none⟩ = some (.int .i64 t.mn.n) ∧ X.cell? ⟨g, 5, none⟩ = some (.string t.mn.s) ∧ X.cell? ⟨g, 6, none⟩ = some (.int .i64 t.mx.k) ∧ X.cell? ⟨g, 7, none⟩ = some (.int .i64 t.mx.n) ∧ X.cell? ⟨g, 8, none⟩ = some (.string t.mx.s)) ∧ (X.cell? ⟨w3.heap.size, 0, none⟩ = some (.int .i64 t.e) ∧ X.cell? ⟨w3.heap.size, 1, none⟩ = some (.int .i64 t.u) ∧ X.cell? ⟨w3.heap.size, 2, none⟩ = some (.bool t.h) ∧ X.cell? ⟨w3.heap.size, 3, none⟩ = some (.int .i64 t.mn.k) ∧ X.cell? ⟨w3.heap.size, 4, none⟩ = some (.int .i64 t.mn.n) ∧ X.cell? ⟨w3.heap.size, 5, none⟩ = some (.string t.mn.s) ∧ X.cell? ⟨w3.heap.size, 6, none⟩ = some (.int .i64 t.mx.k) ∧ X.cell? ⟨w3.heap.size, 7, none⟩ = some (.int .i64 t.mx.n) ∧ X.cell? ⟨w3.heap.size, 8, none⟩ = some (.string t.mx.s)) ∧ Below wq.heap.size wq X) := fun X hX => ⟨(st_row (blk_keep hX HS4.out)).1, (st_row (s := t) (blk_keep hX HT4.out)).1, hX⟩
      have HOA : Hid (∀ X, Below wq.heap.size wq X → Calls Tryd.prog 14 #[.agg #[.int .i64 t.e, .int .i64 t.u, .bool t.h, .int .i64 t.mn.k, .int .i64 t.mn.n, .string t.mn.s, .int .i64 t.mx.k, .int .i64 t.mx.n, .string t.mx.s]] X fun e w' => e = .returned (.agg #[.int .i64 t.e, .int .i64 t.u, .bool t.h, .int .i64 t.mn.k, .int .i64 t.mn.n, .string t.mn.s, .int .i64 t.mx.k, .int .i64 t.mx.n, .string t.mx.s]) ∧ Below wq.heap.size wq w') := fun X hX => (statsOfL_any t X).mono fun _ _ h => ⟨h.1, bel_next hX (Nat.le_refl _) h.2⟩
      go_region_held3 (fun X => (X.cell? ⟨g, 0, none⟩ = some (.int .i64 t.e) ∧ X.cell? ⟨g, 1, none⟩ = some (.int .i64 t.u) ∧ X.cell? ⟨g, 2, none⟩ = some (.bool t.h) ∧ X.cell? ⟨g, 3, none⟩ = some (.int .i64 t.mn.k) ∧ X.cell? ⟨g, 4, none⟩ = some (.int .i64 t.mn.n) ∧ X.cell? ⟨g, 5, none⟩ = some (.string t.mn.s) ∧ X.cell? ⟨g, 6, none⟩ = some (.int .i64 t.mx.k) ∧ X.cell? ⟨g, 7, none⟩ = some (.int .i64 t.mx.n) ∧ X.cell? ⟨g, 8, none⟩ = some (.string t.mx.s)) ∧ (X.cell? ⟨w3.heap.size, 0, none⟩ = some (.int .i64 t.e) ∧ X.cell? ⟨w3.heap.size, 1, none⟩ = some (.int .i64 t.u) ∧ X.cell? ⟨w3.heap.size, 2, none⟩ = some (.bool t.h) ∧ X.cell? ⟨w3.heap.size, 3, none⟩ = some (.int .i64 t.mn.k) ∧ X.cell? ⟨w3.heap.size, 4, none⟩ = some (.int .i64 t.mn.n) ∧ X.cell? ⟨w3.heap.size, 5, none⟩ = some (.string t.mn.s) ∧ X.cell? ⟨w3.heap.size, 6, none⟩ = some (.int .i64 t.mx.k) ∧ X.cell? ⟨w3.heap.size, 7, none⟩ = some (.int .i64 t.mx.n) ∧ X.cell? ⟨w3.heap.size, 8, none⟩ = some (.string t.mx.s)) ∧ Below wq.heap.size wq X) (with_reducible refine HN.out _ ?_; repeat' (first | with_reducible assumption | with_reducible exact b0.drew | with_reducible exact b0 | with_reducible refine Below.drew ?_ | with_reducible exact Nat.le_refl _ | with_reducible refine Below.setCell ?_ ?_ _ | with_reducible refine Below.alloc ?_ ?_ _ | with_reducible exact Below.size (by assumption) | (simp; done) | (simp; omega) | omega)) (first | (go_at_call 14; (with_reducible refine Calls.mono (HOA.out _ ?_) ?_); (repeat' (first | with_reducible assumption | with_reducible exact b0.drew | with_reducible exact b0 | with_reducible refine Below.drew ?_ | with_reducible refine Below.alloc ?_ ?_ _ | with_reducible exact Below.size (by assumption) | with_reducible exact Nat.le_refl _)); rintro e x1 ⟨rfl, hbx1⟩))
      all_goals
        go_wp2
        go_ret
        exact ⟨rfl, HI4.out.old.trans (hbx1.mono HI4.out.old.size)⟩
end Go.Proofs.YtkcobccmifkjcaaDoor

namespace Go.Proofs.YtkcobccmifkjcaaDoor
open Go.RowKit
theorem OfR.same {N : Nat} {lid kind mr md : Int} {c k : Cl} {sv kv : Value} {s : St} {ev : Value} {w : World} (hs : SameC c k) (h : OfR N lid kind mr md k sv kv s ev w) : OfR N lid kind mr md c sv kv s ev w := by
  obtain ⟨cid, cra, crs, crc, cda, cds, cdc, cva, cvs, cvc⟩ := c
  obtain ⟨kid, kra, krs, krc, kda, kds, kdc, kva, kvs, kvc⟩ := k
  have e1 : kid = cid := hs.id
  have e2 : krs = crs := hs.rs
  have e3 : kds = cds := hs.ds
  have e4 : kvs = cvs := hs.vs
  subst e1 e2 e3 e4
  exact h
theorem OfR.off {N : Nat} {lid kind mr md : Int} {c : Cl} {sv kv : Value} {s : St} {ev : Value} {w : World} (h : OfR N lid kind mr md c sv kv s ev w) {g j : Nat} {v : Value} (hg : g < N) : OfR N lid kind mr md c sv kv s ev (w.setCell ⟨g, j, none⟩ v) := by
  rcases h with h | ⟨h0, p, hp, h1, h2, q, h3, h4, h5, h6, h7⟩ | h
  · exact .inl h
  · exact .inr (.inl ⟨h0, p, hp, h1, h2, q, h3, h4, h5, by rw [cell_off (by omega)]; exact h6, by rw [cell_off (by omega)]; exact h7⟩)
  · exact .inr (.inr h)
theorem OfR.off9 {N : Nat} {lid kind mr md : Int} {c : Cl} {sv kv : Value} {s : St} {ev : Value} {w : World} (h : OfR N lid kind mr md c sv kv s ev w) {g : Nat} (hg : g < N) (y0 y1 y2 y3 y4 y5 y6 y7 y8 : Value) : OfR N lid kind mr md c sv kv s ev (set9 w g y0 y1 y2 y3 y4 y5 y6 y7 y8) :=
  ((((((((h.off hg).off hg).off hg).off hg).off hg).off hg).off hg).off hg).off hg
theorem OfR.keep {N : Nat} {lid kind mr md : Int} {c : Cl} {sv kv : Value} {s : St} {ev : Value} {w w' : World} (h : OfR N lid kind mr md c sv kv s ev w) (hb : Below w.heap.size w w') : OfR N lid kind mr md c sv kv s ev w' := by
  rcases h with h | ⟨h0, p, hp, h1, h2, q, h3, h4, h5, h6, h7⟩ | h
  · exact .inl h
  · exact .inr (.inl ⟨h0, p, hp, h1, h2, q, h3, h4, h5, (hb.cell (World.block_lt_of_cell? w _ h6)).trans h6, (hb.cell (World.block_lt_of_cell? w _ h7)).trans h7⟩)
  · exact .inr (.inr h)
theorem OfR.offz {N : Nat} {lid kind mr md : Int} {c : Cl} {sv : Value} {s : St} {ev : Value} {w : World} {t : TypeId} {p : Value} (h : OfR N lid kind mr md c sv (.iface t p) s ev w) {g : Nat} {T : TypeId} (hz : w.heap[g]? = some (.cells #[.int .i64 0, .int .i64 0, .bool false, .int .i64 0, .int .i64 0, .string ⟨#[]⟩, .int .i64 0, .int .i64 0, .string ⟨#[]⟩] T (0, 0))) (y0 y1 y2 y3 y4 y5 y6 y7 y8 : Value) : OfR N lid kind mr md c sv (.iface t p) s ev (set9 w g y0 y1 y2 y3 y4 y5 y6 y7 y8) := by
  rcases h with h | ⟨h0, p, hp, h1, h2, q, h3, h4, h5, h6, h7⟩ | h
  · exact .inl h
  · have hne : q ≠ g := fun e => by
      subst e
      rw [(row_nine hz).1.2.1] at h7
      cases h7
    have hoff : ∀ (X : World) (o j : Nat) (v : Value), (X.setCell ⟨g, j, none⟩ v).cell? ⟨q, o, none⟩ = X.cell? ⟨q, o, none⟩ := fun X o j v => cell_off hne
    refine .inr (.inl ⟨h0, p, hp, h1, h2, q, h3, h4, h5, ?_, ?_⟩) <;> unfold set9 <;> rw [hoff, hoff, hoff, hoff, hoff, hoff, hoff, hoff, hoff]
    · exact h6
    · exact h7
  · exact .inr (.inr h)
/-- What the law's boxes hold. -/
structure LsI (W : World) (lid kind mr md : Int) (pa : Option Addr) (pn pc : Nat) (c : Cl) (X : World) : Prop where
  lf : X.heap[W.heap.size]? = some (.cells #[.int .i64 lid, .int .i64 kind, .int .i64 mr, .int .i64 md, .slice pa pn pc] 24 (0, 0))
  co : X.heap[W.heap.size + 1]? = some (.cells #[.int .i64 c.id, .slice c.ra c.rs.length c.rc, .slice c.da c.ds.length c.dc, .slice c.va c.vs.length c.vc] 27 (0, 0))
  old : Below W.heap.size W X
theorem LsI.keep {W : World} {lid kind mr md : Int} {pa : Option Addr} {pn pc : Nat} {c : Cl} {X w' : World} (h : LsI W lid kind mr md pa pn pc c X) (hb : Below X.heap.size X w') : LsI W lid kind mr md pa pn pc c w' :=
  ⟨blk_keep hb h.lf, blk_keep hb h.co, h.old.trans (hb.mono h.old.size)⟩
/-- Both answers. -/
def BoR (A : Nat → Addr) (c : Cl) (ec ea : Int) (s : St) (ev : Value) (w : World) : Prop :=
  (ec = 3 ∧ ea = -1 ∧ s = St.zero ∧ ev = errV (A 2)) ∨ (∃ p q : Nat, ec = 4 ∧ ea = p ∧ s = St.zero ∧ ev = .iface 87 (.pointer (some ⟨q, 0, none⟩)) ∧ w.cell? ⟨q, 0, none⟩ = some (.int .i64 p) ∧ w.cell? ⟨q, 1, none⟩ = some (errV (A 3))) ∨ (ec = 0 ∧ s = ofC c ∧ ev = .nilIface)
theorem firstT {α : Type} {P : α → Bool} {vs : List α} {p q : Nat} (hp : p < vs.length) (hq : q < vs.length) (h1 : P vs[p] = true) (h2 : P vs[q] = true) (f1 : ∀ j (h : j < vs.length), j < p → P vs[j] = false) (f2 : ∀ j (h : j < vs.length), j < q → P vs[j] = false) : p = q := by
  rcases Nat.lt_trichotomy p q with h | h | h
  · rw [f2 p hp h] at h1; cases h1
  · exact h
  · rw [f1 q hq h] at h2; cases h2
theorem both {A : Nat → Addr} {N : Nat} {lid kind mr md : Int} {c : Cl} {s : St} {ev : Value} {ec ea : Int} {w : World} (h1 : ColErr lid kind mr md c.id c.rs c.ds c.vs ec ea) (h2 : OfR N lid kind mr md c (errV (A 2)) (errV (A 3)) s ev w) : BoR A c ec ea s ev w := by
  rcases h1 with ⟨e1, e2, hf⟩ | ⟨hf, ⟨e1, e2, hg⟩ | ⟨p, hp, e1, e2, hb, hfi⟩⟩
  · rcases h2 with ⟨_, h3, h4⟩ | ⟨h, _⟩ | ⟨h, _⟩
    · exact .inl ⟨e1, e2, h3, h4⟩
    · rw [hf] at h; cases h
    · have := h.1; rw [hf] at this; cases this
  · rcases h2 with ⟨h, _⟩ | ⟨_, p, hp, h, _⟩ | ⟨_, h3, h4⟩
    · rw [hf] at h; cases h
    · rw [hg p hp] at h; cases h
    · exact .inr (.inr ⟨e1, h4, h3⟩)
  · rcases h2 with ⟨h, _⟩ | ⟨_, p2, hp2, hb2, hf2, q, _, h3, h4, h5, h6⟩ | ⟨h, _⟩
    · rw [hf] at h; cases h
    · obtain rfl := firstT hp hp2 hb hb2 hfi hf2
      exact .inr (.inl ⟨p, q, e1, e2, h3, h4, h5, h6⟩)
    · have := h.2 p hp; rw [hb] at this; cases this
set_option maxRecDepth 100000 in
set_option maxHeartbeats 12800000 in
theorem statsOf_walk (lid kind mr md : Int) (pa : Option Addr) (pc : Nat) (ps : List Int) (c : Cl) (W : World) (A : Nat → Addr) (hE : Errs W A) (hp : Lies W pa (i64s ps)) (hat : c.At W) (hlo : ∀ v ∈ c.vs, v.Low) (hcb : c.bulk ≤ 1048576) :
    Calls Tryd.prog 3 #[.agg #[.int .i64 lid, .int .i64 kind, .int .i64 mr, .int .i64 md, .slice pa ps.length pc], .agg #[.int .i64 c.id, .slice c.ra c.rs.length c.rc, .slice c.da c.ds.length c.dc, .slice c.va c.vs.length c.vc]] W fun e w' => e = .returned (.bool true) ∧ Below W.heap.size W w' := by
  obtain ⟨pn, hpn⟩ : ∃ pn, ps.length = pn := ⟨_, rfl⟩
  have HPN : Hid _ := hpn
  rw [hpn]
  clear hpn
  obtain ⟨w0, HW0, HX, HY, HB⟩ := two_boxes W #[.int .i64 lid, .int .i64 kind, .int .i64 mr, .int .i64 md, .slice pa pn pc] #[.int .i64 c.id, .slice c.ra c.rs.length c.rc, .slice c.da c.ds.length c.dc, .slice c.va c.vs.length c.vc] 24 27
  have HI0 : Hid (LsI W lid kind mr md pa pn pc c w0) := ⟨HX.out, HY.out, HB.out⟩
  have HA0 : Hid (∀ X, Below W.heap.size W X → Errs X A) := fun X hX => hE.keep hX
  have HP : Hid (∀ X, Below W.heap.size W X → Lies X pa (i64s ps)) := fun X hX => hp.keep hX
  have HAT : Hid (∀ X, Below W.heap.size W X → c.At X) := fun X hX => hat.keep hX
  have HLO : Hid _ := hlo
  clear HX HY HB hE hp hat hlo
  go_enter Tryd.func3, Tryd.ntmps3
  go_wp2_with fail
  rw [HW0.out]
  clear HW0
  have hE0 := HA0.out _ HI0.out.old
  refine (two_any w0 _ _ _ _ _ _ (ecT hE0 2 (by omega)) (ecT hE0 3 (by omega)) (ecT hE0 1 (by omega))).mono ?_
  clear hE0
  rintro e w1 ⟨rfl, hb1⟩
  have HI1 : Hid _ := HI0.out.keep hb1
  clear HI0 hb1
  obtain ⟨⟨p0, p1, p2, p3, p4⟩, _⟩ := row_five HI1.out.lf
  obtain ⟨k0, k1, k2, k3⟩ := row_four HI1.out.co
  go_wp2_with fail
  refine (slim3_any lid kind mr md pa pn pc c hcb w1 (HAT.out _ HI1.out.old)).mono ?_
  obtain ⟨b, HBo⟩ : ∃ b, Hid (slimB c pn = b) := ⟨_, rfl⟩
  rw [HBo.out]
  rintro e w2 ⟨rfl, hb2⟩
  have HI2 : Hid _ := HI1.out.keep hb2
  clear HI1 hb2 p0 p1 p2 p3 p4 k0 k1 k2 k3
  obtain ⟨⟨p0, p1, p2, p3, p4⟩, _⟩ := row_five HI2.out.lf
  obtain ⟨k0, k1, k2, k3⟩ := row_four HI2.out.co
  cases b
  · go_wp2
    go_ret
    exact ⟨rfl, HI2.out.old⟩
  have hsl : c.bulk ≤ 2000 ∧ pn ≤ 100 := by have h := HBo.out; unfold slimB at h; simpa using h
  have hsv := sumV_len c.vs
  have hrs : c.rs.length ≤ 2000 := by have := hsl.1; unfold Cl.bulk at this; omega
  have hds : c.ds.length ≤ 2000 := by have := hsl.1; unfold Cl.bulk at this; omega
  have hvs : c.vs.length ≤ 2000 := by have := hsl.1; unfold Cl.bulk at this; omega
  have hpn : pn ≤ 100 := hsl.2
  clear hsl hsv hcb HBo
  go_wp2_with fail
  refine (columnError_any lid kind mr md c.id pa c.ra c.da c.va pn pc c.rc c.dc c.vc c.rs c.ds c.vs w2 (by omega) (by omega) (HAT.out _ HI2.out.old).r (HAT.out _ HI2.out.old).d (HAT.out _ HI2.out.old).v).mono ?_
  rintro e w3 ⟨⟨ec, ea, rfl, hce⟩, hb3⟩
  have HCE : Hid _ := hce
  have HI3 : Hid (LsI W lid kind mr md pa pn pc c (w3.alloc (.cells (rfl2 ec ea) 31))) := (HI2.out.keep hb3).keep ((Below.refl _ _).alloc (Nat.le_refl _) _)
  have HFE : Hid _ := heap_alloc_new w3 (.cells (rfl2 ec ea) 31)
  clear hce hb3 HI2 p0 p1 p2 p3 p4 k0 k1 k2 k3
  obtain ⟨E, HEE⟩ : ∃ E, Hid (w3.heap.size = E) := ⟨_, rfl⟩
  go_upto_region 5 with fail
  obtain ⟨wq, HWq⟩ : ∃ w, Hid (w3.alloc (.cells (rfl2 ec ea) 31) = w) := ⟨_, rfl⟩
  rw [HWq.out] at HI3
  rw [HWq.out, HEE.out] at HFE
  rw [HWq.out, HEE.out]
  clear HWq HEE
  obtain ⟨⟨p0, p1, p2, p3, p4⟩, _⟩ := row_five HI3.out.lf
  obtain ⟨k0, k1, k2, k3⟩ := row_four HI3.out.co
  go_cut [7, 8] (fun x y wx => ∃ (s : St) (g : Nat), x = .pointer (some ⟨g, 0, none⟩) ∧ Hid (Below wq.heap.size wq wx) ∧ Hid (wx.heap[g]? = some (.cells s.cs 36 (0, 0))) ∧ Hid (BoR A c ec ea s y wx))
  case first =>
    have b0 : Below wq.heap.size wq wq := Below.refl _ _
    have HN : Hid (∀ X, Below wq.heap.size wq X → (X.cell? ⟨W.heap.size, 0, none⟩ = some (.int .i64 lid) ∧ X.cell? ⟨W.heap.size, 1, none⟩ = some (.int .i64 kind) ∧ X.cell? ⟨W.heap.size, 2, none⟩ = some (.int .i64 mr) ∧ X.cell? ⟨W.heap.size, 3, none⟩ = some (.int .i64 md) ∧ X.cell? ⟨W.heap.size, 4, none⟩ = some (.slice pa pn pc)) ∧ (X.cell? ⟨W.heap.size + 1, 0, none⟩ = some (.int .i64 c.id) ∧ X.cell? ⟨W.heap.size + 1, 1, none⟩ = some (.slice c.ra c.rs.length c.rc) ∧ X.cell? ⟨W.heap.size + 1, 2, none⟩ = some (.slice c.da c.ds.length c.dc) ∧ X.cell? ⟨W.heap.size + 1, 3, none⟩ = some (.slice c.va c.vs.length c.vc)) ∧ Below wq.heap.size wq X) := fun X hX => ⟨(row_five (blk_keep hX HI3.out.lf)).1, row_four (blk_keep hX HI3.out.co), hX⟩
    have HO1 : Hid (∀ X, Below wq.heap.size wq X → Calls Tryd.prog 11 #[.agg #[.int .i64 lid, .int .i64 kind, .int .i64 mr, .int .i64 md, .slice pa pn pc]] X fun e w' => (∃ pa' pc', e = .returned (.agg #[.int .i64 lid, .int .i64 kind, .int .i64 mr, .int .i64 md, .slice pa' pn pc'])) ∧ Below wq.heap.size wq w' ∧ Below X.heap.size X w') := fun X hX => (by
      have h := ownLeaf_any lid kind mr md pa pc ps X (by rw [HPN.out]; omega) (HP.out _ (HI3.out.keep hX).old)
      rw [HPN.out] at h
      exact h.mono fun e w' h => ⟨(by obtain ⟨⟨pa', pc', h1, _⟩, _⟩ := h; exact ⟨pa', pc', h1⟩), bel_next hX (Nat.le_refl _) h.2, h.2⟩)
    have HO2 : Hid (∀ X, Below wq.heap.size wq X → Calls Tryd.prog 12 #[.agg #[.int .i64 c.id, .slice c.ra c.rs.length c.rc, .slice c.da c.ds.length c.dc, .slice c.va c.vs.length c.vc]] X fun e w' => (∃ k0 : Cl, e = .returned (.agg #[.int .i64 k0.id, .slice k0.ra k0.rs.length k0.rc, .slice k0.da k0.ds.length k0.dc, .slice k0.va k0.vs.length k0.vc]) ∧ k0.At w' ∧ SameC c k0) ∧ Below wq.heap.size wq w' ∧ Below X.heap.size X w') := fun X hX => (ownColumn_cl c X (by omega) (by omega) (by omega) (HAT.out _ (HI3.out.keep hX).old)).mono fun e w' h => ⟨(by obtain ⟨⟨k, h1, h2, _, h3⟩, _⟩ := h; exact ⟨k, h1, h2, h3⟩), bel_next hX (Nat.le_refl _) h.2, h.2⟩
    have HO3 : Hid (∀ X (k0 : Cl) pa' pc', Below wq.heap.size wq X → k0.At X → SameC c k0 → Calls Tryd.prog 10 #[.agg #[.int .i64 lid, .int .i64 kind, .int .i64 mr, .int .i64 md, .slice pa' pn pc'], .agg #[.int .i64 k0.id, .slice k0.ra k0.rs.length k0.rc, .slice k0.da k0.ds.length k0.dc, .slice k0.va k0.vs.length k0.vc]] X fun e w' => (∃ (s : St) (ev : Value), e = .returned (.tuple #[.agg #[.int .i64 s.e, .int .i64 s.u, .bool s.h, .int .i64 s.mn.k, .int .i64 s.mn.n, .string s.mn.s, .int .i64 s.mx.k, .int .i64 s.mx.n, .string s.mx.s], ev]) ∧ OfR X.heap.size lid kind mr md c (errV (A 2)) (errV (A 3)) s ev w') ∧ Below wq.heap.size wq w' ∧ Below X.heap.size X w') := fun X k0 pa' pc' hX ka ks => (by
      have hEX := HA0.out _ (HI3.out.keep hX).old
      refine (of_any lid kind mr md pa' pn pc' k0 X _ _ _ _ _ _ (by rw [ks.rs]; omega) (by rw [ks.ds]; omega) (by rw [ks.vs]; omega) ks.cap.1 ks.cap.2.1 ks.cap.2.2 (ecT hEX 2 (by omega)) (ecT hEX 3 (by omega)) (ecT hEX 1 (by omega)) ka (by rw [ks.vs]; exact HLO.out)).mono fun e w' h => ⟨?_, bel_next hX (Nat.le_refl _) h.2, h.2⟩
      obtain ⟨⟨s, ev, h1, h2⟩, _⟩ := h
      exact ⟨s, ev, h1, h2.same ks⟩)
    go_region_held3 (fun X => (X.cell? ⟨W.heap.size, 0, none⟩ = some (.int .i64 lid) ∧ X.cell? ⟨W.heap.size, 1, none⟩ = some (.int .i64 kind) ∧ X.cell? ⟨W.heap.size, 2, none⟩ = some (.int .i64 mr) ∧ X.cell? ⟨W.heap.size, 3, none⟩ = some (.int .i64 md) ∧ X.cell? ⟨W.heap.size, 4, none⟩ = some (.slice pa pn pc)) ∧ (X.cell? ⟨W.heap.size + 1, 0, none⟩ = some (.int .i64 c.id) ∧ X.cell? ⟨W.heap.size + 1, 1, none⟩ = some (.slice c.ra c.rs.length c.rc) ∧ X.cell? ⟨W.heap.size + 1, 2, none⟩ = some (.slice c.da c.ds.length c.dc) ∧ X.cell? ⟨W.heap.size + 1, 3, none⟩ = some (.slice c.va c.vs.length c.vc)) ∧ Below wq.heap.size wq X) (with_reducible refine HN.out _ ?_; repeat' (first | with_reducible assumption | with_reducible exact b0.drew | with_reducible exact b0 | with_reducible refine Below.drew ?_ | with_reducible exact Nat.le_refl _ | with_reducible refine Below.setCell ?_ ?_ _ | with_reducible refine Below.alloc ?_ ?_ _ | with_reducible exact Below.size (by assumption) | (simp; done) | (simp; omega) | omega)) (first
      | (go_at_call 11; (with_reducible refine Calls.mono (HO1.out _ ?_) ?_); (repeat' (first | with_reducible assumption | with_reducible exact b0.drew | with_reducible exact b0 | with_reducible refine Below.drew ?_ | with_reducible refine Below.alloc ?_ ?_ _ | with_reducible exact Below.size (by assumption) | with_reducible exact Nat.le_refl _)); rintro e x1 ⟨⟨pa', pc', rfl⟩, hbx1, hraw1⟩; (first | (have HK1 : Hid (k0.At x1) := Cl.At.keep (Hid.out HK0) hraw1; clear HK0; have HK0 : Hid (k0.At x1) := HK1; clear HK1) | skip); (first | (have hzz := blk_keep hraw1 hzz0; clear hzz0; have hzz0 := hzz; clear hzz) | (have hzz0 := blk_keep hraw1 (blk_drew (heap_alloc_new _ (.cells #[.int .i64 0, .int .i64 0, .bool false, .int .i64 0, .int .i64 0, .string ⟨#[]⟩, .int .i64 0, .int .i64 0, .string ⟨#[]⟩] 36)))) | (have hzz0 := blk_keep hraw1 (heap_alloc_new _ (.cells #[.int .i64 0, .int .i64 0, .bool false, .int .i64 0, .int .i64 0, .string ⟨#[]⟩, .int .i64 0, .int .i64 0, .string ⟨#[]⟩] 36))) | skip))
      | (go_at_call 12; (with_reducible refine Calls.mono (HO2.out _ ?_) ?_); (repeat' (first | with_reducible assumption | with_reducible exact b0.drew | with_reducible exact b0 | with_reducible refine Below.drew ?_ | with_reducible refine Below.alloc ?_ ?_ _ | with_reducible exact Below.size (by assumption) | with_reducible exact Nat.le_refl _)); rintro e x2 ⟨⟨k0, rfl, ka0, ks0⟩, hbx2, hraw2⟩; have HK0 : Hid (k0.At x2) := ka0; have HKS0 : Hid _ := ks0; clear ka0 ks0; (first | (have hzz := blk_keep hraw2 hzz0; clear hzz0; have hzz0 := hzz; clear hzz) | (have hzz0 := blk_keep hraw2 (blk_drew (heap_alloc_new _ (.cells #[.int .i64 0, .int .i64 0, .bool false, .int .i64 0, .int .i64 0, .string ⟨#[]⟩, .int .i64 0, .int .i64 0, .string ⟨#[]⟩] 36)))) | (have hzz0 := blk_keep hraw2 (heap_alloc_new _ (.cells #[.int .i64 0, .int .i64 0, .bool false, .int .i64 0, .int .i64 0, .string ⟨#[]⟩, .int .i64 0, .int .i64 0, .string ⟨#[]⟩] 36))) | skip))
      | (go_at_call 10; (with_reducible refine Calls.mono (HO3.out _ k0 pa' pc' ?_ ?_ ?_) ?_); (repeat' (first | with_reducible assumption | with_reducible exact b0.drew | with_reducible exact b0 | with_reducible refine Below.drew ?_ | with_reducible refine Below.alloc ?_ ?_ _ | with_reducible exact Below.size (by assumption) | with_reducible exact Nat.le_refl _)); (first | exact HK0.out | exact HK0.out.keep (((Below.refl _ _).alloc (Nat.le_refl _) _).drew) | exact HK0.out.keep ((Below.refl _ _).alloc (Nat.le_refl _) _)); exact HKS0.out; rintro e x3 ⟨⟨s, ev, rfl, hor⟩, hbx3, hraw3⟩; have HOR : Hid (OfR _ lid kind mr md c (errV (A 2)) (errV (A 3)) s ev x3) := hor; have HBX3 : Hid _ := hbx3; clear hor; (first | (have hzz := blk_keep hraw3 hzz0; clear hzz0; have hzz0 := hzz; clear hzz) | (have hzz0 := blk_keep hraw3 (blk_drew (heap_alloc_new _ (.cells #[.int .i64 0, .int .i64 0, .bool false, .int .i64 0, .int .i64 0, .string ⟨#[]⟩, .int .i64 0, .int .i64 0, .string ⟨#[]⟩] 36)))) | (have hzz0 := blk_keep hraw3 (heap_alloc_new _ (.cells #[.int .i64 0, .int .i64 0, .bool false, .int .i64 0, .int .i64 0, .string ⟨#[]⟩, .int .i64 0, .int .i64 0, .string ⟨#[]⟩] 36))) | skip); (first | (obtain ⟨z1, z2⟩ := row_nine hzz0; have HZZ : Hid _ := hzz0; clear hzz0) | skip)))
    · go_wp2_with fail
      go_meet
      exact ⟨s, x3.heap.size, rfl, HBX3.out.alloc HBX3.out.size _, heap_alloc_new _ _, both HCE.out (HOR.out.keep ((Below.refl _ _).alloc (Nat.le_refl _) _))⟩
    all_goals
      go_wp2_with fail
      go_meet
      exact ⟨s, _, rfl, set9_below HBX3.out (by first | exact Nat.le_refl _ | exact Below.size (by assumption)) _ _ _ _ _ _ _ _ _, set9_row HZZ.out _ _ _ _ _ _ _ _ _, both HCE.out (HOR.out.offz HZZ.out _ _ _ _ _ _ _ _ _)⟩
  case rest =>
    obtain ⟨s, g, rfl, HBw, HS, HBR⟩ := hcut
    rename World => wx
    rename Value => ev
    have HI : Hid _ := HI3.out.keep HBw.out
    have HFx : Hid _ := blk_keep HBw.out HFE.out
    clear HI3 HFE HBw p0 p1 p2 p3 p4 k0 k1 k2 k3
    obtain ⟨⟨e0, e1⟩, e2, e3⟩ := row_two HFx.out
    rcases HBR.out with ⟨rfl, rfl, rfl, rfl⟩ | ⟨p, q, rfl, rfl, rfl, rfl, h5, h6⟩ | ⟨rfl, h2, rfl⟩
    · have HSZ : Hid (wx.heap[g]? = some (.cells #[.int .i64 0, .int .i64 0, .bool false, .int .i64 0, .int .i64 0, .string ⟨#[]⟩, .int .i64 0, .int .i64 0, .string ⟨#[]⟩] 36 (0, 0))) := HS.out
      clear HS HBR
      go_wp2_with fail
      refine (faulted_sent wx A (HA0.out _ HI.out.old) 2 (by omega) 3 (by omega)).mono ?_
      rintro e w5 ⟨rfl, hb5⟩
      have HI5 : Hid _ := HI.out.keep hb5
      have HS5 : Hid _ := blk_keep hb5 HSZ.out
      clear hb5 e0 e1 e2 e3
      obtain ⟨⟨x0, x1, x2, x3, x4, x5, x6, x7, x8⟩, _⟩ := row_nine HS5.out
      go_wp2
      go_ret
      exact ⟨rfl, HI5.out.old⟩
    · have HSZ : Hid (wx.heap[g]? = some (.cells #[.int .i64 0, .int .i64 0, .bool false, .int .i64 0, .int .i64 0, .string ⟨#[]⟩, .int .i64 0, .int .i64 0, .string ⟨#[]⟩] 36 (0, 0))) := HS.out
      have H5 : Hid _ := h5
      have H6 : Hid _ := h6
      clear HS HBR h5 h6
      go_wp2_with fail
      refine (faulted_fault wx A (HA0.out _ HI.out.old) 3 q (by omega) p H5.out H6.out 4 (by omega)).mono ?_
      rintro e w5 ⟨rfl, hb5⟩
      have HI5 : Hid _ := HI.out.keep hb5
      have HS5 : Hid _ := blk_keep hb5 HSZ.out
      clear hb5 e0 e1 e2 e3
      obtain ⟨⟨x0, x1, x2, x3, x4, x5, x6, x7, x8⟩, _⟩ := row_nine HS5.out
      go_wp2
      go_ret
      exact ⟨rfl, HI5.out.old⟩
    · have HOC : Hid (s = ofC c) := h2
      clear HBR h2
      go_wp2_with fail
      have b0 : Below wx.heap.size wx wx := Below.refl _ _
      have HN : Hid (∀ X, Below wx.heap.size wx X → (X.cell? ⟨g, 0, none⟩ = some (.int .i64 s.e) ∧ X.cell? ⟨g, 1, none⟩ = some (.int .i64 s.u) ∧ X.cell? ⟨g, 2, none⟩ = some (.bool s.h) ∧ X.cell? ⟨g, 3, none⟩ = some (.int .i64 s.mn.k) ∧ X.cell? ⟨g, 4, none⟩ = some (.int .i64 s.mn.n) ∧ X.cell? ⟨g, 5, none⟩ = some (.string s.mn.s) ∧ X.cell? ⟨g, 6, none⟩ = some (.int .i64 s.mx.k) ∧ X.cell? ⟨g, 7, none⟩ = some (.int .i64 s.mx.n) ∧ X.cell? ⟨g, 8, none⟩ = some (.string s.mx.s)) ∧ (X.cell? ⟨W.heap.size + 1, 0, none⟩ = some (.int .i64 c.id) ∧ X.cell? ⟨W.heap.size + 1, 1, none⟩ = some (.slice c.ra c.rs.length c.rc) ∧ X.cell? ⟨W.heap.size + 1, 2, none⟩ = some (.slice c.da c.ds.length c.dc) ∧ X.cell? ⟨W.heap.size + 1, 3, none⟩ = some (.slice c.va c.vs.length c.vc)) ∧ Below wx.heap.size wx X) := fun X hX => ⟨(st_row (blk_keep hX HS.out)).1, row_four (blk_keep hX HI.out.co), hX⟩
      have HOR : Hid (∀ X, Below wx.heap.size wx X → Calls Tryd.prog 15 #[.agg #[.int .i64 c.id, .slice c.ra c.rs.length c.rc, .slice c.da c.ds.length c.dc, .slice c.va c.vs.length c.vc]] X fun e w' => e = .returned (.agg #[.int .i64 s.e, .int .i64 s.u, .bool s.h, .int .i64 s.mn.k, .int .i64 s.mn.n, .string s.mn.s, .int .i64 s.mx.k, .int .i64 s.mx.n, .string s.mx.s]) ∧ Below wx.heap.size wx w') := fun X hX => (by
        have h := statsOfR_any c X (by omega) (by omega) (HAT.out _ (HI.out.keep hX).old) HLO.out
        rw [← HOC.out] at h
        exact h.mono fun _ _ h => ⟨h.1, bel_next hX (Nat.le_refl _) h.2⟩)
      have HOL : Hid (∀ X, Below wx.heap.size wx X → Calls Tryd.prog 14 #[.agg #[.int .i64 s.e, .int .i64 s.u, .bool s.h, .int .i64 s.mn.k, .int .i64 s.mn.n, .string s.mn.s, .int .i64 s.mx.k, .int .i64 s.mx.n, .string s.mx.s]] X fun e w' => e = .returned (.agg #[.int .i64 s.e, .int .i64 s.u, .bool s.h, .int .i64 s.mn.k, .int .i64 s.mn.n, .string s.mn.s, .int .i64 s.mx.k, .int .i64 s.mx.n, .string s.mx.s]) ∧ Below wx.heap.size wx w') := fun X hX => (statsOfL_any s X).mono fun _ _ h => ⟨h.1, bel_next hX (Nat.le_refl _) h.2⟩
      clear e0 e1 e2 e3
      go_region_held3 (fun X => (X.cell? ⟨g, 0, none⟩ = some (.int .i64 s.e) ∧ X.cell? ⟨g, 1, none⟩ = some (.int .i64 s.u) ∧ X.cell? ⟨g, 2, none⟩ = some (.bool s.h) ∧ X.cell? ⟨g, 3, none⟩ = some (.int .i64 s.mn.k) ∧ X.cell? ⟨g, 4, none⟩ = some (.int .i64 s.mn.n) ∧ X.cell? ⟨g, 5, none⟩ = some (.string s.mn.s) ∧ X.cell? ⟨g, 6, none⟩ = some (.int .i64 s.mx.k) ∧ X.cell? ⟨g, 7, none⟩ = some (.int .i64 s.mx.n) ∧ X.cell? ⟨g, 8, none⟩ = some (.string s.mx.s)) ∧ (X.cell? ⟨W.heap.size + 1, 0, none⟩ = some (.int .i64 c.id) ∧ X.cell? ⟨W.heap.size + 1, 1, none⟩ = some (.slice c.ra c.rs.length c.rc) ∧ X.cell? ⟨W.heap.size + 1, 2, none⟩ = some (.slice c.da c.ds.length c.dc) ∧ X.cell? ⟨W.heap.size + 1, 3, none⟩ = some (.slice c.va c.vs.length c.vc)) ∧ Below wx.heap.size wx X) (with_reducible refine HN.out _ ?_; repeat' (first | with_reducible assumption | with_reducible exact b0.drew | with_reducible exact b0 | with_reducible refine Below.drew ?_ | with_reducible exact Nat.le_refl _ | with_reducible refine Below.setCell ?_ ?_ _ | with_reducible refine Below.alloc ?_ ?_ _ | with_reducible exact Below.size (by assumption) | (simp; done) | (simp; omega) | omega)) (first | (go_at_call 15; (with_reducible refine Calls.mono (HOR.out _ ?_) ?_); (repeat' (first | with_reducible assumption | with_reducible exact b0.drew | with_reducible exact b0 | with_reducible refine Below.drew ?_ | with_reducible refine Below.alloc ?_ ?_ _ | with_reducible exact Below.size (by assumption) | with_reducible exact Nat.le_refl _)); rintro e x1 ⟨rfl, hbx1⟩) | (go_at_call 14; (with_reducible refine Calls.mono (HOL.out _ ?_) ?_); (repeat' (first | with_reducible assumption | with_reducible exact b0.drew | with_reducible exact b0 | with_reducible refine Below.drew ?_ | with_reducible refine Below.alloc ?_ ?_ _ | with_reducible exact Below.size (by assumption) | with_reducible exact Nat.le_refl _)); rintro e x2 ⟨rfl, hbx2⟩))
      all_goals
        go_wp2
        go_ret
        exact ⟨rfl, HI.out.old.trans (hbx2.mono HI.out.old.size)⟩
end Go.Proofs.YtkcobccmifkjcaaDoor
