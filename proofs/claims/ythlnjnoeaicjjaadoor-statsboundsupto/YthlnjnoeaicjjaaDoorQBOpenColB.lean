/-
  Columns and leaves that came in, and how bulky they are.
  slim of stage 9's laws.
  The walk of the law StatsMerge.
  The walk of the law StatsOf.
-/
import Derived.Test.YthlnjnoeaicjjaaDoorQBOpenCol
import Derived.Test.YthlnjnoeaicjjaaDoorQOpenNode
import Derived.Test.YthlnjnoeaicjjaaDoorQBStBase
import Derived.Test.YthlnjnoeaicjjaaDoorQBStMg
import Derived.Test.YthlnjnoeaicjjaaDoorQCode
import Derived.Test.YthlnjnoeaicjjaaDoorQBColH
import Derived.Test.YthlnjnoeaicjjaaDoorQRefErr
namespace Go.Proofs.YthlnjnoeaicjjaaDoor
open Go.ChangeShapes Go.WideShapes Go.ChangeAt Go.RowKit
def sumV : List Vl → Nat
  | [] => 0
  | v :: vs => v.s.size + 1 + sumV vs
theorem sumV_bulk {H : Type} : ∀ (ts : List Vl) (l : List (DataW H)), ts.length = l.length → (∀ j (h : j < ts.length) (h' : j < l.length), ts[j].s.size + 1 ≤ Rows.uptoBulk l[j]) → sumV ts ≤ Rows.uptoBulkAll l
  | [], [], _, _ => by simp [sumV]
  | [], _ :: _, h, _ => by simp at h
  | _ :: _, [], h, _ => by simp at h
  | t :: ts, d :: l, hl, h => by
    have h0 := h 0 (by simp) (by simp)
    have ih := sumV_bulk ts l (by simpa using hl) (fun j hj hj' => h (j + 1) (by simp; omega) (by simp; omega))
    simp only [List.getElem_cons_zero] at h0
    rw [sumV]
    simp only [Rows.uptoBulkAll]
    omega
theorem sumV_len : ∀ vs : List Vl, vs.length ≤ sumV vs
  | [] => Nat.le_refl _
  | v :: vs => by have := sumV_len vs; rw [sumV, List.length_cons]; omega
set_option maxRecDepth 100000 in
/-- What the cells of a value hold, and how bulky they are. -/
theorem valB_cells {H : Type} {enc : TypeId × Value → H} {W : World} {base n : Nat} {sp : Nat → Bool} {held : Bool} {cs : List Value} {x : DataW H × List MemPlace} (h : DataW.trod enc Tryd.prog W base sp held n 23 cs = some x) :
    ∃ v : Vl, cs = [.int .i64 v.k, .int .i64 v.n, .string v.s] ∧ v.In ∧ v.s.size + 1 ≤ Rows.uptoBulk x.1 := by
  obtain ⟨xs, m, _, rfl, hl, hlen, hf⟩ := DataW.trod_struct Tryd.underlying23 h
  rw [Tryd.cellsV] at hl
  match cs, hl with
  | [c0, c1, c2], _ =>
    match xs, hlen with
    | [y0, y1, y2], _ =>
      have g0 := hf 0 _ rfl
      have g1 := hf 1 _ rfl
      have g2 := hf 2 _ rfl
      simp [Tryd.cellsI, Tryd.cellsI64, Tryd.cellsS] at g0 g1 g2
      obtain ⟨k, e0, _, h0⟩ := DataW.trod_int Tryd.underlying3 g0
      obtain ⟨n, e1, _, h1⟩ := DataW.trod_int Tryd.underlying2 g1
      obtain ⟨s, e2, hy2, h2⟩ := DataW.trod_string Tryd.underlying9 g2
      simp at e0 e1 e2
      subst e0 e1 e2
      refine ⟨⟨k, n, s⟩, rfl, ⟨bounds_i64 h0, bounds_i64 h1, h2⟩, ?_⟩
      have e1 : Rows.uptoBulk y2.1 = s.size + 1 := by rw [hy2]; simp [Rows.uptoBulk]
      simp only [Rows.uptoBulk, Rows.uptoBulkAll, List.map_cons, List.map_nil]
      omega
set_option maxRecDepth 100000 in
theorem intsB_cells {H : Type} {enc : TypeId × Value → H} {W : World} {n : Nat} {cs : List Value} {x : DataW H × List MemPlace} (hf : DataW.trod enc Tryd.prog W 0 (fun _ => true) true n 39 cs = some x) :
    ∃ a c xs, cs = [.slice a (List.length xs) c] ∧ Lies W a (i64s xs) ∧ List.length xs + 1 ≤ Rows.uptoBulk x.1 + 1 := by
  rcases DataW.trod_slice Tryd.underlying39 hf with ⟨rfl, rfl⟩ | ⟨a, len, cap, elems, rest, m, rfl, rfl, rfl, _, hl, hm, hlen, hel, _, _⟩
  · exact ⟨none, 0, [], rfl, fun j hj => absurd hj (by simp [i64s]), by simp⟩
  · rw [Tryd.cellsI] at hel
    have each : ∀ i, i < len → ∃ z : Int, W.cell? (a.add i) = some (.int .i64 z) := fun i hi => by
      have h1 := hel i hi
      have h2 : elems[i]? = some (elems[i]'(by omega)) := List.getElem?_eq_getElem (by omega)
      rw [h2] at h1
      obtain ⟨cs', h3, h4⟩ := Option.bind_eq_some_iff.1 h1
      obtain ⟨k, e0, _, _⟩ := DataW.trod_int Tryd.underlying3 h4
      subst e0
      obtain ⟨_, _, hcell⟩ := World.cells?_some h3
      have e0 := hcell 0 (by omega)
      have z : (a.add (i * 1)).add 0 = a.add i := by unfold Addr.add; simp
      rw [z] at e0
      exact ⟨k, by simpa using e0⟩
    obtain ⟨f, hfx⟩ := Deep.choose_lt each
    refine ⟨some a, cap, (List.range len).map f, by simp, fun j hj => ?_, ?_⟩
    · have hj' : j < len := by simpa [i64s] using hj
      have h0 := hfx j hj'
      obtain ⟨b, off, spot⟩ := a
      have hspot : spot = none := by
        have := World.cell?_spot (hfx 0 (by omega))
        simpa [Addr.add] using this
      subst hspot
      rw [addr_add] at h0
      exact ⟨b, off, rfl, by simpa [i64s] using h0⟩
    · have h1 := bulk_len (elems.map (·.1))
      rw [List.length_map, hlen] at h1
      simp only [Rows.uptoBulk]
      simp
      omega
set_option maxRecDepth 100000 in
theorem valsB_cells {H : Type} {enc : TypeId × Value → H} {W : World} {n : Nat} {cs : List Value} {x : DataW H × List MemPlace} (hf : DataW.trod enc Tryd.prog W 0 (fun _ => true) true n 42 cs = some x) :
    ∃ a c vs, cs = [.slice a (List.length vs) c] ∧ LiesV W a vs ∧ (∀ v ∈ vs, v.In) ∧ sumV vs ≤ Rows.uptoBulk x.1 := by
  rcases DataW.trod_slice Tryd.underlying42 hf with ⟨rfl, rfl⟩ | ⟨a, len, cap, elems, rest, m, rfl, rfl, rfl, _, hl, hm, hlen, hel, _, _⟩
  · exact ⟨none, 0, [], rfl, fun j hj => absurd hj (by simp), fun v hv => absurd hv (by simp), by simp [sumV]⟩
  · rw [Tryd.cellsV] at hel
    have each : ∀ i, i < len → ∃ v : Vl, (W.cell? (a.add (i * 3)) = some (.int .i64 v.k) ∧ W.cell? ((a.add (i * 3)).add 1) = some (.int .i64 v.n) ∧ W.cell? ((a.add (i * 3)).add 2) = some (.string v.s)) ∧ v.In ∧ ∀ h : i < elems.length, v.s.size + 1 ≤ Rows.uptoBulk elems[i].1 := fun i hi => by
      have h1 := hel i hi
      have h2 : elems[i]? = some (elems[i]'(by omega)) := List.getElem?_eq_getElem (by omega)
      rw [h2] at h1
      obtain ⟨cs', h3, h4⟩ := Option.bind_eq_some_iff.1 h1
      obtain ⟨v, rfl, hin, hbk⟩ := valB_cells h4
      obtain ⟨_, _, hcell⟩ := World.cells?_some h3
      have e0 := hcell 0 (by omega)
      have e1 := hcell 1 (by omega)
      have e2 := hcell 2 (by omega)
      have z : (a.add (i * 3)).add 0 = a.add (i * 3) := by unfold Addr.add; simp
      rw [z] at e0
      exact ⟨v, ⟨by simpa using e0, by simpa using e1, by simpa using e2⟩, hin, fun _ => hbk⟩
    have : Inhabited Vl := ⟨⟨0, 0, ⟨#[]⟩⟩⟩
    obtain ⟨f, hfx⟩ := Deep.choose_lt each
    refine ⟨some a, cap, (List.range len).map f, by simp, fun j hj => ?_, fun v hv => ?_, ?_⟩
    · have hj' : j < len := by simpa using hj
      obtain ⟨⟨h0, h1, h2⟩, _⟩ := hfx j hj'
      obtain ⟨b, off, spot⟩ := a
      have hspot : spot = none := by
        have := World.cell?_spot (hfx 0 (by omega)).1.1
        simpa [Addr.add] using this
      subst hspot
      rw [addr_plus] at h0 h1 h2
      rw [addr_plus] at h1 h2
      refine ⟨b, off, rfl, ?_, ?_, ?_⟩
      · simpa using h0
      · simpa using h1
      · simpa using h2
    · obtain ⟨i, hi, rfl⟩ := List.mem_map.1 hv
      exact (hfx i (by simpa using hi)).2.1
    · have h1 := sumV_bulk ((List.range len).map f) (elems.map (·.1)) (by simp [hlen]) (fun j hj hj' => by
        have hj2 : j < len := by simpa using hj
        simpa using (hfx j hj2).2.2 (by omega))
      simp only [Rows.uptoBulk]
      omega
/-- How bulky a column is. -/
def Cl.bulk (c : Cl) : Nat := c.rs.length + c.ds.length + sumV c.vs
set_option maxRecDepth 100000 in
/-- What a column holds. -/
theorem open_columnB {H : Type} {enc : TypeId × Value → H} {W : World} {base : Nat} {v : Value} {d : DataW H} {ps : List MemPlace} (hv : Value.okWide Tryd.prog W .any base 44 v) (h : DataW.Trod enc Tryd.prog W 0 (fun _ => true) true 44 v d ps) :
    ∃ c : Cl, v = c.val ∧ c.At W ∧ (∀ v ∈ c.vs, v.In) ∧ c.bulk ≤ Rows.uptoBulk d := by
  obtain ⟨cs, rfl, _⟩ := okWide_struct Tryd.underlying44 hv
  obtain ⟨fuel, hf0⟩ := h
  obtain ⟨xs, m, _, hdp, hl, hlen, hf⟩ := DataW.trod_struct Tryd.underlying44 hf0
  obtain ⟨rfl, rfl⟩ := Prod.mk.inj hdp
  rw [Tryd.cellsC] at hl
  obtain ⟨cl, hcl⟩ : ∃ cl, (Value.agg cs).cells.toList = cl := ⟨_, rfl⟩
  have hcs : cs.toList = cl := hcl
  rw [hcl] at hl hf
  match cl, hl, hcs, hf with
  | [c0, c1, c2, c3], _, hcs, hf =>
    match xs, hlen, hf with
    | [y0, y1, y2, y3], _, hf =>
      have g0 := hf 0 _ rfl
      have g1 := hf 1 _ rfl
      have g2 := hf 2 _ rfl
      have g3 := hf 3 _ rfl
      simp [Tryd.cellsI, Tryd.cellsIs, Tryd.cellsVs] at g0 g1 g2 g3
      obtain ⟨k, e0, _, _⟩ := DataW.trod_int Tryd.underlying3 g0
      obtain ⟨ra, rc, rs, e1, l1, m1⟩ := intsB_cells g1
      obtain ⟨da, dc, ds, e2, l2, m2⟩ := intsB_cells g2
      obtain ⟨va, vc, vs, e3, l3, i3, m3⟩ := valsB_cells g3
      simp at e0 e1 e2 e3
      subst e0 e1 e2 e3
      refine ⟨⟨k, ra, rs, rc, da, ds, dc, va, vs, vc⟩, ?_, ⟨l1, l2, l3⟩, i3, ?_⟩
      · show Value.agg cs = Value.agg _
        congr 1
        exact Array.toList_inj.1 hcs
      · simp only [Rows.uptoBulk, Rows.uptoBulkAll, List.map_cons, List.map_nil, Cl.bulk]
        omega
end Go.Proofs.YthlnjnoeaicjjaaDoor

namespace Go.Proofs.YthlnjnoeaicjjaaDoor
open Go.RowKit
/-- The letters of values. -/
def letV : List Vl → Nat
  | [] => 0
  | v :: vs => v.s.size + letV vs
theorem letV_sum : ∀ vs : List Vl, letV vs + vs.length = sumV vs
  | [] => rfl
  | v :: vs => by have := letV_sum vs; rw [sumV, letV, List.length_cons]; omega
theorem letV_app : ∀ (xs ys : List Vl), letV (xs ++ ys) = letV xs + letV ys
  | [], ys => by simp [letV]
  | x :: xs, ys => by rw [List.cons_append, letV, letV, letV_app xs ys]; omega
theorem letV_succ {vs : List Vl} {i : Nat} (h : i < vs.length) : letV (vs.take (i + 1)) = letV (vs.take i) + vs[i].s.size := by
  rw [List.take_succ_eq_append_getElem h, letV_app]
  simp [letV]
theorem letV_le (vs : List Vl) (i : Nat) : letV (vs.take i) ≤ letV vs := by
  have h := letV_app (vs.take i) (vs.drop i)
  rw [List.take_append_drop] at h
  omega
/-- The law says something. -/
def slimB (c : Cl) (pn : Nat) : Bool := decide (c.bulk ≤ 2000) && decide (pn ≤ 100)
set_option maxRecDepth 100000 in
set_option maxHeartbeats 1600000 in
theorem slim3_any (lid kind mr md : Int) (pa : Option Addr) (pn pc : Nat) (c : Cl) (hn : c.bulk ≤ 1048576) (W : World) (hat : c.At W) :
    Calls Tryd.prog 13 #[.agg #[.int .i64 lid, .int .i64 kind, .int .i64 mr, .int .i64 md, .slice pa pn pc], .agg #[.int .i64 c.id, .slice c.ra c.rs.length c.rc, .slice c.da c.ds.length c.dc, .slice c.va c.vs.length c.vc]] W fun e w' => e = .returned (.bool (slimB c pn)) ∧ Below W.heap.size W w' := by
  obtain ⟨w0, HW0, HX, HY, HB⟩ := two_boxes W #[.int .i64 lid, .int .i64 kind, .int .i64 mr, .int .i64 md, .slice pa pn pc] #[.int .i64 c.id, .slice c.ra c.rs.length c.rc, .slice c.da c.ds.length c.dc, .slice c.va c.vs.length c.vc] 41 44
  have HL : Hid (LiesV w0 c.va c.vs) := (hat.keep HB.out).v
  have hls := letV_sum c.vs
  have hcb : c.bulk = c.rs.length + c.ds.length + sumV c.vs := rfl
  rw [← hls] at hcb
  have HCB : Hid _ := hcb
  have hbb : c.rs.length + c.ds.length + (letV c.vs + c.vs.length) ≤ 1048576 := by rw [← hcb]; exact hn
  clear hat hls hcb hn
  obtain ⟨⟨p0, p1, p2, p3, p4⟩, _⟩ := row_five HX.out
  obtain ⟨k0, k1, k2, k3⟩ := row_four HY.out
  obtain ⟨rn, HRN⟩ : ∃ n, Hid (c.rs.length = n) := ⟨_, rfl⟩
  obtain ⟨dn, HDN⟩ : ∃ n, Hid (c.ds.length = n) := ⟨_, rfl⟩
  rw [HRN.out] at HW0 HY k1 hbb HCB ⊢
  rw [HDN.out] at HW0 HY k2 hbb HCB ⊢
  have hw1 : IntKind.i64.wrap ((rn : Int) + (dn : Int)) = ((rn + dn : Nat) : Int) := by rw [IntKind.wrap_i64]; omega
  have hw2 : IntKind.i64.wrap (((rn + dn : Nat) : Int) + (c.vs.length : Int)) = ((rn + dn + c.vs.length : Nat) : Int) := by rw [IntKind.wrap_i64]; omega
  go_enter Tryd.func13, Tryd.ntmps13
  go_upto_region 1 with fail
  rw [HW0.out]
  go_wp2
  go_loop [5, 6] (fun y x => ∃ i : Nat, i ≤ c.vs.length ∧ x = .int .i64 i ∧ y = .int .i64 ((rn + dn + c.vs.length + letV (c.vs.take i) : Nat) : Int)) (fun _ x => c.vs.length - (intOf x).toNat)
  case atStart => exact ⟨0, Nat.zero_le _, rfl, rfl⟩
  case round =>
    obtain ⟨i, hi, rfl, rfl⟩ := hrel
    have hle := letV_le c.vs i
    obtain ⟨q, HQ⟩ : ∃ q, Hid (letV (c.vs.take i) = q) := ⟨_, rfl⟩
    by_cases hlt : i < c.vs.length
    · have HN : Hid (letV (c.vs.take (i + 1)) = q + c.vs[i].s.size) := (by show _ = _; rw [letV_succ hlt, HQ.out])
      have hle2 := letV_le c.vs (i + 1)
      rw [HN.out] at hle2
      rw [HQ.out] at hle ⊢
      obtain ⟨b, o, hva, c0, c1, c2⟩ := HL.out i hlt
      rw [hva] at k3 ⊢
      generalize c.vs[i] = v at *
      clear hva
      go_wp2
      go_round
      case rel => exact ⟨i + 1, by omega, by go_num, by rw [HN.out]; go_num⟩
      case measure => simp [intOf]; omega
    · obtain rfl : i = c.vs.length := by omega
      have HE : Hid (c.bulk = rn + dn + c.vs.length + q) := (by have h := HCB.out; have h2 := HQ.out; rw [List.take_length] at h2; show _ = _; rw [h, h2]; omega)
      rw [HQ.out]
      by_cases h1 : rn + dn + c.vs.length + q ≤ 2000
      · have q1 : decide ((rn : Int) + (dn : Int) + (c.vs.length : Int) + (q : Int) ≤ 2000) = true := by rw [decide_eq_true_iff]; omega
        have HF : Hid (slimB c pn = decide ((pn : Int) ≤ 100)) := (by
          show _ = _
          unfold slimB
          rw [HE.out, decide_eq_true h1, Bool.true_and, decide_eq_decide]
          omega)
        clear h1 hbb hle hw1 hw2
        go_wp2
        go_ret
        exact ⟨by rw [HF.out]; try simp, HB.out⟩
      · have q1 : decide ((rn : Int) + (dn : Int) + (c.vs.length : Int) + (q : Int) ≤ 2000) = false := by rw [decide_eq_false_iff_not]; omega
        have HF : Hid (slimB c pn = false) := (by
          show _ = _
          unfold slimB
          rw [HE.out, decide_eq_false h1, Bool.false_and])
        clear h1 hbb hle hw1 hw2
        go_wp2
        go_ret
        exact ⟨by rw [HF.out]; try simp, HB.out⟩
end Go.Proofs.YthlnjnoeaicjjaaDoor

namespace Go.Proofs.YthlnjnoeaicjjaaDoor
open Go.RowKit
/-- What the law's boxes hold. -/
structure LmI (W : World) (a b : St) (X : World) : Prop where
  fst : X.heap[W.heap.size]? = some (.cells a.cs 25 (0, 0))
  snd : X.heap[W.heap.size + 1]? = some (.cells b.cs 25 (0, 0))
  old : Below W.heap.size W X
theorem LmI.keep {W : World} {a b : St} {X w' : World} (h : LmI W a b X) (hb : Below X.heap.size X w') : LmI W a b w' :=
  ⟨blk_keep hb h.fst, blk_keep hb h.snd, h.old.trans (hb.mono h.old.size)⟩
end Go.Proofs.YthlnjnoeaicjjaaDoor

namespace Go.Proofs.YthlnjnoeaicjjaaDoor
open Go.RowKit
theorem OfR.same {N : Nat} {lid kind mr md : Int} {c k : Cl} {sv kv : Value} {s : St} {ev : Value} {w : World} (hs : SameC c k) (h : OfR N lid kind mr md k sv kv s ev w) : OfR N lid kind mr md c sv kv s ev w := by
  obtain ⟨cid, cra, crs, crc, cda, cds, cdc, cva, cvs, cvc⟩ := c
  obtain ⟨kid, kra, krs, krc, kda, kds, kdc, kva, kvs, kvc⟩ := k
  have e1 : kid = cid := hs.id
  have e2 : krs = crs := hs.rs
  have e3 : kds = cds := hs.ds
  have e4 : kvs = cvs := hs.vs
  subst e1 e2 e3 e4
  exact h
theorem OfR.off {N : Nat} {lid kind mr md : Int} {c : Cl} {sv kv : Value} {s : St} {ev : Value} {w : World} (h : OfR N lid kind mr md c sv kv s ev w) {g j : Nat} {v : Value} (hg : g < N) : OfR N lid kind mr md c sv kv s ev (w.setCell ⟨g, j, none⟩ v) := by
  rcases h with h | ⟨h0, p, hp, h1, h2, q, h3, h4, h5, h6, h7⟩ | h
  · exact .inl h
  · exact .inr (.inl ⟨h0, p, hp, h1, h2, q, h3, h4, h5, by rw [cell_off (by omega)]; exact h6, by rw [cell_off (by omega)]; exact h7⟩)
  · exact .inr (.inr h)
theorem OfR.keep {N : Nat} {lid kind mr md : Int} {c : Cl} {sv kv : Value} {s : St} {ev : Value} {w w' : World} (h : OfR N lid kind mr md c sv kv s ev w) (hb : Below w.heap.size w w') : OfR N lid kind mr md c sv kv s ev w' := by
  rcases h with h | ⟨h0, p, hp, h1, h2, q, h3, h4, h5, h6, h7⟩ | h
  · exact .inl h
  · exact .inr (.inl ⟨h0, p, hp, h1, h2, q, h3, h4, h5, (hb.cell (World.block_lt_of_cell? w _ h6)).trans h6, (hb.cell (World.block_lt_of_cell? w _ h7)).trans h7⟩)
  · exact .inr (.inr h)
end Go.Proofs.YthlnjnoeaicjjaaDoor
