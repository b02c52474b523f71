/-
  Values, and slices of values, that came in: what they hold; that they read behind the call as they did before.
  Slices of values that came in.
  A schema that came in: the tree that it holds; that it reads behind the call as it did before.
  A record that came in: the tree that it holds; that it reads behind the call as it did before.
  A slice of records that came in.
-/
import Derived.Test.YteonbmaokphleaaGreatDoorHBVal
import Derived.ChangeSlices
import Derived.Deep.Slices
import Derived.Carry
import Derived.OpenShut
import Derived.ProofKit
import Derived.Test.YteonbmaokphleaaGreatDoorRows
namespace Go.Proofs.YteonbmaokphleaaGreatDoor
open Go.ChangeShapes Go.WideShapes Go.ChangeAt Go.RowKit
theorem Tryz.cellsI : Tryz.prog.cellsOf 3 = 1 := by kernel_rfl
theorem Tryz.cellsI64 : Tryz.prog.cellsOf 2 = 1 := by kernel_rfl
theorem Tryz.cellsS : Tryz.prog.cellsOf 9 = 1 := by kernel_rfl
theorem Tryz.cellsV : Tryz.prog.cellsOf 54 = 3 := by kernel_rfl
theorem Tryz.laidV : laidOutB Tryz.prog = true := by kernel_rfl
def Vl.In (v : Vl) : Prop := (-9223372036854775808 ≤ v.k ∧ v.k ≤ 9223372036854775807) ∧ (-9223372036854775808 ≤ v.n ∧ v.n ≤ 9223372036854775807) ∧ v.s.size ≤ maxLen
theorem addr_plus (b o j : Nat) : (⟨b, o, none⟩ : Addr).add j = ⟨b, o + j, none⟩ := by unfold Addr.add; split <;> simp_all
theorem Tryz.cellsN : Tryz.prog.cellsOf 24 = 5 := by kernel_rfl
theorem Tryz.cellsNs : Tryz.prog.cellsOf 22 = 1 := by kernel_rfl
inductive Tr.In : Tr → Prop where
 | mk (id : Int) (nm : ByteArray) (rep kind : Int) (sub : List Tr) (hi : -9223372036854775808 ≤ id ∧ id ≤ 9223372036854775807) (hs : nm.size ≤ maxLen) (hr : -9223372036854775808 ≤ rep ∧ rep ≤ 9223372036854775807) (hk : -9223372036854775808 ≤ kind ∧ kind ≤ 9223372036854775807) (hl : sub.length ≤ maxLen)
     (each : ∀ j (h : j < sub.length), Tr.In sub[j]) : Tr.In (.node id nm rep kind sub)
instance : Inhabited Tr := ⟨.node 0 ⟨#[]⟩ 0 0 []⟩
theorem bulk_one {H : Type} (d : DataW H) : 1 ≤ Rows.uptoBulk d := by
 cases d with
 | lit l => cases l <;> simp [Rows.uptoBulk]
 | _ => simp [Rows.uptoBulk]
theorem bulk_len {H : Type} : ∀ (l : List (DataW H)), l.length ≤ Rows.uptoBulkAll l
 | [] => by simp [Rows.uptoBulkAll]
 | d :: l => by
  have h1 := bulk_one d
  have h2 := bulk_len l
  simp only [Rows.uptoBulkAll, List.length_cons]
  omega
theorem bulk_at {H : Type} : ∀ (l : List (DataW H)) (i : Nat) (h : i < l.length), Rows.uptoBulk l[i] ≤ Rows.uptoBulkAll l
 | d :: l, 0, _ => by simp only [Rows.uptoBulkAll, List.getElem_cons_zero]; omega
 | d :: l, i + 1, h => by
  have := bulk_at l i (by simpa using h)
  simp only [Rows.uptoBulkAll, List.getElem_cons_succ]
  omega
set_option maxRecDepth 100000 in
theorem nodes_cells {H : Type} {enc : TypeId × Value → H} {W : World} {n : Nat} (ih : ∀ k, k < n → ∀ (cs : List Value) (x : DataW H × List MemPlace), DataW.trod enc Tryz.prog W 0 (fun _ => true) true k 24 cs = some x → ∃ t : Tr, NodeC W (fun _ => True) t cs ∧ t.In ∧ (Rows.uptoBulk x.1 ≤ 1048576 → t.Sm) ∧ t.Dp (Rows.uptoBulk x.1))
    {cs : List Value} {x : DataW H × List MemPlace} (h : DataW.trod enc Tryz.prog W 0 (fun _ => true) true n 22 cs = some x) :
    ∃ a c ts, cs = [.slice a (List.length ts) c] ∧ List.length ts ≤ c ∧ List.length ts ≤ maxLen ∧ LiesN W (fun _ => True) a ts ∧ (∀ j (h : j < List.length ts), Tr.In ts[j]) ∧ (Rows.uptoBulk x.1 ≤ 1048576 → List.length ts ≤ 1048576 ∧ ∀ j (h : j < List.length ts), Tr.Sm ts[j]) ∧ ∀ j (h : j < List.length ts), Tr.Dp (Rows.uptoBulk x.1) ts[j] := by
 rcases DataW.trod_slice Tryz.underlying22 h with ⟨rfl, rfl⟩ | ⟨a, len, cap, elems, rest, m, rfl, rfl, rfl, _, hl, hm, hlen, hel, _, _⟩
 · exact ⟨none, 0, [], rfl, Nat.zero_le _, Nat.zero_le _, ⟨fun _ => [], fun j hj => absurd hj (by simp), fun j hj => absurd hj (by simp)⟩, fun j hj => absurd hj (by simp), fun _ => ⟨Nat.zero_le _, fun j hj => absurd hj (by simp)⟩, fun j hj => absurd hj (by simp)⟩
 · rw [Tryz.cellsN] at hel
   have each : ∀ i, i < len → ∃ p : Tr × List Value, (W.cells? 0 (a.add (i * 5)) 5 = some p.2) ∧ NodeC W (fun _ => True) p.1 p.2 ∧ p.1.In ∧ (∀ h : i < elems.length, Rows.uptoBulk elems[i].1 ≤ 1048576 → p.1.Sm) ∧ (∀ h : i < elems.length, p.1.Dp (Rows.uptoBulk elems[i].1)) := fun i hi => by
    have h1 := hel i hi
    have h2 : elems[i]? = some (elems[i]'(by omega)) := List.getElem?_eq_getElem (by omega)
    rw [h2] at h1
    obtain ⟨cs', h3, h4⟩ := Option.bind_eq_some_iff.1 h1
    obtain ⟨t, ht, hin, hsm, hdp⟩ := ih m (by omega) cs' _ h4
    exact ⟨(t, cs'), h3, ht, hin, fun _ => hsm, fun _ => hdp⟩
   obtain ⟨f, hf⟩ := Deep.choose_lt each
   refine ⟨some a, cap, (List.range len).map fun i => (f i).1, by simp, by simp; omega, by simp; omega, ⟨fun i => (f i).2, fun j hj => ?_, fun j hj => ?_⟩, fun j hj => ?_, fun hbk => ?_, fun j hj => ?_⟩
   · have hj' : j < len := by simpa using hj
     obtain ⟨h1, h2, _⟩ := hf j hj'
     obtain ⟨_, hlen5, hcell⟩ := World.cells?_some h1
     obtain ⟨_, hlen0, hcell0⟩ := World.cells?_some (hf 0 (by omega)).1
     have z0 := hcell0 0 (by omega)
     obtain ⟨b, off, spot⟩ := a
     have hspot : spot = none := by
      have hz : ((⟨b, off, spot⟩ : Addr).add (0 * 5)).add 0 = ⟨b, off, spot⟩ := by unfold Addr.add; simp
      rw [hz, List.getElem?_eq_getElem (by omega)] at z0
      exact World.cell?_spot z0
     subst hspot
     have e0 := hcell 0 (by omega)
     have e1 := hcell 1 (by omega)
     have e2 := hcell 2 (by omega)
     have e3 := hcell 3 (by omega)
     have e4 := hcell 4 (by omega)
     show NodeAt W _ _ j (f j).2
     generalize (f j).2 = cs' at *
     match cs', hlen5 with
     | [x0, x1, x2, x3, x4], _ =>
      simp only [addr_plus] at e0 e1 e2 e3 e4
      exact ⟨b, off, x0, x1, x2, x3, x4, rfl, trivial, rfl, by simpa using e0, by simpa using e1, by simpa using e2, by simpa using e3, by simpa using e4⟩
   · have hj' : j < len := by simpa using hj
     simpa using (hf j hj').2.1
   · have hj' : j < len := by simpa using hj
     simpa using (hf j hj').2.2.1
   · simp only [Rows.uptoBulk] at hbk
     have h1 := bulk_len (elems.map (·.1))
     rw [List.length_map, hlen] at h1
     refine ⟨by simp; omega, fun j hj => ?_⟩
     have hj' : j < len := by simpa using hj
     have h2 := bulk_at (elems.map (·.1)) j (by rw [List.length_map, hlen]; exact hj')
     rw [List.getElem_map] at h2
     simpa using (hf j hj').2.2.2.1 (by omega) (by omega)
   · have hj' : j < len := by simpa using hj
     have h2 := bulk_at (elems.map (·.1)) j (by rw [List.length_map, hlen]; exact hj')
     rw [List.getElem_map] at h2
     have h3 := (hf j hj').2.2.2.2 (by omega)
     have h4 := h3.up (Rows.uptoBulk (DataW.slice (elems.map (·.1)) (rest.map (·.1)))) (by simp only [Rows.uptoBulk]; omega)
     simpa using h4
set_option maxRecDepth 100000 in
theorem node_cells {H : Type} {enc : TypeId × Value → H} {W : World} : ∀ (n k : Nat), k < n → ∀ (cs : List Value) (x : DataW H × List MemPlace), DataW.trod enc Tryz.prog W 0 (fun _ => true) true k 24 cs = some x → ∃ t : Tr, NodeC W (fun _ => True) t cs ∧ t.In ∧ (Rows.uptoBulk x.1 ≤ 1048576 → t.Sm) ∧ t.Dp (Rows.uptoBulk x.1)
 | 0, k, hk => absurd hk (Nat.not_lt_zero _)
 | n + 1, k, hk => fun cs x h => by
  obtain ⟨xs, m, rfl, rfl, hl, hlen, hf⟩ := DataW.trod_struct Tryz.underlying24 h
  rw [Tryz.cellsN] at hl
  match cs, hl with
  | [c0, c1, c2, c3, c4], _ =>
   match xs, hlen with
   | [y0, y1, y2, y3, y4], _ =>
    have g0 := hf 0 _ rfl
    have g1 := hf 1 _ rfl
    have g2 := hf 2 _ rfl
    have g3 := hf 3 _ rfl
    have g4 := hf 4 _ rfl
    simp [Tryz.cellsI, Tryz.cellsS, Tryz.cellsNs] at g0 g1 g2 g3 g4
    obtain ⟨i, e0, _, h0⟩ := DataW.trod_int Tryz.underlying3 g0
    obtain ⟨s, e1, hy1, h1⟩ := DataW.trod_string Tryz.underlying9 g1
    obtain ⟨r, e2, _, h2⟩ := DataW.trod_int Tryz.underlying3 g2
    obtain ⟨q, e3, _, h3⟩ := DataW.trod_int Tryz.underlying3 g3
    obtain ⟨a, c, ts, e4, hc4, h4, h5, h6, h7, h8⟩ := nodes_cells (fun k hk' => node_cells n k (by omega)) g4
    simp at e0 e1 e2 e3 e4
    subst e0 e1 e2 e3 e4
    obtain ⟨F, f1, f2⟩ := h5
    refine ⟨.node i s r q ts, .mk i s r q ts a c hc4 F f1 f2, .mk i s r q ts (bounds_i64 h0) h1 (bounds_i64 h2) (bounds_i64 h3) h4 h6, fun hbk => ?_, ?_⟩
    · simp only [Rows.uptoBulk, Rows.uptoBulkAll, List.map_cons, List.map_nil] at hbk
      have b4 := h7 (by omega)
      refine .mk i s r q ts (bounds_i64 h0) ?_ b4.1 b4.2
      have e1 : Rows.uptoBulk y1.1 = s.size + 1 := by rw [hy1]; simp [Rows.uptoBulk]
      omega
    · have hd : (Tr.node i s r q ts).Dp (Rows.uptoBulk y4.1 + 1) := .mk _ i s r q ts h8
      exact hd.up _ (by simp only [Rows.uptoBulk, Rows.uptoBulkAll, List.map_cons, List.map_nil]; omega)
set_option maxRecDepth 100000 in
theorem open_node {H : Type} {enc : TypeId × Value → H} {W : World} {base : Nat} {v : Value} {d : DataW H} {ps : List MemPlace} (hv : Value.okWide Tryz.prog W .any base 24 v) (h : DataW.Trod enc Tryz.prog W 0 (fun _ => true) true 24 v d ps) :
    ∃ (t : Tr) (a : Option Addr) (c : Nat), v = .agg #[.int .i64 t.id, .string t.nm, .int .i64 t.rep, .int .i64 t.kind, .slice a t.sub.length c] ∧ LiesN W (fun _ => True) a t.sub ∧ t.In ∧ (Rows.uptoBulk d ≤ 1048576 → t.Sm) ∧ t.sub.length ≤ c ∧ t.Dp (Rows.uptoBulk d) := by
 obtain ⟨cs, rfl, _⟩ := okWide_struct Tryz.underlying24 hv
 obtain ⟨fuel, hf⟩ := h
 obtain ⟨t, hx, hin, hsm, hdp⟩ := node_cells (fuel + 1) fuel (Nat.lt_succ_self _) _ _ hf
 obtain ⟨a, c, e, hl, hc⟩ := hx.split2
 refine ⟨t, a, c, ?_, hl, hin, hsm, hc, hdp⟩
 congr 1
 exact Array.toList_inj.1 e
set_option maxRecDepth 100000 in
theorem shut_node {H : Type} {enc : TypeId × Value → H} {W W' : World} {v : Value} {d : DataW H} {ps : List MemPlace} (h : DataW.Trod enc Tryz.prog W 0 (fun _ => true) true 24 v d ps) (hb : Below W.heap.size W W') (hlt : ∀ x ∈ ps, x.block < W.heap.size) :
    DataW.Trod enc Tryz.prog W' 0 (fun b => decide (b < W.heap.size)) true 24 v d ps :=
 Below.trod Tryz.laidV (by kernel_rfl) (of_decide_eq_true (by kernel_rfl)) h hb hlt
theorem Tryz.cellsD : Tryz.prog.cellsOf 56 = 6 := by kernel_rfl
theorem Tryz.cellsDs : Tryz.prog.cellsOf 26 = 1 := by kernel_rfl
theorem Tryz.cellsB : Tryz.prog.cellsOf 4 = 1 := by kernel_rfl
inductive Dt.In : Dt → Prop where
 | mk (no : Bool) (v : Vl) (l f : List Dt) (hv : v.In) (hl : l.length ≤ maxLen) (hf : f.length ≤ maxLen) (el : ∀ j (h : j < l.length), Dt.In l[j]) (ef : ∀ j (h : j < f.length), Dt.In f[j]) : Dt.In (.mk no v l f)
theorem wtL_bulk {H : Type} : ∀ (ts : List Dt) (l : List (DataW H)), ts.length = l.length → (∀ j (h : j < ts.length) (h' : j < l.length), wt ts[j] ≤ Rows.uptoBulk l[j]) → wtL ts ≤ Rows.uptoBulkAll l
 | [], [], _, _ => by simp [wtL]
 | [], _ :: _, h, _ => by simp at h
 | _ :: _, [], h, _ => by simp at h
 | t :: ts, d :: l, hl, h => by
  have h0 := h 0 (by simp) (by simp)
  have ih := wtL_bulk ts l (by simpa using hl) (fun j hj hj' => h (j + 1) (by simp; omega) (by simp; omega))
  simp only [List.getElem_cons_zero] at h0
  rw [wtL]
  simp only [Rows.uptoBulkAll]
  omega
instance : Inhabited Dt := ⟨.mk false ⟨0, 0, ⟨#[]⟩⟩ [] []⟩
set_option maxRecDepth 100000 in
theorem val_bulk {H : Type} {enc : TypeId × Value → H} {W : World} {base n : Nat} {sp : Nat → Bool} {held : Bool} {cs : List Value} {x : DataW H × List MemPlace} (h : DataW.trod enc Tryz.prog W base sp held n 54 cs = some x) :
    ∃ v : Vl, cs = [.int .i64 v.k, .int .i64 v.n, .string v.s] ∧ v.In ∧ v.s.size + 1 ≤ Rows.uptoBulk x.1 := by
 obtain ⟨xs, m, _, rfl, hl, hlen, hf⟩ := DataW.trod_struct Tryz.underlying54 h
 rw [Tryz.cellsV] at hl
 match cs, hl with
 | [c0, c1, c2], _ =>
  match xs, hlen with
  | [y0, y1, y2], _ =>
   have g0 := hf 0 _ rfl
   have g1 := hf 1 _ rfl
   have g2 := hf 2 _ rfl
   simp [Tryz.cellsI, Tryz.cellsI64, Tryz.cellsS] at g0 g1 g2
   obtain ⟨k, e0, _, h0⟩ := DataW.trod_int Tryz.underlying3 g0
   obtain ⟨n, e1, _, h1⟩ := DataW.trod_int Tryz.underlying2 g1
   obtain ⟨s, e2, hy2, h2⟩ := DataW.trod_string Tryz.underlying9 g2
   simp at e0 e1 e2
   subst e0 e1 e2
   refine ⟨⟨k, n, s⟩, rfl, ⟨bounds_i64 h0, bounds_i64 h1, h2⟩, ?_⟩
   have e1 : Rows.uptoBulk y2.1 = s.size + 1 := by rw [hy2]; simp [Rows.uptoBulk]
   simp only [Rows.uptoBulk, Rows.uptoBulkAll, List.map_cons, List.map_nil]
   omega
set_option maxRecDepth 100000 in
theorem data_cells {H : Type} {enc : TypeId × Value → H} {W : World} {n : Nat} (ih : ∀ k, k < n → ∀ (cs : List Value) (x : DataW H × List MemPlace), DataW.trod enc Tryz.prog W 0 (fun _ => true) true k 56 cs = some x → ∃ t : Dt, DtC W (fun _ => True) t cs ∧ t.In ∧ wt t ≤ Rows.uptoBulk x.1 ∧ (Rows.uptoBulk x.1 ≤ 1048576 → t.Sm))
    {cs : List Value} {x : DataW H × List MemPlace} (h : DataW.trod enc Tryz.prog W 0 (fun _ => true) true n 26 cs = some x) :
    ∃ a c ts, cs = [.slice a (List.length ts) c] ∧ List.length ts ≤ maxLen ∧ LiesD W (fun _ => True) a ts ∧ (∀ j (h : j < List.length ts), Dt.In ts[j]) ∧ wtL ts ≤ Rows.uptoBulk x.1 ∧ (Rows.uptoBulk x.1 ≤ 1048576 → List.length ts ≤ 1048576 ∧ ∀ j (h : j < List.length ts), Dt.Sm ts[j]) := by
 rcases DataW.trod_slice Tryz.underlying26 h with ⟨rfl, rfl⟩ | ⟨a, len, cap, elems, rest, m, rfl, rfl, rfl, _, hl, hm, hlen, hel, _, _⟩
 · exact ⟨none, 0, [], rfl, Nat.zero_le _, ⟨fun _ => [], fun j hj => absurd hj (by simp), fun j hj => absurd hj (by simp)⟩, fun j hj => absurd hj (by simp), by simp [wtL], fun _ => ⟨Nat.zero_le _, fun j hj => absurd hj (by simp)⟩⟩
 · rw [Tryz.cellsD] at hel
   have each : ∀ i, i < len → ∃ p : Dt × List Value, (W.cells? 0 (a.add (i * 6)) 6 = some p.2) ∧ DtC W (fun _ => True) p.1 p.2 ∧ p.1.In ∧ (∀ h : i < elems.length, wt p.1 ≤ Rows.uptoBulk elems[i].1) ∧ (∀ h : i < elems.length, Rows.uptoBulk elems[i].1 ≤ 1048576 → p.1.Sm) := fun i hi => by
    have h1 := hel i hi
    have h2 : elems[i]? = some (elems[i]'(by omega)) := List.getElem?_eq_getElem (by omega)
    rw [h2] at h1
    obtain ⟨cs', h3, h4⟩ := Option.bind_eq_some_iff.1 h1
    obtain ⟨t, ht, hin, hwt, hsm⟩ := ih m (by omega) cs' _ h4
    exact ⟨(t, cs'), h3, ht, hin, fun _ => hwt, fun _ => hsm⟩
   obtain ⟨f, hf⟩ := Deep.choose_lt each
   refine ⟨some a, cap, (List.range len).map fun i => (f i).1, by simp, by simp; omega, ⟨fun i => (f i).2, fun j hj => ?_, fun j hj => ?_⟩, fun j hj => ?_, ?_, fun hbk => ?_⟩
   · have hj' : j < len := by simpa using hj
     obtain ⟨h1, h2, _⟩ := hf j hj'
     obtain ⟨_, hlen6, hcell⟩ := World.cells?_some h1
     obtain ⟨_, hlen0, hcell0⟩ := World.cells?_some (hf 0 (by omega)).1
     have z0 := hcell0 0 (by omega)
     obtain ⟨b, off, spot⟩ := a
     have hspot : spot = none := by
      have hz : ((⟨b, off, spot⟩ : Addr).add (0 * 6)).add 0 = ⟨b, off, spot⟩ := by unfold Addr.add; simp
      rw [hz, List.getElem?_eq_getElem (by omega)] at z0
      exact World.cell?_spot z0
     subst hspot
     have e0 := hcell 0 (by omega)
     have e1 := hcell 1 (by omega)
     have e2 := hcell 2 (by omega)
     have e3 := hcell 3 (by omega)
     have e4 := hcell 4 (by omega)
     have e5 := hcell 5 (by omega)
     show DtAt W _ _ j (f j).2
     generalize (f j).2 = cs' at *
     match cs', hlen6 with
     | [x0, x1, x2, x3, x4, x5], _ =>
      simp only [addr_plus] at e0 e1 e2 e3 e4 e5
      exact ⟨b, off, x0, x1, x2, x3, x4, x5, rfl, trivial, rfl, by simpa using e0, by simpa using e1, by simpa using e2, by simpa using e3, by simpa using e4, by simpa using e5⟩
   · have hj' : j < len := by simpa using hj
     simpa using (hf j hj').2.1
   · have hj' : j < len := by simpa using hj
     simpa using (hf j hj').2.2.1
   · have h1 := wtL_bulk ((List.range len).map fun i => (f i).1) (elems.map (·.1)) (by simp [hlen]) (fun j hj hj' => by
       have hj2 : j < len := by simpa using hj
       simpa using (hf j hj2).2.2.2.1 (by omega))
     simp only [Rows.uptoBulk]
     omega
   · simp only [Rows.uptoBulk] at hbk
     have h1 := bulk_len (elems.map (·.1))
     rw [List.length_map, hlen] at h1
     refine ⟨by simp; omega, fun j hj => ?_⟩
     have hj' : j < len := by simpa using hj
     have h2 := bulk_at (elems.map (·.1)) j (by rw [List.length_map, hlen]; exact hj')
     rw [List.getElem_map] at h2
     simpa using (hf j hj').2.2.2.2 (by omega) (by omega)
set_option maxRecDepth 100000 in
theorem datum_cells {H : Type} {enc : TypeId × Value → H} {W : World} : ∀ (n k : Nat), k < n → ∀ (cs : List Value) (x : DataW H × List MemPlace), DataW.trod enc Tryz.prog W 0 (fun _ => true) true k 56 cs = some x → ∃ t : Dt, DtC W (fun _ => True) t cs ∧ t.In ∧ wt t ≤ Rows.uptoBulk x.1 ∧ (Rows.uptoBulk x.1 ≤ 1048576 → t.Sm)
 | 0, k, hk => absurd hk (Nat.not_lt_zero _)
 | n + 1, k, hk => fun cs x h => by
  obtain ⟨xs, m, rfl, rfl, hl, hlen, hf⟩ := DataW.trod_struct Tryz.underlying56 h
  rw [Tryz.cellsD] at hl
  match cs, hl with
  | [c0, c1, c2, c3, c4, c5], _ =>
   match xs, hlen with
   | [y0, y1, y2, y3], _ =>
    have g0 := hf 0 _ rfl
    have g1 := hf 1 _ rfl
    have g2 := hf 2 _ rfl
    have g3 := hf 3 _ rfl
    simp [Tryz.cellsB, Tryz.cellsV, Tryz.cellsDs] at g0 g1 g2 g3
    obtain ⟨no, e0, _⟩ := DataW.trod_bool Tryz.underlying4 g0
    obtain ⟨v, e1, hv, hbv⟩ := val_bulk g1
    obtain ⟨al, cl, tl, e2, a2, b2, d2, w2, s2⟩ := data_cells (fun k hk' => datum_cells n k (by omega)) g2
    obtain ⟨af, cf, tf, e3, a3, b3, d3, w3, s3⟩ := data_cells (fun k hk' => datum_cells n k (by omega)) g3
    simp at e0 e1 e2 e3
    obtain ⟨rfl, rfl, rfl⟩ := e1
    subst e0 e2 e3
    obtain ⟨F, f1, f2⟩ := b2
    obtain ⟨G, h1, h2⟩ := b3
    refine ⟨.mk no v tl tf, .mk no v tl tf al cl af cf F G f1 f2 h1 h2, .mk no v tl tf hv a2 a3 d2 d3, ?_, fun hbk => ?_⟩
    · rw [wt]
      simp only [Rows.uptoBulk, Rows.uptoBulkAll, List.map_cons, List.map_nil]
      omega
    simp only [Rows.uptoBulk, Rows.uptoBulkAll, List.map_cons, List.map_nil] at hbk
    have q2 := s2 (by omega)
    have q3 := s3 (by omega)
    exact .mk no v tl tf (by omega) q2.1 q3.1 q2.2 q3.2
set_option maxRecDepth 100000 in
theorem open_data {H : Type} {enc : TypeId × Value → H} {W : World} {base : Nat} {v : Value} {d : DataW H} {ps : List MemPlace} (hv : Value.okWide Tryz.prog W .any base 26 v) (h : DataW.Trod enc Tryz.prog W 0 (fun _ => true) true 26 v d ps) :
    ∃ a c ts, v = .slice a (List.length ts) c ∧ LiesD W (fun _ => True) a ts ∧ wtL ts ≤ Rows.uptoBulk d ∧ (Rows.uptoBulk d ≤ 1048576 → List.length ts ≤ 1048576 ∧ ∀ j (h : j < List.length ts), Dt.Sm ts[j]) := by
 obtain ⟨a0, len, cap, rfl⟩ := okWide_slice Tryz.underlying26 hv
 obtain ⟨fuel, hf⟩ := h
 obtain ⟨a, c, ts, e, _, hl, _, hw, hs⟩ := data_cells (fun k hk => datum_cells fuel k hk) hf
 simp [Value.cells] at e
 obtain ⟨rfl, rfl, rfl⟩ := e
 exact ⟨_, _, ts, rfl, hl, hw, hs⟩
set_option maxRecDepth 100000 in
theorem shut_data {H : Type} {enc : TypeId × Value → H} {W W' : World} {v : Value} {d : DataW H} {ps : List MemPlace} (h : DataW.Trod enc Tryz.prog W 0 (fun _ => true) true 26 v d ps) (hb : Below W.heap.size W W') (hlt : ∀ x ∈ ps, x.block < W.heap.size) :
    DataW.Trod enc Tryz.prog W' 0 (fun b => decide (b < W.heap.size)) true 26 v d ps :=
 Below.trod Tryz.laidV (by kernel_rfl) (of_decide_eq_true (by kernel_rfl)) h hb hlt
end Go.Proofs.YteonbmaokphleaaGreatDoor
