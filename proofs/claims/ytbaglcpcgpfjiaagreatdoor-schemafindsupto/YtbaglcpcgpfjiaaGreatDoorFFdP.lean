/-
  schema.Find: exact.
-/
import Derived.Test.YtbaglcpcgpfjiaaGreatDoorFCopyN
import Derived.Test.YtbaglcpcgpfjiaaGreatDoorFFndM
import Derived.Test.YtbaglcpcgpfjiaaGreatDoorFBWkF
import Derived.Test.YtbaglcpcgpfjiaaGreatDoorFBIds
import Derived.Deep.Cut
namespace Go.Proofs.YtbaglcpcgpfjiaaGreatDoor
open Go.RowKit
/-- What the visitor holds: the last node, and the number that is looked for. -/
structure FdI (g0 g1 B : Nat) (id : Int) (s : Option Tr) (W : World) : Prop where
  num : W.heap[g1]? = some (.cells #[.int .i64 id] 3 (0, 0))
  last : ∃ x0 x1 x2 x3 x4, W.heap[g0]? = some (.cells #[x0, x1, x2, x3, x4] 24 (0, 0)) ∧ ∀ t, s = some t → ∃ a c, x0 = .int .i64 t.id ∧ x1 = .string t.nm ∧ x2 = .int .i64 t.rep ∧ x3 = .int .i64 t.kind ∧ x4 = .slice a t.sub.length c ∧ LiesN W (fun b => b < B) a t.sub ∧ t.sub.length ≤ c
theorem FdI.stay {g0 g1 B : Nat} {id : Int} {s : Option Tr} {W w' : World} (h : FdI g0 g1 B id s W) (h0 : w'.heap[g0]? = W.heap[g0]?) (h1 : w'.heap[g1]? = W.heap[g1]?) (hB : ∀ b, b < B → b < W.heap.size → w'.heap[b]? = W.heap[b]?) : FdI g0 g1 B id s w' := by
  obtain ⟨hn, x0, x1, x2, x3, x4, hl, hs⟩ := h
  refine ⟨h1.trans hn, x0, x1, x2, x3, x4, h0.trans hl, fun t ht => ?_⟩
  obtain ⟨a, c, e0, e1, e2, e3, e4, hll, hc⟩ := hs t ht
  exact ⟨a, c, e0, e1, e2, e3, e4, hll.stay (fun _ h _ => h) hB, hc⟩
set_option maxRecDepth 100000 in
set_option maxHeartbeats 1600000 in
theorem find1_any (g0 g1 B Bw : Nat) (h0 : B ≤ g0) (h1 : g0 < Bw) (h2 : g1 < B) (id : Int) (s : Option Tr) (path : List Tr) (t : Tr) (a : Option Addr) (c : Nat) (v : Value) (W : World) (hi : FdI g0 g1 B id s W) (hp : PathR W B Bw v path) (hl : LiesN W (fun b => b < B) a t.sub) (hcap : t.sub.length ≤ c) (_ : Bw ≤ W.heap.size) :
    Calls Tryz.prog 21 #[nodeV t a c, v, .pointer (some ⟨g0, 0, none⟩), .pointer (some ⟨g1, 0, none⟩)] W fun e w' => e = .returned (.bool (stF id s path t).1) ∧ ((stF id s path t).1 = true → FdI g0 g1 B id (stF id s path t).2 w') ∧ ((stF id s path t).1 = false → FdI g0 g1 B id (stF id s path t).2 w') ∧ VFr B Bw W w' := by
  obtain ⟨va, vc, rfl⟩ := hp.shape
  obtain ⟨hnum, x0, x1, x2, x3, x4, hlast, _⟩ := hi
  obtain ⟨w0, HW0, HX, HB⟩ := one_box W #[.int .i64 t.id, .string t.nm, .int .i64 t.rep, .int .i64 t.kind, .slice a t.sub.length c] 24
  have HN0 : Hid (w0.heap[g1]? = some (.cells #[.int .i64 id] 3 (0, 0))) := blk_keep HB.out hnum
  have HL0 : Hid (w0.heap[g0]? = some (.cells #[x0, x1, x2, x3, x4] 24 (0, 0))) := blk_keep HB.out hlast
  have HL : Hid (LiesN W (fun b => b < B) a t.sub) := hl
  have hlt := lt_of_block hlast
  clear hp hnum hlast hl
  obtain ⟨⟨p0, p1, p2, p3, p4⟩, _⟩ := row_five HX.out
  obtain ⟨⟨l0, l1, l2, l3, l4⟩, f0, f1, f2, f3, f4⟩ := row_five HL0.out
  obtain ⟨w1, HW1⟩ := hid_name (((((w0.setCell ⟨g0, 0, none⟩ (.int .i64 t.id)).setCell ⟨g0, 1, none⟩ (.string t.nm)).setCell ⟨g0, 2, none⟩ (.int .i64 t.rep)).setCell ⟨g0, 3, none⟩ (.int .i64 t.kind)).setCell ⟨g0, 4, none⟩ (.slice a t.sub.length c))
  have hset : ∀ k, k ≠ g0 → w1.heap[k]? = w0.heap[k]? := fun k hk => by
    rw [← HW1.out, Below.heap_setCell _ _ _ _ hk, Below.heap_setCell _ _ _ _ hk, Below.heap_setCell _ _ _ _ hk, Below.heap_setCell _ _ _ _ hk, Below.heap_setCell _ _ _ _ hk]
  have HR1 : Hid (w1.heap[g0]? = some (.cells #[.int .i64 t.id, .string t.nm, .int .i64 t.rep, .int .i64 t.kind, .slice a t.sub.length c] 24 (0, 0))) := (by
    have h := row_setC (j := 4) (v := .slice a t.sub.length c) (row_setC (j := 3) (v := .int .i64 t.kind) (row_setC (j := 2) (v := .int .i64 t.rep) (row_setC (j := 1) (v := .string t.nm) (row_setC (j := 0) (v := .int .i64 t.id) HL0.out))))
    rw [HW1.out] at h
    exact h)
  have HX1 : Hid (w1.heap[W.heap.size]? = some (.cells #[.int .i64 t.id, .string t.nm, .int .i64 t.rep, .int .i64 t.kind, .slice a t.sub.length c] 24 (0, 0))) := (hset _ (by omega)).trans HX.out
  have HN1 : Hid (w1.heap[g1]? = some (.cells #[.int .i64 id] 3 (0, 0))) := (hset _ (by omega)).trans HN0.out
  have HF : Hid (FdI g0 g1 B id (some t) w1) := ⟨HN1.out, _, _, _, _, _, HR1.out, fun t' ht' => by
    injection ht' with ht'
    subst ht'
    exact ⟨a, c, rfl, rfl, rfl, rfl, rfl, HL.out.stay (fun _ h _ => h) (fun b h hlt => (hset b (by omega)).trans (HB.out.block b hlt)), hcap⟩⟩
  have HV : Hid (VFr B Bw W w1) := (by
    rw [← HW1.out, ← HW0.out]
    exact ((((((VFr.refl B Bw W).alloc (by omega) _).setG h0 h1 _).setG h0 h1 _).setG h0 h1 _).setG h0 h1 _).setG h0 h1 _)
  obtain ⟨⟨q0, q1, q2, q3, q4⟩, _⟩ := row_five HX1.out
  obtain ⟨m0, _⟩ := row_one HN1.out
  clear hset
  go_enter Tryz.func21, Tryz.ntmps21
  go_upto_region 1 with fail
  rw [HW0.out]
  go_upto_region 2 with fail
  rw [HW1.out]
  clear p0 p1 p2 p3 p4 l0 l1 l2 l3 l4 f0 f1 f2 f3 f4
  obtain ⟨ti, HTi⟩ := hid_name t.id
  have HSt : Hid (stF id s path t = (!(ti == id), some t)) := (by show _ = _; rw [stF, HTi.out])
  rw [HTi.out] at q0
  go_wp2
  go_ret
  rw [HSt.out]
  refine ⟨by simp [bne], fun _ => HF.out, fun _ => HF.out, HV.out⟩
/-- What Find answers of a right schema. -/
def FindR (t : Tr) (id : Int) (none_ : Value) (N : Nat) (e : Ending) (w' : World) : Prop :=
  (∃ x a' c', (ndT t).find? (fun y => y.id == id) = some x ∧ e = .returned (.tuple #[nodeV x a' c', .nilIface]) ∧ LiesN w' (fun b => N ≤ b) a' x.sub ∧ x.sub.length ≤ c') ∨ ((ndT t).find? (fun y => y.id == id) = none ∧ e = .returned (.tuple #[.agg #[.int .i64 0, .string ⟨#[]⟩, .int .i64 0, .int .i64 0, .slice none 0 0], none_]))
set_option maxRecDepth 100000 in
set_option maxHeartbeats 3200000 in
theorem find_any (t : Tr) (n : Nat) (hd : t.Dp n) (hn : n ≤ 1100000) (hs : t.Sm) (hr : vldN t = 0) (id : Int) (a : Option Addr) (c : Nat) (P : Nat → Prop) (W : World) (hl : LiesN W P a t.sub) (hcap : t.sub.length ≤ c) (eb es en eo : TypeId × Value) (he : Er3 W eb es en) (hgo : W.cell? ⟨0, 0, none⟩ = some (.iface eo.1 eo.2)) :
    Calls Tryz.prog 8 #[nodeV t a c, .int .i64 id] W fun e w' => FindR t id (.iface eo.1 eo.2) W.heap.size e w' ∧ Below W.heap.size W w' := by
  obtain ⟨w0, HW0, HX, HI, HZ, HB, _⟩ := three_boxesS W #[.int .i64 t.id, .string t.nm, .int .i64 t.rep, .int .i64 t.kind, .slice a t.sub.length c] #[.int .i64 id] #[.int .i64 0, .string ⟨#[]⟩, .int .i64 0, .int .i64 0, .slice none 0 0] 24 3 24
  have he0 := he.keep HB.out
  have HV := valid_any t n hd hn hs a c P w0 (hl.keep HB.out) hcap eb es en he0.b he0.s he0.n
  rw [vldV_nil hr] at HV
  have HV : Hid _ := HV
  have HL : Hid (LiesN W P a t.sub) := hl
  have HSm : Hid t.Sm := hs
  have HD : Hid (t.Dp n) := hd
  have HGo : Hid (∀ X, Below W.heap.size W X → X.cell? ⟨0, 0, none⟩ = some (.iface eo.1 eo.2)) := fun X hX => (hX.cell (World.block_lt_of_cell? W _ hgo)).trans hgo
  have HRt : Hid (vldN t = 0) := hr
  obtain ⟨⟨p0, p1, p2, p3, p4⟩, _⟩ := row_five HX.out
  clear hl hd hs he he0 hgo hr
  unfold nodeV
  go_enter Tryz.func8, Tryz.ntmps8
  go_upto_region 1 with fail
  rw [HW0.out]
  go_wp2_with fail
  refine Calls.mono HV.out ?_
  rintro e w1 ⟨rfl, hb1⟩
  have HB1 : Hid (Below W.heap.size W w1) := HB.out.trans (hb1.mono HB.out.size)
  have HX1 : Hid (w1.heap[W.heap.size]? = some (.cells #[.int .i64 t.id, .string t.nm, .int .i64 t.rep, .int .i64 t.kind, .slice a t.sub.length c] 24 (0, 0))) := blk_keep hb1 HX.out
  have HI1 : Hid (w1.heap[W.heap.size + 1]? = some (.cells #[.int .i64 id] 3 (0, 0))) := blk_keep hb1 HI.out
  have HZ1 : Hid (w1.heap[W.heap.size + 1 + 1]? = some (.cells #[.int .i64 0, .string ⟨#[]⟩, .int .i64 0, .int .i64 0, .slice none 0 0] 24 (0, 0))) := blk_keep hb1 HZ.out
  clear hb1 HV p0 p1 p2 p3 p4
  obtain ⟨w2, HW2, HLa, HB2⟩ := one_box w1 #[.int .i64 0, .string ⟨#[]⟩, .int .i64 0, .int .i64 0, .slice none 0 0] 24
  have hz2 := lt_of_block HZ1.out
  have hsz := HB1.out.size
  have hsz2 : w2.heap.size = w1.heap.size + 1 := by rw [← HW2.out]; simp
  have HX2 : Hid (w2.heap[W.heap.size]? = some (.cells #[.int .i64 t.id, .string t.nm, .int .i64 t.rep, .int .i64 t.kind, .slice a t.sub.length c] 24 (0, 0))) := blk_keep HB2.out HX1.out
  have HZ2 : Hid (w2.heap[W.heap.size + 1 + 1]? = some (.cells #[.int .i64 0, .string ⟨#[]⟩, .int .i64 0, .int .i64 0, .slice none 0 0] 24 (0, 0))) := blk_keep HB2.out HZ1.out
  have HC : Hid _ := wkF_any (stF id) (FdI w1.heap.size (W.heap.size + 1) w1.heap.size id) (FdI w1.heap.size (W.heap.size + 1) w1.heap.size id) (fun _ _ => True) (fun _ => 0) t.cnt w1.heap.size (W.heap.size + 1) w1.heap.size (w1.heap.size + 1) (by omega)
    (fun s W' w' r hi hg hr => hi.stay (hg.block _ (by obtain ⟨_, _, _, _, _, _, h, _⟩ := hi; exact lt_of_block h) (fun e => by have := (hr _ e.symm).1; omega)) (hg.block _ (lt_of_block hi.num) (fun e => by have := (hr _ e.symm).1; omega)) (fun b hb hlt => hg.block b hlt (fun e => by have := (hr _ e.symm).1; omega)))
    (fun path t hq j hj => trivial) (fun s path t => by simp)
    (fun s path t a c v W' hq hm h1 h2 h3 hcap h4 h5 => find1_any w1.heap.size (W.heap.size + 1) w1.heap.size (w1.heap.size + 1) (Nat.le_refl _) (by omega) (by omega) id s path t a c v W' h1 h2 h3 hcap h5)
    n t HD.out HSm.out none [] a c (.slice none 0 0) w2 trivial (by simp) (by simp; omega)
    ⟨blk_keep HB2.out HI1.out, _, _, _, _, _, HLa.out, fun t' h => by simp at h⟩ (PathR.nil _ _ _) ((HL.out.keep HB1.out).stay (fun b _ h => h) (fun b _ h => HB2.out.block b h)) hcap (by omega)
  obtain ⟨⟨p0, p1, p2, p3, p4⟩, _⟩ := row_five HX2.out
  go_upto_region 5 with fail
  rw [HW2.out]
  go_wp2_with fail
  refine Calls.mono HC.out ?_
  rintro e w3 ⟨rfl, hiT, hiF, hf3, _⟩
  have HT : Hid _ := hiT
  have HF : Hid _ := hiF
  have HB3 : Hid (Below w1.heap.size w1 w3) := HB2.out.trans (hf3.below)
  have HBW : Hid (Below W.heap.size W w3) := HB1.out.trans (HB3.out.mono hsz)
  have HZ3 : Hid (w3.heap[W.heap.size + 1 + 1]? = some (.cells #[.int .i64 0, .string ⟨#[]⟩, .int .i64 0, .int .i64 0, .slice none 0 0] 24 (0, 0))) := blk_keep HB3.out HZ1.out
  clear hiT hiF hf3 HC p0 p1 p2 p3 p4
  obtain ⟨⟨z0, z1, z2, z3, z4⟩, f0, f1, f2, f3, f4⟩ := row_five HZ3.out
  have hwk := wkF_T id t none []
  cases hf : (ndT t).find? (fun y => y.id == id) with
  | none =>
    have HQ : Hid ((wkT (stF id) none [] t).1 = true) := hwk.2 hf
    have HFn : Hid ((ndT t).find? (fun y => y.id == id) = none) := hf
    have go := HGo.out w3 HBW.out
    rw [HQ.out]
    clear hwk hf HT HF
    have HRw : Hid _ := row_setC (j := 4) (v := .slice none 0 0) (row_setC (j := 3) (v := .int .i64 0) (row_setC (j := 2) (v := .int .i64 0) (row_setC (j := 1) (v := .string ⟨#[]⟩) (row_setC (j := 0) (v := .int .i64 0) HZ3.out))))
    have HRd : Hid _ := row_setC (j := 4) (v := .slice none 0 0) (row_setC (j := 3) (v := .int .i64 0) (row_setC (j := 2) (v := .int .i64 0) (row_setC (j := 1) (v := .string ⟨#[]⟩) (row_setC (w := w3.drew) (j := 0) (v := .int .i64 0) HZ3.out))))
    go_upto_region 7 with fail
    go_region
    all_goals
      go_wp2
      refine bodyPost_ret (v := .tuple #[.agg #[.int .i64 0, .string ⟨#[]⟩, .int .i64 0, .int .i64 0, .slice none 0 0], .iface eo.1 eo.2]) (results_cS Tryz.results8 _ _ (W.heap.size + 1 + 1) 24 #[.int .i64 0, .string ⟨#[]⟩, .int .i64 0, .int .i64 0, .slice none 0 0] (0, 0) _ (.iface eo.1 eo.2) rfl rfl (by first | exact HRd.out | exact HRw.out) Tryz.underlying24 rfl (by kernel_rfl)) rfl ⟨.inr ⟨HFn.out, rfl⟩, ?_⟩
      first
        | exact ((((HBW.out.drew.setCell (by simp; omega) _).setCell (by simp; omega) _).setCell (by simp; omega) _).setCell (by simp; omega) _).setCell (by simp; omega) _
        | exact ((((HBW.out.setCell (by simp; omega) _).setCell (by simp; omega) _).setCell (by simp; omega) _).setCell (by simp; omega) _).setCell (by simp; omega) _
  | some x =>
    have HQ : Hid (wkT (stF id) none [] t = (false, some x)) := hwk.1 x hf
    have HFs : Hid ((ndT t).find? (fun y => y.id == id) = some x) := hf
    have HF2 := HF.out
    rw [HQ.out] at HF2
    obtain ⟨_, x0, x1, x2, x3, x4, hlast, hx⟩ := HF2 rfl
    obtain ⟨xa, xc, rfl, rfl, rfl, rfl, rfl, hxl, hxc⟩ := hx x rfl
    have HxS : Hid x.Sm := (nd_in (SizeOf.sizeOf t + 1) t (Nat.lt_succ_self _) x (List.mem_of_find?_eq_some hf)).2.2 HSm.out
    have HCp : Hid _ := copyAll_any (SizeOf.sizeOf x + 1) x (Nat.lt_succ_self _) HxS.out _ xa xc w3 hxl
    rw [HQ.out]
    obtain ⟨⟨y0, y1, y2, y3, y4⟩, _⟩ := row_five hlast
    clear hwk hf HT HF HF2 hx hxl hlast z0 z1 z2 z3 z4 f0 f1 f2 f3 f4
    go_wp2_with fail
    refine Calls.mono HCp.out ?_
    rintro e w4 ⟨⟨a4, c4, rfl, hl4, hc4⟩, hb4⟩
    have HB4 : Hid (Below W.heap.size W w4) := HBW.out.trans (hb4.mono HBW.out.size)
    have HZ4 : Hid (w4.heap[W.heap.size + 1 + 1]? = some (.cells #[.int .i64 0, .string ⟨#[]⟩, .int .i64 0, .int .i64 0, .slice none 0 0] 24 (0, 0))) := blk_keep hb4 HZ3.out
    have HL4 : Hid (LiesN w4 (fun b => w3.heap.size ≤ b) a4 x.sub) := hl4
    have hs3 := lt_of_block HZ3.out
    clear hb4 hl4 y0 y1 y2 y3 y4
    obtain ⟨⟨z0, z1, z2, z3, z4⟩, f0, f1, f2, f3, f4⟩ := row_five HZ4.out
    have HRw : Hid _ := row_setC (j := 4) (v := .slice a4 x.sub.length c4) (row_setC (j := 3) (v := .int .i64 x.kind) (row_setC (j := 2) (v := .int .i64 x.rep) (row_setC (j := 1) (v := .string x.nm) (row_setC (j := 0) (v := .int .i64 x.id) HZ4.out))))
    unfold nodeV
    go_wp2
    refine bodyPost_ret (v := .tuple #[nodeV x a4 c4, .nilIface]) (results_cS Tryz.results8 _ _ (W.heap.size + 1 + 1) 24 #[.int .i64 x.id, .string x.nm, .int .i64 x.rep, .int .i64 x.kind, .slice a4 x.sub.length c4] (0, 0) _ .nilIface rfl rfl HRw.out Tryz.underlying24 rfl (by kernel_rfl)) rfl ⟨.inl ⟨x, a4, c4, HFs.out, rfl, ?_, hc4⟩, ?_⟩
    · exact HL4.out.stay (fun b h _ => by have := HBW.out.size; omega) (fun b h _ => by
        have h2 : b ≠ W.heap.size + 1 + 1 := by omega
        rw [Below.heap_setCell _ _ _ _ h2, Below.heap_setCell _ _ _ _ h2, Below.heap_setCell _ _ _ _ h2, Below.heap_setCell _ _ _ _ h2, Below.heap_setCell _ _ _ _ h2])
    · exact ((((HB4.out.setCell (by simp; omega) _).setCell (by simp; omega) _).setCell (by simp; omega) _).setCell (by simp; omega) _).setCell (by simp; omega) _
set_option maxRecDepth 100000 in
set_option maxHeartbeats 3200000 in
theorem find_err (t : Tr) (n : Nat) (hd : t.Dp n) (hn : n ≤ 1100000) (hs : t.Sm) (id : Int) (a : Option Addr) (c : Nat) (P : Nat → Prop) (W : World) (hl : LiesN W P a t.sub) (hcap : t.sub.length ≤ c) (eb es en : TypeId × Value) (he : Er3 W eb es en) (ty : TypeId) (v : Value) (hx : vldV (.iface eb.1 eb.2) (.iface es.1 es.2) (.iface en.1 en.2) t = .iface ty v) :
    Calls Tryz.prog 8 #[nodeV t a c, .int .i64 id] W fun e w' => e = .returned (.tuple #[.agg #[.int .i64 0, .string ⟨#[]⟩, .int .i64 0, .int .i64 0, .slice none 0 0], .iface ty v]) ∧ Below W.heap.size W w' := by
  obtain ⟨w0, HW0, HX, HI, HZ, HB, _⟩ := three_boxesS W #[.int .i64 t.id, .string t.nm, .int .i64 t.rep, .int .i64 t.kind, .slice a t.sub.length c] #[.int .i64 id] #[.int .i64 0, .string ⟨#[]⟩, .int .i64 0, .int .i64 0, .slice none 0 0] 24 3 24
  have he0 := he.keep HB.out
  have HV := valid_any t n hd hn hs a c P w0 (hl.keep HB.out) hcap eb es en he0.b he0.s he0.n
  rw [hx] at HV
  have HV : Hid _ := HV
  obtain ⟨⟨p0, p1, p2, p3, p4⟩, _⟩ := row_five HX.out
  clear hl hd hs he he0 hx
  unfold nodeV
  go_enter Tryz.func8, Tryz.ntmps8
  go_upto_region 1 with fail
  rw [HW0.out]
  go_wp2_with fail
  refine Calls.mono HV.out ?_
  rintro e w1 ⟨rfl, hb1⟩
  have HB1 : Hid (Below W.heap.size W w1) := HB.out.trans (hb1.mono HB.out.size)
  have HZ1 : Hid (w1.heap[W.heap.size + 1 + 1]? = some (.cells #[.int .i64 0, .string ⟨#[]⟩, .int .i64 0, .int .i64 0, .slice none 0 0] 24 (0, 0))) := blk_keep hb1 HZ.out
  clear hb1 HV p0 p1 p2 p3 p4
  obtain ⟨⟨z0, z1, z2, z3, z4⟩, f0, f1, f2, f3, f4⟩ := row_five HZ1.out
  have HRw : Hid _ := row_setC (j := 4) (v := .slice none 0 0) (row_setC (j := 3) (v := .int .i64 0) (row_setC (j := 2) (v := .int .i64 0) (row_setC (j := 1) (v := .string ⟨#[]⟩) (row_setC (j := 0) (v := .int .i64 0) HZ1.out))))
  go_wp2
  exact bodyPost_ret (v := .tuple #[.agg #[.int .i64 0, .string ⟨#[]⟩, .int .i64 0, .int .i64 0, .slice none 0 0], .iface ty v]) (results_cS Tryz.results8 _ _ (W.heap.size + 1 + 1) 24 #[.int .i64 0, .string ⟨#[]⟩, .int .i64 0, .int .i64 0, .slice none 0 0] (0, 0) _ (.iface ty v) rfl rfl HRw.out Tryz.underlying24 rfl (by kernel_rfl)) rfl ⟨rfl, ((((HB1.out.setCell (by simp; omega) _).setCell (by simp; omega) _).setCell (by simp; omega) _).setCell (by simp; omega) _).setCell (by simp; omega) _⟩
end Go.Proofs.YtbaglcpcgpfjiaaGreatDoor
