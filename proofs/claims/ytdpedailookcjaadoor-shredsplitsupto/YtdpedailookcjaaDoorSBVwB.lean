/-
  data.values: what a row that is filled keeps; ones as a slice.
  data.values at the end of a way.
  data.values amid a way.
  shred.Part, walked.
-/
import Derived.Test.YtdpedailookcjaaDoorSBColS
import Derived.Test.YtdpedailookcjaaDoorSBOpenNode
import Derived.BigQuiet
import Derived.Test.YtdpedailookcjaaDoorSBColH
namespace Go.Proofs.YtdpedailookcjaaDoor
open Go.RowKit
/-- All but the row's own block is kept; the row lies where it lay, or in a new block. -/
structure VsK (W : World) (v : Value) (w' : World) (v' : Value) : Prop where
  rest : Below 0 W w'
  size : W.heap.size ≤ w'.heap.size
  keep : ∀ k, k < W.heap.size → some k ≠ v.ownBlock → w'.heap[k]? = W.heap[k]?
  own : v'.ownBlock = v.ownBlock ∨ ∃ k, v'.ownBlock = some k ∧ W.heap.size ≤ k
theorem lt_of_block_any {w : World} {k : Nat} {o : Obj} (h : w.heap[k]? = some o) : k < w.heap.size := (Array.getElem?_eq_some_iff.1 h).1
theorem VsK.refl (W : World) (v : Value) : VsK W v W v := ⟨Below.refl _ _, Nat.le_refl _, fun _ _ _ => rfl, .inl rfl⟩
theorem VsK.ne {W w' : World} {v v' : Value} (h : VsK W v w' v') {k : Nat} (hk : k < W.heap.size) (hn : some k ≠ v.ownBlock) : some k ≠ v'.ownBlock := by
  rcases h.own with e | ⟨m, e, hm⟩
  · rw [e]; exact hn
  · rw [e]; intro e2; injection e2 with e2; omega
theorem VsK.trans {W w1 w2 : World} {v v1 v2 : Value} (h : VsK W v w1 v1) (h' : VsK w1 v1 w2 v2) : VsK W v w2 v2 := by
  refine ⟨h.rest.trans h'.rest, Nat.le_trans h.size h'.size, fun k hk hn => (h'.keep k (Nat.lt_of_lt_of_le hk h.size) (h.ne hk hn)).trans (h.keep k hk hn), ?_⟩
  rcases h'.own with e | ⟨m, e, hm⟩
  · rcases h.own with e2 | ⟨m, e2, hm⟩
    · exact .inl (e.trans e2)
    · exact .inr ⟨m, e.trans e2, hm⟩
  · exact .inr ⟨m, e, Nat.le_trans h.size hm⟩
theorem VsK.below {W w' : World} (v : Value) (h : Below W.heap.size W w') : VsK W v w' v := ⟨h.mono (Nat.zero_le _), h.size, fun k hk _ => h.block k hk, .inl rfl⟩
/-- Of a row that is not there yet: all is kept. -/
theorem VsK.to_below {W w' : World} {v' : Value} (h : VsK W (.slice none 0 0) w' v') : Below W.heap.size W w' := ⟨h.rest.os, h.rest.tape, h.rest.output, h.size, fun k hk => h.keep k hk (by simp [Value.ownBlock])⟩
theorem VsK.blk {W w' : World} {v v' : Value} (h : VsK W v w' v') {k : Nat} {o : Obj} (hk : W.heap[k]? = some o) (hn : some k ≠ v.ownBlock) : w'.heap[k]? = some o := (h.keep k (lt_of_block_any hk) hn).trans hk
theorem VsK.nodes {W w' : World} {v v' : Value} (h : VsK W v w' v') {a : Option Addr} {ts : List Tr} (hl : LiesN W (fun b => some b ≠ v.ownBlock) a ts) : LiesN w' (fun b => some b ≠ v'.ownBlock) a ts := hl.stay (fun b hb hlt => h.ne (k := b) hlt hb) (fun b hb hlt => h.keep b hlt hb)
theorem VsK.data {W w' : World} {v v' : Value} (h : VsK W v w' v') {a : Option Addr} {ts : List Dt} (hl : LiesD W (fun b => some b ≠ v.ownBlock) a ts) : LiesD w' (fun b => some b ≠ v'.ownBlock) a ts := hl.stay (fun b hb hlt => h.ne (k := b) hlt hb) (fun b hb hlt => h.keep b hlt hb)
/-- Numbers that lie in another block than a row's. -/
def LiesO (w : World) (v : Value) (a : Option Addr) (cs : List Value) : Prop := Lies w a cs ∧ ∀ p, a = some p → p.block < w.heap.size ∧ some p.block ≠ v.ownBlock
theorem VsK.ints {W w' : World} {v v' : Value} (h : VsK W v w' v') {a : Option Addr} {cs : List Value} (hl : LiesO W v a cs) : LiesO w' v' a cs := by
  refine ⟨fun j hj => ?_, fun p hp => ?_⟩
  · obtain ⟨b, o, e, hc⟩ := hl.1 j hj
    refine ⟨b, o, e, cell_stay hc (h.keep b (World.block_lt_of_cell? W _ hc) ?_)⟩
    exact (hl.2 _ e).2
  · obtain ⟨h1, h2⟩ := hl.2 p hp
    exact ⟨Nat.lt_of_lt_of_le h1 h.size, h.ne h1 h2⟩
/-- The values that are gathered so far, in a row of the call's own. -/
abbrev VsR (w : World) (N : Nat) (v : Value) (vs : List Vl) : Prop := w.ownsRow N 53 3 v vs.length (vcells vs)
theorem one_lies {W : World} {P : Nat → Prop} {d : Dt} {g : Nat} {al : Option Addr} {cl : Nat} {af : Option Addr} {cf : Nat} (hg : W.heap[g]? = some (.cells #[.bool d.no, .int .i64 d.v.k, .int .i64 d.v.n, .string d.v.s, .slice al d.l.length cl, .slice af d.f.length cf] 55 (0, 0))) (hP : P g) (hl : LiesD W P al d.l) (hf : LiesD W P af d.f) : LiesD W P (some ⟨g, 0, none⟩) [d] := by
  obtain ⟨z0, z1, z2, z3, z4, z5⟩ := row_six hg
  refine ⟨fun _ => [.bool d.no, .int .i64 d.v.k, .int .i64 d.v.n, .string d.v.s, .slice al d.l.length cl, .slice af d.f.length cf], fun j hj => ?_, fun j hj => ?_⟩
  · obtain rfl : j = 0 := by simpa using hj
    exact ⟨g, 0, _, _, _, _, _, _, rfl, hP, rfl, z0, z1, z2, z3, z4, z5⟩
  · obtain rfl : j = 0 := by simpa using hj
    exact DtC.join cl cf hl hf
/-- ones, as a slice that lies apart from the row. -/
theorem ones_any (t : Tr) (d : Dt) (a : Option Addr) (c : Nat) (al : Option Addr) (cl : Nat) (af : Option Addr) (cf : Nat) (v : Value) (W : World) (hv : ∀ k, v.ownBlock = some k → k < W.heap.size) (hl : LiesD W (fun b => some b ≠ v.ownBlock) al d.l) (hf : LiesD W (fun b => some b ≠ v.ownBlock) af d.f) :
    Calls Tryd.prog 49 #[nodeV t a c, datumV d al cl af cf] W fun e w' => (∃ oa oc, e = .returned (.slice oa (ons t d).length oc) ∧ LiesD w' (fun b => some b ≠ v.ownBlock) oa (ons t d)) ∧ Below W.heap.size W w' := by
  by_cases hr : t.rep = 3
  · have e : ons t d = d.l := by rw [ons, if_pos hr]
    rw [e]
    refine (ones_lst t d hr a c al cl af cf W).mono ?_
    rintro e w1 ⟨rfl, hb⟩
    exact ⟨⟨al, cl, rfl, hl.keep hb⟩, hb⟩
  · cases hn : d.no with
    | true =>
      have e : ons t d = [] := by rw [ons, if_neg hr, if_pos hn]
      rw [e]
      refine (ones_no t d hr hn a c al cl af cf W).mono ?_
      rintro e w1 ⟨rfl, hb⟩
      exact ⟨⟨none, 0, rfl, ⟨fun _ => [], fun j hj => absurd hj (by simp), fun j hj => absurd hj (by simp)⟩⟩, hb⟩
    | false =>
      have e : ons t d = [d] := by rw [ons, if_neg hr, if_neg (by rw [hn]; simp)]
      rw [e]
      refine (ones_one t d hr hn a c al cl af cf W).mono ?_
      rintro e w1 ⟨⟨g, rfl, hge, hg⟩, hb⟩
      exact ⟨⟨_, 1, rfl, one_lies hg (fun e => by have := hv g e.symm; omega) (hl.keep hb) (hf.keep hb)⟩, hb⟩
end Go.Proofs.YtdpedailookcjaaDoor

namespace Go.Proofs.YtdpedailookcjaaDoor
open Go.RowKit
/-- What values promises at a node, with the way that is left. -/
def ValP (t : Tr) (q : List Tr) (d : Dt) : Prop := ∀ (N : Nat) (a : Option Addr) (c : Nat) (al : Option Addr) (cl : Nat) (af : Option Addr) (cf : Nat) (pa : Option Addr) (pc : Nat) (v : Value) (vs : List Vl) (W : World), N ≤ W.heap.size → VsR W N v vs → LiesN W (fun b => some b ≠ v.ownBlock) a t.sub → LiesD W (fun b => some b ≠ v.ownBlock) al d.l → LiesD W (fun b => some b ≠ v.ownBlock) af d.f → LiesO W v pa (i64s (q.map Tr.id)) → q.length ≤ pc → vs.length + ((ons t d).flatMap (vo t q)).length ≤ 20000 →
  Calls Tryd.prog 32 #[v, nodeV t a c, datumV d al cl af cf, .slice pa q.length pc] W fun e w' => ∃ v', e = .returned v' ∧ VsR w' N v' (vs ++ (ons t d).flatMap (vo t q)) ∧ VsK W v w' v'
theorem vsK_grow {w w2 : World} {ob : Obj} {v v2 : Value} (hg : (w.alloc ob).grownBy w2 v.ownBlock) (hw : v2.ownBlock = v.ownBlock ∧ v.ownBlock ≠ none ∨ v2.ownBlock = some (w.alloc ob).heap.size) : VsK w v w2 v2 := by
  have hs := hg.size
  simp only [World.size_alloc] at hs
  refine ⟨((Below.refl 0 w).alloc (Nat.zero_le _) ob).grown hg (Nat.zero_le _) (fun k _ => Nat.zero_le _), by omega, fun k hk hn => ?_, ?_⟩
  · rw [hg.block k (by simp; omega) hn, heap_alloc_old w ob hk]
  · rcases hw with ⟨e, _⟩ | e
    · exact .inl e
    · exact .inr ⟨_, e, by simp⟩
theorem flat_take {α β : Type} (f : α → List β) (l : List α) (i : Nat) (h : i < l.length) : (l.take (i + 1)).flatMap f = (l.take i).flatMap f ++ f l[i] := by
  rw [List.take_succ_eq_append_getElem h, List.flatMap_append]
  simp
theorem flat_part {α β : Type} (f : α → List β) (l : List α) (i : Nat) : ((l.take i).flatMap f).length ≤ (l.flatMap f).length := by
  have h : l.flatMap f = (l.take i).flatMap f ++ (l.drop i).flatMap f := by rw [← List.flatMap_append, List.take_append_drop]
  rw [h, List.length_append]
  omega
set_option maxRecDepth 100000 in
set_option maxHeartbeats 3200000 in
theorem values_leaf (t : Tr) (d : Dt) (hol : (ons t d).length ≤ 1048576) : ValP t [] d := fun N a c al cl af cf pa pc v vs W hN hv hl hd1 hd2 hp hpc hm => by
  obtain ⟨iv, hvi, hv0, hv1, hv2⟩ := info_parts Tryd.infoV
  obtain ⟨w0, HW0, HX, HY, HB⟩ := two_boxesS W #[.int .i64 t.id, .string t.nm, .int .i64 t.rep, .int .i64 t.kind, .slice a t.sub.length c] #[.bool d.no, .int .i64 d.v.k, .int .i64 d.v.n, .string d.v.s, .slice al d.l.length cl, .slice af d.f.length cf] 24 55
  have hvl : ∀ k, v.ownBlock = some k → k < W.heap.size := fun k hk => (hv.lt k hk).2
  have hsz := HB.out.size
  have HC : Hid _ := ones_any t d a c al cl af cf v w0 (fun k hk => by have := hvl k hk; omega) (hd1.keep HB.out) (hd2.keep HB.out)
  have HV0 : Hid (VsR w0 N v vs) := ow_kept hv HB.out
  obtain ⟨va, vc, rfl⟩ := own_sl hv
  obtain ⟨⟨p0, p1, p2, p3, p4⟩, _⟩ := row_five HX.out
  obtain ⟨z0, z1, z2, z3, z4, z5⟩ := row_six HY.out
  obtain ⟨ol, HOL⟩ := hid_name (ons t d)
  rw [HOL.out] at hol hm HC ⊢
  have HM : Hid _ := hm
  clear hv hl hd1 hd2 hp hvl hm
  rw [show (([] : List Tr).length) = 0 from rfl]
  unfold nodeV datumV
  go_enter Tryd.func32, Tryd.ntmps32
  go_wp2_with fail
  rw [HW0.out]
  refine Calls.mono HC.out ?_
  rintro e w1 ⟨⟨oa, oc, rfl, hol1⟩, hb1⟩
  have HB1 : Hid (Below W.heap.size W w1) := HB.out.trans (hb1.mono hsz)
  have HL1 : Hid (LiesD w1 (fun b => some b ≠ (Value.slice va vs.length vc).ownBlock) oa ol) := hol1
  have HV1 : Hid (VsR w1 N (.slice va vs.length vc) vs) := ow_kept HV0.out hb1
  have hsz1 := HB1.out.size
  clear hb1 hol1 p0 p1 p2 p3 p4 z0 z1 z2 z3 z4 z5 HC
  go_wp2_with fail
  go_loopw [0, 16] (fun lv x wr => ∃ i : Nat, i ≤ ol.length ∧ x = .int .i64 i ∧ Hid (VsR wr N lv (vs ++ (ol.take i).flatMap (vo t []))) ∧ Hid (VsK w1 (.slice va vs.length vc) wr lv)) (fun _ x _ => ol.length - (intOf x).toNat)
  case atStart => exact ⟨0, Nat.zero_le _, rfl, (by show VsR _ _ _ _; simpa using HV1.out), VsK.refl _ _⟩
  case round =>
    obtain ⟨i, hi, rfl, HR, HK⟩ := hrel
    obtain ⟨xa, xc, rfl⟩ := own_sl HR.out
    have hks := HK.out.size
    by_cases hlt : i < ol.length
    · obtain ⟨b, o, a1, c1, a2, c2, rfl, ⟨d0, e1, d2, d3, d4, d5⟩, hl1, hl2⟩ := (HK.out.data HL1.out).at_ i hlt
      clear hl1 hl2
      obtain ⟨xs, HXS⟩ := hid_name (vs ++ (ol.take i).flatMap (vo t []))
      rw [HXS.out] at HR HK ⊢
      have hxl : xs.length < 20000 := (by
        have h1 := flat_part (vo t []) ol (i + 1)
        rw [flat_take (vo t []) ol i hlt, vo, List.length_append, List.length_singleton] at h1
        have h2 := HM.out
        rw [← HXS.out, List.length_append]
        omega)
      have HNX : Hid (xs ++ [ol[i].v] = vs ++ (ol.take (i + 1)).flatMap (vo t [])) := (by show _ = _; rw [← HXS.out, flat_take (vo t []) ol i hlt, vo, List.append_assoc])
      have hb2 : Below wr.heap.size wr (wr.alloc (.cells #[.bool ol[i].no, .int .i64 ol[i].v.k, .int .i64 ol[i].v.n, .string ol[i].v.s, .slice a1 ol[i].l.length c1, .slice a2 ol[i].f.length c2] 55)) := (Below.refl _ _).alloc (Nat.le_refl _) _
      have HR2 : Hid (VsR (wr.alloc (.cells #[.bool ol[i].no, .int .i64 ol[i].v.k, .int .i64 ol[i].v.n, .string ol[i].v.s, .slice a1 ol[i].l.length c1, .slice a2 ol[i].f.length c2] 55)) N (.slice xa xs.length xc) xs) := ow_kept HR.out hb2
      have HK2 : Hid (VsK w1 (.slice va vs.length vc) (wr.alloc (.cells #[.bool ol[i].no, .int .i64 ol[i].v.k, .int .i64 ol[i].v.n, .string ol[i].v.s, .slice a1 ol[i].l.length c1, .slice a2 ol[i].f.length c2] 55)) (.slice xa xs.length xc)) := HK.out.trans (VsK.below _ hb2)
      have hvcl := vcells_len xs
      clear hb2
      go_wp2_with (at_builtin; refine wpList_append_where _ rfl _ _ 39 rfl N 53 iv (.agg #[.int .i64 0, .int .i64 0, .string ⟨#[]⟩]) 3 32 Tryd.underlying39 hvi hv0 hv1 hv2 rfl (by decide) _ xs.length (vcells xs) rfl (HR2.out.alloc _) ⟨wr.heap.size + 1, 0, none⟩ 1 1 [.int .i64 ol[i].v.k, .int .i64 ol[i].v.n, .string ol[i].v.s] rfl rfl (by intro j u hu; have h := tri_cells (w := wr.alloc (.cells #[.bool ol[i].no, .int .i64 ol[i].v.k, .int .i64 ol[i].v.n, .string ol[i].v.s, .slice a1 ol[i].l.length c1, .slice a2 ol[i].f.length c2] 55)) (T := 53) j u hu; simpa using h) (by intro u hu; simp at hu; rcases hu with rfl | rfl | rfl <;> rfl) (by unfold maxLen; omega) (by omega) (by simp; omega) (by decide) ?_; intro x2 w2 hown2 hgrow2 hw2; have HK3 : Hid (VsK w1 (.slice va vs.length vc) w2 x2) := HK2.out.trans (vsK_grow hgrow2 hw2); have HR3 : Hid (VsR w2 N x2 (vs ++ (ol.take (i + 1)).flatMap (vo t []))) := (by show VsR _ _ _ _; rw [← HNX.out]; unfold VsR; rw [vcells_app, List.length_append]; exact hown2); clear hown2 hgrow2 hw2)
      go_roundw
      case rel => exact ⟨i + 1, by omega, by go_num, HR3, HK3⟩
      case measure => simp [intOf]; omega
    · obtain rfl : i = ol.length := by omega
      rw [List.take_length] at HR HK ⊢
      go_wp2
      go_ret
      exact ⟨_, rfl, HR.out, (VsK.below _ HB1.out).trans HK.out⟩
end Go.Proofs.YtdpedailookcjaaDoor

namespace Go.Proofs.YtdpedailookcjaaDoor
open Go.RowKit
/-- What is left of a way, behind its first step. -/
theorem liesO_tail {w : World} {v : Value} {pa : Option Addr} {x : Int} {xs : List Int} {pc : Nat} (h : LiesO w v pa (i64s (x :: xs))) (hc : xs.length + 1 ≤ pc) {y : Option Addr} (hy : (if pc = 1 then pa else Option.map (fun x => x.add 1) pa) = y) : LiesO w v y (i64s xs) := by
  have h1 := lies_cut h.1 1 (xs.length + 1) pc (by rw [i64s_len]; simp) (by rw [i64s_len]; simpa using hc) (x := y) (by rw [← hy])
  refine ⟨?_, fun p hp => ?_⟩
  · have e : cutL (i64s (x :: xs)) 1 (xs.length + 1) = i64s xs := by
      have hl : (i64s (x :: xs)).length = xs.length + 1 := by rw [i64s_len]; rfl
      unfold cutL
      rw [List.take_of_length_le (by omega)]
      rfl
    rw [e] at h1
    exact h1
  · rw [← hy] at hp
    split at hp
    · exact h.2 p hp
    · cases hpa : pa with
      | none => rw [hpa] at hp; simp at hp
      | some p0 =>
        rw [hpa] at hp
        simp only [Option.map_some, Option.some.injEq] at hp
        have := h.2 p0 hpa
        rw [← hp]
        exact this
set_option maxRecDepth 100000 in
set_option maxHeartbeats 3200000 in
theorem values_step (t x : Tr) (q : List Tr) (d : Dt) (hol : (ons t d).length ≤ 1048576) (hts : t.sub.length ≤ 1048576) (hc : Chn t (x :: q)) (hfl : ∀ o ∈ ons t d, ixO t.sub x.id < o.f.length ∧ o.f.length ≤ 1048576) (ih : ∀ o ∈ ons t d, ValP x q (o.f.getD (ixO t.sub x.id) default)) : ValP t (x :: q) d := fun N a c al cl af cf pa pc v vs W hN hv hl hd1 hd2 hp hpc hm => by
  obtain ⟨w0, HW0, HX, HY, HB⟩ := two_boxesS W #[.int .i64 t.id, .string t.nm, .int .i64 t.rep, .int .i64 t.kind, .slice a t.sub.length c] #[.bool d.no, .int .i64 d.v.k, .int .i64 d.v.n, .string d.v.s, .slice al d.l.length cl, .slice af d.f.length cf] 24 55
  have hvl : ∀ k, v.ownBlock = some k → k < W.heap.size := fun k hk => (hv.lt k hk).2
  have HVB : Hid (some W.heap.size ≠ v.ownBlock) := fun e => by have := hvl _ e.symm; omega
  have hsz := HB.out.size
  have HC : Hid _ := ones_any t d a c al cl af cf v w0 (fun k hk => by have := hvl k hk; omega) (hd1.keep HB.out) (hd2.keep HB.out)
  have HV0 : Hid (VsR w0 N v vs) := ow_kept hv HB.out
  have HL : Hid (LiesN W (fun b => some b ≠ v.ownBlock) a t.sub) := hl
  have HP : Hid (LiesO W v pa (i64s ((x :: q).map Tr.id))) := hp
  obtain ⟨va, vc, rfl⟩ := own_sl hv
  obtain ⟨⟨p0, p1, p2, p3, p4⟩, _⟩ := row_five HX.out
  obtain ⟨z0, z1, z2, z3, z4, z5⟩ := row_six HY.out
  have HF : Hid _ := hfl
  have HI : Hid _ := ih
  obtain ⟨hk0, ⟨ix, hix, hxe, hxf⟩, hcq⟩ := hc
  clear hk0 hcq
  have HIX : Hid (ixO t.sub x.id = ix) := ixO_at hix hxe hxf
  have HXE : Hid (t.sub[ix] = x) := hxe
  have HXF : Hid _ := hxf
  obtain ⟨ol, HOL⟩ := hid_name (ons t d)
  rw [HIX.out, HOL.out] at HF HI
  have HM : Hid (vs.length + (ol.flatMap (vo t (x :: q))).length ≤ 20000) := (by rw [← HOL.out]; exact hm)
  rw [HOL.out] at hol HC ⊢
  clear hv hl hd1 hd2 hp hvl hm hfl ih hxe hxf
  have hpl : ((x :: q).length) = q.length + 1 := rfl
  rw [hpl] at hpc ⊢
  have q0 : (((q.length + 1 : Nat) : Int) == 0) = false := by rw [beq_eq_false_iff_ne]; omega
  obtain ⟨pb, hif⟩ : ∃ y, (if pc = 1 then pa else Option.map (fun x => x.add 1) pa) = y := ⟨_, rfl⟩
  unfold nodeV datumV
  go_enter Tryd.func32, Tryd.ntmps32
  go_wp2_with fail
  rw [HW0.out]
  refine Calls.mono HC.out ?_
  rintro e w1 ⟨⟨oa, oc, rfl, hol1⟩, hb1⟩
  have HB1 : Hid (Below W.heap.size W w1) := HB.out.trans (hb1.mono hsz)
  have HL1 : Hid (LiesD w1 (fun b => some b ≠ (Value.slice va vs.length vc).ownBlock) oa ol) := hol1
  have HV1 : Hid (VsR w1 N (.slice va vs.length vc) vs) := ow_kept HV0.out hb1
  have HX1 : Hid _ := blk_keep hb1 HX.out
  have hsz1 := HB1.out.size
  clear hb1 hol1 p0 p1 p2 p3 p4 z0 z1 z2 z3 z4 z5 HC
  go_wp2_with fail
  go_loopw [0, 16] (fun lv x' wr => ∃ i : Nat, i ≤ ol.length ∧ x' = .int .i64 i ∧ Hid (VsR wr N lv (vs ++ (ol.take i).flatMap (vo t (x :: q)))) ∧ Hid (VsK w1 (.slice va vs.length vc) wr lv)) (fun _ x _ => ol.length - (intOf x).toNat)
  case atStart => exact ⟨0, Nat.zero_le _, rfl, (by show VsR _ _ _ _; simpa using HV1.out), VsK.refl _ _⟩
  case round =>
    obtain ⟨i, hi, rfl, HR, HK⟩ := hrel
    obtain ⟨xa, xc, rfl⟩ := own_sl HR.out
    have hks := HK.out.size
    by_cases hlt : i < ol.length
    · obtain ⟨xs, HXS⟩ := hid_name (vs ++ (ol.take i).flatMap (vo t (x :: q)))
      rw [HXS.out] at HR HK ⊢
      obtain ⟨b, o, a1, c1, a2, c2, rfl, ⟨d0, e1, d2, d3, d4, d5⟩, hl1, hl2⟩ := (HK.out.data HL1.out).at_ i hlt
      have hmem := List.getElem_mem hlt
      obtain ⟨hfx, hfb⟩ := HF.out ol[i] hmem
      have hih := HI.out ol[i] hmem
      rw [getD_at hfx] at hih
      have HVO : Hid (vo t (x :: q) ol[i] = (ons x ol[i].f[ix]).flatMap (vo x q)) := (by show _ = _; rw [vo, HIX.out, getD_at hfx])
      have HXL : Hid (xs.length + ((ons x ol[i].f[ix]).flatMap (vo x q)).length ≤ 20000) := (by
        show _ ≤ _
        have h1 := flat_part (vo t (x :: q)) ol (i + 1)
        rw [flat_take (vo t (x :: q)) ol i hlt, HVO.out, List.length_append] at h1
        have h2 := HM.out
        rw [← HXS.out, List.length_append]
        omega)
      have HNX : Hid (xs ++ (ons x ol[i].f[ix]).flatMap (vo x q) = vs ++ (ol.take (i + 1)).flatMap (vo t (x :: q))) := (by show _ = _; rw [← HXS.out, flat_take (vo t (x :: q)) ol i hlt, HVO.out, List.append_assoc])
      have hb2 : Below wr.heap.size wr (wr.alloc (.cells #[.bool ol[i].no, .int .i64 ol[i].v.k, .int .i64 ol[i].v.n, .string ol[i].v.s, .slice a1 ol[i].l.length c1, .slice a2 ol[i].f.length c2] 55)) := (Below.refl _ _).alloc (Nat.le_refl _) _
      have HR2 : Hid (VsR (wr.alloc (.cells #[.bool ol[i].no, .int .i64 ol[i].v.k, .int .i64 ol[i].v.n, .string ol[i].v.s, .slice a1 ol[i].l.length c1, .slice a2 ol[i].f.length c2] 55)) N (.slice xa xs.length xc) xs) := ow_kept HR.out hb2
      have HK2 : Hid (VsK w1 (.slice va vs.length vc) (wr.alloc (.cells #[.bool ol[i].no, .int .i64 ol[i].v.k, .int .i64 ol[i].v.n, .string ol[i].v.s, .slice a1 ol[i].l.length c1, .slice a2 ol[i].f.length c2] 55)) (.slice xa xs.length xc)) := HK.out.trans (VsK.below _ hb2)
      have HO2 : Hid ((wr.alloc (.cells #[.bool ol[i].no, .int .i64 ol[i].v.k, .int .i64 ol[i].v.n, .string ol[i].v.s, .slice a1 ol[i].l.length c1, .slice a2 ol[i].f.length c2] 55)).heap[wr.heap.size]? = some (.cells #[.bool ol[i].no, .int .i64 ol[i].v.k, .int .i64 ol[i].v.n, .string ol[i].v.s, .slice a1 ol[i].l.length c1, .slice a2 ol[i].f.length c2] 55 (0, 0))) := heap_alloc_new _ _
      have HF2 : Hid (LiesD (wr.alloc (.cells #[.bool ol[i].no, .int .i64 ol[i].v.k, .int .i64 ol[i].v.n, .string ol[i].v.s, .slice a1 ol[i].l.length c1, .slice a2 ol[i].f.length c2] 55)) (fun b => some b ≠ (Value.slice xa xs.length xc).ownBlock) a2 ol[i].f) := hl2.keep hb2
      obtain ⟨w2, HW2⟩ := hid_name (wr.alloc (.cells #[.bool ol[i].no, .int .i64 ol[i].v.k, .int .i64 ol[i].v.n, .string ol[i].v.s, .slice a1 ol[i].l.length c1, .slice a2 ol[i].f.length c2] 55))
      rw [HW2.out] at HR2 HK2 HO2 HF2
      clear hb2 hl1 hl2
      go_upto_region 4 with fail
      rw [HW2.out]
      clear HW2 d0 e1 d2 d3 d4 d5
      have HX2 : Hid _ := HK2.out.blk HX1.out HVB.out
      have HN2 : Hid (LiesN w2 (fun b => some b ≠ (Value.slice xa xs.length xc).ownBlock) a t.sub) := HK2.out.nodes (HL.out.keep HB1.out)
      have HP2 : Hid (LiesO w2 (.slice xa xs.length xc) pa (i64s ((x :: q).map Tr.id))) := HK2.out.ints ((VsK.below _ HB1.out).ints HP.out)
      obtain ⟨⟨p0, p1, p2, p3, p4⟩, _⟩ := row_five HX2.out
      obtain ⟨pg, po, rfl, pp0⟩ := HP2.out.1 0 (by simp [i64s])
      have pp : w2.cell? ⟨pg, po, none⟩ = some (.int .i64 x.id) := by simpa [i64s] using pp0
      clear pp0
      have HCp : Hid (∀ X, Below w2.heap.size w2 X → Calls Tryd.prog 50 #[.agg #[.int .i64 t.id, .string t.nm, .int .i64 t.rep, .int .i64 t.kind, .slice a t.sub.length c], .int .i64 x.id] X fun e w' => e = .returned (.int .i64 (ix : Nat)) ∧ Below X.heap.size X w') := fun X hX => placeOf_at t hts x.id ix hix (by rw [HXE.out]) HXF.out _ a c X (HN2.out.keep hX)
      have qp : (0 : Nat) < q.length + 1 := by omega
      have hone : (1 : Int) ≤ (q.length : Int) + 1 := by omega
      have hone2 : (1 : Nat) ≤ pc := by omega
      obtain ⟨po2, hif2, hpb⟩ : ∃ po2 : Nat, (if pc = 1 then some (⟨pg, po, none⟩ : Addr) else some ⟨pg, po + 1, none⟩) = some ⟨pg, po2, none⟩ ∧ pb = some ⟨pg, po2, none⟩ := (by
        by_cases h1 : pc = 1
        · exact ⟨po, by rw [if_pos h1], by rw [← hif, if_pos h1]⟩
        · exact ⟨po + 1, by rw [if_neg h1], by rw [← hif, if_neg h1]; simp [Addr.add]⟩)
      have HIF : Hid _ := hif
      clear hif
      subst hpb
      go_wp2
      have HN6 : Hid (∀ X, Below w2.heap.size w2 X → (X.cell? ⟨W.heap.size, 0, none⟩ = some (.int .i64 t.id) ∧ X.cell? ⟨W.heap.size, 1, none⟩ = some (.string t.nm) ∧ X.cell? ⟨W.heap.size, 2, none⟩ = some (.int .i64 t.rep) ∧ X.cell? ⟨W.heap.size, 3, none⟩ = some (.int .i64 t.kind) ∧ X.cell? ⟨W.heap.size, 4, none⟩ = some (.slice a t.sub.length c) ∧ X.cell? ⟨pg, po, none⟩ = some (.int .i64 x.id)) ∧ Below w2.heap.size w2 X) := fun X hX => (by
        have k : ∀ (ad : Addr) (u : Value), w2.cell? ad = some u → X.cell? ad = some u := fun ad u h => (hX.cell (World.block_lt_of_cell? w2 _ h)).trans h
        exact ⟨⟨k _ _ p0, k _ _ p1, k _ _ p2, k _ _ p3, k _ _ p4, k _ _ pp⟩, hX⟩)
      have b6 : Below w2.heap.size w2 w2 := Below.refl _ _
      go_region_held3 (fun X => (X.cell? ⟨W.heap.size, 0, none⟩ = some (.int .i64 t.id) ∧ X.cell? ⟨W.heap.size, 1, none⟩ = some (.string t.nm) ∧ X.cell? ⟨W.heap.size, 2, none⟩ = some (.int .i64 t.rep) ∧ X.cell? ⟨W.heap.size, 3, none⟩ = some (.int .i64 t.kind) ∧ X.cell? ⟨W.heap.size, 4, none⟩ = some (.slice a t.sub.length c) ∧ X.cell? ⟨pg, po, none⟩ = some (.int .i64 x.id)) ∧ Below w2.heap.size w2 X) (first | (with_reducible refine HN6.out _ ?_; repeat' (first | with_reducible assumption | with_reducible exact b6.drew | with_reducible exact b6))) (first | (go_at_call 50; refine Calls.mono (HCp.out _ (by first | exact (Below.refl _ _).drew | exact Below.refl _ _)) ?_; rintro e w3 ⟨rfl, hb3'⟩; have hb3 : Below w2.heap.size w2 w3 := (Below.refl _ _).drew.trans hb3'; clear hb3'))
      have HK3 : Hid (VsK w1 (.slice va vs.length vc) w3 (.slice xa xs.length xc)) := HK2.out.trans (VsK.below _ hb3)
      have HR3 : Hid (VsR w3 N (.slice xa xs.length xc) xs) := ow_kept HR2.out hb3
      have HO3 : Hid _ := blk_keep hb3 HO2.out
      have HX3 : Hid _ := blk_keep hb3 HX2.out
      obtain ⟨⟨r0, r1, r2, r3, r4⟩, _⟩ := row_five HX3.out
      obtain ⟨y0, y1, y2, y3, y4, y5⟩ := row_six HO3.out
      obtain ⟨nb, no, na, nc, hna, n0, n1, n2, n3, n4, hn5⟩ := (HN2.out.keep hb3).at_ ix hix
      subst hna
      rw [HXE.out] at n0 n1 n2 n3 n4 hn5
      obtain ⟨fb, fo, fa1, fc1, fa2, fc2, hfa, ⟨g0, g1, g2, g3, g4, g5⟩, hf1, hf2⟩ := (HF2.out.keep hb3).at_ ix hfx
      subst hfa
      have hsz3 := HK3.out.size
      have HC3 : Hid _ := hih N na nc fa1 fc1 fa2 fc2 (some ⟨pg, po2, none⟩) (pc - 1) (.slice xa xs.length xc) xs w3.drew (by simp; omega) (ow_kept HR3.out (Below.refl _ _).drew) (hn5.keep (Below.refl _ _).drew) (hf1.keep (Below.refl _ _).drew) (hf2.keep (Below.refl _ _).drew) (liesO_tail ((VsK.below _ hb3.drew).ints HP2.out) (by rw [List.length_map]; exact hpc) HIF.out) (by omega) HXL.out
      clear p0 p1 p2 p3 p4 pp hn5 hf1 hf2 hih
      go_wp2
      go_region_with (go_at_call 32; refine Calls.mono HC3.out ?_; rintro e w4 ⟨v4, rfl, hr4, hk4⟩)
      all_goals
        have HK4 : Hid (VsK w1 (.slice va vs.length vc) w4 v4) := (HK3.out.trans (VsK.below _ (Below.refl _ _).drew)).trans hk4
        have HR4 : Hid (VsR w4 N v4 (vs ++ (ol.take (i + 1)).flatMap (vo t (x :: q)))) := (by show VsR _ _ _ _; rw [← HNX.out]; exact hr4)
        clear hr4 hk4 r0 r1 r2 r3 r4 y0 y1 y2 y3 y4 y5 n0 n1 n2 n3 n4 g0 g1 g2 g3 g4 g5
        go_wp2
        go_roundw
        case rel => exact ⟨i + 1, by omega, by go_num, HR4, HK4⟩
        case measure => simp [intOf]; omega
    · obtain rfl : i = ol.length := by omega
      rw [List.take_length] at HR HK ⊢
      go_wp2
      go_ret
      exact ⟨_, rfl, HR.out, (VsK.below _ HB1.out).trans HK.out⟩
end Go.Proofs.YtdpedailookcjaaDoor

namespace Go.Proofs.YtdpedailookcjaaDoor
open Go.RowKit
theorem addr_add0 (a : Addr) : a.add 0 = a := by
  obtain ⟨b, o, r⟩ := a
  unfold Addr.add
  split <;> simp_all
theorem blk_drew {w : World} {g : Nat} {o : Obj} (h : w.heap[g]? = some o) : w.drew.heap[g]? = some o := h
set_option maxRecDepth 100000 in
set_option maxHeartbeats 12800000 in
theorem part_any (lid kind mr md lo hi : Int) (pa : Option Addr) (pn pc : Nat) (c : Cl) (W : World) (st kt bt : TypeId) (sp kp bp : Value)
    (hn : c.rs.length ≤ 1048576) (hn2 : c.ds.length ≤ 1048576) (hv : c.vs.length ≤ 1048576) (hcr : c.rs.length ≤ c.rc) (hcd : c.ds.length ≤ c.dc) (hcv : c.vs.length ≤ c.vc)
    (hs : W.cell? ⟨2, 0, none⟩ = some (.iface st sp)) (hk : W.cell? ⟨3, 0, none⟩ = some (.iface kt kp)) (hbd : W.cell? ⟨0, 0, none⟩ = some (.iface bt bp)) (hat : c.At W) :
    Calls Tryd.prog 18 #[leafV lid kind mr md pa pn pc, c.val, .int .i64 lo, .int .i64 hi] W fun e w' => PtRet W.heap.size lid kind mr md c lo hi (.iface st sp) (.iface kt kp) (.iface bt bp) e w' ∧ Below W.heap.size W w' := by
  unfold leafV Cl.val colV
  obtain ⟨w0, HW0, HX, HY, HZ, HB⟩ := three_boxes W #[.int .i64 lid, .int .i64 kind, .int .i64 mr, .int .i64 md, .slice pa pn pc] #[.int .i64 c.id, .slice c.ra c.rs.length c.rc, .slice c.da c.ds.length c.dc, .slice c.va c.vs.length c.vc] #[.int .i64 0, .slice none 0 0, .slice none 0 0, .slice none 0 0] 45 41 41
  have HI0 : Hid (PtI W lid kind mr md pa pn pc c w0) := ⟨HX.out, HY.out, HZ.out, HB.out⟩
  have HAT : Hid (∀ X, PtI W lid kind mr md pa pn pc c X → c.At X) := fun X hX => hat.keep hX.old
  have HS : Hid (∀ X, PtI W lid kind mr md pa pn pc c X → X.cell? ⟨2, 0, none⟩ = some (.iface st sp)) := fun X hX => ckB hs hX.old
  have HK : Hid (∀ X, PtI W lid kind mr md pa pn pc c X → X.cell? ⟨3, 0, none⟩ = some (.iface kt kp)) := fun X hX => ckB hk hX.old
  have HBD : Hid (∀ X, PtI W lid kind mr md pa pn pc c X → X.cell? ⟨0, 0, none⟩ = some (.iface bt bp)) := fun X hX => ckB hbd hX.old
  have HLE : Hid (∀ X, PtI W lid kind mr md pa pn pc c X → W.heap.size + 1 + 1 + 1 ≤ X.heap.size) := fun X hX => lt_of_block hX.re
  have hgN : 0 < W.heap.size := World.block_lt_of_cell? W _ hbd
  have hgN1 : ¬ (0 = W.heap.size + 1 + 1) := by omega
  have hgN2 : ¬ (W.heap.size = 0) := by omega
  have hgN3 : ¬ (W.heap = #[]) := fun h => hgN2 (by rw [h]; rfl)
  clear hat hs hk hbd HX HY HZ HB hgN
  obtain ⟨⟨p0, p1, p2, p3, p4⟩, _⟩ := row_five HI0.out.lf
  obtain ⟨k0, k1, k2, k3⟩ := row_four HI0.out.co
  go_enter Tryd.func18, Tryd.ntmps18
  go_wp2_with fail
  rw [HW0.out]
  refine (scheck_any lid kind mr md c.id pa c.ra c.da c.va pn pc c.rc c.dc c.vc c.rs c.ds c.vs w0 st kt sp kp hn hn2 hv (HS.out _ HI0.out) (HK.out _ HI0.out) (HAT.out _ HI0.out).r (HAT.out _ HI0.out).d (HAT.out _ HI0.out).v).mono ?_
  rintro e w1 ⟨hck, hb1⟩
  have HI1 : Hid (PtI W lid kind mr md pa pn pc c w1) := HI0.out.keep (hb1.mono (HLE.out _ HI0.out))
  clear hb1 p0 p1 p2 p3 p4 k0 k1 k2 k3
  obtain ⟨⟨p0, p1, p2, p3, p4⟩, _⟩ := row_five HI1.out.lf
  obtain ⟨k0, k1, k2, k3⟩ := row_four HI1.out.co
  obtain ⟨z0, z1, z2, z3⟩ := row_four HI1.out.re
  obtain ⟨f0, f1, f2, f3⟩ := row_fourA HI1.out.re
  rcases hck with ⟨hb, rfl⟩ | ⟨hg, ⟨hall, rfl⟩ | ⟨p, hp, hbad, hf, q, hqn, rfl, hq0, hq1⟩⟩
  · have HG : Hid _ := hb
    clear hb
    go_wp2
    exact bodyPost_ret (v := .tuple #[zeroC, .iface st sp]) (results_cR Tryd.results18 _ _ (W.heap.size + 1 + 1) 41 #[.int .i64 0, .slice none 0 0, .slice none 0 0, .slice none 0 0] (0, 0) _ (.iface st sp) rfl rfl (row_setCell (row_setCell (row_setCell (row_setCell HI1.out.re _) _) _) _) Tryd.underlying41 rfl (by kernel_rfl)) rfl ⟨.inl (.inl ⟨HG.out, rfl⟩), (((HI1.out.old.setCell (by simp; omega) _).setCell (by simp; omega) _).setCell (by simp; omega) _).setCell (by simp; omega) _⟩
  · have HGood : Hid (GoodC lid kind mr md c) := ⟨hg, hall⟩
    clear hg hall
    have hbe := HBD.out _ HI1.out
    by_cases h1 : lo < 0
    · have HNo : Hid (¬ (0 ≤ lo ∧ lo ≤ hi ∧ hi ≤ (cntE 0 c.rs : Nat))) := (by show ¬ _; omega)
      have q1 : decide (lo < 0) = true := decide_eq_true h1
      clear h1
      go_wp2_with fail
      go_region
      all_goals
        go_wp2
        exact bodyPost_ret (v := .tuple #[zeroC, .iface bt bp]) (results_cR Tryd.results18 _ _ (W.heap.size + 1 + 1) 41 #[.int .i64 0, .slice none 0 0, .slice none 0 0, .slice none 0 0] (0, 0) _ (.iface bt bp) rfl rfl (blk_drew (row_setCell (row_setCell (row_setCell (row_setCell HI1.out.re _) _) _) _)) Tryd.underlying41 rfl (by kernel_rfl)) rfl ⟨.inr (.inl ⟨HGood.out, HNo.out, rfl⟩), ((((HI1.out.old.setCell (by simp; omega) _).setCell (by simp; omega) _).setCell (by simp; omega) _).setCell (by simp; omega) _).drew⟩
    · by_cases h2 : hi < lo
      · have HNo : Hid (¬ (0 ≤ lo ∧ lo ≤ hi ∧ hi ≤ (cntE 0 c.rs : Nat))) := (by show ¬ _; omega)
        have q1 : decide (lo < 0) = false := decide_eq_false h1
        have q2 : decide (hi < lo) = true := decide_eq_true h2
        clear h1 h2
        go_wp2_with fail
        go_region
        all_goals
          go_wp2
          exact bodyPost_ret (v := .tuple #[zeroC, .iface bt bp]) (results_cR Tryd.results18 _ _ (W.heap.size + 1 + 1) 41 #[.int .i64 0, .slice none 0 0, .slice none 0 0, .slice none 0 0] (0, 0) _ (.iface bt bp) rfl rfl (blk_drew (row_setCell (row_setCell (row_setCell (row_setCell HI1.out.re _) _) _) _)) Tryd.underlying41 rfl (by kernel_rfl)) rfl ⟨.inr (.inl ⟨HGood.out, HNo.out, rfl⟩), ((((HI1.out.old.setCell (by simp; omega) _).setCell (by simp; omega) _).setCell (by simp; omega) _).setCell (by simp; omega) _).drew⟩
      · have q1 : decide (lo < 0) = false := decide_eq_false h1
        have q2 : decide (hi < lo) = false := decide_eq_false h2
        go_wp2_with fail
        refine (count_any c.id c.ra c.rs c.rc c.da c.ds.length c.dc c.va c.vs.length c.vc hn w1 (HAT.out _ HI1.out).r).mono ?_
        rintro e w2 ⟨rfl, hb2⟩
        have HI2 : Hid (PtI W lid kind mr md pa pn pc c w2) := HI1.out.keep (hb2.mono (HLE.out _ HI1.out))
        clear hb2 p0 p1 p2 p3 p4 k0 k1 k2 k3 z0 z1 z2 z3 f0 f1 f2 f3 hbe
        obtain ⟨⟨p0, p1, p2, p3, p4⟩, _⟩ := row_five HI2.out.lf
        obtain ⟨k0, k1, k2, k3⟩ := row_four HI2.out.co
        obtain ⟨z0, z1, z2, z3⟩ := row_four HI2.out.re
        obtain ⟨f0, f1, f2, f3⟩ := row_fourA HI2.out.re
        have hbe := HBD.out _ HI2.out
        by_cases h3 : (cntE 0 c.rs : Nat) < hi
        · have HNo : Hid (¬ (0 ≤ lo ∧ lo ≤ hi ∧ hi ≤ (cntE 0 c.rs : Nat))) := (by show ¬ _; omega)
          have q3 : decide (((cntE 0 c.rs : Nat) : Int) < hi) = true := decide_eq_true h3
          clear h1 h2 h3
          go_wp2_with fail
          go_region
          all_goals
            go_wp2
            exact bodyPost_ret (v := .tuple #[zeroC, .iface bt bp]) (results_cR Tryd.results18 _ _ (W.heap.size + 1 + 1) 41 #[.int .i64 0, .slice none 0 0, .slice none 0 0, .slice none 0 0] (0, 0) _ (.iface bt bp) rfl rfl (blk_drew (row_setCell (row_setCell (row_setCell (row_setCell HI2.out.re _) _) _) _)) Tryd.underlying41 rfl (by kernel_rfl)) rfl ⟨.inr (.inl ⟨HGood.out, HNo.out, rfl⟩), ((((HI2.out.old.setCell (by simp; omega) _).setCell (by simp; omega) _).setCell (by simp; omega) _).setCell (by simp; omega) _).drew⟩
        · have HYes : Hid (0 ≤ lo ∧ lo ≤ hi ∧ hi ≤ (cntE 0 c.rs : Nat)) := (by show _ ∧ _; omega)
          have q3 : decide (((cntE 0 c.rs : Nat) : Int) < hi) = false := decide_eq_false h3
          clear h1 h2 h3
          go_upto_region 6 with fail
          go_cut [11, 12] (fun x y wx => ∃ a b : Nat, x = .int .i64 a ∧ y = .int .i64 b ∧ Hid (StAt c.rs lo a) ∧ Hid (StAt c.rs hi b) ∧ Hid (PtI W lid kind mr md pa pn pc c wx))
          case first =>
            have b0 : Below (W.heap.size + 1 + 1 + 1) w2 w2 := Below.refl _ _
            have hsz := HLE.out _ HI2.out
            have HN : Hid (∀ X, Below (W.heap.size + 1 + 1 + 1) w2 X → (X.cell? ⟨W.heap.size, 0, none⟩ = some (.int .i64 lid) ∧ X.cell? ⟨W.heap.size, 1, none⟩ = some (.int .i64 kind) ∧ X.cell? ⟨W.heap.size, 2, none⟩ = some (.int .i64 mr) ∧ X.cell? ⟨W.heap.size, 3, none⟩ = some (.int .i64 md) ∧ X.cell? ⟨W.heap.size, 4, none⟩ = some (.slice pa pn pc)) ∧ (X.cell? ⟨W.heap.size + 1, 0, none⟩ = some (.int .i64 c.id) ∧ X.cell? ⟨W.heap.size + 1, 1, none⟩ = some (.slice c.ra c.rs.length c.rc) ∧ X.cell? ⟨W.heap.size + 1, 2, none⟩ = some (.slice c.da c.ds.length c.dc) ∧ X.cell? ⟨W.heap.size + 1, 3, none⟩ = some (.slice c.va c.vs.length c.vc)) ∧ Below (W.heap.size + 1 + 1 + 1) w2 X) := fun X hX => ⟨(row_five ((hX.block _ (by omega)).trans HI2.out.lf)).1, row_four ((hX.block _ (by omega)).trans HI2.out.co), hX⟩
            have HCall : Hid (∀ (z : Int) X, Below (W.heap.size + 1 + 1 + 1) w2 X → Calls Tryd.prog 33 #[.agg #[.int .i64 c.id, .slice c.ra c.rs.length c.rc, .slice c.da c.ds.length c.dc, .slice c.va c.vs.length c.vc], .int .i64 z] X fun e w' => (∃ a : Nat, e = .returned (.int .i64 a) ∧ StAt c.rs z a) ∧ Below (W.heap.size + 1 + 1 + 1) w2 w') := fun z X hX => (startOf_any c.id z c.ra c.rs c.rc c.da c.ds.length c.dc c.va c.vs.length c.vc hn X (HAT.out _ (HI2.out.keep hX)).r).mono fun e w' h => ⟨h.1, bel_next hX hsz h.2⟩
            go_region_held3 (fun X => (X.cell? ⟨W.heap.size, 0, none⟩ = some (.int .i64 lid) ∧ X.cell? ⟨W.heap.size, 1, none⟩ = some (.int .i64 kind) ∧ X.cell? ⟨W.heap.size, 2, none⟩ = some (.int .i64 mr) ∧ X.cell? ⟨W.heap.size, 3, none⟩ = some (.int .i64 md) ∧ X.cell? ⟨W.heap.size, 4, none⟩ = some (.slice pa pn pc)) ∧ (X.cell? ⟨W.heap.size + 1, 0, none⟩ = some (.int .i64 c.id) ∧ X.cell? ⟨W.heap.size + 1, 1, none⟩ = some (.slice c.ra c.rs.length c.rc) ∧ X.cell? ⟨W.heap.size + 1, 2, none⟩ = some (.slice c.da c.ds.length c.dc) ∧ X.cell? ⟨W.heap.size + 1, 3, none⟩ = some (.slice c.va c.vs.length c.vc)) ∧ Below (W.heap.size + 1 + 1 + 1) w2 X) (with_reducible refine HN.out _ ?_; repeat' (first | with_reducible assumption | with_reducible exact b0.drew | with_reducible exact b0)) (first | (go_at_call 33; (with_reducible refine Calls.mono (HCall.out lo _ ?_) ?_); (first | with_reducible assumption | with_reducible exact b0.drew); rintro e xa ⟨⟨a, rfl, ha⟩, hba⟩; have HSA : Hid _ := ha; clear ha) | (go_at_call 33; (with_reducible refine Calls.mono (HCall.out hi _ ?_) ?_); (first | with_reducible assumption | with_reducible exact b0.drew); rintro e xb ⟨⟨b, rfl, hb⟩, hbb⟩; have HSB : Hid _ := hb; clear hb))
            all_goals
              go_wp2_with fail
              go_meet
              exact ⟨a, b, rfl, rfl, HSA, HSB, HI2.out.keep (by first | exact hbb | exact hba)⟩
          case rest =>
            obtain ⟨a, b, rfl, rfl, HSA, HSB, HI3⟩ := hcut
            clear p0 p1 p2 p3 p4 k0 k1 k2 k3 z0 z1 z2 z3 f0 f1 f2 f3 hbe HI2 HI1 HI0
            obtain ⟨hfid, hfl, _, _, _, hfv⟩ := fitB_iff.1 (show fitB lid mr md c.id c.rs c.ds c.vs.length = true from by have h := HGood.out.1; simp at h; exact h.2)
            have HLn : Hid (c.rs.length = c.ds.length) := hfl
            have HVn : Hid (c.vs.length = cntE md c.ds) := hfv
            have HFid : Hid (c.id = lid) := hfid
            clear hfl hfv hfid
            have hab : a ≤ b := HSA.out.le HSB.out HYes.out.2.1
            have hbl : b ≤ c.ds.length := by rw [← HLn.out]; exact HSB.out.1
            have hbr : b ≤ c.rs.length := HSB.out.1
            go_upto_region 7 with fail
            go_cut [13] (fun x wx => x = .int .i64 (cntE md (c.ds.take a) : Nat) ∧ Hid (PtI W lid kind mr md pa pn pc c wx))
            case first =>
              have b0 : Below (W.heap.size + 1 + 1 + 1) wc wc := Below.refl _ _
              have hsz := HLE.out _ HI3.out
              have HN : Hid (∀ X, Below (W.heap.size + 1 + 1 + 1) wc X → (X.cell? ⟨W.heap.size, 0, none⟩ = some (.int .i64 lid) ∧ X.cell? ⟨W.heap.size, 1, none⟩ = some (.int .i64 kind) ∧ X.cell? ⟨W.heap.size, 2, none⟩ = some (.int .i64 mr) ∧ X.cell? ⟨W.heap.size, 3, none⟩ = some (.int .i64 md) ∧ X.cell? ⟨W.heap.size, 4, none⟩ = some (.slice pa pn pc)) ∧ (X.cell? ⟨W.heap.size + 1, 0, none⟩ = some (.int .i64 c.id) ∧ X.cell? ⟨W.heap.size + 1, 1, none⟩ = some (.slice c.ra c.rs.length c.rc) ∧ X.cell? ⟨W.heap.size + 1, 2, none⟩ = some (.slice c.da c.ds.length c.dc) ∧ X.cell? ⟨W.heap.size + 1, 3, none⟩ = some (.slice c.va c.vs.length c.vc)) ∧ Below (W.heap.size + 1 + 1 + 1) wc X) := fun X hX => ⟨(row_five ((hX.block _ (by omega)).trans HI3.out.lf)).1, row_four ((hX.block _ (by omega)).trans HI3.out.co), hX⟩
              have qa : ((a : Nat) : Int) ≤ (c.dc : Int) := by omega
              have qb : (0 : Int) ≤ ((a : Nat) : Int) := by omega
              have HV7 : Hid (Calls Tryd.prog 34 #[.agg #[.int .i64 lid, .int .i64 kind, .int .i64 mr, .int .i64 md, .slice pa pn pc], .slice c.da a c.dc] wc.drew fun e w' => e = .returned (.int .i64 (cntE md (c.ds.take a) : Nat)) ∧ Below (W.heap.size + 1 + 1 + 1) wc w') := (valuesOf_n lid kind mr md pa pn pc c.da a c.dc (c.ds.take a) (by simp; omega) wc.drew (by
                have h := lies_cut ((HAT.out _ HI3.out).d) 0 a c.dc (by rw [i64s_len]; omega) (by rw [i64s_len]; omega) (x := c.da) (by cases c.da <;> simp [addr_add0])
                rw [← i64s_cut] at h
                exact h.keep (Below.refl _ _).drew) (by simp; omega)).mono fun e w' h => ⟨h.1, bel_next b0.drew hsz h.2⟩
              go_region_held3 (fun X => (X.cell? ⟨W.heap.size, 0, none⟩ = some (.int .i64 lid) ∧ X.cell? ⟨W.heap.size, 1, none⟩ = some (.int .i64 kind) ∧ X.cell? ⟨W.heap.size, 2, none⟩ = some (.int .i64 mr) ∧ X.cell? ⟨W.heap.size, 3, none⟩ = some (.int .i64 md) ∧ X.cell? ⟨W.heap.size, 4, none⟩ = some (.slice pa pn pc)) ∧ (X.cell? ⟨W.heap.size + 1, 0, none⟩ = some (.int .i64 c.id) ∧ X.cell? ⟨W.heap.size + 1, 1, none⟩ = some (.slice c.ra c.rs.length c.rc) ∧ X.cell? ⟨W.heap.size + 1, 2, none⟩ = some (.slice c.da c.ds.length c.dc) ∧ X.cell? ⟨W.heap.size + 1, 3, none⟩ = some (.slice c.va c.vs.length c.vc)) ∧ Below (W.heap.size + 1 + 1 + 1) wc X) (with_reducible refine HN.out _ ?_; repeat' (first | with_reducible assumption | with_reducible exact b0.drew | with_reducible exact b0)) (first | (go_at_call 34; (with_reducible refine Calls.mono HV7.out ?_); rintro e xv ⟨rfl, hbv⟩))
              all_goals
                go_wp2_with fail
                go_meet
                exact ⟨rfl, HI3.out.keep hbv⟩
            case rest =>
              obtain ⟨hx4, HI4⟩ := hcut
              obtain ⟨v1, HV1⟩ : ∃ v, Hid (cntE md (c.ds.take a) = v) := ⟨_, rfl⟩
              obtain ⟨v2, HV2⟩ : ∃ v, Hid (cntE md (c.ds.take b) = v) := ⟨_, rfl⟩
              rw [HV1.out] at hx4
              subst hx4
              clear HI3
              rename World => wd
              go_upto_region 8 with fail
              go_cut [14] (fun x wx => x = .int .i64 (v2 : Nat) ∧ Hid (PtI W lid kind mr md pa pn pc c wx))
              case first =>
                have b0 : Below (W.heap.size + 1 + 1 + 1) wd wd := Below.refl _ _
                have hsz := HLE.out _ HI4.out
                have HN : Hid (∀ X, Below (W.heap.size + 1 + 1 + 1) wd X → (X.cell? ⟨W.heap.size, 0, none⟩ = some (.int .i64 lid) ∧ X.cell? ⟨W.heap.size, 1, none⟩ = some (.int .i64 kind) ∧ X.cell? ⟨W.heap.size, 2, none⟩ = some (.int .i64 mr) ∧ X.cell? ⟨W.heap.size, 3, none⟩ = some (.int .i64 md) ∧ X.cell? ⟨W.heap.size, 4, none⟩ = some (.slice pa pn pc)) ∧ (X.cell? ⟨W.heap.size + 1, 0, none⟩ = some (.int .i64 c.id) ∧ X.cell? ⟨W.heap.size + 1, 1, none⟩ = some (.slice c.ra c.rs.length c.rc) ∧ X.cell? ⟨W.heap.size + 1, 2, none⟩ = some (.slice c.da c.ds.length c.dc) ∧ X.cell? ⟨W.heap.size + 1, 3, none⟩ = some (.slice c.va c.vs.length c.vc)) ∧ Below (W.heap.size + 1 + 1 + 1) wd X) := fun X hX => ⟨(row_five ((hX.block _ (by omega)).trans HI4.out.lf)).1, row_four ((hX.block _ (by omega)).trans HI4.out.co), hX⟩
                have qa : ((a : Nat) : Int) ≤ ((b : Nat) : Int) := by omega
                have qc : ((b : Nat) : Int) ≤ (c.dc : Int) := by omega
                have qb : (0 : Int) ≤ ((a : Nat) : Int) := by omega
                have HCt : Hid (v2 = v1 + cntE md (cutL c.ds a b)) := (by show _ = _; rw [← HV1.out, ← HV2.out]; exact cntE_cut md c.ds a b hab)
                obtain ⟨v3, HV3⟩ : ∃ v, Hid (cntE md (cutL c.ds a b) = v) := ⟨_, rfl⟩
                rw [HV3.out] at HCt
                obtain ⟨x8, hif8⟩ : ∃ x, (if c.dc = a then c.da else Option.map (fun x => x.add a) c.da) = x := ⟨_, rfl⟩
                have HV8 : Hid (Calls Tryd.prog 34 #[.agg #[.int .i64 lid, .int .i64 kind, .int .i64 mr, .int .i64 md, .slice pa pn pc], .slice x8 (b - a) (c.dc - a)] wd.drew fun e w' => e = .returned (.int .i64 (v3 : Nat)) ∧ Below (W.heap.size + 1 + 1 + 1) wd w') := (valuesOf_n lid kind mr md pa pn pc _ (b - a) _ (cutL c.ds a b) (by rw [cutL_len _ _ _ hbl]; omega) wd.drew (by
                  have h := lies_cut ((HAT.out _ HI4.out).d) a b c.dc (by rw [i64s_len]; omega) (by rw [i64s_len]; omega) (x := x8) (by rw [← hif8]; simp)
                  rw [← i64s_cut] at h
                  exact h.keep (Below.refl _ _).drew) (by rw [cutL_len _ _ _ hbl])).mono fun e w' h => ⟨by rw [← HV3.out]; exact h.1, bel_next b0.drew hsz h.2⟩
                have hu2 := cntE_le md c.ds b
                have hu3 : v1 + v3 ≤ 1048576 := by rw [← HCt.out, ← HV2.out]; omega
                clear hu2
                have hwr : IntKind.i64.wrap ((v1 : Int) + (v3 : Int)) = (v1 : Int) + (v3 : Int) := by rw [IntKind.wrap_i64]; omega
                go_region_held3 (fun X => (X.cell? ⟨W.heap.size, 0, none⟩ = some (.int .i64 lid) ∧ X.cell? ⟨W.heap.size, 1, none⟩ = some (.int .i64 kind) ∧ X.cell? ⟨W.heap.size, 2, none⟩ = some (.int .i64 mr) ∧ X.cell? ⟨W.heap.size, 3, none⟩ = some (.int .i64 md) ∧ X.cell? ⟨W.heap.size, 4, none⟩ = some (.slice pa pn pc)) ∧ (X.cell? ⟨W.heap.size + 1, 0, none⟩ = some (.int .i64 c.id) ∧ X.cell? ⟨W.heap.size + 1, 1, none⟩ = some (.slice c.ra c.rs.length c.rc) ∧ X.cell? ⟨W.heap.size + 1, 2, none⟩ = some (.slice c.da c.ds.length c.dc) ∧ X.cell? ⟨W.heap.size + 1, 3, none⟩ = some (.slice c.va c.vs.length c.vc)) ∧ Below (W.heap.size + 1 + 1 + 1) wd X) (with_reducible refine HN.out _ ?_; repeat' (first | with_reducible assumption | with_reducible exact b0.drew | with_reducible exact b0)) (first | (go_at_call 34; (with_reducible refine Calls.mono HV8.out ?_); rintro e xv ⟨rfl, hbv⟩))
                all_goals
                  go_wp2_with fail
                  go_meet
                  exact ⟨by rw [HCt.out]; simp, HI4.out.keep hbv⟩
              case rest =>
                obtain ⟨rfl, HI5⟩ := hcut
                clear HI4
                rename World => we
                have hv12 : v1 ≤ v2 := by rw [← HV1.out, ← HV2.out]; exact cntE_mono md c.ds hab
                have hv2n : v2 ≤ c.vs.length := by rw [HVn.out, ← HV2.out]; exact cntE_all md c.ds b
                have b0 : Below (W.heap.size + 1 + 1) we we := Below.refl _ _
                have hsz := HLE.out _ HI5.out
                have HN : Hid (∀ X, Below (W.heap.size + 1 + 1) we X → (X.cell? ⟨W.heap.size, 0, none⟩ = some (.int .i64 lid) ∧ X.cell? ⟨W.heap.size, 1, none⟩ = some (.int .i64 kind) ∧ X.cell? ⟨W.heap.size, 2, none⟩ = some (.int .i64 mr) ∧ X.cell? ⟨W.heap.size, 3, none⟩ = some (.int .i64 md) ∧ X.cell? ⟨W.heap.size, 4, none⟩ = some (.slice pa pn pc)) ∧ (X.cell? ⟨W.heap.size + 1, 0, none⟩ = some (.int .i64 c.id) ∧ X.cell? ⟨W.heap.size + 1, 1, none⟩ = some (.slice c.ra c.rs.length c.rc) ∧ X.cell? ⟨W.heap.size + 1, 2, none⟩ = some (.slice c.da c.ds.length c.dc) ∧ X.cell? ⟨W.heap.size + 1, 3, none⟩ = some (.slice c.va c.vs.length c.vc)) ∧ Below (W.heap.size + 1 + 1) we X) := fun X hX => ⟨(row_five ((hX.block _ (by omega)).trans HI5.out.lf)).1, row_four ((hX.block _ (by omega)).trans HI5.out.co), hX⟩
                have qa : ((a : Nat) : Int) ≤ ((b : Nat) : Int) := by omega
                have qc : ((b : Nat) : Int) ≤ (c.dc : Int) := by omega
                have qd : ((b : Nat) : Int) ≤ (c.rc : Int) := by omega
                have qb : (0 : Int) ≤ ((a : Nat) : Int) := by omega
                have qe : ((v1 : Nat) : Int) ≤ ((v2 : Nat) : Int) := by omega
                have qf : ((v2 : Nat) : Int) ≤ (c.vc : Int) := by omega
                have qg : (0 : Int) ≤ ((v1 : Nat) : Int) := by omega
                obtain ⟨x1, hif1⟩ : ∃ x, (if c.rc = a then c.ra else Option.map (fun x => x.add a) c.ra) = x := ⟨_, rfl⟩
                obtain ⟨x2, hif2⟩ : ∃ x, (if c.dc = a then c.da else Option.map (fun x => x.add a) c.da) = x := ⟨_, rfl⟩
                obtain ⟨x3, hif3⟩ : ∃ x, (if c.vc = v1 then c.va else Option.map (fun x => x.add (v1 * 3)) c.va) = x := ⟨_, rfl⟩
                have hsz2 : W.heap.size + 1 + 1 ≤ we.heap.size := by omega
                have HV9 : Hid (Calls Tryd.prog 26 #[.agg #[.int .i64 lid, .int .i64 kind, .int .i64 mr, .int .i64 md, .slice pa pn pc], .slice (some ⟨we.heap.size, 0, none⟩) 1 1] (we.alloc (.cells #[.int .i64 0, .slice x1 (b - a) (c.rc - a), .slice x2 (b - a) (c.dc - a), .slice x3 (v2 - v1) (c.vc - v1)] 41)).drew fun e w' => (∃ k : Cl, e = .returned (.agg #[.int .i64 k.id, .slice k.ra k.rs.length k.rc, .slice k.da k.ds.length k.dc, .slice k.va k.vs.length k.vc]) ∧ k.At w' ∧ k.Fr we.heap.size ∧ k.id = lid ∧ k.rs = cutL c.rs a b ∧ k.ds = cutL c.ds a b ∧ k.vs = cutL c.vs v1 v2) ∧ Below we.heap.size we w') := (by
                  have hbx : Below we.heap.size we (we.alloc (.cells #[.int .i64 0, .slice x1 (b - a) (c.rc - a), .slice x2 (b - a) (c.dc - a), .slice x3 (v2 - v1) (c.vc - v1)] 41)).drew := ((Below.refl _ _).alloc (Nat.le_refl _) _).drew
                  have hAt := HAT.out _ HI5.out
                  have l1 := (lies_cut hAt.r a b c.rc (by rw [i64s_len]; omega) (by rw [i64s_len]; omega) (x := x1) (by rw [← hif1]; simp)).keep hbx
                  have l2 := (lies_cut hAt.d a b c.dc (by rw [i64s_len]; omega) (by rw [i64s_len]; omega) (x := x2) (by rw [← hif2]; simp)).keep hbx
                  have l3 := (liesV_cut hAt.v v1 v2 c.vc (by omega) (by omega) (x := x3) (by rw [← hif3])).keep hbx
                  rw [← i64s_cut] at l1 l2
                  obtain ⟨y0, y1, y2, y3⟩ := row_four (blk_drew (heap_alloc_new we (.cells #[.int .i64 0, .slice x1 (b - a) (c.rc - a), .slice x2 (b - a) (c.dc - a), .slice x3 (v2 - v1) (c.vc - v1)] 41)))
                  have hj := joined_n lid kind mr md pa pn pc (some ⟨we.heap.size, 0, none⟩) 1 1 [⟨0, x1, cutL c.rs a b, c.rc - a, x2, cutL c.ds a b, c.dc - a, x3, cutL c.vs v1 v2, c.vc - v1⟩] (we.alloc (.cells #[.int .i64 0, .slice x1 (b - a) (c.rc - a), .slice x2 (b - a) (c.dc - a), .slice x3 (v2 - v1) (c.vc - v1)] 41)).drew (by simp) (by simp [jR, cutL_len _ _ _ hbr]; omega) (by simp [jD, cutL_len _ _ _ hbl]; omega) (by simp [jV, cutL_len _ _ _ hv2n]; omega) (fun j hj => by
                    obtain rfl : j = 0 := by simp at hj; omega
                    refine ⟨⟨we.heap.size, 0, rfl, y0, ?_, ?_, ?_⟩, l1, l2, l3⟩
                    · show _ = some (Value.slice x1 (cutL c.rs a b).length (c.rc - a))
                      rw [cutL_len _ _ _ hbr]; exact y1
                    · show _ = some (Value.slice x2 (cutL c.ds a b).length (c.dc - a))
                      rw [cutL_len _ _ _ hbl]; exact y2
                    · show _ = some (Value.slice x3 (cutL c.vs v1 v2).length (c.vc - v1))
                      rw [cutL_len _ _ _ hv2n]; exact y3) rfl
                  refine hj.mono fun e w' h => ?_
                  obtain ⟨⟨k, e0, e1, e2, e3, e4, e5, e6⟩, e7⟩ := h
                  exact ⟨⟨k, e0, e1, ⟨fun p hp => Nat.le_trans hbx.size (e2.r p hp), fun p hp => Nat.le_trans hbx.size (e2.d p hp), fun p hp => Nat.le_trans hbx.size (e2.v p hp)⟩, e3, by simpa [jR] using e4, by simpa [jD] using e5, by simpa [jV] using e6⟩, hbx.trans (e7.mono hbx.size)⟩)
                go_wp2_with fail
                go_region_held3 (fun X => (X.cell? ⟨W.heap.size, 0, none⟩ = some (.int .i64 lid) ∧ X.cell? ⟨W.heap.size, 1, none⟩ = some (.int .i64 kind) ∧ X.cell? ⟨W.heap.size, 2, none⟩ = some (.int .i64 mr) ∧ X.cell? ⟨W.heap.size, 3, none⟩ = some (.int .i64 md) ∧ X.cell? ⟨W.heap.size, 4, none⟩ = some (.slice pa pn pc)) ∧ (X.cell? ⟨W.heap.size + 1, 0, none⟩ = some (.int .i64 c.id) ∧ X.cell? ⟨W.heap.size + 1, 1, none⟩ = some (.slice c.ra c.rs.length c.rc) ∧ X.cell? ⟨W.heap.size + 1, 2, none⟩ = some (.slice c.da c.ds.length c.dc) ∧ X.cell? ⟨W.heap.size + 1, 3, none⟩ = some (.slice c.va c.vs.length c.vc)) ∧ Below (W.heap.size + 1 + 1) we X) (with_reducible refine HN.out _ ?_; repeat' (first | with_reducible assumption | with_reducible exact b0.drew | with_reducible exact b0 | with_reducible exact (b0.alloc hsz2 _).drew | with_reducible refine Below.setCell ?_ ?_ _ | with_reducible refine Below.alloc ?_ ?_ _ | with_reducible exact Below.size (by assumption) | (simp; done) | (simp; omega) | omega)) (first | (go_at_call 26; (with_reducible refine Calls.mono HV9.out ?_); rintro e xj ⟨⟨⟨kid, kra, krs, krc, kda, kds, kdc, kva, kvs, kvc⟩, rfl, kat, kfr, rfl, rfl, rfl, rfl⟩, hbj⟩; have hbk : Below (W.heap.size + 1 + 1) we xj := hbj.mono hsz2; have HKA : Hid _ := kat; have HKF : Hid _ := kfr; have HBJ : Hid _ := hbj; clear kat kfr hbj; obtain ⟨z0, z1, z2, z3⟩ := row_four (blk_keep HBJ.out HI5.out.re); obtain ⟨f0, f1, f2, f3⟩ := row_fourA (blk_keep HBJ.out HI5.out.re)))
                all_goals
                  go_wp2
                  have hgN : W.heap.size + 1 + 1 < we.heap.size := by omega
                  have hol : Below W.heap.size W xj := HI5.out.old.trans (HBJ.out.mono (by omega))
                  exact bodyPost_ret (v := .tuple #[.agg #[.int .i64 kid, .slice kra (cutL c.rs a b).length krc, .slice kda (cutL c.ds a b).length kdc, .slice kva (cutL c.vs v1 v2).length kvc], .nilIface]) (results_cR Tryd.results18 _ _ (W.heap.size + 1 + 1) 41 #[.int .i64 kid, .slice kra (cutL c.rs a b).length krc, .slice kda (cutL c.ds a b).length kdc, .slice kva (cutL c.vs v1 v2).length kvc] (0, 0) _ .nilIface rfl rfl (row_setCell (row_setCell (row_setCell (row_setCell (blk_keep HBJ.out HI5.out.re) _) _) _) _) Tryd.underlying41 rfl (by kernel_rfl)) rfl ⟨.inr (.inr ⟨HGood.out, HYes.out, ⟨kid, kra, cutL c.rs a b, krc, kda, cutL c.ds a b, kdc, kva, cutL c.vs v1 v2, kvc⟩, a, b, rfl, (((HKA.out.off HKF.out hgN).off HKF.out hgN).off HKF.out hgN).off HKF.out hgN, HKF.out.low HI5.out.old.size, HSA.out, HSB.out, rfl, rfl, rfl, by rw [HV1.out, HV2.out]⟩), (((hol.setCell (by simp; omega) _).setCell (by simp; omega) _).setCell (by simp; omega) _).setCell (by simp; omega) _⟩
  · have HG : Hid _ := hg
    have HQ0 : Hid _ := hq0
    have HQ1 : Hid _ := hq1
    have HBa : Hid _ := hbad
    have HF : Hid _ := hf
    have HQN : Hid (W.heap.size + 1 + 1 < q) := (by have := HLE.out _ HI0.out; show _ < _; omega)
    clear hg hq0 hq1 hbad hf hqn
    go_wp2
    have hoff : ∀ (X : World) (o j : Nat) (v : Value), (X.setCell ⟨W.heap.size + 1 + 1, j, none⟩ v).cell? ⟨q, o, none⟩ = X.cell? ⟨q, o, none⟩ := fun X o j v => cell_off (by have := HQN.out; omega)
    exact bodyPost_ret (v := .tuple #[zeroC, .iface 70 (.pointer (some ⟨q, 0, none⟩))]) (results_cR Tryd.results18 _ _ (W.heap.size + 1 + 1) 41 #[.int .i64 0, .slice none 0 0, .slice none 0 0, .slice none 0 0] (0, 0) _ (.iface 70 (.pointer (some ⟨q, 0, none⟩))) rfl rfl (row_setCell (row_setCell (row_setCell (row_setCell HI1.out.re _) _) _) _) Tryd.underlying41 rfl (by kernel_rfl)) rfl ⟨.inl (.inr ⟨HG.out, p, hp, HBa.out, HF.out, q, (by have := HQN.out; omega), rfl, by rw [hoff, hoff, hoff, hoff]; exact HQ0.out, by rw [hoff, hoff, hoff, hoff]; exact HQ1.out⟩), (((HI1.out.old.setCell (by simp; omega) _).setCell (by simp; omega) _).setCell (by simp; omega) _).setCell (by simp; omega) _⟩
end Go.Proofs.YtdpedailookcjaaDoor
