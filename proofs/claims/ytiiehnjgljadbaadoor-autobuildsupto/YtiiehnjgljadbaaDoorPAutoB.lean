/-
  auto.Build of a right schema.
-/
import Derived.Test.YtiiehnjgljadbaaDoorPAutoL2
import Derived.Test.YtiiehnjgljadbaaDoorPBValid
namespace Go.Proofs.YtiiehnjgljadbaaDoor
open Go.RowKit
/-- A cell of a block of another type is set. -/
theorem LiI.set {w : World} {pa : Option Addr} {xs : List Int} {g j : Nat} {cs : Array Value} {T : TypeId} {z : Nat × Nat} {x : Value} (h : LiI w pa xs) (hg : w.heap[g]? = some (.cells cs T z)) (hT : T ≠ 3) : LiI (w.setCell ⟨g, j, none⟩ x) pa xs := by
  have hk : ∀ p, pa = some p → (w.setCell ⟨g, j, none⟩ x).heap[p.block]? = w.heap[p.block]? := fun p hp => by
    obtain ⟨cs', z', hc⟩ := h.2 p hp
    refine Below.heap_setCell _ _ _ _ fun e => ?_
    have e2 : p.block = g := e
    rw [e2, hg] at hc
    injection hc with hc
    injection hc with _ hc _
    exact hT hc
  refine ⟨fun j hj => ?_, fun p hp => by obtain ⟨cs, z, hc⟩ := h.2 p hp; exact ⟨cs, z, (hk p hp).trans hc⟩⟩
  obtain ⟨b, o, rfl, hc⟩ := h.1 j hj
  refine ⟨b, o, rfl, ?_⟩
  have e := hk _ rfl
  simp only [World.cell?] at hc ⊢
  rw [e]
  exact hc
theorem RowO.set {N : Nat} {w : World} {lv : Value} {L : List (List Int)} {svs : List Value} {g j : Nat} {cs : Array Value} {T : TypeId} {z : Nat × Nat} {x : Value} (h : RowO N w lv L svs) (hg : w.heap[g]? = some (.cells cs T z)) (hT : T ≠ 3) (hT2 : T ≠ 39) : RowO N (w.setCell ⟨g, j, none⟩ x) lv L svs := by
  refine ⟨own_same h.1 fun k hk => ?_, h.2.1, fun j hj => by obtain ⟨pa, pc, e, hl, hm⟩ := h.2.2 j hj; exact ⟨pa, pc, e, hl.set hg hT, hm⟩⟩
  refine Below.heap_setCell _ _ _ _ fun e => ?_
  have e2 : k = g := e
  subst e2
  exact own_type h.1 hg (Ne.symm hT2) hk.symm
mutual
theorem lsT_mem (ab : List Int) : ∀ (t : Tr) (l : List Int), l ∈ lsT ab t → l.length ≤ ab.length + t.cnt
  | .node id nm rep kind sub, l, h => by
    rw [lsT] at h
    rw [Tr.cnt]
    have e : (if rep = 3 then ab ++ [id] else ab).length ≤ ab.length + 1 := by split <;> simp
    split at h
    · have := lsL_mem _ sub l h
      omega
    · simp only [List.mem_singleton] at h
      rw [h]
      omega
theorem lsL_mem (ab : List Int) : ∀ (ts : List Tr) (l : List Int), l ∈ lsL ab ts → l.length ≤ ab.length + cntL ts
  | [], l, h => by simp [lsL] at h
  | t :: ts, l, h => by
    rw [lsL, List.mem_append] at h
    rw [cntL]
    rcases h with h | h
    · have := lsT_mem ab t l h; omega
    · have := lsL_mem ab ts l h; omega
end
/-- What Build's loop holds. -/
structure BuI (w2 : World) (L : List (List Int)) (wr : World) (i : Nat) (l : Value) (svs : List Value) : Prop where
  box : wr.heap[w2.heap.size]? = some (.cells #[l] 30 (0, 0))
  row : RowO (w2.heap.size + 1) wr l ((List.range i).map (nxtR L)) svs
  old : Below w2.heap.size w2 wr
theorem BuI.box3 {w2 : World} {L : List (List Int)} {wr w1 w3 : World} {i : Nat} {l : Value} {svs : List Value} {ob : Obj} (h : BuI w2 L wr i l svs) (hb : Below wr.heap.size wr w1) (hg : (w1.alloc ob).grownBy w3 l.ownBlock) : w3.heap[w2.heap.size]? = some (.cells #[l] 30 (0, 0)) := by
  have hba : Below w1.heap.size w1 (w1.alloc ob) := (Below.refl _ _).alloc (Nat.le_refl _) ob
  have hbb : Below wr.heap.size wr (w1.alloc ob) := hb.trans (hba.mono hb.size)
  have hlt := lt_of_block h.box
  have hsz := hbb.size
  rw [hg.block _ (by omega) (fun e => by have := (own_block h.row.1 e.symm).1; omega)]
  exact blk_keep hbb h.box
theorem BuI.push {w2 : World} {L : List (List Int)} {wr w1 w3 : World} {i pc : Nat} {l l' : Value} {pa : Option Addr} {svs : List Value} {ob : Obj} (h : BuI w2 L wr i l svs) (hb : Below wr.heap.size wr w1) (hi : LiI w1 pa (nxtR L i)) (hm : (nxtR L i).length ≤ 1000)
    (hown : w3.ownsRow (w2.heap.size + 1) 39 1 l' (i + 1) (svs ++ [.slice pa (nxtR L i).length pc])) (hg : (w1.alloc ob).grownBy w3 l.ownBlock) : BuI w2 L (w3.setCell ⟨w2.heap.size, 0, none⟩ l') (i + 1) l' (svs ++ [.slice pa (nxtR L i).length pc]) := by
  have hba : Below w1.heap.size w1 (w1.alloc ob) := (Below.refl _ _).alloc (Nat.le_refl _) ob
  have hbb : Below wr.heap.size wr (w1.alloc ob) := hb.trans (hba.mono hb.size)
  have hlt := lt_of_block h.box
  have hsz := hbb.size
  have hbox := h.box3 hb hg
  have hro := (h.row.keep hbb).push (L2 := [nxtR L i]) (svs2 := [.slice pa (nxtR L i).length pc]) rfl (fun j hj => by
    obtain rfl : j = 0 := by simpa using hj
    exact ⟨pa, pc, rfl, hi.keep hba, hm⟩) (by simpa using hown) hg
  have e : (List.range (i + 1)).map (nxtR L) = (List.range i).map (nxtR L) ++ [nxtR L i] := by rw [List.range_succ, List.map_append]; rfl
  refine ⟨?_, ?_, ?_⟩
  · rw [row_setC hbox]; rfl
  · rw [e]; exact hro.set hbox (by decide) (by decide)
  · have h1 : Below w2.heap.size w2 w3 := (h.old.trans (hbb.mono h.old.size)).grown hg (by have := h.old.size; omega) (fun k hk => by have := (own_block h.row.1 hk).1; omega)
    exact h1.setCell (Nat.le_refl _) _
set_option maxRecDepth 100000 in
set_option maxHeartbeats 6400000 in
theorem build_right (t : Tr) (n : Nat) (hd : t.Dp n) (hn : n ≤ 1100000) (hs : t.Sm) (hr : vldN t = 0) (hcnt : t.cnt ≤ 900) (a : Option Addr) (c : Nat) (P : Nat → Prop) (W : World) (hl : LiesN W P a t.sub) (hcap : t.sub.length ≤ c) (eb es en : TypeId × Value)
    (hgb : W.cell? ⟨0, 0, none⟩ = some (.iface eb.1 eb.2)) (hgs : W.cell? ⟨1, 0, none⟩ = some (.iface es.1 es.2)) (hgn : W.cell? ⟨2, 0, none⟩ = some (.iface en.1 en.2)) :
    Calls Tryd.prog 7 #[nodeV t a c] W fun e w' => (∃ la lc, e = .returned (.tuple #[.agg #[.slice la (lsT [] t).length lc], .nilIface]) ∧ LstR w' la ((List.range (lsT [] t).length).map (nxtR (lsT [] t)))) ∧ Below W.heap.size W w' := by
  obtain ⟨iv, hvi, hv0, hv1, hv2⟩ := info_parts Tryd.infoIs
  obtain ⟨w0, HW0, HX, HM, HB⟩ := two_boxesS W #[.int .i64 t.id, .string t.nm, .int .i64 t.rep, .int .i64 t.kind, .slice a t.sub.length c] #[.slice none 0 0] 24 30
  have hb := HB.out
  have HV := valid_any t n hd hn hs a c P w0 (hl.keep hb) hcap eb es en ((hb.cell (World.block_lt_of_cell? W _ hgb)).trans hgb) ((hb.cell (World.block_lt_of_cell? W _ hgs)).trans hgs) ((hb.cell (World.block_lt_of_cell? W _ hgn)).trans hgn)
  rw [vldV_nil hr] at HV
  have HV : Hid _ := HV
  have HL : Hid (LiesN W P a t.sub) := hl
  have HSm : Hid t.Sm := hs
  clear hl hd hs hb hgb hgs hgn hr
  go_enter Tryd.func7, Tryd.ntmps7
  go_wp2_with fail
  rw [HW0.out]
  refine Calls.mono HV.out ?_
  rintro e w1 ⟨rfl, hb1⟩
  have HB1 : Hid (Below W.heap.size W w1) := HB.out.trans (hb1.mono HB.out.size)
  have HX1 : Hid (w1.heap[W.heap.size]? = some (.cells #[.int .i64 t.id, .string t.nm, .int .i64 t.rep, .int .i64 t.kind, .slice a t.sub.length c] 24 (0, 0))) := blk_keep hb1 HX.out
  have HM1 : Hid (w1.heap[W.heap.size + 1]? = some (.cells #[.slice none 0 0] 30 (0, 0))) := blk_keep hb1 HM.out
  clear hb1 HV
  have m0 : w1.cell? ⟨W.heap.size + 1, 0, none⟩ = some (.slice none 0 0) := by simp [World.cell?, HM1.out]
  obtain ⟨⟨p0, p1, p2, p3, p4⟩, _⟩ := row_five HX1.out
  have HC : Hid _ := listsAround_any (SizeOf.sizeOf t + 1) t (Nat.lt_succ_self _) HSm.out [] (by simp; omega) none 0 a c P w1 (HL.out.keep HB1.out) ⟨fun j hj => absurd hj (by simp [i64s]), fun p hp => by simp at hp⟩
  go_wp2_with fail
  refine Calls.mono HC.out ?_
  rintro e w2 ⟨⟨la, lc, rfl, hlst⟩, hb2⟩
  have HLs : Hid (LstR w2 la (lsT [] t)) := hlst
  have HB2 : Hid (Below W.heap.size W w2) := HB1.out.trans (hb2.mono HB1.out.size)
  have HM2 : Hid (w2.heap[W.heap.size + 1]? = some (.cells #[.slice none 0 0] 30 (0, 0))) := blk_keep hb2 HM1.out
  clear hlst hb2 HC
  have hll : (lsT [] t).length ≤ 1000 := by have := lsT_len [] t; omega
  have HMem : Hid (∀ k, k < (lsT [] t).length → (nxtR (lsT [] t) k).length ≤ 1000) := fun k hk => (by
    have h := lsT_mem [] t (lsT [] t)[k] (List.getElem_mem hk)
    have e : (lsT [] t).getD k [] = (lsT [] t)[k] := by simp [List.getD, hk]
    rw [nxtR_len, e]
    simp at h
    omega)
  clear HX1 HM1 p0 p1 p2 p3 p4 m0 hn
  obtain ⟨L, HLe⟩ := hid_name (lsT [] t)
  rw [HLe.out] at HLs HMem hll ⊢
  go_wp2_with fail
  go_loopw [18] (fun x wr => ∃ (i : Nat) (l : Value) (svs : List Value), i ≤ L.length ∧ x = .int .i64 i ∧ Hid (BuI w2 L wr i l svs)) (fun x _ => L.length - (intOf x).toNat)
  case atStart => exact ⟨0, _, [], Nat.zero_le _, rfl, ⟨heap_alloc_new w2 _, ⟨World.ownsRow_nil _ _ _ _, rfl, fun j hj => absurd hj (by simp)⟩, (Below.refl _ _).alloc (Nat.le_refl _) _⟩⟩
  case round =>
    obtain ⟨i, l, svs, hik, rfl, HO⟩ := hrel
    obtain ⟨la1, lc1, hl1, HLst⟩ := HO.out.row.rl
    simp only [List.length_map, List.length_range] at hl1
    subst hl1
    obtain ⟨m1, m2⟩ := row_one HO.out.box
    have HMr : Hid (wr.heap[W.heap.size + 1]? = some (.cells #[.slice none 0 0] 30 (0, 0))) := blk_keep HO.out.old HM2.out
    have HBW : Hid (Below W.heap.size W wr) := HB2.out.trans (HO.out.old.mono HB2.out.size)
    by_cases hlt : i < L.length
    · have HC : Hid _ := nextOf_any la lc L i hlt hll
      have HC2 : Hid _ := HC.out wr.drew (HLs.out.lies.keep HO.out.old.drew)
      have HRow : Hid (wr.ownsRow (w2.heap.size + 1) 39 1 (.slice la1 i lc1) i svs) := (by have h := HO.out.row.1; rw [List.length_map, List.length_range] at h; exact h)
      clear HLst
      go_wp2_with fail
      go_region_law (first
        | (refine step_own_where _ rfl _ _ 28 rfl (w2.heap.size + 1) 39 iv (.slice none 0 0) 1 24 Tryd.underlying28 hvi hv0 hv1 hv2 rfl (by decide) _ i svs rfl ((ow_kept HRow.out hb1).alloc _) ⟨w1.heap.size, 0, none⟩ 1 1 [.slice a2 (nxtR L i).length c2] rfl rfl (cell_one_new _ _ _) (by intro u hu; simp at hu; subst hu; rfl) (by unfold maxLen; omega) (by omega) (by have := hb1.size; have := lt_of_block HO.out.box; simp; omega) (by decide) ?_; intro l' w3 hown3 hgrow3 hwh; obtain ⟨a9, c9, rfl⟩ := own_slC hown3; obtain ⟨y1, y2⟩ := row_one (HO.out.box3 hb1 hgrow3); have HOn : Hid _ := HO.out.push hb1 HL2.out (HMem.out i hlt) hown3 hgrow3)
        | (go_simp; refine Calls.mono HC2.out ?_; rintro e w1 ⟨⟨v2, rfl, hown2⟩, hb2⟩; obtain ⟨a2, c2, rfl, hl2⟩ := LiI.own hown2; have HL2 : Hid _ := hl2; clear hl2 hown2; have hb1 : Below wr.heap.size wr w1 := (Below.refl _ _).drew.trans hb2; have hs1 : w2.heap.size < w1.heap.size := (by have := hb1.size; have := lt_of_block HO.out.box; omega); have r4' := (hb1.cell (World.block_lt_of_cell? wr _ m1)).trans m1; have r5' : ∀ ob : Obj, (w1.alloc ob).cell? ⟨w2.heap.size, 0, none⟩ = some (.slice la1 i lc1) := fun ob => (((Below.refl w1.heap.size w1).alloc (Nat.le_refl _) ob).cell hs1).trans r4'))
      all_goals
        go_wp2
        go_roundw
        case rel => exact ⟨i + 1, _, _, by omega, by go_num, HOn⟩
        case measure => simp [intOf]; omega
    · obtain rfl : i = L.length := by omega
      obtain ⟨q1, q2⟩ := row_one HMr.out
      go_wp2
      refine bodyPost_ret (v := .tuple #[.agg #[.slice la1 L.length lc1], .nilIface]) (results_cS Tryd.results7 _ _ (W.heap.size + 1) 30 #[.slice la1 L.length lc1] (0, 0) _ .nilIface rfl rfl (row_setOne HMr.out) Tryd.underlying30 rfl (by kernel_rfl)) rfl ?_
      rw [HLe.out]
      have hro := HO.out.row.set (g := W.heap.size + 1) (j := 0) (x := .slice la1 L.length lc1) HMr.out (by decide) (by decide)
      obtain ⟨a8, c8, e8, hls⟩ := hro.rl
      have e9 : a8 = la1 := (by injection e8 with h; exact h.symm)
      rw [e9] at hls
      exact ⟨⟨la1, lc1, rfl, hls⟩, HBW.out.setCell (by simp) _⟩
set_option maxRecDepth 100000 in
set_option maxHeartbeats 3200000 in
theorem build_err (t : Tr) (n : Nat) (hd : t.Dp n) (hn : n ≤ 1100000) (hs : t.Sm) (a : Option Addr) (c : Nat) (P : Nat → Prop) (W : World) (hl : LiesN W P a t.sub) (hcap : t.sub.length ≤ c) (eb es en : TypeId × Value) (ty : TypeId) (ev : Value) (hr : vldV (.iface eb.1 eb.2) (.iface es.1 es.2) (.iface en.1 en.2) t = .iface ty ev)
    (hgb : W.cell? ⟨0, 0, none⟩ = some (.iface eb.1 eb.2)) (hgs : W.cell? ⟨1, 0, none⟩ = some (.iface es.1 es.2)) (hgn : W.cell? ⟨2, 0, none⟩ = some (.iface en.1 en.2)) :
    Calls Tryd.prog 7 #[nodeV t a c] W fun e w' => e = .returned (.tuple #[.agg #[.slice none 0 0], .iface ty ev]) ∧ Below W.heap.size W w' := by
  obtain ⟨w0, HW0, HX, HM, HB⟩ := two_boxesS W #[.int .i64 t.id, .string t.nm, .int .i64 t.rep, .int .i64 t.kind, .slice a t.sub.length c] #[.slice none 0 0] 24 30
  have hb := HB.out
  have HV := valid_any t n hd hn hs a c P w0 (hl.keep hb) hcap eb es en ((hb.cell (World.block_lt_of_cell? W _ hgb)).trans hgb) ((hb.cell (World.block_lt_of_cell? W _ hgs)).trans hgs) ((hb.cell (World.block_lt_of_cell? W _ hgn)).trans hgn)
  rw [hr] at HV
  have HV : Hid _ := HV
  clear hl hd hs hb hgb hgs hgn hr
  go_enter Tryd.func7, Tryd.ntmps7
  go_wp2_with fail
  rw [HW0.out]
  refine Calls.mono HV.out ?_
  rintro e w1 ⟨rfl, hb1⟩
  have HB1 : Hid (Below W.heap.size W w1) := HB.out.trans (hb1.mono HB.out.size)
  have HM1 : Hid (w1.heap[W.heap.size + 1]? = some (.cells #[.slice none 0 0] 30 (0, 0))) := blk_keep hb1 HM.out
  clear hb1 HV
  obtain ⟨q1, q2⟩ := row_one HM1.out
  go_wp2
  exact bodyPost_ret (v := .tuple #[.agg #[.slice none 0 0], .iface ty ev]) (results_cS Tryd.results7 _ _ (W.heap.size + 1) 30 #[.slice none 0 0] (0, 0) _ (.iface ty ev) rfl rfl (row_setOne HM1.out) Tryd.underlying30 rfl (by kernel_rfl)) rfl ⟨rfl, HB1.out.setCell (by simp) _⟩
end Go.Proofs.YtiiehnjgljadbaaDoor
