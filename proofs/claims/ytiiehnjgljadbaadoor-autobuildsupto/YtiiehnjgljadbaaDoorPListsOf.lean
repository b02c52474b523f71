/-
  The reference's listsOf, of a leaf of a right schema.
-/
import Derived.Test.YtiiehnjgljadbaaDoorPFindOf
import Derived.Test.YtiiehnjgljadbaaDoorPBLfM
namespace Go.Proofs.YtiiehnjgljadbaaDoor
open Go.RowKit
/-- A node of a right schema is found by its number. -/
theorem find_right (t : Tr) (hs : t.Sm) (hB : inB t = true) (hr : isRootB t = true) (hI : idsT t = true) (y : Tr) (hy : y ∈ ndL t.sub) (P : Nat → Prop) (a : Option Addr) (c : Nat) (W : World) (hl : LiesN W P a t.sub) :
    Calls Tryd.prog 32 #[nodeV t a c, .int .i64 y.id] W fun e w' => (∃ a' c', e = .returned (.tuple #[nodeV y a' c', .bool true])) ∧ Below W.heap.size W w' := by
  have hf := fl_pre t hB
  have hid : t.id = 0 := (of_decide_eq_true hr).1
  rw [ids_fl, chk_iff] at hI
  obtain ⟨hok, hpw, _⟩ := hI
  obtain ⟨j, hj, rfl⟩ := List.getElem_of_mem hy
  have hnl : (ndL t.sub).length = (preL 1 t.sub 2 0).length := by rw [← preL_map t.sub 1 2 0, List.length_map]
  have hjp : j < (preL 1 t.sub 2 0).length := by omega
  have hpt : ∀ k (h1 : k < (ndL t.sub).length) (h2 : k < (preL 1 t.sub 2 0).length), (preL 1 t.sub 2 0)[k].t = (ndL t.sub)[k] := fun k h1 h2 => by
    have e : (ndL t.sub)[k]? = some (preL 1 t.sub 2 0)[k].t := by
      rw [← preL_map t.sub 1 2 0, List.getElem?_map, List.getElem?_eq_getElem h2]
      rfl
    rw [List.getElem?_eq_getElem h1] at e
    exact (Option.some.inj e).symm
  have hj1 : 1 ≤ (ndL t.sub)[j].id := by
    have := hok _ (List.getElem_mem hjp)
    rw [idOkP, decide_eq_true_iff, hpt j hj hjp] at this
    exact this.1
  refine (findOf_any t hs P a c (ndL t.sub)[j].id W hl).mono ?_
  rintro e w' ⟨h, hb⟩
  refine ⟨?_, hb⟩
  rcases h with ⟨i, hi, a', c', h1, _, rfl⟩ | ⟨h1, _⟩
  · refine ⟨a', c', ?_⟩
    have hi0 : i ≠ 0 := fun h0 => by
      subst h0
      have : (fl t)[0].t = t := by simp only [hf, List.getElem_cons_zero]
      rw [this, hid] at h1
      omega
    obtain ⟨k, rfl⟩ : ∃ k, i = k + 1 := ⟨i - 1, by omega⟩
    have hk : k < (preL 1 t.sub 2 0).length := by rw [hf, List.length_cons] at hi; omega
    have e1 : (fl t)[k + 1] = (preL 1 t.sub 2 0)[k] := by simp only [hf, List.getElem_cons_succ]
    rw [e1] at h1 ⊢
    have hkj : k = j := by
      rw [List.pairwise_iff_getElem] at hpw
      rcases Nat.lt_trichotomy k j with h | h | h
      · have := hpw k j hk hjp h
        rw [idBadP, decide_eq_false_iff_not, hpt j hj hjp] at this
        exact absurd h1 this
      · exact h
      · have := hpw j k hjp hk h
        rw [idBadP, decide_eq_false_iff_not, hpt j hj hjp] at this
        exact absurd h1.symm this
    subst hkj
    rw [hpt k hj hk]
  · exfalso
    have hm : (preL 1 t.sub 2 0)[j] ∈ fl t := by rw [hf]; exact List.mem_cons_of_mem _ (List.getElem_mem hjp)
    exact h1 _ hm (by rw [hpt j hj hjp])
theorem hidI {p : Prop} (h : p) : Hid p := h
/-- The Repeated ones. -/
def rptI (q : List Tr) : List Int := (q.filter fun x => decide (x.rep = 3)).map Tr.id
theorem rptI_take (q : List Tr) (i : Nat) (h : i < q.length) : rptI (q.take (i + 1)) = rptI (q.take i) ++ (if q[i].rep = 3 then [q[i].id] else []) := by
  unfold rptI
  rw [List.take_succ_eq_append_getElem h, List.filter_append, List.map_append]
  by_cases h3 : q[i].rep = 3 <;> simp [h3]
theorem rptI_len (q : List Tr) : (rptI q).length ≤ q.length := by
  unfold rptI
  rw [List.length_map]
  exact List.length_filter_le _ _
set_option maxRecDepth 100000 in
set_option maxHeartbeats 6400000 in
theorem listsOf_any (t : Tr) (hs : t.Sm) (hB : inB t = true) (hr : isRootB t = true) (hI : idsT t = true) (q : List Tr) (hq : ∀ y ∈ q, y ∈ ndL t.sub) (hql : q.length ≤ 1000) (fi fk : Int) (fm fd : Nat) (pa : Option Addr) (pc : Nat) (P : Nat → Prop) (a : Option Addr) (c : Nat) (W : World) (hl : LiesN W P a t.sub) (hp : Lies W pa (i64s (q.map Tr.id))) :
    Calls Tryd.prog 19 #[nodeV t a c, .agg #[.int .i64 fi, .int .i64 fk, .int .i64 (fm : Nat), .int .i64 (fd : Nat), .slice pa q.length pc]] W fun e w' => (∃ lv, e = .returned lv ∧ w'.ownsRow W.heap.size 3 1 lv (rptI q).length (i64s (rptI q))) ∧ Below W.heap.size W w' := by
  obtain ⟨iv, hvi, hv0, hv1, hv2⟩ := info_parts Tryd.infoI
  obtain ⟨w0, HW0, HX, HY, HB⟩ := two_boxesS W #[.int .i64 t.id, .string t.nm, .int .i64 t.rep, .int .i64 t.kind, .slice a t.sub.length c] #[.int .i64 fi, .int .i64 fk, .int .i64 (fm : Nat), .int .i64 (fd : Nat), .slice pa q.length pc] 24 54
  have HFi : Hid (∀ (i : Nat) (h : i < q.length) (w : World), Below W.heap.size W w → Calls Tryd.prog 32 #[nodeV t a c, .int .i64 q[i].id] w fun e w' => (∃ a' c', e = .returned (.tuple #[nodeV q[i] a' c', .bool true])) ∧ Below w.heap.size w w') := fun i h w hb => find_right t hs hB hr hI q[i] (hq _ (List.getElem_mem h)) P a c w (hl.keep hb)
  have HP : Hid (Lies W pa (i64s (q.map Tr.id))) := hp
  have hw2 : W.heap.size + 2 ≤ w0.heap.size := lt_of_block HY.out
  clear hl hs hB hr hI hq hp
  unfold nodeV
  go_enter Tryd.func19, Tryd.ntmps19
  go_wp2_with fail
  rw [HW0.out]
  clear HW0
  go_loopw [5, 6] (fun y x wr => ∃ i : Nat, i ≤ q.length ∧ x = .int .i64 i ∧ Hid (wr.ownsRow w0.heap.size 3 1 y (rptI (q.take i)).length (i64s (rptI (q.take i)))) ∧ Hid (Below w0.heap.size w0 wr)) (fun _ x _ => q.length - (intOf x).toNat)
  case atStart => exact ⟨0, Nat.zero_le _, rfl, World.ownsRow_nil _ _ _ _, Below.refl _ _⟩
  case round =>
    obtain ⟨i, hik, rfl, HRow, HBr⟩ := hrel
    have HXr : Hid (wr.heap[W.heap.size]? = some (.cells #[.int .i64 t.id, .string t.nm, .int .i64 t.rep, .int .i64 t.kind, .slice a t.sub.length c] 24 (0, 0))) := blk_keep HBr.out HX.out
    have HYr : Hid (wr.heap[W.heap.size + 1]? = some (.cells #[.int .i64 fi, .int .i64 fk, .int .i64 (fm : Nat), .int .i64 (fd : Nat), .slice pa q.length pc] 54 (0, 0))) := blk_keep HBr.out HY.out
    have HBW : Hid (Below W.heap.size W wr) := HB.out.trans (HBr.out.mono HB.out.size)
    obtain ⟨⟨p0, p1, p2, p3, p4⟩, _⟩ := row_five HXr.out
    obtain ⟨⟨r0, r1, r2, r3, r4⟩, _⟩ := row_five HYr.out
    by_cases hlt : i < q.length
    · obtain ⟨b, o, rfl, hc⟩ := (HP.out.keep HBW.out) i (by rw [i64s_len, List.length_map]; exact hlt)
      have hc2 : wr.cell? ⟨b, o + i, none⟩ = some (.int .i64 q[i].id) := by simpa [i64s] using hc
      clear hc
      have HC : Hid (∀ X, Below wr.heap.size wr X → Calls Tryd.prog 32 #[.agg #[.int .i64 t.id, .string t.nm, .int .i64 t.rep, .int .i64 t.kind, .slice a t.sub.length c], .int .i64 q[i].id] X fun e w' => (∃ a' c', e = .returned (.tuple #[.agg #[.int .i64 q[i].id, .string q[i].nm, .int .i64 q[i].rep, .int .i64 q[i].kind, .slice a' q[i].sub.length c'], .bool true])) ∧ Below X.heap.size X w') := fun X hX => HFi.out i hlt X (HBW.out.trans (hX.mono HBW.out.size))
      have HTk : Hid _ := rptI_take q i hlt
      obtain ⟨la, lc, hlv⟩ := own_slC HRow.out
      subst hlv
      have al : ∀ (ad : Addr) (v : Value), wr.cell? ad = some v → ∀ ob : Obj, (wr.alloc ob).cell? ad = some v := fun ad v h ob => (((Below.refl wr.heap.size wr).alloc (Nat.le_refl _) ob).cell (World.block_lt_of_cell? wr _ h)).trans h
      have p0a := al _ _ p0
      have p1a := al _ _ p1
      have p2a := al _ _ p2
      have p3a := al _ _ p3
      have p4a := al _ _ p4
      have r4a := al _ _ r4
      have hca := al _ _ hc2
      have bw : Below wr.heap.size wr wr.drew := (Below.refl _ _).drew
      have bwa : ∀ ob : Obj, Below wr.heap.size wr (wr.alloc ob).drew := fun ob => ((Below.refl _ _).alloc (Nat.le_refl _) ob).drew
      clear al
      obtain ⟨yt, HYt⟩ := hid_name q[i]
      rw [HYt.out] at HC HTk hc2 hca
      go_upto_region 5 with fail
      go_cut [7] (fun x wx => ∃ (g7 : Nat) (a' : Option Addr) (c' : Nat), x = .pointer (some ⟨g7, 0, none⟩) ∧ wr.heap.size ≤ g7 ∧ Hid (wx.heap[g7]? = some (.cells #[.int .i64 yt.id, .string yt.nm, .int .i64 yt.rep, .int .i64 yt.kind, .slice a' yt.sub.length c'] 24 (0, 0))) ∧ Hid (Below wr.heap.size wr wx))
      case first =>
        go_region_law (first
          | (go_simp; refine Calls.mono (HC.out _ bw) ?_; rintro e w2 ⟨⟨a2, c2, rfl⟩, hb2⟩; have hbb : Below wr.heap.size wr w2 := bw.trans hb2)
          | (go_simp; refine Calls.mono (HC.out _ (bwa _)) ?_; rintro e w2 ⟨⟨a2, c2, rfl⟩, hb2⟩; have hbb : Below wr.heap.size wr w2 := (bwa _).trans (hb2.mono (by simp)); have HZ := blk_keep hb2 (heap_alloc_new wr _); obtain ⟨⟨z0, z1, z2, z3, z4⟩, f0, f1, f2, f3, f4⟩ := row_five HZ))
        all_goals (have HBB : Hid _ := hbb; clear hbb; go_wp2; go_meet)
        all_goals refine ⟨_, a2, c2, rfl, ?_, hidI ?_, hidI ?_⟩
        all_goals first
          | with_reducible exact HBB.out.size
          | with_reducible exact Nat.le_refl _
          | with_reducible exact heap_alloc_new w2 _
          | with_reducible exact HBB.out.alloc HBB.out.size _
          | exact row_setC (row_setC (row_setC (row_setC (row_setC HZ))))
          | exact ((((HBB.out.setCell (by simp) _).setCell (by simp) _).setCell (by simp) _).setCell (by simp) _).setCell (by simp) _
      case rest =>
        obtain ⟨g7, a7, c7, rfl, hg7, HX7, HB7⟩ := hcut
        rename World => wx
        clear p0 p1 p2 p3 p4 r0 r1 r2 r3 r4 p0a p1a p2a p3a p4a r4a hca hc2 bw bwa
        obtain ⟨⟨b0, b1, b2, b3, b4⟩, _⟩ := row_five HX7.out
        obtain ⟨yr, HYr2⟩ := hid_name yt.rep
        obtain ⟨yi, HYi⟩ := hid_name yt.id
        rw [HYr2.out] at b2 HTk
        rw [HYi.out] at b0 HTk
        have HBn : Hid (Below w0.heap.size w0 wx) := HBr.out.trans (HB7.out.mono HBr.out.size)
        have hrl : (rptI (q.take i)).length ≤ 1000 := by
          have h := rptI_len (q.take i)
          rw [List.length_take] at h
          omega
        by_cases h3 : yr = 3
        · have q3 : (yr == 3) = true := by simp [h3]
          have HTk2 := HTk.out
          rw [if_pos h3] at HTk2
          have HT2 : Hid _ := HTk2
          have HR2 : Hid ((wx.alloc (.cells #[.int .i64 yi] 3)).ownsRow w0.heap.size 3 1 (.slice la (rptI (q.take i)).length lc) (rptI (q.take i)).length (i64s (rptI (q.take i)))) := (ow_kept HRow.out HB7.out).alloc _
          have HFin : Hid (∀ (l2 : Value) (w2 : World) (ob : Obj), w2.ownsRow w0.heap.size 3 1 l2 ((rptI (q.take i)).length + 1) (i64s (rptI (q.take i)) ++ [.int .i64 yi]) → (wx.alloc ob).grownBy w2 (Value.slice la (rptI (q.take i)).length lc).ownBlock → w2.ownsRow w0.heap.size 3 1 l2 (rptI (q.take (i + 1))).length (i64s (rptI (q.take (i + 1)))) ∧ Below w0.heap.size w0 w2) := fun l2 w2 ob h1 h2 => (by
            refine ⟨?_, (HBn.out.alloc HBn.out.size ob).grown h2 (by have := HBn.out.size; simp; omega) (fun k hk => (HRow.out.lt k hk).1)⟩
            rw [HT2.out, List.length_append]
            simpa [i64s] using h1)
          clear h3 HTk2 HTk
          go_wp2_with (at_builtin; refine wpList_append_where _ rfl _ _ 39 rfl w0.heap.size 3 iv (.int .i64 0) 1 8 Tryd.underlying39 hvi hv0 hv1 hv2 rfl (by decide) (.slice la (rptI (q.take i)).length lc) (rptI (q.take i)).length (i64s (rptI (q.take i))) rfl HR2.out ⟨wx.heap.size, 0, none⟩ 1 1 [.int .i64 yi] rfl rfl (cell_one_new _ _ _) (by intro u hu; simp at hu; subst hu; rfl) (by unfold maxLen; omega) (by omega) (by have := HBn.out.size; simp; omega) (by decide) ?_; intro l2 w2 hown2 hgr2 _; have HF2 : Hid _ := HFin.out _ _ _ hown2 hgr2; obtain ⟨a9, c9, rfl⟩ := own_slC hown2)
          go_roundw
          case rel => exact ⟨i + 1, by omega, by go_num, HF2.out.1, HF2.out.2⟩
          case measure => simp [intOf]; omega
        · have q3 : (yr == 3) = false := by simp [h3]
          have HR2 : Hid (wx.ownsRow w0.heap.size 3 1 (.slice la (rptI (q.take i)).length lc) (rptI (q.take (i + 1))).length (i64s (rptI (q.take (i + 1))))) := (by
            have h := ow_kept HRow.out HB7.out
            have e := HTk.out
            rw [if_neg h3, List.append_nil] at e
            rw [e]
            exact h)
          clear h3 HTk
          go_wp2
          go_roundw
          case rel => exact ⟨i + 1, by omega, by go_num, HR2, HBn⟩
          case measure => simp [intOf]; omega
    · obtain rfl : i = q.length := by omega
      have HE : Hid (wr.ownsRow W.heap.size 3 1 u5 (rptI q).length (i64s (rptI q))) := (by
        have h := HRow.out
        rw [List.take_length] at h
        exact ⟨h.1, h.2.imp id (fun ⟨g, cap, cur, e1, e2, e3⟩ => ⟨g, cap, cur, e1, by omega, e3⟩)⟩)
      go_wp2
      go_ret
      exact ⟨⟨_, rfl, HE.out⟩, HBW.out⟩
end Go.Proofs.YtiiehnjgljadbaaDoor
