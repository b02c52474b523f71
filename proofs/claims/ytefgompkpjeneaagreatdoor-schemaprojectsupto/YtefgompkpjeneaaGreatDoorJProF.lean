/-
  The reference's ProjectOf of a right schema: exact.
-/
import Derived.Test.YtefgompkpjeneaaGreatDoorJKeepR
import Derived.Test.YtefgompkpjeneaaGreatDoorJBFindOf
import Derived.Test.YtefgompkpjeneaaGreatDoorJBSBase
import Derived.Deep.DeepCutAuto
namespace Go.Proofs.YtefgompkpjeneaaGreatDoor
open Go.RowKit
theorem found_some {t : Tr} {id : Int} (hB : (fl t).map Pc.t = ndT t) (i : Nat) (hi : i < (fl t).length) (h1 : (fl t)[i].t.id = id) (h2 : ∀ j (h' : j < (fl t).length), j < i → (fl t)[j].t.id ≠ id) : (ndT t).find? (fun y => y.id == id) = some (fl t)[i].t := by
  rw [← hB, List.find?_map]
  have h : (fl t).find? ((fun y : Tr => y.id == id) ∘ Pc.t) = some (fl t)[i] := by
    rw [List.find?_eq_some_iff_getElem]
    exact ⟨by simp [h1], i, hi, rfl, fun j hj => by simp [h2 j (by omega) hj]⟩
  rw [h]
  rfl
theorem askL_snoc (q : List Int) (z : Int) (t x : Tr) (h : (ndT t).find? (fun y => y.id == z) = some x) : askL (q ++ [z]) t = askL q t ++ lfI (ndT x) := by
  unfold askL
  rw [List.flatMap_append]
  simp [h]
/-- What FindOf's answer is. -/
def FdC (P : Nat → Prop) (t : Tr) (z : Int) (w : World) (y0 y2 y3 : Int) (y1 : ByteArray) (ya : Option Addr) (yn : Nat) (is : Bool) : Prop :=
  (is = true ∧ ∃ x, (ndT t).find? (fun y => y.id == z) = some x ∧ y0 = x.id ∧ y1 = x.nm ∧ y2 = x.rep ∧ y3 = x.kind ∧ yn = x.sub.length ∧ LiesN w P ya x.sub) ∨ (is = false ∧ z ∉ (ndT t).map Tr.id)
theorem fdC_of {P : Nat → Prop} {t : Tr} {id : Int} {e : Ending} {w : World} (hB : (fl t).map Pc.t = ndT t) (h : FoundN P t id e w) : ∃ (y0 y2 y3 : Int) (y1 : ByteArray) (ya : Option Addr) (yn yc : Nat) (is : Bool), e = .returned (.tuple #[.agg #[.int .i64 y0, .string y1, .int .i64 y2, .int .i64 y3, .slice ya yn yc], .bool is]) ∧ Hid (FdC P t id w y0 y2 y3 y1 ya yn is) := by
  rcases h with ⟨i, hi, a', c', h1, h2, rfl, h3, h4⟩ | ⟨h1, rfl⟩
  · exact ⟨_, _, _, _, a', _, c', true, rfl, .inl ⟨rfl, (fl t)[i].t, found_some hB i hi h1 h2, rfl, rfl, rfl, rfl, rfl, h3⟩⟩
  · refine ⟨_, _, _, _, _, _, _, false, rfl, .inr ⟨rfl, fun h => ?_⟩⟩
    obtain ⟨x, hx, e⟩ := List.mem_map.1 h
    rw [← hB] at hx
    obtain ⟨p, hp, rfl⟩ := List.mem_map.1 hx
    exact h1 p hp e
theorem hidK {p : Prop} (h : p) : Hid p := h
/-- Five cells of a block are set. -/
abbrev set5k (w : World) (g : Nat) (x0 x1 x2 x3 x4 : Value) : World := ((((w.setCell ⟨g, 0, none⟩ x0).setCell ⟨g, 1, none⟩ x1).setCell ⟨g, 2, none⟩ x2).setCell ⟨g, 3, none⟩ x3).setCell ⟨g, 4, none⟩ x4
theorem set5k_row {w : World} {g : Nat} {T : TypeId} {z0 z1 z2 z3 z4 : Value} (h : w.heap[g]? = some (.cells #[z0, z1, z2, z3, z4] T (0, 0))) (x0 x1 x2 x3 x4 : Value) : (set5k w g x0 x1 x2 x3 x4).heap[g]? = some (.cells #[x0, x1, x2, x3, x4] T (0, 0)) := row_setC (row_setC (row_setC (row_setC (row_setC h))))
theorem set5k_off (w : World) (g k : Nat) (h : k ≠ g) (x0 x1 x2 x3 x4 : Value) : (set5k w g x0 x1 x2 x3 x4).heap[k]? = w.heap[k]? := by
  rw [Below.heap_setCell _ _ _ _ h, Below.heap_setCell _ _ _ _ h, Below.heap_setCell _ _ _ _ h, Below.heap_setCell _ _ _ _ h, Below.heap_setCell _ _ _ _ h]
theorem set5k_below {B g : Nat} {w w' : World} (hb : Below B w w') (hB : B ≤ g) (x0 x1 x2 x3 x4 : Value) : Below B w (set5k w' g x0 x1 x2 x3 x4) := ((((hb.setCell hB _).setCell hB _).setCell hB _).setCell hB _).setCell hB _
/-- What ProjectOf answers of a right schema. -/
def PoR (t : Tr) (ids : List Int) (N : Nat) (e : Ending) (w' : World) : Prop :=
  ((∃ i ∈ ids, i ∉ (ndT t).map Tr.id) ∧ e = .returned (.tuple #[.agg #[.int .i64 0, .string ⟨#[]⟩, .int .i64 0, .int .i64 0, .slice none 0 0], .int .i64 6])) ∨
  ((∀ i ∈ ids, i ∈ (ndT t).map Tr.id) ∧ askL ids t = [] ∧ e = .returned (.tuple #[.agg #[.int .i64 0, .string ⟨#[]⟩, .int .i64 0, .int .i64 0, .slice none 0 0], .int .i64 3])) ∨
  ((∀ i ∈ ids, i ∈ (ndT t).map Tr.id) ∧ askL ids t ≠ [] ∧ ∃ a' c', e = .returned (.tuple #[.agg #[.int .i64 t.id, .string t.nm, .int .i64 t.rep, .int .i64 t.kind, .slice a' (rkL (askL ids t) t.sub).length c'], .int .i64 0]) ∧ LiesN w' (fun b => N ≤ b) a' (rkL (askL ids t) t.sub) ∧ (rkL (askL ids t) t.sub).length ≤ c')
theorem askL_len (t : Tr) (hc : t.cnt ≤ 1000) (q : List Int) : (askL q t).length ≤ 1000 * q.length := by
  unfold askL
  induction q with
  | nil => simp
  | cons z q ih =>
    rw [List.flatMap_cons, List.length_append, List.length_cons]
    cases hf : (ndT t).find? (fun y => y.id == z) with
    | none => simp only [List.length_nil]; omega
    | some x =>
      have h1 := lfI_len (ndT x)
      rw [ndT_len] at h1
      have h2 := (nd_in (SizeOf.sizeOf t + 1) t (Nat.lt_succ_self _) x (List.mem_of_find?_eq_some hf)).1
      simp only
      omega
set_option maxRecDepth 100000 in
set_option maxHeartbeats 6400000 in
theorem projectOf_any (t : Tr) (k0 : Nat) (hd : t.Dp k0) (hk0 : k0 ≤ 100) (hs : t.Sm) (hcn : t.cnt ≤ 1000) (ids : List Int) (ia : Option Addr) (ic : Nat) (hil : ids.length ≤ 900) (a : Option Addr) (c : Nat) (P : Nat → Prop) (W : World) (hl : LiesN W P a t.sub) (hcap : t.sub.length ≤ c) (hli : Lies W ia (i64s ids)) :
    Calls Tryz.prog 7 #[nodeV t a c, .slice ia ids.length ic] W fun e w' => PoR t ids W.heap.size e w' ∧ Below W.heap.size W w' := by
  obtain ⟨iv, hvi, hv0, hv1, hv2⟩ := info_parts Tryz.infoI
  obtain ⟨w0, HW0, HX, HZ, HB⟩ := two_boxesS W #[.int .i64 t.id, .string t.nm, .int .i64 t.rep, .int .i64 t.kind, .slice a t.sub.length c] #[.int .i64 0, .string ⟨#[]⟩, .int .i64 0, .int .i64 0, .slice none 0 0] 24 24
  have HNd : Hid ((fl t).map Pc.t = ndT t) := fl_nd t k0 (by omega) hd hk0
  have HL : Hid (LiesN W P a t.sub) := hl
  have HLi : Hid (Lies W ia (i64s ids)) := hli
  have HSm : Hid t.Sm := hs
  have HD : Hid (t.Dp k0) := hd
  have HFo : Hid (∀ z X, Below W.heap.size W X → Calls Tryz.prog 16 #[.agg #[.int .i64 t.id, .string t.nm, .int .i64 t.rep, .int .i64 t.kind, .slice a t.sub.length c], .int .i64 z] X fun e w' => (∃ (y0 y2 y3 : Int) (y1 : ByteArray) (ya : Option Addr) (yn yc : Nat) (is : Bool), e = .returned (.tuple #[.agg #[.int .i64 y0, .string y1, .int .i64 y2, .int .i64 y3, .slice ya yn yc], .bool is]) ∧ Hid (FdC (fun b => b < W.heap.size) t z w' y0 y2 y3 y1 ya yn is)) ∧ Below X.heap.size X w') := fun z X hX => (findOf_anyN t HSm.out (fun b => b < W.heap.size) a c z X ((HL.out.stay (W' := W) (fun _ _ h => h) (fun _ _ _ => rfl)).keep hX) hcap).mono fun e w' h => ⟨fdC_of HNd.out h.1, h.2⟩
  have HIn : Hid (∀ x ∈ ndT t, x.cnt ≤ 2000 ∧ x.Dp k0 ∧ x.Sm) := fun x hx => (by
    obtain ⟨k1, k2, k3⟩ := nd_in (SizeOf.sizeOf t + 1) t (Nat.lt_succ_self _) x hx
    exact ⟨by omega, k2 k0 HD.out, k3 HSm.out⟩)
  have HAl : Hid (∀ q : List Int, (askL q t).length ≤ 1000 * q.length) := askL_len t hcn
  clear hl hd hs hli
  unfold nodeV
  go_enter Tryz.func7, Tryz.ntmps7
  go_wp2_with fail
  rw [HW0.out]
  have hsz0 := HB.out.size
  have hz0 := lt_of_block HZ.out
  go_loopw [6, 7] (fun y x wr => ∃ i : Nat, i ≤ ids.length ∧ x = .int .i64 i ∧ Hid (wr.ownsRow w0.heap.size 3 1 y (askL (ids.take i) t).length (i64s (askL (ids.take i) t))) ∧ Hid (∀ y ∈ ids.take i, y ∈ (ndT t).map Tr.id) ∧ Hid (Below w0.heap.size w0 wr)) (fun _ x _ => ids.length - (intOf x).toNat)
  case atStart => exact ⟨0, Nat.zero_le _, rfl, by rw [List.take_zero]; exact World.ownsRow_nil _ _ _ _, fun y hy => by simp at hy, Below.refl _ _⟩
  case round =>
    obtain ⟨i, hik, rfl, HRow, HIs, HBr⟩ := hrel
    rename World => wr
    obtain ⟨ra, rc, hrv⟩ := own_slC HRow.out
    subst hrv
    have HBW : Hid (Below W.heap.size W wr) := HB.out.trans (HBr.out.mono HB.out.size)
    have HXr : Hid (wr.heap[W.heap.size]? = some (.cells #[.int .i64 t.id, .string t.nm, .int .i64 t.rep, .int .i64 t.kind, .slice a t.sub.length c] 24 (0, 0))) := blk_keep HBr.out HX.out
    have HZr : Hid (wr.heap[W.heap.size + 1]? = some (.cells #[.int .i64 0, .string ⟨#[]⟩, .int .i64 0, .int .i64 0, .slice none 0 0] 24 (0, 0))) := blk_keep HBr.out HZ.out
    have hszr := HBr.out.size
    have hal := HAl.out (ids.take i)
    have hal2 : (askL (ids.take i) t).length ≤ 900000 := by simp at hal; omega
    obtain ⟨⟨p0, p1, p2, p3, p4⟩, _⟩ := row_five HXr.out
    by_cases hlt : i < ids.length
    · obtain ⟨b1, o1, rfl, e1⟩ := (HLi.out.keep HBW.out) i (by rw [i64s_len]; exact hlt)
      have g1 : wr.cell? ⟨b1, o1 + i, none⟩ = some (.int .i64 ids[i]) := by simpa [i64s] using e1
      clear e1
      have HTk : Hid (ids.take (i + 1) = ids.take i ++ [ids[i]]) := List.take_succ_eq_append_getElem hlt
      have HMem : Hid (ids[i] ∈ ids) := List.getElem_mem hlt
      obtain ⟨z, HZz⟩ := hid_name ids[i]
      rw [HZz.out] at g1 HTk HMem
      have HC : Hid (∀ X, Below wr.heap.size wr X → Calls Tryz.prog 16 #[.agg #[.int .i64 t.id, .string t.nm, .int .i64 t.rep, .int .i64 t.kind, .slice a t.sub.length c], .int .i64 z] X fun e w' => (∃ (y0 y2 y3 : Int) (y1 : ByteArray) (ya : Option Addr) (yn yc : Nat) (is : Bool), e = .returned (.tuple #[.agg #[.int .i64 y0, .string y1, .int .i64 y2, .int .i64 y3, .slice ya yn yc], .bool is]) ∧ Hid (FdC (fun b => b < W.heap.size) t z w' y0 y2 y3 y1 ya yn is)) ∧ Below X.heap.size X w') := fun X hX => HFo.out z X (HBW.out.trans (hX.mono HBW.out.size))
      have bwz : Below wr.heap.size wr wr.drew := (Below.refl _ _).drew
      have bwy : ∀ ob, Below wr.heap.size wr (wr.alloc ob).drew := fun ob => ((Below.refl _ _).alloc (Nat.le_refl _) ob).drew
      have bwx : ∀ ob, Below wr.heap.size wr (wr.drew.alloc ob) := fun ob => bwz.alloc (Nat.le_refl _) ob
      have HFx : Hid (∀ (w2 w3 : World) (y0 y2 y3 : Int) (y1 : ByteArray) (ya : Option Addr) (yn : Nat) (is : Bool), FdC (fun b => b < W.heap.size) t z w2 y0 y2 y3 y1 ya yn is → (∀ b, b < W.heap.size → w3.heap[b]? = w2.heap[b]?) → FdC (fun b => b < W.heap.size) t z w3 y0 y2 y3 y1 ya yn is) := fun w2 w3 y0 y2 y3 y1 ya yn is h hb => h.imp (fun ⟨h1, x, q1, q2, q3, q4, q5, q6, q7⟩ => ⟨h1, x, q1, q2, q3, q4, q5, q6, q7.stay (fun _ h _ => h) (fun b h _ => hb b h)⟩) (fun h => h)
      have hWr : W.heap.size ≤ wr.heap.size := by omega
      have kA : ∀ (ob : Obj) (ad : Addr) (v : Value), wr.cell? ad = some v → (wr.alloc ob).cell? ad = some v := fun ob ad v h => (((Below.refl wr.heap.size wr).alloc (Nat.le_refl _) ob).cell (World.block_lt_of_cell? wr _ h)).trans h
      have p0a := fun ob => kA ob _ _ p0
      have p1a := fun ob => kA ob _ _ p1
      have p2a := fun ob => kA ob _ _ p2
      have p3a := fun ob => kA ob _ _ p3
      have p4a := fun ob => kA ob _ _ p4
      have g1a := fun ob => kA ob _ _ g1
      clear kA
      go_upto_region 5 with fail
      go_cut [8, 9] (fun x y wx => ∃ (g : Nat) (is : Bool) (y0 y2 y3 : Int) (y1 : ByteArray) (ya : Option Addr) (yn yc : Nat), x = .pointer (some ⟨g, 0, none⟩) ∧ y = .bool is ∧ Hid (wx.heap[g]? = some (.cells #[.int .i64 y0, .string y1, .int .i64 y2, .int .i64 y3, .slice ya yn yc] 24 (0, 0))) ∧ Hid (FdC (fun b => b < W.heap.size) t z wx y0 y2 y3 y1 ya yn is) ∧ Hid (Below wr.heap.size wr wx))
      case first =>
        go_region_law (first
          | (go_simp; refine Calls.mono (HC.out _ bwz) ?_; rintro e w2 ⟨⟨y0, y2, y3, y1, ya, yn, yc, is, rfl, HF2⟩, hb2⟩; have hbb : Below wr.heap.size wr w2 := bwz.trans hb2)
          | (go_simp; refine Calls.mono (HC.out _ (bwy _)) ?_; rintro e w2 ⟨⟨y0, y2, y3, y1, ya, yn, yc, is, rfl, HF2⟩, hb2⟩; have hbb : Below wr.heap.size wr w2 := (bwy _).trans (hb2.mono (by simp)); have HZ9 := blk_keep hb2 (heap_alloc_new wr _); obtain ⟨⟨z0, z1, z2, z3, z4⟩, f0, f1, f2, f3, f4⟩ := row_five HZ9)
          | (go_simp; refine Calls.mono (HC.out _ (bwx _)) ?_; rintro e w2 ⟨⟨y0, y2, y3, y1, ya, yn, yc, is, rfl, HF2⟩, hb2⟩; have hbb : Below wr.heap.size wr w2 := (bwx _).trans (hb2.mono (by simp)); have HZ9 := blk_keep hb2 (heap_alloc_new wr.drew _); obtain ⟨⟨z0, z1, z2, z3, z4⟩, f0, f1, f2, f3, f4⟩ := row_five HZ9))
        all_goals (have HBB : Hid _ := hbb; clear hbb; go_wp2; go_meet)
        all_goals refine ⟨_, is, y0, y2, y3, y1, ya, yn, yc, rfl, rfl, hidK ?_, hidK ?_, hidK ?_⟩
        all_goals first
          | with_reducible exact heap_alloc_new w2 _
          | with_reducible exact HBB.out.alloc HBB.out.size _
          | with_reducible exact HFx.out w2 (w2.alloc _) _ _ _ _ _ _ _ HF2.out (fun b hb => heap_alloc_old w2 _ (Nat.lt_of_lt_of_le (Nat.lt_of_lt_of_le hb hWr) HBB.out.size))
          | with_reducible exact set5k_row HZ9 _ _ _ _ _
          | with_reducible exact set5k_below HBB.out (Nat.le_refl _) _ _ _ _ _
          | with_reducible exact HFx.out w2 (set5k w2 wr.heap.size _ _ _ _ _) _ _ _ _ _ _ _ HF2.out (fun b hb => set5k_off w2 _ _ (by omega) _ _ _ _ _)
      case rest =>
        obtain ⟨g, is, y0, y2, y3, y1, ya, yn, yc, rfl, rfl, HG, HF, HBx⟩ := hcut
        rename World => wx
        have HBWx : Hid (Below W.heap.size W wx) := HBW.out.trans (HBx.out.mono HBW.out.size)
        have HZx : Hid (wx.heap[W.heap.size + 1]? = some (.cells #[.int .i64 0, .string ⟨#[]⟩, .int .i64 0, .int .i64 0, .slice none 0 0] 24 (0, 0))) := blk_keep HBx.out HZr.out
        clear p0 p1 p2 p3 p4
        rcases HF.out with ⟨rfl, x, hfx, e0, e1, e2, e3, e4, hyl⟩ | ⟨rfl, hno⟩
        · subst e0 e1 e2 e3 e4
          have HxI : Hid _ := HIn.out x (List.mem_of_find?_eq_some hfx)
          have HUo : Hid _ := underOf_any x k0 HxI.out.2.1 hk0 HxI.out.1 HxI.out.2.2 _ ya yc wx hyl
          have HAs : Hid (askL (ids.take (i + 1)) t = askL (ids.take i) t ++ lfI (ndT x)) := (by show _ = _; rw [HTk.out]; exact askL_snoc _ _ _ _ hfx)
          have HYes : Hid (z ∈ (ndT t).map Tr.id) := List.mem_map.2 ⟨x, List.mem_of_find?_eq_some hfx, by have := List.find?_some hfx; simpa using this⟩
          have hlx : (lfI (ndT x)).length ≤ 2000 := by
            have h1 := lfI_len (ndT x)
            rw [ndT_len] at h1
            have := HxI.out.1
            omega
          have HI5 : Hid (∀ y ∈ ids.take (i + 1), y ∈ (ndT t).map Tr.id) := fun y hy => (by
            rw [HTk.out] at hy
            rcases List.mem_append.1 hy with h | h
            · exact HIs.out y h
            · rw [List.mem_singleton.1 h]; exact HYes.out)
          obtain ⟨⟨q0, q1, q2, q3, q4⟩, _⟩ := row_five HG.out
          clear hfx hyl
          unfold nodeV at HUo
          go_wp2_with fail
          refine Calls.mono HUo.out ?_
          rintro e w3 ⟨⟨lv, rfl, hown⟩, hb3⟩
          obtain ⟨ua, uc, huv, hul⟩ := lies_own hown
          rw [i64s_len] at huv
          subst huv
          have HUl : Hid (Lies w3 ua (i64s (lfI (ndT x)))) := hul
          have HB3 : Hid (Below wr.heap.size wr w3) := HBx.out.trans (hb3.mono HBx.out.size)
          have hs3 := HB3.out.size
          have HR3 : Hid (w3.ownsRow w0.heap.size 3 1 (.slice ra (askL (ids.take i) t).length rc) (askL (ids.take i) t).length (i64s (askL (ids.take i) t))) := ow_kept HRow.out HB3.out
          have HB03 : Hid (Below w0.heap.size w0 w3) := HBr.out.trans (HB3.out.mono HBr.out.size)
          have HEnd : Hid (∀ (l2 : Value) (w4 : World), w4.ownsRow w0.heap.size 3 1 l2 ((askL (ids.take i) t).length + (lfI (ndT x)).length) (i64s (askL (ids.take i) t) ++ i64s (lfI (ndT x))) → w3.grownBy w4 (Value.slice ra (askL (ids.take i) t).length rc).ownBlock → w4.ownsRow w0.heap.size 3 1 l2 (askL (ids.take (i + 1)) t).length (i64s (askL (ids.take (i + 1)) t)) ∧ Below w0.heap.size w0 w4) := fun l2 w4 h1 h2 => ⟨by rw [HAs.out, i64s_app, List.length_append]; exact h1, HB03.out.grown h2 HB03.out.size (fun k hk => (HR3.out.lt k hk).1)⟩
          clear hown hul hb3
          go_wp2_with (at_builtin; (refine wpList_append_any _ rfl _ _ 25 rfl w0.heap.size 3 iv (.int .i64 0) 1 8 Tryz.underlying25 hvi hv0 hv1 hv2 rfl (by decide) _ _ _ rfl HR3.out ua _ uc (i64s (lfI (ndT x))) rfl (by rw [i64s_len, Nat.mul_one]) (news_i HUl.out) (one_i _) (by unfold maxLen; omega) (by omega) HB03.out.size ?_); intro l2 w4 hown4 hgr4 _; have HF2 : Hid _ := HEnd.out _ _ hown4 hgr4; obtain ⟨a9, c9, rfl⟩ := own_slC hown4)
          go_roundw
          case rel => exact ⟨i + 1, by omega, by go_num, HF2.out.1, HI5, HF2.out.2⟩
          case measure => simp [intOf]; omega
        · have HNo : Hid (∃ i ∈ ids, i ∉ (ndT t).map Tr.id) := ⟨z, HMem.out, hno⟩
          obtain ⟨⟨z0, z1, z2, z3, z4⟩, f0, f1, f2, f3, f4⟩ := row_five HZx.out
          have HRw : Hid _ := row_setC (j := 4) (v := .slice none 0 0) (row_setC (j := 3) (v := .int .i64 0) (row_setC (j := 2) (v := .int .i64 0) (row_setC (j := 1) (v := .string ⟨#[]⟩) (row_setC (j := 0) (v := .int .i64 0) HZx.out))))
          clear hno
          go_wp2
          exact bodyPost_ret (v := .tuple #[.agg #[.int .i64 0, .string ⟨#[]⟩, .int .i64 0, .int .i64 0, .slice none 0 0], .int .i64 6]) (results_cS Tryz.results7 _ _ (W.heap.size + 1) 24 #[.int .i64 0, .string ⟨#[]⟩, .int .i64 0, .int .i64 0, .slice none 0 0] (0, 0) _ (.int .i64 6) rfl rfl HRw.out Tryz.underlying24 rfl (by kernel_rfl)) rfl ⟨.inl ⟨HNo.out, rfl⟩, ((((HBWx.out.setCell (by simp) _).setCell (by simp) _).setCell (by simp) _).setCell (by simp) _).setCell (by simp) _⟩
    · obtain rfl : i = ids.length := by omega
      rw [List.take_length] at HRow HIs hal2
      obtain ⟨⟨z0, z1, z2, z3, z4⟩, f0, f1, f2, f3, f4⟩ := row_five HZr.out
      obtain ⟨Q, HQ⟩ := hid_name (askL ids t)
      rw [List.take_length, HQ.out]
      rw [HQ.out] at HRow hal2
      by_cases hq : Q = []
      · have HE : Hid (askL ids t = []) := HQ.out.trans hq
        have qu : ((Q.length : Int) == 0) = true := by simp [hq]
        have HRw : Hid _ := row_setC (j := 4) (v := .slice none 0 0) (row_setC (j := 3) (v := .int .i64 0) (row_setC (j := 2) (v := .int .i64 0) (row_setC (j := 1) (v := .string ⟨#[]⟩) (row_setC (j := 0) (v := .int .i64 0) HZr.out))))
        obtain ⟨un, HUn⟩ := hid_name Q.length
        rw [HUn.out] at qu ⊢
        clear hq
        go_wp2
        exact bodyPost_ret (v := .tuple #[.agg #[.int .i64 0, .string ⟨#[]⟩, .int .i64 0, .int .i64 0, .slice none 0 0], .int .i64 3]) (results_cS Tryz.results7 _ _ (W.heap.size + 1) 24 #[.int .i64 0, .string ⟨#[]⟩, .int .i64 0, .int .i64 0, .slice none 0 0] (0, 0) _ (.int .i64 3) rfl rfl HRw.out Tryz.underlying24 rfl (by kernel_rfl)) rfl ⟨.inr (.inl ⟨HIs.out, HE.out, rfl⟩), ((((HBW.out.setCell (by simp) _).setCell (by simp) _).setCell (by simp) _).setCell (by simp) _).setCell (by simp) _⟩
      · have HE : Hid (askL ids t ≠ []) := (by show _ ≠ _; rw [HQ.out]; exact hq)
        have hq0 : 0 < Q.length := List.length_pos_iff.2 hq
        have qu : ((Q.length : Int) == 0) = false := by simp; omega
        obtain ⟨qa, qc, hqv, hql⟩ := lies_own HRow.out
        rw [i64s_len] at hqv
        injection hqv with hq1 hq2 hq3
        subst hq1
        have HKp : Hid _ := keepR_any Q ra rc (by omega) (SizeOf.sizeOf t + 1) t (Nat.lt_succ_self _) HSm.out k0 HD.out hk0 (by omega) P a c wr (HL.out.keep HBW.out) hql
        clear hq hql hq2 hq3
        unfold nodeV at HKp
        go_wp2_with fail
        refine Calls.mono HKp.out ?_
        rintro e w3 ⟨⟨a3, c3, rfl, hl3, hc3⟩, hb3⟩
        have HB3 : Hid (Below W.heap.size W w3) := HBW.out.trans (hb3.mono HBW.out.size)
        have HZ3 : Hid (w3.heap[W.heap.size + 1]? = some (.cells #[.int .i64 0, .string ⟨#[]⟩, .int .i64 0, .int .i64 0, .slice none 0 0] 24 (0, 0))) := blk_keep hb3 HZr.out
        have hz3 := lt_of_block HZr.out
        have HL3 : Hid (LiesN w3 (fun b => wr.heap.size ≤ b) a3 (rkL Q t.sub)) := hl3
        clear hl3 hb3 z0 z1 z2 z3 z4 f0 f1 f2 f3 f4
        obtain ⟨⟨z0, z1, z2, z3, z4⟩, f0, f1, f2, f3, f4⟩ := row_five HZ3.out
        obtain ⟨us, HUs⟩ := hid_name (rkL Q t.sub)
        rw [HUs.out] at HL3 hc3 ⊢
        have HRw : Hid _ := row_setC (j := 4) (v := .slice a3 us.length c3) (row_setC (j := 3) (v := .int .i64 t.kind) (row_setC (j := 2) (v := .int .i64 t.rep) (row_setC (j := 1) (v := .string t.nm) (row_setC (j := 0) (v := .int .i64 t.id) HZ3.out))))
        go_wp2
        refine bodyPost_ret (v := .tuple #[.agg #[.int .i64 t.id, .string t.nm, .int .i64 t.rep, .int .i64 t.kind, .slice a3 us.length c3], .int .i64 0]) (results_cS Tryz.results7 _ _ (W.heap.size + 1) 24 #[.int .i64 t.id, .string t.nm, .int .i64 t.rep, .int .i64 t.kind, .slice a3 us.length c3] (0, 0) _ (.int .i64 0) rfl rfl HRw.out Tryz.underlying24 rfl (by kernel_rfl)) rfl ⟨.inr (.inr ⟨HIs.out, HE.out, a3, c3, ?_, ?_, ?_⟩), ?_⟩
        · rw [HQ.out, HUs.out]
        · rw [HQ.out, HUs.out]
          exact HL3.out.stay (fun b h _ => by omega) (fun b h _ => by
            have h2 : b ≠ W.heap.size + 1 := by omega
            rw [Below.heap_setCell _ _ _ _ h2, Below.heap_setCell _ _ _ _ h2, Below.heap_setCell _ _ _ _ h2, Below.heap_setCell _ _ _ _ h2, Below.heap_setCell _ _ _ _ h2])
        · rw [HQ.out, HUs.out]
          exact hc3
        · exact ((((HB3.out.setCell (by simp) _).setCell (by simp) _).setCell (by simp) _).setCell (by simp) _).setCell (by simp) _
end Go.Proofs.YtefgompkpjeneaaGreatDoor
