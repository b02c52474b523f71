/-
  schema.Project of a right schema: exact.
  Copies of ints; a projection is no larger.
-/
import Derived.Test.YteonbmaokphleaaGreatDoorHPjZ
import Derived.Deep.RegionHeld3
import Derived.Deep.DeepCutAuto
import Derived.Test.YteonbmaokphleaaGreatDoorHAppAny
import Derived.Test.YteonbmaokphleaaGreatDoorHBIds
namespace Go.Proofs.YteonbmaokphleaaGreatDoor
open Go.RowKit Go.Maps
theorem hidJ {p : Prop} (h : p) : Hid p := h
abbrev set5 (w : World) (g : Nat) (x0 x1 x2 x3 x4 : Value) : World := ((((w.setCell ⟨g, 0, none⟩ x0).setCell ⟨g, 1, none⟩ x1).setCell ⟨g, 2, none⟩ x2).setCell ⟨g, 3, none⟩ x3).setCell ⟨g, 4, none⟩ x4
theorem set5_row {w : World} {g : Nat} {T : TypeId} {z0 z1 z2 z3 z4 : Value} (h : w.heap[g]? = some (.cells #[z0, z1, z2, z3, z4] T (0, 0))) (x0 x1 x2 x3 x4 : Value) : (set5 w g x0 x1 x2 x3 x4).heap[g]? = some (.cells #[x0, x1, x2, x3, x4] T (0, 0)) := row_setC (row_setC (row_setC (row_setC (row_setC h))))
theorem set5_off (w : World) (g k : Nat) (h : k ≠ g) (x0 x1 x2 x3 x4 : Value) : (set5 w g x0 x1 x2 x3 x4).heap[k]? = w.heap[k]? := by
 rw [Below.heap_setCell _ _ _ _ h, Below.heap_setCell _ _ _ _ h, Below.heap_setCell _ _ _ _ h, Below.heap_setCell _ _ _ _ h, Below.heap_setCell _ _ _ _ h]
theorem set5_below {B g : Nat} {w w' : World} (hb : Below B w w') (hB : B ≤ g) (x0 x1 x2 x3 x4 : Value) : Below B w (set5 w' g x0 x1 x2 x3 x4) := ((((hb.setCell hB _).setCell hB _).setCell hB _).setCell hB _).setCell hB _
def PrR (t : Tr) (ids : List Int) (no sh : Value) (N : Nat) (e : Ending) (w' : World) : Prop :=
 ((∃ i ∈ ids, i ∉ (ndT t).map Tr.id) ∧ e = .returned (.tuple #[.agg #[.int .i64 0, .string ⟨#[]⟩, .int .i64 0, .int .i64 0, .slice none 0 0], no])) ∨
 ((∀ i ∈ ids, i ∈ (ndT t).map Tr.id) ∧ kpL (fun i => (stayI ids t).contains i) t.sub = [] ∧ e = .returned (.tuple #[.agg #[.int .i64 0, .string ⟨#[]⟩, .int .i64 0, .int .i64 0, .slice none 0 0], sh])) ∨
 ((∀ i ∈ ids, i ∈ (ndT t).map Tr.id) ∧ kpL (fun i => (stayI ids t).contains i) t.sub ≠ [] ∧ ∃ a' c', e = .returned (.tuple #[.agg #[.int .i64 t.id, .string t.nm, .int .i64 t.rep, .int .i64 t.kind, .slice a' (kpL (fun i => (stayI ids t).contains i) t.sub).length c'], .nilIface]) ∧ LiesN w' (fun b => N ≤ b) a' (kpL (fun i => (stayI ids t).contains i) t.sub) ∧ (kpL (fun i => (stayI ids t).contains i) t.sub).length ≤ c')
set_option maxRecDepth 100000 in
set_option maxHeartbeats 6400000 in
theorem project_any (t : Tr) (n : Nat) (hd : t.Dp n) (hn : n ≤ 900) (hs : t.Sm) (hr : vldN t = 0) (hcn : t.cnt ≤ 800) (ids : List Int) (ia : Option Addr) (ic : Nat) (hil : ids.length ≤ 1000) (hix : ∀ x ∈ ids, -9223372036854775808 ≤ x ∧ x ≤ 9223372036854775807) (a : Option Addr) (c : Nat) (P : Nat → Prop) (W : World) (hl : LiesN W P a t.sub) (hcap : t.sub.length ≤ c) (hli : Lies W ia (i64s ids)) (eb es en eo : TypeId × Value) (he : Er3 W eb es en) (hgo : W.cell? ⟨2, 0, none⟩ = some (.iface eo.1 eo.2)) :
    Calls Tryz.prog 33 #[nodeV t a c, .slice ia ids.length ic] W fun e w' => PrR t ids (.iface eo.1 eo.2) (.iface es.1 es.2) W.heap.size e w' ∧ Below W.heap.size W w' := by
 have hmm := @run_makeMap Tryz.prog
 obtain ⟨w0, HW0, HX, HZ, HB⟩ := two_boxesS W #[.int .i64 t.id, .string t.nm, .int .i64 t.rep, .int .i64 t.kind, .slice a t.sub.length c] #[.int .i64 0, .string ⟨#[]⟩, .int .i64 0, .int .i64 0, .slice none 0 0] 24 24
 have he0 := he.keep HB.out
 have HV := valid_any t n hd (by omega) hs a c P w0 (hl.keep HB.out) hcap eb es en he0.b he0.s he0.n
 rw [vldV_nil hr] at HV
 have HV : Hid _ := HV
 have HL : Hid (LiesN W P a t.sub) := hl
 have HLi : Hid (Lies W ia (i64s ids)) := hli
 have HSm : Hid t.Sm := hs
 have HD : Hid (t.Dp n) := hd
 have HIx : Hid (∀ x ∈ ids, -9223372036854775808 ≤ x ∧ x ≤ 9223372036854775807) := hix
 have HGo : Hid (∀ X, Below W.heap.size W X → X.cell? ⟨2, 0, none⟩ = some (.iface eo.1 eo.2)) := fun X hX => (hX.cell (World.block_lt_of_cell? W _ hgo)).trans hgo
 have hgl : 1 < W.heap.size := World.block_lt_of_cell? W _ he.s
 have hgA : ¬ W.heap.size + 1 = 1 := by omega
 have hgB : ¬ 1 = W.heap.size + 1 := by omega
 have hgC : ¬ W.heap.size = 0 := by omega
 have hgD : 1 ≤ W.heap.size := by omega
 have HGs : Hid (∀ X, Below W.heap.size W X → X.cell? ⟨1, 0, none⟩ = some (.iface es.1 es.2)) := fun X hX => (hX.cell (World.block_lt_of_cell? W _ he.s)).trans he.s
 obtain ⟨⟨p0, p1, p2, p3, p4⟩, _⟩ := row_five HX.out
 clear hl hd hs he he0 hgo hr hli hix
 unfold nodeV at *
 go_enter Tryz.func33, Tryz.ntmps33
 go_upto_region 1 with fail
 rw [HW0.out]
 go_wp2_with fail
 refine Calls.mono HV.out ?_
 rintro e w1 ⟨rfl, hb1⟩
 have HB1 : Hid (Below W.heap.size W w1) := HB.out.trans (hb1.mono HB.out.size)
 have HX1 : Hid (w1.heap[W.heap.size]? = some (.cells #[.int .i64 t.id, .string t.nm, .int .i64 t.rep, .int .i64 t.kind, .slice a t.sub.length c] 24 (0, 0))) := blk_keep hb1 HX.out
 have HZ1 : Hid (w1.heap[W.heap.size + 1]? = some (.cells #[.int .i64 0, .string ⟨#[]⟩, .int .i64 0, .int .i64 0, .slice none 0 0] 24 (0, 0))) := blk_keep hb1 HZ.out
 clear hb1 HV p0 p1 p2 p3 p4
 obtain ⟨⟨p0, p1, p2, p3, p4⟩, _⟩ := row_five HX1.out
 have HIo : Hid _ := idsOf_any t n HD.out (by omega) HSm.out (by omega) a c P w1 (HL.out.keep HB1.out) hcap
 unfold nodeV at HIo
 go_wp2_with fail
 refine Calls.mono HIo.out ?_
 rintro e w2 ⟨⟨ab, rfl, hall, hab⟩, hb2⟩
 have HB2 : Hid (Below W.heap.size W w2) := HB1.out.trans (hb2.mono HB1.out.size)
 have HX2 : Hid (w2.heap[W.heap.size]? = some (.cells #[.int .i64 t.id, .string t.nm, .int .i64 t.rep, .int .i64 t.kind, .slice a t.sub.length c] 24 (0, 0))) := blk_keep hb2 HX1.out
 have HZ2 : Hid (w2.heap[W.heap.size + 1]? = some (.cells #[.int .i64 0, .string ⟨#[]⟩, .int .i64 0, .int .i64 0, .slice none 0 0] 24 (0, 0))) := blk_keep hb2 HZ1.out
 have HAll : Hid (SetI ab ((ndT t).map Tr.id) w2) := hall
 have habl := hall.lt
 clear hb2 HIo hall p0 p1 p2 p3 p4
 obtain ⟨w3, HW3⟩ := hid_name (w2.alloc (.map #[] 0))
 have HB23 : Hid (Below w2.heap.size w2 w3) := (by rw [← HW3.out]; exact (Below.refl _ _).alloc (Nat.le_refl _) _)
 have HB3 : Hid (Below W.heap.size W w3) := HB2.out.trans (HB23.out.mono HB2.out.size)
 have HQ3 : Hid (SetI w2.heap.size [] w3) := ⟨by simp, by rw [← HW3.out]; exact World.ownsMap_made w2 Tryz.prog 3 (unitElem (H := Unit))⟩
 have hsz2 := HB2.out.size
 have hsz3 := HB23.out.size
 have hq3 := HQ3.out.lt
 have hz2 := lt_of_block HZ2.out
 go_wp2_with fail
 first | rw [HW3.out] | skip
 go_loopw [23] (fun x wr => ∃ i : Nat, i ≤ ids.length ∧ x = .int .i64 i ∧ Hid (SetI w2.heap.size (ids.take i) wr) ∧ Hid (∀ y ∈ ids.take i, y ∈ (ndT t).map Tr.id) ∧ Hid (w3.grownBy wr (some w2.heap.size))) (fun x _ => ids.length - (intOf x).toNat)
 case atStart => exact ⟨0, Nat.zero_le _, rfl, by rw [List.take_zero]; exact HQ3.out, fun y hy => by simp at hy, ⟨rfl, rfl, rfl, Nat.le_refl _, fun _ _ _ => rfl⟩⟩
 case round =>
  obtain ⟨i, hik, rfl, HSt, HIn, HGr⟩ := hrel
  have hgs := HGr.out.size
  have HBr2 : Hid (Below w2.heap.size w2 wr) := HB23.out.trans ⟨HGr.out.os, HGr.out.tape, HGr.out.output, HGr.out.size, fun k hk => HGr.out.block k (by omega) (by simp; omega)⟩
  have HBr : Hid (Below W.heap.size W wr) := HB2.out.trans (HBr2.out.mono HB2.out.size)
  have HZr : Hid (wr.heap[W.heap.size + 1]? = some (.cells #[.int .i64 0, .string ⟨#[]⟩, .int .i64 0, .int .i64 0, .slice none 0 0] 24 (0, 0))) := blk_keep HBr2.out HZ2.out
  have HXr : Hid (wr.heap[W.heap.size]? = some (.cells #[.int .i64 t.id, .string t.nm, .int .i64 t.rep, .int .i64 t.kind, .slice a t.sub.length c] 24 (0, 0))) := blk_keep HBr2.out HX2.out
  by_cases hlt : i < ids.length
  · obtain ⟨b1, o1, rfl, e1⟩ := (HLi.out.keep HBr.out) i (by rw [i64s_len]; exact hlt)
    have g1 : wr.cell? ⟨b1, o1 + i, none⟩ = some (.int .i64 ids[i]) := by simpa [i64s] using e1
    clear e1
    have HTk : Hid (ids.take (i + 1) = ids.take i ++ [ids[i]]) := List.take_succ_eq_append_getElem hlt
    have hxi := HIx.out _ (List.getElem_mem hlt)
    have HMem : Hid (ids[i] ∈ ids) := List.getElem_mem hlt
    obtain ⟨z, HZz⟩ := hid_name ids[i]
    rw [HZz.out] at g1 HTk hxi HMem
    have HH : Hid _ := has_any ab ((ndT t).map Tr.id) z hxi wr (HAll.out.keep HBr2.out)
    go_wp2_with fail
    refine Calls.mono HH.out ?_
    rintro e w4 ⟨rfl, hb4⟩
    have HB4 : Hid (Below wr.heap.size wr w4) := hb4
    have HBW4 : Hid (Below W.heap.size W w4) := HBr.out.trans (hb4.mono HBr.out.size)
    have HZ4 : Hid (w4.heap[W.heap.size + 1]? = some (.cells #[.int .i64 0, .string ⟨#[]⟩, .int .i64 0, .int .i64 0, .slice none 0 0] 24 (0, 0))) := blk_keep hb4 HZr.out
    clear hb4
    cases hcz : ((ndT t).map Tr.id).contains z with
    | false =>
     have HNo : Hid (∃ i ∈ ids, i ∉ (ndT t).map Tr.id) := ⟨z, HMem.out, fun h => by
      have h2 := List.contains_iff_mem.2 h
      rw [hcz] at h2
      cases h2⟩
     obtain ⟨⟨z0, z1, z2, z3, z4⟩, f0, f1, f2, f3, f4⟩ := row_five HZ4.out
     have go := HGo.out w4 HBW4.out
     have HRw : Hid _ := row_setC (j := 4) (v := .slice none 0 0) (row_setC (j := 3) (v := .int .i64 0) (row_setC (j := 2) (v := .int .i64 0) (row_setC (j := 1) (v := .string ⟨#[]⟩) (row_setC (j := 0) (v := .int .i64 0) HZ4.out))))
     have HRd : Hid _ := row_setC (j := 4) (v := .slice none 0 0) (row_setC (j := 3) (v := .int .i64 0) (row_setC (j := 2) (v := .int .i64 0) (row_setC (j := 1) (v := .string ⟨#[]⟩) (row_setC (w := w4.drew) (j := 0) (v := .int .i64 0) HZ4.out))))
     clear hcz
     go_upto_region 10 with fail
     go_region
     all_goals
      go_wp2
      refine bodyPost_ret (v := .tuple #[.agg #[.int .i64 0, .string ⟨#[]⟩, .int .i64 0, .int .i64 0, .slice none 0 0], .iface eo.1 eo.2]) (results_cS Tryz.results33 _ _ (W.heap.size + 1) 24 #[.int .i64 0, .string ⟨#[]⟩, .int .i64 0, .int .i64 0, .slice none 0 0] (0, 0) _ (.iface eo.1 eo.2) rfl rfl (by first | exact HRd.out | exact HRw.out) Tryz.underlying24 rfl (by kernel_rfl)) rfl ⟨.inl ⟨HNo.out, rfl⟩, ?_⟩
      first
       | exact ((((HBW4.out.drew.setCell (by simp) _).setCell (by simp) _).setCell (by simp) _).setCell (by simp) _).setCell (by simp) _
       | exact ((((HBW4.out.setCell (by simp) _).setCell (by simp) _).setCell (by simp) _).setCell (by simp) _).setCell (by simp) _
    | true =>
     have HYes : Hid (z ∈ (ndT t).map Tr.id) := List.contains_iff_mem.1 hcz
     have HA : Hid _ := add_any w2.heap.size (ids.take i) z hxi (by simp; omega) w4 (HSt.out.keep HB4.out)
     clear hcz
     go_wp2_with fail
     refine Calls.mono HA.out ?_
     rintro e w5 ⟨rfl, hset, hg5⟩
     have HS5 : Hid (SetI w2.heap.size (ids.take (i + 1)) w5) := (by show SetI _ _ _; rw [HTk.out]; exact hset)
     have HI5 : Hid (∀ y ∈ ids.take (i + 1), y ∈ (ndT t).map Tr.id) := fun y hy => (by
      rw [HTk.out] at hy
      rcases List.mem_append.1 hy with h | h
      · exact HIn.out y h
      · rw [List.mem_singleton.1 h]; exact HYes.out)
     have HG5 : Hid (w3.grownBy w5 (some w2.heap.size)) := grown_trans (grown_trans HGr.out ⟨HB4.out.os, HB4.out.tape, HB4.out.output, HB4.out.size, fun k hk _ => HB4.out.block k hk⟩) hg5
     clear hset hg5
     go_wp2
     go_roundw
     case rel => exact ⟨i + 1, by omega, by go_num, HS5, HI5, HG5⟩
     case measure => simp [intOf]; omega
  · obtain rfl : i = ids.length := by omega
    rw [List.take_length] at HSt HIn
    rename World => wl
    obtain ⟨us, HUs⟩ := hid_name (kpL (fun i => (stayI ids t).contains i) t.sub)
    have hszl := HBr.out.size
    have HLl : Hid (LiesN wl P a t.sub) := HL.out.keep HBr.out
    have HSy : Hid (∀ X, Below wl.heap.size wl X → Calls Tryz.prog 59 #[.agg #[.int .i64 t.id, .string t.nm, .int .i64 t.rep, .int .i64 t.kind, .slice a t.sub.length c], .map (some w2.heap.size)] X fun e w' => (∃ mb, e = .returned (.map (some mb)) ∧ SetI mb (stayI ids t) w' ∧ X.heap.size ≤ mb) ∧ Below X.heap.size X w') := fun X hX => staying_any t n HD.out hn HSm.out hcn w2.heap.size ids a c P X (HLl.out.keep hX) hcap (HSt.out.keep hX)
    have HCp : Hid (∀ mb X, Below wl.heap.size wl X → SetI mb (stayI ids t) X → Calls Tryz.prog 58 #[.agg #[.int .i64 t.id, .string t.nm, .int .i64 t.rep, .int .i64 t.kind, .slice a t.sub.length c], .func (.func (56)) #[.map (some mb)] #[]] X fun e w' => (∃ a' c', e = .returned (.agg #[.int .i64 t.id, .string t.nm, .int .i64 t.rep, .int .i64 t.kind, .slice a' us.length c']) ∧ LiesN w' (fun b => X.heap.size ≤ b) a' us ∧ us.length ≤ c') ∧ Below X.heap.size X w') := fun mb X hX hset => (by rw [← HUs.out]; exact copyHas_any mb (stayI ids t) (SizeOf.sizeOf t + 1) t (Nat.lt_succ_self _) HSm.out P a c X (HLl.out.keep hX) hset)
    obtain ⟨⟨p0, p1, p2, p3, p4⟩, _⟩ := row_five HXr.out
    have b0 : Below wl.heap.size wl wl := Below.refl _ _
    have HN : Hid (∀ X, Below wl.heap.size wl X → (X.cell? ⟨W.heap.size, 0, none⟩ = some (.int .i64 t.id) ∧ X.cell? ⟨W.heap.size, 1, none⟩ = some (.string t.nm) ∧ X.cell? ⟨W.heap.size, 2, none⟩ = some (.int .i64 t.rep) ∧ X.cell? ⟨W.heap.size, 3, none⟩ = some (.int .i64 t.kind) ∧ X.cell? ⟨W.heap.size, 4, none⟩ = some (.slice a t.sub.length c)) ∧ Below wl.heap.size wl X) := fun X hX => (by
     have k9 : ∀ (ad : Addr) (v : Value), wl.cell? ad = some v → X.cell? ad = some v := fun ad v h => (hX.cell (World.block_lt_of_cell? wl _ h)).trans h
     exact ⟨⟨k9 _ _ p0, k9 _ _ p1, k9 _ _ p2, k9 _ _ p3, k9 _ _ p4⟩, hX⟩)
    go_upto_region 13 with fail
    go_cut [11] (fun x wx => ∃ (g : Nat) (a' : Option Addr) (c' : Nat), x = .pointer (some ⟨g, 0, none⟩) ∧ wl.heap.size ≤ g ∧ Hid (wx.heap[g]? = some (.cells #[.int .i64 t.id, .string t.nm, .int .i64 t.rep, .int .i64 t.kind, .slice a' us.length c'] 24 (0, 0))) ∧ Hid (LiesN wx (fun b => wl.heap.size ≤ b) a' us) ∧ us.length ≤ c' ∧ Hid (Below wl.heap.size wl wx))
    case first =>
     go_region_held3 (fun X => (X.cell? ⟨W.heap.size, 0, none⟩ = some (.int .i64 t.id) ∧ X.cell? ⟨W.heap.size, 1, none⟩ = some (.string t.nm) ∧ X.cell? ⟨W.heap.size, 2, none⟩ = some (.int .i64 t.rep) ∧ X.cell? ⟨W.heap.size, 3, none⟩ = some (.int .i64 t.kind) ∧ X.cell? ⟨W.heap.size, 4, none⟩ = some (.slice a t.sub.length c)) ∧ Below wl.heap.size wl X) (with_reducible refine HN.out _ ?_; repeat' (first | with_reducible assumption | with_reducible exact b0.drew | with_reducible exact b0 | with_reducible refine Below.drew ?_ | with_reducible exact Nat.le_refl _ | with_reducible refine Below.setCell ?_ ?_ _ | with_reducible refine Below.alloc ?_ ?_ _ | with_reducible exact Below.size (by assumption) | (simp; done) | (simp; omega) | omega)) (first | (go_at_call 59; (with_reducible refine Calls.mono (HSy.out _ ?_) ?_); (repeat' (first | with_reducible assumption | with_reducible exact b0.drew | with_reducible exact b0 | with_reducible refine Below.drew ?_ | with_reducible refine Below.alloc ?_ ?_ _ | with_reducible exact Below.size (by assumption) | with_reducible exact Nat.le_refl _ | (simp; done) | (simp; omega))); rintro e x1 ⟨⟨mb, rfl, hset, hmb⟩, hbx1⟩; have hbb1 : Below wl.heap.size wl x1 := (by refine Below.trans ?_ (hbx1.mono ?_); (repeat' (first | with_reducible assumption | with_reducible exact b0.drew | with_reducible exact b0 | with_reducible refine Below.drew ?_ | with_reducible refine Below.alloc ?_ ?_ _ | with_reducible exact Below.size (by assumption) | with_reducible exact Nat.le_refl _ | (simp; done) | (simp; omega)))); have hsb1 := hbb1.size; have hsx1 := hbx1.size; (try simp only [World.size_alloc] at hsx1); (first | (have hzz := blk_keep hbx1 hzz0; clear hzz0; have hzz0 := hzz; clear hzz) | (have hzz0 := blk_keep hbx1 (blk_drew (heap_alloc_new _ (.cells #[.int .i64 0, .string ⟨#[]⟩, .int .i64 0, .int .i64 0, .slice none 0 0] 24)))) | (have hzz0 := blk_keep hbx1 (heap_alloc_new _ (.cells #[.int .i64 0, .string ⟨#[]⟩, .int .i64 0, .int .i64 0, .slice none 0 0] 24))) | skip); (first | (have hgx := lt_of_block hzz0; have hzz1 := hzz0; clear hzz0; have hzz0 := hzz1; clear hzz1) | skip)) | (go_at_call 58; (with_reducible refine Calls.mono (HCp.out _ _ ?_ ?_) ?_); (repeat' (first | with_reducible exact hset | with_reducible exact hset.keep ((Below.refl _ _).alloc (Nat.le_refl _) _) | with_reducible exact hset.keep ((Below.refl _ _).alloc (Nat.le_refl _) _).drew | with_reducible assumption | with_reducible exact b0.drew | with_reducible exact b0 | with_reducible refine Below.drew ?_ | with_reducible refine Below.alloc ?_ ?_ _ | with_reducible exact Below.size (by assumption) | with_reducible exact Nat.le_refl _ | (simp; done) | (simp; omega))); rintro e x2 ⟨⟨a2, c2, rfl, hl2, hc2⟩, hbx2⟩; have hbb2 : Below wl.heap.size wl x2 := (by refine Below.trans ?_ (hbx2.mono ?_); (repeat' (first | with_reducible assumption | with_reducible exact b0.drew | with_reducible exact b0 | with_reducible refine Below.drew ?_ | with_reducible refine Below.alloc ?_ ?_ _ | with_reducible exact Below.size (by assumption) | with_reducible exact Nat.le_refl _ | (simp; done) | (simp; omega)))); have hsb2 := hbb2.size; have HL2 : Hid _ := hl2; have HL3 : Hid (LiesN x2 (fun b => wl.heap.size ≤ b) a2 us) := hl2.stay (fun b h _ => by first | omega | (simp at h; omega)) (fun _ _ _ => rfl); have hsx2 := hbx2.size; (try simp only [World.size_alloc] at hsx2); clear hl2; (first | (have hzz := blk_keep hbx2 hzz0; clear hzz0; have hzz0 := hzz; clear hzz) | (have hzz0 := blk_keep hbx2 (blk_drew (heap_alloc_new _ (.cells #[.int .i64 0, .string ⟨#[]⟩, .int .i64 0, .int .i64 0, .slice none 0 0] 24)))) | (have hzz0 := blk_keep hbx2 (heap_alloc_new _ (.cells #[.int .i64 0, .string ⟨#[]⟩, .int .i64 0, .int .i64 0, .slice none 0 0] 24))) | skip); (first | (have HZZ : Hid _ := hzz0; obtain ⟨⟨v0, v1, v2, v3, v4⟩, i0, i1, i2, i3, i4⟩ := row_five hzz0; clear hzz0) | skip)))
     · go_wp2_with fail
       go_meet
       refine ⟨_, a2, c2, rfl, ?_, hidJ ?_, hidJ ?_, hc2, hidJ ?_⟩
       · with_reducible exact hsb2
       · with_reducible exact heap_alloc_new x2 _
       · exact HL3.out.keep ((Below.refl _ _).alloc (Nat.le_refl _) _)
       · exact hbb2.alloc hsb2 _
     all_goals
      go_wp2_with fail
      go_meet
      refine ⟨_, a2, c2, rfl, ?_, hidJ ?_, hidJ ?_, hc2, hidJ ?_⟩
      · first | with_reducible exact Nat.le_refl _ | with_reducible exact hsb1
      · with_reducible exact set5_row HZZ.out _ _ _ _ _
      · exact LiesN.stay HL2.out (fun b h _ => by first | omega | (simp at h; omega)) (fun b h _ => set5_off _ _ _ (by first | omega | (simp at h; omega)) _ _ _ _ _)
      · first | with_reducible exact set5_below hbb2 (Nat.le_refl _) _ _ _ _ _ | with_reducible exact set5_below hbb2 hsb1 _ _ _ _ _
    case rest =>
     obtain ⟨g, a', c', rfl, hgl, HRow, HLq, hcq, HBx⟩ := hcut
     rename World => wx
     have HBW : Hid (Below W.heap.size W wx) := HBr.out.trans (HBx.out.mono HBr.out.size)
     have HZx : Hid (wx.heap[W.heap.size + 1]? = some (.cells #[.int .i64 0, .string ⟨#[]⟩, .int .i64 0, .int .i64 0, .slice none 0 0] 24 (0, 0))) := blk_keep HBx.out HZr.out
     have hzl := lt_of_block HZr.out
     clear p0 p1 p2 p3 p4 HN
     obtain ⟨⟨q0, q1, q2, q3, q4⟩, _⟩ := row_five HRow.out
     obtain ⟨⟨z0, z1, z2, z3, z4⟩, f0, f1, f2, f3, f4⟩ := row_five HZx.out
     by_cases hus : us = []
     · have HNil : Hid (kpL (fun i => (stayI ids t).contains i) t.sub = []) := (by show _ = _; rw [HUs.out]; exact hus)
       have hu0 : us.length = 0 := by rw [hus]; rfl
       have qu : ((us.length : Int) == 0) = true := by simp [hu0]
       have go := HGs.out wx HBW.out
       have HRw : Hid _ := row_setC (j := 4) (v := .slice none 0 0) (row_setC (j := 3) (v := .int .i64 0) (row_setC (j := 2) (v := .int .i64 0) (row_setC (j := 1) (v := .string ⟨#[]⟩) (row_setC (j := 0) (v := .int .i64 0) HZx.out))))
       have HRd : Hid _ := row_setC (j := 4) (v := .slice none 0 0) (row_setC (j := 3) (v := .int .i64 0) (row_setC (j := 2) (v := .int .i64 0) (row_setC (j := 1) (v := .string ⟨#[]⟩) (row_setC (w := wx.drew) (j := 0) (v := .int .i64 0) HZx.out))))
       obtain ⟨un, HUn⟩ := hid_name us.length
       rw [HUn.out] at q4 qu hu0
       clear hus HRow HLq hcq
       go_upto_region 15 with fail
       go_region
       all_goals
        go_wp2
        refine bodyPost_ret (v := .tuple #[.agg #[.int .i64 0, .string ⟨#[]⟩, .int .i64 0, .int .i64 0, .slice none 0 0], .iface es.1 es.2]) (results_cS Tryz.results33 _ _ (W.heap.size + 1) 24 #[.int .i64 0, .string ⟨#[]⟩, .int .i64 0, .int .i64 0, .slice none 0 0] (0, 0) _ (.iface es.1 es.2) rfl rfl (by first | exact HRd.out | exact HRw.out) Tryz.underlying24 rfl (by kernel_rfl)) rfl ⟨.inr (.inl ⟨HIn.out, HNil.out, rfl⟩), ?_⟩
        first
         | exact ((((HBW.out.drew.setCell (by simp) _).setCell (by simp) _).setCell (by simp) _).setCell (by simp) _).setCell (by simp) _
         | exact ((((HBW.out.setCell (by simp) _).setCell (by simp) _).setCell (by simp) _).setCell (by simp) _).setCell (by simp) _
     · have HNe : Hid (kpL (fun i => (stayI ids t).contains i) t.sub ≠ []) := (by show _ ≠ _; rw [HUs.out]; exact hus)
       have hu0 : 0 < us.length := List.length_pos_iff.2 hus
       have qu : ((us.length : Int) == 0) = false := by simp; omega
       have HRw : Hid _ := row_setC (j := 4) (v := .slice a' us.length c') (row_setC (j := 3) (v := .int .i64 t.kind) (row_setC (j := 2) (v := .int .i64 t.rep) (row_setC (j := 1) (v := .string t.nm) (row_setC (j := 0) (v := .int .i64 t.id) HZx.out))))
       have HEnd : Hid (∀ w', Below W.heap.size W w' → (∀ b, wl.heap.size ≤ b → w'.heap[b]? = wx.heap[b]?) → PrR t ids (.iface eo.1 eo.2) (.iface es.1 es.2) W.heap.size (.returned (.tuple #[.agg #[.int .i64 t.id, .string t.nm, .int .i64 t.rep, .int .i64 t.kind, .slice a' us.length c'], .nilIface])) w') := fun w' hw' hb' => (by
        refine .inr (.inr ⟨HIn.out, HNe.out, a', c', ?_, ?_, ?_⟩)
        · rw [HUs.out]
        · rw [HUs.out]
          exact HLq.out.stay (fun b h _ => by omega) (fun b h _ => hb' b h)
        · rw [HUs.out]
          exact hcq)
       clear hus
       go_wp2
       refine bodyPost_ret (v := .tuple #[.agg #[.int .i64 t.id, .string t.nm, .int .i64 t.rep, .int .i64 t.kind, .slice a' us.length c'], .nilIface]) (results_cS Tryz.results33 _ _ (W.heap.size + 1) 24 #[.int .i64 t.id, .string t.nm, .int .i64 t.rep, .int .i64 t.kind, .slice a' us.length c'] (0, 0) _ .nilIface rfl rfl HRw.out Tryz.underlying24 rfl (by kernel_rfl)) rfl ?_
       have hbz := set5_below HBW.out (show W.heap.size ≤ W.heap.size + 1 by omega) (.int .i64 t.id) (.string t.nm) (.int .i64 t.rep) (.int .i64 t.kind) (.slice a' us.length c')
       exact ⟨HEnd.out _ hbz (fun b h => set5_off _ _ _ (by omega) _ _ _ _ _), hbz⟩
end Go.Proofs.YteonbmaokphleaaGreatDoor
namespace Go.Proofs.YteonbmaokphleaaGreatDoor
open Go.RowKit
theorem rk_sm (L : List Int) : ∀ (n : Nat) (t : Tr), SizeOf.sizeOf t < n → t.Sm → (rkT L t).Sm
 | 0, t, h => absurd h (Nat.not_lt_zero _)
 | n + 1, .node id nm rep kind sub, hsz => fun hs => by
  have hall : ∀ (ts : List Tr), (∀ c ∈ ts, c ∈ sub) → ∀ u ∈ rkL L ts, u.Sm := fun ts => by
   induction ts with
   | nil => intro _ u hu; simp [rkL] at hu
   | cons c cs ih =>
    intro hcs u hu
    have hc : c ∈ (Tr.node id nm rep kind sub).sub := hcs c (by simp)
    have hcS : c.Sm := by
     obtain ⟨j, hj, rfl⟩ := List.getElem_of_mem hc
     exact hs.at_ j hj
    have hlt : SizeOf.sizeOf c < n := by have := sub_lt hc; omega
    rw [rkL] at hu
    split at hu
    · rcases List.mem_cons.1 hu with rfl | hu
      · exact rk_sm L n c hlt hcS
      · exact ih (fun c' h => hcs c' (by simp [h])) u hu
    · exact ih (fun c' h => hcs c' (by simp [h])) u hu
  rw [rkT]
  refine .mk id nm rep kind _ hs.id_ hs.nm (Nat.le_trans (rkL_len L sub) hs.len) (fun j hj => hall sub (fun c h => h) _ (List.getElem_mem hj))
set_option maxRecDepth 100000 in
theorem intsL_any (a : Option Addr) (c : Nat) (xs : List Int) (w : World) (hn : xs.length ≤ 20000) (h : Lies w a (i64s xs)) :
    Calls Tryz.prog 15 #[.slice a xs.length c] w fun e w' => (∃ a' c', e = .returned (.slice a' xs.length c') ∧ Lies w' a' (i64s xs)) ∧ Below w.heap.size w w' := by
 obtain ⟨iv, hvi, hv0, hv1, hv2⟩ := info_parts Tryz.info3
 have HL : Hid (Lies w a (i64s xs)) := h
 clear h
 go_enter Tryz.func15, Tryz.ntmps15
 go_wp2_with (at_builtin; (refine wpList_append_any _ rfl _ _ 25 rfl w.heap.size 3 iv (.int .i64 0) 1 8 Tryz.underlying25 hvi hv0 hv1 hv2 rfl (by decide) (.slice none 0 0) 0 [] rfl (World.ownsRow_nil _ _ _ _) a _ c (i64s xs) rfl (by rw [i64s_len, Nat.mul_one]) (news_i HL.out) (one_i _) (by unfold maxLen; omega) (by omega) (Nat.le_refl _) ?_); intro l2 w4 hown4 hgr4 _; obtain ⟨a9, c9, e9, hl9⟩ := lies_own hown4; rw [List.nil_append, i64s_len] at e9; subst e9)
 have HE : Hid (Lies w4 a9 (i64s xs)) := (by show Lies _ _ _; rw [List.nil_append] at hl9; exact hl9)
 have HB : Hid (Below w.heap.size w w4) := (Below.refl _ _).grown hgr4 (Nat.le_refl _) (fun k hk => by simp [Value.ownBlock] at hk)
 clear hown4 hgr4 hl9
 go_wp2
 go_ret
 exact ⟨⟨a9, c9, rfl, HE.out⟩, HB.out⟩
end Go.Proofs.YteonbmaokphleaaGreatDoor
