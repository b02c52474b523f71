/-
  assemble.Records: of a projection's columns the cut records; its errors.
-/
import Derived.Test.YteonbmaokphleaaGreatDoorHBPjP
import Derived.Test.YteonbmaokphleaaGreatDoorHBCopyN
import Derived.Test.YteonbmaokphleaaGreatDoorHBShredX
import Derived.Test.YteonbmaokphleaaGreatDoorHBAsO
namespace Go.Proofs.YteonbmaokphleaaGreatDoor
open Go.RowKit
theorem part_right {t : Tr} (hv : vldN t = 0) {ids : List Int} (hne : askL ids t ≠ []) : vldN (rkT (askL ids t) t) = 0 := by
 have hb := (both_right hv ids).2
 refine rk_right hv (kept_of fun e => hne (hb.1 e))
set_option maxRecDepth 100000 in
set_option maxHeartbeats 3200000 in
theorem records_err (t : Tr) (n : Nat) (hd : t.Dp n) (hn : n ≤ 900) (hs : t.Sm) (hv : vldN t = 0) (ids : List Int) (ia : Option Addr) (ic : Nat) (hil : ids.length ≤ 1000) (hix : ∀ x ∈ ids, -9223372036854775808 ≤ x ∧ x ≤ 9223372036854775807) (a : Option Addr) (c : Nat) (P : Nat → Prop) (W : World) (hl : LiesN W P a t.sub) (hcap : t.sub.length ≤ c) (hli : Lies W ia (i64s ids)) (ca : Option Addr) (cn cc : Nat) (eb es en eo : TypeId × Value) (he : Er3 W eb es en) (hgo : W.cell? ⟨2, 0, none⟩ = some (.iface eo.1 eo.2)) (ty : TypeId) (v : Value)
    (hw : ((∃ i ∈ ids, i ∉ (ndT t).map Tr.id) ∧ (ty, v) = eo) ∨ ((∀ i ∈ ids, i ∈ (ndT t).map Tr.id) ∧ askL ids t = [] ∧ (ty, v) = es)) :
    Calls Tryz.prog 14 #[nodeV t a c, .slice ia ids.length ic, .slice ca cn cc] W fun e w' => e = .returned (.tuple #[.slice none 0 0, .iface ty v]) ∧ Below W.heap.size W w' := by
 obtain ⟨r1, _⟩ := right_parts hv
 have hcn : t.cnt ≤ 800 := by have := (dpB t 0 [] r1).2.1; omega
 obtain ⟨w0, HW0, HX, HB⟩ := one_box W #[.int .i64 t.id, .string t.nm, .int .i64 t.rep, .int .i64 t.kind, .slice a t.sub.length c] 24
 have hpr := project_any t n hd hn hs hv hcn ids ia ic hil hix a c P w0 (hl.keep HB.out) hcap (hli.keep HB.out) eb es en eo (he.keep HB.out) ((HB.out.cell (World.block_lt_of_cell? W _ hgo)).trans hgo)
 have hbr := both_right hv ids
 have HC : Hid (Calls Tryz.prog 33 #[nodeV t a c, .slice ia ids.length ic] w0 fun e w' => e = .returned (.tuple #[.agg #[.int .i64 0, .string ⟨#[]⟩, .int .i64 0, .int .i64 0, .slice none 0 0], .iface ty v]) ∧ Below w0.heap.size w0 w') := by
  refine hpr.mono ?_
  rintro e w' ⟨hp, hb⟩
  refine ⟨?_, hb⟩
  rcases hp with ⟨h1, h2⟩ | ⟨h1, h2, h3⟩ | ⟨h1, h2, _⟩
  · rcases hw with ⟨_, e1⟩ | ⟨h4, _⟩
    · rw [h2, ← e1]
    · obtain ⟨i, hi, hno⟩ := h1
      exact absurd (h4 i hi) hno
  · rcases hw with ⟨⟨i, hi, hno⟩, _⟩ | ⟨_, _, e1⟩
    · exact absurd (h1 i hi) hno
    · rw [h3, ← e1]
  · rcases hw with ⟨⟨i, hi, hno⟩, _⟩ | ⟨_, h4, _⟩
    · exact absurd (h1 i hi) hno
    · exact absurd (hbr.1.trans (hbr.2.2 h4)) h2
 obtain ⟨⟨p0, p1, p2, p3, p4⟩, _⟩ := row_five HX.out
 clear hd hs hv hl hli he hgo hpr hbr hw r1
 unfold nodeV at HC ⊢
 go_enter Tryz.func14, Tryz.ntmps14
 go_wp2_with fail
 rw [HW0.out]
 refine Calls.mono HC.out ?_
 rintro e w1 ⟨rfl, hb1⟩
 have HB1 : Hid (Below W.heap.size W w1) := HB.out.trans (hb1.mono HB.out.size)
 clear hb1 HC p0 p1 p2 p3 p4
 go_wp2
 go_ret2
 exact ⟨rfl, HB1.out.alloc HB1.out.size _⟩
set_option maxRecDepth 100000 in
set_option maxHeartbeats 3200000 in
theorem records_ok (eb es ek en eo : TypeId × Value) (t : Tr) (n : Nat) (hd : t.Dp n) (hn : n ≤ 900) (hs : t.Sm) (hv : vldN t = 0) (QF : Nat → List Tr) (ZF : Nat → Tr) (hq : ∀ j (h : j < (lvsT t).length), LfG t (lvsT t)[j] (QF j) (ZF j)) (ids : List Int) (ia : Option Addr) (ic : Nat) (hil : ids.length ≤ 1000) (hix : ∀ x ∈ ids, -9223372036854775808 ≤ x ∧ x ≤ 9223372036854775807) (hin : ∀ i ∈ ids, i ∈ (ndT t).map Tr.id) (hne : askL ids t ≠ [])
    (ds : List Dt) (hdl : ds.length ≤ 100000) (hck : ∀ d ∈ ds, chk true t d = 0) (cs ks : List Cl) (hcs : AsCols t QF ds cs) (hkl : ks.length = (selC (rkT (askL ids t) t) cs).length) (hks : ∀ j (h : j < ks.length) (h' : j < (selC (rkT (askL ids t) t) cs).length), SameC (selC (rkT (askL ids t) t) cs)[j] ks[j])
    (a : Option Addr) (c : Nat) (P : Nat → Prop) (W : World) (hl : LiesN W P a t.sub) (hcap : t.sub.length ≤ c) (hli : Lies W ia (i64s ids)) (ca : Option Addr) (cc : Nat) (hlc : LiesC W ca ks) (he : EC W eb es ek) (hen : W.cell? ⟨5, 0, none⟩ = some (.iface en.1 en.2)) (hgo : W.cell? ⟨2, 0, none⟩ = some (.iface eo.1 eo.2)) :
    Calls Tryz.prog 14 #[nodeV t a c, .slice ia ids.length ic, .slice ca ks.length cc] W fun e w' => (∃ al cl, e = .returned (.tuple #[.slice al ds.length cl, .nilIface]) ∧ LiesD w' (fun b => W.heap.size ≤ b) al (ds.map (cut1 (rkT (askL ids t) t) t))) ∧ Below W.heap.size W w' := by
 obtain ⟨r1, r2, r3, _, r5⟩ := right_parts hv
 have hcn : t.cnt ≤ 800 := by have := (dpB t 0 [] r1).2.1; omega
 have hp := part_right hv hne
 obtain ⟨QF', ZF', hq'⟩ := pick_ways (rkT (askL ids t) t)
 have has := (asCols_cut hv hp hq (hq' hp) hcs).same hkl hks
 have hu := right_idU r2 r5
 have hck' : ∀ d ∈ ds.map (cut1 (rkT (askL ids t) t) t), chk true (rkT (askL ids t) t) d = 0 := fun d hm => by
  obtain ⟨x, hx, rfl⟩ := List.mem_map.1 hm
  exact (chk_cut (askL ids t) _ t (Nat.lt_succ_self _) hu (right_lfOk r3)).1 x (hck x hx)
 obtain ⟨w0, HW0, HX, HB⟩ := one_box W #[.int .i64 t.id, .string t.nm, .int .i64 t.rep, .int .i64 t.kind, .slice a t.sub.length c] 24
 have hpr := project_any t n hd hn hs hv hcn ids ia ic hil hix a c P w0 (hl.keep HB.out) hcap (hli.keep HB.out) eb es en eo ⟨(he.keep HB.out).b, (he.keep HB.out).s, (HB.out.cell (World.block_lt_of_cell? W _ hen)).trans hen⟩ ((HB.out.cell (World.block_lt_of_cell? W _ hgo)).trans hgo)
 have hbr := both_right hv ids
 obtain ⟨k1, k2, k3, k4, k5⟩ := rkT_id (askL ids t) t
 have HC : Hid (Calls Tryz.prog 33 #[nodeV t a c, .slice ia ids.length ic] w0 fun e w' => (∃ a' c', e = .returned (.tuple #[nodeV (rkT (askL ids t) t) a' c', .nilIface]) ∧ LiesN w' (fun _ => True) a' (rkT (askL ids t) t).sub ∧ (rkT (askL ids t) t).sub.length ≤ c') ∧ Below w0.heap.size w0 w') := by
  refine hpr.mono ?_
  rintro e w' ⟨hp2, hb⟩
  refine ⟨?_, hb⟩
  rcases hp2 with ⟨⟨i, hi, hno⟩, _⟩ | ⟨_, h2, _⟩ | ⟨_, _, a', c', h3, h4, h5⟩
  · exact absurd (hin i hi) hno
  · exact absurd (hbr.2.1 (hbr.1.symm.trans h2)) hne
  · rw [hbr.1] at h3 h4 h5
    refine ⟨a', c', ?_, ?_, ?_⟩
    · unfold nodeV
      rw [k1, k2, k3, k4, k5]
      exact h3
    · rw [k5]
      exact h4.stay (fun _ _ _ => trivial) (fun _ _ _ => rfl)
    · rw [k5]; exact h5
 have HAs : Hid (∀ X a' c', Below W.heap.size W X → LiesN X (fun _ => True) a' (rkT (askL ids t) t).sub → (rkT (askL ids t) t).sub.length ≤ c' → Calls Tryz.prog 10 #[nodeV (rkT (askL ids t) t) a' c', .slice ca ks.length cc] X fun e w' => (∃ al cl, e = .returned (.tuple #[.slice al ds.length cl, .nilIface]) ∧ LiesD w' (fun b => X.heap.size ≤ b) al (ds.map (cut1 (rkT (askL ids t) t) t))) ∧ Below X.heap.size X w') := fun X a' c' hX h1 h2 => by
  have h := assemble_right eb es ek en (rkT (askL ids t) t) n (rk_dp _ n t hd) (by omega) (rk_sm _ _ t (Nat.lt_succ_self _) hs) hp QF' ZF' (hq' hp) (ds.map (cut1 (rkT (askL ids t) t) t)) (by rw [List.length_map]; exact hdl) hck' ks a' c' h2 ca cc _ X has (he.keep hX) ((hX.cell (World.block_lt_of_cell? W _ hen)).trans hen) h1 (hlc.keep hX)
  rw [List.length_map] at h
  exact h
 obtain ⟨us, HUs⟩ := hid_name (ds.map (cut1 (rkT (askL ids t) t) t))
 rw [HUs.out] at HAs ⊢
 obtain ⟨p, HPn⟩ := hid_name (rkT (askL ids t) t)
 rw [HPn.out] at HC HAs
 obtain ⟨⟨p0, p1, p2, p3, p4⟩, _⟩ := row_five HX.out
 clear hd hs hv hl hli he hgo hpr hbr r1 r2 r3 r5 hp hq hq' has hu hck' hck hcs hkl hks hlc hen k1 k2 k3 k4 k5 hin hne HUs HPn
 unfold nodeV at HC HAs ⊢
 go_enter Tryz.func14, Tryz.ntmps14
 go_wp2_with fail
 rw [HW0.out]
 refine Calls.mono HC.out ?_
 rintro e w1 ⟨⟨a', c', rfl, hl1, hc1⟩, hb1⟩
 have HB1 : Hid (Below W.heap.size W w1) := HB.out.trans (hb1.mono HB.out.size)
 have HL1 : Hid (LiesN w1 (fun _ => True) a' p.sub) := hl1
 clear hb1 hl1 HC p0 p1 p2 p3 p4
 obtain ⟨w2, HW2, HY, HB2⟩ := one_box w1 #[.int .i64 p.id, .string p.nm, .int .i64 p.rep, .int .i64 p.kind, .slice a' p.sub.length c'] 24
 have HBB : Hid (Below W.heap.size W w2) := HB1.out.trans (HB2.out.mono HB1.out.size)
 have HC2 : Hid _ := HAs.out w2 a' c' HBB.out (HL1.out.keep HB2.out) hc1
 obtain ⟨⟨p0, p1, p2, p3, p4⟩, _⟩ := row_five HY.out
 go_upto_region 2 with fail
 rw [HW2.out]
 go_wp2_with fail
 refine Calls.mono HC2.out ?_
 rintro e w3 ⟨⟨al, cl, rfl, hl3⟩, hb3⟩
 have HB3 : Hid (Below W.heap.size W w3) := HBB.out.trans (hb3.mono HBB.out.size)
 have HL3 : Hid (LiesD w3 (fun b => W.heap.size ≤ b) al us) := hl3.stay (fun b h _ => Nat.le_trans HBB.out.size h) (fun _ _ _ => rfl)
 clear hb3 hl3
 go_wp2
 go_ret2
 exact ⟨⟨al, cl, rfl, HL3.out⟩, HB3.out⟩
end Go.Proofs.YteonbmaokphleaaGreatDoor
