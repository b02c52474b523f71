/-
  The walk of AssembleTwice.
-/
import Derived.Test.YteonbmaokphleaaGreatDoorHRcA
import Derived.Test.YteonbmaokphleaaGreatDoorHBShredX
import Derived.Test.YteonbmaokphleaaGreatDoorHCfE
import Derived.Test.YteonbmaokphleaaGreatDoorHSdL
import Derived.Test.YteonbmaokphleaaGreatDoorHBOwnN
import Derived.Test.YteonbmaokphleaaGreatDoorHLightD
import Derived.Test.YteonbmaokphleaaGreatDoorHBOwnDt
import Derived.Test.YteonbmaokphleaaGreatDoorHBColH
import Derived.Test.YteonbmaokphleaaGreatDoorHBSFlI
namespace Go.Proofs.YteonbmaokphleaaGreatDoor
open Go.RowKit
set_option maxHeartbeats 400000 in
theorem coded2_sent (w : World) (A : Nat → Addr) (h : Errs w A) (i : Nat) (hi : i < 8) (c : Int) (hc : ((i : Int) + 1 == c) = true) :
    Calls Tryz.prog 16 #[errV (A i), .int .i64 c] w fun e w' => e = .returned (.bool true) ∧ Below w.heap.size w w' := by
 have HA : Hid (Errs w A) := h
 clear h
 go_enter Tryz.func16, Tryz.ntmps16
 go_wp2_with (go_at_call 34; refine (code_sent w A HA.out i hi).mono ?_; rintro e w1 ⟨rfl, hb1⟩)
 go_ret
 exact ⟨rfl, hb1⟩
abbrev eX (E : Nat → Addr) (i : Nat) : TypeId × Value := (190, .pointer (some (E i)))
theorem sel_step (p : Tr) (cs : List Cl) (i : Nat) (h : i < cs.length) : selC p (cs.take (i + 1)) = if (lfI (ndT p)).contains cs[i].id = true then selC p (cs.take i) ++ [cs[i]] else selC p (cs.take i) := by
 unfold selC
 rw [List.take_succ_eq_append_getElem h, List.filter_append]
 by_cases hc : (lfI (ndT p)).contains cs[i].id = true
 · rw [if_pos hc, List.filter_cons, if_pos hc, List.filter_nil]
 · rw [if_neg hc, List.filter_cons, if_neg hc, List.filter_nil, List.append_nil]
theorem sel_at (p : Tr) (cs : List Cl) (i : Nat) (h : i < cs.length) (hc : (lfI (ndT p)).contains cs[i].id = true) (h' : (selC p (cs.take i)).length < (selC p cs).length) : (selC p cs)[(selC p (cs.take i)).length] = cs[i] := by
 have e : selC p cs = selC p (cs.take i) ++ (cs[i] :: selC p (cs.drop (i + 1))) := by
  have e0 : cs = cs.take i ++ (cs[i] :: cs.drop (i + 1)) := by rw [List.getElem_cons_drop, List.take_append_drop]
  have e1 : selC p cs = selC p (cs.take i ++ (cs[i] :: cs.drop (i + 1))) := by rw [← e0]
  rw [e1]
  unfold selC
  rw [List.filter_append, List.filter_cons, if_pos hc]
 have e2 : (selC p cs)[(selC p (cs.take i)).length]? = some cs[i] := by rw [e, List.getElem?_append_right (Nat.le_refl _), Nat.sub_self]; rfl
 rw [List.getElem?_eq_getElem h'] at e2
 exact Option.some.inj e2
theorem sel_lt (p : Tr) (cs : List Cl) (i : Nat) (h : i < cs.length) (hc : (lfI (ndT p)).contains cs[i].id = true) : (selC p (cs.take i)).length < (selC p cs).length := by
 have h1 := sel_step p cs i h
 rw [if_pos hc] at h1
 have h2 : (selC p (cs.take (i + 1))).length ≤ (selC p cs).length := by
  unfold selC
  exact List.Sublist.length_le (List.Sublist.filter _ (List.take_sublist _ _))
 rw [h1, List.length_append] at h2
 simp at h2
 omega
theorem OwC.lies {W : World} {cs : List Cl} {i : Nat} {va : Option Addr} {n vc : Nat} {ks : List Cl} {wr : World} (h : OwC W cs i (.slice va n vc) ks wr) : LiesC wr va ks := fun j hj => by
 refine ⟨?_, h.at_ j hj _ fun _ _ _ => rfl⟩
 rcases h.row.2 with ⟨_, h0⟩ | ⟨g, cap, cur, he, _⟩
 · omega
 · obtain ⟨h0, h1, h2, h3⟩ := clCs_at ks j hj
   injection he with he _ _
   subst he
   have e0 := h.row.cells (g := g) rfl _ _ h0
   have e1 := h.row.cells (g := g) rfl _ _ h1
   have e2 := h.row.cells (g := g) rfl _ _ h2
   have e3 := h.row.cells (g := g) rfl _ _ h3
   rw [addr_up] at e0 e1 e2 e3
   exact ⟨g, 0, rfl, e0, by rw [Nat.add_assoc]; exact e1, by rw [Nat.add_assoc]; exact e2, by rw [Nat.add_assoc]; exact e3⟩
theorem poR_ok {t : Tr} {ids : List Int} {N : Nat} {e : Ending} {w' : World} (h : PoR t ids N e w') : (∃ (c : Nat), ((∃ i ∈ ids, i ∉ (ndT t).map Tr.id) ∧ c = 6 ∨ ((∀ i ∈ ids, i ∈ (ndT t).map Tr.id) ∧ askL ids t = [] ∧ c = 3)) ∧ e = .returned (.tuple #[.agg #[.int .i64 0, .string ⟨#[]⟩, .int .i64 0, .int .i64 0, .slice none 0 0], .int .i64 (c : Nat)])) ∨
    ((∀ i ∈ ids, i ∈ (ndT t).map Tr.id) ∧ askL ids t ≠ [] ∧ ∃ a' c', e = .returned (.tuple #[nodeV (rkT (askL ids t) t) a' c', .int .i64 0]) ∧ LiesN w' (fun _ => True) a' (rkT (askL ids t) t).sub ∧ (rkT (askL ids t) t).sub.length ≤ c') := by
 obtain ⟨k1, k2, k3, k4, k5⟩ := rkT_id (askL ids t) t
 rcases h with ⟨h1, h2⟩ | ⟨h1, h2, h3⟩ | ⟨h1, h2, a', c', h3, h4, h5⟩
 · exact .inl ⟨6, .inl ⟨h1, rfl⟩, h2⟩
 · exact .inl ⟨3, .inr ⟨h1, h2, rfl⟩, h3⟩
 · refine .inr ⟨h1, h2, a', c', ?_, ?_, ?_⟩
   · unfold nodeV
     rw [k1, k2, k3, k4, k5]
     exact h3
   · rw [k5]; exact h4.stay (fun _ _ _ => trivial) (fun _ _ _ => rfl)
   · rw [k5]; exact h5
set_option maxRecDepth 100000 in
set_option maxHeartbeats 12800000 in
theorem assembleTwice_walk (t : Tr) (n : Nat) (hd : t.Dp n) (hn : n ≤ 1100000) (hs : t.Sm) (P PA : Nat → Prop) (ra : Option Addr) (rc : Nat) (ids : List Int) (ia : Option Addr) (ic : Nat) (hix : ∀ x ∈ ids, -9223372036854775808 ≤ x ∧ x ≤ 9223372036854775807) (A : List Dt) (aa : Option Addr) (ac : Nat) (W : World) (E : Nat → Addr) (hE : Errs W E) (hl : LiesN W P ra t.sub) (hcap : t.sub.length ≤ rc) (hli : Lies W ia (i64s ids)) (hlA : LiesD W PA aa A) (hA1 : A.length ≤ 1048576) (hA2 : wtL A ≤ 1048576) (hA3 : ∀ j (h : j < A.length), A[j].Sm) :
    Calls Tryz.prog 3 #[nodeV t ra rc, .slice ia ids.length ic, .slice aa A.length ac] W fun e w' => e = .returned (.bool true) ∧ Below W.heap.size W w' := by
 obtain ⟨ic_, hvi, hv0, hv1, hv2⟩ := info_parts Tryz.infoC
 obtain ⟨QF, ZF, hq⟩ := pick_ways t
 have HQ : Hid (vldN t = 0 → ∀ j (h : j < (lvsT t).length), LfG t (lvsT t)[j] (QF j) (ZF j)) := hq
 obtain ⟨w0, HW0, HX0, HB0⟩ := one_box W #[.int .i64 t.id, .string t.nm, .int .i64 t.rep, .int .i64 t.kind, .slice ra t.sub.length rc] 24
 have HEs : Hid (∀ X, Below W.heap.size W X → Errs X E) := fun X hX => hE.keep hX
 have HEr : Hid (∀ X, Below W.heap.size W X → EC X (eX E 1) (eX E 2) (eX E 3)) := fun X hX => ⟨((hE.keep hX).at_ 1 (by omega)).var, ((hE.keep hX).at_ 2 (by omega)).var, ((hE.keep hX).at_ 3 (by omega)).var⟩
 have HEn : Hid (∀ X, Below W.heap.size W X → X.cell? ⟨5, 0, none⟩ = some (.iface (eX E 4).1 (eX E 4).2)) := fun X hX => ((hE.keep hX).at_ 4 (by omega)).var
 have HEo : Hid (∀ X, Below W.heap.size W X → X.cell? ⟨2, 0, none⟩ = some (.iface (eX E 5).1 (eX E 5).2)) := fun X hX => ((hE.keep hX).at_ 5 (by omega)).var
 have HL : Hid (LiesN W P ra t.sub) := hl
 have HLi : Hid (Lies W ia (i64s ids)) := hli
 have HIx : Hid (∀ x ∈ ids, -9223372036854775808 ≤ x ∧ x ≤ 9223372036854775807) := hix
 have HLA : Hid (LiesD W PA aa A) := hlA
 have HSm : Hid t.Sm := hs
 have HD : Hid (t.Dp n) := hd
 have HA3 : Hid (∀ j (h : j < A.length), A[j].Sm) := hA3
 have HNn : Hid _ := none_any w0 (eX E 1) (eX E 2) (eX E 3) (eX E 4) (HEr.out w0 HB0.out) (HEn.out w0 HB0.out)
 clear hE hl hlA hs hd hA3 hq hli hix
 unfold nodeV
 go_enter Tryz.func3, Tryz.ntmps3
 go_wp2_with fail
 rw [HW0.out]
 refine Calls.mono HNn.out ?_
 rintro e w1 ⟨rfl, hb1⟩
 have HB1 : Hid (Below W.heap.size W w1) := HB0.out.trans (hb1.mono HB0.out.size)
 have HX1 : Hid _ := blk_keep hb1 HX0.out
 clear hb1 HNn
 obtain ⟨⟨p0, p1, p2, p3, p4⟩, _⟩ := row_five HX1.out
 go_wp2_with fail
 refine Calls.mono (tame_any t HSm.out P ra rc w1 (HL.out.keep HB1.out)) ?_
 rintro e w2 ⟨rfl, hb2⟩
 have HB2 : Hid (Below W.heap.size W w2) := HB1.out.trans (hb2.mono HB1.out.size)
 have HX2 : Hid _ := blk_keep hb2 HX1.out
 clear hb2 p0 p1 p2 p3 p4
 obtain ⟨tm, HTm⟩ := hid_name (decide ((fl t).length ≤ 200 ∧ nmS (fl t) ≤ 4000))
 rw [HTm.out]
 cases tm with
 | false =>
  go_wp2
  go_ret
  exact ⟨rfl, HB2.out⟩
 | true =>
  go_wp2_with fail
  refine Calls.mono (light_any A hA1 hA2 HA3.out PA aa ac w2 (HLA.out.keep HB2.out)) ?_
  rintro e w3 ⟨rfl, hb3⟩
  have HB3 : Hid (Below W.heap.size W w3) := HB2.out.trans (hb3.mono HB2.out.size)
  have HX3 : Hid _ := blk_keep hb3 HX2.out
  clear hb3
  obtain ⟨la, HLa⟩ := hid_name (decide (A.length ≤ 150) && decide (wtL A ≤ 3000))
  rw [HLa.out]
  cases la with
  | false =>
   go_wp2
   go_ret
   exact ⟨rfl, HB3.out⟩
  | true =>
   have hA4 : A.length ≤ 150 ∧ wtL A ≤ 3000 := (by have := HLa.out; simp at this; exact this)
   by_cases h60 : 60 < ids.length
   · have q6 : decide ((60 : Int) < (ids.length : Int)) = true := by simp; omega
     have q7 : decide (60 < ids.length) = true := by simp; omega
     go_wp2
     go_ret
     exact ⟨rfl, HB3.out⟩
   have q6 : decide ((60 : Int) < (ids.length : Int)) = false := by simp; omega
   have q7 : decide (60 < ids.length) = false := by simp; omega
   obtain ⟨⟨p0, p1, p2, p3, p4⟩, _⟩ := row_five HX3.out
   go_wp2_with fail
   refine Calls.mono (ownNode_any _ t (Nat.lt_succ_self _) HSm.out P ra rc w3 (HL.out.keep HB3.out)) ?_
   rintro e w4 ⟨⟨na4, nc4, rfl, hl4, hc4⟩, hb4⟩
   have HB4 : Hid (Below W.heap.size W w4) := HB3.out.trans (hb4.mono HB3.out.size)
   have HX4 : Hid _ := blk_keep hb4 HX3.out
   have HL4 : Hid (LiesN w4 (fun b => b < w4.heap.size) na4 t.sub) := hl4.stay (fun b _ h => h) (fun _ _ _ => rfl)
   clear hb4 hl4 p0 p1 p2 p3 p4
   go_wp2_with fail
   refine Calls.mono (ownData_of A hA1 (fun j h => ownsD _ (HA3.out j h)) PA aa ac w4 (HLA.out.keep HB4.out)) ?_
   rintro e w5 ⟨⟨da5, dc5, rfl, hl5⟩, hb5⟩
   have HB5 : Hid (Below W.heap.size W w5) := HB4.out.trans (hb5.mono HB4.out.size)
   have HX5 : Hid _ := blk_keep hb5 HX4.out
   have HD5 : Hid (LiesD w5 (fun b => b < w5.heap.size) da5 A) := hl5.stay (fun b _ h => h) (fun _ _ _ => rfl)
   have HN5 : Hid (LiesN w5 (fun b => b < w5.heap.size) na4 t.sub) := HL4.out.stay (fun b _ h => Nat.lt_of_lt_of_le h hb5.size) (fun b _ h => hb5.block b h)
   clear hb5 hl5
   go_wp2_with fail
   refine Calls.mono (shred_all (eX E 1) (eX E 2) (eX E 3) (eX E 4) t n HD.out hn HSm.out QF ZF HQ.out A HA3.out (by omega) na4 nc4 hc4 da5 dc5 w5 (HEr.out _ HB5.out) (HEn.out _ HB5.out) HN5.out HD5.out) ?_
   rintro e w6 ⟨⟨ov6, ev6, rfl, hsr6⟩, hb6⟩
   have HB6 : Hid (Below W.heap.size W w6) := HB5.out.trans (hb6.mono HB5.out.size)
   have HX6 : Hid _ := blk_keep hb6 HX5.out
   clear hb6
   rcases hsr6 with ⟨ty, v, rfl, rfl⟩ | ⟨rfl, hv, hck, hcr⟩
   · go_wp2
     go_ret
     exact ⟨rfl, HB6.out⟩
   · obtain ⟨ca, cc, cs, rfl, hlc, has⟩ := asCols_shred (HQ.out hv) hck (by omega) hcr
     have HV : Hid (vldN t = 0) := hv
     have HCk : Hid (∀ d ∈ A, chk true t d = 0) := hck
     have HLC : Hid (LiesC w6 ca cs) := hlc
     have HAs : Hid (AsCols t QF A cs) := has
     have hkl : cs.length ≤ 1000 := by rw [has.len]; exact lvs_len1 hv
     obtain ⟨⟨p0, p1, p2, p3, p4⟩, _⟩ := row_five HX6.out
     clear hv hck hcr hlc has
     go_wp2_with fail
     refine Calls.mono (ownNode_any _ t (Nat.lt_succ_self _) HSm.out P ra rc w6 (HL.out.keep HB6.out)) ?_
     rintro e w7 ⟨⟨na7, nc7, rfl, hl7, hc7⟩, hb7⟩
     have HB7 : Hid (Below W.heap.size W w7) := HB6.out.trans (hb7.mono HB6.out.size)
     have HX7 : Hid _ := blk_keep hb7 HX6.out
     have HL7 : Hid (LiesN w7 (fun b => b < w7.heap.size) na7 t.sub) := hl7.stay (fun b _ h => h) (fun _ _ _ => rfl)
     have HC7 : Hid (LiesC w7 ca cs) := HLC.out.keep hb7
     clear hb7 hl7 p0 p1 p2 p3 p4
     go_wp2_with fail
     refine Calls.mono (ownColumns_any ca cc cs w7 hkl HAs.out.few HC7.out) ?_
     rintro e w8 ⟨⟨a8, c8, k8, rfl, hl8, hn8, hs8⟩, hb8⟩
     have HB8 : Hid (Below W.heap.size W w8) := HB7.out.trans (hb8.mono HB7.out.size)
     have HX8 : Hid _ := blk_keep hb8 HX7.out
     have HC8 : Hid (LiesC w8 ca cs) := HC7.out.keep hb8
     have HTr : Hid _ := assemble_right (eX E 1) (eX E 2) (eX E 3) (eX E 4) t n HD.out hn HSm.out HV.out QF ZF (HQ.out HV.out) A (by omega) HCk.out k8 na7 nc7 hc7 a8 c8 _ w8 (HAs.out.same hn8 hs8) (HEr.out _ HB8.out) (HEn.out _ HB8.out) (HL7.out.keep hb8) hl8
     clear hb8 hl8 hn8 hs8
     go_wp2_with fail
     refine Calls.mono HTr.out ?_
     rintro e w9 ⟨⟨a9, c9, rfl, hl9⟩, hb9⟩
     have HB9 : Hid (Below W.heap.size W w9) := HB8.out.trans (hb9.mono HB8.out.size)
     have HX9 : Hid _ := blk_keep hb9 HX8.out
     have HC9 : Hid (LiesC w9 ca cs) := HC8.out.keep hb9
     have HSd : Hid _ := sl_of A hA1 (fun j h => sd_any _ A[j] (Nat.lt_succ_self _) (HA3.out j h)) _ PA a9 c9 aa ac w9 hl9 (HLA.out.keep HB9.out)
     clear hb9 hl9 HTr
     go_wp2_with fail
     refine Calls.mono HSd.out ?_
     rintro e w10 ⟨rfl, hb10⟩
     have HB10 : Hid (Below W.heap.size W w10) := HB9.out.trans (hb10.mono HB9.out.size)
     have HX10 : Hid _ := blk_keep hb10 HX9.out
     have HC10 : Hid (LiesC w10 ca cs) := HC9.out.keep hb10
     clear hb10 HSd
     have HRt := right_parts HV.out
     have hcnt : t.cnt ≤ 40 := (dpB t 0 [] HRt.1).2.1 |> fun h => by omega
     have hdp6 : t.Dp 6 := by have := (dpB t 0 [] HRt.1).2.2; simpa using this
     have HD6 : Hid (t.Dp 6) := hdp6
     clear HRt hdp6
     obtain ⟨⟨p0, p1, p2, p3, p4⟩, _⟩ := row_five HX10.out
     go_wp2_with fail
     refine Calls.mono (projectOf_any t 6 HD6.out (by omega) HSm.out (by omega) ids ia ic (by omega) ra rc P w10 (HL.out.keep HB10.out) hcap (HLi.out.keep HB10.out)) ?_
     rintro e w11 ⟨hpo, hb11⟩
     have HB11 : Hid (Below W.heap.size W w11) := HB10.out.trans (hb11.mono HB10.out.size)
     have HX11 : Hid _ := blk_keep hb11 HX10.out
     have HC11 : Hid (LiesC w11 ca cs) := HC10.out.keep hb11
     clear hb11 p0 p1 p2 p3 p4
     rcases poR_ok hpo with ⟨cd, hcd, rfl⟩ | ⟨hin, hne, a12, c12, rfl, hl12, hc12⟩
     · have hE5 : ∃ (j : Nat), j < 8 ∧ cd = j + 1 ∧ ((∃ i ∈ ids, i ∉ (ndT t).map Tr.id) ∧ eX E j = (eX E 5) ∨ ((∀ i ∈ ids, i ∈ (ndT t).map Tr.id) ∧ askL ids t = [] ∧ eX E j = (eX E 2))) := by
         rcases hcd with ⟨h1, rfl⟩ | ⟨h1, h2, rfl⟩
         · exact ⟨5, by omega, rfl, .inl ⟨h1, rfl⟩⟩
         · exact ⟨2, by omega, rfl, .inr ⟨h1, h2, rfl⟩⟩
       obtain ⟨j, hj8, hcj, hw⟩ := hE5
       have HW : Hid _ := hw
       have q8 : decide ((0 : Int) < ((cd : Nat) : Int)) = true := by simp; omega
       have q9 : decide (0 < cd) = true := by simp; omega
       obtain ⟨w12, HW12, HY12, HB12'⟩ := one_box w11 #[.int .i64 0, .string ⟨#[]⟩, .int .i64 0, .int .i64 0, .slice none 0 0] 24
       have HB12 : Hid (Below W.heap.size W w12) := HB11.out.trans (HB12'.out.mono HB11.out.size)
       have HX12 : Hid _ := blk_keep HB12'.out HX11.out
       obtain ⟨⟨p0, p1, p2, p3, p4⟩, _⟩ := row_five HX12.out
       have HCj : Hid (cd = j + 1) := hcj
       clear hw hcd hpo hcj
       go_upto_region 11 with fail
       rw [HW12.out]
       go_wp2_with fail
       refine Calls.mono (ownNode_any _ t (Nat.lt_succ_self _) HSm.out P ra rc w12 (HL.out.keep HB12.out)) ?_
       rintro e w13 ⟨⟨na13, nc13, rfl, hl13, hc13⟩, hb13⟩
       have HB13 : Hid (Below W.heap.size W w13) := HB12.out.trans (hb13.mono HB12.out.size)
       have HL13 : Hid (LiesN w13 (fun _ => True) na13 t.sub) := hl13.stay (fun _ _ _ => trivial) (fun _ _ _ => rfl)
       have HC13 : Hid (LiesC w13 ca cs) := (HC11.out.keep HB12'.out).keep hb13
       clear hb13 hl13 p0 p1 p2 p3 p4
       go_wp2_with fail
       refine Calls.mono (intsL_any ia ic ids w13 (by omega) (HLi.out.keep HB13.out)) ?_
       rintro e w14 ⟨⟨ia14, ic14, rfl, hli14⟩, hb14⟩
       have HB14 : Hid (Below W.heap.size W w14) := HB13.out.trans (hb14.mono HB13.out.size)
       have HL14 : Hid (LiesN w14 (fun _ => True) na13 t.sub) := HL13.out.keep hb14
       have HLi14 : Hid (Lies w14 ia14 (i64s ids)) := hli14
       have HC14 : Hid (LiesC w14 ca cs) := HC13.out.keep hb14
       clear hb14 hli14
       go_wp2_with fail
       refine Calls.mono (ownColumns_any ca cc cs w14 hkl HAs.out.few HC14.out) ?_
       rintro e w15 ⟨⟨a15, c15, k15, rfl, hl15, hn15, hs15⟩, hb15⟩
       have HB15 : Hid (Below W.heap.size W w15) := HB14.out.trans (hb15.mono HB14.out.size)
       have HRe : Hid _ := records_err t 6 HD6.out (by omega) HSm.out HV.out ids ia14 ic14 (by omega) HIx.out na13 nc13 _ w15 (HL14.out.keep hb15) hc13 (HLi14.out.keep hb15) a15 k15.length c15 (eX E 1) (eX E 2) (eX E 4) (eX E 5) (HEs.out _ HB15.out).er3 (HEo.out _ HB15.out) 190 (.pointer (some (E j))) HW.out
       clear hb15 hl15 hn15 hs15
       go_wp2_with fail
       refine Calls.mono HRe.out ?_
       rintro e w16 ⟨rfl, hb16⟩
       have HB16 : Hid (Below W.heap.size W w16) := HB15.out.trans (hb16.mono HB15.out.size)
       have HCo : Hid _ := coded2_sent w16 E (HEs.out _ HB16.out) j hj8 ((cd : Nat) : Int) (by rw [HCj.out]; simp)
       clear hb16 HRe
       go_wp2_with fail
       refine Calls.mono HCo.out ?_
       rintro e w17 ⟨rfl, hb17⟩
       have HB17 : Hid (Below W.heap.size W w17) := HB16.out.trans (hb17.mono HB16.out.size)
       clear hb17
       go_wp2
       go_ret
       exact ⟨rfl, HB17.out⟩
     · have HIn : Hid (∀ i ∈ ids, i ∈ (ndT t).map Tr.id) := hin
       have HNe : Hid (askL ids t ≠ []) := hne
       have HPs : Hid ((rkT (askL ids t) t).Sm) := rk_sm _ _ t (Nat.lt_succ_self _) HSm.out
       have HPd : Hid ((rkT (askL ids t) t).Dp 6) := rk_dp _ _ t HD6.out
       have HPc : Hid ((rkT (askL ids t) t).cnt ≤ 40) := Nat.le_trans (rk_cnt _ t) hcnt
       have HCf : Hid (∀ (j : Nat) (h : j < A.length), CfP (rkT (askL ids t) t) t false A[j]) := fun j h => by
        obtain ⟨_, r2, r3, _, r5⟩ := right_parts HV.out
        exact cutOf_any _ _ A[j] (Nat.lt_succ_self _) t false (right_idU r2 r5) (right_lfOk r3) HSm.out (HA3.out j h) (by rw [root_chk r2]; exact HCk.out _ (List.getElem_mem h))
       have HCu : Hid (∀ (j : Nat) (h : j < A.length), cutT (rkT (askL ids t) t) t A[j] = cut1 (rkT (askL ids t) t) t A[j] ∧ (cut1 (rkT (askL ids t) t) t A[j]).Sm) := fun j h => by
        obtain ⟨_, r2, _, _, _⟩ := right_parts HV.out
        have h1 : t.rep = 1 := (of_decide_eq_true r2).2.2.1
        have hk0 : t.kind = 0 := (of_decide_eq_true r2).2.2.2
        have hno := (chk_grp hk0 (HCk.out _ (List.getElem_mem h))).1
        have e := cutT_one (p := rkT (askL ids t) t) h1 hno
        exact ⟨e, by rw [← e]; exact cutT_sm _ _ _ HPs.out (HA3.out j h)⟩
       have HRo : Hid (∀ (ks : List Cl) (na : Option Addr) (nc : Nat) (ia2 : Option Addr) (ic2 : Nat) (a2 : Option Addr) (c2 : Nat) (X : World), Below W.heap.size W X → ks.length = (selC (rkT (askL ids t) t) cs).length → (∀ j (h : j < ks.length) (h' : j < (selC (rkT (askL ids t) t) cs).length), SameC (selC (rkT (askL ids t) t) cs)[j] ks[j]) → LiesN X (fun _ => True) na t.sub → t.sub.length ≤ nc → Lies X ia2 (i64s ids) → LiesC X a2 ks → Calls Tryz.prog 14 #[nodeV t na nc, .slice ia2 ids.length ic2, .slice a2 ks.length c2] X fun e w' => (∃ al cl, e = .returned (.tuple #[.slice al A.length cl, .nilIface]) ∧ LiesD w' (fun b => X.heap.size ≤ b) al (A.map (cut1 (rkT (askL ids t) t) t))) ∧ Below X.heap.size X w') := fun ks na nc ia2 ic2 a2 c2 X hX g1 g2 g3 g4 g5 g6 => records_ok (eX E 1) (eX E 2) (eX E 3) (eX E 4) (eX E 5) t 6 HD6.out (by omega) HSm.out HV.out QF ZF (HQ.out HV.out) ids ia2 ic2 (by omega) HIx.out HIn.out HNe.out A (by omega) HCk.out cs ks HAs.out g1 g2 na nc _ X g3 g4 g5 a2 c2 g6 (HEr.out _ hX) (HEn.out _ hX) (HEo.out _ hX)
       obtain ⟨p, HPn⟩ := hid_name (rkT (askL ids t) t)
       rw [HPn.out] at hl12 hc12 HPs HPd HPc HCf HCu HRo ⊢
       have HL12 : Hid (LiesN w11 (fun _ => True) a12 p.sub) := hl12
       clear hl12 hin hne hpo
       unfold nodeV
       obtain ⟨w12, HW12, HY12, HB12'⟩ := one_box w11 #[.int .i64 p.id, .string p.nm, .int .i64 p.rep, .int .i64 p.kind, .slice a12 p.sub.length c12] 24
       have HB12 : Hid (Below W.heap.size W w12) := HB11.out.trans (HB12'.out.mono HB11.out.size)
       have HX12 : Hid _ := blk_keep HB12'.out HX11.out
       have HC12 : Hid (LiesC w12 ca cs) := HC11.out.keep HB12'.out
       have HPL : Hid (LiesN w12 (fun _ => True) a12 p.sub) := HL12.out.keep HB12'.out
       obtain ⟨⟨i0, i1, i2, i3, i4⟩, _⟩ := row_five HY12.out
       have HUn : Hid _ := underOf_any p 6 HPd.out (by omega) (Nat.le_trans HPc.out (by omega)) HPs.out _ a12 c12 w12 HPL.out
       go_upto_region 11 with fail
       rw [HW12.out]
       go_wp2_with fail
       refine Calls.mono HUn.out ?_
       rintro e w13 ⟨⟨lv, rfl, hown13⟩, hb13⟩
       have HB13 : Hid (Below W.heap.size W w13) := HB12.out.trans (hb13.mono HB12.out.size)
       have HX13 : Hid _ := blk_keep hb13 HX12.out
       have HY13 : Hid _ := blk_keep hb13 HY12.out
       have HC13 : Hid (LiesC w13 ca cs) := HC12.out.keep hb13
       have HPL13 : Hid (LiesN w13 (fun _ => True) a12 p.sub) := HPL.out.keep hb13
       obtain ⟨la, lc, hlv, hll⟩ := lies_own hown13
       rw [i64s_len] at hlv
       subst hlv
       have HLv : Hid (Lies w13 la (i64s (lfI (ndT p)))) := hll
       have hlm : (lfI (ndT p)).length ≤ maxLen := by
        have h1 := lfI_len (ndT p)
        rw [ndT_len] at h1
        have := HPc.out
        unfold maxLen
        omega
       obtain ⟨us, HUs⟩ := hid_name (lfI (ndT p))
       rw [HUs.out] at HLv hlm ⊢
       clear hown13 hb13 hll HUn i0 i1 i2 i3 i4
       go_wp2_with fail
       go_loopw [16, 17] (fun v x wr => ∃ (i : Nat) (ks : List Cl), i ≤ cs.length ∧ x = .int .i64 i ∧ Hid (OwC w13 (selC p cs) (selC p (cs.take i)).length v ks wr)) (fun _ x _ => cs.length - (intOf x).toNat)
       case atStart => exact ⟨0, [], Nat.zero_le _, rfl, by simp [selC], World.ownsRow_nil w13 w13.heap.size 50 4, Below.refl _ _, fun j h => absurd h (by simp), fun j h => absurd h (by simp)⟩
       case round =>
        obtain ⟨i, ks, hi, rfl, HI⟩ := hrel
        obtain ⟨va, vc, hva⟩ := own_slC HI.out.row
        subst hva
        have HBr : Hid (Below W.heap.size W wr) := HB13.out.trans (HI.out.old.mono HB13.out.size)
        by_cases hlt : i < cs.length
        · obtain ⟨⟨b, o, ea, c0, c1, c2, c3⟩, hat⟩ := (HC13.out.keep HI.out.old) i hlt
          subst ea
          obtain ⟨hc1, hc2, hc3⟩ := HAs.out.few i hlt
          have HO : Hid _ := ownColumn_cl cs[i] wr hc1 hc2 hc3 hat
          have HHi : Hid _ := hasInt_any la lc us cs[i].id wr (HLv.out.keep HI.out.old) hlm
          have HSt : Hid _ := sel_step p cs i hlt
          have HSl : Hid _ := sel_lt p cs i hlt
          have HSa : Hid _ := sel_at p cs i hlt
          have hlen9 : ks.length ≤ 1000 := by
           have h1 := HI.out.len
           have h2 : (selC p (cs.take i)).length ≤ (cs.take i).length := List.length_filter_le _ _
           rw [List.length_take] at h2
           omega
          clear hat hc1 hc2 hc3
          by_cases hm : cs[i].id ∈ us
          · have hct : (lfI (ndT p)).contains cs[i].id = true := by rw [HUs.out]; simp [hm]
            have q8 : decide (cs[i].id ∈ us) = true := by simp [hm]
            have hst := HSt.out
            rw [if_pos hct] at hst
            have HSt2 : Hid _ := hst
            have HSl2 : Hid _ := HSl.out hct
            have HSa2 : Hid _ := HSa.out hct HSl2.out
            obtain ⟨kk, HKn⟩ := hid_name cs[i]
            rw [HKn.out] at HO HHi HSt2 HSa2 c0 c1 c2 c3 q8
            clear hct hst hm HSt HSl HSa
            go_wp2_with fail
            refine Calls.mono HHi.out ?_
            rintro e w14 ⟨rfl, hw14⟩
            subst hw14
            rw [q8]
            go_wp2_with fail
            refine Calls.mono HO.out ?_
            rintro e w15 ⟨⟨k, rfl, kat, kfr, ksm⟩, hb1⟩
            have HKA : Hid _ := kat
            have HKF : Hid _ := kfr
            have HKS : Hid _ := ksm
            have HB1x : Hid (Below w14.heap.size w14 w15) := hb1
            clear kat kfr ksm hb1
            go_wp2_with (at_builtin; (refine wpList_append_any _ rfl _ _ 30 rfl w13.heap.size 50 ic_ (.agg #[.int .i64 0, .slice none 0 0, .slice none 0 0, .slice none 0 0]) 4 80 Tryz.underlying30 hvi hv0 hv1 hv2 rfl (by decide) _ _ (clCs ks) rfl (ow_kept HI.out.row (HB1x.out.alloc HB1x.out.size _)) (some ⟨w15.heap.size, 0, none⟩) 1 1 (clvC k) rfl (by simp [clvC]) (fun j u hu => ⟨_, rfl, by have h := cell_of_row (w15.alloc (.cells #[.int .i64 k.id, .slice k.ra k.rs.length k.rc, .slice k.da k.ds.length k.dc, .slice k.va k.vs.length k.vc] 50)) w15.heap.size j _ _ _ (heap_alloc_new _ _); rw [addr_add, Nat.zero_add, h, ← hu]; simp [clvC]⟩) (by intro u hu; simp [clvC] at hu; rcases hu with rfl | rfl | rfl | rfl <;> rfl) (by unfold maxLen; omega) (by omega) (by have h1 := HI.out.old.size; have h2 := HB1x.out.size; simp; omega) ?_); intro v2 w2 hown2 hg2 hw2)
            have HNx : Hid _ := HI.out.next HB1x.out HKA.out HKF.out (fun _ => by rw [HSa2.out]; exact HKS.out) ((Below.refl _ _).alloc (Nat.le_refl _) _) hown2 hg2 hw2
            clear hown2 hg2 hw2
            go_wp2
            go_roundw
            case rel => exact ⟨i + 1, _, hlt, by go_num, by rw [HSt2.out, List.length_append]; exact HNx.out⟩
            case measure => simp [intOf]; omega
          · have hct : ¬ (lfI (ndT p)).contains cs[i].id = true := by rw [HUs.out]; simp [hm]
            have q8 : decide (cs[i].id ∈ us) = false := by simp [hm]
            have hst := HSt.out
            rw [if_neg hct] at hst
            have HSt2 : Hid _ := hst
            obtain ⟨kk, HKn⟩ := hid_name cs[i]
            rw [HKn.out] at HO HHi c0 c1 c2 c3 q8
            clear hct hst hm HSt HSl HSa
            go_wp2_with fail
            refine Calls.mono HHi.out ?_
            rintro e w14 ⟨rfl, hw14⟩
            subst hw14
            rw [q8]
            go_wp2
            go_roundw
            case rel => exact ⟨i + 1, _, hlt, by go_num, by rw [HSt2.out]; exact HI.out⟩
            case measure => simp [intOf]; omega
        · obtain rfl : i = cs.length := by omega
          have hkl2 : ks.length = (selC p cs).length := by have h := HI.out.len; rw [List.take_length] at h; exact h
          have HKl : Hid (ks.length = (selC p cs).length) := hkl2
          have HKs : Hid (∀ j (h : j < ks.length) (h' : j < (selC p cs).length), SameC (selC p cs)[j] ks[j]) := HI.out.same
          have HLk : Hid (LiesC wr va ks) := HI.out.lies
          have HXr : Hid _ := blk_keep HI.out.old HX13.out
          have HYr : Hid _ := blk_keep HI.out.old HY13.out
          have HPr : Hid (LiesN wr (fun _ => True) a12 p.sub) := HPL13.out.keep HI.out.old
          obtain ⟨⟨p0, p1, p2, p3, p4⟩, _⟩ := row_five HXr.out
          clear hkl2 HI
          generalize wr = wA at *
          go_wp2_with fail
          refine Calls.mono (ownNode_any _ t (Nat.lt_succ_self _) HSm.out P ra rc wA (HL.out.keep HBr.out)) ?_
          rintro e w14 ⟨⟨na14, nc14, rfl, hl14, hc14⟩, hb14⟩
          have HB14 : Hid (Below W.heap.size W w14) := HBr.out.trans (hb14.mono HBr.out.size)
          have HBA14 : Hid (Below wA.heap.size wA w14) := hb14
          have HL14 : Hid (LiesN w14 (fun _ => True) na14 t.sub) := hl14.stay (fun _ _ _ => trivial) (fun _ _ _ => rfl)
          clear hb14 hl14 p0 p1 p2 p3 p4
          go_wp2_with fail
          refine Calls.mono (intsL_any ia ic ids w14 (by omega) (HLi.out.keep HB14.out)) ?_
          rintro e w15 ⟨⟨ia15, ic15, rfl, hli15⟩, hb15⟩
          have HB15 : Hid (Below W.heap.size W w15) := HB14.out.trans (hb15.mono HB14.out.size)
          have HBA15 : Hid (Below wA.heap.size wA w15) := HBA14.out.trans (hb15.mono HBA14.out.size)
          have HRc : Hid _ := HRo.out ks na14 nc14 ia15 ic15 va vc w15 HB15.out HKl.out HKs.out (HL14.out.keep hb15) hc14 hli15 (HLk.out.keep HBA15.out)
          clear hb15 hli15
          go_wp2_with fail
          refine Calls.mono HRc.out ?_
          rintro e w16 ⟨⟨al, cl, rfl, hl16⟩, hb16⟩
          have HB16 : Hid (Below W.heap.size W w16) := HB15.out.trans (hb16.mono HB15.out.size)
          have HBA16 : Hid (Below wA.heap.size wA w16) := HBA15.out.trans (hb16.mono HBA15.out.size)
          have HX16 : Hid _ := blk_keep HBA16.out HXr.out
          have HY16 : Hid _ := blk_keep HBA16.out HYr.out
          have HP16 : Hid (LiesN w16 (fun _ => True) a12 p.sub) := HPr.out.keep HBA16.out
          obtain ⟨us2, HU2⟩ := hid_name (A.map (cut1 p t))
          rw [HU2.out] at hl16
          have HUl : Hid (us2.length = A.length) := by show _ = _; rw [← HU2.out, List.length_map]
          have HUe : Hid (∀ j (h : j < us2.length) (h' : j < A.length), us2[j] = cut1 p t A[j]) := fun j h h' => by simp only [← HU2.out, List.getElem_map]
          have HL16 : Hid (LiesD w16 (fun b => w15.heap.size ≤ b) al us2) := hl16
          clear hb16 hl16 HRc
          go_wp2_with fail
          go_loopw [19] (fun x wr => ∃ i : Nat, i ≤ A.length ∧ x = .int .i64 i ∧ Hid (Below w16.heap.size w16 wr)) (fun x _ => A.length - (intOf x).toNat)
          case atStart => exact ⟨0, Nat.zero_le _, rfl, Below.refl _ _⟩
          case round =>
           obtain ⟨i, hi, rfl, HBx⟩ := hrel
           have HBW : Hid (Below W.heap.size W wr) := HB16.out.trans (HBx.out.mono HB16.out.size)
           by_cases hlt : i < A.length
           · have hus : i < us2.length := by rw [HUl.out]; exact hlt
             obtain ⟨yb, yo, ya1, yc1, ya2, yc2, hya, ⟨y0, y1, y2, y3, y4, y5⟩, hy1, hy2⟩ := (HL16.out.keep HBx.out).at_ i hus
             obtain ⟨lb, lo, la1, lc1, la2, lc2, hla, ⟨e0, e1, e2, e3, e4, e5⟩, hl1, hl2⟩ := (HLA.out.keep HBW.out).at_ i hlt
             subst hya hla
             have hue := HUe.out i hus hlt
             have hcu := HCu.out i hlt
             have hC : ∀ X, Below wr.heap.size wr X → Calls Tryz.prog 21 #[nodeV t ra rc, nodeV p a12 c12, datumV A[i] la1 lc1 la2 lc2, .bool false] X fun e w' => (∃ al' cl' af' cf', e = .returned (datumV us2[i] al' cl' af' cf') ∧ LiesD w' (fun _ => True) al' us2[i].l ∧ LiesD w' (fun _ => True) af' us2[i].f) ∧ Below wr.heap.size wr w' := fun X hX => by
              have h := HCf.out i hlt P _ PA ra rc a12 c12 la1 lc1 la2 lc2 X ((HL.out.keep HBW.out).keep hX) ((HP16.out.keep HBx.out).keep hX) (hl1.keep hX) (hl2.keep hX)
              rw [if_neg (by simp), hcu.1, ← hue] at h
              refine h.mono ?_
              rintro e w' ⟨⟨al', cl', af', cf', g0, g1, g2⟩, g3⟩
              exact ⟨⟨al', cl', af', cf', g0, g1.stay (fun _ _ _ => trivial) (fun _ _ _ => rfl), g2.stay (fun _ _ _ => trivial) (fun _ _ _ => rfl)⟩, hX.trans (g3.mono hX.size)⟩
             have hS : ∀ X a1 c1 a2 c2, Below wr.heap.size wr X → LiesD X (fun _ => True) a1 us2[i].l → LiesD X (fun _ => True) a2 us2[i].f → Calls Tryz.prog 20 #[datumV us2[i] ya1 yc1 ya2 yc2, datumV us2[i] a1 c1 a2 c2] X fun e w' => e = .returned (.bool true) ∧ Below wr.heap.size wr w' := fun X a1 c1 a2 c2 hX g1 g2 => by
              refine (sd_any _ us2[i] (Nat.lt_succ_self _) (by rw [hue]; exact hcu.2) _ _ ya1 yc1 ya2 yc2 a1 c1 a2 c2 X (hy1.keep hX) (hy2.keep hX) g1 g2).mono ?_
              rintro e w' ⟨h1, h2⟩
              exact ⟨h1, hX.trans (h2.mono hX.size)⟩
             unfold nodeV datumV at hC
             unfold datumV at hS
             obtain ⟨y, HYn⟩ := hid_name us2[i]
             rw [HYn.out] at hC hS y0 y1 y2 y3 y4 y5
             obtain ⟨z, HZn⟩ := hid_name A[i]
             rw [HZn.out] at hC e0 e1 e2 e3 e4 e5
             have HCx : Hid (∀ X, Below wr.heap.size wr X → Calls Tryz.prog 21 #[.agg #[.int .i64 t.id, .string t.nm, .int .i64 t.rep, .int .i64 t.kind, .slice ra t.sub.length rc], .agg #[.int .i64 p.id, .string p.nm, .int .i64 p.rep, .int .i64 p.kind, .slice a12 p.sub.length c12], .agg #[.bool z.no, .int .i64 z.v.k, .int .i64 z.v.n, .string z.v.s, .slice la1 z.l.length lc1, .slice la2 z.f.length lc2], .bool false] X fun e w' => (∃ al' cl' af' cf', e = .returned (.agg #[.bool y.no, .int .i64 y.v.k, .int .i64 y.v.n, .string y.v.s, .slice al' y.l.length cl', .slice af' y.f.length cf']) ∧ LiesD w' (fun _ => True) al' y.l ∧ LiesD w' (fun _ => True) af' y.f) ∧ Below wr.heap.size wr w') := hC
             have HSx : Hid (∀ X a1 c1 a2 c2, Below wr.heap.size wr X → LiesD X (fun _ => True) a1 y.l → LiesD X (fun _ => True) a2 y.f → Calls Tryz.prog 20 #[.agg #[.bool y.no, .int .i64 y.v.k, .int .i64 y.v.n, .string y.v.s, .slice ya1 y.l.length yc1, .slice ya2 y.f.length yc2], .agg #[.bool y.no, .int .i64 y.v.k, .int .i64 y.v.n, .string y.v.s, .slice a1 y.l.length c1, .slice a2 y.f.length c2]] X fun e w' => e = .returned (.bool true) ∧ Below wr.heap.size wr w') := hS
             obtain ⟨⟨p0, p1, p2, p3, p4⟩, _⟩ := row_five (blk_keep HBx.out HX16.out)
             obtain ⟨⟨i0, i1, i2, i3, i4⟩, _⟩ := row_five (blk_keep HBx.out HY16.out)
             have HN : Hid (∀ X, Below wr.heap.size wr X → (X.cell? ⟨W.heap.size, 0, none⟩ = some (.int .i64 t.id) ∧ X.cell? ⟨W.heap.size, 1, none⟩ = some (.string t.nm) ∧ X.cell? ⟨W.heap.size, 2, none⟩ = some (.int .i64 t.rep) ∧ X.cell? ⟨W.heap.size, 3, none⟩ = some (.int .i64 t.kind) ∧ X.cell? ⟨W.heap.size, 4, none⟩ = some (.slice ra t.sub.length rc)) ∧ (X.cell? ⟨w11.heap.size, 0, none⟩ = some (.int .i64 p.id) ∧ X.cell? ⟨w11.heap.size, 1, none⟩ = some (.string p.nm) ∧ X.cell? ⟨w11.heap.size, 2, none⟩ = some (.int .i64 p.rep) ∧ X.cell? ⟨w11.heap.size, 3, none⟩ = some (.int .i64 p.kind) ∧ X.cell? ⟨w11.heap.size, 4, none⟩ = some (.slice a12 p.sub.length c12)) ∧ (X.cell? ⟨yb, yo + i * 6, none⟩ = some (.bool y.no) ∧ X.cell? ⟨yb, yo + i * 6 + 1, none⟩ = some (.int .i64 y.v.k) ∧ X.cell? ⟨yb, yo + i * 6 + 2, none⟩ = some (.int .i64 y.v.n) ∧ X.cell? ⟨yb, yo + i * 6 + 3, none⟩ = some (.string y.v.s) ∧ X.cell? ⟨yb, yo + i * 6 + 4, none⟩ = some (.slice ya1 y.l.length yc1) ∧ X.cell? ⟨yb, yo + i * 6 + 5, none⟩ = some (.slice ya2 y.f.length yc2)) ∧ (X.cell? ⟨lb, lo + i * 6, none⟩ = some (.bool z.no) ∧ X.cell? ⟨lb, lo + i * 6 + 1, none⟩ = some (.int .i64 z.v.k) ∧ X.cell? ⟨lb, lo + i * 6 + 2, none⟩ = some (.int .i64 z.v.n) ∧ X.cell? ⟨lb, lo + i * 6 + 3, none⟩ = some (.string z.v.s) ∧ X.cell? ⟨lb, lo + i * 6 + 4, none⟩ = some (.slice la1 z.l.length lc1) ∧ X.cell? ⟨lb, lo + i * 6 + 5, none⟩ = some (.slice la2 z.f.length lc2)) ∧ Below wr.heap.size wr X) := fun X hX => (by
              have kk : ∀ (ad : Addr) (u : Value), wr.cell? ad = some u → X.cell? ad = some u := fun ad u h => (hX.cell (World.block_lt_of_cell? wr _ h)).trans h
              exact ⟨⟨kk _ _ p0, kk _ _ p1, kk _ _ p2, kk _ _ p3, kk _ _ p4⟩, ⟨kk _ _ i0, kk _ _ i1, kk _ _ i2, kk _ _ i3, kk _ _ i4⟩, ⟨kk _ _ y0, kk _ _ y1, kk _ _ y2, kk _ _ y3, kk _ _ y4, kk _ _ y5⟩, ⟨kk _ _ e0, kk _ _ e1, kk _ _ e2, kk _ _ e3, kk _ _ e4, kk _ _ e5⟩, hX⟩)
             have b0 : Below wr.heap.size wr wr := Below.refl _ _
             clear hC hS hue hcu hy1 hy2 hl1 hl2
             go_upto_region 27 with fail
             go_region_held3 (fun X => (X.cell? ⟨W.heap.size, 0, none⟩ = some (.int .i64 t.id) ∧ X.cell? ⟨W.heap.size, 1, none⟩ = some (.string t.nm) ∧ X.cell? ⟨W.heap.size, 2, none⟩ = some (.int .i64 t.rep) ∧ X.cell? ⟨W.heap.size, 3, none⟩ = some (.int .i64 t.kind) ∧ X.cell? ⟨W.heap.size, 4, none⟩ = some (.slice ra t.sub.length rc)) ∧ (X.cell? ⟨w11.heap.size, 0, none⟩ = some (.int .i64 p.id) ∧ X.cell? ⟨w11.heap.size, 1, none⟩ = some (.string p.nm) ∧ X.cell? ⟨w11.heap.size, 2, none⟩ = some (.int .i64 p.rep) ∧ X.cell? ⟨w11.heap.size, 3, none⟩ = some (.int .i64 p.kind) ∧ X.cell? ⟨w11.heap.size, 4, none⟩ = some (.slice a12 p.sub.length c12)) ∧ (X.cell? ⟨yb, yo + i * 6, none⟩ = some (.bool y.no) ∧ X.cell? ⟨yb, yo + i * 6 + 1, none⟩ = some (.int .i64 y.v.k) ∧ X.cell? ⟨yb, yo + i * 6 + 2, none⟩ = some (.int .i64 y.v.n) ∧ X.cell? ⟨yb, yo + i * 6 + 3, none⟩ = some (.string y.v.s) ∧ X.cell? ⟨yb, yo + i * 6 + 4, none⟩ = some (.slice ya1 y.l.length yc1) ∧ X.cell? ⟨yb, yo + i * 6 + 5, none⟩ = some (.slice ya2 y.f.length yc2)) ∧ (X.cell? ⟨lb, lo + i * 6, none⟩ = some (.bool z.no) ∧ X.cell? ⟨lb, lo + i * 6 + 1, none⟩ = some (.int .i64 z.v.k) ∧ X.cell? ⟨lb, lo + i * 6 + 2, none⟩ = some (.int .i64 z.v.n) ∧ X.cell? ⟨lb, lo + i * 6 + 3, none⟩ = some (.string z.v.s) ∧ X.cell? ⟨lb, lo + i * 6 + 4, none⟩ = some (.slice la1 z.l.length lc1) ∧ X.cell? ⟨lb, lo + i * 6 + 5, none⟩ = some (.slice la2 z.f.length lc2)) ∧ Below wr.heap.size wr X) (first | (with_reducible refine HN.out _ ?_; repeat' (first | with_reducible assumption | with_reducible exact b0.drew | with_reducible exact b0))) (first | (go_at_call 21; refine Calls.mono (HCx.out _ (by first | exact (Below.refl _ _).drew | exact Below.refl _ _)) ?_; rintro e w17 ⟨⟨al7, cl7, af7, cf7, rfl, hl7, hf7⟩, hb7⟩; have HL7 : Hid (LiesD w17 (fun _ => True) al7 y.l) := hl7; have HF7 : Hid (LiesD w17 (fun _ => True) af7 y.f) := hf7; clear hl7 hf7) | (go_at_call 20; refine Calls.mono (HSx.out _ _ _ _ _ hb7 HL7.out HF7.out) ?_; rintro e w18 ⟨rfl, hb8⟩))
             all_goals
              have HBn : Hid (Below w16.heap.size w16 w18) := HBx.out.trans (hb8.mono HBx.out.size)
              clear hb8
              go_wp2
              go_roundw
              case rel => exact ⟨i + 1, hlt, by go_num, HBn⟩
              case measure => simp [intOf]; omega
           · obtain rfl : i = A.length := by omega
             go_wp2
             go_ret
             exact ⟨rfl, HBW.out⟩
end Go.Proofs.YteonbmaokphleaaGreatDoor
