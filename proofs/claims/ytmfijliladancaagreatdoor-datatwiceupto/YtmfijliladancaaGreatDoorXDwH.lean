/-
  The reader of a record's text: a group.
-/
import Derived.Test.YtmfijliladancaaGreatDoorXDwG
import Derived.Deep.DeepCutAuto
namespace Go.Proofs.YtmfijliladancaaGreatDoor
open Go.RowKit
set_option maxRecDepth 100000 in
set_option maxHeartbeats 6400000 in
theorem dgroup_of (t : Tr) (hsl : t.sub.length ≤ 1048576) (fs : List Dt) (hlen : fs.length = t.sub.length) (each : ∀ j (h : j < t.sub.length) (h' : j < fs.length), RdN t.sub[j] fs[j])
    (r : Nat) (s : ByteArray) (p : Nat) (xa : Option Addr) (xc : Nat) (W : World) (hr : Rdd r s p W) (hs : s.size ≤ 100000) (hw : Wo s p (gT t.sub (txF t.sub fs) t.sub.length ++ [125])) (htab : TabR r W) (hl : LiesN W (fun k => k ≠ r) xa t.sub) :
    Calls Tryz.prog (53) #[.pointer (some ⟨r, 0, none⟩), .agg #[.int .i64 t.id, .string t.nm, .int .i64 t.rep, .int .i64 t.kind, .slice xa t.sub.length xc]] W fun e w' => ∃ a' c', e = .returned (.slice a' fs.length c') ∧ LiesD w' (fun b => W.heap.size ≤ b) a' fs ∧ Rdd r s (p + (gT t.sub (txF t.sub fs) t.sub.length ++ [125]).length) w' ∧ RFr r W w' := by
  obtain ⟨iv, hvi, hv0, hv1, hv2⟩ := info_parts Tryz.infoD
  have hrw : r < W.heap.size := lt_of_block hr
  obtain ⟨w0, HW0, HX, HB⟩ := one_box W #[.int .i64 t.id, .string t.nm, .int .i64 t.rep, .int .i64 t.kind, .slice xa t.sub.length xc] 24
  have hul := txF_len t.sub fs hlen
  have HUg : Hid (∀ (j : Nat) (h : j < t.sub.length) (h' : j < fs.length) (h2 : j < (txF t.sub fs).length), (txF t.sub fs)[j] = tx false t.sub[j] fs[j]) := txF_get t.sub fs hlen
  obtain ⟨us, HUs⟩ := hid_name (txF t.sub fs)
  rw [HUs.out] at hul hw HUg ⊢
  have hws := hw.le (by simp)
  have hwl : (gT t.sub us t.sub.length ++ [125]).length = (gT t.sub us t.sub.length).length + 1 := by simp
  rw [hwl] at hws ⊢
  have HW : Hid (Wo s p (gT t.sub us t.sub.length ++ [125])) := hw
  have HL : Hid (LiesN W (fun k => k ≠ r) xa t.sub) := hl
  have HE : Hid _ := each
  have HTab : Hid (TabR r W) := htab
  have HS : Hid (DgI W r fs w0 0 (.slice none 0 0) []) := .start fs (.of_below HB.out) hrw
  have HR0 : Hid (Rdd r s p w0) := hr.keep HB.out
  have HBx : Hid (W.heap.size ≠ r) := (by show _ ≠ _; omega)
  have HLn : Hid (fs.length = t.sub.length ∧ us.length = t.sub.length) := ⟨hlen, hul⟩
  have HGl : Hid (∀ n, n ≤ t.sub.length → (gT t.sub us n).length ≤ (gT t.sub us t.sub.length).length) := fun n hn => gT_le t.sub us n _ hn
  obtain ⟨⟨p0, p1, p2, p3, p4⟩, _⟩ := row_five HX.out
  have hn9 : (9223372036854775807 : Nat) = 9223372036854775807 := rfl
  clear hr hw hl each htab hlen hul
  go_enter Tryz.func53, Tryz.ntmps53
  go_upto_region 1 with fail
  rw [HW0.out]
  go_wp2_with fail
  go_loopw [5, 11] (fun l x wr => ∃ (i : Nat) (ncs : List (List Value)), i ≤ t.sub.length ∧ x = .int .i64 i ∧ Hid (DgI W r fs wr i l ncs) ∧ Hid (Rdd r s (p + (gT t.sub us i).length) wr)) (fun _ x _ => t.sub.length - (intOf x).toNat)
  case atStart => exact ⟨0, [], Nat.zero_le _, rfl, HS, by rw [gT]; exact HR0⟩
  case round =>
    clear HS HR0 p0 p1 p2 p3 p4
    obtain ⟨i, ncs, hik, rfl, HD, HR⟩ := hrel
    have hGi := HGl.out i hik
    by_cases hlt : i < t.sub.length
    · have hif : i < fs.length := by rw [HLn.out.1]; exact hlt
      have hiu : i < us.length := by rw [HLn.out.2]; exact hlt
      have hGi1 := HGl.out (i + 1) hlt
      have HUi : Hid (us[i] = tx false t.sub[i] fs[i]) := HUg.out i hlt hif hiu
      obtain ⟨s0, HS0⟩ := hid_name (if i = 0 then (⟨#[123]⟩ : ByteArray) else ⟨#[44]⟩)
      have HSd : Hid (s0.data.toList = (if i = 0 then [123] else [44])) := (by show _ = _; rw [← HS0.out]; split <;> rfl)
      have hs1 : s0.size = 1 := by rw [← HS0.out]; split <;> rfl
      have HAh : Hid (∀ X, Calls Tryz.prog 60 #[.int .i64 i] X fun e w' => e = .returned (.string s0) ∧ w' = X) := fun X => by rw [← HS0.out]; exact aheadOf_any i X
      have HGs : Hid (gT t.sub us (i + 1) = gT t.sub us i ++ (s0.data.toList ++ (t.sub[i].nm.data.toList ++ ([58] ++ us[i])))) := (by
        show _ = _
        rw [gT, HSd.out]
        simp [List.getD, hlt, hiu])
      have hnm : t.sub[i].nm.data.toList.length = t.sub[i].nm.size := by rw [Array.length_toList]; rfl
      have hs1' : s0.data.toList.length = 1 := by rw [Array.length_toList]; exact hs1
      have hGe : (gT t.sub us (i + 1)).length = (gT t.sub us i).length + (1 + (t.sub[i].nm.size + (1 + us[i].length))) := by
        rw [HGs.out]
        simp only [List.length_append, hs1', hnm, List.length_cons, List.length_nil]
      obtain ⟨c, tl, hct, hdc⟩ := gT_after t.sub us (i + 1) t.sub.length hlt
      have hwo := HW.out
      rw [hct] at hwo
      have HNd : Hid (dgB (nx s (p + (gT t.sub us (i + 1)).length)) = false) := (by
        show dgB _ = false
        rw [hwo.right.nx]
        exact hdc)
      have hw1 := hwo.left
      rw [HGs.out] at hw1
      have HWa : Hid (Wo s (p + (gT t.sub us i).length) s0.data.toList) := hw1.right.left
      have HWb : Hid (Wo s (p + (gT t.sub us i).length + 1) t.sub[i].nm.data.toList) := (by
        have h := hw1.right.right
        rw [hs1'] at h
        exact h.left)
      have HWc : Hid (Wo s (p + (gT t.sub us i).length + 1 + t.sub[i].nm.size) [58]) := (by
        have h := hw1.right.right
        rw [hs1'] at h
        have h := h.right
        rw [hnm] at h
        exact h.left)
      have HWd : Hid (Wo s (p + (gT t.sub us i).length + 1 + t.sub[i].nm.size + 1) us[i]) := (by
        have h := hw1.right.right
        rw [hs1'] at h
        have h := h.right
        rw [hnm] at h
        exact h.right)
      clear hwo hw1 hct hdc
      obtain ⟨q, HQ⟩ := hid_name (p + (gT t.sub us i).length)
      have hqs : q + 1 + t.sub[i].nm.size + 1 + us[i].length ≤ s.size := by rw [← HQ.out]; omega
      have HQe : Hid (p + (gT t.sub us (i + 1)).length = q + 1 + t.sub[i].nm.size + 1 + us[i].length) := (by show _ = _; rw [← HQ.out]; omega)
      rw [HQ.out] at HR HWa HWb HWc HWd
      rw [HQe.out] at HNd
      obtain ⟨bb, o, a1, c1, rfl, d0, d1, d2, d3, d4, hl1⟩ := (HL.out.rf HD.out.fr).at_ i hlt
      have hb2 : Below wr.heap.size wr (wr.alloc (.cells #[.int .i64 t.sub[i].id, .string t.sub[i].nm, .int .i64 t.sub[i].rep, .int .i64 t.sub[i].kind, .slice a1 t.sub[i].sub.length c1] 24)) := (Below.refl _ _).alloc (Nat.le_refl _) _
      have HI2 : Hid ((wr.alloc (.cells #[.int .i64 t.sub[i].id, .string t.sub[i].nm, .int .i64 t.sub[i].rep, .int .i64 t.sub[i].kind, .slice a1 t.sub[i].sub.length c1] 24)).heap[wr.heap.size]? = some (.cells #[.int .i64 t.sub[i].id, .string t.sub[i].nm, .int .i64 t.sub[i].rep, .int .i64 t.sub[i].kind, .slice a1 t.sub[i].sub.length c1] 24 (0, 0))) := heap_alloc_new _ _
      have HF2 : Hid (RFr r wr (wr.alloc (.cells #[.int .i64 t.sub[i].id, .string t.sub[i].nm, .int .i64 t.sub[i].rep, .int .i64 t.sub[i].kind, .slice a1 t.sub[i].sub.length c1] 24))) := .of_below hb2
      have HR2 : Hid (Rdd r s q (wr.alloc (.cells #[.int .i64 t.sub[i].id, .string t.sub[i].nm, .int .i64 t.sub[i].rep, .int .i64 t.sub[i].kind, .slice a1 t.sub[i].sub.length c1] 24))) := HR.out.keep hb2
      have HL2 : Hid (LiesN (wr.alloc (.cells #[.int .i64 t.sub[i].id, .string t.sub[i].nm, .int .i64 t.sub[i].rep, .int .i64 t.sub[i].kind, .slice a1 t.sub[i].sub.length c1] 24)) (fun k => k ≠ r) a1 t.sub[i].sub) := hl1.keep hb2
      obtain ⟨w2, HW2⟩ := hid_name (wr.alloc (.cells #[.int .i64 t.sub[i].id, .string t.sub[i].nm, .int .i64 t.sub[i].rep, .int .i64 t.sub[i].kind, .slice a1 t.sub[i].sub.length c1] 24))
      have hwrr : r < wr.heap.size := lt_of_block HR.out
      have HGr : Hid (wr.heap.size ≠ r) := (by show _ ≠ _; omega)
      rw [HW2.out] at HI2 HF2 HR2 HL2
      obtain ⟨g, HGn⟩ := hid_name wr.heap.size
      rw [HGn.out] at HI2 HGr
      clear hb2 hl1
      have HEi : Hid (RdN t.sub[i] fs[i]) := HE.out i hlt hif
      obtain ⟨x, HXn⟩ := hid_name t.sub[i]
      obtain ⟨y, HYn⟩ := hid_name fs[i]
      rw [HXn.out] at HEi HI2 HL2 HWb HWc HWd HQe HNd hqs HUi d0 d1 d2 d3 d4 HW2
      rw [HYn.out] at HEi HUi
      obtain ⟨u, HU⟩ := hid_name us[i]
      rw [HU.out] at HWd HQe HNd hqs HUi
      have HT1 : Hid (Calls Tryz.prog (32) #[.pointer (some ⟨r, 0, none⟩), .string s0] w2 fun e w' => e = .returned (.tuple #[]) ∧ Rdd r s (q + 1) w' ∧ RFr r w2 w') := (by
        have h := dtake_any r s s0 q w2 HR2.out hs HWa.out (by omega)
        rw [hs1] at h
        exact h)
      have HT2 : Hid (∀ X, Rdd r s (q + 1) X → Calls Tryz.prog (32) #[.pointer (some ⟨r, 0, none⟩), .string x.nm] X fun e w' => e = .returned (.tuple #[]) ∧ Rdd r s (q + 1 + x.nm.size) w' ∧ RFr r X w') := fun X hX => dtake_any r s x.nm (q + 1) X hX hs HWb.out (by omega)
      have HT3 : Hid (∀ X, Rdd r s (q + 1 + x.nm.size) X → Calls Tryz.prog (32) #[.pointer (some ⟨r, 0, none⟩), .string ⟨#[58]⟩] X fun e w' => e = .returned (.tuple #[]) ∧ Rdd r s (q + 1 + x.nm.size + 1) w' ∧ RFr r X w') := fun X hX => dtake_any r s ⟨#[58]⟩ (q + 1 + x.nm.size) X hX hs HWc.out (by omega)
      have HT4 : Hid (∀ X, Rdd r s (q + 1 + x.nm.size + 1) X → RFr r w2 X → Calls Tryz.prog (18) #[.pointer (some ⟨r, 0, none⟩), .agg #[.int .i64 x.id, .string x.nm, .int .i64 x.rep, .int .i64 x.kind, .slice a1 x.sub.length c1]] X fun e w' => ∃ al cl af cf, e = .returned (.agg #[.bool y.no, .int .i64 y.v.k, .int .i64 y.v.n, .string y.v.s, .slice al y.l.length cl, .slice af y.f.length cf]) ∧ LiesD w' (fun b => X.heap.size ≤ b) al y.l ∧ LiesD w' (fun b => X.heap.size ≤ b) af y.f ∧ Rdd r s (q + 1 + x.nm.size + 1 + u.length) w' ∧ RFr r X w') := fun X hX hF => (by
        have h := HEi.out r s (q + 1 + x.nm.size + 1) a1 c1 X hX hs (by rw [← HUi.out]; exact HWd.out) (by omega) (by rw [← HUi.out]; exact HNd.out) (HTab.out.on ((HD.out.fr.trans HF2.out).trans hF)) (HL2.out.rf hF)
        rw [← HUi.out] at h
        exact h)
      clear HWa HWb HWc HWd HEi HUi HNd
      go_upto_region 5 with fail
      rw [HW2.out, HGn.out]
      go_wp2_with fail
      refine Calls.mono (HAh.out _) ?_
      rintro e w3 ⟨rfl, hw3⟩
      obtain rfl := hw3.symm
      go_wp2_with fail
      refine Calls.mono HT1.out ?_
      rintro e w4 ⟨rfl, hr4, hf4⟩
      have HR4 : Hid _ := hr4
      have HF4 : Hid (RFr r w2 w4) := hf4
      obtain ⟨⟨m0, m1, m2, m3, m4⟩, _⟩ := row_five (hf4.box HI2.out HGr.out)
      clear hr4 hf4
      go_wp2_with fail
      refine Calls.mono (HT2.out _ HR4.out) ?_
      rintro e w5 ⟨rfl, hr5, hf5⟩
      have HR5 : Hid _ := hr5
      have HF5 : Hid (RFr r w2 w5) := HF4.out.trans hf5
      clear hr5 hf5 m0 m1 m2 m3 m4
      go_wp2_with fail
      refine Calls.mono (HT3.out _ HR5.out) ?_
      rintro e w6 ⟨rfl, hr6, hf6⟩
      have HR6 : Hid _ := hr6
      have HF6 : Hid (RFr r w2 w6) := HF5.out.trans hf6
      clear hr6 hf6
      obtain ⟨⟨m0, m1, m2, m3, m4⟩, _⟩ := row_five (HF6.out.box HI2.out HGr.out)
      go_wp2_with fail
      refine Calls.mono (HT4.out _ HR6.out HF6.out) ?_
      rintro e w7 ⟨al, cl, af, cf, rfl, hl7, hf7, hr7, hff7⟩
      have HF7 : Hid (RFr r wr w7) := (HF2.out.trans HF6.out).trans hff7
      have hs26 := (HF2.out.trans HF6.out).size
      have HL7 : Hid (LiesD w7 (fun b => wr.heap.size ≤ b) al y.l) := hl7.stay (fun b h _ => Nat.le_trans hs26 h) (fun _ _ _ => rfl)
      have HL8 : Hid (LiesD w7 (fun b => wr.heap.size ≤ b) af y.f) := hf7.stay (fun b h _ => Nat.le_trans hs26 h) (fun _ _ _ => rfl)
      have HR7 : Hid _ := hr7
      have HRow : Hid (w7.ownsRow W.heap.size 29 6 u5 i ncs.flatten) := row_rf HD.out.row HF7.out HD.out.lt
      have hwsz : W.heap.size ≤ w7.heap.size := Nat.le_trans HD.out.fr.size HF7.out.size
      clear hl7 hf7 hr7 hff7 m0 m1 m2 m3 m4
      go_wp2_with (at_builtin; refine wpList_append_where _ rfl _ _ 27 rfl W.heap.size 29 iv (.agg #[.bool false, .int .i64 0, .int .i64 0, .string ⟨#[]⟩, .slice none 0 0, .slice none 0 0]) 6 88 Tryz.underlying27 hvi hv0 hv1 hv2 rfl (by decide) _ i ncs.flatten rfl (HRow.out.alloc _) ⟨_, 0, none⟩ 1 1 [.bool y.no, .int .i64 y.v.k, .int .i64 y.v.n, .string y.v.s, .slice al y.l.length cl, .slice af y.f.length cf] rfl rfl six_cells (by intro u hu; simp at hu; rcases hu with rfl | rfl | rfl | rfl | rfl | rfl <;> rfl) (by unfold maxLen; omega) (by omega) (by simp; omega) (by decide) ?_; intro l' w9 hown9 hgrow9 hwh; have HDn : Hid (DgI W r fs w9 (i + 1) l' (ncs ++ [[.bool fs[i].no, .int .i64 fs[i].v.k, .int .i64 fs[i].v.n, .string fs[i].v.s, .slice al fs[i].l.length cl, .slice af fs[i].f.length cf]])) := HD.out.push hif HF7.out (by rw [HYn.out]; exact HL7.out) (by rw [HYn.out]; exact HL8.out) (by rw [HYn.out]; exact hown9) hgrow9 hwh; have HG9 : Hid (RFr r W w9 ∧ ∀ k, k < W.heap.size → w9.heap[k]? = w7.heap[k]?) := rfr_grow (HD.out.fr.trans HF7.out) hgrow9 (fun k hk => (HD.out.row.lt k hk).1))
      have HR9 : Hid (Rdd r s (p + (gT t.sub us (i + 1)).length) w9) := (by
        show Rdd _ _ _ _
        rw [HQe.out]
        exact (HG9.out.2 r hrw).trans HR7.out)
      go_roundw
      case rel => exact ⟨i + 1, _, by omega, by go_num, HDn, HR9⟩
      case measure => simp [intOf]; omega
    · obtain rfl : i = t.sub.length := by omega
      have HWe : Hid (Wo s (p + (gT t.sub us t.sub.length).length) [125]) := HW.out.right
      have HT : Hid (Calls Tryz.prog (32) #[.pointer (some ⟨r, 0, none⟩), .string ⟨#[125]⟩] wr fun e w' => e = .returned (.tuple #[]) ∧ Rdd r s (p + (gT t.sub us t.sub.length).length + 1) w' ∧ RFr r wr w') := dtake_any r s ⟨#[125]⟩ _ wr HR.out hs HWe.out (by omega)
      have HE2 : Hid (t.sub.length = fs.length) := HLn.out.1.symm
      obtain ⟨a9, c9, rfl⟩ := HD.out.shape
      go_wp2_with fail
      refine Calls.mono HT.out ?_
      rintro e w3 ⟨rfl, hr3, hf3⟩
      have HR3 : Hid _ := hr3
      have HD3 : Hid _ := HD.out.go hf3
      clear hr3 hf3
      go_wp2
      go_ret
      have hd := HD3.out
      rw [HE2.out] at hd
      exact ⟨a9, c9, by rw [← HE2.out]; rfl, hd.lies, HR3.out, hd.fr⟩
end Go.Proofs.YtmfijliladancaaGreatDoor
