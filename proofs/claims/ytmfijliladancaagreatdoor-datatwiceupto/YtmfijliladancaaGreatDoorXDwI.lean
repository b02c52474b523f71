/-
  The reader of a record's text: a list.
-/
import Derived.Test.YtmfijliladancaaGreatDoorXDwG
import Derived.Deep.DeepCutAuto
namespace Go.Proofs.YtmfijliladancaaGreatDoor
open Go.RowKit
/-- Where the next element, or the list's end, begins. -/
def lpos (us : List (List UInt8)) (n i : Nat) : Nat := (lT us i).length + (if 0 < i ∧ i < n then 1 else 0)
set_option maxRecDepth 100000 in
set_option maxHeartbeats 6400000 in
theorem dlist_of (t : Tr) (ds : List Dt) (hdl : ds.length ≤ 40) (each : ∀ j (h : j < ds.length), RdO t ds[j]) (hch : ∀ j (h : j < ds.length), chk true t ds[j] = 0)
    (r : Nat) (s : ByteArray) (p : Nat) (xa : Option Addr) (xc : Nat) (W : World) (hr : Rdd r s p W) (hs : s.size ≤ 100000) (hw : Wo s p (91 :: (lT (txL t ds) ds.length ++ [93]))) (hp : p ≤ s.size) (htab : TabR r W) (hl : LiesN W (fun k => k ≠ r) xa t.sub) :
    Calls Tryz.prog (30) #[.pointer (some ⟨r, 0, none⟩), .agg #[.int .i64 t.id, .string t.nm, .int .i64 t.rep, .int .i64 t.kind, .slice xa t.sub.length xc]] W fun e w' => ∃ a' c', e = .returned (.slice a' ds.length c') ∧ LiesD w' (fun b => W.heap.size ≤ b) a' ds ∧ Rdd r s (p + (91 :: (lT (txL t ds) ds.length ++ [93])).length) w' ∧ RFr r W w' := by
  obtain ⟨iv, hvi, hv0, hv1, hv2⟩ := info_parts Tryz.infoD
  have hrw : r < W.heap.size := lt_of_block hr
  obtain ⟨w0, HW0, HX, HB⟩ := one_box W #[.int .i64 t.id, .string t.nm, .int .i64 t.rep, .int .i64 t.kind, .slice xa t.sub.length xc] 24
  have hul := txL_len t ds
  have HUg : Hid (∀ (j : Nat) (h : j < ds.length) (h2 : j < (txL t ds).length), (txL t ds)[j] = tx true t ds[j]) := txL_get t ds
  have HHd : Hid (∀ j (h : j < ds.length), ∃ c u, tx true t ds[j] = c :: u ∧ c ≠ 93) := fun j h => by
    obtain ⟨c, u, h1, h2, _⟩ := tx_head (hch j h)
    exact ⟨c, u, h1, h2⟩
  obtain ⟨us, HUs⟩ := hid_name (txL t ds)
  rw [HUs.out] at hul hw HUg ⊢
  have hws := hw.le (by simp)
  have hwl : (91 :: (lT us ds.length ++ [93])).length = (lT us ds.length).length + 2 := by simp
  rw [hwl] at hws ⊢
  have HW : Hid (Wo s (p + 1) (lT us ds.length ++ [93])) := hw.tail
  have HT0 : Hid (Calls Tryz.prog (32) #[.pointer (some ⟨r, 0, none⟩), .string ⟨#[91]⟩] w0 fun e w' => e = .returned (.tuple #[]) ∧ Rdd r s (p + 1) w' ∧ RFr r w0 w') := dtake_any r s ⟨#[91]⟩ p w0 (hr.keep HB.out) hs (Wo.left (u := [91]) hw) hp
  have HL : Hid (LiesN W (fun k => k ≠ r) xa t.sub) := hl
  have HE : Hid _ := each
  have HTab : Hid (TabR r W) := htab
  have HBx : Hid (W.heap.size ≠ r) := (by show _ ≠ _; omega)
  have HGl : Hid (∀ n, n ≤ ds.length → (lT us n).length ≤ (lT us ds.length).length) := fun n hn => lT_le us n _ hn
  have HHead : Hid (nx s (p + 1) = 93 ↔ ds.length = 0) := (by
    show _ ↔ _
    cases hn : ds.length with
    | zero =>
      have h := HW.out
      rw [hn] at h
      exact ⟨fun _ => rfl, fun _ => h.nx⟩
    | succ k =>
      refine ⟨fun h => absurd h ?_, fun h => absurd h (by omega)⟩
      obtain ⟨c, u, h1, h2⟩ := HHd.out 0 (by omega)
      obtain ⟨tl, h3⟩ := lT_after us 1 ds.length (by omega) (by omega)
      have h4 := HW.out
      rw [h3] at h4
      have h5 : lT us 1 = us[0]'(by omega) := by
        rw [lT, lT]
        simp [List.getD, hul, hn]
      rw [h5, HUg.out 0 (by omega) (by omega), h1] at h4
      rw [h4.left.nx]
      exact h2)
  clear hr hw hl each htab hch
  go_enter Tryz.func30, Tryz.ntmps30
  go_upto_region 1 with fail
  rw [HW0.out]
  go_wp2_with fail
  refine Calls.mono HT0.out ?_
  rintro e w1 ⟨rfl, hr1, hf1⟩
  have HR1 : Hid (Rdd r s (p + 1) w1) := hr1
  have HF1 : Hid (RFr r W w1) := (RFr.of_below HB.out).trans hf1
  have HX1 : Hid _ := hf1.box HX.out HBx.out
  have HN1 : Hid (Calls Tryz.prog (31) #[.pointer (some ⟨r, 0, none⟩)] w1 fun e w' => e = .returned (.int .u8 (nx s (p + 1)).toNat) ∧ ∃ m, w' = w1.drewN m) := dnext_any r s (p + 1) w1 hr1 (by omega)
  have HM : Hid ((((nx s (p + 1)).toNat : Int) != 93) = decide (0 < ds.length)) := (by
    show _ = _
    rw [Bool.eq_iff_iff, bne_iff_ne, decide_eq_true_iff]
    constructor
    · intro h
      by_cases h0 : ds.length = 0
      · exact absurd (by rw [HHead.out.2 h0]; rfl) h
      · omega
    · intro h e
      have : ds.length = 0 := HHead.out.1 (UInt8.toNat_inj.1 (by show (nx s (p + 1)).toNat = 93; omega))
      omega)
  clear hr1 hf1
  obtain ⟨m0, HM0⟩ := hid_name (((nx s (p + 1)).toNat : Int) != 93)
  rw [HM0.out] at HM
  have HS : Hid (DgI W r ds w1 0 (.slice none 0 0) []) := .start ds HF1.out hrw
  go_wp2_with fail
  refine Calls.mono HN1.out ?_
  rintro e w2 ⟨rfl, k, rfl⟩
  go_upto_region 4 with fail
  rw [HM0.out]
  go_loopw [5, 6] (fun l more wr => ∃ (i : Nat) (ncs : List (List Value)), i ≤ ds.length ∧ more = .bool (decide (i < ds.length)) ∧ Hid (DgI W r ds wr i l ncs) ∧ Hid (Rdd r s (p + 1 + lpos us ds.length i) wr) ∧ Hid (wr.heap[W.heap.size]? = some (.cells #[.int .i64 t.id, .string t.nm, .int .i64 t.rep, .int .i64 t.kind, .slice xa t.sub.length xc] 24 (0, 0)))) (fun l _ _ => ds.length - slLen l)
  case atStart => exact ⟨0, [], Nat.zero_le _, by rw [HM.out], HS.out.go (rfr_drew (RFr.refl r w1) k), by unfold lpos; rw [if_neg (by omega), lT]; exact HR1.out.drew k, HX1.out⟩
  case round =>
    clear HS HR1 HF1 HX1 HT0 HN1 HM HM0
    obtain ⟨i, ncs, hik, rfl, HD, HR, HXr⟩ := hrel
    have hGi := HGl.out i hik
    by_cases hlt : i < ds.length
    · have hiu : i < us.length := by omega
      have hGi1 := HGl.out (i + 1) hlt
      have HUi : Hid (us[i] = tx true t ds[i]) := HUg.out i hlt hiu
      have HLs : Hid (lT us (i + 1) = (lT us i ++ (if i = 0 then [] else [44])) ++ us[i]) := (by
        show _ = _
        rw [lT]
        simp [List.getD, hiu])
      have HQe : Hid (lpos us ds.length i = (lT us i ++ (if i = 0 then [] else [44])).length) := (by
        show _ = _
        unfold lpos
        by_cases h0 : i = 0
        · rw [if_pos h0, if_neg (by omega)]
          simp
        · rw [if_neg h0, if_pos ⟨by omega, hlt⟩]
          simp)
      obtain ⟨tl, hct⟩ := lT_after us (i + 1) ds.length (by omega) hlt
      have hwo := HW.out
      rw [hct] at hwo
      have HNx : Hid (nx s (p + 1 + (lT us (i + 1)).length) = if i + 1 < ds.length then 44 else 93) := hwo.right.nx
      have HWd : Hid (Wo s (p + 1 + lpos us ds.length i) us[i]) := (by
        have h := hwo.left
        rw [HLs.out] at h
        rw [HQe.out]
        exact h.right)
      have HQn : Hid (p + 1 + (lT us (i + 1)).length = p + 1 + lpos us ds.length i + us[i].length) := (by
        show _ = _
        rw [HLs.out, List.length_append, HQe.out]
        omega)
      have HPn : Hid (lpos us ds.length (i + 1) = (lT us (i + 1)).length + (if i + 1 < ds.length then 1 else 0)) := (by
        show _ = _
        unfold lpos
        by_cases h0 : i + 1 < ds.length
        · rw [if_pos h0, if_pos ⟨by omega, h0⟩]
        · rw [if_neg h0, if_neg (by omega)])
      have hqs : p + 1 + (lT us (i + 1)).length + 1 ≤ s.size := by omega
      clear hwo hct
      obtain ⟨q, HQ⟩ := hid_name (p + 1 + lpos us ds.length i)
      obtain ⟨q1, HQ1⟩ := hid_name (p + 1 + (lT us (i + 1)).length)
      rw [HQ.out] at HR HWd HQn
      rw [HQ1.out] at HQn HNx hqs
      have HNd : Hid (dgB (nx s q1) = false) := (by
        show dgB _ = false
        rw [HNx.out]
        split <;> decide)
      have hqq : q ≤ s.size := by have := HQn.out; omega
      have HEi : Hid (RdO t ds[i]) := HE.out i hlt
      obtain ⟨y, HYn⟩ := hid_name ds[i]
      obtain ⟨u, HU⟩ := hid_name us[i]
      rw [HYn.out] at HEi HUi
      rw [HU.out] at HWd HQn HUi
      have HC : Hid (Calls Tryz.prog (33) #[.pointer (some ⟨r, 0, none⟩), .agg #[.int .i64 t.id, .string t.nm, .int .i64 t.rep, .int .i64 t.kind, .slice xa t.sub.length xc]] wr fun e w' => ∃ al cl af cf, e = .returned (.agg #[.bool y.no, .int .i64 y.v.k, .int .i64 y.v.n, .string y.v.s, .slice al y.l.length cl, .slice af y.f.length cf]) ∧ LiesD w' (fun b => wr.heap.size ≤ b) al y.l ∧ LiesD w' (fun b => wr.heap.size ≤ b) af y.f ∧ Rdd r s q1 w' ∧ RFr r wr w') := (by
        have h := HEi.out r s q xa xc wr HR.out hs (by rw [← HUi.out]; exact HWd.out) hqq (by rw [← HUi.out, ← HQn.out]; exact HNd.out) (HTab.out.on HD.out.fr) (HL.out.rf HD.out.fr)
        rw [← HUi.out, ← HQn.out] at h
        exact h)
      have HTI : Hid (∀ X, Rdd r s q1 X → Calls Tryz.prog (52) #[.pointer (some ⟨r, 0, none⟩), .int .u8 44] X fun e w' => e = .returned (.bool (decide (i + 1 < ds.length))) ∧ Rdd r s (p + 1 + lpos us ds.length (i + 1)) w' ∧ RFr r X w') := fun X hX => (takeIf_any r s q1 44 X hX hs (by omega) (fun _ => by omega)).mono fun e w' hh => (by
        obtain ⟨b, h1, h2, h3, h4⟩ := hh
        rw [HNx.out] at h2
        have hb : b = decide (i + 1 < ds.length) := by
          rw [Bool.eq_iff_iff, decide_eq_true_iff, h2]
          by_cases h0 : i + 1 < ds.length
          · rw [if_pos h0]
            exact ⟨fun _ => h0, fun _ => rfl⟩
          · rw [if_neg h0]
            exact ⟨fun h => absurd h (by decide), fun h => absurd h h0⟩
        refine ⟨by rw [h1, hb], ?_, h4⟩
        rw [HPn.out, ← Nat.add_assoc, HQ1.out]
        rw [hb] at h3
        by_cases h0 : i + 1 < ds.length
        · rw [if_pos h0]
          rw [decide_eq_true h0] at h3
          exact h3
        · rw [if_neg h0]
          rw [decide_eq_false h0] at h3
          exact h3)
      clear HWd HEi HUi HNd HNx HLs HQe HPn
      have q40 : ((i : Int) == 40) = false := by rw [beq_eq_false_iff_ne]; omega
      have qm : decide (i < ds.length) = true := decide_eq_true hlt
      rw [qm]
      obtain ⟨a0, c0, rfl⟩ := HD.out.shape
      obtain ⟨⟨p0, p1, p2, p3, p4⟩, _⟩ := row_five HXr.out
      have hwrr : r < wr.heap.size := lt_of_block HR.out
      go_wp2_with fail
      refine Calls.mono HC.out ?_
      rintro e w7 ⟨al, cl, af, cf, rfl, hl7, hf7, hr7, hff7⟩
      have HF7 : Hid (RFr r wr w7) := hff7
      have HL7 : Hid (LiesD w7 (fun b => wr.heap.size ≤ b) al y.l) := hl7
      have HL8 : Hid (LiesD w7 (fun b => wr.heap.size ≤ b) af y.f) := hf7
      have HR7 : Hid (Rdd r s q1 w7) := hr7
      have HRow : Hid (w7.ownsRow W.heap.size 29 6 (.slice a0 i c0) i ncs.flatten) := row_rf HD.out.row HF7.out HD.out.lt
      have hwsz : W.heap.size ≤ w7.heap.size := Nat.le_trans HD.out.fr.size HF7.out.size
      have HX7 : Hid _ := HF7.out.box HXr.out HBx.out
      clear hl7 hf7 hr7 hff7 p0 p1 p2 p3 p4 HC
      go_wp2_with (at_builtin; refine wpList_append_where _ rfl _ _ 27 rfl W.heap.size 29 iv (.agg #[.bool false, .int .i64 0, .int .i64 0, .string ⟨#[]⟩, .slice none 0 0, .slice none 0 0]) 6 88 Tryz.underlying27 hvi hv0 hv1 hv2 rfl (by decide) _ i ncs.flatten rfl (HRow.out.alloc _) ⟨_, 0, none⟩ 1 1 [.bool y.no, .int .i64 y.v.k, .int .i64 y.v.n, .string y.v.s, .slice al y.l.length cl, .slice af y.f.length cf] rfl rfl six_cells (by intro u hu; simp at hu; rcases hu with rfl | rfl | rfl | rfl | rfl | rfl <;> rfl) (by unfold maxLen; omega) (by omega) (by simp; omega) (by decide) ?_; intro l' w9 hown9 hgrow9 hwh; have HDn : Hid (DgI W r ds w9 (i + 1) l' (ncs ++ [[.bool ds[i].no, .int .i64 ds[i].v.k, .int .i64 ds[i].v.n, .string ds[i].v.s, .slice al ds[i].l.length cl, .slice af ds[i].f.length cf]])) := HD.out.push hlt HF7.out (by rw [HYn.out]; exact HL7.out) (by rw [HYn.out]; exact HL8.out) (by rw [HYn.out]; exact hown9) hgrow9 hwh; have HG9 : Hid (RFr r W w9 ∧ ∀ k, k < W.heap.size → w9.heap[k]? = w7.heap[k]?) := rfr_grow (HD.out.fr.trans HF7.out) hgrow9 (fun k hk => (HD.out.row.lt k hk).1); have HX9 : Hid (w9.heap[W.heap.size]? = some (.cells #[.int .i64 t.id, .string t.nm, .int .i64 t.rep, .int .i64 t.kind, .slice xa t.sub.length xc] 24 (0, 0))) := own_box (HRow.out.alloc _) (blk_alloc HX7.out) (by decide) hgrow9)
      have HR9 : Hid (Rdd r s q1 w9) := (HG9.out.2 r hrw).trans HR7.out
      have HSl : Hid (slLen l' = i + 1) := (by
        obtain ⟨g9, c9, rfl⟩ := own_shape hown9
        rfl)
      clear hown9 hgrow9 hwh
      refine Calls.mono (HTI.out _ HR9.out) ?_
      rintro e w10 ⟨rfl, hr10, hf10⟩
      have HR10 : Hid _ := hr10
      have HD10 : Hid _ := HDn.out.go hf10
      have HX10 : Hid _ := hf10.box HX9.out HBx.out
      clear hr10 hf10
      go_wp2
      go_roundw
      case rel => exact ⟨i + 1, _, hlt, rfl, HD10, HR10, HX10⟩
      case measure => rw [HSl.out]; simp only [slLen]; omega
    · obtain rfl : i = ds.length := by omega
      have HWe : Hid (Wo s (p + 1 + (lT us ds.length).length) [93]) := HW.out.right
      have HPe : Hid (lpos us ds.length ds.length = (lT us ds.length).length) := (by
        show _ = _
        unfold lpos
        rw [if_neg (by omega)]
        rfl)
      rw [HPe.out] at HR
      have HT : Hid (Calls Tryz.prog (32) #[.pointer (some ⟨r, 0, none⟩), .string ⟨#[93]⟩] wr fun e w' => e = .returned (.tuple #[]) ∧ Rdd r s (p + 1 + (lT us ds.length).length + 1) w' ∧ RFr r wr w') := dtake_any r s ⟨#[93]⟩ _ wr HR.out hs HWe.out (by omega)
      have HPs : Hid (p + 1 + (lT us ds.length).length + 1 = p + ((lT us ds.length).length + 2)) := (by show _ = _; omega)
      have qm : decide (ds.length < ds.length) = false := decide_eq_false (by omega)
      rw [qm]
      obtain ⟨a9, c9, rfl⟩ := HD.out.shape
      go_wp2_with fail
      refine Calls.mono HT.out ?_
      rintro e w3 ⟨rfl, hr3, hf3⟩
      have HR3 : Hid _ := hr3
      have HD3 : Hid _ := HD.out.go hf3
      clear hr3 hf3
      go_wp2
      go_ret
      exact ⟨a9, c9, rfl, HD3.out.lies, by rw [← HPs.out]; exact HR3.out, HD3.out.fr⟩
end Go.Proofs.YtmfijliladancaaGreatDoor
