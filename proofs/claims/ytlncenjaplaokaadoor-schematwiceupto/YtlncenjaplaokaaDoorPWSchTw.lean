/-
  The walk of SchemaTwice.
-/
import Derived.Test.YtlncenjaplaokaaDoorPSLeaf
import Derived.Test.YtlncenjaplaokaaDoorPTameN
namespace Go.Proofs.YtlncenjaplaokaaDoor
open Go.RowKit
/-- The text of a right schema, and where it is read. -/
theorem right_text (t : Tr) (hs : t.Sm) (hv : vldN t = 0) : ∃ q, RdL ⟨(ntL [] t.sub).toArray⟩ 2 0 q t.sub ∧ WdAt ⟨(ntL [] t.sub).toArray⟩ q (⟨(ntL [] t.sub).toArray⟩ : ByteArray).size (⟨(ntL [] t.sub).toArray⟩ : ByteArray).size ∧ (⟨(ntL [] t.sub).toArray⟩ : ByteArray).size ≤ 4000 := by
  obtain ⟨h1, h2, h3, h4, h5⟩ := right_parts hv
  have hlen := tx_len t hs h1 h3 h4 h5
  have hsz : (⟨(ntL [] t.sub).toArray⟩ : ByteArray).size = (ntL [] t.sub).length := by simp [ByteArray.size]
  have hm : (⟨(ntL [] t.sub).toArray⟩ : ByteArray).size ≤ 100000 := by omega
  have hd : (⟨(ntL [] t.sub).toArray⟩ : ByteArray).data.toList = [] ++ ([] ++ (ntL [] t.sub ++ [])) := by simp
  obtain ⟨p, b, hb, h6, h7⟩ := rdL_of (s := ⟨(ntL [] t.sub).toArray⟩) (deep := 2) (bl := []) t.sub (fun x hx pre b0 rest hs' hb' => rdT_any hm _ x (Nat.lt_succ_self _) 2 (rt_subs t hs h1 h3 h4 h5 x hx) [] Bls.nil pre b0 rest hs' hb') [] [] [] hd Bls.nil
  have h8 : (⟨(ntL [] t.sub).toArray⟩ : ByteArray).data.toList = p ++ (b ++ ([] ++ [])) := by rw [h6]; simp
  have h9 := wd_tok h8 hm hb (.inl ⟨rfl, rfl⟩) (fun c t e => by cases e)
  have h10 := sz_mid h6
  simp only [List.length_nil, Nat.add_zero] at h9 h10
  rw [← h10] at h9
  exact ⟨p.length, h7, h9, by omega⟩
theorem root_eq {t : Tr} (h : isRootB t = true) : t = .node 0 ⟨#[114, 111, 111, 116]⟩ 1 0 t.sub := by
  rw [isRootB, decide_eq_true_iff, Lib.toList_data] at h
  cases t with
  | node id nm rep kind sub =>
    obtain ⟨h1, h2, h3, h4⟩ := h
    simp only [Tr.id, Tr.nm, Tr.rep, Tr.kind] at h1 h2 h3 h4
    subst h1 h3 h4
    have e : nm = ⟨#[114, 111, 111, 116]⟩ := by
      cases nm with
      | mk d =>
        congr 1
        apply Array.toList_inj.1
        exact h2
    rw [e]
    rfl
set_option maxRecDepth 100000 in
set_option maxHeartbeats 6400000 in
theorem schemaTwice_walk (t : Tr) (a : Option Addr) (c : Nat) (P : Nat → Prop) (n : Nat) (hd : t.Dp n) (hn : n ≤ 1100000) (hs : t.Sm) (W : World) (hl : LiesN W P a t.sub) (hcap : t.sub.length ≤ c) (eb es en : TypeId × Value) (he : Er3 W eb es en) (htab : Lib.TabIs Tryd.prog W "internal/strconv.uint64pow10" .u64 Lib.pow10Tab) :
    Calls Tryd.prog 3 #[nodeV t a c] W fun e w' => e = .returned (.bool true) ∧ Below W.heap.size W w' := by
  obtain ⟨w0, HW0, HX, HB⟩ := one_box W #[.int .i64 t.id, .string t.nm, .int .i64 t.rep, .int .i64 t.kind, .slice a t.sub.length c] 24
  have HL : Hid (LiesN W P a t.sub) := hl
  have HE : Hid (∀ w, Below W.heap.size W w → Er3 w eb es en) := fun w hb => ⟨(hb.cell (World.block_lt_of_cell? W _ he.b)).trans he.b, (hb.cell (World.block_lt_of_cell? W _ he.s)).trans he.s, (hb.cell (World.block_lt_of_cell? W _ he.n)).trans he.n⟩
  have HTb : Hid (∀ w, Below W.heap.size W w → Lib.TabIs Tryd.prog w "internal/strconv.uint64pow10" .u64 Lib.pow10Tab) := fun w hb => tab_keep htab hb
  have HSm : Hid t.Sm := hs
  have HD : Hid (t.Dp n) := hd
  have HLf : Hid _ := leaf_any w0 eb es en (HE.out w0 HB.out) (HTb.out w0 HB.out)
  clear hl he htab hs hd
  unfold nodeV
  go_enter Tryd.func3, Tryd.ntmps3
  go_wp2_with fail
  rw [HW0.out]
  refine Calls.mono HLf.out ?_
  rintro e w1 ⟨rfl, hb1⟩
  have HB1 : Hid (Below W.heap.size W w1) := HB.out.trans (hb1.mono HB.out.size)
  have HX1 : Hid (w1.heap[W.heap.size]? = some (.cells #[.int .i64 t.id, .string t.nm, .int .i64 t.rep, .int .i64 t.kind, .slice a t.sub.length c] 24 (0, 0))) := blk_keep hb1 HX.out
  clear hb1 HLf
  obtain ⟨⟨p0, p1, p2, p3, p4⟩, _⟩ := row_five HX1.out
  go_wp2_with fail
  refine Calls.mono (tame_any t HSm.out P a c w1 (HL.out.keep HB1.out)) ?_
  rintro e w2 ⟨rfl, hb2⟩
  have HB2 : Hid (Below W.heap.size W w2) := HB1.out.trans (hb2.mono HB1.out.size)
  have HX2 : Hid (w2.heap[W.heap.size]? = some (.cells #[.int .i64 t.id, .string t.nm, .int .i64 t.rep, .int .i64 t.kind, .slice a t.sub.length c] 24 (0, 0))) := blk_keep hb2 HX1.out
  clear hb2 p0 p1 p2 p3 p4
  obtain ⟨⟨p0, p1, p2, p3, p4⟩, _⟩ := row_five HX2.out
  obtain ⟨tm, HTm⟩ := hid_name (decide ((fl t).length ≤ 200 ∧ nmS (fl t) ≤ 4000))
  rw [HTm.out]
  cases tm with
  | false =>
    go_wp2
    go_ret
    exact ⟨rfl, HB2.out⟩
  | true =>
    go_wp2_with fail
    refine Calls.mono (ownNode_any _ t (Nat.lt_succ_self _) HSm.out P a c w2 (HL.out.keep HB2.out)) ?_
    rintro e w3 ⟨⟨a3, c3, rfl, hl3, hc3⟩, hb3⟩
    have HB3 : Hid (Below W.heap.size W w3) := HB2.out.trans (hb3.mono HB2.out.size)
    have HX3 : Hid (w3.heap[W.heap.size]? = some (.cells #[.int .i64 t.id, .string t.nm, .int .i64 t.rep, .int .i64 t.kind, .slice a t.sub.length c] 24 (0, 0))) := blk_keep hb3 HX2.out
    have HL3 : Hid (LiesN w3 (fun b => w2.heap.size ≤ b) a3 t.sub) := hl3
    clear hb3 hl3 p0 p1 p2 p3 p4
    by_cases hv : vldN t = 0
    · obtain ⟨q, hq1, hq2, hq3⟩ := right_text t HSm.out hv
      have HTx : Hid _ := text_right t n HD.out hn HSm.out a3 c3 _ w3 HL3.out hc3 eb es en (HE.out w3 HB3.out) (HTb.out w3 HB3.out) hv
      have HRt : Hid (t = .node 0 ⟨#[114, 111, 111, 116]⟩ 1 0 t.sub) := root_eq (right_parts hv).2.1
      have HRd : Hid (∀ w : World, Below W.heap.size W w → Calls Tryd.prog 8 #[.string ⟨(ntL [] t.sub).toArray⟩] w fun e w' => (∃ a' c', e = .returned (.tuple #[nodeV t a' c', .nilIface]) ∧ LiesN w' (fun b => w.heap.size ≤ b) a' t.sub ∧ t.sub.length ≤ c') ∧ Below w.heap.size w w') := fun w hb => (by
        have h := read_right ⟨(ntL [] t.sub).toArray⟩ (by omega) t.sub q hq1 hq2 ⟨#[114, 111, 111, 116]⟩ rfl n (HRt.out ▸ HD.out) hn (HRt.out ▸ HSm.out) w eb es en (HE.out w hb) (HRt.out ▸ hv)
        rw [← HRt.out] at h
        exact h)
      have HSn : Hid (∀ (w : World) (P' : Nat → Prop) (a' : Option Addr) (c' : Nat), Below W.heap.size W w → LiesN w P' a' t.sub → t.sub.length ≤ c' → Calls Tryd.prog 9 #[nodeV t a' c', nodeV t a c] w fun e w' => e = .returned (.bool true) ∧ Below w.heap.size w w') := fun w P' a' c' hb hl hc => sn_ok _ t (Nat.lt_succ_self _) HSm.out P' P a' c' a c w hl (HL.out.keep hb) hc hcap
      obtain ⟨x9, HX9⟩ := hid_name (⟨(ntL [] t.sub).toArray⟩ : ByteArray)
      rw [HX9.out] at HTx HRd hq3
      have q8 : decide ((8000 : Int) < (x9.size : Int)) = false := by simp; omega
      clear hq1 hq2 hv
      go_wp2_with fail
      refine Calls.mono HTx.out ?_
      rintro e w4 ⟨rfl, hb4⟩
      have HB4 : Hid (Below W.heap.size W w4) := HB3.out.trans (hb4.mono HB3.out.size)
      have HX4 : Hid (w4.heap[W.heap.size]? = some (.cells #[.int .i64 t.id, .string t.nm, .int .i64 t.rep, .int .i64 t.kind, .slice a t.sub.length c] 24 (0, 0))) := blk_keep hb4 HX3.out
      clear hb4 HTx
      go_wp2_with fail
      refine Calls.mono (HRd.out w4 HB4.out) ?_
      rintro e w5 ⟨⟨a5, c5, rfl, hl5, hc5⟩, hb5⟩
      obtain ⟨w6, HW6, HX6, HB6⟩ := one_box w5 #[.int .i64 t.id, .string t.nm, .int .i64 t.rep, .int .i64 t.kind, .slice a5 t.sub.length c5] 24
      have HB7 : Hid (Below W.heap.size W w6) := (HB4.out.trans (hb5.mono HB4.out.size)).trans (HB6.out.mono (HB4.out.trans (hb5.mono HB4.out.size)).size)
      have HX7 : Hid (w6.heap[W.heap.size]? = some (.cells #[.int .i64 t.id, .string t.nm, .int .i64 t.rep, .int .i64 t.kind, .slice a t.sub.length c] 24 (0, 0))) := blk_keep HB6.out (blk_keep hb5 HX4.out)
      have HL7 : Hid (LiesN w6 (fun b => w4.heap.size ≤ b) a5 t.sub) := hl5.keep HB6.out
      clear hb5 hl5 HRd
      obtain ⟨⟨p0, p1, p2, p3, p4⟩, _⟩ := row_five HX7.out
      obtain ⟨⟨r0, r1, r2, r3, r4⟩, _⟩ := row_five HX6.out
      go_upto_region 8 with fail
      rw [HW6.out]
      go_wp2_with fail
      refine Calls.mono (HSn.out w6 _ a5 c5 HB7.out HL7.out hc5) ?_
      rintro e w8 ⟨rfl, hb8⟩
      have HB8 : Hid (Below W.heap.size W w8) := HB7.out.trans (hb8.mono HB7.out.size)
      clear hb8
      go_wp2
      go_ret
      exact ⟨rfl, HB8.out⟩
    · have HTx : Hid _ := text_wrong t n HD.out hn HSm.out a3 c3 _ w3 HL3.out hc3 eb es en (HE.out w3 HB3.out) hv
      clear hv
      go_wp2_with fail
      refine Calls.mono HTx.out ?_
      rintro e w4 ⟨⟨ty, v, rfl⟩, hb4⟩
      have HB4 : Hid (Below W.heap.size W w4) := HB3.out.trans (hb4.mono HB3.out.size)
      clear hb4 HTx
      go_wp2
      go_ret
      exact ⟨rfl, HB4.out⟩
end Go.Proofs.YtlncenjaplaokaaDoor
