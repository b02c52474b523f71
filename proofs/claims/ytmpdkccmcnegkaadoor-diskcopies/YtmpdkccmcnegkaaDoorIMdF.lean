/-
  The law's model of a disk: what an act makes of it: rename.
-/
import Derived.Test.YtmpdkccmcnegkaaDoorIMdE
namespace Go.Proofs.YtmpdkccmcnegkaaDoor
open Go.RowKit Go.Maps
theorem Gr.sub {P Q : Nat → Prop} {W w w' : World} (h : ∀ k, Q k → Gr P W w k) (hW : W.heap.size ≤ w.heap.size) (hw : w.heap.size ≤ w'.heap.size) : ∀ k, Gr Q w w' k → Gr P W w' k := fun k hk => by
  rcases hk with hk | ⟨h1, h2⟩
  · exact Gr.mono hw k (h k hk)
  · exact .inr ⟨Nat.le_trans hW h1, h2⟩
theorem Gr.old {P : Nat → Prop} {W w w' : World} (hW : W.heap.size ≤ w.heap.size) : ∀ k, k < W.heap.size → Gr P w w' k → P k := fun k hk h => by
  rcases h with h | ⟨h1, _⟩
  · exact h
  · omega
theorem MdAt.into {w : World} {P Q : Nat → Prop} {W : World} {b : Nat} {s : DkSt} (h : MdAt w Q b s) (hQ : ∀ k, Q k → Gr P W w k) (hl : ∀ k, P k → k < W.heap.size) (hW : W.heap.size ≤ w.heap.size) : MdAt w (Gr P W w) b s := h.gr hQ (fun k hk => by
  rcases hk with hk | ⟨_, hk⟩
  · exact Nat.lt_of_lt_of_le (hl k hk) hW
  · exact hk)
theorem ren_self {fs : List Fl} (hs : Srt fs) {q : Fl} (hq : q ∈ fs) : fRen fs q.1 q.1 q.2 = fs := by
  refine srt_ext (((hs.del q.1).del q.1).ins (fun p hp => (mem_del.1 hp).2)) hs (fun p => ?_)
  unfold fRen
  rw [mem_ins, mem_del, mem_del]
  constructor
  · rintro (rfl | ⟨⟨h, _⟩, _⟩)
    · exact hq
    · exact h
  · intro hp
    by_cases e : p.1 = q.1
    · exact .inl (hs.inj hp hq e)
    · exact .inr ⟨⟨hp, e⟩, e⟩
theorem StOk.spend_fs {s : DkSt} (h : StOk s) (n : Nat) : StOk (s.spend n) := h.spend n
set_option maxRecDepth 100000 in
set_option maxHeartbeats 6400000 in
theorem do_ren (b : Nat) (P : Nat → Prop) (s : DkSt) (a : Ac) (ha : a.tx.size ≤ maxLen) (hk : a.k = 1) (hd : s.done ≤ 1000000000) (W : World) (h : MdAt W P b s) :
    Calls Tryd.prog 8 #[.pointer (some ⟨b, 0, none⟩), acV a] W fun e w' => DoR W P b (s.stp a) e w' := by
  obtain ⟨k, nm, tx, n⟩ := a
  obtain rfl : k = 1 := hk
  obtain ⟨rr, HRr⟩ := hid_nm (s.stp ⟨1, nm, tx, n⟩)
  rw [HRr.out]
  have HRen : Hid (s.ren nm tx = rr) := HRr.out
  obtain ⟨w0, HW0, HX0, HB0⟩ := actBox W ⟨1, nm, tx, n⟩
  have HD0 : Hid (MdAt w0 P b s) := h.below HB0.out
  have hact : W.heap.size ≠ b := fun e => by have := h.lt b h.bP; omega
  have HAc : Hid (∀ k, P k → k ≠ W.heap.size) := fun k hk e => by have := h.lt k hk; omega
  obtain ⟨x0, x1, x2, x3⟩ := row4A HX0.out
  have HO0 : Hid (Off P W w0) := Off.of_below HB0.out
  have HPl : Hid (∀ k, P k → k < W.heap.size) := h.lt
  have HTx : Hid (tx.size ≤ maxLen) := ha
  clear h ha
  go_enter Tryd.func8, Tryd.ntmps8
  go_upto_region 1 with fail
  rw [HW0.out]
  go_wp2_with fail
  refine Calls.mono (find_md b P s nm w0 HD0.out) ?_
  rintro e w1 ⟨⟨r, rfl, hF⟩, hw1⟩
  obtain rfl := hw1.symm
  clear hw1
  obtain ⟨ok, HOk⟩ := hid_nm (fnOk tx)
  go_wp2_with fail
  refine Calls.mono (isFile_law tx HTx.out w0) ?_
  rintro e w1 ⟨rfl, hb1⟩
  rw [HOk.out]
  have HD1 : Hid (MdAt w1 P b s) := HD0.out.below hb1
  have HO1 : Hid (Off P W w1) := HO0.out.trans (Off.of_below (S := P) hb1) (fun _ _ h => h)
  have HX1 : Hid (w1.heap[W.heap.size]? = some (.cells #[.int .i64 1, .string nm, .string tx, .int .i64 n] 35 (0, 0))) := blk_keep hb1 HX0.out
  obtain ⟨y0, y1, y2, y3⟩ := row4A HX1.out
  clear hb1 x0 x1 x2 x3
  rcases hF with ⟨rfl, hno⟩ | ⟨i, hi, rfl, hnm⟩
  · obtain rfl : rr = (5, s) := HRen.out.symm.trans (by unfold DkSt.ren; rw [if_pos (by rw [hno]; simp)])
    clear hno
    go_wp2
    go_ret
    exact ⟨rfl, HD1.out.grow, HO1.out⟩
  have HHas : Hid (fHas s.fs nm = true) := fHas_iff.2 ⟨s.fs[i], List.getElem_mem hi, hnm⟩
  have HNm : Hid (s.fs[i].1 = nm) := hnm
  have HGet : Hid (fGet s.fs nm = some s.fs[i].2) := (by rw [← hnm]; exact fGet_some HD0.out.ok.srt (List.getElem_mem hi))
  clear hnm
  cases ok with
  | false =>
    obtain rfl : rr = (5, s) := HRen.out.symm.trans (by unfold DkSt.ren; rw [if_pos (by rw [HOk.out]; rfl)])
    go_wp2
    go_ret
    exact ⟨rfl, HD1.out.grow, HO1.out⟩
  | true =>
    by_cases hk : s.k 1 < 1
    · obtain rfl : rr = (6, s.spend 1) := HRen.out.symm.trans (by unfold DkSt.ren; rw [if_neg (by rw [HOk.out, HHas.out]; simp), if_pos hk])
      have HK : Hid (s.k 1 = 0) := (by show _ = _; omega)
      clear hk
      go_wp2_with fail
      refine Calls.mono (room_md b P s 1 (by omega) hd w1 HD1.out) ?_
      rintro e w2 ⟨rfl, hd2, hg2, hs2⟩
      rw [HK.out]
      go_wp2
      go_ret
      exact ⟨rfl, hd2.grow, HO1.out.trans (off_of hg2 HD1.out.bP) (fun _ _ h => h)⟩
    obtain rfl : rr = (0, { s.spend 1 with fs := fRen s.fs nm tx s.fs[i].2 }) := HRen.out.symm.trans (by unfold DkSt.ren; rw [if_neg (by rw [HOk.out, HHas.out]; simp), if_neg hk, HGet.out]; rfl)
    have HK : Hid (s.k 1 = 1) := (by show _ = _; have := s.k_le 1; omega)
    clear hk
    go_wp2_with fail
    refine Calls.mono (room_md b P s 1 (by omega) hd w1 HD1.out) ?_
    rintro e w2 ⟨rfl, hd2, hg2, hs2⟩
    rw [HK.out]
    have HD2 : Hid (MdAt w2 P b (s.spend 1)) := hd2
    have HO2 : Hid (Off P W w2) := HO1.out.trans (off_of hg2 HD1.out.bP) (fun _ _ h => h)
    have HX2 : Hid (w2.heap[W.heap.size]? = some (.cells #[.int .i64 1, .string nm, .string tx, .int .i64 n] 35 (0, 0))) := (hg2.block W.heap.size (lt_of_block HX1.out) (fun e => hact (by injection e))).trans HX1.out
    obtain ⟨z0, z1, z2, z3⟩ := row4A HX2.out
    clear hd2 hg2 hs2 y0 y1 y2 y3
    by_cases hsame : tx = nm
    · subst hsame
      go_wp2
      go_ret
      refine ⟨rfl, ?_, HO2.out⟩
      have e : fRen s.fs tx tx s.fs[i].2 = s.fs := by
        have := ren_self HD0.out.ok.srt (List.getElem_mem hi)
        rw [HNm.out] at this; exact this
      have hd : MdAt w2 P b { s.spend 1 with fs := fRen s.fs tx tx s.fs[i].2 } := by rw [e]; exact HD2.out
      exact hd.into (fun _ h => .inl h) HPl.out HO2.out.size
    have q1 : (tx.toList == nm.toList) = false := by
      rw [beq_eq_false_iff_ne]
      intro e
      rw [ByteArray.toList_eq, ByteArray.toList_eq] at e
      exact hsame (bl_inj e)
    have HSame : Hid (tx ≠ nm) := hsame
    clear hsame
    obtain ⟨na, nc, ta, tc, lm, hb, hl, hlm, hr⟩ := HD2.out.box
    obtain ⟨⟨p0, p1, p2, p3, p4, p5⟩, _⟩ := row6 hb
    obtain ⟨gt, hgt, hct⟩ := row_at hr.tr (j := i) (by rw [List.length_map]; exact hi)
    subst hgt
    rw [List.getElem_map] at hct
    obtain ⟨tv, HTv⟩ := hid_nm s.fs[i].2
    have hct' : w2.cell? ⟨gt, i, none⟩ = some (.string tv) := by rw [← HTv.out]; exact hct
    clear hb hl hlm hr hct
    have HRok : Hid (StOk { s.spend 1 with fs := fRen s.fs nm tx tv }) := (by
      have := HD2.out.ok.ren (q := s.fs[i]) (List.getElem_mem hi) (b := tx) (fnOk_le HOk.out)
      rw [HNm.out, HTv.out] at this; exact this)
    have hlen : (s.spend 1).fs.length = s.fs.length := rfl
    go_wp2_with fail
    refine Calls.mono (drop_md b P (s.spend 1) i hi w2 HD2.out) ?_
    rintro e w3 ⟨rfl, hd3, ho3⟩
    have HD3 : Hid (MdAt w3 (Gr P w2 w3) b { s.spend 1 with fs := fDel s.fs nm }) := (by rw [← HNm.out]; exact hd3)
    have HO3 : Hid (Off P W w3) := HO2.out.trans ho3 (fun _ _ h => h)
    have HX3 : Hid (w3.heap[W.heap.size]? = some (.cells #[.int .i64 1, .string nm, .string tx, .int .i64 n] 35 (0, 0))) := ho3.blk HX2.out (fun h => HAc.out _ h rfl)
    have HG3 : Hid (∀ k, Gr P w2 w3 k → Gr P W w3 k) := Gr.sub (fun _ h => .inl h) HO2.out.size ho3.size
    obtain ⟨v0, v1, v2, v3⟩ := row4A HX3.out
    clear hd3 ho3 z0 z1 z2 z3 p0 p1 p2 p3 p4 p5 hct' hlen q1
    go_wp2_with fail
    refine Calls.mono (find_md b (Gr P w2 w3) _ tx w3 HD3.out) ?_
    rintro e w4 ⟨⟨r, rfl, hF⟩, hw4⟩
    obtain rfl := hw4.symm
    clear hw4
    rcases hF with ⟨rfl, hno⟩ | ⟨i2, hi2, rfl, hnm2⟩
    · have hno' : ∀ p ∈ fDel s.fs nm, p.1 ≠ tx := fHas_no.1 hno
      have HE : Hid (fRen s.fs nm tx tv = fIns (fDel s.fs nm) tx tv) := (by show _ = _; unfold fRen; rw [del_none hno'])
      have HN : Hid (∀ p ∈ fDel s.fs nm, p.1 ≠ tx) := hno'
      have HK2 : Hid (StOk { ({ s.spend 1 with fs := fDel s.fs nm } : DkSt) with fs := fIns (fDel s.fs nm) tx tv }) := (by have := HRok.out; rw [HE.out] at this; exact this)
      clear hno hno'
      go_wp2_with fail
      refine Calls.mono (put_md b (Gr P w2 w3) { s.spend 1 with fs := fDel s.fs nm } tx tv HN.out HK2.out w3 HD3.out) ?_
      rintro e w5 ⟨rfl, hd5, ho5⟩
      go_wp2
      go_ret
      have ho := HO3.out.trans ho5 (fun k hk h => Gr.old HO2.out.size k hk h)
      refine ⟨rfl, ?_, ho⟩
      show MdAt w5 _ b { s.spend 1 with fs := fRen s.fs nm tx s.fs[i].2 }
      rw [HTv.out, HE.out]
      exact hd5.into (Gr.sub HG3.out HO3.out.size ho5.size) HPl.out ho.size
    · have HN2 : Hid ((fDel s.fs nm)[i2].1 = tx) := hnm2
      clear hnm2
      go_wp2_with fail
      refine Calls.mono (drop_md b (Gr P w2 w3) { s.spend 1 with fs := fDel s.fs nm } i2 hi2 w3 HD3.out) ?_
      rintro e w5 ⟨rfl, hd5, ho5⟩
      have HD5 : Hid (MdAt w5 (Gr (Gr P w2 w3) w3 w5) b { s.spend 1 with fs := fDel (fDel s.fs nm) tx }) := (by rw [← HN2.out]; exact hd5)
      have HO5 : Hid (Off P W w5) := HO3.out.trans ho5 (fun k hk h => Gr.old HO2.out.size k hk h)
      have HX5 : Hid (w5.heap[W.heap.size]? = some (.cells #[.int .i64 1, .string nm, .string tx, .int .i64 n] 35 (0, 0))) := ho5.blk HX3.out (fun h => by
        rcases h with h | ⟨h1, _⟩
        · exact HAc.out _ h rfl
        · have := lt_of_block HX2.out; omega)
      have HG5 : Hid (∀ k, Gr (Gr P w2 w3) w3 w5 k → Gr P W w5 k) := Gr.sub HG3.out HO3.out.size ho5.size
      obtain ⟨v0', v1', v2', v3'⟩ := row4A HX5.out
      clear hd5 ho5 v0 v1 v2 v3
      have HN : Hid (∀ p ∈ fDel (fDel s.fs nm) tx, p.1 ≠ tx) := fun p hp => (mem_del.1 hp).2
      have HK2 : Hid (StOk { ({ s.spend 1 with fs := fDel (fDel s.fs nm) tx } : DkSt) with fs := fIns (fDel (fDel s.fs nm) tx) tx tv }) := HRok.out
      go_wp2_with fail
      refine Calls.mono (put_md b (Gr (Gr P w2 w3) w3 w5) { s.spend 1 with fs := fDel (fDel s.fs nm) tx } tx tv HN.out HK2.out w5 HD5.out) ?_
      rintro e w6 ⟨rfl, hd6, ho6⟩
      go_wp2
      go_ret
      have ho := HO5.out.trans ho6 (fun k hk h => by
        rcases h with h | ⟨h1, _⟩
        · exact Gr.old HO2.out.size k hk h
        · have := HO3.out.size; omega)
      refine ⟨rfl, ?_, ho⟩
      show MdAt w6 _ b { s.spend 1 with fs := fRen s.fs nm tx s.fs[i].2 }
      rw [HTv.out]
      exact hd6.into (Gr.sub HG5.out HO5.out.size ho6.size) HPl.out ho.size
end Go.Proofs.YtmpdkccmcnegkaaDoor
