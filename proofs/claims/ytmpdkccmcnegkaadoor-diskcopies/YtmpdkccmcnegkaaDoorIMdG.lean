/-
  The law's model of a disk: what an act makes of it: append.
-/
import Derived.Test.YtmpdkccmcnegkaaDoorIMdF
import Derived.Laws.Concat
namespace Go.Proofs.YtmpdkccmcnegkaaDoor
open Go.RowKit Go.Maps
/-- A text of a row is another one. -/
theorem own_set {w : World} {e n c g i : Nat} {xs : List Value} (h : w.ownsRow 0 e 1 (.slice (some ⟨g, 0, none⟩) n c) n xs) (_hi : i < n) (v : Value) : (w.setCell ⟨g, i, none⟩ v).ownsRow 0 e 1 (.slice (some ⟨g, 0, none⟩) n c) n (xs.set i v) := by
  refine ⟨by rw [List.length_set]; exact h.1, ?_⟩
  rcases h.2 with ⟨e1, _⟩ | ⟨g1, cap, cur, e1, hb, hg, h1, h2, h3, h4⟩
  · injection e1 with e1; cases e1
  · injection e1 with e1 e2 e3
    injection e1 with e1
    injection e1 with e1
    subst e1
    refine .inr ⟨g, cap, cur.setIfInBounds i v, by rw [e3], hb, setRow hg v, h1, h2, by simpa using h3, ?_⟩
    rw [Array.toList_setIfInBounds, ← h4]
    exact List.take_set ..
theorem bcat_app (a b : ByteArray) : a ++ b = bcat a b := by
  apply bl_inj
  simp [bl, bcat, ByteArray.data_append]
theorem MdAt.settx {w w' : World} {P : Nat → Prop} {b i gt tc nc : Nat} {na : Option Addr} {lm : Int} {s : DkSt} {x : ByteArray} (hP : P b) (hlt : ∀ k, P k → k < w.heap.size) (hb : w.heap[b]? = some (.cells (mdBox na s.fs.length nc (some ⟨gt, 0, none⟩) tc s.quota s.short lm s.done) 33 (0, 0)))
    (hL : (s.short = true → lm = s.left) ∧ (-(s.done : Int) ≤ lm ∧ lm ≤ 9223372036854775807)) (hr : MdR w P s.fs na nc (some ⟨gt, 0, none⟩) tc) (hs : Srt s.fs) (hi : i < s.fs.length) (hok : StOk { s with fs := fSet s.fs s.fs[i].1 x }) (hw : w' = w.setCell ⟨gt, i, none⟩ (.string x)) :
    MdAt w' P b { s with fs := fSet s.fs s.fs[i].1 x } ∧ Off P w w' := by
  subst hw
  have hne : gt ≠ b := model_ne hb hr.tr rfl
  have hgP : P gt := hr.to_ _ rfl
  refine ⟨⟨⟨na, nc, some ⟨gt, 0, none⟩, tc, lm, ?_, hL.1, hL.2, ?_⟩, hP, fun k hk => by simpa using hlt k hk, hok⟩, (Off.refl _ _).set (.inl hgP) _⟩
  · rw [Below.heap_setCell _ _ _ _ (fun e => hne e.symm), hb]
    show some (Obj.cells (mdBox na s.fs.length nc _ tc s.quota s.short lm s.done) _ _) = some (Obj.cells (mdBox na (fSet s.fs s.fs[i].1 x).length nc _ tc s.quota s.short lm s.done) _ _)
    rw [len_set]
  · refine ⟨?_, ?_, hr.no, hr.to_, hr.ne⟩
    · show World.ownsRow _ _ _ _ (.slice na (fSet s.fs s.fs[i].1 x).length nc) (fSet s.fs s.fs[i].1 x).length (strC ((fSet s.fs s.fs[i].1 x).map (·.1)))
      rw [len_set, names_set]
      refine own_stay hr.nr (fun g hg => Below.heap_setCell _ _ _ _ (fun e => ?_))
      cases na with
      | none => cases hg
      | some a => simp [Value.ownBlock] at hg; subst hg; exact hr.ne a ⟨gt, 0, none⟩ rfl rfl e
    · show World.ownsRow _ _ _ _ (.slice (some ⟨gt, 0, none⟩) (fSet s.fs s.fs[i].1 x).length tc) (fSet s.fs s.fs[i].1 x).length (strC ((fSet s.fs s.fs[i].1 x).map (·.2)))
      rw [len_set, ← texts_set hs hi x]
      have := own_set hr.tr hi (.string x)
      rw [show strC ((s.fs.map (·.2)).set i x) = (strC (s.fs.map (·.2))).set i (.string x) by simp [strC, List.map_set]]
      exact this
set_option maxRecDepth 100000 in
set_option maxHeartbeats 12800000 in
theorem do_app (b : Nat) (P : Nat → Prop) (s : DkSt) (a : Ac) (ha : a.In) (ht : a.tx.size ≤ 500) (hk : a.k = 0) (hd : s.done ≤ 1000000000) (W : World) (h : MdAt W P b s) :
    Calls Tryd.prog 8 #[.pointer (some ⟨b, 0, none⟩), acV a] W fun e w' => DoR W P b (s.stp a) e w' := by
  obtain ⟨k, nm, tx, n⟩ := a
  obtain rfl : k = 0 := hk
  obtain ⟨rr, HRr⟩ := hid_nm (s.stp ⟨0, nm, tx, n⟩)
  rw [HRr.out]
  have HApp : Hid (s.app nm tx = rr) := HRr.out
  obtain ⟨w0, HW0, HX0, HB0⟩ := actBox W ⟨0, nm, tx, n⟩
  have HD0 : Hid (MdAt w0 P b s) := h.below HB0.out
  have hact : W.heap.size ≠ b := fun e => by have := h.lt b h.bP; omega
  have HAc : Hid (∀ k, P k → k ≠ W.heap.size) := fun k hk e => by have := h.lt k hk; omega
  obtain ⟨x0, x1, x2, x3⟩ := row4A HX0.out
  have HO0 : Hid (Off P W w0) := Off.of_below HB0.out
  have HPl : Hid (∀ k, P k → k < W.heap.size) := h.lt
  have hnm : nm.size ≤ maxLen := ha.2.1
  replace ht : tx.size ≤ 500 := ht
  clear h ha
  go_enter Tryd.func8, Tryd.ntmps8
  go_upto_region 1 with fail
  rw [HW0.out]
  go_wp2_with fail
  refine Calls.mono (find_md b P s nm w0 HD0.out) ?_
  rintro e w1 ⟨⟨r, rfl, hF⟩, hw1⟩
  obtain rfl := hw1.symm
  clear hw1
  have HFx : Hid (FIx s.fs nm r) := hF
  clear hF
  obtain ⟨ok, HOk⟩ := hid_nm (fnOk nm)
  go_wp2_with fail
  refine Calls.mono (isFile_law nm hnm w0) ?_
  rintro e w1 ⟨rfl, hb1⟩
  rw [HOk.out]
  have HD1 : Hid (MdAt w1 P b s) := HD0.out.below hb1
  have HO1 : Hid (Off P W w1) := HO0.out.trans (Off.of_below (S := P) hb1) (fun _ _ h => h)
  have HX1 : Hid (w1.heap[W.heap.size]? = some (.cells #[.int .i64 0, .string nm, .string tx, .int .i64 n] 35 (0, 0))) := blk_keep hb1 HX0.out
  obtain ⟨y0, y1, y2, y3⟩ := row4A HX1.out
  clear hb1 x0 x1 x2 x3
  cases ok with
  | false =>
    obtain rfl : rr = (5, s) := HApp.out.symm.trans (by unfold DkSt.app; rw [if_pos HOk.out])
    go_wp2
    go_ret
    exact ⟨rfl, HD1.out.grow, HO1.out⟩
  | true =>
    have hok1 : ¬ fnOk nm = false := by rw [HOk.out]; simp
    have HOk1 : Hid (¬ fnOk nm = false) := hok1
    clear hok1
    by_cases ht0 : tx.size = 0
    · obtain rfl : rr = (0, s) := HApp.out.symm.trans (by unfold DkSt.app; rw [if_neg HOk1.out, if_pos ht0])
      obtain rfl : tx = ⟨#[]⟩ := by
        cases tx with | mk d => simp [ByteArray.size] at ht0; simp [ht0]
      clear ht0
      go_wp2
      go_ret
      exact ⟨rfl, HD1.out.grow, HO1.out⟩
    have HT0 : Hid (tx.size ≠ 0) := ht0
    have q0 : tx.toList.isEmpty = false := by
      rw [ByteArray.toList_eq, List.isEmpty_eq_false_iff]
      intro e
      exact ht0 (by have := congrArg List.length e; simpa using this)
    clear ht0
    obtain ⟨na, nc, ta, tc, lm, hb, hl, hlm, hr⟩ := HD1.out.box
    obtain ⟨⟨p0, p1, p2, p3, p4, p5⟩, _⟩ := row6 hb
    clear hb hl hlm hr
    go_upto_region 11 with fail
    clear q0
    obtain ⟨hs, HHs⟩ := hid_nm (fHas s.fs nm)
    have HR0 : Hid ((r < 0) ↔ hs = false) := (by
      show _ ↔ _
      rw [← HHs.out]
      rcases HFx.out with ⟨rfl, h2⟩ | ⟨i, hi, rfl, h2⟩
      · simp [h2]
      · have : fHas s.fs nm = true := fHas_iff.2 ⟨s.fs[i], List.getElem_mem hi, h2⟩
        rw [this]; simp)
    have hL40 := HD1.out.ok.len
    by_cases hfull : fHas s.fs nm = false ∧ 40 ≤ s.fs.length
    · obtain rfl : rr = (2, s) := HApp.out.symm.trans (by unfold DkSt.app; rw [if_neg HOk1.out, if_neg HT0.out, if_pos hfull])
      have hr0 : r < 0 := HR0.out.2 (HHs.out.symm.trans hfull.1)
      have h40 : s.fs.length = 40 := by have := hfull.2; omega
      rw [h40] at p0 p1
      clear hfull hL40 h40
      go_wp2
      go_ret
      exact ⟨rfl, HD1.out.grow, HO1.out⟩
    have HFu : Hid (¬ (fHas s.fs nm = false ∧ 40 ≤ s.fs.length)) := hfull
    have HR1 : Hid (r < 0 → s.fs.length ≠ 40) := fun h e => hfull ⟨HHs.out.trans (HR0.out.1 h), by omega⟩
    clear hfull
    go_cut [41] (fun x wx => x = .bool false ∧ wx = w1)
    case first =>
      by_cases hr0 : r < 0
      · have h40 := HR1.out hr0
        obtain ⟨L, hL⟩ : ∃ L, s.fs.length = L := ⟨_, rfl⟩
        rw [hL] at p0 p1 h40 hL40
        have h41 : (L : Int) ≠ 40 := by omega
        have q41 : ((L : Int) == 40) = false := beq_eq_false_iff_ne.2 h41
        go_wp2
        go_meet
        exact ⟨rfl, rfl⟩
      · go_wp2
        go_meet
        exact ⟨rfl, rfl⟩
    case rest =>
      obtain ⟨rfl, hwx⟩ := hcut
      obtain rfl := hwx.symm
      clear hwx
      obtain ⟨us, HUs⟩ := hid_nm (fUsed s.fs)
      have hus : us ≤ 500000 ∧ s.quota ≤ 500000 := ⟨by rw [← HUs.out]; exact Nat.le_trans HD1.out.ok.used HD1.out.ok.quo, HD1.out.ok.quo⟩
      have HU : Hid (∀ X, Below w1.heap.size w1 X → Calls Tryd.prog 19 #[.pointer (some ⟨b, 0, none⟩)] X fun e w' => e = .returned (.int .i64 us) ∧ w' = X) := fun X hX => by rw [← HUs.out]; exact used_md b P s X (HD1.out.below hX)
      go_upto_region 13 with fail
      go_cut [52] (fun x wx => x = .bool (decide (s.quota < us + tx.size)) ∧ Hid (Below w1.heap.size w1 wx))
      case first =>
        have hbb : Below w1.heap.size w1 w1.drew := (Below.refl _ _).drew
        have hq : decide ((s.quota : Int) < (us : Int) + (tx.size : Int)) = decide (s.quota < us + tx.size) := by rw [decide_eq_decide]; omega
        have hwr : IntKind.i64.wrap ((us : Int) + (tx.size : Int)) = (us : Int) + (tx.size : Int) := by rw [IntKind.wrap_i64]; omega
        have hsz : us + tx.size ≤ 1000000 := by omega
        go_region_law (go_simp; (with_reducible refine Calls.mono (HU.out _ hbb) ?_); rintro e w3 ⟨rfl, hw3⟩; obtain rfl := hw3.symm)
        all_goals
          have HH : Hid (Below w1.heap.size w1 _) := hbb
          clear hbb
          go_wp2
          go_meet
          exact ⟨rfl, HH⟩
      case rest =>
        obtain ⟨rfl, HBw⟩ := hcut
        rename World => w2
        have HD2 : Hid (MdAt w2 P b s) := HD1.out.below HBw.out
        have HO2 : Hid (Off P W w2) := HO1.out.trans (Off.of_below (S := P) HBw.out) (fun _ _ h => h)
        have HX2 : Hid (w2.heap[W.heap.size]? = some (.cells #[.int .i64 0, .string nm, .string tx, .int .i64 n] 35 (0, 0))) := blk_keep HBw.out HX1.out
        obtain ⟨z0, z1, z2, z3⟩ := row4A HX2.out
        clear y0 y1 y2 y3 p0 p1 p2 p3 p4 p5 HU
        by_cases hroom : s.quota < us + tx.size
        · obtain rfl : rr = (8, s) := HApp.out.symm.trans (by unfold DkSt.app; rw [if_neg HOk1.out, if_neg HT0.out, if_neg HFu.out, HUs.out, if_pos hroom])
          rw [decide_eq_true hroom]
          clear hroom
          go_wp2
          go_ret
          exact ⟨rfl, HD2.out.grow, HO2.out⟩
        have HRm : Hid (¬ s.quota < us + tx.size) := hroom
        rw [decide_eq_false hroom]
        clear hroom
        go_wp2_with fail
        refine Calls.mono (room_md b P s tx.size (by omega) hd w2 HD2.out) ?_
        rintro e w5 ⟨rfl, hd5, hg5, hs5⟩
        obtain ⟨k, HK⟩ := hid_nm (s.k tx.size)
        rw [HK.out]
        have hkl : k ≤ tx.size := by rw [← HK.out]; exact s.k_le _
        have HD5 : Hid (MdAt w5 P b (s.spend tx.size)) := hd5
        have HO5 : Hid (Off P W w5) := HO2.out.trans (off_of hg5 HD2.out.bP) (fun _ _ h => h)
        have HX5 : Hid (w5.heap[W.heap.size]? = some (.cells #[.int .i64 0, .string nm, .string tx, .int .i64 n] 35 (0, 0))) := (hg5.block W.heap.size (lt_of_block HX2.out) (fun e => hact (by injection e))).trans HX2.out
        obtain ⟨v0, v1, v2, v3⟩ := row4A HX5.out
        clear hd5 hg5 hs5 z0 z1 z2 z3
        by_cases hk0 : k = 0
        · obtain rfl : rr = (6, s.spend tx.size) := HApp.out.symm.trans (by
            unfold DkSt.app
            rw [if_neg HOk1.out, if_neg HT0.out, if_neg HFu.out, HUs.out, if_neg HRm.out, HK.out, hk0, if_pos (Nat.pos_of_ne_zero HT0.out), if_neg (Nat.lt_irrefl 0)])
          subst hk0
          have hpos : 0 < tx.size := Nat.pos_of_ne_zero HT0.out
          go_wp2
          go_ret
          exact ⟨rfl, HD5.out.into (fun _ h => .inl h) HPl.out HO5.out.size, HO5.out⟩
        have hkp : 0 < k := by omega
        obtain rfl : rr = (if k < tx.size then 6 else 0, { s.spend tx.size with fs := fApp s.fs nm (bcut tx k) }) := HApp.out.symm.trans (by
            unfold DkSt.app
            rw [if_neg HOk1.out, if_neg HT0.out, if_neg HFu.out, HUs.out, if_neg HRm.out, HK.out, if_pos hkp])
        clear hk0
        have HStOk : Hid (StOk { s.spend tx.size with fs := fApp s.fs nm (bcut tx k) }) := HD5.out.ok.app (fnOk_le HOk.out) (by rw [bcut_size tx k hkl]; omega) HFu.out (by
          rw [bcut_size tx k hkl]
          have h1 : ¬ s.quota < us + tx.size := HRm.out
          show fUsed s.fs + k ≤ s.quota
          rw [HUs.out]; omega)
        have HXC : Hid (tx.extract 0 k = bcut tx k) := (by
          apply bl_inj
          simp [bl, bcut, ByteArray.data_extract, Array.toList_extract, List.extract])
        cases hs with
        | false =>
          have hr0 : r < 0 := HR0.out.2 rfl
          have HNo : Hid (∀ p ∈ s.fs, p.1 ≠ nm) := fHas_no.1 HHs.out
          have HEq : Hid (fApp s.fs nm (bcut tx k) = fIns s.fs nm (bcut tx k)) := (by show _ = _; unfold fApp; rw [HHs.out, if_neg (by simp)])
          have HIok : Hid (StOk { ({ s.spend tx.size with fs := s.fs } : DkSt) with fs := fIns s.fs nm (bcut tx k) }) := (by have := HStOk.out; rw [HEq.out] at this; exact this)
          have HPut : Hid (∀ X, Below w5.heap.size w5 X → Calls Tryd.prog 21 #[.pointer (some ⟨b, 0, none⟩), .string nm, .string (tx.extract 0 k)] X fun e w' => e = .returned (.tuple #[]) ∧ MdAt w' (Gr P X w') b { s.spend tx.size with fs := fIns s.fs nm (bcut tx k) } ∧ Off P X w') := fun X hX => by
            rw [HXC.out]
            exact put_md b P { s.spend tx.size with fs := s.fs } nm (bcut tx k) HNo.out HIok.out X (HD5.out.below hX)
          go_upto_region 17 with fail
          go_cut [] (fun wx => Hid (MdAt wx (Gr P W wx) b { s.spend tx.size with fs := fApp s.fs nm (bcut tx k) }) ∧ Hid (Off P W wx) ∧ Hid (wx.heap[W.heap.size]? = some (.cells #[.int .i64 0, .string nm, .string tx, .int .i64 n] 35 (0, 0))))
          case first =>
            have hbb : Below w5.heap.size w5 w5.drew := (Below.refl _ _).drew
            go_region_law (go_simp; (with_reducible refine Calls.mono (HPut.out _ hbb) ?_); rintro e w6 ⟨rfl, hd6, ho6⟩)
            all_goals
              have HF1 : Hid (MdAt w6 (Gr P W w6) b { s.spend tx.size with fs := fApp s.fs nm (bcut tx k) }) := (by
                rw [HEq.out]
                exact hd6.into (Gr.sub (fun _ h => .inl h) HO5.out.size ho6.size) HPl.out (Nat.le_trans HO5.out.size ho6.size))
              have HF2 : Hid (Off P W w6) := (HO5.out.trans (Off.of_below (S := P) hbb) (fun _ _ h => h)).trans ho6 (fun _ _ h => h)
              have HF3 : Hid (w6.heap[W.heap.size]? = some (.cells #[.int .i64 0, .string nm, .string tx, .int .i64 n] 35 (0, 0))) := ho6.blk HX5.out (fun h => HAc.out _ h rfl)
              clear hd6 ho6
              go_wp2
              go_meet
              exact ⟨HF1, HF2, HF3⟩
          case rest =>
            obtain ⟨HF1, HF2, HF3⟩ := hcut
            rename World => w7
            obtain ⟨c0, c1, c2, c3⟩ := row4A HF3.out
            have HG1 : Hid _ := HF1.out
            have HG2 : Hid _ := HF2.out
            clear v0 v1 v2 v3
            by_cases hlt : k < tx.size
            · go_wp2
              go_ret
              exact ⟨rfl, HG1.out, HG2.out⟩
            · go_wp2
              go_ret
              exact ⟨rfl, HG1.out, HG2.out⟩
        | true =>
          have hr0 : ¬ r < 0 := fun h => by have := HR0.out.1 h; cases this
          rcases HFx.out with ⟨rfl, h2⟩ | ⟨i, hi, rfl, hnm2⟩
          · exact absurd (by omega) hr0
          have HNm : Hid (s.fs[i].1 = nm) := hnm2
          obtain ⟨na, nc, ta, tc, lm, hb, hl, hlm, hr⟩ := HD5.out.box
          obtain ⟨⟨p0, p1, p2, p3, p4, p5⟩, _⟩ := row6 hb
          obtain ⟨gt, hgt, hct⟩ := row_at hr.tr (j := i) (by rw [List.length_map]; exact hi)
          subst hgt
          rw [List.getElem_map] at hct
          obtain ⟨tv, HTv⟩ := hid_nm s.fs[i].2
          have hct' : w5.cell? ⟨gt, i, none⟩ = some (.string tv) := by rw [← HTv.out]; exact hct
          have hfz : w5.frozen? ⟨gt, i, none⟩ = false := by
            rcases hr.tr.2 with ⟨e1, _⟩ | ⟨g1, cap, cur, e1, _, hg, _⟩
            · injection e1 with e1; cases e1
            · injection e1 with e1 e2 e3
              injection e1 with e1
              injection e1 with e1
              subst e1
              simp [World.frozen?, hg]
          have htv : tv.size ≤ 500000 := by
            rw [← HTv.out]
            exact Nat.le_trans (used_mem (List.getElem_mem hi)) (Nat.le_trans HD5.out.ok.used HD5.out.ok.quo)
          have HEq : Hid (fApp s.fs nm (bcut tx k) = fSet s.fs nm (bcat tv (bcut tx k))) := (by
            show _ = _
            unfold fApp
            rw [HHs.out, if_pos rfl]
            have e := fGet_some HD0.out.ok.srt (List.getElem_mem hi)
            rw [HNm.out, HTv.out] at e
            rw [e]; rfl)
          have hxs : (tx.extract 0 k).size = k := by rw [ByteArray.size_extract]; omega
          have hadd : ∀ X : World, (Op.stringOp .add tv (tx.extract 0 k)).run Tryd.prog X = .ok (.string (bcat tv (bcut tx k))) X := fun X => by
            rw [← bcat_app, ← HXC.out]
            exact run_string_add_sum _ _ _ (by rw [hxs]; omega)
          have HB5 : Hid (w5.heap[b]? = some (.cells (mdBox na (s.spend tx.size).fs.length nc (some ⟨gt, 0, none⟩) tc (s.spend tx.size).quota (s.spend tx.size).short lm (s.spend tx.size).done) 33 (0, 0))) := hb
          have HL5 : Hid (((s.spend tx.size).short = true → lm = (s.spend tx.size).left) ∧ (-((s.spend tx.size).done : Int) ≤ lm ∧ lm ≤ 9223372036854775807)) := ⟨hl, hlm⟩
          have HR5 : Hid (MdR w5 P (s.spend tx.size).fs na nc (some ⟨gt, 0, none⟩) tc) := hr
          clear hb hl hlm hr hct hxs hnm2
          have HSet : Hid (∀ X : World, X.heap = w5.heap → MdAt (X.setCell ⟨gt, i, none⟩ (.string (bcat tv (bcut tx k)))) P b { s.spend tx.size with fs := fApp s.fs nm (bcut tx k) } ∧ Off P X (X.setCell ⟨gt, i, none⟩ (.string (bcat tv (bcut tx k))))) := fun X hX => by
            have hok : StOk { s.spend tx.size with fs := fSet s.fs (s.fs[i]'hi).1 (bcat tv (bcut tx k)) } := by have := HStOk.out; rw [HEq.out, ← HNm.out] at this; exact this
            have h := MdAt.settx (w := X) (s := s.spend tx.size) (i := i) (x := bcat tv (bcut tx k)) HD5.out.bP (fun k hk => by rw [hX]; exact HD5.out.lt k hk) (by rw [hX]; exact HB5.out) HL5.out (HR5.out.stay (fun k _ _ => by rw [hX]) (fun _ h => h)) HD5.out.ok.srt hi hok rfl
            refine ⟨?_, h.2⟩
            rw [HEq.out, ← HNm.out]
            exact h.1
          have hlenS : i < (s.spend tx.size).fs.length := hi
          have hgtw : gt ≠ W.heap.size := fun e => HAc.out gt (HR5.out.to_ _ rfl) e
          go_upto_region 19 with fail
          go_cut [] (fun wx => Hid (MdAt wx (Gr P W wx) b { s.spend tx.size with fs := fApp s.fs nm (bcut tx k) }) ∧ Hid (Off P W wx) ∧ Hid (wx.heap[W.heap.size]? = some (.cells #[.int .i64 0, .string nm, .string tx, .int .i64 n] 35 (0, 0))))
          case first =>
            go_region
            all_goals
              have hfin := HSet.out w5.drew rfl
              have HF1 : Hid (MdAt (w5.drew.setCell ⟨gt, i, none⟩ (.string (bcat tv (bcut tx k)))) (Gr P W (w5.drew.setCell ⟨gt, i, none⟩ (.string (bcat tv (bcut tx k))))) b { s.spend tx.size with fs := fApp s.fs nm (bcut tx k) }) := hfin.1.into (fun _ h => .inl h) HPl.out (Nat.le_trans HO5.out.size hfin.2.size)
              have HF2 : Hid (Off P W (w5.drew.setCell ⟨gt, i, none⟩ (.string (bcat tv (bcut tx k))))) := HO5.out.drew.trans hfin.2 (fun _ _ h => h)
              have HF3 : Hid ((w5.drew.setCell ⟨gt, i, none⟩ (.string (bcat tv (bcut tx k)))).heap[W.heap.size]? = some (.cells #[.int .i64 0, .string nm, .string tx, .int .i64 n] 35 (0, 0))) := (Below.heap_setCell _ _ _ _ (fun e => hgtw e.symm)).trans HX5.out
              clear hfin
              go_wp2
              go_meet
              exact ⟨HF1, HF2, HF3⟩
          case rest =>
            obtain ⟨HF1, HF2, HF3⟩ := hcut
            rename World => w7
            obtain ⟨c0, c1, c2, c3⟩ := row4A HF3.out
            have HG1 : Hid _ := HF1.out
            have HG2 : Hid _ := HF2.out
            clear v0 v1 v2 v3 p0 p1 p2 p3 p4 p5 hct' hfz
            by_cases hlt : k < tx.size
            · go_wp2
              go_ret
              exact ⟨rfl, HG1.out, HG2.out⟩
            · go_wp2
              go_ret
              exact ⟨rfl, HG1.out, HG2.out⟩
/-- What an act makes of the model. -/
theorem do_md (b : Nat) (P : Nat → Prop) (s : DkSt) (a : Ac) (ha : a.In) (ht : a.tx.size ≤ 500) (hd : s.done ≤ 1000000000) (W : World) (h : MdAt W P b s) :
    Calls Tryd.prog 8 #[.pointer (some ⟨b, 0, none⟩), acV a] W fun e w' => DoR W P b (s.stp a) e w' := by
  by_cases h0 : a.k = 0
  · exact do_app b P s a ha ht h0 hd W h
  by_cases h1 : a.k = 1
  · exact do_ren b P s a ha.2.2.1 h1 hd W h
  by_cases h2 : a.k = 2
  · exact do_rem b P s a h2 hd W h
  by_cases h3 : a.k = 3
  · exact do_cut b P s a ha h3 W h
  · exact do_mend b P s a ⟨h0, h1, h2, h3⟩ W h
end Go.Proofs.YtmpdkccmcnegkaaDoor
