/-
  The reference's LeavesOf of a right schema.
-/
import Derived.Test.YtdpedailookcjaaDoorSLvM
import Derived.Test.YtdpedailookcjaaDoorSLvX
import Derived.Test.YtdpedailookcjaaDoorSBIds
import Derived.Deep.DeepCutAuto
import Derived.Deep.RegionHeld3
import Derived.Deep.RegionLaw
import Derived.Test.YtdpedailookcjaaDoorSSFlI
namespace Go.Proofs.YtdpedailookcjaaDoor
open Go.RowKit
theorem Tryd.infoLR : (Tryd.prog.info? 47).map (fun i => (i.zero, i.size, i.bytes)) = some (some (.agg #[.int .i64 0, .int .i64 0, .int .i64 0, .int .i64 0, .slice none 0 0]), 5, 56) := by kernel_rfl
theorem lvR_cons (x : Tr) (s : List Tr) : lvR (x :: s) = lvR s + (if x.rep = 3 then 1 else 0) := by
  unfold lvR
  by_cases h : x.rep = 3 <;> simp [h]
theorem lvD_cons (x : Tr) (s : List Tr) : lvD (x :: s) = lvD s + (if x.rep = 1 then 0 else 1) := by
  unfold lvD
  by_cases h : x.rep = 1 <;> simp [h]
theorem lvR_len (s : List Tr) : lvR s ≤ s.length := by unfold lvR; exact List.length_filter_le _ _
theorem lvD_len (s : List Tr) : lvD s ≤ s.length := by unfold lvD; exact List.length_filter_le _ _
theorem own_down {W : World} {N N' e sz n : Nat} {v : Value} {xs : List Value} (h : W.ownsRow N e sz v n xs) (hN : N' ≤ N) : W.ownsRow N' e sz v n xs := ⟨h.1, h.2.imp id (fun ⟨g, cap, cur, e1, e2, e3⟩ => ⟨g, cap, cur, e1, by omega, e3⟩)⟩
/-- A leaf that is put together: its box, its path. -/
structure LI (wf : World) (fb : Nat) (id kind : Int) (s : List Tr) (wx : World) (pv : Value) : Prop where
  box : wx.heap[fb]? = some (.cells #[.int .i64 id, .int .i64 kind, .int .i64 (lvR s : Nat), .int .i64 (lvD s : Nat), pv] 47 (0, 0))
  row : wx.ownsRow wf.heap.size 3 1 pv s.length (i64s (s.map Tr.id))
  fr : RFr fb wf wx
  lt : fb < wf.heap.size
/-- .. behind the counts of one node more. -/
structure LI2 (wf : World) (fb : Nat) (id kind : Int) (x : Tr) (s : List Tr) (wx : World) (pv : Value) : Prop where
  box : wx.heap[fb]? = some (.cells #[.int .i64 id, .int .i64 kind, .int .i64 (lvR (x :: s) : Nat), .int .i64 (lvD (x :: s) : Nat), pv] 47 (0, 0))
  row : wx.ownsRow wf.heap.size 3 1 pv s.length (i64s (s.map Tr.id))
  fr : RFr fb wf wx
  lt : fb < wf.heap.size
theorem own_setFar {W : World} {N e sz n g j : Nat} {v x : Value} {xs : List Value} (h : W.ownsRow N e sz v n xs) (hg : g < N) : (W.setCell ⟨g, j, none⟩ x).ownsRow N e sz v n xs := by
  refine ⟨h.1, ?_⟩
  rcases h.2 with hn | ⟨k, cap, cur, rfl, hbg, hgg, rest⟩
  · exact .inl hn
  · exact .inr ⟨k, cap, cur, rfl, hbg, (Below.heap_setCell _ _ _ _ (by show k ≠ g; omega)).trans hgg, rest⟩
/-- A path grows by one node, at its beginning. -/
theorem LI2.push {wf : World} {fb : Nat} {id kind : Int} {x : Tr} {s : List Tr} {wy w4 : World} {pv v' : Value} {nb : Nat} {ob : Obj} (h : LI2 wf fb id kind x s wy pv) (hnb : nb = wy.heap.size)
    (hown : w4.ownsRow wf.heap.size 3 1 v' (1 + s.length) ([.int .i64 x.id] ++ i64s (s.map Tr.id))) (hg : (wy.alloc ob).grownBy w4 (some nb)) : LI wf fb id kind (x :: s) (w4.setCell ⟨fb, 4, none⟩ v') v' := by
  have hfy : fb < wy.heap.size := lt_of_block h.box
  have hs := hg.size
  simp only [World.size_alloc] at hs
  have hblk : ∀ k, k < wy.heap.size → w4.heap[k]? = wy.heap[k]? := fun k hk => by rw [hg.block k (by simp; omega) (by simp; omega), heap_alloc_old wy ob hk]
  refine ⟨?_, ?_, ⟨hg.os.trans h.fr.os, hg.tape.trans h.fr.tape, hg.output.trans h.fr.output, by have := h.fr.size; simp; omega, fun k hk hne => ?_⟩, h.lt⟩
  · rw [row_setC ((hblk fb hfy).trans h.box)]
    rfl
  · have e : i64s ((x :: s).map Tr.id) = [.int .i64 x.id] ++ i64s (s.map Tr.id) := by simp [i64s]
    rw [e, List.length_cons, Nat.add_comm]
    exact own_setFar hown h.lt
  · have := h.fr.size
    rw [Below.heap_setCell _ _ _ _ (by show k ≠ fb; exact hne), hblk k (by omega), h.fr.keep k hk hne]
set_option maxRecDepth 100000 in
set_option maxHeartbeats 12800000 in
theorem leavesOf_any (t : Tr) (hsm : t.Sm) (hB : inB t = true) (P : Nat → Prop) (a : Option Addr) (c : Nat) (W : World) (hl : LiesN W P a t.sub) :
    Calls Tryd.prog 10 #[nodeV t a c] W fun e w' => (∃ lv, e = .returned lv ∧ LvX 47 w' W.heap.size lv (lvL [] t.sub)) ∧ Below W.heap.size W w' := by
  obtain ⟨il, hil, hl0, hl1, hl2⟩ := info_parts Tryd.infoLR
  obtain ⟨iv, hvi, hv0, hv1, hv2⟩ := info_parts Tryd.infoI
  obtain ⟨w0, HW0, HX, HB0⟩ := one_box W #[.int .i64 t.id, .string t.nm, .int .i64 t.rep, .int .i64 t.kind, .slice a t.sub.length c] 24
  have HFl : Hid _ := flatF_any t hsm P a c w0 (hl.keep HB0.out)
  have HL40 : Hid ((fl t).length ≤ 40) := ((inB_fl t).1 hB).1
  have HIB : Hid (inB t = true) := hB
  obtain ⟨⟨p0, p1, p2, p3, p4⟩, _⟩ := row_five HX.out
  clear hl hsm hB
  unfold nodeV
  go_enter Tryd.func10, Tryd.ntmps10
  go_wp2_with fail
  rw [HW0.out]
  refine Calls.mono HFl.out ?_
  rintro e w1 ⟨⟨ps, la, lc, rfl, hco, hrow⟩, hb1⟩
  have HB1 : Hid (Below W.heap.size W w1) := HB0.out.trans (hb1.mono HB0.out.size)
  have hlen : ps.length = (fl t).length := by rw [← hco, List.length_map]
  have hpl : ps.length ≤ 40 := by rw [hlen]; exact HL40.out
  have hp0 : 0 < ps.length := by rw [hlen]; exact fl_pos t
  obtain ⟨g, rfl, _⟩ := pn_cell hrow 0 hp0
  have HF : Hid (FlI t ps g w1) := ⟨hco, fun X hX i hi k u hk hu => (by
    obtain ⟨g', hg', hc⟩ := pn_cell hrow i hi
    obtain rfl : g = g' := by injection hg' with h; injection h
    have h1 := hc k u hk hu
    exact (hX.cell (World.block_lt_of_cell? w1 _ h1)).trans h1)⟩
  clear hco hrow hb1 HFl p0 p1 p2 p3 p4 hlen
  go_wp2_with fail
  go_loopw [4, 5] (fun y x wr => ∃ (i : Nat) (ls : List Lf), 1 ≤ i ∧ i ≤ ps.length ∧ x = .int .i64 i ∧ Hid (ls = (((ndL t.sub).zip (ppL [] t.sub)).take (i - 1)).flatMap lfG) ∧ ls.length ≤ i ∧ Hid (LvX 47 wr w1.heap.size y ls) ∧ Hid (Below w1.heap.size w1 wr)) (fun _ x _ => ps.length - (intOf x).toNat)
  case atStart => exact ⟨1, [], Nat.le_refl _, hp0, rfl, rfl, Nat.zero_le _, LvX.nil _ _ _, Below.refl _ _⟩
  case round =>
    rename World => wo
    obtain ⟨i, ls, h1i, hik, rfl, HLs, hll, HLv, HBr⟩ := hrel
    by_cases hlt : i < ps.length
    · have hfi : i < (fl t).length := by rw [← HF.out.len]; exact hlt
      obtain ⟨hq2, hq3, hup, hnd⟩ := up_fl t HIB.out i h1i hfi
      have hpt : (fl t)[i].t = ps[i].t := by rw [HF.out.at_ i hlt]; rfl
      have HUp : Hid (Up (fl t) i ((ppL [] t.sub)[i - 1] ++ [ps[i].t])) := (by rw [hnd, hpt] at hup; exact hup)
      have HTk : Hid ((((ndL t.sub).zip (ppL [] t.sub)).take (i + 1 - 1)).flatMap lfG = ls ++ lfG (ps[i].t, (ppL [] t.sub)[i - 1])) := (by
        show _ = _
        have hz : i - 1 < ((ndL t.sub).zip (ppL [] t.sub)).length := by rw [List.length_zip]; omega
        rw [show i + 1 - 1 = i - 1 + 1 by omega, List.take_succ_eq_append_getElem hz, List.flatMap_append, ← HLs.out, List.getElem_zip, hnd, hpt]
        simp)
      have c0 := HF.out.cell wo HBr.out i hlt 0 _ (by omega) rfl
      have c3 := HF.out.cell wo HBr.out i hlt 3 _ (by omega) rfl
      rw [Nat.add_zero] at c0
      clear hup hnd hpt hq3 HLs
      obtain ⟨PP, HPP⟩ := hid_name (ppL [] t.sub)[i - 1]
      rw [HPP.out] at HUp HTk
      obtain ⟨xt, HXt⟩ := hid_name ps[i].t
      rw [HXt.out] at HUp HTk c0 c3
      obtain ⟨xi, HXi⟩ := hid_name xt.id
      obtain ⟨xk, HXk⟩ := hid_name xt.kind
      rw [HXi.out] at c0
      rw [HXk.out] at c3
      by_cases hk0 : xk = 0
      · have q0 : (xk == 0) = true := by simp [hk0]
        have HN : Hid (ls = (((ndL t.sub).zip (ppL [] t.sub)).take (i + 1 - 1)).flatMap lfG) := (by
          show _ = _
          rw [HTk.out, lfG, if_pos (by show xt.kind = 0; rw [HXk.out, hk0]), List.append_nil])
        clear hk0 HTk HUp
        obtain ⟨lva, lvc, rfl⟩ : ∃ lva lvc, u4 = .slice lva ls.length lvc := (by
          obtain ⟨pvs, _, h2, _⟩ := HLv.out
          exact own_slC h2)
        go_wp2
        go_roundw
        case rel => exact ⟨i + 1, ls, by omega, by omega, by go_num, HN, by omega, HLv, HBr⟩
        case measure => simp [intOf]; omega
      · have q0 : (xk == 0) = false := by simp [hk0]
        have HN : Hid (ls ++ [lfO xt PP] = (((ndL t.sub).zip (ppL [] t.sub)).take (i + 1 - 1)).flatMap lfG) := (by
          show _ = _
          rw [HTk.out, lfG, if_neg (by show ¬ xt.kind = 0; rw [HXk.out]; exact hk0)])
        clear hk0 HTk
        obtain ⟨wf, HWf, HXf, HBf⟩ := one_box wo.drew #[.int .i64 xi, .int .i64 xk, .int .i64 0, .int .i64 0, .slice none 0 0] 47
        have hfs : wo.heap.size < wf.heap.size := lt_of_block HXf.out
        have HBwf : Hid (Below wo.heap.size wo wf) := (Below.refl _ _).drew.trans HBf.out
        have HI0 : Hid (LI wf wo.heap.size xi xk [] wf (.slice none 0 0)) := ⟨HXf.out, World.ownsRow_nil _ _ _ _, .refl _ _, hfs⟩
        have c0a : ∀ ob : Obj, (wo.alloc ob).cell? ⟨g, i * 7, none⟩ = some (.int .i64 xi) := fun ob => (((Below.refl wo.heap.size wo).alloc (Nat.le_refl _) ob).cell (World.block_lt_of_cell? wo _ c0)).trans c0
        have c3a : ∀ ob : Obj, (wo.alloc ob).cell? ⟨g, i * 7 + 3, none⟩ = some (.int .i64 xk) := fun ob => (((Below.refl wo.heap.size wo).alloc (Nat.le_refl _) ob).cell (World.block_lt_of_cell? wo _ c3)).trans c3
        go_upto_region 7 with fail
        go_cut [6] (fun x wx => x = .pointer (some ⟨wo.heap.size, 0, none⟩) ∧ wf = wx)
        case first =>
          go_region
          all_goals go_wp2
          all_goals go_meet
          all_goals exact ⟨rfl, HWf.out.symm⟩
        rename_i hcut
        obtain ⟨rfl, rfl⟩ := hcut
        clear HWf HXf HBf c0 c3 c0a c3a
        go_wp2_with fail
        go_loopw [7] (fun x wx => ∃ (k : Nat) (p s : List Tr) (pv : Value), k ≤ i ∧ x = .int .i64 k ∧ Hid (Up (fl t) k p) ∧ Hid (p ++ s = PP ++ [xt]) ∧ Hid (LI wf wo.heap.size xi xk s wx pv)) (fun x _ => (intOf x).toNat)
        case atStart => exact ⟨i, _, [], _, Nat.le_refl _, rfl, HUp, (by show _ = _; rw [List.append_nil]), HI0⟩
        case round =>
          rename World => wx
          obtain ⟨k, p, s, pv, hki, rfl, HU, HPs, HI1⟩ := hrel
          obtain ⟨pa, pc, rfl⟩ := own_slC HI1.out.row
          have hsl : s.length ≤ 40 := by
            have h1 := congrArg List.length HPs.out
            have h2 := HUp.out.len
            rw [List.length_append] at h1
            omega
          have HFr : Hid (∀ X, RFr wo.heap.size wf X → Below w1.heap.size w1 X) := fun X hX => HBr.out.trans (HBwf.out.mono HBr.out.size |>.trans (hX.below (by have := HBr.out.size; omega) HBr.out.size))
          obtain ⟨⟨b0, b1, b2, b3, b4⟩, f0, f1, f2, f3, f4⟩ := row_five HI1.out.box
          by_cases hk : 0 < k
          · have hkp : k < ps.length := by omega
            obtain ⟨q, e, p', he, ha, hqk, huq, rfl⟩ := HU.out.pos hk
            have hek : e = ps[k].core := by
              rw [List.getElem?_eq_getElem (by rw [← HF.out.len]; exact hkp), HF.out.at_ k hkp] at he
              exact (Option.some.inj he).symm
            subst hek
            have HQ : Hid (ps[k].around = (q : Int)) := ha
            have HUq : Hid (Up (fl t) q p') := huq
            have HPn : Hid (p' ++ (ps[k].t :: s) = PP ++ [xt]) := (by
              have h := HPs.out
              rw [List.append_assoc] at h
              exact h)
            obtain ⟨ei, HEi⟩ := hid_name ps[k].t.id
            obtain ⟨er, HEr⟩ := hid_name ps[k].t.rep
            have c2 := HF.out.cell wx (HFr.out wx HI1.out.fr) k hkp 2 _ (by omega) rfl
            rw [HEr.out] at c2
            have hr1 := lvR_len s
            have hr2 := lvD_len s
            have HBlk : Hid (∀ (ob : Obj) (w4 wy : World), LI2 wf wo.heap.size xi xk ps[k].t s wy (.slice pa s.length pc) → (wy.alloc ob).grownBy w4 (some wy.heap.size) → w4.heap[wo.heap.size]? = some (.cells #[.int .i64 xi, .int .i64 xk, .int .i64 (lvR (ps[k].t :: s) : Nat), .int .i64 (lvD (ps[k].t :: s) : Nat), .slice pa s.length pc] 47 (0, 0))) := fun ob w4 wy h hg => (by
              have hfy := lt_of_block h.box
              rw [hg.block _ (by simp; omega) (by simp; omega), heap_alloc_old wy ob hfy]
              exact h.box)
            clear he ha huq HU HPs
            have qk : decide ((0 : Int) < (k : Int)) = true := by simp; omega
            have qk2 : decide (0 < k) = true := by simp; omega
            obtain ⟨rc, HRc⟩ := hid_name (lvR s)
            obtain ⟨dc, HDc⟩ := hid_name (lvD s)
            rw [HRc.out] at b2 hr1
            rw [HDc.out] at b3 hr2
            by_cases h3 : er = 3
            · have r1 : (er == 3) = true := by simp [h3]
              have r2 : (er != 1) = true := by simp [h3]
              obtain ⟨wy, HWy⟩ := hid_name ((wx.setCell ⟨wo.heap.size, 2, none⟩ (.int .i64 ((rc : Int) + 1))).setCell ⟨wo.heap.size, 3, none⟩ (.int .i64 ((dc : Int) + 1)))
              have HI2 : Hid (LI2 wf wo.heap.size xi xk ps[k].t s wy (.slice pa s.length pc)) := (by
                have e1 : lvR (ps[k].t :: s) = rc + 1 := by rw [lvR_cons, HEr.out, HRc.out, if_pos h3]
                have e2 : lvD (ps[k].t :: s) = dc + 1 := by rw [lvD_cons, HEr.out, HDc.out, if_neg (by omega)]
                rw [← HWy.out]
                refine ⟨?_, own_setFar (own_setFar HI1.out.row HI1.out.lt) HI1.out.lt, HI1.out.fr.set.set, HI1.out.lt⟩
                rw [e1, e2, row_setC (row_setC HI1.out.box)]
                simp)
              go_upto_region 15 with fail
              rw [HWy.out]
              clear HI1 HWy b0 b1 b2 b3 b4 f0 f1 f2 f3 f4
              obtain ⟨⟨b0, b1, b2, b3, b4⟩, f0, f1, f2, f3, f4⟩ := row_five HI2.out.box
              have d0 := HF.out.cell wy (HFr.out wy HI2.out.fr) k hkp 0 _ (by omega) rfl
              rw [Nat.add_zero, HEi.out] at d0
              have HRow : Hid ((wy.alloc (.cells #[.int .i64 ei] 3)).ownsRow wf.heap.size 3 1 (.slice (some ⟨wy.heap.size, 0, none⟩) 1 1) 1 [.int .i64 ei]) := (by
                refine ⟨rfl, .inr ⟨wy.heap.size, 1, #[.int .i64 ei], rfl, HI2.out.fr.size, heap_alloc_new wy _, by omega, by unfold maxLen; omega, rfl, rfl⟩⟩)
              have HNw : Hid (Lies (wy.alloc (.cells #[.int .i64 ei] 3)) pa (i64s (s.map Tr.id))) := (own_liesX HI2.out.row).keep ((Below.refl _ _).alloc (Nat.le_refl _) _)
              have hslen : (s.map Tr.id).length = s.length := List.length_map ..
              have b4a : ∀ ob : Obj, (wy.alloc ob).cell? ⟨wo.heap.size, 4, none⟩ = some (.slice pa s.length pc) := fun ob => (((Below.refl wy.heap.size wy).alloc (Nat.le_refl _) ob).cell (World.block_lt_of_cell? wy _ b4)).trans b4
              go_wp2_with (at_builtin; refine wpList_append_any _ rfl _ _ 38 rfl wf.heap.size 3 iv (.int .i64 0) 1 8 Tryd.underlying38 hvi hv0 hv1 hv2 rfl (by decide) (.slice (some ⟨wy.heap.size, 0, none⟩) 1 1) 1 [.int .i64 ei] rfl HRow.out pa s.length pc (i64s (s.map Tr.id)) rfl (by rw [i64s_len, hslen]; omega) (news_i HNw.out) (one_i _) (by unfold maxLen; omega) (by omega) (by have := HI2.out.fr.size; simp; omega) ?_; intro v4 w4 hown4 hgr4 _; obtain ⟨a4, c4, rfl⟩ := own_slC hown4; have HI3 : Hid _ := HI2.out.push (nb := wy.heap.size) rfl (by rw [HEi.out]; exact hown4) hgr4; obtain ⟨⟨_, _, _, _, y4⟩, _, _, _, _, z4⟩ := row_five (HBlk.out _ w4 wy HI2.out hgr4); have d6 := HF.out.cell _ (HFr.out _ HI3.out.fr) k hkp 6 _ (by omega) rfl; rw [HQ.out] at d6)
              go_roundw
              case rel => exact ⟨q, p', ps[k].t :: s, _, by omega, rfl, HUq, HPn, HI3⟩
              case measure => simp [intOf]; omega
            · have r1 : (er == 3) = false := by simp [h3]
              by_cases h1 : er = 1
              · have r2 : (er != 1) = false := by simp [h1]
                obtain ⟨wy, HWy⟩ := hid_name (wx)
                have HI2 : Hid (LI2 wf wo.heap.size xi xk ps[k].t s wy (.slice pa s.length pc)) := (by
                  have e1 : lvR (ps[k].t :: s) = lvR s := by rw [lvR_cons, HEr.out, if_neg h3]; rfl
                  have e2 : lvD (ps[k].t :: s) = lvD s := by rw [lvD_cons, HEr.out, if_pos h1]; rfl
                  rw [← HWy.out]
                  refine ⟨?_, HI1.out.row, HI1.out.fr, HI1.out.lt⟩
                  rw [e1, e2]
                  exact HI1.out.box)
                go_upto_region 15 with fail
                rw [HWy.out]
                clear HI1 HWy b0 b1 b2 b3 b4 f0 f1 f2 f3 f4
                obtain ⟨⟨b0, b1, b2, b3, b4⟩, f0, f1, f2, f3, f4⟩ := row_five HI2.out.box
                have d0 := HF.out.cell wy (HFr.out wy HI2.out.fr) k hkp 0 _ (by omega) rfl
                rw [Nat.add_zero, HEi.out] at d0
                have HRow : Hid ((wy.alloc (.cells #[.int .i64 ei] 3)).ownsRow wf.heap.size 3 1 (.slice (some ⟨wy.heap.size, 0, none⟩) 1 1) 1 [.int .i64 ei]) := (by
                  refine ⟨rfl, .inr ⟨wy.heap.size, 1, #[.int .i64 ei], rfl, HI2.out.fr.size, heap_alloc_new wy _, by omega, by unfold maxLen; omega, rfl, rfl⟩⟩)
                have HNw : Hid (Lies (wy.alloc (.cells #[.int .i64 ei] 3)) pa (i64s (s.map Tr.id))) := (own_liesX HI2.out.row).keep ((Below.refl _ _).alloc (Nat.le_refl _) _)
                have hslen : (s.map Tr.id).length = s.length := List.length_map ..
                have b4a : ∀ ob : Obj, (wy.alloc ob).cell? ⟨wo.heap.size, 4, none⟩ = some (.slice pa s.length pc) := fun ob => (((Below.refl wy.heap.size wy).alloc (Nat.le_refl _) ob).cell (World.block_lt_of_cell? wy _ b4)).trans b4
                go_wp2_with (at_builtin; refine wpList_append_any _ rfl _ _ 38 rfl wf.heap.size 3 iv (.int .i64 0) 1 8 Tryd.underlying38 hvi hv0 hv1 hv2 rfl (by decide) (.slice (some ⟨wy.heap.size, 0, none⟩) 1 1) 1 [.int .i64 ei] rfl HRow.out pa s.length pc (i64s (s.map Tr.id)) rfl (by rw [i64s_len, hslen]; omega) (news_i HNw.out) (one_i _) (by unfold maxLen; omega) (by omega) (by have := HI2.out.fr.size; simp; omega) ?_; intro v4 w4 hown4 hgr4 _; obtain ⟨a4, c4, rfl⟩ := own_slC hown4; have HI3 : Hid _ := HI2.out.push (nb := wy.heap.size) rfl (by rw [HEi.out]; exact hown4) hgr4; obtain ⟨⟨_, _, _, _, y4⟩, _, _, _, _, z4⟩ := row_five (HBlk.out _ w4 wy HI2.out hgr4); have d6 := HF.out.cell _ (HFr.out _ HI3.out.fr) k hkp 6 _ (by omega) rfl; rw [HQ.out] at d6)
                go_roundw
                case rel => exact ⟨q, p', ps[k].t :: s, _, by omega, rfl, HUq, HPn, HI3⟩
                case measure => simp [intOf]; omega
              · have r2 : (er != 1) = true := by simp [h1]
                obtain ⟨wy, HWy⟩ := hid_name (wx.setCell ⟨wo.heap.size, 3, none⟩ (.int .i64 ((dc : Int) + 1)))
                have HI2 : Hid (LI2 wf wo.heap.size xi xk ps[k].t s wy (.slice pa s.length pc)) := (by
                  have e1 : lvR (ps[k].t :: s) = lvR s := by rw [lvR_cons, HEr.out, if_neg h3]; rfl
                  have e2 : lvD (ps[k].t :: s) = dc + 1 := by rw [lvD_cons, HEr.out, HDc.out, if_neg h1]
                  rw [← HWy.out]
                  refine ⟨?_, own_setFar HI1.out.row HI1.out.lt, HI1.out.fr.set, HI1.out.lt⟩
                  rw [e1, e2, row_setC HI1.out.box]
                  simp)
                go_upto_region 15 with fail
                rw [HWy.out]
                clear HI1 HWy b0 b1 b2 b3 b4 f0 f1 f2 f3 f4
                obtain ⟨⟨b0, b1, b2, b3, b4⟩, f0, f1, f2, f3, f4⟩ := row_five HI2.out.box
                have d0 := HF.out.cell wy (HFr.out wy HI2.out.fr) k hkp 0 _ (by omega) rfl
                rw [Nat.add_zero, HEi.out] at d0
                have HRow : Hid ((wy.alloc (.cells #[.int .i64 ei] 3)).ownsRow wf.heap.size 3 1 (.slice (some ⟨wy.heap.size, 0, none⟩) 1 1) 1 [.int .i64 ei]) := (by
                  refine ⟨rfl, .inr ⟨wy.heap.size, 1, #[.int .i64 ei], rfl, HI2.out.fr.size, heap_alloc_new wy _, by omega, by unfold maxLen; omega, rfl, rfl⟩⟩)
                have HNw : Hid (Lies (wy.alloc (.cells #[.int .i64 ei] 3)) pa (i64s (s.map Tr.id))) := (own_liesX HI2.out.row).keep ((Below.refl _ _).alloc (Nat.le_refl _) _)
                have hslen : (s.map Tr.id).length = s.length := List.length_map ..
                have b4a : ∀ ob : Obj, (wy.alloc ob).cell? ⟨wo.heap.size, 4, none⟩ = some (.slice pa s.length pc) := fun ob => (((Below.refl wy.heap.size wy).alloc (Nat.le_refl _) ob).cell (World.block_lt_of_cell? wy _ b4)).trans b4
                go_wp2_with (at_builtin; refine wpList_append_any _ rfl _ _ 38 rfl wf.heap.size 3 iv (.int .i64 0) 1 8 Tryd.underlying38 hvi hv0 hv1 hv2 rfl (by decide) (.slice (some ⟨wy.heap.size, 0, none⟩) 1 1) 1 [.int .i64 ei] rfl HRow.out pa s.length pc (i64s (s.map Tr.id)) rfl (by rw [i64s_len, hslen]; omega) (news_i HNw.out) (one_i _) (by unfold maxLen; omega) (by omega) (by have := HI2.out.fr.size; simp; omega) ?_; intro v4 w4 hown4 hgr4 _; obtain ⟨a4, c4, rfl⟩ := own_slC hown4; have HI3 : Hid _ := HI2.out.push (nb := wy.heap.size) rfl (by rw [HEi.out]; exact hown4) hgr4; obtain ⟨⟨_, _, _, _, y4⟩, _, _, _, _, z4⟩ := row_five (HBlk.out _ w4 wy HI2.out hgr4); have d6 := HF.out.cell _ (HFr.out _ HI3.out.fr) k hkp 6 _ (by omega) rfl; rw [HQ.out] at d6)
                go_roundw
                case rel => exact ⟨q, p', ps[k].t :: s, _, by omega, rfl, HUq, HPn, HI3⟩
                case measure => simp [intOf]; omega
          · obtain rfl : k = 0 := by omega
            have HS : Hid (s = PP ++ [xt]) := (by
              have h := HPs.out
              rw [HU.out.zero, List.nil_append] at h
              exact h)
            have HBx : Hid (Below wo.heap.size wo wx) := HBwf.out.trans (HI1.out.fr.below (by omega) (Nat.le_refl _))
            obtain ⟨pvs, hv1', hv2', hv3'⟩ := HLv.out
            have HR2 : Hid (wo.ownsRow w1.heap.size 47 5 u4 ls.length ((List.zipWith lfC ls pvs).flatten)) := hv2'
            have HPv : Hid (pvs.length = ls.length ∧ ∀ j (h : j < ls.length) (h' : j < pvs.length), wo.ownsRow w1.heap.size 3 1 pvs[j] ls[j].path.length (i64s ls[j].path)) := ⟨hv1', hv3'⟩
            obtain ⟨lva, lvc, rfl⟩ := own_slC hv2'
            have HRx : Hid ((wx.alloc (.cells #[.int .i64 xi, .int .i64 xk, .int .i64 (lvR s : Nat), .int .i64 (lvD s : Nat), .slice pa s.length pc] 47)).ownsRow w1.heap.size 47 5 (.slice lva ls.length lvc) ls.length ((List.zipWith lfC ls pvs).flatten)) := (ow_kept HR2.out HBx.out).alloc _
            have HFin : Hid (∀ (l2 : Value) (w2 : World) (ob : Obj), w2.ownsRow w1.heap.size 47 5 l2 (ls.length + 1) ((List.zipWith lfC ls pvs).flatten ++ [.int .i64 xi, .int .i64 xk, .int .i64 (lvR s : Nat), .int .i64 (lvD s : Nat), .slice pa s.length pc]) → (wx.alloc ob).grownBy w2 (Value.slice lva ls.length lvc).ownBlock → LvX 47 w2 w1.heap.size l2 (ls ++ [lfO xt PP]) ∧ Below w1.heap.size w1 w2) := fun l2 w2 ob h1 h2 => (by
              refine ⟨LvX.push (f := lfO xt PP) (pv := .slice pa s.length pc) (by decide) HPv.out.1 HPv.out.2 HR2.out HBr.out.size HBx.out ?_ ?_ h2, ?_⟩
              · have h := own_down HI1.out.row (N' := wo.heap.size) (by omega)
                rw [HS.out] at h ⊢
                simpa [lfO] using h
              · have e : lfC (lfO xt PP) (.slice pa s.length pc) = [.int .i64 xi, .int .i64 xk, .int .i64 (lvR s : Nat), .int .i64 (lvD s : Nat), .slice pa s.length pc] := by
                  rw [HS.out, ← HXi.out, ← HXk.out]
                  rfl
                rw [e]
                exact h1
              · have hbw := HBr.out.trans (HBx.out.mono HBr.out.size)
                refine (hbw.alloc hbw.size ob).grown h2 (by have := hbw.size; simp; omega) (fun k hk => ?_)
                exact (HR2.out.lt k hk).1)
            have hll2 : (ls ++ [lfO xt PP]).length ≤ i + 1 := by simp; omega
            clear hv1' hv2' hv3' HU HPs HR2 HPv
            go_wp2_with (at_builtin; refine wpList_append_where _ rfl _ _ 36 rfl w1.heap.size 47 il (.agg #[.int .i64 0, .int .i64 0, .int .i64 0, .int .i64 0, .slice none 0 0]) 5 56 Tryd.underlying36 hil hl0 hl1 hl2 rfl (by decide) (.slice lva ls.length lvc) ls.length ((List.zipWith lfC ls pvs).flatten) rfl HRx.out ⟨wx.heap.size, 0, none⟩ 1 1 [.int .i64 xi, .int .i64 xk, .int .i64 (lvR s : Nat), .int .i64 (lvD s : Nat), .slice pa s.length pc] rfl rfl five_cells (by intro u hu; simp at hu; rcases hu with rfl | rfl | rfl | rfl | rfl <;> rfl) (by unfold maxLen; omega) (by omega) (by have := HBx.out.size; have := HBr.out.size; simp; omega) (by decide) ?_; intro l2 w2 hown2 hgr2 _; have HF2 : Hid _ := HFin.out _ _ _ hown2 hgr2; obtain ⟨a9, c9, rfl⟩ := own_slC hown2)
            go_roundw
            case rel => exact ⟨i + 1, ls ++ [lfO xt PP], by omega, by omega, by go_num, HN, hll2, HF2.out.1, HF2.out.2⟩
            case measure => simp [intOf]; omega
    · obtain rfl : i = ps.length := by omega
      have HE : Hid (ls = lvL [] t.sub) := (by
        show _ = _
        rw [HLs.out, lvL_zip, List.take_of_length_le]
        have h1 := HF.out.tln
        have h2 : (fl t).tail.length = cntL t.sub := by rw [fl_pre t HIB.out, List.tail_cons, preL_len]
        rw [List.length_zip, ndL_len, ppL_len]
        omega)
      have HBW : Hid (Below W.heap.size W wo) := HB1.out.trans (HBr.out.mono HB1.out.size)
      have HLw : Hid (LvX 47 wo W.heap.size u4 (lvL [] t.sub)) := (by
        rw [← HE.out]
        obtain ⟨pvs, h1, h2, h3⟩ := HLv.out
        exact ⟨pvs, h1, own_down h2 HB1.out.size, fun j hj hj' => own_down (h3 j hj hj') HB1.out.size⟩)
      go_wp2
      go_ret
      exact ⟨⟨_, rfl, HLw.out⟩, HBW.out⟩
end Go.Proofs.YtdpedailookcjaaDoor
