/-
  A copy of a disk.
-/
import Derived.Test.YtmpdkccmcnegkaaDoorIDkX
import Derived.Test.YtmpdkccmcnegkaaDoorIMdC
import Derived.Test.YtmpdkccmcnegkaaDoorIDkY
import Derived.Carry
namespace Go.Proofs.YtmpdkccmcnegkaaDoor
open Go.RowKit Go.Maps
theorem one_B (bs : List UInt8) : ∀ u ∈ cellsOf bs, u.oneCell' = true := fun u hu => by obtain ⟨x, _, rfl⟩ := List.mem_map.1 hu; rfl
set_option maxRecDepth 100000 in
set_option maxHeartbeats 3200000 in
theorem cloneB_any (a : Option Addr) (n c : Nat) (bs : List UInt8) (w : World) (hn : n ≤ 1000000) (h0 : 0 < n) (h : w.ownsRow 0 5 1 (.slice a n c) n (cellsOf bs)) :
    Calls Tryd.prog (29) #[.slice a n c] w fun e w' => (∃ v, e = .returned v ∧ w'.ownsRow w.heap.size 5 1 v n (cellsOf bs)) ∧ Below w.heap.size w w' := by
  obtain ⟨iv, hvi, hv0, hv1, hv2⟩ := info_parts Tryd.info5
  obtain ⟨b, rfl⟩ : ∃ b, a = some ⟨b, 0, none⟩ := by
    rcases h.2 with ⟨_, e⟩ | ⟨g, cap, cur, e, _⟩
    · omega
    · injection e with e; exact ⟨g, e⟩
  have hb0 : Below w.heap.size w (w.alloc (.cells #[] 5)) := (Below.refl _ _).alloc (Nat.le_refl _) _
  have HL : Hid (∀ j u, (cellsOf bs)[j]? = some u → ∃ a', some (⟨b, 0, none⟩ : Addr) = some a' ∧ (w.alloc (.cells #[] 5)).cell? (a'.add j) = some u) := fun j u hu => ⟨_, rfl, (ow_kept h hb0).cells (g := b) rfl j u hu⟩
  have HLn : Hid ((cellsOf bs).length = n * 1) := h.1
  have HB0 : Hid (Below w.heap.size w (w.alloc (.cells #[] 5))) := hb0
  have HO : Hid ((w.alloc (.cells #[] 5)).ownsRow w.heap.size 5 1 (.slice (some ⟨w.heap.size, 0, none⟩) 0 0) 0 []) := World.ownsRow_made w #[] 0 (Nat.le_refl _) (by unfold maxLen; omega) rfl
  have hbe : ∀ W : World, (binOp .eql 61 (.slice (some ⟨b, 0, none⟩) n c) (.slice none 0 0)).run Tryd.prog W = .ok (.bool false) W := fun _ => by kernel_rfl
  clear h hb0
  go_enter Tryd.func29, Tryd.ntmps29
  go_wp2_with (at_builtin; (refine wpList_append_any _ rfl _ _ 61 rfl w.heap.size 5 iv (.int .u8 0) 1 1 Tryd.underlying61 hvi hv0 hv1 hv2 rfl (by decide) (.slice (some ⟨w.heap.size, 0, none⟩) 0 0) 0 [] rfl HO.out (some ⟨b, 0, none⟩) _ c (cellsOf bs) rfl HLn.out HL.out (one_B _) (by unfold maxLen; omega) (by omega) (by simp) ?_); intro l2 w4 hown4 hgr4 _)
  have HW : Hid (w4.ownsRow w.heap.size 5 1 l2 n (cellsOf bs)) := (by show World.ownsRow _ _ _ _ _ _ _; rw [List.nil_append, Nat.zero_add] at hown4; exact hown4)
  have HB : Hid (Below w.heap.size w w4) := HB0.out.grown hgr4 (by simp) (fun k hk => by simp [Value.ownBlock] at hk; omega)
  clear hown4 hgr4
  go_wp2
  go_ret
  exact ⟨⟨l2, rfl, HW.out⟩, HB.out⟩
/-- What Copy's loop holds. -/
structure CpI (W : World) (gd gm r mb n : Nat) (s : DkSt) (ld : Int) (D : DataW Value) (left : Lit → Bool) (cnt : Nat) (wr : World) : Prop where
  rg : wr.ranges Tryd.prog 9 RF mb r n D left cnt
  box : wr.heap[gd]? = some (.cells (dkBox s.done s.short ld s.quota gm) 51 (0, 0))
  fm : ∃ Dc vc, FM wr (fun k => NewP W wr k ∧ k ≠ r) gm (s.fs.filter (fun p => !left (kS p.1))) Dc vc
  gdn : W.heap.size ≤ gd ∧ gd < r
  gmn : gm < r
  old : Below W.heap.size W wr
  rn : r < wr.heap.size
set_option maxRecDepth 100000 in
set_option maxHeartbeats 6400000 in
theorem copy_disk (db : Nat) (P : Nat → Prop) (s : DkSt) (W : World) (h : DkAt W P db s) :
    Calls Tryd.prog 14 #[.pointer (some ⟨db, 0, none⟩)] W fun e w' => (∃ gd, e = .returned (.pointer (some ⟨gd, 0, none⟩)) ∧ DkAt w' (NewP W w') gd s) ∧ Below W.heap.size W w' := by
  have HD : Hid (DkAt W P db s) := h
  obtain ⟨mb, ld, hb, hl, D, vf, hF⟩ := h.box
  obtain ⟨⟨p0, p1, p2, p3, p4⟩, _⟩ := row5 hb
  obtain ⟨n0, hm0⟩ := hF.map
  have HM : Hid (W.ownsMap Tryd.prog 9 RF mb (Maps.size D) D) := own_tight hm0
  have HF : Hid (FM W P mb s.fs D vf) := hF
  have HL : Hid (s.short = true → ld = s.left) := hl
  have HBx : Hid (W.heap[db]? = some (.cells (dkBox s.done s.short ld s.quota mb) 51 (0, 0))) := hb
  have hmm := @run_makeMap Tryd.prog
  clear h hb hF hm0 hl
  go_enter Tryd.func14, Tryd.ntmps14
  go_upto_region 1 with fail
  go_cut [3] (fun x wx => ∃ gd gm, x = .pointer (some ⟨gd, 0, none⟩) ∧ Hid (W.heap.size ≤ gd ∧ W.heap.size ≤ gm ∧ gm < wx.heap.size) ∧ Hid (wx.heap[gd]? = some (.cells (dkBox s.done s.short ld s.quota gm) 51 (0, 0))) ∧ Hid (wx.ownsMap Tryd.prog 9 RF gm 0 (.map [])) ∧ Hid (Below W.heap.size W wx))
  case first =>
    have hba : Below W.heap.size W (W.alloc (.map #[] 0)) := (Below.refl _ _).alloc (Nat.le_refl _) _
    obtain ⟨⟨m0, m1, m2, m3, m4⟩, _⟩ := row5 (blk_keep hba HBx.out)
    have HBa : Hid (Below W.heap.size W (W.alloc (.map #[] 0))) := hba
    clear hba
    go_region
    all_goals
      go_wp2
      go_meet
    all_goals
      have hm : ((W.alloc (.map #[] 0)).alloc (.cells (dkBox s.done s.short ld s.quota W.heap.size) 51)).ownsMap Tryd.prog 9 RF W.heap.size 0 (.map []) := (World.ownsMap_made W Tryd.prog 9 RF).alloc _
      have hb := heap_alloc_new (W.alloc (.map #[] 0)) (.cells (dkBox s.done s.short ld s.quota W.heap.size) 51)
      rw [show (W.alloc (.map #[] 0)).heap.size = W.heap.size + 1 by simp] at hb
      exact ⟨W.heap.size + 1, W.heap.size, rfl, ⟨by omega, Nat.le_refl _, by show _ < ((W.alloc (.map #[] 0)).alloc _).heap.size; simp; omega⟩, hb, hm, (HBa.out.alloc (by simp) _).drew⟩
  case rest =>
    obtain ⟨gd, gm, rfl, HG, HBg, HMg, HBw⟩ := hcut
    rename World => w1
    have HM1 : Hid (w1.ownsMap Tryd.prog 9 RF mb (Maps.size D) D) := map_stay HM.out (HBw.out.block mb HM.out.lt)
    have HF1 : Hid (FM w1 P mb s.fs D vf) := HF.out.stay (fun k hk _ => HBw.out.block k hk) (fun _ h => h)
    have HPl : Hid (∀ k, P k → k < W.heap.size) := HD.out.lt
    obtain ⟨⟨q0, q1, q2, q3, q4⟩, _⟩ := row5 (blk_keep HBw.out HBx.out)
    have HGl : Hid (gd < w1.heap.size) := lt_of_block HBg.out
    have hmm1 := HM1.out
    clear p0 p1 p2 p3 p4
    go_wp2_with (first | (at_range; refine wpList_range_own _ rfl _ 47 rfl 9 61 Tryd.lawK Tryd.underlying47 RF mb (Maps.size D) D rfl HM1.out ?_; intro w2 hrg0 hg0 hs0) | go_in)
    go_frame
    have hb2 : Below w1.heap.size w1 w2 := ⟨hg0.os, hg0.tape, hg0.output, hg0.size, fun k hk => hg0.block k hk (by simp)⟩
    have HI2 : Hid (CpI W gd gm w1.heap.size mb (Maps.size D) s ld D (Maps.has D) (Maps.size D) w2) := (by
      refine ⟨hrg0, blk_keep hb2 HBg.out, ⟨.map [], fun _ => .nilIface, ?_⟩, ⟨HG.out.1, HGl.out⟩, HG.out.2.2, HBw.out.trans (hb2.mono HBw.out.size), by rw [hs0]; omega⟩
      have e : s.fs.filter (fun p => !Maps.has D (kS p.1)) = [] := List.filter_eq_nil_iff.2 (fun p hp => by rw [(HF1.out.has _).2 ⟨p, hp, rfl⟩]; simp)
      rw [e]
      exact FM.empty (map_stay HMg.out (hb2.block gm HMg.out.lt)) ⟨⟨HG.out.2.1, Nat.lt_of_lt_of_le HG.out.2.2 hb2.size⟩, by have := HG.out.2.2; omega⟩ _)
    clear hrg0 hg0 hs0 q0 q1 q2 q3 q4 hmm1 hb2
    obtain ⟨r, HRr⟩ := hid_nm w1.heap.size
    rw [HRr.out] at HI2 ⊢
    go_loopw [4, 5] (fun _ _ wr => ∃ (left : Lit → Bool) (cnt : Nat), CpI W gd gm r mb (Maps.size D) s ld D left cnt wr) (fun _ _ wr => wr.rangeLeft mb r)
    case atStart => exact ⟨_, _, HI2.out⟩
    case round =>
      obtain ⟨left, cnt, hI⟩ := hrel
      have HI : Hid (CpI W gd gm r mb (Maps.size D) s ld D left cnt wr) := hI
      go_wp2_with (first | (at_next; refine wpList_next_ranges _ rfl _ rfl 9 Tryd.lawK RF Value.string (fun x : Option Addr × Nat × Nat => .slice x.1 x.2.1 x.2.2) keyOf_strInv RF_inv mb r (Maps.size D) D left cnt rfl hI.rg ?_ ?_) | go_in)
      · intro _ hl0
        go_wp2
        go_ret
        obtain ⟨Dc, vc, hFc⟩ := HI.out.fm
        have e : s.fs.filter (fun p => !left (kS p.1)) = s.fs := List.filter_eq_self.2 (fun p _ => by rw [hl0]; rfl)
        rw [e] at hFc
        exact ⟨⟨gd, rfl, ⟨gm, ld, HI.out.box, HL.out, Dc, vc, hFc.stay (fun _ _ _ => rfl) (fun _ h => h.1)⟩, ⟨HI.out.gdn.1, lt_of_block HI.out.box⟩, fun k hk => hk.2, HD.out.ok⟩, HI.out.old⟩
      · intro x xa xn xc kl y yp w3 cnt3 hkey hlk hR hat hrg3 hlt hg3 hs3 hen
        have HX : Hid (∃ q ∈ s.fs, kl = kS q.1 ∧ x = q.1 ∧ Value.slice xa xn xc = vf q.1) := (by
          obtain ⟨q, hq, rfl⟩ := (HF1.out.has kl).1 (has_true_of_atKey hat)
          refine ⟨q, hq, rfl, ?_, ?_⟩
          · obtain ⟨y2, h1, h2, _⟩ := Maps.keyOf_str Tryd.underlying9 hkey
            have e1 : bl q.1 = y2 := by simpa [kS] using h2
            have e2 : x = ⟨y2.toArray⟩ := by simpa [encStr] using h1
            rw [e2, ← e1, bytes_back]
          · have h1 := HF1.out.at_ q hq .nil
            have h2 := hat .nil
            rw [h1] at h2
            have e : y = .held (.slice xa xn xc) := by simp [RF] at hR; exact hR.1.symm
            rw [e] at h2
            injection h2 with h2; exact h2.symm)
        obtain ⟨q, hq, rfl, rfl, hvq⟩ := HX.out
        have HQ : Hid (q ∈ s.fs) := hq
        have hrow1 := HF1.out.row q hq
        rw [← hvq] at hrow1
        have hxn : xn = (bl q.2).length := (own_cap hrow1).1
        subst hxn
        have hob := HF1.out.own q hq
        rw [← hvq] at hob
        obtain ⟨go, hgo, hgoP⟩ := hob
        have HB3 : Hid (Below W.heap.size W w3) := HI.out.old.trans ⟨hg3.os, hg3.tape, hg3.output, hg3.size, fun k hk => hg3.block k (Nat.lt_of_lt_of_le hk HI.out.old.size) (fun e => by injection e with e; have := HI.out.gdn; omega)⟩
        have hrow3 : w3.ownsRow 0 5 1 (.slice xa (bl q.2).length xc) (bl q.2).length (cellsOf (bl q.2)) := by
          have h0 := HF.out.row q hq
          rw [← hvq] at h0
          exact ow_kept h0 HB3.out
        have hq1 := (HD.out.ok.each q hq).1
        have hq2 : q.2.size ≤ 500000 := Nat.le_trans (used_mem hq) (Nat.le_trans HD.out.ok.used HD.out.ok.quo)
        have hlq : (bl q.2).length = q.2.size := by simp [bl]
        have HCl : Hid (∀ X, Below w3.heap.size w3 X → Calls Tryd.prog (29) #[.slice xa (bl q.2).length xc] X fun e w' => (∃ v, e = .returned v ∧ w'.ownsRow X.heap.size 5 1 v (bl q.2).length (cellsOf (bl q.2))) ∧ Below X.heap.size X w') := fun X hX => cloneB_any xa _ xc (bl q.2) X (by omega) (by omega) (ow_kept hrow3 hX)
        have hxm : q.1.size ≤ maxLen := by have := (HD.out.ok.each q hq).2; unfold maxLen; omega
        have HG1 : Hid (gd < w3.heap.size ∧ gd ≠ r ∧ gm ≠ r ∧ r < w3.heap.size ∧ mb ≠ gm ∧ W.heap.size ≤ w3.heap.size ∧ wr.heap.size = w3.heap.size) := (by
          have h1 := HI.out.gdn
          have h2 := HI.out.gmn
          have h3 := HI.out.rn
          have h4 := HM.out.lt
          have h5 := HG.out.2.1
          have h6 := HB3.out.size
          refine ⟨?_, ?_, ?_, ?_, ?_, ?_, hs3.symm⟩ <;> omega)
        have HX3 : Hid (w3.heap[gd]? = some (.cells (dkBox s.done s.short ld s.quota gm) 51 (0, 0))) := (hg3.block gd (lt_of_block HI.out.box) (fun e => HG1.out.2.1 (by injection e))).trans HI.out.box
        obtain ⟨Dc, vc, hFc0⟩ := HI.out.fm
        have HFc : Hid (FM w3 (fun k => NewP W w3 k ∧ k ≠ r) gm (s.fs.filter (fun p => !left (kS p.1))) Dc vc) := hFc0.stay (fun k hk hp => hg3.block k hk (fun e => hp.2 (by injection e))) (fun k hp => ⟨⟨hp.1.1, Nat.lt_of_lt_of_le hp.1.2 (Nat.le_of_eq HG1.out.2.2.2.2.2.2)⟩, hp.2⟩)
        obtain ⟨mc, hmc0⟩ := HFc.out.map
        have HMc : Hid (w3.ownsMap Tryd.prog 9 RF gm (Maps.size Dc) Dc) := own_tight hmc0
        have HSc : Hid (Maps.size Dc < maxLen) := (by
          show _ < _
          rw [HFc.out.size (HD.out.ok.srt.filter _)]
          have h1 := List.length_filter_le (fun p : Fl => !left (kS p.1)) s.fs
          have h2 := HD.out.ok.len
          unfold maxLen; omega)
        have HRg : Hid (w3.ranges Tryd.prog 9 RF mb r (Maps.size D) D (fun z => left z && !z.sameKey (kS q.1)) cnt3) := hrg3
        have HLt : Hid (cnt3 < cnt) := hlt
        have HMem : Hid (∀ p, p ∈ s.fs.filter (fun p => !(left (kS p.1) && !(kS p.1).sameKey (kS q.1))) ↔ p = (q.1, q.2) ∨ (p ∈ s.fs.filter (fun p => !left (kS p.1)) ∧ p.1 ≠ q.1)) := fun p => by
          simp only [List.mem_filter, kS_same]
          by_cases e : p.1 = q.1
          · simp only [e, decide_true, Bool.not_true, Bool.and_false, Bool.not_false, and_true, ne_eq, not_true_eq_false, and_false, or_false]
            exact ⟨fun hp => HD.out.ok.srt.inj hp HQ.out e, fun hp => by rw [hp]; exact HQ.out⟩
          · simp only [e, decide_false, Bool.not_false, Bool.and_true, ne_eq, not_false_eq_true, and_true]
            exact ⟨fun hp => .inr hp, fun hp => hp.resolve_left (fun e2 => e (by rw [e2]))⟩
        obtain ⟨len, HLen⟩ := hid_nm (bl q.2).length
        rw [HLen.out] at HCl hen ⊢
        obtain ⟨⟨x0, x1, x2, x3, x4⟩, _⟩ := row5 HX3.out
        clear hkey hlk hR hat hrg3 hlt hg3 hs3 hq hrow1 hrow3 hgoP hgo hvq hFc0 hmc0 hI
        go_upto_region 5 with fail
        have hbb : Below w3.heap.size w3 w3.drew := (Below.refl _ _).drew
        go_region_law (go_simp; (with_reducible refine Calls.mono (HCl.out _ hbb) ?_); rintro e w4 ⟨⟨v4, rfl, hrow4⟩, hb4⟩; replace hb4 := hbb.trans (hb4.mono hbb.size); obtain ⟨a4, c4, rfl⟩ := own_slC hrow4; have y4 := (hb4.cell (p := ⟨gd, 4, none⟩) HG1.out.1).trans x4; obtain ⟨w5, hrun5, hown5, hturn5⟩ := (map_stay HMc.out (hb4.block gm HMc.out.lt)).store Tryd.lawK Tryd.underlying47 HSc.out (kS_of q.1 hxm) (val := .slice a4 len c4) rfl)
        all_goals
          obtain ⟨g1, g2, g3, g4, g5, g6, g7⟩ := HG1.out
          have hz5 := turned_size hturn5
          have hs4 : w3.heap.size ≤ w4.heap.size := hb4.size
          have hrow4' : w4.ownsRow w3.heap.size 5 1 (.slice a4 len c4) len (cellsOf (bl q.2)) := hrow4
          have hpos : 0 < len := by rw [← HLen.out, hlq]; omega
          obtain ⟨g4b, hg4b⟩ : ∃ g, (Value.slice a4 len c4).ownBlock = some g := by
            rcases hrow4'.2 with ⟨_, e⟩ | ⟨g, cap, cur, e, _⟩
            · omega
            · exact ⟨g, by rw [e]; rfl⟩
          have hge := row_ge hrow4' hg4b
          have hlt4 := own_lt hrow4' hg4b
          have hrow5 : w5.ownsRow 0 5 1 (.slice a4 len c4) (bl q.2).length (cellsOf (bl q.2)) := by rw [HLen.out]; exact row_base (row_turn hturn5 hrow4')
          have hrg5 := (rangeF HRg.out (fun k hk => hb4.block k hk)).kept hturn5.grown (fun e => g5 (by injection e)) (fun e => g3 (by injection e with e; exact e.symm))
          have hk5 : ∀ k, k < w3.heap.size → k ≠ gm → w5.heap[k]? = w3.heap[k]? := fun k hk hne => (hturn5.grown.block k (Nat.lt_of_lt_of_le hk hs4) (fun e => hne (by injection e))).trans (hb4.block k hk)
          have hF5 := HFc.out.put (w' := w5) (P' := fun k => NewP W w5 k ∧ k ≠ r) (fs' := s.fs.filter (fun p => !(left (kS p.1) && !(kS p.1).sameKey (kS q.1)))) q.1 q.2 _ hown5 HMem.out (fun p hp _ g hg => hk5 g (own_lt (HFc.out.row p hp) hg) (fun e => by subst e; exact row_ne_map (HFc.out.row p hp) HMc.out hg.symm)) hrow5 (fun k hk => ⟨⟨hk.1.1, by have := hk.1.2; omega⟩, hk.2⟩) ⟨g4b, hg4b, ⟨by omega, by omega⟩, by omega⟩ (fun p hp _ e => by rw [hg4b] at e; have := own_lt (HFc.out.row p hp) e; omega)
          have hne4 : gd ≠ gm := fun e => map_ne HMc.out HX3.out e
          have HI5 : Hid (CpI W gd gm r mb (Maps.size D) s ld D (fun z => left z && !z.sameKey (kS q.1)) cnt3 w5) :=
            ⟨hrg5, (hk5 gd g1 hne4).trans HX3.out, ⟨_, _, hF5⟩, HI.out.gdn, HI.out.gmn, (HB3.out.trans (hb4.mono g6)).trans (Off.below (off_of (P := fun k => W.heap.size ≤ k) hturn5.grown HG.out.2.1) (by omega) (fun _ h => h)), by omega⟩
          have HM5 : Hid (w5.rangeLeft mb r < wr.rangeLeft mb r) := (by show _ < _; rw [hrg5.left_eq, HI.out.rg.left_eq]; exact HLt.out)
          clear hrg5 hF5 hrow5 hrow4 hrow4' hown5 hturn5 hrun5 hk5
          go_roundw
          case rel => exact ⟨_, _, _, _, _, _, _, _, _, _, _, _, _, _, ⟨_, _, HI5.out⟩, rfl⟩
          case measure => exact HM5.out
end Go.Proofs.YtmpdkccmcnegkaaDoor
