/-
  The walk of AutoBuilds.
-/
import Derived.Test.YtiiehnjgljadbaaDoorPAutoR
import Derived.Test.YtiiehnjgljadbaaDoorPTameN
import Derived.Test.YtiiehnjgljadbaaDoorPOwnN
import Derived.Test.YtiiehnjgljadbaaDoorPSErr2
import Derived.Test.YtiiehnjgljadbaaDoorPLvOf
import Derived.Test.YtiiehnjgljadbaaDoorPWErr4
import Derived.Test.YtiiehnjgljadbaaDoorPSameLies
import Derived.Test.YtiiehnjgljadbaaDoorPLvM
namespace Go.Proofs.YtiiehnjgljadbaaDoor
open Go.RowKit
def lnX : Tr := .node 1 ⟨#[97]⟩ 1 1 []
def lnT : Tr := .node 0 ⟨#[114, 111, 111, 116]⟩ 1 0 [lnX]
theorem ln_sm : lnT.Sm := by
  refine .mk _ _ _ _ _ (by omega) (by decide) (by decide) (fun j h => ?_)
  obtain rfl : j = 0 := by simp at h; omega
  exact .mk _ _ _ _ _ (by omega) (by decide) (by decide) (fun j h => absurd h (by simp))
theorem ln_dp : lnT.Dp 2 := by
  refine .mk 1 _ _ _ _ _ (fun j h => ?_)
  obtain rfl : j = 0 := by simp at h; omega
  exact .mk 0 _ _ _ _ _ (fun j h => absurd h (by simp))
theorem ln_right : vldN lnT = 0 := by decide +kernel
theorem ln_ls : lsT [] lnT = [[]] := by simp [lsT, lsL, lnT, lnX]
theorem ln_next : (List.range (lsT [] lnT).length).map (nxtR (lsT [] lnT)) = [[1]] := by rw [ln_ls]; decide
set_option maxRecDepth 100000 in
set_option maxHeartbeats 3200000 in
/-- The law's closed fact. -/
theorem line_any (W : World) (eb es en : TypeId × Value) (he : Er3 W eb es en) :
    Calls Tryd.prog 4 #[] W fun e w' => e = .returned (.bool true) ∧ Below W.heap.size W w' := by
  obtain ⟨w0, HW0, HX, HY, HB⟩ := two_boxesS W #[.int .i64 1, .string ⟨#[97]⟩, .int .i64 1, .int .i64 1, .slice none 0 0] #[.int .i64 0, .string ⟨#[114, 111, 111, 116]⟩, .int .i64 1, .int .i64 0, .slice (some ⟨W.heap.size, 0, none⟩) 1 1] 24 24
  have hl : LiesN w0 (fun _ => True) (some ⟨W.heap.size, 0, none⟩) lnT.sub := by
    obtain ⟨⟨c0, c1, c2, c3, c4⟩, _⟩ := row_five HX.out
    refine ⟨fun _ => [.int .i64 1, .string ⟨#[97]⟩, .int .i64 1, .int .i64 1, .slice none 0 0], fun j hj => ?_, fun j hj => ?_⟩
    · obtain rfl : j = 0 := by simp [lnT, Tr.sub] at hj; omega
      exact ⟨W.heap.size, 0, _, _, _, _, _, rfl, trivial, rfl, c0, c1, c2, c3, c4⟩
    · obtain rfl : j = 0 := by simp [lnT, Tr.sub] at hj; omega
      exact .mk 1 ⟨#[97]⟩ 1 1 [] none 0 (by simp) (fun _ => []) (fun j h => absurd h (by simp)) (fun j h => absurd h (by simp))
  have he0 := he.keep HB.out
  have HC : Hid (Calls Tryd.prog 7 #[.agg #[.int .i64 0, .string ⟨#[114, 111, 111, 116]⟩, .int .i64 1, .int .i64 0, .slice (some ⟨W.heap.size, 0, none⟩) 1 1]] w0 fun e w' => (∃ la lc, e = .returned (.tuple #[.agg #[.slice la 1 lc], .nilIface]) ∧ LstR w' la [[1]]) ∧ Below w0.heap.size w0 w') := (by
    have h := build_right lnT 2 ln_dp (by omega) ln_sm ln_right (by decide) (some ⟨W.heap.size, 0, none⟩) 1 _ w0 hl (by decide) eb es en he0.b he0.s he0.n
    rw [ln_next, ln_ls] at h
    exact h)
  obtain ⟨⟨p0, p1, p2, p3, p4⟩, _⟩ := row_five HY.out
  clear hl he he0
  go_enter Tryd.func4, Tryd.ntmps4
  go_wp2_with fail
  rw [HW0.out]
  refine Calls.mono HC.out ?_
  rintro e w1 ⟨⟨la, lc, rfl, hls⟩, hb1⟩
  have HB1 : Hid (Below W.heap.size W w1) := HB.out.trans (hb1.mono HB.out.size)
  obtain ⟨b, o, pa, pc, rfl, d0, hli, hm⟩ := hls 0 (by simp)
  clear hls hb1 p0 p1 p2 p3 p4
  obtain ⟨w2, HW2, HZ, HI, HB2⟩ := two_boxesS w1 #[.slice (some ⟨b, o, none⟩) 1 lc] #[.int .i64 1] 30 3
  have HS : Hid (Calls Tryd.prog 11 #[.slice pa 1 pc, .slice (some ⟨w1.heap.size + 1, 0, none⟩) 1 1] w2 fun e w' => e = .returned (.bool true) ∧ Below w2.heap.size w2 w') := sameInts_lies w2 pa _ pc 1 [1] [1] (by unfold maxLen; simp) (hli.1.keep HB2.out) (fun j hj => by
    obtain rfl : j = 0 := by simpa [i64s] using hj
    exact ⟨_, 0, rfl, by simp [World.cell?, HI.out, i64s]⟩) (by simp)
  have e0 : ∀ ob, (w1.alloc ob).cell? ⟨b, o, none⟩ = some (.slice pa 1 pc) := fun ob => (((Below.refl w1.heap.size w1).alloc (Nat.le_refl _) ob).cell (World.block_lt_of_cell? w1 _ d0)).trans d0
  clear hli hm
  go_wp2_with fail
  rw [HW2.out]
  refine Calls.mono HS.out ?_
  rintro e w3 ⟨rfl, hb3⟩
  have HB3 : Hid (Below W.heap.size W w3) := (HB1.out.trans (HB2.out.mono HB1.out.size)).trans (hb3.mono (HB1.out.trans (HB2.out.mono HB1.out.size)).size)
  clear hb3
  go_wp2
  go_ret
  exact ⟨rfl, HB3.out⟩
set_option maxRecDepth 100000 in
set_option maxHeartbeats 6400000 in
theorem autoBuilds_walk (t : Tr) (a : Option Addr) (c : Nat) (P : Nat → Prop) (n : Nat) (hd : t.Dp n) (hn : n ≤ 1100000) (hs : t.Sm) (W : World) (hl : LiesN W P a t.sub) (A : Nat → Addr) (hA : Errs W A) :
    Calls Tryd.prog 3 #[nodeV t a c] W fun e w' => e = .returned (.bool true) ∧ Below W.heap.size W w' := by
  obtain ⟨w0, HW0, HX, HB⟩ := one_box W #[.int .i64 t.id, .string t.nm, .int .i64 t.rep, .int .i64 t.kind, .slice a t.sub.length c] 24
  have HL : Hid (LiesN W P a t.sub) := hl
  have HEr : Hid (∀ w, Below W.heap.size W w → Errs w A) := fun w hb => hA.keep hb
  have HSm : Hid t.Sm := hs
  have HD : Hid (t.Dp n) := hd
  have HLf : Hid (Calls Tryd.prog 4 #[] w0 fun e w' => e = .returned (.bool true) ∧ Below w0.heap.size w0 w') := line_any w0 _ _ _ (HEr.out w0 HB.out).er3
  clear hl hA hs hd
  unfold nodeV
  go_enter Tryd.func3, Tryd.ntmps3
  go_wp2_with fail
  rw [HW0.out]
  refine Calls.mono HLf.out ?_
  rintro e w1 ⟨rfl, hb1⟩
  have HB1 : Hid (Below W.heap.size W w1) := HB.out.trans (hb1.mono HB.out.size)
  have HX1 : Hid (w1.heap[W.heap.size]? = some (.cells #[.int .i64 t.id, .string t.nm, .int .i64 t.rep, .int .i64 t.kind, .slice a t.sub.length c] 24 (0, 0))) := blk_keep hb1 HX.out
  clear hb1 HLf
  obtain ⟨⟨p0, p1, p2, p3, p4⟩, _⟩ := row_five HX1.out
  go_wp2_with fail
  refine Calls.mono (tame_any t HSm.out P a c w1 (HL.out.keep HB1.out)) ?_
  rintro e w2 ⟨rfl, hb2⟩
  have HB2 : Hid (Below W.heap.size W w2) := HB1.out.trans (hb2.mono HB1.out.size)
  have HX2 : Hid (w2.heap[W.heap.size]? = some (.cells #[.int .i64 t.id, .string t.nm, .int .i64 t.rep, .int .i64 t.kind, .slice a t.sub.length c] 24 (0, 0))) := blk_keep hb2 HX1.out
  clear hb2 p0 p1 p2 p3 p4
  obtain ⟨⟨p0, p1, p2, p3, p4⟩, _⟩ := row_five HX2.out
  obtain ⟨tm, HTm⟩ := hid_name (decide ((fl t).length ≤ 200 ∧ nmS (fl t) ≤ 4000))
  rw [HTm.out]
  cases tm with
  | false =>
    go_wp2
    go_ret
    exact ⟨rfl, HB2.out⟩
  | true =>
    go_wp2_with fail
    refine Calls.mono (schemaError_any t HSm.out P a c w2 (HL.out.keep HB2.out)) ?_
    rintro e w3 ⟨rfl, hb3⟩
    have HB3 : Hid (Below W.heap.size W w3) := HB2.out.trans (hb3.mono HB2.out.size)
    have HX3 : Hid (w3.heap[W.heap.size]? = some (.cells #[.int .i64 t.id, .string t.nm, .int .i64 t.rep, .int .i64 t.kind, .slice a t.sub.length c] 24 (0, 0))) := blk_keep hb3 HX2.out
    clear hb3 p0 p1 p2 p3 p4
    obtain ⟨⟨p0, p1, p2, p3, p4⟩, _⟩ := row_five HX3.out
    go_wp2_with fail
    refine Calls.mono (ownNode_any _ t (Nat.lt_succ_self _) HSm.out P a c w3 (HL.out.keep HB3.out)) ?_
    rintro e w4 ⟨⟨a4, c4, rfl, hl4, hc4⟩, hb4⟩
    have HB4 : Hid (Below W.heap.size W w4) := HB3.out.trans (hb4.mono HB3.out.size)
    have HX4 : Hid (w4.heap[W.heap.size]? = some (.cells #[.int .i64 t.id, .string t.nm, .int .i64 t.rep, .int .i64 t.kind, .slice a t.sub.length c] 24 (0, 0))) := blk_keep hb4 HX3.out
    have HL4 : Hid (LiesN w4 (fun b => w3.heap.size ≤ b) a4 t.sub) := hl4
    clear hb4 hl4 p0 p1 p2 p3 p4
    by_cases hv : vldN t = 0
    · obtain ⟨r1, r2, r3, r4, r5⟩ := right_parts hv
      have hcn := (dpB t 0 [] r1).2.1
      have HBu : Hid _ := build_right t n HD.out hn HSm.out hv (by omega) a4 c4 _ w4 HL4.out hc4 _ _ _ (HEr.out w4 HB4.out).er3.b (HEr.out w4 HB4.out).er3.s (HEr.out w4 HB4.out).er3.n
      have hlen : (lsT [] t).length ≤ 40 := by have := lsT_len [] t; omega
      have hq := lsT_right t hv
      have HNx : Hid (∀ w, Below W.heap.size W w → Calls Tryd.prog 10 #[.agg #[.int .i64 t.id, .string t.nm, .int .i64 t.rep, .int .i64 t.kind, .slice a t.sub.length c]] w fun e w' => (∃ la lc, e = .returned (.slice la (lsT [] t).length lc) ∧ LstR w' la ((List.range (lsT [] t).length).map (nxtR (lsT [] t)))) ∧ Below w.heap.size w w') := fun w hb => nextOfR_of t a c w (lsT [] t) (by omega) (fun j h => by
          have := lsT_mem [] t (lsT [] t)[j] (List.getElem_mem h)
          simp at this
          omega) (fun w' hb' => by
          have hbW := hb.trans (hb'.mono hb.size)
          have h := leavesOf_any t HSm.out r1 P a c w' (HL.out.keep hbW)
          refine Calls.mono h ?_
          rintro e w2 ⟨⟨lv, rfl, hlv⟩, hb2⟩
          rw [lvL_q] at hlv
          obtain ⟨va, vc, rfl⟩ : ∃ va vc, lv = .slice va ((qL [] t.sub).map lfQ).length vc := (by obtain ⟨pvs, _, h2, _⟩ := hlv; exact own_slC h2)
          have el : (lsT [] t).length = (qL [] t.sub).length := by rw [hq]; simp
          refine ⟨⟨va, vc, by rw [el]; simp, fun j hj => ?_⟩, hb2⟩
          have hj2 : j < (qL [] t.sub).length := by rw [← el]; exact hj
          have h3 := listsAt t HSm.out hv (by omega) a c P w2 w'.heap.size (HL.out.keep (hbW.trans (hb2.mono hbW.size))) va _ vc hlv j hj2
          obtain ⟨g, fi, fk, pa, pn, pc, fm, fd, e1, h4⟩ := h3
          refine ⟨g, fi, fk, pa, pn, pc, fm, fd, e1, fun X hX => ?_⟩
          obtain ⟨x0, x1, x2, x3, x4, x5⟩ := h4 X hX
          refine ⟨⟨x0, x1, x2, x3, x4⟩, ?_⟩
          have e2 : (lsT [] t)[j] = rptI (qL [] t.sub)[j] := by simp [hq]
          rw [e2]
          exact x5)
      have HM : Hid (∀ j (h : j < ((List.range (lsT [] t).length).map (nxtR (lsT [] t))).length), ((List.range (lsT [] t).length).map (nxtR (lsT [] t)))[j].length ≤ maxLen) := fun j h => (by
        have hj : j < (lsT [] t).length := by simpa using h
        have h2 := lsT_mem [] t (lsT [] t)[j] (List.getElem_mem hj)
        simp at h2
        simp [nxtR_len, List.getD, hj]
        unfold maxLen
        omega)
      have HSe : Hid (seN t = 0) := right_se hv
      obtain ⟨M, HMe⟩ := hid_name ((List.range (lsT [] t).length).map (nxtR (lsT [] t)))
      have hMl : (lsT [] t).length = M.length := by rw [← HMe.out]; simp
      rw [HMe.out, hMl] at HBu HNx
      rw [HMe.out] at HM
      rw [hMl] at hlen
      rw [HSe.out]
      clear hv r1 r2 r3 r4 r5 hcn hq hMl
      go_wp2_with fail
      refine Calls.mono HBu.out ?_
      rintro e w5 ⟨⟨la, lc, rfl, hlv⟩, hb5⟩
      obtain ⟨w6, HW6, HY, HB6⟩ := one_box w5 #[.slice la M.length lc] 30
      have HBz : Hid (Below W.heap.size W w6) := (HB4.out.trans (hb5.mono HB4.out.size)).trans (HB6.out.mono (HB4.out.trans (hb5.mono HB4.out.size)).size)
      have HX5 : Hid (w6.heap[W.heap.size]? = some (.cells #[.int .i64 t.id, .string t.nm, .int .i64 t.rep, .int .i64 t.kind, .slice a t.sub.length c] 24 (0, 0))) := blk_keep HB6.out (blk_keep hb5 HX4.out)
      have HV5 : Hid (LstR w5 la M) := hlv
      clear hb5 hlv HBu
      obtain ⟨⟨p0, p1, p2, p3, p4⟩, _⟩ := row_five HX5.out
      go_upto_if 27 with fail
      rw [HW6.out]
      go_wp2_with fail
      refine Calls.mono (HNx.out w6 HBz.out) ?_
      rintro e w7 ⟨⟨ma, mc, rfl, hlv2⟩, hb7⟩
      have HB7 : Hid (Below W.heap.size W w7) := HBz.out.trans (hb7.mono HBz.out.size)
      have HY7 : Hid (w7.heap[w5.heap.size]? = some (.cells #[.slice la M.length lc] 30 (0, 0))) := blk_keep hb7 HY.out
      have HV7 : Hid (LiesLL w7 la M) := HV5.out.lies.keep (HB6.out.trans (hb7.mono HB6.out.size))
      have HR7 : Hid (LiesLL w7 ma M) := hlv2.lies
      obtain ⟨y0, _⟩ := row_one HY7.out
      clear hb7 hlv2 HNx p0 p1 p2 p3 p4
      go_wp2_with fail
      go_loopw [8] (fun x wr => ∃ i : Nat, i ≤ M.length ∧ x = .int .i64 i ∧ Hid (Below w7.heap.size w7 wr)) (fun x _ => M.length - (intOf x).toNat)
      case atStart => exact ⟨0, Nat.zero_le _, rfl, Below.refl _ _⟩
      case round =>
        obtain ⟨i, hik, rfl, HBr⟩ := hrel
        by_cases hlt : i < M.length
        · obtain ⟨g1, o1, pa, pc, rfl, d0, hp1, _⟩ := (HV7.out.keep HBr.out) i hlt
          obtain ⟨g2, o2, qa, qc, rfl, e0, hp2, _⟩ := (HR7.out.keep HBr.out) i hlt
          have z0 := (HBr.out.cell (World.block_lt_of_cell? w7 _ y0)).trans y0
          have HC : Hid (Calls Tryd.prog 11 #[.slice pa M[i].length pc, .slice qa M[i].length qc] wr.drew fun e w' => e = .returned (.bool true) ∧ Below wr.drew.heap.size wr.drew w') := sameInts_lies wr.drew pa qa pc qc M[i] M[i] (HM.out i hlt) hp1 hp2 (by simp)
          clear hp1 hp2
          have b10 : Below wr.heap.size wr wr := Below.refl _ _
          have HN : Hid (∀ X, Below wr.heap.size wr X → X.cell? ⟨w5.heap.size, 0, none⟩ = some (.slice (some ⟨g1, o1, none⟩) M.length lc) ∧ X.cell? ⟨g1, o1 + i, none⟩ = some (.slice pa M[i].length pc) ∧ X.cell? ⟨g2, o2 + i, none⟩ = some (.slice qa M[i].length qc) ∧ Below wr.heap.size wr X) := fun X hX => (by
            have k : ∀ (ad : Addr) (v : Value), wr.cell? ad = some v → X.cell? ad = some v := fun ad v h => (hX.cell (World.block_lt_of_cell? wr _ h)).trans h
            exact ⟨k _ _ z0, k _ _ d0, k _ _ e0, hX⟩)
          go_upto_region 14 with fail
          go_region_held3 (fun X => X.cell? ⟨w5.heap.size, 0, none⟩ = some (.slice (some ⟨g1, o1, none⟩) M.length lc) ∧ X.cell? ⟨g1, o1 + i, none⟩ = some (.slice pa M[i].length pc) ∧ X.cell? ⟨g2, o2 + i, none⟩ = some (.slice qa M[i].length qc) ∧ Below wr.heap.size wr X) (first | (with_reducible refine HN.out _ ?_; repeat' (first | with_reducible assumption | with_reducible exact b10.drew | with_reducible exact b10))) (first | (go_at_call 11; refine Calls.mono HC.out ?_; rintro e w8 ⟨rfl, hb8⟩; have hbb : Below wr.heap.size wr w8 := (Below.refl _ _).drew.trans hb8))
          all_goals
            have HBn : Hid (Below w7.heap.size w7 w8) := HBr.out.trans (hbb.mono HBr.out.size)
            clear hbb
            go_wp2
            go_roundw
            case rel => exact ⟨i + 1, by omega, by go_num, HBn⟩
            case measure => simp [intOf]; omega
        · obtain rfl : i = M.length := by omega
          go_wp2
          go_ret
          exact ⟨rfl, HB7.out.trans (HBr.out.mono HB7.out.size)⟩
    · obtain ⟨i, hi, hx, hse⟩ := wrong_err A hv
      have HLe : Hid _ := build_err t n HD.out hn HSm.out a4 c4 _ w4 HL4.out hc4 _ _ _ _ _ hx (HEr.out w4 HB4.out).er3.b (HEr.out w4 HB4.out).er3.s (HEr.out w4 HB4.out).er3.n
      have HCd : Hid (∀ w : World, Below W.heap.size W w → Calls Tryd.prog 9 #[errV (A i), .int .i64 ((seN t : Nat) : Int)] w fun e w' => e = .returned (.bool true) ∧ Below w.heap.size w w') := fun w hb => coded_sent w A (HEr.out w hb) i hi _ true (by rw [hse]; simp)
      obtain ⟨sn, HSn⟩ := hid_name (seN t)
      have hsn : 0 < sn := by rw [← HSn.out, hse]; omega
      have q0 : decide ((0 : Int) < (sn : Int)) = true := by simp; omega
      have q1 : decide (0 < sn) = true := by simp; omega
      rw [HSn.out] at HCd
      rw [HSn.out]
      clear hv hx hse
      go_wp2_with fail
      refine Calls.mono HLe.out ?_
      rintro e w5 ⟨rfl, hb5⟩
      obtain ⟨w6, HW6, HY, HB6⟩ := one_box w5 #[.slice none 0 0] 30
      have HB5 : Hid (Below W.heap.size W w6) := (HB4.out.trans (hb5.mono HB4.out.size)).trans (HB6.out.mono (HB4.out.trans (hb5.mono HB4.out.size)).size)
      clear hb5 HLe
      go_wp2_with fail
      first | rw [HW6.out] | skip
      refine Calls.mono (HCd.out w6 HB5.out) ?_
      rintro e w7 ⟨rfl, hb7⟩
      have HB7 : Hid (Below W.heap.size W w7) := HB5.out.trans (hb7.mono HB5.out.size)
      obtain ⟨y0, _⟩ := row_one (blk_keep hb7 HY.out)
      clear hb7
      go_wp2
      go_ret
      exact ⟨rfl, HB7.out⟩
end Go.Proofs.YtiiehnjgljadbaaDoor
