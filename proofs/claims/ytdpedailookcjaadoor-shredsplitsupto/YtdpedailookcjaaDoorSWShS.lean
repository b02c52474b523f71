/-
  The walk of the law ShredSplits, up to its loop.
-/
import Derived.Test.YtdpedailookcjaaDoorSBStBase
import Derived.Test.YtdpedailookcjaaDoorSBShredX
import Derived.Test.YtdpedailookcjaaDoorSBOwnDt
import Derived.Test.YtdpedailookcjaaDoorSLightD
import Derived.Test.YtdpedailookcjaaDoorSLvOf
import Derived.Test.YtdpedailookcjaaDoorSBOwnN
import Derived.Test.YtdpedailookcjaaDoorSBColG
import Derived.Test.YtdpedailookcjaaDoorSBVwB
import Derived.Test.YtdpedailookcjaaDoorSBColK2
import Derived.Test.YtdpedailookcjaaDoorSBSmall
namespace Go.Proofs.YtdpedailookcjaaDoor
open Go.RowKit
set_option maxRecDepth 100000 in
set_option maxHeartbeats 200000000 in
theorem shredSplits_walk (eb es ek en : TypeId × Value) (t : Tr) (n : Nat) (hd : t.Dp n) (hn : n ≤ 1100000) (hs : t.Sm) (P PA PB : Nat → Prop) (ra : Option Addr) (rc : Nat) (A : List Dt) (aa : Option Addr) (ac : Nat) (B : List Dt) (ba : Option Addr) (bc : Nat) (at_ : Int) (W : World) (he : EC W eb es ek) (hen : W.cell? ⟨4, 0, none⟩ = some (.iface en.1 en.2)) (hl : LiesN W P ra t.sub) (hlA : LiesD W PA aa A) (hlB : LiesD W PB ba B) (hA1 : A.length ≤ 1048576) (hA2 : wtL A ≤ 1048576) (hA3 : ∀ j (h : j < A.length), A[j].Sm) (hB1 : B.length ≤ 1048576) (hB2 : wtL B ≤ 1048576) (hB3 : ∀ j (h : j < B.length), B[j].Sm) :
    Calls Tryd.prog 3 #[nodeV t ra rc, .slice aa A.length ac, .slice ba B.length bc, .int .i64 at_] W fun e w' => e = .returned (.bool true) ∧ Below W.heap.size W w' := by
  obtain ⟨id, hdi, hd0, hd1, hd2⟩ := info_parts Tryd.infoD
  obtain ⟨iv, hvi, hv0, hv1, hv2⟩ := info_parts Tryd.infoV
  obtain ⟨QF, ZF, hq⟩ := pick_ways t
  have HQ : Hid (vldN t = 0 → ∀ j (h : j < (lvsT t).length), LfG t (lvsT t)[j] (QF j) (ZF j)) := hq
  obtain ⟨w0, HW0, HX0, HB0⟩ := one_box W #[.int .i64 t.id, .string t.nm, .int .i64 t.rep, .int .i64 t.kind, .slice ra t.sub.length rc] 24
  have HEr : Hid (∀ X, Below W.heap.size W X → EC X eb es ek) := fun X hX => he.keep hX
  have HEn : Hid (∀ X, Below W.heap.size W X → X.cell? ⟨4, 0, none⟩ = some (.iface en.1 en.2)) := fun X hX => (hX.cell (World.block_lt_of_cell? W _ hen)).trans hen
  have HL : Hid (LiesN W P ra t.sub) := hl
  have HLA : Hid (LiesD W PA aa A) := hlA
  have HLB : Hid (LiesD W PB ba B) := hlB
  have HSm : Hid t.Sm := hs
  have HD : Hid (t.Dp n) := hd
  have HA3 : Hid (∀ j (h : j < A.length), A[j].Sm) := hA3
  have HB3s : Hid (∀ j (h : j < B.length), B[j].Sm) := hB3
  have HTw : Hid _ := twins_any eb es ek en w0 (he.keep HB0.out) ((HB0.out.cell (World.block_lt_of_cell? W _ hen)).trans hen)
  clear he hen hl hlA hlB hs hd hA3 hB3 hq
  unfold nodeV
  go_enter Tryd.func3, Tryd.ntmps3
  go_wp2_with fail
  rw [HW0.out]
  refine Calls.mono HTw.out ?_
  rintro e w1 ⟨rfl, hb1⟩
  have HB1 : Hid (Below W.heap.size W w1) := HB0.out.trans (hb1.mono HB0.out.size)
  have HX1 : Hid _ := blk_keep hb1 HX0.out
  clear hb1 HTw
  obtain ⟨⟨p0, p1, p2, p3, p4⟩, _⟩ := row_five HX1.out
  go_wp2_with fail
  refine Calls.mono (tame_any t HSm.out P ra rc w1 (HL.out.keep HB1.out)) ?_
  rintro e w2 ⟨rfl, hb2⟩
  have HB2 : Hid (Below W.heap.size W w2) := HB1.out.trans (hb2.mono HB1.out.size)
  have HX2 : Hid _ := blk_keep hb2 HX1.out
  clear hb2 p0 p1 p2 p3 p4
  obtain ⟨tm, HTm⟩ := hid_name (decide ((fl t).length ≤ 200 ∧ nmS (fl t) ≤ 4000))
  rw [HTm.out]
  cases tm with
  | false =>
    go_wp2
    go_ret
    exact ⟨rfl, HB2.out⟩
  | true =>
    go_wp2_with fail
    refine Calls.mono (light_any A hA1 hA2 HA3.out PA aa ac w2 (HLA.out.keep HB2.out)) ?_
    rintro e w3 ⟨rfl, hb3⟩
    have HB3 : Hid (Below W.heap.size W w3) := HB2.out.trans (hb3.mono HB2.out.size)
    have HX3 : Hid _ := blk_keep hb3 HX2.out
    clear hb3
    obtain ⟨la, HLa⟩ := hid_name (decide (A.length ≤ 150) && decide (wtL A ≤ 3000))
    rw [HLa.out]
    cases la with
    | false =>
      go_wp2
      go_ret
      exact ⟨rfl, HB3.out⟩
    | true =>
      have hA4 : wtL A ≤ 3000 := (by have := HLa.out; simp at this; exact this.2)
      go_wp2_with fail
      refine Calls.mono (light_any B hB1 hB2 HB3s.out PB ba bc w3 (HLB.out.keep HB3.out)) ?_
      rintro e w4 ⟨rfl, hb4⟩
      have HB4 : Hid (Below W.heap.size W w4) := HB3.out.trans (hb4.mono HB3.out.size)
      have HX4 : Hid _ := blk_keep hb4 HX3.out
      clear hb4
      obtain ⟨lb, HLb⟩ := hid_name (decide (B.length ≤ 150) && decide (wtL B ≤ 3000))
      rw [HLb.out]
      cases lb with
      | false =>
        go_wp2
        go_ret
        exact ⟨rfl, HB4.out⟩
      | true =>
        have hB4 : wtL B ≤ 3000 := (by have := HLb.out; simp at this; exact this.2)
        clear HLa HLb
        by_cases h100 : A.length + B.length ≤ 100
        rotate_left
        · have q1 : decide ((100 : Int) < (A.length : Int) + (B.length : Int)) = true := by rw [decide_eq_true_iff]; omega
          go_wp2
          go_ret
          exact ⟨rfl, HB4.out⟩
        have q1 : decide ((100 : Int) < (A.length : Int) + (B.length : Int)) = false := by rw [decide_eq_false_iff_not]; omega
        obtain ⟨⟨p0, p1, p2, p3, p4⟩, _⟩ := row_five HX4.out
        go_wp2_with fail
        refine Calls.mono (ownNode_any _ t (Nat.lt_succ_self _) HSm.out P ra rc w4 (HL.out.keep HB4.out)) ?_
        rintro e w5 ⟨⟨na5, nc5, rfl, hl5, hc5⟩, hb5⟩
        have HB5 : Hid (Below W.heap.size W w5) := HB4.out.trans (hb5.mono HB4.out.size)
        have HX5 : Hid _ := blk_keep hb5 HX4.out
        have HL5 : Hid (LiesN w5 (fun b => b < w5.heap.size) na5 t.sub) := hl5.stay (fun b _ h => h) (fun _ _ _ => rfl)
        clear hb5 hl5 p0 p1 p2 p3 p4 q1
        go_wp2_with fail
        refine Calls.mono (ownData_of A hA1 (fun j h => ownsD _ (HA3.out j h)) PA aa ac w5 (HLA.out.keep HB5.out)) ?_
        rintro e w6 ⟨⟨da6, dc6, rfl, hl6⟩, hb6⟩
        have HB6 : Hid (Below W.heap.size W w6) := HB5.out.trans (hb6.mono HB5.out.size)
        have HX6 : Hid _ := blk_keep hb6 HX5.out
        have HD6 : Hid (LiesD w6 (fun b => b < w6.heap.size) da6 A) := hl6.stay (fun b _ h => h) (fun _ _ _ => rfl)
        have HN6 : Hid (LiesN w6 (fun b => b < w6.heap.size) na5 t.sub) := HL5.out.stay (fun b _ h => Nat.lt_of_lt_of_le h hb6.size) (fun b _ h => hb6.block b h)
        clear hb6 hl6
        go_wp2_with fail
        refine Calls.mono (shred_any eb es ek en t n HD.out hn HSm.out QF ZF HQ.out A (by omega) HA3.out (by omega) na5 nc5 hc5 da6 dc6 w6 (HEr.out _ HB6.out) (HEn.out _ HB6.out) HN6.out HD6.out) ?_
        rintro e w7 ⟨⟨ov7, ev7, rfl, hsr7⟩, hb7⟩
        have HB7 : Hid (Below W.heap.size W w7) := HB6.out.trans (hb7.mono HB6.out.size)
        have HX7 : Hid _ := blk_keep hb7 HX6.out
        have HS7 : Hid (ShR t QF A w6.heap.size ov7 ev7 w7) := hsr7
        clear hb7 hsr7
        obtain ⟨⟨p0, p1, p2, p3, p4⟩, _⟩ := row_five HX7.out
        go_wp2_with fail
        refine Calls.mono (ownNode_any _ t (Nat.lt_succ_self _) HSm.out P ra rc w7 (HL.out.keep HB7.out)) ?_
        rintro e w8 ⟨⟨na8, nc8, rfl, hl8, hc8⟩, hb8⟩
        have HB8 : Hid (Below W.heap.size W w8) := HB7.out.trans (hb8.mono HB7.out.size)
        have HX8 : Hid _ := blk_keep hb8 HX7.out
        have HL8 : Hid (LiesN w8 (fun b => b < w8.heap.size) na8 t.sub) := hl8.stay (fun b _ h => h) (fun _ _ _ => rfl)
        have HS8 : Hid (ShR t QF A w6.heap.size ov7 ev7 w8) := HS7.out.keep hb8
        clear hb8 hl8 p0 p1 p2 p3 p4 HS7
        go_wp2_with fail
        refine Calls.mono (ownData_of B hB1 (fun j h => ownsD _ (HB3s.out j h)) PB ba bc w8 (HLB.out.keep HB8.out)) ?_
        rintro e w9 ⟨⟨da9, dc9, rfl, hl9⟩, hb9⟩
        have HB9 : Hid (Below W.heap.size W w9) := HB8.out.trans (hb9.mono HB8.out.size)
        have HX9 : Hid _ := blk_keep hb9 HX8.out
        have HD9 : Hid (LiesD w9 (fun b => b < w9.heap.size) da9 B) := hl9.stay (fun b _ h => h) (fun _ _ _ => rfl)
        have HN9 : Hid (LiesN w9 (fun b => b < w9.heap.size) na8 t.sub) := HL8.out.stay (fun b _ h => Nat.lt_of_lt_of_le h hb9.size) (fun b _ h => hb9.block b h)
        have HS9 : Hid (ShR t QF A w6.heap.size ov7 ev7 w9) := HS8.out.keep hb9
        clear HS8
        clear hb9 hl9
        go_wp2_with fail
        refine Calls.mono (shred_any eb es ek en t n HD.out hn HSm.out QF ZF HQ.out B (by omega) HB3s.out (by omega) na8 nc8 hc8 da9 dc9 w9 (HEr.out _ HB9.out) (HEn.out _ HB9.out) HN9.out HD9.out) ?_
        rintro e w10 ⟨⟨ov10, ev10, rfl, hsr10⟩, hb10⟩
        have HB10 : Hid (Below W.heap.size W w10) := HB9.out.trans (hb10.mono HB9.out.size)
        have HX10 : Hid _ := blk_keep hb10 HX9.out
        have HS10 : Hid (ShR t QF B w9.heap.size ov10 ev10 w10) := hsr10
        have HS10a : Hid (ShR t QF A w6.heap.size ov7 ev7 w10) := HS9.out.keep hb10
        clear HS9
        clear hb10 hsr10
        go_wp2_with fail
        refine Calls.mono (ownData_row A hA1 (fun j h => ownsD _ (HA3.out j h)) PA aa ac w10 (HLA.out.keep HB10.out)) ?_
        rintro e w11 ⟨⟨a11, c11, n11, rfl, hod11⟩, hb11⟩
        have HB11 : Hid (Below W.heap.size W w11) := HB10.out.trans (hb11.mono HB10.out.size)
        have HO11 : Hid (OD w10 A w11 A.length (.slice a11 A.length c11) n11) := hod11
        clear hb11 hod11
        go_wp2_with fail
        refine Calls.mono (ownData_row B hB1 (fun j h => ownsD _ (HB3s.out j h)) PB ba bc w11 (HLB.out.keep HB11.out)) ?_
        rintro e w12 ⟨⟨a12, c12, n12, rfl, hod12⟩, hb12⟩
        have HO12 : Hid (OD w11 B w12 B.length (.slice a12 B.length c12) n12) := hod12
        have HR12 : Hid (w12.ownsRow w10.heap.size 55 6 (.slice a11 A.length c11) A.length n11.flatten) := ow_kept HO11.out.row hb12
        have hsz12 : w10.heap.size ≤ w12.heap.size := Nat.le_trans HO11.out.old.size hb12.size
        clear hb12 hod12
        go_wp2_with (at_builtin; refine wpList_append_any w12 rfl _ _ 25 rfl w10.heap.size 55 id (.agg #[.bool false, .int .i64 0, .int .i64 0, .string ⟨#[]⟩, .slice none 0 0, .slice none 0 0]) 6 88 Tryd.underlying25 hdi hd0 hd1 hd2 rfl (by decide) _ A.length n11.flatten rfl HR12.out a12 B.length c12 n12.flatten rfl HO12.out.cells.1 HO12.out.cells.2.1 HO12.out.cells.2.2 (by unfold maxLen; omega) (by omega) hsz12 ?_; intro l13 w13 hown13 hgrow13 hw13; have HO13 : Hid (OD w10 (A ++ B) w13 (A ++ B).length l13 (n11 ++ n12)) := OD.append HO11.out HO12.out hown13 hgrow13 hw13; obtain ⟨a13, c13, rfl⟩ := HO13.out.shape; have hb13 : Below w10.heap.size w10 w13 := HO13.out.old; have HB13 : Hid (Below W.heap.size W w13) := HB10.out.trans (hb13.mono HB10.out.size); have HX13 : Hid _ := blk_keep hb13 HX10.out; have HSa : Hid (ShR t QF A w6.heap.size ov7 ev7 w13) := HS10a.out.keep hb13; have HSb : Hid (ShR t QF B w9.heap.size ov10 ev10 w13) := HS10.out.keep hb13; clear hown13 hgrow13 hw13 hb13 HS10a HS10 HO11 HO12 HR12 hsz12; obtain ⟨⟨p0, p1, p2, p3, p4⟩, _⟩ := row_five HX13.out)
        refine Calls.mono (ownNode_any _ t (Nat.lt_succ_self _) HSm.out P ra rc w13 (HL.out.keep HB13.out)) ?_
        rintro e w14 ⟨⟨na14, nc14, rfl, hl14, hc14⟩, hb14⟩
        have HB14 : Hid (Below W.heap.size W w14) := HB13.out.trans (hb14.mono HB13.out.size)
        have HX14 : Hid _ := blk_keep hb14 HX13.out
        have HL14 : Hid (LiesN w14 (fun b => b < w14.heap.size) na14 t.sub) := hl14.stay (fun b _ h => h) (fun _ _ _ => rfl)
        have HD14 : Hid (LiesD w14 (fun b => b < w14.heap.size) a13 (A ++ B)) := (HO13.out.lies.keep hb14).stay (fun b _ h => h) (fun _ _ _ => rfl)
        have HSa14 : Hid (ShR t QF A w6.heap.size ov7 ev7 w14) := HSa.out.keep hb14
        have HSb14 : Hid (ShR t QF B w9.heap.size ov10 ev10 w14) := HSb.out.keep hb14
        have HABs : Hid (∀ j (h : j < (A ++ B).length), (A ++ B)[j].Sm) := (fun j h => by
          by_cases hj : j < A.length
          · rw [List.getElem_append_left hj]; exact HA3.out j hj
          · rw [List.getElem_append_right (by omega)]; exact HB3s.out _ (by rw [List.length_append] at h; omega))
        have HABw : Hid (wtL (A ++ B) ≤ 6000) := (by show _ ≤ _; rw [wtL_app]; omega)
        have hC15 := shred_any eb es ek en t n HD.out hn HSm.out QF ZF HQ.out (A ++ B) (by rw [List.length_append]; omega) HABs.out (Nat.le_trans HABw.out (by omega)) na14 nc14 hc14 a13 c13 w14 (HEr.out _ HB14.out) (HEn.out _ HB14.out) HL14.out HD14.out
        rw [List.length_append] at hC15
        have HC15 : Hid _ := hC15
        clear hb14 hl14 hC15 HSa HSb HO13 p0 p1 p2 p3 p4
        go_wp2_with fail
        refine Calls.mono HC15.out ?_
        rintro e w15 ⟨⟨ov15, ev15, rfl, hsr15⟩, hb15⟩
        have HB15 : Hid (Below W.heap.size W w15) := HB14.out.trans (hb15.mono HB14.out.size)
        have HX15 : Hid _ := blk_keep hb15 HX14.out
        have HD15 : Hid (LiesD w15 (fun b => b < w15.heap.size) a13 (A ++ B)) := (HD14.out.keep hb15).stay (fun b _ h => h) (fun _ _ _ => rfl)
        have HSa15 : Hid (ShR t QF A w6.heap.size ov7 ev7 w15) := HSa14.out.keep hb15
        have HSb15 : Hid (ShR t QF B w9.heap.size ov10 ev10 w15) := HSb14.out.keep hb15
        have HSz15 : Hid (ShR t QF (A ++ B) w14.heap.size ov15 ev15 w15) := hsr15
        clear hb15 hsr15 HC15 HSa14 HSb14
        obtain ⟨ca, cn, cc, rfl⟩ := HSa15.out.sl
        obtain ⟨ca2, cn2, cc2, rfl⟩ := HSb15.out.sl
        obtain ⟨ca3, cn3, cc3, rfl⟩ := HSz15.out.sl
        rcases shR_cases HSa15.out with ⟨ty1, v1, _, rfl⟩ | ⟨rfl, hv1, hk1, xa, xc, kx, ex, htx⟩
        · go_wp2
          go_ret
          exact ⟨rfl, HB15.out⟩
        rcases shR_cases HSb15.out with ⟨ty1, v1, _, rfl⟩ | ⟨rfl, _, hk2, ya, yc, ky, ey, hty⟩
        · go_wp2
          go_ret
          exact ⟨rfl, HB15.out⟩
        rcases shR_cases HSz15.out with ⟨ty1, v1, _, rfl⟩ | ⟨rfl, _, hk3, za, zc, kz, ez, htz⟩
        · go_wp2
          go_ret
          exact ⟨rfl, HB15.out⟩
        injection ex with ex1 ex2 ex3
        injection ey with ey1 ey2 ey3
        injection ez with ez1 ez2 ez3
        subst ex1 ex2 ex3 ey1 ey2 ey3 ez1 ez2 ez3
        have HTx : Hid (Trio t QF A w15 ca kx) := htx
        have HTy : Hid (Trio t QF B w15 ca2 ky) := hty
        have HTz : Hid (Trio t QF (A ++ B) w15 ca3 kz) := htz
        rw [htx.len, hty.len, htz.len]
        have HV : Hid (vldN t = 0) := hv1
        have HKA : Hid (∀ d ∈ A ++ B, chk true t d = 0) := hk3
        have hrt := right_parts hv1
        have hk0 : t.kind = 0 := (of_decide_eq_true hrt.2.1).2.2.2
        have HLo : Hid _ := leavesOf_any t HSm.out hrt.1 P ra rc w15 (HL.out.keep HB15.out)
        rw [← lvs_right t hk0] at HLo
        have hll := lvs_len hv1
        obtain ⟨ls, HLs⟩ := hid_name (lvsT t)
        rw [HLs.out] at HLo hll ⊢
        clear hv1 hk1 hk2 hk3 htx hty htz hrt hk0 HSa15 HSb15 HSz15
        obtain ⟨⟨p0, p1, p2, p3, p4⟩, _⟩ := row_five HX15.out
        unfold nodeV at HLo
        go_wp2_with fail
        refine Calls.mono HLo.out ?_
        rintro e w16 ⟨⟨lv, rfl, hlv⟩, hb16⟩
        have HB16 : Hid (Below W.heap.size W w16) := HB15.out.trans (hb16.mono HB15.out.size)
        have HX16 : Hid _ := blk_keep hb16 HX15.out
        have HD16 : Hid (LiesD w16 (fun b => b < w16.heap.size) a13 (A ++ B)) := (HD15.out.keep hb16).stay (fun b _ h => h) (fun _ _ _ => rfl)
        have HTx16 : Hid _ := HTx.out.keep hb16
        have HTy16 : Hid _ := HTy.out.keep hb16
        have HTz16 : Hid _ := HTz.out.keep hb16
        have HLv16 : Hid (LvX 47 w16 w15.heap.size lv ls) := hlv
        obtain ⟨la, lc, rfl⟩ : ∃ la lc, lv = .slice la ls.length lc := (by obtain ⟨pvs, _, h2, _⟩ := hlv; exact own_sl h2)
        clear hb16 hlv HLo HTx HTy HTz HD15 p0 p1 p2 p3 p4
        clear HX15 HB15
        go_wp2_with fail
        go_loopw [18] (fun x wr => ∃ i : Nat, i ≤ ls.length ∧ x = .int .i64 i ∧ Hid (Below w16.heap.size w16 wr)) (fun x _ => ls.length - (intOf x).toNat)
        case atStart => exact ⟨0, Nat.zero_le _, rfl, Below.refl _ _⟩
        case round =>
          obtain ⟨i, hik, rfl, HBr⟩ := hrel
          by_cases hlt : i < ls.length
          rotate_left
          · obtain rfl : i = ls.length := by omega
            go_wp2
            go_ret
            exact ⟨rfl, HB16.out.trans (HBr.out.mono HB16.out.size)⟩
          have hilv : i < (lvsT t).length := by rw [HLs.out]; exact hlt
          have h1 : i < kx.length := by rw [HTx16.out.len]; exact hilv
          have h2 : i < ky.length := by rw [HTy16.out.len]; exact hilv
          have h3 : i < kz.length := by rw [HTz16.out.len]; exact hilv
          have hF := trio_at HTx16.out HTy16.out HTz16.out HKA.out HABw.out i hilv (HQ.out HV.out i hilv) h1 h2 h3
          have HGf : Hid (LfG t (lvsT t)[i] (QF i) (ZF i)) := HQ.out HV.out i hilv
          obtain ⟨⟨xb, xo, hxa, x0, x1, x2, x3⟩, hxat⟩ := (HTx16.out.keep HBr.out).lies i h1
          obtain ⟨⟨yb, yo, hya, y0, y1, y2, y3⟩, hyat⟩ := (HTy16.out.keep HBr.out).lies i h2
          obtain ⟨⟨zb, zo, hza, z0, z1, z2, z3⟩, hzat⟩ := (HTz16.out.keep HBr.out).lies i h3
          obtain ⟨lg, pa, pc, hla, l0, l1, l2, l3, l4, hpl, hpm⟩ := (HLv16.out.keep HBr.out).at_ i hlt
          subst hxa hya hza hla
          have ef : (lvsT t)[i] = ls[i] := by simp only [HLs.out]
          have ef0 := ef
          rw [ef] at hF HGf
          obtain ⟨KX, HXn⟩ := hid_name kx[i]
          obtain ⟨Y, HYn⟩ := hid_name ky[i]
          obtain ⟨Z, HZn⟩ := hid_name kz[i]
          obtain ⟨f, HFn⟩ := hid_name ls[i]
          rw [HXn.out] at x0 x1 x2 x3 hxat hF
          rw [HYn.out] at y0 y1 y2 y3 hyat hF
          rw [HZn.out] at z0 z1 z2 z3 hzat hF
          rw [HFn.out] at l0 l1 l2 l3 l4 hpl hpm hF HGf
          obtain ⟨q, HQn⟩ := hid_name (QF i)
          rw [HQn.out] at hF HGf
          have HF : Hid (TrF t f q (A ++ B).length (A ++ B) KX Y Z) := hF
          have HXA : Hid (KX.At wr) := hxat
          have HYA : Hid (Y.At wr) := hyat
          have HZA : Hid (Z.At wr) := hzat
          have HPl : Hid (Lies wr pa (i64s f.path)) := hpl
          have HPm : Hid (f.path.length ≤ 40) := (by show _ ≤ _; rw [HGf.out.w.path, List.length_map]; exact HGf.out.len)
          have HFi : Hid (∃ h : i < (lvsT t).length, (lvsT t)[i] = f) := ⟨hilv, by rw [ef0, HFn.out]⟩
          have HRt : Hid (isRootB t = true) := (right_parts HV.out).2.1
          clear hF hxat hyat hzat hpl hpm ef ef0 HXn HYn HZn HFn HQn h1 h2 h3
          go_upto_region 17 with fail
          go_cut [19, 20] (fun x y wx => ∃ (k : Cl) (g : Nat), x = .pointer (some ⟨g, 0, none⟩) ∧ y = .nilIface ∧ Hid (wr.heap.size ≤ g) ∧ Hid (Below wr.heap.size wr wx) ∧ Hid (wx.heap[g]? = some (.cells #[.int .i64 k.id, .slice k.ra k.rs.length k.rc, .slice k.da k.ds.length k.dc, .slice k.va k.vs.length k.vc] 41 (0, 0))) ∧ Hid (k.At wx) ∧ Hid (k.id = f.id ∧ k.rs = Z.rs ∧ k.ds = Z.ds ∧ k.vs = Z.vs))
          case first =>
            have HO1 : Hid (∀ X, Below wr.heap.size wr X → Calls Tryd.prog 12 #[.agg #[.int .i64 f.id, .int .i64 f.kind, .int .i64 (f.mr : Nat), .int .i64 (f.md : Nat), .slice pa f.path.length pc]] X fun e w' => (∃ pa' pc', e = .returned (.agg #[.int .i64 f.id, .int .i64 f.kind, .int .i64 (f.mr : Nat), .int .i64 (f.md : Nat), .slice pa' f.path.length pc'])) ∧ Below wr.heap.size wr w' ∧ Below X.heap.size X w') := fun X hX => (ownLeaf_any f.id f.kind (f.mr : Nat) (f.md : Nat) pa pc f.path X (by have := HPm.out; omega) (HPl.out.keep hX)).mono fun e w' h => ⟨(by obtain ⟨⟨pa', pc', h1, _⟩, _⟩ := h; exact ⟨pa', pc', h1⟩), bel_next hX (Nat.le_refl _) h.2, h.2⟩
            have HOJ : Hid (∀ X g pa' pc', Below wr.heap.size wr X → X.heap[g]? = some (.cells #[.int .i64 KX.id, .slice KX.ra KX.rs.length KX.rc, .slice KX.da KX.ds.length KX.dc, .slice KX.va KX.vs.length KX.vc, .int .i64 Y.id, .slice Y.ra Y.rs.length Y.rc, .slice Y.da Y.ds.length Y.dc, .slice Y.va Y.vs.length Y.vc] 41 (0, 0)) → Calls Tryd.prog 11 #[.agg #[.int .i64 f.id, .int .i64 f.kind, .int .i64 (f.mr : Nat), .int .i64 (f.md : Nat), .slice pa' f.path.length pc'], .slice (some ⟨g, 0, none⟩) 2 2] X fun e w' => (∃ k : Cl, e = .returned (.tuple #[.agg #[.int .i64 k.id, .slice k.ra k.rs.length k.rc, .slice k.da k.ds.length k.dc, .slice k.va k.vs.length k.vc], .nilIface]) ∧ k.At w' ∧ k.Fr X.heap.size ∧ k.id = f.id ∧ k.rs = Z.rs ∧ k.ds = Z.ds ∧ k.vs = Z.vs) ∧ Below wr.heap.size wr w' ∧ Below X.heap.size X w') := fun X g pa' pc' hX hg => (by
              have hb := HB16.out.trans ((HBr.out.trans (hX.mono HBr.out.size)).mono HB16.out.size)
              have hE := HEr.out X hb
              have lr := HF.out.lr
              have ld := HF.out.ld
              have lv := HF.out.lv
              rw [HF.out.rs, List.length_append] at lr
              rw [HF.out.ds, List.length_append] at ld
              rw [HF.out.vs, List.length_append] at lv
              exact (join_good f.id f.kind (f.mr : Nat) (f.md : Nat) pa' f.path.length pc' g _ KX Y X _ _ _ _ _ _ HF.out.gx HF.out.gy (by omega) (by omega) (by omega) hE.s hE.k hE.b (HXA.out.keep hX) (HYA.out.keep hX) hg).mono fun e w' h => ⟨(by obtain ⟨⟨k, h1, h2, h3, _, h4, h5, h6, h7⟩, _⟩ := h; exact ⟨k, h1, h2, h3, h4, by rw [h5, HF.out.rs], by rw [h6, HF.out.ds], by rw [h7, HF.out.vs]⟩), bel_next hX (Nat.le_refl _) h.2, h.2⟩)
            have b0 : Below wr.heap.size wr wr := Below.refl _ _
            have HN : Hid (∀ X, Below wr.heap.size wr X → (X.cell? ⟨lg, i * 5, none⟩ = some (.int .i64 f.id) ∧ X.cell? ⟨lg, i * 5 + 1, none⟩ = some (.int .i64 f.kind) ∧ X.cell? ⟨lg, i * 5 + 2, none⟩ = some (.int .i64 (f.mr : Nat)) ∧ X.cell? ⟨lg, i * 5 + 3, none⟩ = some (.int .i64 (f.md : Nat)) ∧ X.cell? ⟨lg, i * 5 + 4, none⟩ = some (.slice pa f.path.length pc)) ∧ (X.cell? ⟨xb, xo + i * 4, none⟩ = some (.int .i64 KX.id) ∧ X.cell? ⟨xb, xo + i * 4 + 1, none⟩ = some (.slice KX.ra KX.rs.length KX.rc) ∧ X.cell? ⟨xb, xo + i * 4 + 2, none⟩ = some (.slice KX.da KX.ds.length KX.dc) ∧ X.cell? ⟨xb, xo + i * 4 + 3, none⟩ = some (.slice KX.va KX.vs.length KX.vc)) ∧ (X.cell? ⟨yb, yo + i * 4, none⟩ = some (.int .i64 Y.id) ∧ X.cell? ⟨yb, yo + i * 4 + 1, none⟩ = some (.slice Y.ra Y.rs.length Y.rc) ∧ X.cell? ⟨yb, yo + i * 4 + 2, none⟩ = some (.slice Y.da Y.ds.length Y.dc) ∧ X.cell? ⟨yb, yo + i * 4 + 3, none⟩ = some (.slice Y.va Y.vs.length Y.vc)) ∧ Below wr.heap.size wr X) := fun X hX => (by
              have kk : ∀ (ad : Addr) (u : Value), wr.cell? ad = some u → X.cell? ad = some u := fun ad u h => (hX.cell (World.block_lt_of_cell? wr _ h)).trans h
              exact ⟨⟨kk _ _ l0, kk _ _ l1, kk _ _ l2, kk _ _ l3, kk _ _ l4⟩, ⟨kk _ _ x0, kk _ _ x1, kk _ _ x2, kk _ _ x3⟩, ⟨kk _ _ y0, kk _ _ y1, kk _ _ y2, kk _ _ y3⟩, hX⟩)
            refine reg17_any KX Y Z f lg pa pc xb xo _ yb yo _ _ _ i wr hlt HO1 HOJ HN (fun k g _ _ _ _ _ _ _ _ _ _ _ _ _ _ _ _ _ _ X fg fb fx fk fe => ?_)
            go_wp2_with fail
            go_meet
            exact ⟨k, g, rfl, rfl, fg, fb, fx, fk, fe⟩
          case rest =>
            obtain ⟨k, gk, rfl, rfl, HGk, HBj, HJb, HJA, HJq⟩ := hcut
            rename World => w17
            have HBw : Hid (Below w16.heap.size w16 w17) := HBr.out.trans (HBj.out.mono HBr.out.size)
            have kk : ∀ (ad : Addr) (u : Value), wr.cell? ad = some u → w17.cell? ad = some u := fun ad u h => (HBj.out.cell (World.block_lt_of_cell? wr _ h)).trans h
            have c0 := kk _ _ z0
            have c1 := kk _ _ z1
            have c2 := kk _ _ z2
            have c3 := kk _ _ z3
            have m0 := kk _ _ l0
            have m1 := kk _ _ l1
            have m2 := kk _ _ l2
            have m3 := kk _ _ l3
            have m4 := kk _ _ l4
            have HZA7 : Hid (Z.At w17) := HZA.out.keep HBj.out
            have HPl7 : Hid (Lies w17 pa (i64s f.path)) := HPl.out.keep HBj.out
            have HWR : Hid (∀ X, Below wr.heap.size wr X → (X.cell? ⟨lg, i * 5, none⟩ = some (.int .i64 f.id) ∧ X.cell? ⟨lg, i * 5 + 1, none⟩ = some (.int .i64 f.kind) ∧ X.cell? ⟨lg, i * 5 + 2, none⟩ = some (.int .i64 (f.mr : Nat)) ∧ X.cell? ⟨lg, i * 5 + 3, none⟩ = some (.int .i64 (f.md : Nat)) ∧ X.cell? ⟨lg, i * 5 + 4, none⟩ = some (.slice pa f.path.length pc)) ∧ (X.cell? ⟨zb, zo + i * 4, none⟩ = some (.int .i64 Z.id) ∧ X.cell? ⟨zb, zo + i * 4 + 1, none⟩ = some (.slice Z.ra Z.rs.length Z.rc) ∧ X.cell? ⟨zb, zo + i * 4 + 2, none⟩ = some (.slice Z.da Z.ds.length Z.dc) ∧ X.cell? ⟨zb, zo + i * 4 + 3, none⟩ = some (.slice Z.va Z.vs.length Z.vc)) ∧ Z.At X ∧ Lies X pa (i64s f.path) ∧ Below w16.heap.size w16 X) := fun X hX => (by
              have k' : ∀ (ad : Addr) (u : Value), wr.cell? ad = some u → X.cell? ad = some u := fun ad u h => (hX.cell (World.block_lt_of_cell? wr _ h)).trans h
              exact ⟨⟨k' _ _ l0, k' _ _ l1, k' _ _ l2, k' _ _ l3, k' _ _ l4⟩, ⟨k' _ _ z0, k' _ _ z1, k' _ _ z2, k' _ _ z3⟩, HZA.out.keep hX, HPl.out.keep hX, HBr.out.trans (hX.mono HBr.out.size)⟩)
            have HQ17 : Hid (Below wr.heap.size wr w17) := HBj.out
            clear kk x0 x1 x2 x3 y0 y1 y2 y3 z0 z1 z2 z3 l0 l1 l2 l3 l4 HXA HYA HZA HPl HBj
            obtain ⟨j0, j1, j2, j3⟩ := row_four HJb.out
            have HSC : Hid (Calls Tryd.prog 13 #[.agg #[.int .i64 k.id, .slice k.ra k.rs.length k.rc, .slice k.da k.ds.length k.dc, .slice k.va k.vs.length k.vc], .agg #[.int .i64 Z.id, .slice Z.ra Z.rs.length Z.rc, .slice Z.da Z.ds.length Z.dc, .slice Z.va Z.vs.length Z.vc]] w17.drew fun e w' => e = .returned (.bool true) ∧ Below w17.heap.size w17 w') := (by
              have lr := HF.out.lr
              have ld := HF.out.ld
              have lv := HF.out.lv
              obtain ⟨e0, e1, e2, e3⟩ := HJq.out
              have hA := HJA.out.keep (Below.refl _ _).drew
              have hZ := HZA7.out.keep (Below.refl _ _).drew
              refine (sameColumn_any k.id Z.id k.ra Z.ra k.da Z.da k.va Z.va k.rc Z.rc k.dc Z.dc k.vc Z.vc k.rs Z.rs k.ds Z.ds k.vs Z.vs w17.drew (by rw [e1]; unfold maxLen; omega) (by rw [e2]; unfold maxLen; omega) (by rw [e3]; unfold maxLen; omega) hA.r hZ.r hA.d hZ.d hA.v hZ.v).mono ?_
              rintro e w' ⟨⟨b, rfl, hb⟩, hb'⟩
              have hbt : b = true := hb.2 ⟨by rw [e0, HF.out.id], e1, e2, e3⟩
              exact ⟨by rw [hbt], (Below.refl _ _).drew.trans hb'⟩)
            have HCt : Hid (∀ X, Below w17.heap.size w17 X → Calls Tryd.prog 14 #[.agg #[.int .i64 Z.id, .slice Z.ra Z.rs.length Z.rc, .slice Z.da Z.ds.length Z.dc, .slice Z.va Z.vs.length Z.vc]] X fun e w' => e = .returned (.int .i64 ((A.length + B.length : Nat) : Int)) ∧ Below X.heap.size X w') := fun X hX => (by
              have h := count_any Z.id Z.ra Z.rs Z.rc Z.da Z.ds.length Z.dc Z.va Z.vs.length Z.vc (by have := HF.out.lr; omega) X (HZA7.out.keep hX).r
              rw [HF.out.cnt, List.length_append] at h
              exact h)
            go_upto_region 18 with fail
            go_cut [161] (fun x wx => x = .bool false ∧ Hid (Below w17.heap.size w17 wx))
            case first => as_aux_lemma =>
              have b0 : Below w17.heap.size w17 w17 := Below.refl _ _
              have HN : Hid (∀ X, Below w17.heap.size w17 X → (X.cell? ⟨gk, 0, none⟩ = some (.int .i64 k.id) ∧ X.cell? ⟨gk, 1, none⟩ = some (.slice k.ra k.rs.length k.rc) ∧ X.cell? ⟨gk, 2, none⟩ = some (.slice k.da k.ds.length k.dc) ∧ X.cell? ⟨gk, 3, none⟩ = some (.slice k.va k.vs.length k.vc)) ∧ (X.cell? ⟨zb, zo + i * 4, none⟩ = some (.int .i64 Z.id) ∧ X.cell? ⟨zb, zo + i * 4 + 1, none⟩ = some (.slice Z.ra Z.rs.length Z.rc) ∧ X.cell? ⟨zb, zo + i * 4 + 2, none⟩ = some (.slice Z.da Z.ds.length Z.dc) ∧ X.cell? ⟨zb, zo + i * 4 + 3, none⟩ = some (.slice Z.va Z.vs.length Z.vc)) ∧ Below w17.heap.size w17 X) := fun X hX => (by
                have kk : ∀ (ad : Addr) (u : Value), w17.cell? ad = some u → X.cell? ad = some u := fun ad u h => (hX.cell (World.block_lt_of_cell? w17 _ h)).trans h
                exact ⟨⟨kk _ _ j0, kk _ _ j1, kk _ _ j2, kk _ _ j3⟩, ⟨kk _ _ c0, kk _ _ c1, kk _ _ c2, kk _ _ c3⟩, hX⟩)
              go_region_held3 (fun X => (X.cell? ⟨gk, 0, none⟩ = some (.int .i64 k.id) ∧ X.cell? ⟨gk, 1, none⟩ = some (.slice k.ra k.rs.length k.rc) ∧ X.cell? ⟨gk, 2, none⟩ = some (.slice k.da k.ds.length k.dc) ∧ X.cell? ⟨gk, 3, none⟩ = some (.slice k.va k.vs.length k.vc)) ∧ (X.cell? ⟨zb, zo + i * 4, none⟩ = some (.int .i64 Z.id) ∧ X.cell? ⟨zb, zo + i * 4 + 1, none⟩ = some (.slice Z.ra Z.rs.length Z.rc) ∧ X.cell? ⟨zb, zo + i * 4 + 2, none⟩ = some (.slice Z.da Z.ds.length Z.dc) ∧ X.cell? ⟨zb, zo + i * 4 + 3, none⟩ = some (.slice Z.va Z.vs.length Z.vc)) ∧ Below w17.heap.size w17 X) (with_reducible refine HN.out _ ?_; repeat' (first | with_reducible assumption | with_reducible exact b0.drew | with_reducible exact b0 | with_reducible refine Below.drew ?_ | with_reducible exact Nat.le_refl _ | with_reducible refine Below.setCell ?_ ?_ _ | with_reducible refine Below.alloc ?_ ?_ _ | with_reducible exact Below.size (by assumption) | (simp; done) | (simp; omega) | omega)) (first
                | (go_at_call 13; refine Calls.mono HSC.out ?_; rintro e x1' ⟨rfl, hbx1⟩)
                | (go_at_call 14; (with_reducible refine Calls.mono (HCt.out _ ?_) ?_); (first | with_reducible assumption | with_reducible exact b0.drew); rintro e x2' ⟨rfl, hbx2'⟩; have hbx2 : Below w17.heap.size w17 x2' := hbx1.trans (hbx2'.mono hbx1.size)))
              all_goals
                go_wp2_with fail
                go_meet
                exact ⟨by simp, by first | exact hbx2 | exact hbx1⟩
            case rest =>
              obtain ⟨rfl, HBq⟩ := hcut
              rename World => w18
              have HBw18 : Hid (Below w16.heap.size w16 w18) := HBw.out.trans (HBq.out.mono HBw.out.size)
              have HQ18 : Hid _ := HQ17.out.trans (HBq.out.mono HQ17.out.size)
              have HX18 : Hid _ := blk_keep HBw18.out HX16.out
              have HZA8 : Hid (Z.At w18) := HZA7.out.keep HBq.out
              have HPl8 : Hid (Lies w18 pa (i64s f.path)) := HPl7.out.keep HBq.out
              have HJb8 : Hid _ := blk_keep HBq.out HJb.out
              have HD18 : Hid (LiesD w18 (fun b => b < w16.heap.size) a13 (A ++ B)) := HD16.out.keep HBw18.out
              have n0 := (HBq.out.cell (World.block_lt_of_cell? w17 _ m0)).trans m0
              have n1 := (HBq.out.cell (World.block_lt_of_cell? w17 _ m1)).trans m1
              have n2 := (HBq.out.cell (World.block_lt_of_cell? w17 _ m2)).trans m2
              have n3 := (HBq.out.cell (World.block_lt_of_cell? w17 _ m3)).trans m3
              have n4 := (HBq.out.cell (World.block_lt_of_cell? w17 _ m4)).trans m4
              have d0 := (HBq.out.cell (World.block_lt_of_cell? w17 _ c0)).trans c0
              have d1 := (HBq.out.cell (World.block_lt_of_cell? w17 _ c1)).trans c1
              have d2 := (HBq.out.cell (World.block_lt_of_cell? w17 _ c2)).trans c2
              have d3 := (HBq.out.cell (World.block_lt_of_cell? w17 _ c3)).trans c3
              clear HSC HCt j0 j1 j2 j3 m0 m1 m2 m3 m4 c0 c1 c2 c3 HJA HJq HJb HZA7 HPl7
              have HN8 : Hid (w18.cell? ⟨lg, i * 5, none⟩ = some (.int .i64 f.id)) := n0
              go_wp2_with fail
              go_loopw [21, 22] (fun lv x wr => ∃ kk : Nat, kk ≤ A.length + B.length ∧ x = .int .i64 kk ∧ Hid (VsR wr w18.heap.size lv (((A ++ B).take kk).flatMap (vo t q))) ∧ Hid (Below w18.heap.size w18 wr)) (fun _ x _ => A.length + B.length - (intOf x).toNat)
              case atStart => exact ⟨0, Nat.zero_le _, rfl, (by show VsR _ _ _ _; rw [List.take_zero]; exact World.ownsRow_nil _ _ _ _), Below.refl _ _⟩
              case round =>
                obtain ⟨kk, hkk, rfl, HVr, HBs⟩ := hrel
                obtain ⟨xs, HXS⟩ := hid_name (((A ++ B).take kk).flatMap (vo t q))
                rw [HXS.out] at HVr
                obtain ⟨va, vc, rfl⟩ := own_sl HVr.out
                by_cases hkl : kk < A.length + B.length
                · have hkl2 : kk < (A ++ B).length := by rw [List.length_append]; exact hkl
                  obtain ⟨db, dof, al, cl, af, cf, hda, ⟨t0, t1, t2, t3, t4, t5⟩, hdl, hdf⟩ := (HD18.out.keep HBs.out).at_ kk hkl2
                  subst hda
                  have hdm := List.getElem_mem hkl2
                  obtain ⟨d, HDn⟩ := hid_name (A ++ B)[kk]
                  rw [HDn.out] at t0 t1 t2 t3 t4 t5 hdl hdf hdm
                  have hds : d.Sm := (by rw [← HDn.out]; exact HABs.out kk hkl2)
                  have hdc : chk true t d = 0 := HKA.out d hdm
                  have HON1 : Hid ((ons t d).flatMap (vo t q) = vo t q d) := ons_one HRt.out hdc q
                  have HVL : Hid ((((A ++ B).take (kk + 1)).flatMap (vo t q)) = xs ++ vo t q d) := (by show _ = _; rw [flat_take (vo t q) (A ++ B) kk hkl2, HDn.out, HXS.out])
                  have HVM : Hid (xs.length + (vo t q d).length ≤ 6000) := (by
                    show _ ≤ _
                    have h1 := flat_part (vo t q) (A ++ B) (kk + 1)
                    rw [HVL.out, List.length_append] at h1
                    have h2 := HF.out.lv
                    rw [HF.out.walk] at h2
                    omega)
                  have HBT : Hid (∀ X, Below wr.heap.size wr X → Below W.heap.size W X) := fun X hX => HB16.out.trans ((HBw18.out.trans ((HBs.out.trans (hX.mono HBs.out.size)).mono HBw18.out.size)).mono HB16.out.size)
                  have HX20 : Hid _ := blk_keep HBs.out HX18.out
                  obtain ⟨⟨p0, p1, p2, p3, p4⟩, _⟩ := row_five HX20.out
                  have n0' := (HBs.out.cell (World.block_lt_of_cell? w18 _ HN8.out)).trans HN8.out
                  have HC1 : Hid (∀ X, Below wr.heap.size wr X → Calls Tryd.prog 8 #[.agg #[.int .i64 t.id, .string t.nm, .int .i64 t.rep, .int .i64 t.kind, .slice ra t.sub.length rc]] X fun e w' => (∃ a' c', e = .returned (.agg #[.int .i64 t.id, .string t.nm, .int .i64 t.rep, .int .i64 t.kind, .slice a' t.sub.length c']) ∧ LiesN w' (fun _ => True) a' t.sub ∧ t.sub.length ≤ c') ∧ Below wr.heap.size wr w' ∧ Below X.heap.size X w') := fun X hX => (ownNode_any _ t (Nat.lt_succ_self _) HSm.out P ra rc X (HL.out.keep (HBT.out X hX))).mono fun e w' h => ⟨(by obtain ⟨⟨a', c', h1, h2, h3⟩, _⟩ := h; exact ⟨a', c', h1, h2.stay (fun _ _ _ => trivial) (fun _ _ _ => rfl), h3⟩), bel_next hX (Nat.le_refl _) h.2, h.2⟩
                  have HDL : Hid _ := hdl
                  have HDF : Hid _ := hdf
                  have HC2 : Hid (∀ X, Below wr.heap.size wr X → Calls Tryd.prog 16 #[.agg #[.bool d.no, .int .i64 d.v.k, .int .i64 d.v.n, .string d.v.s, .slice al d.l.length cl, .slice af d.f.length cf]] X fun e w' => (∃ al' cl' af' cf', e = .returned (.agg #[.bool d.no, .int .i64 d.v.k, .int .i64 d.v.n, .string d.v.s, .slice al' d.l.length cl', .slice af' d.f.length cf']) ∧ LiesD w' (fun _ => True) al' d.l ∧ LiesD w' (fun _ => True) af' d.f) ∧ Below wr.heap.size wr w' ∧ Below X.heap.size X w') := fun X hX => (ownsD d hds _ al cl af cf X (LiesD.keep HDL.out hX) (LiesD.keep HDF.out hX)).mono fun e w' h => ⟨(by obtain ⟨⟨al', cl', af', cf', h1, h2, h3⟩, _⟩ := h; exact ⟨al', cl', af', cf', h1, h2.stay (fun _ _ _ => trivial) (fun _ _ _ => rfl), h3.stay (fun _ _ _ => trivial) (fun _ _ _ => rfl)⟩), bel_next hX (Nat.le_refl _) h.2, h.2⟩
                  have HC3 : Hid (∀ X a' c' al' cl' af' cf', Below wr.heap.size wr X → t.sub.length ≤ c' → LiesN X (fun _ => True) a' t.sub → LiesD X (fun _ => True) al' d.l → LiesD X (fun _ => True) af' d.f → Calls Tryd.prog 15 #[.agg #[.int .i64 t.id, .string t.nm, .int .i64 t.rep, .int .i64 t.kind, .slice a' t.sub.length c'], .agg #[.bool d.no, .int .i64 d.v.k, .int .i64 d.v.n, .string d.v.s, .slice al' d.l.length cl', .slice af' d.f.length cf'], .int .i64 f.id] X fun e w' => (∃ v, e = .returned (.tuple #[v, .nilIface]) ∧ VsR w' X.heap.size v (vo t q d)) ∧ Below wr.heap.size wr w' ∧ Below X.heap.size X w') := fun X a' c' al' cl' af' cf' hX h1 h2 h3 h4 => (by
                    obtain ⟨hi, e⟩ := HFi.out
                    have hE := HBT.out X hX
                    have h := walk_any eb es ek en t n HD.out hn HSm.out HV.out d hds (by rw [root_chk HRt.out]; exact hdc) i hi q (ZF i) (by rw [e]; exact HGf.out) (by rw [HON1.out]; have := HVM.out; omega) a' c' h1 al' cl' af' cf' _ _ X (HEr.out X hE) (HEn.out X hE) h2 h3 h4
                    rw [e, HON1.out] at h
                    exact h.mono fun e w' h => ⟨h.1, bel_next hX (Nat.le_refl _) h.2, h.2⟩)
                  clear hdl hdf hdm
                  obtain ⟨ys, HYS⟩ := hid_name (vo t q d)
                  rw [HYS.out] at HVL HVM HC3
                  clear HYS
                  go_upto_region 24 with fail
                  go_cut [23, 24] (fun x y wx => y = .nilIface ∧ Hid (VsR wx wr.heap.size x ys) ∧ Hid (Below wr.heap.size wr wx))
                  case first => as_aux_lemma =>
                    have b0 : Below wr.heap.size wr wr := Below.refl _ _
                    have HN : Hid (∀ X, Below wr.heap.size wr X → (X.cell? ⟨W.heap.size, 0, none⟩ = some (.int .i64 t.id) ∧ X.cell? ⟨W.heap.size, 1, none⟩ = some (.string t.nm) ∧ X.cell? ⟨W.heap.size, 2, none⟩ = some (.int .i64 t.rep) ∧ X.cell? ⟨W.heap.size, 3, none⟩ = some (.int .i64 t.kind) ∧ X.cell? ⟨W.heap.size, 4, none⟩ = some (.slice ra t.sub.length rc)) ∧ (X.cell? ⟨db, dof + kk * 6, none⟩ = some (.bool d.no) ∧ X.cell? ⟨db, dof + kk * 6 + 1, none⟩ = some (.int .i64 d.v.k) ∧ X.cell? ⟨db, dof + kk * 6 + 2, none⟩ = some (.int .i64 d.v.n) ∧ X.cell? ⟨db, dof + kk * 6 + 3, none⟩ = some (.string d.v.s) ∧ X.cell? ⟨db, dof + kk * 6 + 4, none⟩ = some (.slice al d.l.length cl) ∧ X.cell? ⟨db, dof + kk * 6 + 5, none⟩ = some (.slice af d.f.length cf)) ∧ X.cell? ⟨lg, i * 5, none⟩ = some (.int .i64 f.id) ∧ Below wr.heap.size wr X) := fun X hX => (by
                      have k' : ∀ (ad : Addr) (u : Value), wr.cell? ad = some u → X.cell? ad = some u := fun ad u h => (hX.cell (World.block_lt_of_cell? wr _ h)).trans h
                      exact ⟨⟨k' _ _ p0, k' _ _ p1, k' _ _ p2, k' _ _ p3, k' _ _ p4⟩, ⟨k' _ _ t0, k' _ _ t1, k' _ _ t2, k' _ _ t3, k' _ _ t4, k' _ _ t5⟩, k' _ _ n0', hX⟩)
                    go_region_held3 (fun X => (X.cell? ⟨W.heap.size, 0, none⟩ = some (.int .i64 t.id) ∧ X.cell? ⟨W.heap.size, 1, none⟩ = some (.string t.nm) ∧ X.cell? ⟨W.heap.size, 2, none⟩ = some (.int .i64 t.rep) ∧ X.cell? ⟨W.heap.size, 3, none⟩ = some (.int .i64 t.kind) ∧ X.cell? ⟨W.heap.size, 4, none⟩ = some (.slice ra t.sub.length rc)) ∧ (X.cell? ⟨db, dof + kk * 6, none⟩ = some (.bool d.no) ∧ X.cell? ⟨db, dof + kk * 6 + 1, none⟩ = some (.int .i64 d.v.k) ∧ X.cell? ⟨db, dof + kk * 6 + 2, none⟩ = some (.int .i64 d.v.n) ∧ X.cell? ⟨db, dof + kk * 6 + 3, none⟩ = some (.string d.v.s) ∧ X.cell? ⟨db, dof + kk * 6 + 4, none⟩ = some (.slice al d.l.length cl) ∧ X.cell? ⟨db, dof + kk * 6 + 5, none⟩ = some (.slice af d.f.length cf)) ∧ X.cell? ⟨lg, i * 5, none⟩ = some (.int .i64 f.id) ∧ Below wr.heap.size wr X) (with_reducible refine HN.out _ ?_; repeat' (first | with_reducible assumption | with_reducible exact b0.drew | with_reducible exact b0 | with_reducible refine Below.drew ?_ | with_reducible exact Nat.le_refl _ | with_reducible refine Below.setCell ?_ ?_ _ | with_reducible refine Below.alloc ?_ ?_ _ | with_reducible exact Below.size (by assumption) | (simp; done) | (simp; omega) | omega)) (first
                      | (go_at_call 8; (with_reducible refine Calls.mono (HC1.out _ ?_) ?_); (first | with_reducible assumption | with_reducible exact b0.drew); rintro e x1' ⟨⟨na, nc, rfl, hln, hcn⟩, hbx1, hraw1⟩; have HLN : Hid _ := hln; clear hln)
                      | (go_at_call 16; (with_reducible refine Calls.mono (HC2.out _ ?_) ?_); (first | with_reducible assumption | with_reducible exact b0.drew); rintro e x2' ⟨⟨al', cl', af', cf', rfl, hl2, hf2⟩, hbx2, hraw2⟩; have HLD2 : Hid _ := hl2; have HFD2 : Hid _ := hf2; clear hl2 hf2)
                      | (go_at_call 15; (with_reducible refine Calls.mono (HC3.out _ na nc al' cl' af' cf' ?_ ?_ ?_ ?_ ?_) ?_); (first | with_reducible assumption); (first | with_reducible assumption); (exact LiesN.keep HLN.out hraw2); (exact HLD2.out); (exact HFD2.out); rintro e x3' ⟨⟨v3, rfl, hv3⟩, hbx3, hraw3⟩; obtain ⟨wa3, wc3, rfl⟩ := own_sl hv3; have HV3 : Hid (VsR x3' wr.heap.size (.slice wa3 ys.length wc3) ys) := own_low hv3 hbx2.size; clear hv3))
                    all_goals
                      go_wp2_with fail
                      go_meet
                      exact ⟨rfl, HV3, hbx3⟩
                  case rest =>
                    obtain ⟨rfl, HV3, HB3x⟩ := hcut
                    rename World => w19
                    have HVr9 : Hid (VsR w19 w18.heap.size (.slice va xs.length vc) xs) := ow_kept HVr.out HB3x.out
                    obtain ⟨sa3, sc3, hx3⟩ := own_sl HV3.out
                    subst hx3
                    have HCE : Hid _ := vsR_cells HV3.out
                    have HBy : Hid (Below w18.heap.size w18 w19) := HBs.out.trans (HB3x.out.mono HBs.out.size)
                    have hm6 := HVM.out
                    have hvcl := vcells_len xs
                    clear HC1 HC2 HC3 p0 p1 p2 p3 p4 t0 t1 t2 t3 t4 t5
                    go_wp2_with (at_builtin; refine wpList_append_any w19 rfl _ _ 39 rfl w18.heap.size 53 iv (.agg #[.int .i64 0, .int .i64 0, .string ⟨#[]⟩]) 3 32 Tryd.underlying39 hvi hv0 hv1 hv2 rfl (by decide) _ xs.length (vcells xs) rfl HVr9.out sa3 ys.length sc3 (vcells ys) rfl HCE.out.1 HCE.out.2.1 HCE.out.2.2 (by unfold maxLen; omega) (by omega) HBy.out.size ?_; intro l20 w20 hown20 hgrow20 hw20; have HR20 : Hid (VsR w20 w18.heap.size l20 (((A ++ B).take (kk + 1)).flatMap (vo t q))) := (by show VsR _ _ _ _; rw [HVL.out]; unfold VsR; rw [vcells_app, List.length_append]; exact hown20); have HB20 : Hid (Below w18.heap.size w18 w20) := below_own HBy.out (Nat.le_refl _) HVr9.out hgrow20; clear hown20 hgrow20 hw20)
                    go_roundw
                    case rel => exact ⟨kk + 1, by omega, by go_num, HR20, HB20⟩
                    case measure => simp [intOf]; omega
                · obtain rfl : kk = A.length + B.length := by omega
                  have HXZ : Hid (xs = Z.vs) := (by show _ = _; rw [← HXS.out, HF.out.walk, ← List.length_append, List.take_length])
                  have kz : ∀ (ad : Addr) (u : Value), w18.cell? ad = some u → wr.cell? ad = some u := fun ad u h => (HBs.out.cell (World.block_lt_of_cell? w18 _ h)).trans h
                  have d0' := kz _ _ d0
                  have d1' := kz _ _ d1
                  have d2' := kz _ _ d2
                  have d3' := kz _ _ d3
                  have HLx : Hid (LiesV wr va xs) := (by obtain ⟨a', c', e, h⟩ := liesV_own HVr.out; injection e with e1 _ _; subst e1; exact h)
                  have HZA9 : Hid (Z.At wr) := HZA8.out.keep HBs.out
                  have HSV : Hid (Calls Tryd.prog 17 #[.slice va xs.length vc, .slice Z.va Z.vs.length Z.vc] wr fun e w' => e = .returned (.bool true) ∧ Below wr.heap.size wr w') := (by
                    refine (sameVs_any wr va Z.va vc Z.vc xs Z.vs (by rw [HXZ.out]; have := HF.out.lv; unfold maxLen; omega) HLx.out HZA9.out.v).mono ?_
                    rintro e w' ⟨⟨b, rfl, hb⟩, hb'⟩
                    have hbt : b = true := hb.2 HXZ.out
                    exact ⟨by rw [hbt], hb'⟩)
                  go_wp2_with fail
                  refine Calls.mono HSV.out ?_
                  rintro e w21 ⟨rfl, hb21⟩
                  have HB21 : Hid (Below w18.heap.size w18 w21) := HBs.out.trans (hb21.mono HBs.out.size)
                  have HBo : Hid (Below w16.heap.size w16 w21) := HBw18.out.trans (HB21.out.mono HBw18.out.size)
                  have HQ21 : Hid _ := HQ18.out.trans (HB21.out.mono HQ18.out.size)
                  clear hb21 HSV d0' d1' d2' d3' kz HLx HZA9 HVr HBs
                  by_cases hneg : at_ < 0
                  · have q1 : decide (at_ < 0) = true := by rw [decide_eq_true_iff]; exact hneg
                    go_wp2
                    go_roundw
                    case rel => exact ⟨i + 1, by omega, by go_num, HBo⟩
                    case measure => simp [intOf]; omega
                  have q1 : decide (at_ < 0) = false := by rw [decide_eq_false_iff_not]; exact hneg
                  by_cases hbig : (A.length : Int) + (B.length : Int) < at_
                  · have q2 : decide ((A.length : Int) + (B.length : Int) < at_) = true := by rw [decide_eq_true_iff]; exact hbig
                    go_wp2
                    go_roundw
                    case rel => exact ⟨i + 1, by omega, by go_num, HBo⟩
                    case measure => simp [intOf]; omega
                  have q2 : decide ((A.length : Int) + (B.length : Int) < at_) = false := by rw [decide_eq_false_iff_not]; exact hbig
                  clear q1 q2
                  have kz : ∀ (ad : Addr) (u : Value), w18.cell? ad = some u → w21.cell? ad = some u := fun ad u h => (HB21.out.cell (World.block_lt_of_cell? w18 _ h)).trans h
                  replace n0 := kz _ _ n0
                  replace n1 := kz _ _ n1
                  replace n2 := kz _ _ n2
                  replace n3 := kz _ _ n3
                  replace n4 := kz _ _ n4
                  replace d0 := kz _ _ d0
                  replace d1 := kz _ _ d1
                  replace d2 := kz _ _ d2
                  replace d3 := kz _ _ d3
                  have HZA21 : Hid (Z.At w21) := HZA8.out.keep HB21.out
                  have HPl21 : Hid (Lies w21 pa (i64s f.path)) := HPl8.out.keep HB21.out
                  have HJb21 : Hid _ := blk_keep HB21.out HJb8.out
                  clear kz HZA8 HPl8 HJb8
                  go_upto_region 31 with fail
                  go_cut [25, 26] (fun x y wx => ∃ (k : Cl) (g a0 a1 : Nat), x = .pointer (some ⟨g, 0, none⟩) ∧ y = .nilIface ∧ Hid (w21.heap.size ≤ g) ∧ Hid (Below w21.heap.size w21 wx) ∧ Hid (wx.heap[g]? = some (.cells #[.int .i64 k.id, .slice k.ra k.rs.length k.rc, .slice k.da k.ds.length k.dc, .slice k.va k.vs.length k.vc] 41 (0, 0))) ∧ Hid (k.At wx) ∧ Hid (StAt Z.rs 0 a0 ∧ StAt Z.rs at_ a1 ∧ k.id = f.id ∧ k.rs = cutL Z.rs a0 a1 ∧ k.ds = cutL Z.ds a0 a1 ∧ k.vs = cutL Z.vs (cntE (f.md : Nat) (Z.ds.take a0)) (cntE (f.md : Nat) (Z.ds.take a1))))
                  case first => as_aux_lemma =>
                    have HO1 : Hid (∀ X, Below w21.heap.size w21 X → Calls Tryd.prog 12 #[.agg #[.int .i64 f.id, .int .i64 f.kind, .int .i64 (f.mr : Nat), .int .i64 (f.md : Nat), .slice pa f.path.length pc]] X fun e w' => (∃ pa' pc', e = .returned (.agg #[.int .i64 f.id, .int .i64 f.kind, .int .i64 (f.mr : Nat), .int .i64 (f.md : Nat), .slice pa' f.path.length pc'])) ∧ Below w21.heap.size w21 w' ∧ Below X.heap.size X w') := fun X hX => (ownLeaf_any f.id f.kind (f.mr : Nat) (f.md : Nat) pa pc f.path X (by have := HPm.out; omega) (HPl21.out.keep hX)).mono fun e w' h => ⟨(by obtain ⟨⟨pa', pc', h1, _⟩, _⟩ := h; exact ⟨pa', pc', h1⟩), bel_next hX (Nat.le_refl _) h.2, h.2⟩
                    have HOP : Hid (∀ X pa' pc', Below w21.heap.size w21 X → Calls Tryd.prog 18 #[.agg #[.int .i64 f.id, .int .i64 f.kind, .int .i64 (f.mr : Nat), .int .i64 (f.md : Nat), .slice pa' f.path.length pc'], .agg #[.int .i64 Z.id, .slice Z.ra Z.rs.length Z.rc, .slice Z.da Z.ds.length Z.dc, .slice Z.va Z.vs.length Z.vc], .int .i64 (0), .int .i64 (at_)] X fun e w' => (∃ (k : Cl) (a0 a1 : Nat), e = .returned (.tuple #[.agg #[.int .i64 k.id, .slice k.ra k.rs.length k.rc, .slice k.da k.ds.length k.dc, .slice k.va k.vs.length k.vc], .nilIface]) ∧ k.At w' ∧ k.Fr X.heap.size ∧ (StAt Z.rs 0 a0 ∧ StAt Z.rs at_ a1 ∧ k.id = f.id ∧ k.rs = cutL Z.rs a0 a1 ∧ k.ds = cutL Z.ds a0 a1 ∧ k.vs = cutL Z.vs (cntE (f.md : Nat) (Z.ds.take a0)) (cntE (f.md : Nat) (Z.ds.take a1)))) ∧ Below w21.heap.size w21 w' ∧ Below X.heap.size X w') := fun X pa' pc' hX => (by
                      have hE := HEr.out X (HB16.out.trans (((HBo.out).trans (hX.mono (HBo.out).size)).mono HB16.out.size))
                      have lr := HF.out.lr
                      have ld := HF.out.ld
                      have lv := HF.out.lv
                      exact (part_good f.id f.kind (f.mr : Nat) (f.md : Nat) (0) (at_) pa' f.path.length pc' Z X _ _ _ _ _ _ HF.out.gz (by rw [HF.out.cnt, List.length_append]; omega) (by omega) (by omega) (by omega) HF.out.cap hE.s hE.k hE.b (HZA21.out.keep hX)).mono fun e w' h => ⟨(by obtain ⟨⟨k, a, b, h1, h2, h3, h4⟩, _⟩ := h; exact ⟨k, a, b, h1, h2, h3, h4⟩), bel_next hX (Nat.le_refl _) h.2, h.2⟩)
                    have b0 : Below w21.heap.size w21 w21 := Below.refl _ _
                    have HN : Hid (∀ X, Below w21.heap.size w21 X → (X.cell? ⟨lg, i * 5, none⟩ = some (.int .i64 f.id) ∧ X.cell? ⟨lg, i * 5 + 1, none⟩ = some (.int .i64 f.kind) ∧ X.cell? ⟨lg, i * 5 + 2, none⟩ = some (.int .i64 (f.mr : Nat)) ∧ X.cell? ⟨lg, i * 5 + 3, none⟩ = some (.int .i64 (f.md : Nat)) ∧ X.cell? ⟨lg, i * 5 + 4, none⟩ = some (.slice pa f.path.length pc)) ∧ (X.cell? ⟨zb, zo + i * 4, none⟩ = some (.int .i64 Z.id) ∧ X.cell? ⟨zb, zo + i * 4 + 1, none⟩ = some (.slice Z.ra Z.rs.length Z.rc) ∧ X.cell? ⟨zb, zo + i * 4 + 2, none⟩ = some (.slice Z.da Z.ds.length Z.dc) ∧ X.cell? ⟨zb, zo + i * 4 + 3, none⟩ = some (.slice Z.va Z.vs.length Z.vc)) ∧ Below w21.heap.size w21 X) := fun X hX => (by
                      have k' : ∀ (ad : Addr) (u : Value), w21.cell? ad = some u → X.cell? ad = some u := fun ad u h => (hX.cell (World.block_lt_of_cell? w21 _ h)).trans h
                      exact ⟨⟨k' _ _ n0, k' _ _ n1, k' _ _ n2, k' _ _ n3, k' _ _ n4⟩, ⟨k' _ _ d0, k' _ _ d1, k' _ _ d2, k' _ _ d3⟩, hX⟩)
                    go_region_held3 (fun X => (X.cell? ⟨lg, i * 5, none⟩ = some (.int .i64 f.id) ∧ X.cell? ⟨lg, i * 5 + 1, none⟩ = some (.int .i64 f.kind) ∧ X.cell? ⟨lg, i * 5 + 2, none⟩ = some (.int .i64 (f.mr : Nat)) ∧ X.cell? ⟨lg, i * 5 + 3, none⟩ = some (.int .i64 (f.md : Nat)) ∧ X.cell? ⟨lg, i * 5 + 4, none⟩ = some (.slice pa f.path.length pc)) ∧ (X.cell? ⟨zb, zo + i * 4, none⟩ = some (.int .i64 Z.id) ∧ X.cell? ⟨zb, zo + i * 4 + 1, none⟩ = some (.slice Z.ra Z.rs.length Z.rc) ∧ X.cell? ⟨zb, zo + i * 4 + 2, none⟩ = some (.slice Z.da Z.ds.length Z.dc) ∧ X.cell? ⟨zb, zo + i * 4 + 3, none⟩ = some (.slice Z.va Z.vs.length Z.vc)) ∧ Below w21.heap.size w21 X) (with_reducible refine HN.out _ ?_; repeat' (first | with_reducible assumption | with_reducible exact b0.drew | with_reducible exact b0 | with_reducible refine Below.drew ?_ | with_reducible exact Nat.le_refl _ | with_reducible refine Below.setCell ?_ ?_ _ | with_reducible refine Below.alloc ?_ ?_ _ | with_reducible exact Below.size (by assumption) | (simp; done) | (simp; omega) | omega)) (first
                      | (go_at_call 12; (with_reducible refine Calls.mono (HO1.out _ ?_) ?_); (repeat' (first | with_reducible assumption | with_reducible exact b0.drew | with_reducible exact b0 | with_reducible refine Below.drew ?_ | with_reducible refine Below.alloc ?_ ?_ _ | with_reducible exact Below.size (by assumption) | with_reducible exact Nat.le_refl _ | (simp; done) | (simp; omega))); rintro e x1' ⟨⟨pa', pc', rfl⟩, hbx1, hraw1⟩; have hq1 : w21.heap.size ≤ x1'.heap.size := hbx1.size; (first | (have hzz0 : x1'.heap[w21.heap.size]? = some (.cells #[.int .i64 0, .slice none 0 0, .slice none 0 0, .slice none 0 0] 41 (0, 0)) := blk_keep hraw1 (heap_alloc_new w21.drew (.cells #[.int .i64 0, .slice none 0 0, .slice none 0 0, .slice none 0 0] 41))) | skip))
                      | (go_at_call 18; (with_reducible refine Calls.mono (HOP.out _ pa' pc' ?_) ?_); (repeat' (first | with_reducible assumption | with_reducible exact b0.drew | with_reducible exact b0 | with_reducible refine Below.drew ?_ | with_reducible refine Below.alloc ?_ ?_ _ | with_reducible exact Below.size (by assumption) | with_reducible exact Nat.le_refl _ | (simp; done) | (simp; omega))); rintro e x4 ⟨⟨⟨kid, kra, krs, krc, kda, kds, kdc, kva, kvs, kvc⟩, a0, a1, rfl, ka, kf, kq⟩, hbx4, hraw4⟩; have HKA2 : Hid _ := ka; have HKF : Hid _ := kf; have HKq : Hid _ := kq; have HBX4 : Hid _ := hbx4; have hq4 : w21.heap.size ≤ x4.heap.size := hbx4.size; clear ka kf kq; (first | (have hzz := blk_keep hraw4 hzz0; clear hzz0; have hzz0 := hzz; clear hzz) | (have hzz0 : x4.heap[x1'.heap.size]? = some (.cells #[.int .i64 0, .slice none 0 0, .slice none 0 0, .slice none 0 0] 41 (0, 0)) := blk_keep hraw4 (heap_alloc_new x1' (.cells #[.int .i64 0, .slice none 0 0, .slice none 0 0, .slice none 0 0] 41))) | skip); (first | (obtain ⟨v0, v1, v2, v3⟩ := row_four hzz0; obtain ⟨u0, u1, u2, u3⟩ := row_fourF hzz0; have HZZ : Hid _ := hzz0; clear hzz0) | skip)))
                    all_goals
                      have hr1 := hraw1.size
                      go_wp2_with fail
                      go_meet
                      first
                        | exact ⟨⟨kid, kra, krs, krc, kda, kds, kdc, kva, kvs, kvc⟩, x4.heap.size, a0, a1, rfl, rfl, hq4, HBX4.out.alloc HBX4.out.size _, heap_alloc_new _ _, HKA2.out.keep ((Below.refl _ _).alloc (Nat.le_refl _) _), HKq⟩
                        | (refine ⟨⟨kid, kra, krs, krc, kda, kds, kdc, kva, kvs, kvc⟩, _, a0, a1, rfl, rfl, ?_, (((HBX4.out.setCell ?_ _).setCell ?_ _).setCell ?_ _).setCell ?_ _, row_setCell (row_setCell (row_setCell (row_setCell HZZ.out _) _) _) _, (((HKA2.out.off HKF.out ?_).off HKF.out ?_).off HKF.out ?_).off HKF.out ?_, HKq⟩
                           all_goals (try (show _ ≤ _))
                           all_goals (try simp at hr1)
                           all_goals first | (simp; done) | (simp; omega) | omega)
                  case rest =>
                    obtain ⟨kp, gp, a0, a1, rfl, rfl, HGp, HBp, HPb, HPA, HPq⟩ := hcut
                    rename World => w22
                    have kz : ∀ (ad : Addr) (u : Value), w21.cell? ad = some u → w22.cell? ad = some u := fun ad u h => (HBp.out.cell (World.block_lt_of_cell? w21 _ h)).trans h
                    replace n0 := kz _ _ n0
                    replace n1 := kz _ _ n1
                    replace n2 := kz _ _ n2
                    replace n3 := kz _ _ n3
                    replace n4 := kz _ _ n4
                    replace d0 := kz _ _ d0
                    replace d1 := kz _ _ d1
                    replace d2 := kz _ _ d2
                    replace d3 := kz _ _ d3
                    have HZA22 : Hid (Z.At w22) := HZA21.out.keep HBp.out
                    have HPl22 : Hid (Lies w22 pa (i64s f.path)) := HPl21.out.keep HBp.out
                    have HJb22 : Hid _ := blk_keep HBp.out HJb21.out
                    have HBo22 : Hid (Below w16.heap.size w16 w22) := HBo.out.trans (HBp.out.mono HBo.out.size)
                    have HQ22 : Hid _ := HQ21.out.trans (HBp.out.mono HQ21.out.size)
                    have HGp1 : Hid (gk < gp) := Nat.lt_of_lt_of_le (lt_of_block_any HJb21.out) HGp.out
                    have HGkq : Hid (gk < w22.heap.size) := lt_of_block_any HJb22.out
                    clear kz HZA21 HPl21 HJb21
                    go_upto_region 32 with fail
                    go_cut [27, 28] (fun x y wx => ∃ (k : Cl) (g a0 a1 : Nat), x = .pointer (some ⟨g, 0, none⟩) ∧ y = .nilIface ∧ Hid (w22.heap.size ≤ g) ∧ Hid (Below w22.heap.size w22 wx) ∧ Hid (wx.heap[g]? = some (.cells #[.int .i64 k.id, .slice k.ra k.rs.length k.rc, .slice k.da k.ds.length k.dc, .slice k.va k.vs.length k.vc] 41 (0, 0))) ∧ Hid (k.At wx) ∧ Hid (StAt Z.rs at_ a0 ∧ StAt Z.rs ((A.length : Int) + (B.length : Int)) a1 ∧ k.id = f.id ∧ k.rs = cutL Z.rs a0 a1 ∧ k.ds = cutL Z.ds a0 a1 ∧ k.vs = cutL Z.vs (cntE (f.md : Nat) (Z.ds.take a0)) (cntE (f.md : Nat) (Z.ds.take a1))))
                    case first => as_aux_lemma =>
                      have HO1 : Hid (∀ X, Below w22.heap.size w22 X → Calls Tryd.prog 12 #[.agg #[.int .i64 f.id, .int .i64 f.kind, .int .i64 (f.mr : Nat), .int .i64 (f.md : Nat), .slice pa f.path.length pc]] X fun e w' => (∃ pa' pc', e = .returned (.agg #[.int .i64 f.id, .int .i64 f.kind, .int .i64 (f.mr : Nat), .int .i64 (f.md : Nat), .slice pa' f.path.length pc'])) ∧ Below w22.heap.size w22 w' ∧ Below X.heap.size X w') := fun X hX => (ownLeaf_any f.id f.kind (f.mr : Nat) (f.md : Nat) pa pc f.path X (by have := HPm.out; omega) (HPl22.out.keep hX)).mono fun e w' h => ⟨(by obtain ⟨⟨pa', pc', h1, _⟩, _⟩ := h; exact ⟨pa', pc', h1⟩), bel_next hX (Nat.le_refl _) h.2, h.2⟩
                      have HOP : Hid (∀ X pa' pc', Below w22.heap.size w22 X → Calls Tryd.prog 18 #[.agg #[.int .i64 f.id, .int .i64 f.kind, .int .i64 (f.mr : Nat), .int .i64 (f.md : Nat), .slice pa' f.path.length pc'], .agg #[.int .i64 Z.id, .slice Z.ra Z.rs.length Z.rc, .slice Z.da Z.ds.length Z.dc, .slice Z.va Z.vs.length Z.vc], .int .i64 (at_), .int .i64 (((A.length : Int) + (B.length : Int)))] X fun e w' => (∃ (k : Cl) (a0 a1 : Nat), e = .returned (.tuple #[.agg #[.int .i64 k.id, .slice k.ra k.rs.length k.rc, .slice k.da k.ds.length k.dc, .slice k.va k.vs.length k.vc], .nilIface]) ∧ k.At w' ∧ k.Fr X.heap.size ∧ (StAt Z.rs at_ a0 ∧ StAt Z.rs ((A.length : Int) + (B.length : Int)) a1 ∧ k.id = f.id ∧ k.rs = cutL Z.rs a0 a1 ∧ k.ds = cutL Z.ds a0 a1 ∧ k.vs = cutL Z.vs (cntE (f.md : Nat) (Z.ds.take a0)) (cntE (f.md : Nat) (Z.ds.take a1)))) ∧ Below w22.heap.size w22 w' ∧ Below X.heap.size X w') := fun X pa' pc' hX => (by
                        have hE := HEr.out X (HB16.out.trans (((HBo22.out).trans (hX.mono (HBo22.out).size)).mono HB16.out.size))
                        have lr := HF.out.lr
                        have ld := HF.out.ld
                        have lv := HF.out.lv
                        exact (part_good f.id f.kind (f.mr : Nat) (f.md : Nat) (at_) (((A.length : Int) + (B.length : Int))) pa' f.path.length pc' Z X _ _ _ _ _ _ HF.out.gz (by rw [HF.out.cnt, List.length_append]; omega) (by omega) (by omega) (by omega) HF.out.cap hE.s hE.k hE.b (HZA22.out.keep hX)).mono fun e w' h => ⟨(by obtain ⟨⟨k, a, b, h1, h2, h3, h4⟩, _⟩ := h; exact ⟨k, a, b, h1, h2, h3, h4⟩), bel_next hX (Nat.le_refl _) h.2, h.2⟩)
                      have b0 : Below w22.heap.size w22 w22 := Below.refl _ _
                      have HN : Hid (∀ X, Below w22.heap.size w22 X → (X.cell? ⟨lg, i * 5, none⟩ = some (.int .i64 f.id) ∧ X.cell? ⟨lg, i * 5 + 1, none⟩ = some (.int .i64 f.kind) ∧ X.cell? ⟨lg, i * 5 + 2, none⟩ = some (.int .i64 (f.mr : Nat)) ∧ X.cell? ⟨lg, i * 5 + 3, none⟩ = some (.int .i64 (f.md : Nat)) ∧ X.cell? ⟨lg, i * 5 + 4, none⟩ = some (.slice pa f.path.length pc)) ∧ (X.cell? ⟨zb, zo + i * 4, none⟩ = some (.int .i64 Z.id) ∧ X.cell? ⟨zb, zo + i * 4 + 1, none⟩ = some (.slice Z.ra Z.rs.length Z.rc) ∧ X.cell? ⟨zb, zo + i * 4 + 2, none⟩ = some (.slice Z.da Z.ds.length Z.dc) ∧ X.cell? ⟨zb, zo + i * 4 + 3, none⟩ = some (.slice Z.va Z.vs.length Z.vc)) ∧ Below w22.heap.size w22 X) := fun X hX => (by
                        have k' : ∀ (ad : Addr) (u : Value), w22.cell? ad = some u → X.cell? ad = some u := fun ad u h => (hX.cell (World.block_lt_of_cell? w22 _ h)).trans h
                        exact ⟨⟨k' _ _ n0, k' _ _ n1, k' _ _ n2, k' _ _ n3, k' _ _ n4⟩, ⟨k' _ _ d0, k' _ _ d1, k' _ _ d2, k' _ _ d3⟩, hX⟩)
                      go_region_held3 (fun X => (X.cell? ⟨lg, i * 5, none⟩ = some (.int .i64 f.id) ∧ X.cell? ⟨lg, i * 5 + 1, none⟩ = some (.int .i64 f.kind) ∧ X.cell? ⟨lg, i * 5 + 2, none⟩ = some (.int .i64 (f.mr : Nat)) ∧ X.cell? ⟨lg, i * 5 + 3, none⟩ = some (.int .i64 (f.md : Nat)) ∧ X.cell? ⟨lg, i * 5 + 4, none⟩ = some (.slice pa f.path.length pc)) ∧ (X.cell? ⟨zb, zo + i * 4, none⟩ = some (.int .i64 Z.id) ∧ X.cell? ⟨zb, zo + i * 4 + 1, none⟩ = some (.slice Z.ra Z.rs.length Z.rc) ∧ X.cell? ⟨zb, zo + i * 4 + 2, none⟩ = some (.slice Z.da Z.ds.length Z.dc) ∧ X.cell? ⟨zb, zo + i * 4 + 3, none⟩ = some (.slice Z.va Z.vs.length Z.vc)) ∧ Below w22.heap.size w22 X) (with_reducible refine HN.out _ ?_; repeat' (first | with_reducible assumption | with_reducible exact b0.drew | with_reducible exact b0 | with_reducible refine Below.drew ?_ | with_reducible exact Nat.le_refl _ | with_reducible refine Below.setCell ?_ ?_ _ | with_reducible refine Below.alloc ?_ ?_ _ | with_reducible exact Below.size (by assumption) | (simp; done) | (simp; omega) | omega)) (first
                        | (go_at_call 12; (with_reducible refine Calls.mono (HO1.out _ ?_) ?_); (repeat' (first | with_reducible assumption | with_reducible exact b0.drew | with_reducible exact b0 | with_reducible refine Below.drew ?_ | with_reducible refine Below.alloc ?_ ?_ _ | with_reducible exact Below.size (by assumption) | with_reducible exact Nat.le_refl _ | (simp; done) | (simp; omega))); rintro e x1' ⟨⟨pa', pc', rfl⟩, hbx1, hraw1⟩; have hq1 : w22.heap.size ≤ x1'.heap.size := hbx1.size; (first | (have hzz0 : x1'.heap[w22.heap.size]? = some (.cells #[.int .i64 0, .slice none 0 0, .slice none 0 0, .slice none 0 0] 41 (0, 0)) := blk_keep hraw1 (heap_alloc_new w22.drew (.cells #[.int .i64 0, .slice none 0 0, .slice none 0 0, .slice none 0 0] 41))) | skip))
                        | (go_at_call 18; (with_reducible refine Calls.mono (HOP.out _ pa' pc' ?_) ?_); (repeat' (first | with_reducible assumption | with_reducible exact b0.drew | with_reducible exact b0 | with_reducible refine Below.drew ?_ | with_reducible refine Below.alloc ?_ ?_ _ | with_reducible exact Below.size (by assumption) | with_reducible exact Nat.le_refl _ | (simp; done) | (simp; omega))); rintro e x4 ⟨⟨⟨kid, kra, krs, krc, kda, kds, kdc, kva, kvs, kvc⟩, a0, a1, rfl, ka, kf, kq⟩, hbx4, hraw4⟩; have HKA2 : Hid _ := ka; have HKF : Hid _ := kf; have HKq : Hid _ := kq; have HBX4 : Hid _ := hbx4; have hq4 : w22.heap.size ≤ x4.heap.size := hbx4.size; clear ka kf kq; (first | (have hzz := blk_keep hraw4 hzz0; clear hzz0; have hzz0 := hzz; clear hzz) | (have hzz0 : x4.heap[x1'.heap.size]? = some (.cells #[.int .i64 0, .slice none 0 0, .slice none 0 0, .slice none 0 0] 41 (0, 0)) := blk_keep hraw4 (heap_alloc_new x1' (.cells #[.int .i64 0, .slice none 0 0, .slice none 0 0, .slice none 0 0] 41))) | skip); (first | (obtain ⟨v0, v1, v2, v3⟩ := row_four hzz0; obtain ⟨u0, u1, u2, u3⟩ := row_fourF hzz0; have HZZ : Hid _ := hzz0; clear hzz0) | skip)))
                      all_goals
                        have hr1 := hraw1.size
                        go_wp2_with fail
                        go_meet
                        first
                          | exact ⟨⟨kid, kra, krs, krc, kda, kds, kdc, kva, kvs, kvc⟩, x4.heap.size, a0, a1, rfl, rfl, hq4, HBX4.out.alloc HBX4.out.size _, heap_alloc_new _ _, HKA2.out.keep ((Below.refl _ _).alloc (Nat.le_refl _) _), HKq⟩
                          | (refine ⟨⟨kid, kra, krs, krc, kda, kds, kdc, kva, kvs, kvc⟩, _, a0, a1, rfl, rfl, ?_, (((HBX4.out.setCell ?_ _).setCell ?_ _).setCell ?_ _).setCell ?_ _, row_setCell (row_setCell (row_setCell (row_setCell HZZ.out _) _) _) _, (((HKA2.out.off HKF.out ?_).off HKF.out ?_).off HKF.out ?_).off HKF.out ?_, HKq⟩
                             all_goals (try (show _ ≤ _))
                             all_goals (try simp at hr1)
                             all_goals first | (simp; done) | (simp; omega) | omega)
                    case rest =>
                      obtain ⟨kq, gq, b0', b1', rfl, rfl, HGq, HBq2, HQb, HQA, HQq⟩ := hcut
                      rename World => w23
                      have kz : ∀ (ad : Addr) (u : Value), w22.cell? ad = some u → w23.cell? ad = some u := fun ad u h => (HBq2.out.cell (World.block_lt_of_cell? w22 _ h)).trans h
                      replace n0 := kz _ _ n0
                      replace n1 := kz _ _ n1
                      replace n2 := kz _ _ n2
                      replace n3 := kz _ _ n3
                      replace n4 := kz _ _ n4
                      replace d0 := kz _ _ d0
                      replace d1 := kz _ _ d1
                      replace d2 := kz _ _ d2
                      replace d3 := kz _ _ d3
                      have HZA23 : Hid (Z.At w23) := HZA22.out.keep HBq2.out
                      have HPl23 : Hid (Lies w23 pa (i64s f.path)) := HPl22.out.keep HBq2.out
                      have HJb23 : Hid _ := blk_keep HBq2.out HJb22.out
                      have HPb23 : Hid _ := blk_keep HBq2.out HPb.out
                      have HPA23 : Hid (kp.At w23) := HPA.out.keep HBq2.out
                      have HBo23 : Hid (Below w16.heap.size w16 w23) := HBo22.out.trans (HBq2.out.mono HBo22.out.size)
                      have HQ23 : Hid _ := HQ22.out.trans (HBq2.out.mono HQ22.out.size)
                      have HGq1 : Hid (gk < gq) := Nat.lt_of_lt_of_le HGkq.out HGq.out
                      have HPW : Hid (GoodC f.id f.kind (f.mr : Nat) (f.md : Nat) kp ∧ GoodC f.id f.kind (f.mr : Nat) (f.md : Nat) kq ∧ kp.rs ++ kq.rs = Z.rs ∧ kp.ds ++ kq.ds = Z.ds ∧ kp.vs ++ kq.vs = Z.vs) := (by
                        obtain ⟨s1, s2, s3, s4, s5, s6⟩ := HPq.out
                        obtain ⟨r1, r2, r3, r4, r5, r6⟩ := HQq.out
                        have ec : ((A.length : Int) + (B.length : Int)) = (cntE 0 Z.rs : Nat) := (by rw [HF.out.cnt, List.length_append]; omega)
                        rw [ec] at r2
                        exact parts_whole HF.out.gz (by omega) s1 s2 r1 r2 s3 s4 s5 s6 r3 r4 r5 r6)
                      clear kz HZA22 HPl22 HJb22 HPb HPA HPq HQq
                      obtain ⟨e0, e1, e2, e3⟩ := row_four HPb23.out
                      obtain ⟨f0, f1, f2, f3⟩ := row_four HQb.out
                      go_upto_region 33 with fail
                      go_cut [29] (fun y wx => ∃ (k : Cl), y = .nilIface ∧ Hid (OffK gk w23 wx) ∧ Hid (wx.heap[gk]? = some (.cells #[.int .i64 k.id, .slice k.ra k.rs.length k.rc, .slice k.da k.ds.length k.dc, .slice k.va k.vs.length k.vc] 41 (0, 0))) ∧ Hid (k.At wx) ∧ Hid (k.id = f.id ∧ k.rs = Z.rs ∧ k.ds = Z.ds ∧ k.vs = Z.vs))
                      case first =>
                        have HO1 : Hid (∀ X, Below w23.heap.size w23 X → Calls Tryd.prog 12 #[.agg #[.int .i64 f.id, .int .i64 f.kind, .int .i64 (f.mr : Nat), .int .i64 (f.md : Nat), .slice pa f.path.length pc]] X fun e w' => (∃ pa' pc', e = .returned (.agg #[.int .i64 f.id, .int .i64 f.kind, .int .i64 (f.mr : Nat), .int .i64 (f.md : Nat), .slice pa' f.path.length pc'])) ∧ Below w23.heap.size w23 w' ∧ Below X.heap.size X w') := fun X hX => (ownLeaf_any f.id f.kind (f.mr : Nat) (f.md : Nat) pa pc f.path X (by have := HPm.out; omega) (HPl23.out.keep hX)).mono fun e w' h => ⟨(by obtain ⟨⟨pa', pc', h1, _⟩, _⟩ := h; exact ⟨pa', pc', h1⟩), bel_next hX (Nat.le_refl _) h.2, h.2⟩
                        have HOJ : Hid (∀ X g pa' pc', Below w23.heap.size w23 X → X.heap[g]? = some (.cells #[.int .i64 kp.id, .slice kp.ra kp.rs.length kp.rc, .slice kp.da kp.ds.length kp.dc, .slice kp.va kp.vs.length kp.vc, .int .i64 kq.id, .slice kq.ra kq.rs.length kq.rc, .slice kq.da kq.ds.length kq.dc, .slice kq.va kq.vs.length kq.vc] 41 (0, 0)) → Calls Tryd.prog 11 #[.agg #[.int .i64 f.id, .int .i64 f.kind, .int .i64 (f.mr : Nat), .int .i64 (f.md : Nat), .slice pa' f.path.length pc'], .slice (some ⟨g, 0, none⟩) 2 2] X fun e w' => (∃ k : Cl, e = .returned (.tuple #[.agg #[.int .i64 k.id, .slice k.ra k.rs.length k.rc, .slice k.da k.ds.length k.dc, .slice k.va k.vs.length k.vc], .nilIface]) ∧ k.At w' ∧ k.Fr X.heap.size ∧ k.id = f.id ∧ k.rs = Z.rs ∧ k.ds = Z.ds ∧ k.vs = Z.vs) ∧ Below w23.heap.size w23 w' ∧ Below X.heap.size X w') := fun X g pa' pc' hX hg => (by
                          have hE := HEr.out X (HB16.out.trans (((HBo23.out).trans (hX.mono (HBo23.out).size)).mono HB16.out.size))
                          obtain ⟨gp1, gq1, er, ed, ev⟩ := HPW.out
                          have lr := HF.out.lr
                          have ld := HF.out.ld
                          have lv := HF.out.lv
                          rw [← er, List.length_append] at lr
                          rw [← ed, List.length_append] at ld
                          rw [← ev, List.length_append] at lv
                          exact (join_good f.id f.kind (f.mr : Nat) (f.md : Nat) pa' f.path.length pc' g _ kp kq X _ _ _ _ _ _ gp1 gq1 (by omega) (by omega) (by omega) hE.s hE.k hE.b (HPA23.out.keep hX) (HQA.out.keep hX) hg).mono fun e w' h => ⟨(by obtain ⟨⟨k, h1, h2, h3, _, h4, h5, h6, h7⟩, _⟩ := h; exact ⟨k, h1, h2, h3, h4, by rw [h5, er], by rw [h6, ed], by rw [h7, ev]⟩), bel_next hX (Nat.le_refl _) h.2, h.2⟩)
                        have b0 : Below w23.heap.size w23 w23 := Below.refl _ _
                        have HN : Hid (∀ X, OffK gk w23 X → (X.cell? ⟨lg, i * 5, none⟩ = some (.int .i64 f.id) ∧ X.cell? ⟨lg, i * 5 + 1, none⟩ = some (.int .i64 f.kind) ∧ X.cell? ⟨lg, i * 5 + 2, none⟩ = some (.int .i64 (f.mr : Nat)) ∧ X.cell? ⟨lg, i * 5 + 3, none⟩ = some (.int .i64 (f.md : Nat)) ∧ X.cell? ⟨lg, i * 5 + 4, none⟩ = some (.slice pa f.path.length pc)) ∧ (X.cell? ⟨gp, 0, none⟩ = some (.int .i64 kp.id) ∧ X.cell? ⟨gp, 1, none⟩ = some (.slice kp.ra kp.rs.length kp.rc) ∧ X.cell? ⟨gp, 2, none⟩ = some (.slice kp.da kp.ds.length kp.dc) ∧ X.cell? ⟨gp, 3, none⟩ = some (.slice kp.va kp.vs.length kp.vc)) ∧ (X.cell? ⟨gq, 0, none⟩ = some (.int .i64 kq.id) ∧ X.cell? ⟨gq, 1, none⟩ = some (.slice kq.ra kq.rs.length kq.rc) ∧ X.cell? ⟨gq, 2, none⟩ = some (.slice kq.da kq.ds.length kq.dc) ∧ X.cell? ⟨gq, 3, none⟩ = some (.slice kq.va kq.vs.length kq.vc)) ∧ OffK gk w23 X) := fun X hX => (by
                          have hw := HWR.out X (HQ23.out.trans (hX.below HGk.out HQ23.out.size))
                          have np : gp ≠ gk := Nat.ne_of_gt HGp1.out
                          have nq : gq ≠ gk := Nat.ne_of_gt HGq1.out
                          exact ⟨hw.1, ⟨hX.cell e0 np, hX.cell e1 np, hX.cell e2 np, hX.cell e3 np⟩, ⟨hX.cell f0 nq, hX.cell f1 nq, hX.cell f2 nq, hX.cell f3 nq⟩, hX⟩)
                        refine reg33_any k kp kq Z f lg pa pc gk gp gq _ _ i w23 hlt HJb23 HO1 HOJ HN (fun _ _ _ _ _ h => h) (fun k _ _ _ _ _ _ _ _ _ _ _ _ X fo fb fx fk => ?_)
                        go_wp2_with fail
                        go_meet
                        exact ⟨k, rfl, fo, fb, fx, fk⟩
                      case rest =>
                        obtain ⟨k, rfl, HOw, HJw, HJA, HJq⟩ := hcut
                        rename World => w24
                        have HQ24 : Hid _ := HQ23.out.trans (HOw.out.below HGk.out HQ23.out.size)
                        obtain ⟨_, ⟨c0, c1, c2, c3⟩, hzA, _, hbo⟩ := HWR.out w24 HQ24.out
                        obtain ⟨j0, j1, j2, j3⟩ := row_four HJw.out
                        have HZA24 : Hid (Z.At w24) := hzA
                        have HBo24 : Hid (Below w16.heap.size w16 w24) := hbo
                        clear hzA hbo n0 n1 n2 n3 n4 d0 d1 d2 d3 e0 e1 e2 e3 f0 f1 f2 f3
                        have HSC : Hid (Calls Tryd.prog 13 #[.agg #[.int .i64 k.id, .slice k.ra k.rs.length k.rc, .slice k.da k.ds.length k.dc, .slice k.va k.vs.length k.vc], .agg #[.int .i64 Z.id, .slice Z.ra Z.rs.length Z.rc, .slice Z.da Z.ds.length Z.dc, .slice Z.va Z.vs.length Z.vc]] w24.drew fun e w' => e = .returned (.bool true) ∧ Below w24.heap.size w24 w') := (by
                          have lr := HF.out.lr
                          have ld := HF.out.ld
                          have lv := HF.out.lv
                          obtain ⟨e0, e1, e2, e3⟩ := HJq.out
                          have hA := HJA.out.keep (Below.refl _ _).drew
                          have hZ := HZA24.out.keep (Below.refl _ _).drew
                          refine (sameColumn_any k.id Z.id k.ra Z.ra k.da Z.da k.va Z.va k.rc Z.rc k.dc Z.dc k.vc Z.vc k.rs Z.rs k.ds Z.ds k.vs Z.vs w24.drew (by rw [e1]; unfold maxLen; omega) (by rw [e2]; unfold maxLen; omega) (by rw [e3]; unfold maxLen; omega) hA.r hZ.r hA.d hZ.d hA.v hZ.v).mono ?_
                          rintro e w' ⟨⟨b, rfl, hb⟩, hb'⟩
                          have hbt : b = true := hb.2 ⟨by rw [e0, HF.out.id], e1, e2, e3⟩
                          exact ⟨by rw [hbt], (Below.refl _ _).drew.trans hb'⟩)
                        go_upto_region 34 with fail
                        go_cut [265] (fun x wx => x = .bool false ∧ Hid (Below w24.heap.size w24 wx))
                        case first => as_aux_lemma =>
                          have b0 : Below w24.heap.size w24 w24 := Below.refl _ _
                          have HN : Hid (∀ X, Below w24.heap.size w24 X → (X.cell? ⟨gk, 0, none⟩ = some (.int .i64 k.id) ∧ X.cell? ⟨gk, 1, none⟩ = some (.slice k.ra k.rs.length k.rc) ∧ X.cell? ⟨gk, 2, none⟩ = some (.slice k.da k.ds.length k.dc) ∧ X.cell? ⟨gk, 3, none⟩ = some (.slice k.va k.vs.length k.vc)) ∧ (X.cell? ⟨zb, zo + i * 4, none⟩ = some (.int .i64 Z.id) ∧ X.cell? ⟨zb, zo + i * 4 + 1, none⟩ = some (.slice Z.ra Z.rs.length Z.rc) ∧ X.cell? ⟨zb, zo + i * 4 + 2, none⟩ = some (.slice Z.da Z.ds.length Z.dc) ∧ X.cell? ⟨zb, zo + i * 4 + 3, none⟩ = some (.slice Z.va Z.vs.length Z.vc)) ∧ Below w24.heap.size w24 X) := fun X hX => (by
                            have kk : ∀ (ad : Addr) (u : Value), w24.cell? ad = some u → X.cell? ad = some u := fun ad u h => (hX.cell (World.block_lt_of_cell? w24 _ h)).trans h
                            exact ⟨⟨kk _ _ j0, kk _ _ j1, kk _ _ j2, kk _ _ j3⟩, ⟨kk _ _ c0, kk _ _ c1, kk _ _ c2, kk _ _ c3⟩, hX⟩)
                          go_region_held3 (fun X => (X.cell? ⟨gk, 0, none⟩ = some (.int .i64 k.id) ∧ X.cell? ⟨gk, 1, none⟩ = some (.slice k.ra k.rs.length k.rc) ∧ X.cell? ⟨gk, 2, none⟩ = some (.slice k.da k.ds.length k.dc) ∧ X.cell? ⟨gk, 3, none⟩ = some (.slice k.va k.vs.length k.vc)) ∧ (X.cell? ⟨zb, zo + i * 4, none⟩ = some (.int .i64 Z.id) ∧ X.cell? ⟨zb, zo + i * 4 + 1, none⟩ = some (.slice Z.ra Z.rs.length Z.rc) ∧ X.cell? ⟨zb, zo + i * 4 + 2, none⟩ = some (.slice Z.da Z.ds.length Z.dc) ∧ X.cell? ⟨zb, zo + i * 4 + 3, none⟩ = some (.slice Z.va Z.vs.length Z.vc)) ∧ Below w24.heap.size w24 X) (with_reducible refine HN.out _ ?_; repeat' (first | with_reducible assumption | with_reducible exact b0.drew | with_reducible exact b0 | with_reducible refine Below.drew ?_ | with_reducible exact Nat.le_refl _ | with_reducible refine Below.setCell ?_ ?_ _ | with_reducible refine Below.alloc ?_ ?_ _ | with_reducible exact Below.size (by assumption) | (simp; done) | (simp; omega) | omega)) (first
                            | (go_at_call 13; refine Calls.mono HSC.out ?_; rintro e x1' ⟨rfl, hbx1⟩))
                          all_goals
                            go_wp2_with fail
                            go_meet
                            exact ⟨by simp, hbx1⟩
                        case rest =>
                          obtain ⟨rfl, HBz⟩ := hcut
                          rename World => w25
                          have HBf : Hid (Below w16.heap.size w16 w25) := HBo24.out.trans (HBz.out.mono HBo24.out.size)
                          go_wp2_with fail
                          go_roundw
                          case rel => exact ⟨i + 1, by omega, by go_num, HBf⟩
                          case measure => simp [intOf]; omega
end Go.Proofs.YtdpedailookcjaaDoor
