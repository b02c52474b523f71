/-
  The walk of the law EncBest.
  EncBest, for whatever kind and slice of values.
-/
import Derived.Test.YtjchkhdmjbojjaaDoorKWPlain
import Derived.Test.YtjchkhdmjbojjaaDoorKDictOf
import Derived.Test.YtjchkhdmjbojjaaDoorKBBestF
import Derived.Test.YtjchkhdmjbojjaaDoorKBPrefVals
import Derived.Test.YtjchkhdmjbojjaaDoorKBOpenVals
namespace Go.Proofs.YtjchkhdmjbojjaaDoor
open Go.RowKit
set_option maxRecDepth 100000 in
set_option maxHeartbeats 3200000 in
theorem encBest_walk (kd : Int) (a : Option Addr) (c : Nat) (vs : List Vl) (w : World) (A : Nat → Addr) (hE : Errs w A) (hm : vs.length ≤ maxLen) (hl : LiesV w a vs) (hin : ∀ v ∈ vs, v.In) :
    Calls Tryd.prog 4 #[.int .i64 kd, .slice a vs.length c] w fun e w' => e = .returned (.bool true) ∧ Below w.heap.size w w' := by
  have HA : Hid (Errs w A) := hE
  have HL : Hid (LiesV w a vs) := hl
  have HI : Hid (∀ v ∈ vs, v.In) := hin
  have HM : Hid (vs.length ≤ maxLen) := hm
  unfold maxLen at hm
  clear hE hl hin
  go_enter Tryd.func4, Tryd.ntmps4
  go_wp2_with fail
  refine (four_any _ _ _ _ _ (ec HA.out 3 (by omega)) (ec HA.out 2 (by omega))).mono ?_
  rintro e w1 ⟨rfl, hb1⟩
  go_wp2_with fail
  refine (small_any a vs c w1 HM.out (HL.out.keep hb1)).mono ?_
  rintro e w2 ⟨⟨b, rfl, hsm⟩, hw⟩
  obtain rfl := hw.symm
  cases b with
  | false =>
    go_wp2_with fail
    go_ret
    exact ⟨rfl, hb1⟩
  | true =>
    have hs1 := hsm rfl
    clear hsm
    go_wp2_with fail
    refine (valuesError_any a c vs kd w1 (by omega) (HL.out.keep hb1)).mono ?_
    rintro e w2 ⟨⟨fc, fa, rfl, hve⟩, hb2⟩
    have HV : Hid (VE kd vs vs.length fc fa) := hve
    clear hve
    have hb12 := hb1.trans (hb2.mono hb1.size)
    go_wp2_with fail
    refine (values_any a c vs _ (by omega) (HL.out.keep (hb12.alloc hb12.size _))).mono ?_
    rintro e w3 ⟨⟨a3, c3, rfl, hl3⟩, hb3⟩
    have hb13 := (hb12.alloc hb12.size (.cells (rfl2 fc fa) 26)).trans (hb3.mono (hb12.alloc hb12.size _).size)
    have hE3 := HA.out.keep hb13
    have HE3 : Hid (Errs w3 A) := hE3
    have HL3 : Hid (LiesV w3 a3 vs) := hl3
    clear hE3 hl3
    have HRow : Hid (w3.heap[w2.heap.size]? = some (.cells (rfl2 fc fa) 26 (0, 0))) := (hb3.block w2.heap.size (by simp)).trans (heap_alloc_new w2 _)
    by_cases hfc : fc = 0
    · have HR : Hid (Right kd vs) := ve_right HV.out HI.out hfc
      subst hfc
      go_wp2_with fail
      obtain ⟨us, ps, hu⟩ := Uq.ex _ vs rfl
      have HU : Hid (Uq vs us ps) := hu
      clear hu
      refine (best_right a3 vs c3 kd w3 _ _ _ _ _ _ (ec HE3.out 3 (by omega)) (ec HE3.out 2 (by omega)) (ec HE3.out 1 (by omega)) hs1 HL3.out HR.out us ps HU.out).mono ?_
      rintro e w4 ⟨rfl, hb4⟩
      have hb14 := hb13.trans (hb4.mono hb13.size)
      obtain ⟨⟨q0, q1⟩, _, _⟩ := row_two (blk_keep hb4 HRow.out)
      go_wp2_with fail
      refine (bestOf_any a vs c kd w4 hs1 (HL.out.keep hb14) HR.out us ps HU.out).mono ?_
      rintro e w5 ⟨rfl, hb5⟩
      go_wp2_with fail
      go_ret
      exact ⟨ret_b (by simp), hb14.trans (hb5.mono hb14.size)⟩
    · have hp0 : 0 < fc := by
        rcases HV.out with ⟨h, _⟩ | ⟨h, _⟩ | ⟨p, hp, h, _⟩ <;> omega
      have hc4 : fc = 4 := by
        rcases HV.out with ⟨h, _⟩ | ⟨h, _⟩ | ⟨p, hp, h, _⟩ <;> omega
      clear hfc hp0
      subst hc4
      rcases HV.out with ⟨h, _⟩ | ⟨_, hat, hk⟩ | ⟨p, hp, _, hat, hk, hbad, hf⟩
      · exact absurd h (by omega)
      · subst hat
        have HK : Hid (¬ (1 ≤ kd ∧ kd ≤ 5)) := hk
        clear hk
        go_wp2_with fail
        refine (best_kind a3 vs.length c3 kd w3 _ _ (by omega) (ec HE3.out 3 (by omega)) HK.out).mono ?_
        rintro e w4 ⟨rfl, hb4⟩
        have hb14 := hb13.trans (hb4.mono hb13.size)
        obtain ⟨⟨q0, q1⟩, _, _⟩ := row_two (blk_keep hb4 HRow.out)
        go_wp2_with fail
        refine (faulted_sent w4 A (HE3.out.keep hb4) 3 (by omega) 4 (by omega)).mono ?_
        rintro e w5 ⟨rfl, hb5⟩
        go_wp2_with fail
        go_ret
        exact ⟨rfl, hb14.trans (hb5.mono hb14.size)⟩
      · subst hat
        have HB : Hid (¬ vs[p].Ok kd) := hbad
        have HF : Hid (∀ j (h : j < vs.length), j < p → vs[j].Ok kd) := hf
        clear hbad hf
        go_wp2_with fail
        refine (best_fault a3 vs c3 kd w3 _ _ (ec HE3.out 3 (by omega)) (by omega) hk.1 hk.2 HL3.out p hp HB.out HF.out).mono ?_
        rintro e w4 ⟨⟨pp, rfl, hp0, hp1⟩, hb4⟩
        have H0 : Hid _ := hp0
        have H1 : Hid _ := hp1
        clear hp0 hp1
        have hb14 := hb13.trans (hb4.mono hb13.size)
        obtain ⟨⟨q0, q1⟩, _, _⟩ := row_two (blk_keep hb4 HRow.out)
        go_wp2_with fail
        refine (faulted_fault w4 A (HE3.out.keep hb4) 3 pp (by omega) p H0.out H1.out 4 (by omega)).mono ?_
        rintro e w5 ⟨rfl, hb5⟩
        go_wp2_with fail
        go_ret
        exact ⟨rfl, hb14.trans (hb5.mono hb14.size)⟩
end Go.Proofs.YtjchkhdmjbojjaaDoor

namespace Go.Proofs.YtjchkhdmjbojjaaDoor
open Go.RowKit
theorem encBest_top (kd : Int) (a : Option Addr) (n c : Nat) (vs : List Vl) (w : World) (e1 : vs.length = n) (m1 : n ≤ maxLen) (l1 : LiesV w a vs) (b1 : ∀ v ∈ vs, v.In) (hL : laidMetH Tryd.prog Rows.encBestRow.laid w) :
    Calls Tryd.prog 4 #[.int .i64 kd, .slice a n c] w fun e w' => e = .returned (.bool true) ∧ Below w.heap.size w w' := by
  obtain ⟨A, hE⟩ := errs_of hL
  subst e1
  exact encBest_walk kd a c vs w A hE m1 l1 b1
end Go.Proofs.YtjchkhdmjbojjaaDoor
