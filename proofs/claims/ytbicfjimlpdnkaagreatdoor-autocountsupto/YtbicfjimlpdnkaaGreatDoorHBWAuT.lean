/-
  The walk of AutoCounts.
  AutoCounts, from what its row lists.
-/
import Derived.Test.YtbicfjimlpdnkaaGreatDoorHBShredX
import Derived.Test.YtbicfjimlpdnkaaGreatDoorHLnAny
import Derived.Test.YtbicfjimlpdnkaaGreatDoorHBOwnN
import Derived.Test.YtbicfjimlpdnkaaGreatDoorHLightD
import Derived.Test.YtbicfjimlpdnkaaGreatDoorHBOwnDt
import Derived.Test.YtbicfjimlpdnkaaGreatDoorHBColK2
import Derived.Test.YtbicfjimlpdnkaaGreatDoorHSent
import Derived.Test.YtbicfjimlpdnkaaGreatDoorRows
import Derived.Test.YtbicfjimlpdnkaaGreatDoorHBOpenNode
namespace Go.Proofs.YtbicfjimlpdnkaaGreatDoor
open Go.RowKit
/-- How often each number below one stands in a list. -/
def cnv (S : List Nat) (n : Nat) : Array Value := ((List.range n).map fun j => Value.int .i64 ((S.count j : Nat) : Int)).toArray
theorem cnv_size (S : List Nat) (n : Nat) : (cnv S n).size = n := by simp [cnv]
theorem cnv_at (S : List Nat) (n j : Nat) (h : j < n) : (cnv S n)[j]? = some (.int .i64 ((S.count j : Nat) : Int)) := by
  unfold cnv
  rw [List.getElem?_toArray, List.getElem?_map, List.getElem?_range h]
  rfl
theorem cnv_start (n : Nat) (M : Array Value) (hs : M.size = n) (hz : ∀ j, j < n → M[j]? = some (.int .i64 0)) : M = cnv [] n := by
  apply Array.ext
  · rw [hs, cnv_size]
  · intro j h1 h2
    have h := hz j (by omega)
    have h3 := cnv_at [] n j (by omega)
    rw [Array.getElem?_eq_getElem h1] at h
    rw [Array.getElem?_eq_getElem h2] at h3
    rw [Option.some.inj h, Option.some.inj h3]
    rfl
theorem cnv_set (S : List Nat) (n k : Nat) : (cnv S n).setIfInBounds k (.int .i64 (((S.count k : Nat) : Int) + 1)) = cnv (S ++ [k]) n := by
  apply Array.ext
  · rw [Array.size_setIfInBounds, cnv_size, cnv_size]
  · intro j h1 h2
    rw [cnv_size] at h2
    have h3 := cnv_at (S ++ [k]) n j h2
    have h4 := cnv_at S n j h2
    rw [Array.getElem?_eq_getElem (by rw [cnv_size]; exact h2)] at h3 h4
    rw [Option.some.inj h3]
    by_cases e : j = k
    · subst e
      rw [Array.getElem_setIfInBounds_self, List.count_append]
      simp
    · rw [Array.getElem_setIfInBounds_ne (by rw [cnv_size]; exact h2) (fun e2 => e e2.symm), Option.some.inj h4, List.count_append]
      have : ([k] : List Nat).count j = 0 := List.count_eq_zero.2 (by simpa using e)
      rw [this, Nat.add_zero]
set_option maxRecDepth 100000 in
set_option maxHeartbeats 12800000 in
theorem autoCounts_walk (eb es ek en : TypeId × Value) (t : Tr) (n : Nat) (hd : t.Dp n) (hn : n ≤ 1100000) (hs : t.Sm) (P PA : Nat → Prop) (ra : Option Addr) (rc : Nat) (A : List Dt) (aa : Option Addr) (ac : Nat) (W : World) (he : EC W eb es ek) (hen : W.cell? ⟨2, 0, none⟩ = some (.iface en.1 en.2)) (hl : LiesN W P ra t.sub) (hlA : LiesD W PA aa A) (hA1 : A.length ≤ 1048576) (hA2 : wtL A ≤ 1048576) (hA3 : ∀ j (h : j < A.length), A[j].Sm) :
    Calls Tryz.prog 3 #[nodeV t ra rc, .slice aa A.length ac] W fun e w' => e = .returned (.bool true) ∧ Below W.heap.size W w' := by
  obtain ⟨iv, hvi, hv0, hv1, hv2⟩ := info_parts Tryz.infoI
  obtain ⟨QF, ZF, hq⟩ := pick_ways t
  have HQ : Hid (vldN t = 0 → ∀ j (h : j < (lvsT t).length), LfG t (lvsT t)[j] (QF j) (ZF j)) := hq
  obtain ⟨w0, HW0, HX0, HB0⟩ := one_box W #[.int .i64 t.id, .string t.nm, .int .i64 t.rep, .int .i64 t.kind, .slice ra t.sub.length rc] 24
  have HEr : Hid (∀ X, Below W.heap.size W X → EC X eb es ek) := fun X hX => he.keep hX
  have HEn : Hid (∀ X, Below W.heap.size W X → X.cell? ⟨2, 0, none⟩ = some (.iface en.1 en.2)) := fun X hX => (hX.cell (World.block_lt_of_cell? W _ hen)).trans hen
  have HL : Hid (LiesN W P ra t.sub) := hl
  have HLA : Hid (LiesD W PA aa A) := hlA
  have HSm : Hid t.Sm := hs
  have HD : Hid (t.Dp n) := hd
  have HA3 : Hid (∀ j (h : j < A.length), A[j].Sm) := hA3
  have HLn : Hid _ := line_any w0 eb es en ⟨(he.keep HB0.out).b, (he.keep HB0.out).s, HEn.out w0 HB0.out⟩
  clear he hen hl hlA hs hd hA3 hq
  unfold nodeV
  go_enter Tryz.func3, Tryz.ntmps3
  go_wp2_with fail
  rw [HW0.out]
  refine Calls.mono HLn.out ?_
  rintro e w1 ⟨rfl, hb1⟩
  have HB1 : Hid (Below W.heap.size W w1) := HB0.out.trans (hb1.mono HB0.out.size)
  have HX1 : Hid _ := blk_keep hb1 HX0.out
  clear hb1 HLn
  obtain ⟨⟨p0, p1, p2, p3, p4⟩, _⟩ := row_five HX1.out
  go_wp2_with fail
  refine Calls.mono (tame_any t HSm.out P ra rc w1 (HL.out.keep HB1.out)) ?_
  rintro e w2 ⟨rfl, hb2⟩
  have HB2 : Hid (Below W.heap.size W w2) := HB1.out.trans (hb2.mono HB1.out.size)
  have HX2 : Hid _ := blk_keep hb2 HX1.out
  clear hb2 p0 p1 p2 p3 p4
  obtain ⟨tm, HTm⟩ := hid_name (decide ((fl t).length ≤ 200 ∧ nmS (fl t) ≤ 4000))
  rw [HTm.out]
  cases tm with
  | false =>
    go_wp2
    go_ret
    exact ⟨rfl, HB2.out⟩
  | true =>
    go_wp2_with fail
    refine Calls.mono (light_any A hA1 hA2 HA3.out PA aa ac w2 (HLA.out.keep HB2.out)) ?_
    rintro e w3 ⟨rfl, hb3⟩
    have HB3 : Hid (Below W.heap.size W w3) := HB2.out.trans (hb3.mono HB2.out.size)
    have HX3 : Hid _ := blk_keep hb3 HX2.out
    clear hb3
    obtain ⟨la, HLa⟩ := hid_name (decide (A.length ≤ 150) && decide (wtL A ≤ 3000))
    rw [HLa.out]
    cases la with
    | false =>
      go_wp2
      go_ret
      exact ⟨rfl, HB3.out⟩
    | true =>
      have hA4 : A.length ≤ 150 ∧ wtL A ≤ 3000 := (by have := HLa.out; simp at this; exact this)
      obtain ⟨⟨p0, p1, p2, p3, p4⟩, _⟩ := row_five HX3.out
      go_wp2_with fail
      refine Calls.mono (ownNode_any _ t (Nat.lt_succ_self _) HSm.out P ra rc w3 (HL.out.keep HB3.out)) ?_
      rintro e w4 ⟨⟨na4, nc4, rfl, hl4, hc4⟩, hb4⟩
      have HB4 : Hid (Below W.heap.size W w4) := HB3.out.trans (hb4.mono HB3.out.size)
      have HX4 : Hid _ := blk_keep hb4 HX3.out
      have HL4 : Hid (LiesN w4 (fun b => b < w4.heap.size) na4 t.sub) := hl4.stay (fun b _ h => h) (fun _ _ _ => rfl)
      clear hb4 hl4 p0 p1 p2 p3 p4
      go_wp2_with fail
      refine Calls.mono (ownData_of A hA1 (fun j h => ownsD _ (HA3.out j h)) PA aa ac w4 (HLA.out.keep HB4.out)) ?_
      rintro e w5 ⟨⟨da5, dc5, rfl, hl5⟩, hb5⟩
      have HB5 : Hid (Below W.heap.size W w5) := HB4.out.trans (hb5.mono HB4.out.size)
      have HX5 : Hid _ := blk_keep hb5 HX4.out
      have HD5 : Hid (LiesD w5 (fun b => b < w5.heap.size) da5 A) := hl5.stay (fun b _ h => h) (fun _ _ _ => rfl)
      have HN5 : Hid (LiesN w5 (fun b => b < w5.heap.size) na4 t.sub) := HL4.out.stay (fun b _ h => Nat.lt_of_lt_of_le h hb5.size) (fun b _ h => hb5.block b h)
      clear hb5 hl5
      go_wp2_with fail
      refine Calls.mono (shred_all eb es ek en t n HD.out hn HSm.out QF ZF HQ.out A HA3.out (by omega) na4 nc4 hc4 da5 dc5 w5 (HEr.out _ HB5.out) (HEn.out _ HB5.out) HN5.out HD5.out) ?_
      rintro e w6 ⟨⟨ov6, ev6, rfl, hsr6⟩, hb6⟩
      have HB6 : Hid (Below W.heap.size W w6) := HB5.out.trans (hb6.mono HB5.out.size)
      have HX6 : Hid _ := blk_keep hb6 HX5.out
      clear hb6
      rcases hsr6 with ⟨ty, v, rfl, rfl⟩ | ⟨rfl, hv, hck, hcr⟩
      · go_wp2
        go_ret
        exact ⟨rfl, HB6.out⟩
      · obtain ⟨ca, cc, ks, rfl, hlc, has⟩ := asCols_shred (HQ.out hv) hck (by omega) hcr
        have HV : Hid (vldN t = 0) := hv
        have HCk : Hid (∀ d ∈ A, chk true t d = 0) := hck
        have HLC : Hid (LiesC w6 ca ks) := hlc
        have HAs : Hid (AsCols t QF A ks) := has
        have hkl : ks.length ≤ 1000 := by rw [has.len]; exact lvs_len1 hv
        obtain ⟨⟨p0, p1, p2, p3, p4⟩, _⟩ := row_five HX6.out
        clear hv hck hcr hlc has
        go_wp2_with fail
        refine Calls.mono (ownNode_any _ t (Nat.lt_succ_self _) HSm.out P ra rc w6 (HL.out.keep HB6.out)) ?_
        rintro e w7 ⟨⟨na7, nc7, rfl, hl7, hc7⟩, hb7⟩
        have HB7 : Hid (Below W.heap.size W w7) := HB6.out.trans (hb7.mono HB6.out.size)
        have HL7 : Hid (LiesN w7 (fun b => b < w7.heap.size) na7 t.sub) := hl7.stay (fun b _ h => h) (fun _ _ _ => rfl)
        have HC7 : Hid (LiesC w7 ca ks) := HLC.out.keep hb7
        clear hb7 hl7 p0 p1 p2 p3 p4
        go_wp2_with fail
        refine Calls.mono (ownColumns_any ca cc ks w7 hkl HAs.out.few HC7.out) ?_
        rintro e w8 ⟨⟨a8, c8, k8, rfl, hl8, hn8, hs8⟩, hb8⟩
        have HB8 : Hid (Below W.heap.size W w8) := HB7.out.trans (hb8.mono HB7.out.size)
        have HC8 : Hid (LiesC w8 ca ks) := HC7.out.keep hb8
        have HK8 : Hid (LiesC w8 a8 k8) := hl8
        have HA8 : Hid (AsCols t QF A k8) := HAs.out.same hn8 hs8
        have HTr : Hid _ := trace_right eb es ek en t n HD.out hn HSm.out HV.out QF ZF (HQ.out HV.out) A (by omega) HCk.out k8 na7 nc7 hc7 a8 c8 _ w8 HA8.out (HEr.out _ HB8.out) (HEn.out _ HB8.out) (HL7.out.keep hb8) HK8.out
        have HSr : Hid (∀ j (h : j < ks.length) (h' : j < k8.length), k8[j].rs = ks[j].rs) := fun j h h' => (hs8 j h' h).rs
        have HN8 : Hid (k8.length = ks.length) := hn8
        clear hb8 hl8 hn8 hs8
        go_wp2_with fail
        refine Calls.mono HTr.out ?_
        rintro e w9 ⟨⟨T, a9, c9, rfl, hl9, ht9, hlt9, hcn9⟩, hb9⟩
        have HB9 : Hid (Below W.heap.size W w9) := HB8.out.trans (hb9.mono HB8.out.size)
        have HC9 : Hid (LiesC w9 ca ks) := HC8.out.keep hb9
        have HT9 : Hid (Lies w9 a9 (i64s (T.map fun x => ((x : Nat) : Int)))) := hl9
        have HLt : Hid (∀ x ∈ T, x < ks.length) := fun x hx => by rw [← HN8.out]; exact hlt9 x hx
        have HCn : Hid (∀ j (h : j < ks.length), T.count j = ks[j].rs.length) := fun j h => by rw [hcn9 j (by rw [HN8.out]; exact h), HSr.out j h]
        have HFw : Hid (∀ j (h : j < ks.length), ks[j].rs.length ≤ 20000) := fun j h => (HAs.out.few j h).1
        clear hb9 hl9 hlt9 hcn9 HTr
        obtain ⟨nk, HNk⟩ := hid_name ks.length
        obtain ⟨M, hM⟩ : ∃ M, M = madeCells (Value.int .i64 0).cells (((nk : Nat) : Int).toNat * iv.size) := ⟨_, rfl⟩
        have hMs : M.size = nk := by rw [hM, size_madeCells, hv1]; simp
        have hnk : nk ≤ 1000 := by rw [← HNk.out]; exact hkl
        have hMz : M = cnv [] nk := cnv_start nk M hMs fun j hj => by
          have h1 : j < M.size := by omega
          rw [Array.getElem?_eq_getElem h1]
          subst hM
          congr 1
          simp [madeCells, Value.cells, Nat.mod_one]
        have hmk : ∀ W : World, (Instr.makeSlice 36 (.int .i64 (nk : Int)) (.int .i64 (nk : Int))).run Tryz.prog W = .ok (.slice (some ⟨W.heap.size, 0, none⟩) nk nk) (W.alloc (.cells (cnv [] nk) 3)) := fun W => by
          have h := run_make (P := Tryz.prog) W 36 3 iv (.int .i64 0) Tryz.underlying36 hvi hv0 .i64 .i64 (nk : Int) (nk : Int) (by omega) (by omega) (by rw [hv2]; omega) (by omega)
          rw [← hM, hMz] at h
          simpa using h
        clear hM hMs hMz hkl
        rw [HNk.out] at HLt ⊢
        have HS : Hid ((w9.alloc (.cells (cnv [] nk) 3)).heap[w9.heap.size]? = some (.cells (cnv [] nk) 3 (0, 0))) := heap_alloc_new w9 _
        go_wp2_with fail
        clear hmk
        go_loopw [10] (fun x wr => ∃ i : Nat, i ≤ T.length ∧ x = .int .i64 i ∧ Hid (wr.heap[w9.heap.size]? = some (.cells (cnv (T.take i) nk) 3 (0, 0))) ∧ Hid (Below w9.heap.size w9 wr)) (fun x _ => T.length - (intOf x).toNat)
        case atStart => exact ⟨0, Nat.zero_le _, rfl, HS, (Below.refl _ _).alloc (Nat.le_refl _) _⟩
        case round =>
          clear HS
          obtain ⟨i, hi, rfl, HM, HBr⟩ := hrel
          by_cases hlt : i < T.length
          · obtain ⟨b, o, ea, hc⟩ := (HT9.out.keep HBr.out) i (by simpa [i64s] using hlt)
            subst ea
            have hc2 : wr.cell? ⟨b, o + i, none⟩ = some (.int .i64 ((T[i] : Nat) : Int)) := by simpa [i64s] using hc
            have hx := HLt.out T[i] (List.getElem_mem hlt)
            have hcs := HM.out
            have c1 : wr.cell? ⟨w9.heap.size, T[i], none⟩ = some (.int .i64 (((T.take i).count T[i] : Nat) : Int)) := by rw [cell_of_row _ _ _ _ _ _ HM.out]; exact cnv_at _ _ _ hx
            have f1 : wr.frozen? ⟨w9.heap.size, T[i], none⟩ = false := frozen_of_row _ _ _ _ _ HM.out
            have hq : (T.take i).count T[i] ≤ 100000000 := by
              have h1 := List.count_le_length (a := T[i]) (l := T.take i)
              rw [List.length_take] at h1
              omega
            have HS2 : Hid ((wr.setCell ⟨w9.heap.size, T[i], none⟩ (.int .i64 ((((T.take i).count T[i] : Nat) : Int) + 1))).heap[w9.heap.size]? = some (.cells (cnv (T.take (i + 1)) nk) 3 (0, 0))) := by
              show _ = _
              rw [row_setC HM.out, cnv_set, ← List.take_succ_eq_append_getElem hlt]
            clear hc hcs
            obtain ⟨q, HQn⟩ := hid_name ((T.take i).count T[i])
            rw [HQn.out] at c1 hq HS2
            obtain ⟨x, HXn⟩ := hid_name T[i]
            rw [HXn.out] at hc2 hx c1 f1 HS2
            have q1 : decide ((x : Int) < 0) = false := by rw [decide_eq_false_iff_not]; omega
            have q2 : decide ((nk : Int) ≤ (x : Int)) = false := by rw [decide_eq_false_iff_not]; omega
            have q3 : decide (nk ≤ x) = false := by rw [decide_eq_false_iff_not]; omega
            have HB2 : Hid (Below w9.heap.size w9 (wr.setCell ⟨w9.heap.size, x, none⟩ (.int .i64 ((q : Int) + 1)))) := HBr.out.setCell (Nat.le_refl _) _
            go_wp2
            go_roundw
            case rel => exact ⟨i + 1, hlt, by go_num, HS2, HB2⟩
            case measure => simp [intOf]; omega
          · obtain rfl : i = T.length := by omega
            have HM2 : Hid (wr.heap[w9.heap.size]? = some (.cells (cnv T nk) 3 (0, 0))) := by have h := HM.out; rw [List.take_length] at h; exact h
            clear HM
            generalize wr = wA at *
            go_wp2_with fail
            go_loopw [11] (fun x wr => ∃ k : Nat, k ≤ nk ∧ x = .int .i64 k ∧ Hid (Below wA.heap.size wA wr)) (fun x _ => nk - (intOf x).toNat)
            case atStart => exact ⟨0, Nat.zero_le _, rfl, Below.refl _ _⟩
            case round =>
              obtain ⟨k, hk, rfl, HBx⟩ := hrel
              have hbx : Below w9.heap.size w9 wr := HBr.out.trans (HBx.out.mono HBr.out.size)
              have HBW : Hid (Below W.heap.size W wr) := HB9.out.trans (hbx.mono HB9.out.size)
              by_cases hlk : k < nk
              · have hkk : k < ks.length := by rw [HNk.out]; exact hlk
                obtain ⟨⟨b, o, ea, e0, e1, e2, e3⟩, _⟩ := (HC9.out.keep hbx) k hkk
                subst ea
                have hm := blk_keep HBx.out HM2.out
                have c1 : wr.cell? ⟨w9.heap.size, k, none⟩ = some (.int .i64 ((T.count k : Nat) : Int)) := by rw [cell_of_row _ _ _ _ _ _ hm]; exact cnv_at _ _ _ hlk
                rw [HCn.out k hkk] at c1
                obtain ⟨q, HQn⟩ := hid_name ks[k].rs.length
                rw [HQn.out] at c1 e1
                have q1 : ((q : Int) == (q : Int)) = true := by simp
                clear hbx hm
                go_upto_region 20 with fail
                go_quiet (fail)
                go_wp2
                all_goals go_roundw
                case rel => exact ⟨k + 1, hlk, by go_num, below_dN HBx.out _⟩
                case measure => simp [intOf]; omega
              · obtain rfl : k = nk := by omega
                go_wp2
                go_ret
                exact ⟨rfl, HBW.out⟩
end Go.Proofs.YtbicfjimlpdnkaaGreatDoor

namespace Go.Proofs.YtbicfjimlpdnkaaGreatDoor
open Go.RowKit
theorem Tryz.xEb : Tryz.prog.globalNamed "shredcol/api.ErrBound" = some 0 := by kernel_rfl
theorem Tryz.xEbType : (Tryz.prog.globals[0]?).map (·.type) = some 31 := by kernel_rfl
theorem Tryz.xEs : Tryz.prog.globalNamed "shredcol/api.ErrShape" = some 1 := by kernel_rfl
theorem Tryz.xEsType : (Tryz.prog.globals[1]?).map (·.type) = some 31 := by kernel_rfl
theorem Tryz.xEk : Tryz.prog.globalNamed "shredcol/api.ErrKind" = some 3 := by kernel_rfl
theorem Tryz.xEkType : (Tryz.prog.globals[3]?).map (·.type) = some 31 := by kernel_rfl
theorem Tryz.xEn : Tryz.prog.globalNamed "shredcol/api.ErrName" = some 2 := by kernel_rfl
theorem Tryz.xEnType : (Tryz.prog.globals[2]?).map (·.type) = some 31 := by kernel_rfl
theorem auc_laid {W : World} (h : laidMetH Tryz.prog Rows.autoCountsUptoRow.laid W) : ∃ eb es ek en : TypeId × Value, EC W eb es ek ∧ W.cell? ⟨2, 0, none⟩ = some (.iface en.1 en.2) := by
  have h0 : laidMet Tryz.prog Rows.autoCountsUptoRow.laid W := h
  obtain ⟨aEb, sEb⟩ := sent_of Tryz.xEb Tryz.xEbType (text := [115, 104, 114, 101, 100, 99, 111, 108, 58, 32, 98, 111, 117, 110, 100]) _ (List.mem_of_getElem? (i := 0) rfl) h0
  obtain ⟨aEs, sEs⟩ := sent_of Tryz.xEs Tryz.xEsType (text := [115, 104, 114, 101, 100, 99, 111, 108, 58, 32, 115, 104, 97, 112, 101]) _ (List.mem_of_getElem? (i := 1) rfl) h0
  obtain ⟨aEk, sEk⟩ := sent_of Tryz.xEk Tryz.xEkType (text := [115, 104, 114, 101, 100, 99, 111, 108, 58, 32, 107, 105, 110, 100]) _ (List.mem_of_getElem? (i := 2) rfl) h0
  obtain ⟨aEn, sEn⟩ := sent_of Tryz.xEn Tryz.xEnType (text := [115, 104, 114, 101, 100, 99, 111, 108, 58, 32, 110, 97, 109, 101]) _ (List.mem_of_getElem? (i := 3) rfl) h0
  exact ⟨(_, _), (_, _), (_, _), (_, _), ⟨sEb.var, sEs.var, sEk.var⟩, sEn.var⟩
theorem autoCounts_top (t : Tr) (a : Option Addr) (c n : Nat) (P PA : Nat → Prop) (A : List Dt) (aa : Option Addr) (ac : Nat) (W : World) (hd : t.Dp n) (hn : n ≤ 1100000) (hs : t.Sm) (hl : LiesN W P a t.sub) (hlA : LiesD W PA aa A) (hA : A.length ≤ 1048576 ∧ ∀ j (h : j < A.length), A[j].Sm) (hA2 : wtL A ≤ 1048576) (hL : laidMetH Tryz.prog Rows.autoCountsUptoRow.laid W) :
    Calls Tryz.prog 3 #[nodeV t a c, .slice aa A.length ac] W fun e w' => e = .returned (.bool true) ∧ Below W.heap.size W w' := by
  obtain ⟨eb, es, ek, en, h3, h4⟩ := auc_laid hL
  exact autoCounts_walk eb es ek en t n hd hn hs P PA a c A aa ac W h3 h4 hl hlA hA.1 hA2 hA.2
end Go.Proofs.YtbicfjimlpdnkaaGreatDoor
