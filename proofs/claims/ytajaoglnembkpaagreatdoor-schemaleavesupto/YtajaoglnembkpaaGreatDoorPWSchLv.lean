/-
  The walk of SchemaLeaves.
-/
import Derived.Test.YtajaoglnembkpaaGreatDoorPLvOf
import Derived.Test.YtajaoglnembkpaaGreatDoorPBSErr
import Derived.Test.YtajaoglnembkpaaGreatDoorPWErr4
import Derived.Test.YtajaoglnembkpaaGreatDoorPSameLies
import Derived.Deep.RegionHeld3
namespace Go.Proofs.YtajaoglnembkpaaGreatDoor
open Go.RowKit
set_option maxRecDepth 100000 in
set_option maxHeartbeats 3200000 in
/-- Leaves of a schema that is not right: its error. -/
theorem leaves_err (t : Tr) (n : Nat) (hd : t.Dp n) (hn : n ≤ 1100000) (hs : t.Sm) (a : Option Addr) (c : Nat) (P : Nat → Prop) (W : World) (hl : LiesN W P a t.sub) (hcap : t.sub.length ≤ c) (eb es en : TypeId × Value) (he : Er3 W eb es en) (ty : TypeId) (v : Value) (hx : vldV (.iface eb.1 eb.2) (.iface es.1 es.2) (.iface en.1 en.2) t = .iface ty v) :
    Calls Tryz.prog 7 #[nodeV t a c] W fun e w' => e = .returned (.tuple #[.slice none 0 0, .iface ty v]) ∧ Below W.heap.size W w' := by
  obtain ⟨w0, HW0, HX, HB⟩ := one_box W #[.int .i64 t.id, .string t.nm, .int .i64 t.rep, .int .i64 t.kind, .slice a t.sub.length c] 24
  have HV := valid_any t n hd hn hs a c P w0 (hl.keep HB.out) hcap eb es en (he.keep HB.out).b (he.keep HB.out).s (he.keep HB.out).n
  rw [hx] at HV
  have HV : Hid _ := HV
  obtain ⟨⟨p0, p1, p2, p3, p4⟩, _⟩ := row_five HX.out
  clear hl hd hs he hx
  unfold nodeV
  go_enter Tryz.func7, Tryz.ntmps7
  go_wp2_with fail
  rw [HW0.out]
  refine Calls.mono HV.out ?_
  rintro e w1 ⟨rfl, hb1⟩
  have HB1 : Hid (Below W.heap.size W w1) := HB.out.trans (hb1.mono HB.out.size)
  clear hb1 p0 p1 p2 p3 p4
  go_wp2
  go_ret2
  exact ⟨rfl, HB1.out⟩
set_option maxRecDepth 100000 in
set_option maxHeartbeats 3200000 in
/-- The law's leafOf of one leaf in two places. -/
theorem leafOfL_any (f : Lf) (pa : Option Addr) (pc : Nat) (qa : Option Addr) (qc : Nat) (W : World) (h1 : Lies W pa (i64s f.path)) (h2 : Lies W qa (i64s f.path)) (hm : f.path.length ≤ maxLen) :
    Calls Tryz.prog 11 #[.agg #[.int .i64 f.id, .int .i64 f.kind, .int .i64 (f.mr : Nat), .int .i64 (f.md : Nat), .slice pa f.path.length pc], .agg #[.int .i64 f.id, .int .i64 f.kind, .int .i64 (f.mr : Nat), .int .i64 (f.md : Nat), .slice qa f.path.length qc]] W fun e w' => e = .returned (.bool true) ∧ Below W.heap.size W w' := by
  obtain ⟨w0, HW0, HX, HY, HB⟩ := two_boxesS W #[.int .i64 f.id, .int .i64 f.kind, .int .i64 (f.mr : Nat), .int .i64 (f.md : Nat), .slice pa f.path.length pc] #[.int .i64 f.id, .int .i64 f.kind, .int .i64 (f.mr : Nat), .int .i64 (f.md : Nat), .slice qa f.path.length qc] 40 41
  have HC : Hid (Calls Tryz.prog 22 #[.slice pa f.path.length pc, .slice qa f.path.length qc] w0 fun e w' => e = .returned (.bool true) ∧ Below w0.heap.size w0 w') := sameInts_lies w0 pa qa pc qc f.path f.path hm (h1.keep HB.out) (h2.keep HB.out) (by simp)
  obtain ⟨⟨p0, p1, p2, p3, p4⟩, _⟩ := row_five HX.out
  obtain ⟨⟨q0, q1, q2, q3, q4⟩, _⟩ := row_five HY.out
  clear h1 h2 hm
  go_enter Tryz.func11, Tryz.ntmps11
  go_upto_region 1 with fail
  rw [HW0.out]
  go_wp2_with fail
  refine Calls.mono HC.out ?_
  rintro e w1 ⟨rfl, hb1⟩
  have HB1 : Hid (Below W.heap.size W w1) := HB.out.trans (hb1.mono HB.out.size)
  clear hb1
  go_wp2
  go_ret
  exact ⟨rfl, HB1.out⟩
set_option maxRecDepth 100000 in
set_option maxHeartbeats 6400000 in
theorem schemaLeaves_walk (t : Tr) (a : Option Addr) (c : Nat) (P : Nat → Prop) (n : Nat) (hd : t.Dp n) (hn : n ≤ 1100000) (hs : t.Sm) (W : World) (hl : LiesN W P a t.sub) (A : Nat → Addr) (hA : Errs W A) (htab : Lib.TabIs Tryz.prog W "internal/strconv.uint64pow10" .u64 Lib.pow10Tab) :
    Calls Tryz.prog 3 #[nodeV t a c] W fun e w' => e = .returned (.bool true) ∧ Below W.heap.size W w' := by
  obtain ⟨w0, HW0, HX, HB⟩ := one_box W #[.int .i64 t.id, .string t.nm, .int .i64 t.rep, .int .i64 t.kind, .slice a t.sub.length c] 24
  have HL : Hid (LiesN W P a t.sub) := hl
  have HEr : Hid (∀ w, Below W.heap.size W w → Errs w A) := fun w hb => hA.keep hb
  have HTb : Hid (∀ w, Below W.heap.size W w → Lib.TabIs Tryz.prog w "internal/strconv.uint64pow10" .u64 Lib.pow10Tab) := fun w hb => tab_keep htab hb
  have HSm : Hid t.Sm := hs
  have HD : Hid (t.Dp n) := hd
  have HLf : Hid (Calls Tryz.prog 4 #[] w0 fun e w' => e = .returned (.bool true) ∧ Below w0.heap.size w0 w') := leaf_any w0 _ _ _ (HEr.out w0 HB.out).er3 (HTb.out w0 HB.out)
  clear hl hA htab hs hd
  unfold nodeV
  go_enter Tryz.func3, Tryz.ntmps3
  go_wp2_with fail
  rw [HW0.out]
  refine Calls.mono HLf.out ?_
  rintro e w1 ⟨rfl, hb1⟩
  have HB1 : Hid (Below W.heap.size W w1) := HB.out.trans (hb1.mono HB.out.size)
  have HX1 : Hid (w1.heap[W.heap.size]? = some (.cells #[.int .i64 t.id, .string t.nm, .int .i64 t.rep, .int .i64 t.kind, .slice a t.sub.length c] 24 (0, 0))) := blk_keep hb1 HX.out
  clear hb1 HLf
  obtain ⟨⟨p0, p1, p2, p3, p4⟩, _⟩ := row_five HX1.out
  go_wp2_with fail
  refine Calls.mono (tame_any t HSm.out P a c w1 (HL.out.keep HB1.out)) ?_
  rintro e w2 ⟨rfl, hb2⟩
  have HB2 : Hid (Below W.heap.size W w2) := HB1.out.trans (hb2.mono HB1.out.size)
  have HX2 : Hid (w2.heap[W.heap.size]? = some (.cells #[.int .i64 t.id, .string t.nm, .int .i64 t.rep, .int .i64 t.kind, .slice a t.sub.length c] 24 (0, 0))) := blk_keep hb2 HX1.out
  clear hb2 p0 p1 p2 p3 p4
  obtain ⟨⟨p0, p1, p2, p3, p4⟩, _⟩ := row_five HX2.out
  obtain ⟨tm, HTm⟩ := hid_name (decide ((fl t).length ≤ 200 ∧ nmS (fl t) ≤ 4000))
  rw [HTm.out]
  cases tm with
  | false =>
    go_wp2
    go_ret
    exact ⟨rfl, HB2.out⟩
  | true =>
    go_wp2_with fail
    refine Calls.mono (schemaError_any t HSm.out P a c w2 (HL.out.keep HB2.out)) ?_
    rintro e w3 ⟨rfl, hb3⟩
    have HB3 : Hid (Below W.heap.size W w3) := HB2.out.trans (hb3.mono HB2.out.size)
    have HX3 : Hid (w3.heap[W.heap.size]? = some (.cells #[.int .i64 t.id, .string t.nm, .int .i64 t.rep, .int .i64 t.kind, .slice a t.sub.length c] 24 (0, 0))) := blk_keep hb3 HX2.out
    clear hb3 p0 p1 p2 p3 p4
    obtain ⟨⟨p0, p1, p2, p3, p4⟩, _⟩ := row_five HX3.out
    go_wp2_with fail
    refine Calls.mono (ownNode_any _ t (Nat.lt_succ_self _) HSm.out P a c w3 (HL.out.keep HB3.out)) ?_
    rintro e w4 ⟨⟨a4, c4, rfl, hl4, hc4⟩, hb4⟩
    have HB4 : Hid (Below W.heap.size W w4) := HB3.out.trans (hb4.mono HB3.out.size)
    have HX4 : Hid (w4.heap[W.heap.size]? = some (.cells #[.int .i64 t.id, .string t.nm, .int .i64 t.rep, .int .i64 t.kind, .slice a t.sub.length c] 24 (0, 0))) := blk_keep hb4 HX3.out
    have HL4 : Hid (LiesN w4 (fun b => w3.heap.size ≤ b) a4 t.sub) := hl4
    clear hb4 hl4 p0 p1 p2 p3 p4
    by_cases hv : vldN t = 0
    · obtain ⟨r1, r2, r3, r4, r5⟩ := right_parts hv
      have hk0 : t.kind = 0 := (of_decide_eq_true r2).2.2.2
      have HLe : Hid (Calls Tryz.prog 7 #[nodeV t a4 c4] w4 fun e w' => (∃ lv, e = .returned (.tuple #[lv, .nilIface]) ∧ LvX 40 w' w4.heap.size lv (lvL [] t.sub)) ∧ Below w4.heap.size w4 w') := (by
        have h := leaves_right t n HD.out hn HSm.out a4 c4 _ w4 HL4.out hc4 _ _ _ (HEr.out w4 HB4.out).er3.b (HEr.out w4 HB4.out).er3.s (HEr.out w4 HB4.out).er3.n hv
        rw [lvs_right t hk0] at h
        exact h)
      have HLo : Hid (∀ w, Below W.heap.size W w → Calls Tryz.prog 10 #[nodeV t a c] w fun e w' => (∃ lv, e = .returned lv ∧ LvX 41 w' w.heap.size lv (lvL [] t.sub)) ∧ Below w.heap.size w w') := fun w hb => leavesOf_any t HSm.out r1 P a c w (HL.out.keep hb)
      have hll : (lvL [] t.sub).length ≤ 40 := by
        have h1 := (dpB t 0 [] r1).2.1
        rw [Tr.cnt_eq] at h1
        rw [lvL_zip]
        have h2 : ∀ l : List (Tr × List Tr), (l.flatMap lfG).length ≤ l.length := fun l => by
          induction l with
          | nil => simp
          | cons x l ih =>
            rw [List.flatMap_cons, List.length_append, List.length_cons]
            have : (lfG x).length ≤ 1 := by unfold lfG; split <;> simp
            omega
        have h3 := h2 ((ndL t.sub).zip (ppL [] t.sub))
        rw [List.length_zip, ndL_len, ppL_len] at h3
        omega
      have HSe : Hid (seN t = 0) := right_se hv
      obtain ⟨ls, HLs⟩ := hid_name (lvL [] t.sub)
      rw [HLs.out] at HLe HLo hll
      rw [HSe.out]
      clear hv r1 r2 r3 r4 r5 hk0
      go_wp2_with fail
      refine Calls.mono HLe.out ?_
      rintro e w5 ⟨⟨lv, rfl, hlv⟩, hb5⟩
      have HB5 : Hid (Below W.heap.size W w5) := HB4.out.trans (hb5.mono HB4.out.size)
      have HX5 : Hid (w5.heap[W.heap.size]? = some (.cells #[.int .i64 t.id, .string t.nm, .int .i64 t.rep, .int .i64 t.kind, .slice a t.sub.length c] 24 (0, 0))) := blk_keep hb5 HX4.out
      obtain ⟨la, lc, rfl⟩ : ∃ la lc, lv = .slice la ls.length lc := (by obtain ⟨pvs, _, h2, _⟩ := hlv; exact own_slC h2)
      have HV5 : Hid (LvX 40 w5 w4.heap.size (.slice la ls.length lc) ls) := hlv
      clear hb5 hlv HLe
      obtain ⟨⟨p0, p1, p2, p3, p4⟩, _⟩ := row_five HX5.out
      go_wp2_with fail
      refine Calls.mono (HLo.out w5 HB5.out) ?_
      rintro e w6 ⟨⟨lv2, rfl, hlv2⟩, hb6⟩
      have HB6 : Hid (Below W.heap.size W w6) := HB5.out.trans (hb6.mono HB5.out.size)
      obtain ⟨ma, mc, rfl⟩ : ∃ ma mc, lv2 = .slice ma ls.length mc := (by obtain ⟨pvs, _, h2, _⟩ := hlv2; exact own_slC h2)
      have HV6 : Hid (LvX 40 w6 w4.heap.size (.slice la ls.length lc) ls) := HV5.out.keep hb6
      have HR6 : Hid (LvX 41 w6 w5.heap.size (.slice ma ls.length mc) ls) := hlv2
      clear hb6 hlv2 HLo p0 p1 p2 p3 p4
      go_wp2_with fail
      go_loopw [8] (fun x wr => ∃ i : Nat, i ≤ ls.length ∧ x = .int .i64 i ∧ Hid (Below w6.heap.size w6 wr)) (fun x _ => ls.length - (intOf x).toNat)
      case atStart => exact ⟨0, Nat.zero_le _, rfl, Below.refl _ _⟩
      case round =>
        obtain ⟨i, hik, rfl, HBr⟩ := hrel
        by_cases hlt : i < ls.length
        · obtain ⟨g1, pa, pc, rfl, d0, d1, d2, d3, d4, hp1, hm1⟩ := (HV6.out.keep HBr.out).at_ i hlt
          obtain ⟨g2, qa, qc, rfl, e0, e1, e2, e3, e4, hp2, _⟩ := (HR6.out.keep HBr.out).at_ i hlt
          have HC : Hid (Calls Tryz.prog 11 #[.agg #[.int .i64 ls[i].id, .int .i64 ls[i].kind, .int .i64 (ls[i].mr : Nat), .int .i64 (ls[i].md : Nat), .slice pa ls[i].path.length pc], .agg #[.int .i64 ls[i].id, .int .i64 ls[i].kind, .int .i64 (ls[i].mr : Nat), .int .i64 (ls[i].md : Nat), .slice qa ls[i].path.length qc]] wr.drew fun e w' => e = .returned (.bool true) ∧ Below wr.drew.heap.size wr.drew w') := leafOfL_any ls[i] pa pc qa qc wr.drew hp1 hp2 hm1
          clear hp1 hp2 hm1
          have b10 : Below wr.heap.size wr wr := Below.refl _ _
          have HN : Hid (∀ X, Below wr.heap.size wr X → (X.cell? ⟨g1, i * 5, none⟩ = some (.int .i64 ls[i].id) ∧ X.cell? ⟨g1, i * 5 + 1, none⟩ = some (.int .i64 ls[i].kind) ∧ X.cell? ⟨g1, i * 5 + 2, none⟩ = some (.int .i64 (ls[i].mr : Nat)) ∧ X.cell? ⟨g1, i * 5 + 3, none⟩ = some (.int .i64 (ls[i].md : Nat)) ∧ X.cell? ⟨g1, i * 5 + 4, none⟩ = some (.slice pa ls[i].path.length pc)) ∧ (X.cell? ⟨g2, i * 5, none⟩ = some (.int .i64 ls[i].id) ∧ X.cell? ⟨g2, i * 5 + 1, none⟩ = some (.int .i64 ls[i].kind) ∧ X.cell? ⟨g2, i * 5 + 2, none⟩ = some (.int .i64 (ls[i].mr : Nat)) ∧ X.cell? ⟨g2, i * 5 + 3, none⟩ = some (.int .i64 (ls[i].md : Nat)) ∧ X.cell? ⟨g2, i * 5 + 4, none⟩ = some (.slice qa ls[i].path.length qc)) ∧ Below wr.heap.size wr X) := fun X hX => (by
            have k : ∀ (ad : Addr) (v : Value), wr.cell? ad = some v → X.cell? ad = some v := fun ad v h => (hX.cell (World.block_lt_of_cell? wr _ h)).trans h
            exact ⟨⟨k _ _ d0, k _ _ d1, k _ _ d2, k _ _ d3, k _ _ d4⟩, ⟨k _ _ e0, k _ _ e1, k _ _ e2, k _ _ e3, k _ _ e4⟩, hX⟩)
          go_upto_region 14 with fail
          go_region_held3 (fun X => (X.cell? ⟨g1, i * 5, none⟩ = some (.int .i64 ls[i].id) ∧ X.cell? ⟨g1, i * 5 + 1, none⟩ = some (.int .i64 ls[i].kind) ∧ X.cell? ⟨g1, i * 5 + 2, none⟩ = some (.int .i64 (ls[i].mr : Nat)) ∧ X.cell? ⟨g1, i * 5 + 3, none⟩ = some (.int .i64 (ls[i].md : Nat)) ∧ X.cell? ⟨g1, i * 5 + 4, none⟩ = some (.slice pa ls[i].path.length pc)) ∧ (X.cell? ⟨g2, i * 5, none⟩ = some (.int .i64 ls[i].id) ∧ X.cell? ⟨g2, i * 5 + 1, none⟩ = some (.int .i64 ls[i].kind) ∧ X.cell? ⟨g2, i * 5 + 2, none⟩ = some (.int .i64 (ls[i].mr : Nat)) ∧ X.cell? ⟨g2, i * 5 + 3, none⟩ = some (.int .i64 (ls[i].md : Nat)) ∧ X.cell? ⟨g2, i * 5 + 4, none⟩ = some (.slice qa ls[i].path.length qc)) ∧ Below wr.heap.size wr X) (first | (with_reducible refine HN.out _ ?_; repeat' (first | with_reducible assumption | with_reducible exact b10.drew | with_reducible exact b10))) (first | (go_at_call 11; refine Calls.mono HC.out ?_; rintro e w7 ⟨rfl, hb7⟩; have hbb : Below wr.heap.size wr w7 := (Below.refl _ _).drew.trans hb7))
          all_goals
            have HBn : Hid (Below w6.heap.size w6 w7) := HBr.out.trans (hbb.mono HBr.out.size)
            clear hbb
            go_wp2
            go_roundw
            case rel => exact ⟨i + 1, by omega, by go_num, HBn⟩
            case measure => simp [intOf]; omega
        · obtain rfl : i = ls.length := by omega
          go_wp2
          go_ret
          exact ⟨rfl, HB6.out.trans (HBr.out.mono HB6.out.size)⟩
    · obtain ⟨i, hi, hx, hse⟩ := wrong_err A hv
      have HLe : Hid _ := leaves_err t n HD.out hn HSm.out a4 c4 _ w4 HL4.out hc4 _ _ _ (HEr.out w4 HB4.out).er3 _ _ hx
      have HCd : Hid (∀ w : World, Below W.heap.size W w → Calls Tryz.prog 9 #[errV (A i), .int .i64 ((seN t : Nat) : Int)] w fun e w' => e = .returned (.bool true) ∧ Below w.heap.size w w') := fun w hb => coded_sent w A (HEr.out w hb) i hi _ true (by rw [hse]; simp)
      obtain ⟨sn, HSn⟩ := hid_name (seN t)
      have hsn : 0 < sn := by rw [← HSn.out, hse]; omega
      have q0 : decide ((0 : Int) < (sn : Int)) = true := by simp; omega
      have q1 : decide (0 < sn) = true := by simp; omega
      rw [HSn.out] at HCd
      rw [HSn.out]
      clear hv hx hse
      go_wp2_with fail
      refine Calls.mono HLe.out ?_
      rintro e w5 ⟨rfl, hb5⟩
      have HB5 : Hid (Below W.heap.size W w5) := HB4.out.trans (hb5.mono HB4.out.size)
      clear hb5 HLe
      go_wp2_with fail
      refine Calls.mono (HCd.out w5 HB5.out) ?_
      rintro e w6 ⟨rfl, hb6⟩
      have HB6 : Hid (Below W.heap.size W w6) := HB5.out.trans (hb6.mono HB5.out.size)
      clear hb6
      go_wp2
      go_ret
      exact ⟨rfl, HB6.out⟩
end Go.Proofs.YtajaoglnembkpaaGreatDoor
