/-
  The walk of SchemaTexts.
-/
import Derived.Test.YtopagfjimbdbdaaGreatDoorPSErr2
import Derived.Test.YtopagfjimbdbdaaGreatDoorPSRef2
import Derived.Test.YtopagfjimbdbdaaGreatDoorPSLeaf
import Derived.Test.YtopagfjimbdbdaaGreatDoorPLaid8
import Derived.Lib.LaidTab
namespace Go.Proofs.YtopagfjimbdbdaaGreatDoor
open Go.RowKit
set_option maxRecDepth 100000 in
set_option maxHeartbeats 3200000 in
/-- Text of a schema that is not right: its error. -/
theorem text_err (t : Tr) (n : Nat) (hd : t.Dp n) (hn : n ≤ 1100000) (hs : t.Sm) (a : Option Addr) (c : Nat) (P : Nat → Prop) (W : World) (hl : LiesN W P a t.sub) (hcap : t.sub.length ≤ c) (eb es en : TypeId × Value) (he : Er3 W eb es en) (ty : TypeId) (v : Value) (hx : vldV (.iface eb.1 eb.2) (.iface es.1 es.2) (.iface en.1 en.2) t = .iface ty v) :
    Calls Tryz.prog 7 #[nodeV t a c] W fun e w' => e = .returned (.tuple #[.string ⟨#[]⟩, .iface ty v]) ∧ Below W.heap.size W w' := by
  obtain ⟨w0, HW0, HX, HB⟩ := one_box W #[.int .i64 t.id, .string t.nm, .int .i64 t.rep, .int .i64 t.kind, .slice a t.sub.length c] 24
  have HV := valid_any t n hd hn hs a c P w0 (hl.keep HB.out) hcap eb es en (he.keep HB.out).b (he.keep HB.out).s (he.keep HB.out).n
  rw [hx] at HV
  have HV : Hid _ := HV
  obtain ⟨⟨p0, p1, p2, p3, p4⟩, _⟩ := row_five HX.out
  clear hl hd hs he hx
  unfold nodeV
  go_enter Tryz.func7, Tryz.ntmps7
  go_wp2_with fail
  rw [HW0.out]
  refine Calls.mono HV.out ?_
  rintro e w1 ⟨rfl, hb1⟩
  have HB1 : Hid (Below W.heap.size W w1) := HB.out.trans (hb1.mono HB.out.size)
  clear hb1 p0 p1 p2 p3 p4
  go_wp2
  go_ret2
  exact ⟨rfl, HB1.out⟩
theorem wrong_err {t : Tr} (A : Nat → Addr) (h : vldN t ≠ 0) : ∃ i, i < 8 ∧ vldV (errV (A 1)) (errV (A 2)) (errV (A 4)) t = errV (A i) ∧ seN t = i + 1 := by
  have hs := seN_eq t
  unfold vldN at h hs
  unfold vldV
  split
  · rename_i h1
    rw [if_pos h1] at hs
    exact ⟨1, by omega, rfl, by rw [hs]; rfl⟩
  · rename_i h1
    rw [if_neg h1] at h hs
    split
    · rename_i h2
      rw [if_pos h2] at hs
      exact ⟨2, by omega, rfl, by rw [hs]; rfl⟩
    · rename_i h2
      rw [if_neg h2] at h hs
      split
      · rename_i h3
        rw [if_pos h3] at hs
        exact ⟨4, by omega, rfl, by rw [hs]; rfl⟩
      · rename_i h3
        rw [if_neg h3] at h
        exact absurd rfl h
theorem right_se {t : Tr} (h : vldN t = 0) : seN t = 0 := by rw [seN_eq, h]; rfl
theorem Errs.er3 {W : World} {A : Nat → Addr} (h : Errs W A) : Er3 W (154, .pointer (some (A 1))) (154, .pointer (some (A 2))) (154, .pointer (some (A 4))) :=
  ⟨(h.at_ 1 (by omega)).var, (h.at_ 2 (by omega)).var, (h.at_ 4 (by omega)).var⟩
set_option maxRecDepth 100000 in
set_option maxHeartbeats 6400000 in
theorem schemaTexts_walk (t : Tr) (a : Option Addr) (c : Nat) (P : Nat → Prop) (n : Nat) (hd : t.Dp n) (hn : n ≤ 1100000) (hs : t.Sm) (W : World) (hl : LiesN W P a t.sub) (A : Nat → Addr) (hA : Errs W A) (htab : Lib.TabIs Tryz.prog W "internal/strconv.uint64pow10" .u64 Lib.pow10Tab) :
    Calls Tryz.prog 3 #[nodeV t a c] W fun e w' => e = .returned (.bool true) ∧ Below W.heap.size W w' := by
  obtain ⟨w0, HW0, HX, HB⟩ := one_box W #[.int .i64 t.id, .string t.nm, .int .i64 t.rep, .int .i64 t.kind, .slice a t.sub.length c] 24
  have HL : Hid (LiesN W P a t.sub) := hl
  have HEr : Hid (∀ w, Below W.heap.size W w → Errs w A) := fun w hb => hA.keep hb
  have HTb : Hid (∀ w, Below W.heap.size W w → Lib.TabIs Tryz.prog w "internal/strconv.uint64pow10" .u64 Lib.pow10Tab) := fun w hb => tab_keep htab hb
  have HSm : Hid t.Sm := hs
  have HD : Hid (t.Dp n) := hd
  have HLf : Hid (Calls Tryz.prog 4 #[] w0 fun e w' => e = .returned (.bool true) ∧ Below w0.heap.size w0 w') := leaf_any w0 _ _ _ (HEr.out w0 HB.out).er3 (HTb.out w0 HB.out)
  clear hl hA htab hs hd
  unfold nodeV
  go_enter Tryz.func3, Tryz.ntmps3
  go_wp2_with fail
  rw [HW0.out]
  refine Calls.mono HLf.out ?_
  rintro e w1 ⟨rfl, hb1⟩
  have HB1 : Hid (Below W.heap.size W w1) := HB.out.trans (hb1.mono HB.out.size)
  have HX1 : Hid (w1.heap[W.heap.size]? = some (.cells #[.int .i64 t.id, .string t.nm, .int .i64 t.rep, .int .i64 t.kind, .slice a t.sub.length c] 24 (0, 0))) := blk_keep hb1 HX.out
  clear hb1 HLf
  obtain ⟨⟨p0, p1, p2, p3, p4⟩, _⟩ := row_five HX1.out
  go_wp2_with fail
  refine Calls.mono (tame_any t HSm.out P a c w1 (HL.out.keep HB1.out)) ?_
  rintro e w2 ⟨rfl, hb2⟩
  have HB2 : Hid (Below W.heap.size W w2) := HB1.out.trans (hb2.mono HB1.out.size)
  have HX2 : Hid (w2.heap[W.heap.size]? = some (.cells #[.int .i64 t.id, .string t.nm, .int .i64 t.rep, .int .i64 t.kind, .slice a t.sub.length c] 24 (0, 0))) := blk_keep hb2 HX1.out
  clear hb2 p0 p1 p2 p3 p4
  obtain ⟨⟨p0, p1, p2, p3, p4⟩, _⟩ := row_five HX2.out
  obtain ⟨tm, HTm⟩ := hid_name (decide ((fl t).length ≤ 200 ∧ nmS (fl t) ≤ 4000))
  rw [HTm.out]
  cases tm with
  | false =>
    go_wp2
    go_ret
    exact ⟨rfl, HB2.out⟩
  | true =>
    go_wp2_with fail
    refine Calls.mono (schemaError_any t HSm.out P a c w2 (HL.out.keep HB2.out)) ?_
    rintro e w3 ⟨rfl, hb3⟩
    have HB3 : Hid (Below W.heap.size W w3) := HB2.out.trans (hb3.mono HB2.out.size)
    have HX3 : Hid (w3.heap[W.heap.size]? = some (.cells #[.int .i64 t.id, .string t.nm, .int .i64 t.rep, .int .i64 t.kind, .slice a t.sub.length c] 24 (0, 0))) := blk_keep hb3 HX2.out
    clear hb3 p0 p1 p2 p3 p4
    obtain ⟨⟨p0, p1, p2, p3, p4⟩, _⟩ := row_five HX3.out
    go_wp2_with fail
    refine Calls.mono (ownNode_any _ t (Nat.lt_succ_self _) HSm.out P a c w3 (HL.out.keep HB3.out)) ?_
    rintro e w4 ⟨⟨a4, c4, rfl, hl4, hc4⟩, hb4⟩
    have HB4 : Hid (Below W.heap.size W w4) := HB3.out.trans (hb4.mono HB3.out.size)
    have HX4 : Hid (w4.heap[W.heap.size]? = some (.cells #[.int .i64 t.id, .string t.nm, .int .i64 t.rep, .int .i64 t.kind, .slice a t.sub.length c] 24 (0, 0))) := blk_keep hb4 HX3.out
    have HL4 : Hid (LiesN w4 (fun b => w3.heap.size ≤ b) a4 t.sub) := hl4
    clear hb4 hl4 p0 p1 p2 p3 p4
    have HOwn : Hid (∀ w, Below W.heap.size W w → Calls Tryz.prog 8 #[nodeV t a c] w fun e w' => (∃ a' c', e = .returned (nodeV t a' c') ∧ LiesN w' (fun b => w.heap.size ≤ b) a' t.sub ∧ t.sub.length ≤ c') ∧ Below w.heap.size w w') := fun w hb => ownNode_any _ t (Nat.lt_succ_self _) HSm.out P a c w (HL.out.keep hb)
    by_cases hv : vldN t = 0
    · have HTx : Hid _ := text_right t n HD.out hn HSm.out a4 c4 _ w4 HL4.out hc4 _ _ _ (HEr.out w4 HB4.out).er3 (HTb.out w4 HB4.out) hv
      have HVd : Hid (∀ (w : World) (a' : Option Addr) (c' : Nat) (P' : Nat → Prop), Below W.heap.size W w → LiesN w P' a' t.sub → t.sub.length ≤ c' → Calls Tryz.prog 10 #[nodeV t a' c'] w fun e w' => e = .returned .nilIface ∧ Below w.heap.size w w') := fun w a' c' P' hb hl hc => (by
        have h := valid_any t n HD.out hn HSm.out a' c' P' w hl hc _ _ _ (HEr.out w hb).er3.b (HEr.out w hb).er3.s (HEr.out w hb).er3.n
        rw [vldV_right _ _ _ hv] at h
        exact h)
      have HST : Hid (∀ w : World, Below W.heap.size W w → Calls Tryz.prog 11 #[nodeV t a c] w fun e w' => e = .returned (.string ⟨(ntL [] t.sub).toArray⟩) ∧ Below w.heap.size w w') := fun w hb => schemaText_any t HSm.out hv a c P w (HL.out.keep hb)
      have HSe : Hid (seN t = 0) := right_se hv
      obtain ⟨x9, HX9⟩ := hid_name (⟨(ntL [] t.sub).toArray⟩ : ByteArray)
      rw [HX9.out] at HTx HST
      rw [HSe.out]
      clear hv
      go_wp2_with fail
      refine Calls.mono HTx.out ?_
      rintro e w5 ⟨rfl, hb5⟩
      have HB5 : Hid (Below W.heap.size W w5) := HB4.out.trans (hb5.mono HB4.out.size)
      have HX5 : Hid (w5.heap[W.heap.size]? = some (.cells #[.int .i64 t.id, .string t.nm, .int .i64 t.rep, .int .i64 t.kind, .slice a t.sub.length c] 24 (0, 0))) := blk_keep hb5 HX4.out
      clear hb5 HTx
      obtain ⟨⟨p0, p1, p2, p3, p4⟩, _⟩ := row_five HX5.out
      go_wp2_with fail
      refine Calls.mono (HOwn.out w5 HB5.out) ?_
      rintro e w6 ⟨⟨a6, c6, rfl, hl6, hc6⟩, hb6⟩
      have HB6 : Hid (Below W.heap.size W w6) := HB5.out.trans (hb6.mono HB5.out.size)
      have HX6 : Hid (w6.heap[W.heap.size]? = some (.cells #[.int .i64 t.id, .string t.nm, .int .i64 t.rep, .int .i64 t.kind, .slice a t.sub.length c] 24 (0, 0))) := blk_keep hb6 HX5.out
      have HL6 : Hid (LiesN w6 (fun b => w5.heap.size ≤ b) a6 t.sub) := hl6
      clear hb6 hl6 p0 p1 p2 p3 p4
      go_wp2_with fail
      refine Calls.mono (HVd.out w6 a6 c6 _ HB6.out HL6.out hc6) ?_
      rintro e w7 ⟨rfl, hb7⟩
      have HB7 : Hid (Below W.heap.size W w7) := HB6.out.trans (hb7.mono HB6.out.size)
      have HX7 : Hid (w7.heap[W.heap.size]? = some (.cells #[.int .i64 t.id, .string t.nm, .int .i64 t.rep, .int .i64 t.kind, .slice a t.sub.length c] 24 (0, 0))) := blk_keep hb7 HX6.out
      clear hb7
      go_wp2_with fail
      refine Calls.mono (coded_nil w7 0 true rfl) ?_
      rintro e w8 ⟨rfl, hw⟩
      obtain rfl := hw.symm
      obtain ⟨⟨p0, p1, p2, p3, p4⟩, _⟩ := row_five HX7.out
      go_wp2_with fail
      refine Calls.mono (HST.out _ HB7.out) ?_
      rintro e w9 ⟨rfl, hb9⟩
      have HB9 : Hid (Below W.heap.size W w9) := HB7.out.trans (hb9.mono HB7.out.size)
      clear hb9
      go_wp2
      go_ret
      exact ⟨rfl, HB9.out⟩
    · obtain ⟨i, hi, hx, hse⟩ := wrong_err A hv
      have HTx : Hid _ := text_err t n HD.out hn HSm.out a4 c4 _ w4 HL4.out hc4 _ _ _ (HEr.out w4 HB4.out).er3 _ _ hx
      have HVd : Hid (∀ (w : World) (a' : Option Addr) (c' : Nat) (P' : Nat → Prop), Below W.heap.size W w → LiesN w P' a' t.sub → t.sub.length ≤ c' → Calls Tryz.prog 10 #[nodeV t a' c'] w fun e w' => e = .returned (errV (A i)) ∧ Below w.heap.size w w') := fun w a' c' P' hb hl hc => (by
        have h := valid_any t n HD.out hn HSm.out a' c' P' w hl hc _ _ _ (HEr.out w hb).er3.b (HEr.out w hb).er3.s (HEr.out w hb).er3.n
        rw [hx] at h
        exact h)
      have HCd : Hid (∀ w : World, Below W.heap.size W w → Calls Tryz.prog 9 #[errV (A i), .int .i64 ((seN t : Nat) : Int)] w fun e w' => e = .returned (.bool true) ∧ Below w.heap.size w w') := fun w hb => coded_sent w A (HEr.out w hb) i hi _ true (by rw [hse]; simp)
      obtain ⟨sn, HSn⟩ := hid_name (seN t)
      have hsn : 0 < sn := by rw [← HSn.out, hse]; omega
      have q0 : decide ((0 : Int) < (sn : Int)) = true := by simp; omega
      rw [HSn.out] at HCd
      rw [HSn.out]
      clear hv hx hse
      go_wp2_with fail
      refine Calls.mono HTx.out ?_
      rintro e w5 ⟨rfl, hb5⟩
      have HB5 : Hid (Below W.heap.size W w5) := HB4.out.trans (hb5.mono HB4.out.size)
      have HX5 : Hid (w5.heap[W.heap.size]? = some (.cells #[.int .i64 t.id, .string t.nm, .int .i64 t.rep, .int .i64 t.kind, .slice a t.sub.length c] 24 (0, 0))) := blk_keep hb5 HX4.out
      clear hb5 HTx
      obtain ⟨⟨p0, p1, p2, p3, p4⟩, _⟩ := row_five HX5.out
      go_wp2_with fail
      refine Calls.mono (HOwn.out w5 HB5.out) ?_
      rintro e w6 ⟨⟨a6, c6, rfl, hl6, hc6⟩, hb6⟩
      have HB6 : Hid (Below W.heap.size W w6) := HB5.out.trans (hb6.mono HB5.out.size)
      have HL6 : Hid (LiesN w6 (fun b => w5.heap.size ≤ b) a6 t.sub) := hl6
      clear hb6 hl6 p0 p1 p2 p3 p4
      go_wp2_with fail
      refine Calls.mono (HVd.out w6 a6 c6 _ HB6.out HL6.out hc6) ?_
      rintro e w7 ⟨rfl, hb7⟩
      have HB7 : Hid (Below W.heap.size W w7) := HB6.out.trans (hb7.mono HB6.out.size)
      clear hb7
      go_wp2_with fail
      refine Calls.mono (HCd.out w7 HB7.out) ?_
      rintro e w8 ⟨rfl, hb8⟩
      have HB8 : Hid (Below W.heap.size W w8) := HB7.out.trans (hb8.mono HB7.out.size)
      clear hb8
      go_wp2_with fail
      refine Calls.mono (HCd.out w8 HB8.out) ?_
      rintro e w9 ⟨rfl, hb9⟩
      have HB9 : Hid (Below W.heap.size W w9) := HB8.out.trans (hb9.mono HB8.out.size)
      clear hb9
      go_wp2
      go_ret
      exact ⟨rfl, HB9.out⟩
end Go.Proofs.YtopagfjimbdbdaaGreatDoor
