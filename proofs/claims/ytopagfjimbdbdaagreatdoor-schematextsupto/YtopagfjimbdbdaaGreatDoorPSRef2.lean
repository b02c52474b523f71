/-
  The reference's text of a schema: exact.
-/
import Derived.Test.YtopagfjimbdbdaaGreatDoorPSRef
import Derived.Deep.RegionHeld3
namespace Go.Proofs.YtopagfjimbdbdaaGreatDoor
open Go.RowKit
/-- What the reference's nodesText promises. -/
def RtOK (ts : List Tr) : Prop := ∀ (bl : List UInt8) (P : Nat → Prop) (a : Option Addr) (c : Nat) (W : World), LiesN W P a ts → (∀ t ∈ ts, ∃ d, Rt d t) → (ntL bl ts).length ≤ 1000000 → ts.length ≤ 1048576 →
  Calls Tryz.prog 22 #[.slice a ts.length c, .string ⟨bl.toArray⟩] W fun e w' => e = .returned (.string ⟨(ntL bl ts).toArray⟩) ∧ Below W.heap.size W w'
set_option maxRecDepth 100000 in
set_option maxHeartbeats 12800000 in
theorem rt_of_all (ts : List Tr) (hts : ∀ t ∈ ts, RtOK t.sub) : RtOK ts := fun bl P a c W hl hrt hlen hn => by
  have HL : Hid (LiesN W (fun b => b < W.heap.size) a ts) := hl.stay (fun _ _ h => h) (fun _ _ _ => rfl)
  have HT : Hid (∀ t ∈ ts, RtOK t.sub) := hts
  have HR : Hid (∀ t ∈ ts, ∃ d, Rt d t) := hrt
  obtain ⟨bb, HBL⟩ := hid_name (⟨bl.toArray⟩ : ByteArray)
  rw [HBL.out]
  clear hl hts hrt
  go_enter Tryz.func22, Tryz.ntmps22
  go_wp2_with fail
  go_loopw [5, 6] (fun y x wr => ∃ (i : Nat) (tb : ByteArray), i ≤ ts.length ∧ x = .int .i64 i ∧ y = .string tb ∧ Hid ((⟨(ntL bl (ts.take i)).toArray⟩ : ByteArray) = tb) ∧ Hid (Below W.heap.size W wr)) (fun _ x _ => ts.length - (intOf x).toNat)
  case atStart => exact ⟨0, ⟨#[]⟩, Nat.zero_le _, rfl, rfl, (by show _ = _; rw [List.take_zero, ntL]), Below.refl _ _⟩
  case round =>
    obtain ⟨i, tb, hik, rfl, rfl, HTb, HBr⟩ := hrel
    by_cases hlt : i < ts.length
    · have HLt : Hid _ := ntL_take bl ts i hlt
      have HLe : Hid (((ntL bl (ts.take i)).length + (ntT bl ts[i]).length) ≤ 1000000) := (by
        show _ ≤ _
        have h1 := ntL_le bl ts (i + 1)
        rw [ntL_take bl ts i hlt, List.length_append] at h1
        omega)
      have HNt : Hid _ := ntT_eq bl ts[i]
      obtain ⟨dp, hrt⟩ := HR.out ts[i] (List.getElem_mem hlt)
      obtain ⟨b, o, a1, c1, rfl, d0, d1, d2, d3, d4, hl1⟩ := (HL.out.keep HBr.out).at_ i hlt
      have HL1 : Hid (LiesN wr (fun b => b < W.heap.size) a1 ts[i].sub) := hl1
      have HSub : Hid _ := HT.out ts[i] (List.getElem_mem hlt)
      clear hl1
      generalize ts[i] = t at *
      cases hrt with
      | mk _ id nm rep kind sub hd hi hnm hr hk hg hls each =>
      simp only [Tr.id, Tr.nm, Tr.rep, Tr.kind, Tr.sub] at d0 d1 d2 d3 d4
      have HL2 : Hid (LiesN wr (fun b => b < W.heap.size) a1 sub) := HL1
      have HSub2 : Hid (RtOK sub) := HSub
      have HNt2 : Hid (ntT bl (.node id nm rep kind sub) = bl ++ (hdTx id nm rep kind ++ if kind = 0 then 32 :: 123 :: 10 :: (ntL (bl ++ [32, 32]) sub ++ (bl ++ [125, 10])) else [59, 10])) := HNt
      have HEach : Hid (∀ j (h : j < sub.length), Rt (dp + 1) sub[j]) := each
      have HLs : Hid (sub.length ≤ 1048576) := hls
      have HRw : Hid (∀ w, Calls Tryz.prog 42 #[.int .i64 rep] w fun e w' => e = .returned (.string ⟨(repB rep).toArray⟩) ∧ w' = w) := fun w => repWord_any rep hr w
      have HKw : Hid (∀ w, Calls Tryz.prog 43 #[.int .i64 kind] w fun e w' => e = .returned (.string ⟨(kindB kind).toArray⟩) ∧ w' = w) := fun w => kindWord_any kind hk w
      have HDc : Hid (∀ w, Calls Tryz.prog 44 #[.int .i64 id] w fun e w' => e = .returned (.string ⟨(Lib.itoa id).toArray⟩) ∧ Below w.heap.size w w') := fun w => decimal_any id hi w
      clear HL1 HSub HNt hi hnm hr hk hg each hd hls
      obtain ⟨L0, H0⟩ := hid_name (ntL bl (ts.take i))
      rw [H0.out] at HLt HLe HTb
      obtain ⟨rl, Hrl⟩ := hid_name (repB rep)
      obtain ⟨kl, Hkl⟩ := hid_name (kindB kind)
      obtain ⟨il, Hil⟩ := hid_name (Lib.itoa id)
      have HHd : Hid (hdTx id nm rep kind = rl ++ (32 :: (kl ++ (32 :: (nm.data.toList ++ (32 :: (35 :: il))))))) := (by show _ = _; rw [hdTx, Hrl.out, Hkl.out, Hil.out])
      rw [HHd.out] at HNt2
      rw [Hrl.out] at HRw
      rw [Hkl.out] at HKw
      rw [Hil.out] at HDc
      have hb8 : L0.length + bl.length + rl.length + kl.length + nm.data.toList.length + il.length ≤ 1000000 := by
        have h := HLe.out
        rw [HNt2.out] at h
        simp only [List.length_append, List.length_cons] at h
        omega
      obtain ⟨rb, HRb⟩ := hid_name (⟨rl.toArray⟩ : ByteArray)
      obtain ⟨kb, HKb⟩ := hid_name (⟨kl.toArray⟩ : ByteArray)
      obtain ⟨ib, HIb⟩ := hid_name (⟨il.toArray⟩ : ByteArray)
      obtain ⟨y1, HY1⟩ := hid_name (⟨(L0 ++ bl).toArray⟩ : ByteArray)
      obtain ⟨y2, HY2⟩ := hid_name (⟨(L0 ++ bl ++ rl).toArray⟩ : ByteArray)
      obtain ⟨y3, HY3⟩ := hid_name (⟨(L0 ++ bl ++ rl ++ [32]).toArray⟩ : ByteArray)
      obtain ⟨y4, HY4⟩ := hid_name (⟨(L0 ++ bl ++ rl ++ [32] ++ kl).toArray⟩ : ByteArray)
      obtain ⟨y5, HY5⟩ := hid_name (⟨(L0 ++ bl ++ rl ++ [32] ++ kl ++ [32]).toArray⟩ : ByteArray)
      obtain ⟨y6, HY6⟩ := hid_name (⟨(L0 ++ bl ++ rl ++ [32] ++ kl ++ [32] ++ nm.data.toList).toArray⟩ : ByteArray)
      obtain ⟨y7, HY7⟩ := hid_name (⟨(L0 ++ bl ++ rl ++ [32] ++ kl ++ [32] ++ nm.data.toList ++ [32, 35]).toArray⟩ : ByteArray)
      obtain ⟨y8, HY8⟩ := hid_name (⟨(L0 ++ bl ++ rl ++ [32] ++ kl ++ [32] ++ nm.data.toList ++ [32, 35] ++ il).toArray⟩ : ByteArray)
      rw [HRb.out] at HRw
      rw [HKb.out] at HKw
      rw [HIb.out] at HDc
      have enm : (⟨nm.data.toList.toArray⟩ : ByteArray) = nm := by simp
      have len : ∀ (l m : List UInt8), l.length + m.length ≤ 1000000 → l.length + m.length ≤ 100000000 := fun l m h => by omega
      have hc1 : ∀ W : World, (Op.stringOp .add tb bb).run Tryz.prog W = .ok (.string y1) W := fun W => by
        rw [← HTb.out, ← HBL.out, ← HY1.out]
        exact cat_l L0 bl (by omega) W
      have hc2 : ∀ W : World, (Op.stringOp .add y1 rb).run Tryz.prog W = .ok (.string y2) W := fun W => by
        rw [← HY1.out, ← HRb.out, ← HY2.out]
        exact cat_l _ rl (by simp only [List.length_append]; omega) W
      have hc3 : ∀ W : World, (Op.stringOp .add y2 ⟨#[32]⟩).run Tryz.prog W = .ok (.string y3) W := fun W => by
        rw [← HY2.out, ← HY3.out]
        exact cat_l _ [32] (by simp only [List.length_append, List.length_cons, List.length_nil]; omega) W
      have hc4 : ∀ W : World, (Op.stringOp .add y3 kb).run Tryz.prog W = .ok (.string y4) W := fun W => by
        rw [← HY3.out, ← HKb.out, ← HY4.out]
        exact cat_l _ kl (by simp only [List.length_append, List.length_cons, List.length_nil]; omega) W
      have hc5 : ∀ W : World, (Op.stringOp .add y4 ⟨#[32]⟩).run Tryz.prog W = .ok (.string y5) W := fun W => by
        rw [← HY4.out, ← HY5.out]
        exact cat_l _ [32] (by simp only [List.length_append, List.length_cons, List.length_nil]; omega) W
      have hc6 : ∀ W : World, (Op.stringOp .add y5 nm).run Tryz.prog W = .ok (.string y6) W := fun W => by
        have h := cat_l (L0 ++ bl ++ rl ++ [32] ++ kl ++ [32]) nm.data.toList (by simp only [List.length_append, List.length_cons, List.length_nil]; omega) W
        rw [enm, HY5.out, HY6.out] at h
        exact h
      have hc7 : ∀ W : World, (Op.stringOp .add y6 ⟨#[32, 35]⟩).run Tryz.prog W = .ok (.string y7) W := fun W => by
        rw [← HY6.out, ← HY7.out]
        exact cat_l _ [32, 35] (by simp only [List.length_append, List.length_cons, List.length_nil]; omega) W
      have hc8 : ∀ W : World, (Op.stringOp .add y7 ib).run Tryz.prog W = .ok (.string y8) W := fun W => by
        rw [← HY7.out, ← HIb.out, ← HY8.out]
        exact cat_l _ il (by simp only [List.length_append, List.length_cons, List.length_nil]; omega) W
      clear enm len
      obtain ⟨w1, HW1, HXb, HB1⟩ := one_box wr #[.int .i64 id, .string nm, .int .i64 rep, .int .i64 kind, .slice a1 sub.length c1] 24
      obtain ⟨⟨p0, p1, p2, p3, p4⟩, _⟩ := row_five HXb.out
      have hlw : wr.heap.size < w1.heap.size := lt_of_block HXb.out
      go_upto_region 6 with fail
      rw [HW1.out]
      clear HW1 d0 d1 d2 d3 d4
      have HN : Hid (∀ X, Below w1.heap.size w1 X → (X.cell? ⟨wr.heap.size, 0, none⟩ = some (.int .i64 id) ∧ X.cell? ⟨wr.heap.size, 1, none⟩ = some (.string nm) ∧ X.cell? ⟨wr.heap.size, 2, none⟩ = some (.int .i64 rep) ∧ X.cell? ⟨wr.heap.size, 3, none⟩ = some (.int .i64 kind)) ∧ Below w1.heap.size w1 X) := fun X hX => (by
        have h := (row_five ((hX.block wr.heap.size hlw).trans HXb.out)).1
        exact ⟨⟨h.1, h.2.1, h.2.2.1, h.2.2.2.1⟩, hX⟩)
      have b10 : Below w1.heap.size w1 w1 := Below.refl _ _
      go_region_held3 (fun X => (X.cell? ⟨wr.heap.size, 0, none⟩ = some (.int .i64 id) ∧ X.cell? ⟨wr.heap.size, 1, none⟩ = some (.string nm) ∧ X.cell? ⟨wr.heap.size, 2, none⟩ = some (.int .i64 rep) ∧ X.cell? ⟨wr.heap.size, 3, none⟩ = some (.int .i64 kind)) ∧ Below w1.heap.size w1 X) (first | (with_reducible refine HN.out _ ?_; repeat' (first | with_reducible assumption | with_reducible exact b10.drew | with_reducible exact b10))) (first
        | (go_at_call 42; (with_reducible refine Calls.mono (HRw.out _) ?_); rintro e w' ⟨rfl, hw'⟩; subst hw')
        | (go_at_call 43; (with_reducible refine Calls.mono (HKw.out _) ?_); rintro e w' ⟨rfl, hw'⟩; subst hw')
        | (go_at_call 44; (with_reducible refine Calls.mono (HDc.out _) ?_); rintro e w2 ⟨rfl, hb2⟩; have hbb : Below w1.heap.size w1 w2 := (Below.refl _ _).drew.trans hb2))
      have HBW : Hid (Below W.heap.size W w2) := (HBr.out.trans (HB1.out.mono HBr.out.size)).trans (hbb.mono (HBr.out.trans (HB1.out.mono HBr.out.size)).size)
      have HX2 : Hid (w2.heap[wr.heap.size]? = some (.cells #[.int .i64 id, .string nm, .int .i64 rep, .int .i64 kind, .slice a1 sub.length c1] 24 (0, 0))) := blk_keep hbb HXb.out
      clear hbb b10 HN p0 p1 p2 p3 p4 HB1 HXb hc1 hc2 hc3 hc4 hc5 hc6 hc7 hc8 HRw HKw HDc
      obtain ⟨⟨p0, p1, p2, p3, p4⟩, _⟩ := row_five HX2.out
      obtain ⟨L8, H8⟩ := hid_name (L0 ++ bl ++ rl ++ [32] ++ kl ++ [32] ++ nm.data.toList ++ [32, 35] ++ il)
      have HL8 : Hid (L8 = L0 ++ (bl ++ (rl ++ (32 :: (kl ++ (32 :: (nm.data.toList ++ (32 :: (35 :: il))))))))) := (by show _ = _; rw [← H8.out]; simp)
      have hb9 : L8.length ≤ 1000100 := by
        rw [HL8.out]
        simp only [List.length_append, List.length_cons]
        omega
      rw [H8.out] at HY8
      clear HY1 HY2 HY3 HY4 HY5 HY6 HY7
      by_cases hk0 : kind = 0
      · have q0 : (kind == 0) = true := by simp [hk0]
        have HNt3 := HNt2.out
        rw [if_pos hk0] at HNt3
        have HN3 : Hid _ := HNt3
        obtain ⟨sl, HSL⟩ := hid_name (ntL (bl ++ [32, 32]) sub)
        rw [HSL.out] at HN3
        have hsl : sl.length ≤ 1000000 ∧ bl.length ≤ 1000000 := by
          have h := HLe.out
          rw [HN3.out] at h
          simp only [List.length_append, List.length_cons] at h
          omega
        clear HNt3 HNt2
        obtain ⟨z1, HZ1⟩ := hid_name (⟨(bl ++ [32, 32]).toArray⟩ : ByteArray)
        obtain ⟨z2, HZ2⟩ := hid_name (⟨sl.toArray⟩ : ByteArray)
        obtain ⟨x1, HX1⟩ := hid_name (⟨(L8 ++ [32, 123, 10]).toArray⟩ : ByteArray)
        obtain ⟨x2, HXx2⟩ := hid_name (⟨(L8 ++ [32, 123, 10] ++ sl).toArray⟩ : ByteArray)
        obtain ⟨x3, HX3⟩ := hid_name (⟨(L8 ++ [32, 123, 10] ++ sl ++ bl).toArray⟩ : ByteArray)
        obtain ⟨x4, HX4⟩ := hid_name (⟨(L8 ++ [32, 123, 10] ++ sl ++ bl ++ [125, 10]).toArray⟩ : ByteArray)
        have hc1 : ∀ W : World, (Op.stringOp .add y8 ⟨#[32, 123, 10]⟩).run Tryz.prog W = .ok (.string x1) W := fun W => by
          rw [← HY8.out, ← HX1.out]
          exact cat_l _ [32, 123, 10] (by simp only [List.length_cons, List.length_nil]; omega) W
        have hc2 : ∀ W : World, (Op.stringOp .add bb ⟨#[32, 32]⟩).run Tryz.prog W = .ok (.string z1) W := fun W => by
          rw [← HBL.out, ← HZ1.out]
          exact cat_l _ [32, 32] (by simp only [List.length_cons, List.length_nil]; omega) W
        have hc3 : ∀ W : World, (Op.stringOp .add x1 z2).run Tryz.prog W = .ok (.string x2) W := fun W => by
          rw [← HX1.out, ← HZ2.out, ← HXx2.out]
          exact cat_l _ sl (by simp only [List.length_append, List.length_cons, List.length_nil]; omega) W
        have hc4 : ∀ W : World, (Op.stringOp .add x2 bb).run Tryz.prog W = .ok (.string x3) W := fun W => by
          rw [← HXx2.out, ← HBL.out, ← HX3.out]
          exact cat_l _ bl (by simp only [List.length_append, List.length_cons, List.length_nil]; omega) W
        have hc5 : ∀ W : World, (Op.stringOp .add x3 ⟨#[125, 10]⟩).run Tryz.prog W = .ok (.string x4) W := fun W => by
          rw [← HX3.out, ← HX4.out]
          exact cat_l _ [125, 10] (by simp only [List.length_append, List.length_cons, List.length_nil]; omega) W
        have HL3 : Hid (LiesN w2 (fun b => b < W.heap.size) a1 sub) := HL2.out.stay (fun _ h _ => h) (fun b hb _ => (HBW.out.block b hb).trans (HBr.out.block b hb).symm)
        have HC3 : Hid (Calls Tryz.prog 22 #[.slice a1 sub.length c1, .string z1] w2 fun e w' => e = .returned (.string z2) ∧ Below w2.heap.size w2 w') := (by
          have h := HSub2.out (bl ++ [32, 32]) _ a1 c1 w2 HL3.out (fun t ht => by
            obtain ⟨j, hj, rfl⟩ := List.getElem_of_mem ht
            exact ⟨_, HEach.out j hj⟩) (by rw [HSL.out]; exact hsl.1) HLs.out
          rw [HSL.out, HZ1.out, HZ2.out] at h
          exact h)
        have HFin : Hid ((⟨(ntL bl (ts.take (i + 1))).toArray⟩ : ByteArray) = x4) := (by
          show _ = _
          rw [HLt.out, HN3.out, ← HX4.out, HL8.out]
          congr 2
          simp)
        clear hsl hk0 HN3 HL3
        go_wp2_with fail
        refine Calls.mono HC3.out ?_
        rintro e w4 ⟨rfl, hb4⟩
        have HB4 : Hid (Below W.heap.size W w4) := HBW.out.trans (hb4.mono HBW.out.size)
        clear hb4 HC3
        go_wp2
        go_roundw
        case rel => exact ⟨i + 1, x4, by omega, by go_num, rfl, HFin, HB4⟩
        case measure => simp [intOf]; omega
      · have q0 : (kind == 0) = false := by simp [hk0]
        have HNt3 := HNt2.out
        rw [if_neg hk0] at HNt3
        have HN3 : Hid _ := HNt3
        clear HNt3 HNt2
        obtain ⟨x4, HX4⟩ := hid_name (⟨(L8 ++ [59, 10]).toArray⟩ : ByteArray)
        have hc1 : ∀ W : World, (Op.stringOp .add y8 ⟨#[59, 10]⟩).run Tryz.prog W = .ok (.string x4) W := fun W => by
          rw [← HY8.out, ← HX4.out]
          exact cat_l _ [59, 10] (by simp only [List.length_cons, List.length_nil]; omega) W
        have HFin : Hid ((⟨(ntL bl (ts.take (i + 1))).toArray⟩ : ByteArray) = x4) := (by
          show _ = _
          rw [HLt.out, HN3.out, ← HX4.out, HL8.out]
          congr 2
          simp)
        clear hk0 HN3
        go_wp2
        go_roundw
        case rel => exact ⟨i + 1, x4, by omega, by go_num, rfl, HFin, HBW⟩
        case measure => simp [intOf]; omega
    · obtain rfl : i = ts.length := by omega
      have HE : Hid ((⟨(ntL bl ts).toArray⟩ : ByteArray) = tb) := (by
        have h := HTb.out
        rw [List.take_length] at h
        exact h)
      go_wp2
      go_ret
      exact ⟨by rw [HE.out]; rfl, HBr.out⟩
theorem rt_ok : ∀ (n : Nat) (ts : List Tr), (∀ t ∈ ts, SizeOf.sizeOf t < n) → RtOK ts
  | 0, ts, h => rt_of_all ts fun _ ht => absurd (h _ ht) (Nat.not_lt_zero _)
  | n + 1, ts, h => rt_of_all ts fun t ht => rt_ok n t.sub fun x hx => by
      obtain ⟨j, hj, rfl⟩ := List.getElem_of_mem hx
      have h1 := t.sub_size j hj
      have h2 := h t ht
      omega
set_option maxRecDepth 100000 in
set_option maxHeartbeats 1600000 in
/-- SchemaText of a right schema. -/
theorem schemaText_any (t : Tr) (hs : t.Sm) (hv : vldN t = 0) (a : Option Addr) (c : Nat) (P : Nat → Prop) (W : World) (hl : LiesN W P a t.sub) :
    Calls Tryz.prog 11 #[nodeV t a c] W fun e w' => e = .returned (.string ⟨(ntL [] t.sub).toArray⟩) ∧ Below W.heap.size W w' := by
  obtain ⟨h1, h2, h3, h4, h5⟩ := right_parts hv
  obtain ⟨w0, HW0, HX, HB⟩ := one_box W #[.int .i64 t.id, .string t.nm, .int .i64 t.rep, .int .i64 t.kind, .slice a t.sub.length c] 24
  have HC : Hid (Calls Tryz.prog 22 #[.slice a t.sub.length c, .string ⟨#[]⟩] w0 fun e w' => e = .returned (.string ⟨(ntL [] t.sub).toArray⟩) ∧ Below w0.heap.size w0 w') := rt_ok _ t.sub (fun _ ht => List.sizeOf_lt_of_mem ht) [] P a c w0 (hl.keep HB.out) (fun x hx => ⟨2, rt_subs t hs h1 h3 h4 h5 x hx⟩) (by have := tx_len t hs h1 h3 h4 h5; omega) hs.len
  obtain ⟨⟨p0, p1, p2, p3, p4⟩, _⟩ := row_five HX.out
  obtain ⟨x9, HX9⟩ := hid_name (⟨(ntL [] t.sub).toArray⟩ : ByteArray)
  rw [HX9.out] at HC ⊢
  clear hl hs hv h1 h2 h3 h4 h5
  unfold nodeV
  go_enter Tryz.func11, Tryz.ntmps11
  go_wp2_with fail
  rw [HW0.out]
  refine Calls.mono HC.out ?_
  rintro e w1 ⟨rfl, hb1⟩
  have HB1 : Hid (Below W.heap.size W w1) := HB.out.trans (hb1.mono HB.out.size)
  clear hb1
  go_wp2
  go_ret
  exact ⟨rfl, HB1.out⟩
end Go.Proofs.YtopagfjimbdbdaaGreatDoor
