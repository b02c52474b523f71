/-
  schema.nodesText: exact.
-/
import Derived.Test.YtajaoglnembkpaaGreatDoorPSHead
namespace Go.Proofs.YtajaoglnembkpaaGreatDoor
open Go.RowKit
theorem ntL_app (bl : List UInt8) : ∀ (xs ys : List Tr), ntL bl (xs ++ ys) = ntL bl xs ++ ntL bl ys
  | [], ys => by rw [List.nil_append, ntL, List.nil_append]
  | x :: xs, ys => by rw [List.cons_append, ntL, ntL, ntL_app bl xs ys, List.append_assoc]
theorem ntL_take (bl : List UInt8) (ts : List Tr) (i : Nat) (hi : i < ts.length) : ntL bl (ts.take (i + 1)) = ntL bl (ts.take i) ++ ntT bl ts[i] := by
  rw [List.take_succ_eq_append_getElem hi, ntL_app, ntL, ntL, List.append_nil]
theorem ntL_le (bl : List UInt8) (ts : List Tr) (i : Nat) : (ntL bl (ts.take i)).length ≤ (ntL bl ts).length := by
  have h := ntL_app bl (ts.take i) (ts.drop i)
  rw [List.take_append_drop] at h
  rw [h, List.length_append]
  omega
theorem ntT_eq (bl : List UInt8) (t : Tr) : ntT bl t = bl ++ (hdTx t.id t.nm t.rep t.kind ++ if t.kind = 0 then 32 :: 123 :: 10 :: (ntL (bl ++ [32, 32]) t.sub ++ (bl ++ [125, 10])) else [59, 10]) := by
  cases t with
  | node id nm rep kind sub => rw [ntT]; rfl
theorem cat_l (l m : List UInt8) (h : l.length + m.length ≤ 100000000) (W : World) : (Op.stringOp .add ⟨l.toArray⟩ ⟨m.toArray⟩).run Tryz.prog W = .ok (.string ⟨(l ++ m).toArray⟩) W := by
  have e : (⟨(l ++ m).toArray⟩ : ByteArray) = ⟨l.toArray⟩ ++ ⟨m.toArray⟩ := by
    have e2 : ∀ x : ByteArray, x = ⟨x.data.toList.toArray⟩ := fun x => by simp
    rw [e2 (⟨l.toArray⟩ ++ ⟨m.toArray⟩)]
    simp [ByteArray.data_append]
  rw [e]
  exact run_string_add_sum _ _ _ (by simp only [ByteArray.size, List.size_toArray]; omega)
theorem byteCells_app (l m : List UInt8) : Lib.byteCells (l ++ m) = Lib.byteCells l ++ Lib.byteCells m := by simp [Lib.byteCells]
theorem hid_name {α : Type} (x : α) : ∃ y, Hid (x = y) := ⟨x, rfl⟩
/-- What nodesText promises. -/
def NtOK (ts : List Tr) : Prop := ∀ (bl : List UInt8) (P : Nat → Prop) (a : Option Addr) (c : Nat) (W : World), LiesN W P a ts → (∀ t ∈ ts, ∃ d, Rt d t) → (ntL bl ts).length ≤ 1000000 → ts.length ≤ 1048576 → Lib.TabIs Tryz.prog W "internal/strconv.uint64pow10" .u64 Lib.pow10Tab →
  Calls Tryz.prog 24 #[.slice a ts.length c, .string ⟨bl.toArray⟩] W fun e w' => e = .returned (.string ⟨(ntL bl ts).toArray⟩) ∧ Below W.heap.size W w'
/-- What nodesText's loop keeps. -/
structure NtI (W : World) (l : List UInt8) (X : World) : Prop where
  bd : Lib.IsBuilder 79 5 W.heap.size W.heap.size (Lib.byteCells l) X
  fr : Below W.heap.size W X
theorem NtI.lt {W X : World} {l : List UInt8} (h : NtI W l X) : W.heap.size < X.heap.size := h.bd.elim (fun h => h.lt) (fun h => h.lt)
theorem NtI.keep {W X w' : World} {l : List UInt8} (h : NtI W l X) (hb : Below X.heap.size X w') : NtI W l w' := ⟨isb_keep h.bd hb, h.fr.trans (hb.mono h.fr.size)⟩
/-- A string is written. -/
theorem NtI.write {W X : World} {l m : List UInt8} (h : NtI W l X) (hlen : l.length + m.length ≤ 100000000) :
    Calls Tryz.prog (36) #[.pointer (some ⟨W.heap.size, 0, none⟩), .string ⟨m.toArray⟩] X fun e w' => (∃ v, e = .returned v) ∧ NtI W (l ++ m) w' ∧ (∀ k cs T f, k ≠ W.heap.size → T ≠ 5 → X.heap[k]? = some (.cells cs T f) → w'.heap[k]? = some (.cells cs T f)) ∧ X.heap.size ≤ w'.heap.size := by
  refine (writeString_any W.heap.size W.heap.size _ ⟨m.toArray⟩ X h.bd (by rw [Lib.byteCells_length]; simp only [ByteArray.size, List.size_toArray]; omega) h.fr.size).mono ?_
  rintro e w' ⟨rfl, h1, h2, h3⟩
  exact ⟨⟨_, rfl⟩, ⟨.inr (by rw [byteCells_app]; exact h1), h.fr.trans h2⟩, h3, h2.size⟩
set_option maxRecDepth 100000 in
set_option maxHeartbeats 6400000 in
theorem nt_of (ts : List Tr) (hts : ∀ t ∈ ts, NtOK t.sub) : NtOK ts := fun bl P a c W hl hrt hlen hn htab => by
  have HL : Hid (LiesN W (fun b => b < W.heap.size) a ts) := hl.stay (fun _ _ h => h) (fun _ _ _ => rfl)
  have HT : Hid (∀ t ∈ ts, NtOK t.sub) := hts
  have HR : Hid _ := hrt
  have HTab : Hid _ := htab
  obtain ⟨w0, HW0, HX, HB⟩ := one_box W #[.pointer none, .slice none 0 0] 79
  have HS : Hid (NtI W [] w0) := ⟨.inl ⟨Nat.le_refl _, _, HX.out, World.ownsRow_nil _ _ _ _, by simp [Value.ownBlock]⟩, HB.out⟩
  obtain ⟨bb, HBL⟩ : ∃ bb, Hid ((⟨bl.toArray⟩ : ByteArray) = bb) := ⟨_, rfl⟩
  rw [HBL.out]
  clear hl hts hrt htab HX HB
  go_enter Tryz.func24, Tryz.ntmps24
  go_wp2_with fail
  rw [HW0.out]
  clear HW0
  go_loopw [10] (fun x wr => ∃ i : Nat, i ≤ ts.length ∧ x = .int .i64 i ∧ Hid (NtI W (ntL bl (ts.take i)) wr)) (fun x _ => ts.length - (intOf x).toNat)
  case atStart => exact ⟨0, Nat.zero_le _, rfl, by rw [List.take_zero, ntL]; exact HS⟩
  case round =>
    clear HS
    obtain ⟨i, hik, rfl, HI⟩ := hrel
    by_cases hlt : i < ts.length
    · have HLt : Hid _ := ntL_take bl ts i hlt
      have HLe : Hid (((ntL bl (ts.take i)).length + (ntT bl ts[i]).length) ≤ 1000000) := (by
        show _ ≤ _
        have h1 := ntL_le bl ts (i + 1)
        rw [ntL_take bl ts i hlt, List.length_append] at h1
        omega)
      have HNt : Hid _ := ntT_eq bl ts[i]
      obtain ⟨dp, hrt⟩ := HR.out ts[i] (List.getElem_mem hlt)
      obtain ⟨b, o, a1, c1, rfl, d0, d1, d2, d3, d4, hl1⟩ := (HL.out.keep HI.out.fr).at_ i hlt
      have HL1 : Hid (LiesN wr (fun b => b < W.heap.size) a1 ts[i].sub) := hl1
      have HSub : Hid _ := HT.out ts[i] (List.getElem_mem hlt)
      clear hl1
      generalize ts[i] = t at *
      cases hrt with
      | mk _ id nm rep kind sub hd hi hnm hr hk hg hls each =>
      simp only [Tr.id, Tr.nm, Tr.rep, Tr.kind, Tr.sub] at d0 d1 d2 d3 d4
      obtain ⟨k, rfl⟩ : ∃ k : Nat, kind = k := ⟨kind.toNat, by omega⟩
      have HL2 : Hid (LiesN wr (fun b => b < W.heap.size) a1 sub) := HL1
      have HSub2 : Hid (NtOK sub) := HSub
      have HNt2 : Hid (ntT bl (.node id nm rep (k : Nat) sub) = bl ++ (hdTx id nm rep (k : Nat) ++ if ((k : Nat) : Int) = 0 then 32 :: 123 :: 10 :: (ntL (bl ++ [32, 32]) sub ++ (bl ++ [125, 10])) else [59, 10])) := HNt
      have hns : nm.size ≤ 12 := by simp only [nameOk, Bool.and_eq_true, decide_eq_true_eq] at hnm; omega
      have q1 : rep - 1 = ((rep - 1).toNat : Nat) := by omega
      obtain ⟨r, HRr⟩ : ∃ r : Nat, Hid ((rep - 1).toNat = r) := ⟨_, rfl⟩
      rw [HRr.out] at q1
      have HHd : Hid (∀ w : World, Lib.TabIs Tryz.prog w "internal/strconv.uint64pow10" .u64 Lib.pow10Tab → Calls Tryz.prog 37 #[.agg #[.int .i64 id, .string nm, .int .i64 rep, .int .i64 (k : Nat), .slice a1 sub.length c1]] w fun e w' => e = .returned (.string ⟨(hdTx id nm rep (k : Nat)).toArray⟩) ∧ Below w.heap.size w w') := fun w h => headText_any id nm rep r k q1 a1 sub.length c1 w hi (by omega) (by omega) (by omega) h
      have HG : Hid _ := hg
      have HEach : Hid (∀ j (h : j < sub.length), Rt (dp + 1) sub[j]) := each
      have HLs : Hid (sub.length ≤ 1048576) := hls
      have hk5 : (k : Int) ≤ 5 := hk.2
      clear HL1 HSub HNt hi hnm hr hk hg each q1 HRr hns hd hls
      obtain ⟨hl9, HH9⟩ : ∃ hl9, Hid (hdTx id nm rep (k : Nat) = hl9) := ⟨_, rfl⟩
      obtain ⟨hb9, HH8⟩ : ∃ hb9, Hid ((⟨hl9.toArray⟩ : ByteArray) = hb9) := ⟨_, rfl⟩
      obtain ⟨x1, HX1⟩ : ∃ x1, Hid ((⟨(bl ++ hl9).toArray⟩ : ByteArray) = x1) := ⟨_, rfl⟩
      rw [HH9.out] at HNt2
      have HLen2 : Hid ((ntL bl (ts.take i)).length + (bl ++ hl9).length ≤ 1000000 ∧ bl.length ≤ 1000000 ∧ hl9.length ≤ 1000000) := (by
        have h := HLe.out
        rw [HNt2.out] at h
        simp only [List.length_append] at h ⊢
        refine ⟨?_, ?_, ?_⟩ <;> omega)
      have hc1 : ∀ W : World, (Op.stringOp .add bb hb9).run Tryz.prog W = .ok (.string x1) W := fun W => by
        rw [← HBL.out, ← HH8.out, ← HX1.out]
        exact cat_l _ _ (by have := HLen2.out; omega) W
      rw [HH9.out, HH8.out] at HHd
      obtain ⟨w1, HW1, HXb, HB1⟩ := one_box wr #[.int .i64 id, .string nm, .int .i64 rep, .int .i64 (k : Nat), .slice a1 sub.length c1] 24
      obtain ⟨⟨p0, p1, p2, p3, p4⟩, _⟩ := row_five HXb.out
      go_wp2_with fail
      rw [HW1.out]
      have HI1 : Hid (NtI W (ntL bl (ts.take i)) w1) := HI.out.keep HB1.out
      refine (HHd.out w1 (tab_keep HTab.out HI1.out.fr)).mono ?_
      rintro e w2 ⟨rfl, hb2⟩
      have HI2 : Hid (NtI W (ntL bl (ts.take i)) w2) := HI1.out.keep hb2
      have HXb2 : Hid (w2.heap[wr.heap.size]? = some (.cells #[.int .i64 id, .string nm, .int .i64 rep, .int .i64 (k : Nat), .slice a1 sub.length c1] 24 (0, 0))) := blk_keep hb2 HXb.out
      have hwb : wr.heap.size ≠ W.heap.size := by have := HI.out.lt; omega
      have HWr : Hid _ := HI2.out.write (m := bl ++ hl9) (by have := HLen2.out; omega)
      rw [HX1.out] at HWr
      clear hb2 HXb HB1 HW1 HI1 p0 p1 p2 p3 p4
      go_wp2_with fail
      refine Calls.mono HWr.out ?_
      rintro e w3 ⟨⟨v3, rfl⟩, hi3, hk3, hs3⟩
      have HI3 : Hid _ := hi3
      have HXb3 : Hid (w3.heap[wr.heap.size]? = some (.cells #[.int .i64 id, .string nm, .int .i64 rep, .int .i64 (k : Nat), .slice a1 sub.length c1] 24 (0, 0))) := hk3 _ _ _ _ hwb (by decide) HXb2.out
      clear hi3 hk3 hs3 HWr HXb2 HI2
      obtain ⟨⟨p0, p1, p2, p3, p4⟩, _⟩ := row_five HXb3.out
      by_cases hk0 : k = 0
      · have q0 : ((k : Nat) : Int) = 0 := by omega
        have HNt3 := HNt2.out
        rw [if_pos q0] at HNt3
        have HN3 : Hid _ := HNt3
        clear HNt3
        rw [q0] at p3
        obtain ⟨sl, HSL⟩ := hid_name (ntL (bl ++ [32, 32]) sub)
        rw [HSL.out] at HN3
        have HLen3 : Hid ((ntL bl (ts.take i)).length + (bl ++ hl9).length + (32 :: 123 :: 10 :: (sl ++ (bl ++ [125, 10]))).length ≤ 1000000) := (by
          have h := HLe.out
          rw [HN3.out] at h
          show _ ≤ _
          simp only [List.length_append, List.length_cons, List.length_nil] at h ⊢
          omega)
        have HLen4 : Hid (sl.length ≤ 1000000) := (by
          have h := HLen3.out
          simp only [List.length_append, List.length_cons, List.length_nil] at h
          show _ ≤ _
          omega)
        obtain ⟨y1, HY1⟩ := hid_name (⟨(bl ++ [32, 32]).toArray⟩ : ByteArray)
        obtain ⟨y2, HY2⟩ := hid_name (⟨sl.toArray⟩ : ByteArray)
        obtain ⟨y3, HY3⟩ := hid_name (⟨([32, 123, 10] ++ sl).toArray⟩ : ByteArray)
        obtain ⟨y4, HY4⟩ := hid_name (⟨([32, 123, 10] ++ sl ++ bl).toArray⟩ : ByteArray)
        obtain ⟨y5, HY5⟩ := hid_name (⟨([32, 123, 10] ++ sl ++ bl ++ [125, 10]).toArray⟩ : ByteArray)
        have hc2 : ∀ W : World, (Op.stringOp .add bb ⟨#[32, 32]⟩).run Tryz.prog W = .ok (.string y1) W := fun W => by
          rw [← HBL.out, ← HY1.out]
          exact cat_l bl [32, 32] (by have := HLen2.out; simp only [List.length_cons, List.length_nil]; omega) W
        have hc3 : ∀ W : World, (Op.stringOp .add ⟨#[32, 123, 10]⟩ y2).run Tryz.prog W = .ok (.string y3) W := fun W => by
          rw [← HY2.out, ← HY3.out]
          exact cat_l [32, 123, 10] sl (by have := HLen4.out; simp only [List.length_cons, List.length_nil]; omega) W
        have hc4 : ∀ W : World, (Op.stringOp .add y3 bb).run Tryz.prog W = .ok (.string y4) W := fun W => by
          rw [← HY3.out, ← HY4.out, ← HBL.out]
          exact cat_l ([32, 123, 10] ++ sl) bl (by have := HLen4.out; have := HLen2.out; simp only [List.length_append, List.length_cons, List.length_nil]; omega) W
        have hc5 : ∀ W : World, (Op.stringOp .add y4 ⟨#[125, 10]⟩).run Tryz.prog W = .ok (.string y5) W := fun W => by
          rw [← HY4.out, ← HY5.out]
          exact cat_l ([32, 123, 10] ++ sl ++ bl) [125, 10] (by have := HLen4.out; have := HLen2.out; simp only [List.length_append, List.length_cons, List.length_nil]; omega) W
        have HL3 : Hid (LiesN w3 (fun b => b < W.heap.size) a1 sub) := HL2.out.stay (fun _ h _ => h) (fun b hb _ => (HI3.out.fr.block b hb).trans (HI.out.fr.block b hb).symm)
        have HC3 : Hid _ := HSub2.out (bl ++ [32, 32]) _ a1 c1 w3 HL3.out (fun t ht => by
          obtain ⟨j, hj, rfl⟩ := List.getElem_of_mem ht
          exact ⟨_, HEach.out j hj⟩) (by rw [HSL.out]; exact HLen4.out) HLs.out (tab_keep HTab.out HI3.out.fr)
        rw [HSL.out, HY1.out, HY2.out] at HC3
        go_wp2_with fail
        refine Calls.mono HC3.out ?_
        rintro e w4 ⟨rfl, hb4⟩
        have HI4 : Hid _ := HI3.out.keep hb4
        have HWr : Hid _ := HI4.out.write (m := [32, 123, 10] ++ sl ++ bl ++ [125, 10]) (by have := HLen3.out; simp only [List.length_append, List.length_cons, List.length_nil] at this ⊢; omega)
        rw [HY5.out] at HWr
        clear hb4 HC3 HI3
        go_wp2_with fail
        refine Calls.mono HWr.out ?_
        rintro e w5 ⟨⟨v5, rfl⟩, hi5, hk5, hs5⟩
        have HI5 : Hid (NtI W (ntL bl (ts.take (i + 1))) w5) := (by
          show NtI _ _ _
          rw [HLt.out, HN3.out]
          simpa using hi5)
        clear hi5 hk5 hs5 HWr HI4
        go_wp2
        go_roundw
        case rel => exact ⟨i + 1, by omega, by go_num, HI5⟩
        case measure => simp [intOf]; omega
      · have q0 : (((k : Nat) : Int) == 0) = false := beq_eq_false_iff_ne.2 (by omega)
        have HNt3 := HNt2.out
        rw [if_neg (by omega)] at HNt3
        have HN3 : Hid _ := HNt3
        clear HNt3
        have HWr : Hid _ := HI3.out.write (m := [59, 10]) (by have := HLen2.out; simp only [List.length_append, List.length_cons, List.length_nil] at this ⊢; omega)
        go_wp2_with fail
        refine Calls.mono HWr.out ?_
        rintro e w5 ⟨⟨v5, rfl⟩, hi5, hk5, hs5⟩
        have HI5 : Hid (NtI W (ntL bl (ts.take (i + 1))) w5) := (by
          show NtI _ _ _
          rw [HLt.out, HN3.out]
          simpa using hi5)
        clear hi5 hk5 hs5 HWr HI3
        go_wp2
        go_roundw
        case rel => exact ⟨i + 1, by omega, by go_num, HI5⟩
        case measure => simp [intOf]; omega
    · obtain rfl : i = ts.length := by omega
      have HFin : Hid (NtI W (ntL bl ts) wr) := (by
        have h := HI.out
        rw [List.take_length] at h
        exact h)
      go_wp2_with fail
      refine (Tryz.Builder_String_any W.heap.size W.heap.size (ntL bl ts) wr HFin.out.bd HFin.out.fr.size).mono ?_
      rintro e w1 ⟨rfl, hb1⟩
      have HBB : Hid (Below W.heap.size W w1) := HFin.out.fr.trans hb1
      clear hb1
      obtain ⟨z9, HZ9⟩ : ∃ z9, Hid ((⟨(ntL bl ts).toArray⟩ : ByteArray) = z9) := ⟨_, rfl⟩
      rw [HZ9.out]
      go_wp2
      go_ret
      exact ⟨by rw [HZ9.out]; rfl, HBB.out⟩
/-- nodesText of whatever nodes. -/
theorem nt_ok : ∀ (n : Nat) (ts : List Tr), (∀ t ∈ ts, SizeOf.sizeOf t < n) → NtOK ts
  | 0, ts, h => nt_of ts fun _ ht => absurd (h _ ht) (Nat.not_lt_zero _)
  | n + 1, ts, h => nt_of ts fun t ht => nt_ok n t.sub fun x hx => by
      obtain ⟨j, hj, rfl⟩ := List.getElem_of_mem hx
      have h1 := t.sub_size j hj
      have h2 := h t ht
      omega
theorem nodesText_any (ts : List Tr) : NtOK ts := nt_ok (SizeOf.sizeOf ts) ts fun _ ht => List.sizeOf_lt_of_mem ht
end Go.Proofs.YtajaoglnembkpaaGreatDoor
