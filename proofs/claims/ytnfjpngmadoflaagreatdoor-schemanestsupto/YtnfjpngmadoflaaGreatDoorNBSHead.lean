/-
  schema.headText: exact.
  schema.nodesText: exact.
-/
import Derived.Test.YtnfjpngmadoflaaGreatDoorNBSGroup
import Derived.Deep.RegionHeld3
import Derived.Deep.DeepCutAuto
import Derived.Deep.RegionLaw
namespace Go.Proofs.YtnfjpngmadoflaaGreatDoor
open Go.RowKit
theorem tab_keep {P : Program} {w w' : World} {name : String} {k : IntKind} {zs : List Int} (h : Lib.TabIs P w name k zs) (hb : Below w.heap.size w w') : Lib.TabIs P w' name k zs := by
  unfold Lib.TabIs World.var? at *
  cases hg : P.globalNamed name with
  | none => simp [hg] at h
  | some g =>
    simp only [hg, Option.bind_some] at h ⊢
    have hlt : g < w.heap.size := by
      rcases Nat.lt_or_ge g w.heap.size with h' | h'
      · exact h'
      · rw [Array.getElem?_eq_none h'] at h; simp at h
    rw [hb.block g hlt]
    exact h
theorem itoa_any (n : Int) (hi : 1 ≤ n ∧ n ≤ 1000) (w : World) (htab : Lib.TabIs Tryz.prog w "internal/strconv.uint64pow10" .u64 Lib.pow10Tab) :
    Calls Tryz.prog 63 #[.int .i64 n] w fun e w' => e = .returned (.string ⟨(Lib.itoa n).toArray⟩) ∧ Below w.heap.size w w' := by
  refine (Tryz.strconv_Itoa n (by omega) (by omega) w htab).mono ?_
  rintro e w' ⟨rfl, k, os, rfl⟩
  refine ⟨rfl, rfl, rfl, rfl, ?_, fun j hj => ?_⟩
  · show w.heap.size ≤ (w.heap ++ os).size
    rw [Array.size_append]
    omega
  · show (w.heap ++ os)[j]? = w.heap[j]?
    rw [Array.getElem?_append_left hj]
set_option maxRecDepth 100000 in
set_option maxHeartbeats 12800000 in
theorem headText_any (id : Int) (nm : ByteArray) (rv : Int) (r k : Nat) (q1 : rv - 1 = (r : Nat)) (a : Option Addr) (m c : Nat) (W : World) (hi : 1 ≤ id ∧ id ≤ 1000) (hn : nm.size ≤ 1000) (hr : r < 3) (hk : k < 6) (htab : Lib.TabIs Tryz.prog W "internal/strconv.uint64pow10" .u64 Lib.pow10Tab) :
    Calls Tryz.prog 48 #[.agg #[.int .i64 id, .string nm, .int .i64 rv, .int .i64 (k : Nat), .slice a m c]] W fun e w' => e = .returned (.string ⟨(hdTx id nm rv (k : Nat)).toArray⟩) ∧ Below W.heap.size W w' := by
  obtain ⟨w0, HW0, HX, HB⟩ := one_box W #[.int .i64 id, .string nm, .int .i64 rv, .int .i64 (k : Nat), .slice a m c] 24
  obtain ⟨rb, HRB⟩ : ∃ rb, Hid (repW.getD r ByteArray.empty = rb) := ⟨_, rfl⟩
  obtain ⟨kb, HKB⟩ : ∃ kb, Hid (kindW.getD k ByteArray.empty = kb) := ⟨_, rfl⟩
  have hlw : W.heap.size < w0.heap.size := lt_of_block HX.out
  obtain ⟨⟨p0, p1, p2, p3, p4⟩, _⟩ := row_five HX.out
  have qw1 : IntKind.i64.wrap (r : Int) = (r : Int) := by rw [IntKind.wrap_i64]; omega
  have qw2 : IntKind.i64.wrap (k : Int) = (k : Int) := by rw [IntKind.wrap_i64]; omega
  have qb1 : (r : Int) < 3 := by omega
  have qb2 : (k : Int) < 6 := by omega
  have q2 : ((k : Nat) : Int) - 0 = (k : Nat) := by omega
  have HTab : Hid _ := htab
  clear htab
  go_enter Tryz.func48, Tryz.ntmps48
  go_upto_region 1 with fail
  rw [HW0.out]
  go_cut [3, 4] (fun x y wx => x = .string rb ∧ y = .string kb ∧ Hid (Below w0.heap.size w0 wx))
  case first =>
    have hbb : Below w0.heap.size w0 w0.drew := (Below.refl _ _).drew
    go_region_law (first
      | (go_simp; (with_reducible refine Calls.mono (repWords_any _) ?_); rintro e w1 ⟨rfl, hst1, hb1⟩; replace hbb := hbb.trans (hb1.mono hbb.size); have g1 := hst1 r hr; rw [Nat.zero_add, HRB.out] at g1; (try replace g1 : w1.cell? ⟨w0.heap.size, r, none⟩ = some (.string rb) := g1); (try replace g2 := (hb1.cell (World.block_lt_of_cell? _ _ g2)).trans g2); replace p2 := (hb1.cell (World.block_lt_of_cell? _ _ p2)).trans p2; replace p3 := (hb1.cell (World.block_lt_of_cell? _ _ p3)).trans p3)
      | (go_simp; (with_reducible refine Calls.mono (kindWords_any _) ?_); rintro e w2 ⟨rfl, hst2, hb2⟩; replace hbb := hbb.trans (hb2.mono hbb.size); have g2 := hst2 k hk; rw [Nat.zero_add, HKB.out] at g2; (try replace g2 : w2.cell? ⟨w0.heap.size, k, none⟩ = some (.string kb) := g2); (try replace g1 := (hb2.cell (World.block_lt_of_cell? _ _ g1)).trans g1); replace p2 := (hb2.cell (World.block_lt_of_cell? _ _ p2)).trans p2; replace p3 := (hb2.cell (World.block_lt_of_cell? _ _ p3)).trans p3))
    all_goals (have HH : Hid _ := hbb; clear hbb; go_wp2; go_meet; exact ⟨rfl, rfl, HH⟩)
  case rest =>
    obtain ⟨rfl, rfl, HB1⟩ := hcut
    rename World => wq
    have HBq : Hid (Below w0.heap.size w0 wq) := HB1
    clear HB1 p0 p1 p2 p3 p4
    have hsz : w0.heap.size ≤ wq.heap.size := HBq.out.size
    have HN : Hid (∀ X, Below w0.heap.size wq X → (X.cell? ⟨W.heap.size, 0, none⟩ = some (.int .i64 id) ∧ X.cell? ⟨W.heap.size, 1, none⟩ = some (.string nm)) ∧ Below w0.heap.size wq X) := fun X hX => (by
      have h := (row_five ((hX.block W.heap.size hlw).trans ((HBq.out.block W.heap.size hlw).trans HX.out))).1
      exact ⟨⟨h.1, h.2.1⟩, hX⟩)
    have HTq : Hid (Lib.TabIs Tryz.prog wq.drew "internal/strconv.uint64pow10" .u64 Lib.pow10Tab) := tab_keep HTab.out ((HB.out.trans (HBq.out.mono HB.out.size)).drew)
    have b10 : Below w0.heap.size wq wq := Below.refl _ _
    have hzr : rb.size ≤ 8 := by
      rw [← HRB.out]
      have : r = 0 ∨ r = 1 ∨ r = 2 := by omega
      rcases this with rfl | rfl | rfl <;> decide
    have hzk : kb.size ≤ 6 := by
      rw [← HKB.out]
      have : k = 0 ∨ k = 1 ∨ k = 2 ∨ k = 3 ∨ k = 4 ∨ k = 5 := by omega
      rcases this with rfl | rfl | rfl | rfl | rfl | rfl <;> decide
    have hzi : (⟨(Lib.itoa id).toArray⟩ : ByteArray).size ≤ 4 := by
      obtain ⟨u, rfl⟩ : ∃ u : Nat, id = u := ⟨id.toNat, by omega⟩
      have h := (dd_len u (by omega)).2
      rw [show Lib.itoa (u : Int) = Lib.decDigits u by unfold Lib.itoa; rw [if_neg (by omega)]; simp]
      simpa [ByteArray.size] using h
    obtain ⟨ib, HIB⟩ : ∃ ib, Hid ((⟨(Lib.itoa id).toArray⟩ : ByteArray) = ib) := ⟨_, rfl⟩
    rw [HIB.out] at hzi
    obtain ⟨s1, HS1⟩ : ∃ s1, Hid (rb ++ ⟨#[32]⟩ = s1) := ⟨_, rfl⟩
    obtain ⟨s2, HS2⟩ : ∃ s2, Hid (s1 ++ kb = s2) := ⟨_, rfl⟩
    obtain ⟨s3, HS3⟩ : ∃ s3, Hid (s2 ++ ⟨#[32]⟩ = s3) := ⟨_, rfl⟩
    obtain ⟨s4, HS4⟩ : ∃ s4, Hid (s3 ++ nm = s4) := ⟨_, rfl⟩
    obtain ⟨s5, HS5⟩ : ∃ s5, Hid (s4 ++ ⟨#[32, 35]⟩ = s5) := ⟨_, rfl⟩
    obtain ⟨s6, HS6⟩ : ∃ s6, Hid (s5 ++ ib = s6) := ⟨_, rfl⟩
    have z1 : s1.size = rb.size + 1 := by rw [← HS1.out, ByteArray.size_append]; rfl
    have z2 : s2.size = s1.size + kb.size := by rw [← HS2.out, ByteArray.size_append]
    have z3 : s3.size = s2.size + 1 := by rw [← HS3.out, ByteArray.size_append]; rfl
    have z4 : s4.size = s3.size + nm.size := by rw [← HS4.out, ByteArray.size_append]
    have z5 : s5.size = s4.size + 2 := by rw [← HS5.out, ByteArray.size_append]; rfl
    have hc1 : ∀ W : World, (Op.stringOp .add rb ⟨#[32]⟩).run Tryz.prog W = .ok (.string s1) W := fun W => by rw [← HS1.out]; exact run_string_add_sum _ _ _ (by rw [show (⟨#[32]⟩ : ByteArray).size = 1 from rfl]; omega)
    have hc2 : ∀ W : World, (Op.stringOp .add s1 kb).run Tryz.prog W = .ok (.string s2) W := fun W => by rw [← HS2.out]; exact run_string_add_sum _ _ _ (by omega)
    have hc3 : ∀ W : World, (Op.stringOp .add s2 ⟨#[32]⟩).run Tryz.prog W = .ok (.string s3) W := fun W => by rw [← HS3.out]; exact run_string_add_sum _ _ _ (by rw [show (⟨#[32]⟩ : ByteArray).size = 1 from rfl]; omega)
    have hc4 : ∀ W : World, (Op.stringOp .add s3 nm).run Tryz.prog W = .ok (.string s4) W := fun W => by rw [← HS4.out]; exact run_string_add_sum _ _ _ (by omega)
    have hc5 : ∀ W : World, (Op.stringOp .add s4 ⟨#[32, 35]⟩).run Tryz.prog W = .ok (.string s5) W := fun W => by rw [← HS5.out]; exact run_string_add_sum _ _ _ (by rw [show (⟨#[32, 35]⟩ : ByteArray).size = 2 from rfl]; omega)
    have hc6 : ∀ W : World, (Op.stringOp .add s5 ib).run Tryz.prog W = .ok (.string s6) W := fun W => by rw [← HS6.out]; exact run_string_add_sum _ _ _ (by omega)
    clear z1 z2 z3 z4 z5 hzr hzk hzi
    have HIt : Hid (∀ w : World, Lib.TabIs Tryz.prog w "internal/strconv.uint64pow10" .u64 Lib.pow10Tab → Calls Tryz.prog 63 #[.int .i64 id] w fun e w' => e = .returned (.string ib) ∧ Below w.heap.size w w') := fun w h => (by rw [← HIB.out]; exact itoa_any id hi w h)
    go_upto_region 2 with fail
    go_region_held3 (fun X => (X.cell? ⟨W.heap.size, 0, none⟩ = some (.int .i64 id) ∧ X.cell? ⟨W.heap.size, 1, none⟩ = some (.string nm)) ∧ Below w0.heap.size wq X) (first | (with_reducible refine HN.out _ ?_; repeat' (first | with_reducible assumption | with_reducible exact b10.drew | with_reducible exact b10 | with_reducible exact hbb.mono hsz))) (first | (go_at_call 63; (with_reducible refine Calls.mono (HIt.out _ HTq.out) ?_); rintro e w1 ⟨rfl, hb1⟩; have hbb : Below wq.heap.size wq w1 := (Below.refl _ _).drew.trans hb1))
    all_goals
      have HE : Hid (s6 = ⟨(hdTx id nm rv (k : Nat)).toArray⟩) := (by
        show _ = _
        have e : ∀ x : ByteArray, x = ⟨x.data.toList.toArray⟩ := fun x => by simp
        rw [e s6]
        congr 2
        rw [← HS6.out, ← HS5.out, ← HS4.out, ← HS3.out, ← HS2.out, ← HS1.out, ← HIB.out, ← HRB.out, ← HKB.out, hdTx, repB, kindB, q1]
        simp [ByteArray.data_append]
        rfl)
      have HBB : Hid (Below W.heap.size W w1) := HB.out.trans ((HBq.out.trans (hbb.mono hsz)).mono HB.out.size)
      go_wp2
      go_ret
      exact ⟨by rw [HE.out]; rfl, HBB.out⟩
end Go.Proofs.YtnfjpngmadoflaaGreatDoor

namespace Go.Proofs.YtnfjpngmadoflaaGreatDoor
open Go.RowKit
theorem ntL_app (bl : List UInt8) : ∀ (xs ys : List Tr), ntL bl (xs ++ ys) = ntL bl xs ++ ntL bl ys
  | [], ys => by rw [List.nil_append, ntL, List.nil_append]
  | x :: xs, ys => by rw [List.cons_append, ntL, ntL, ntL_app bl xs ys, List.append_assoc]
theorem ntL_take (bl : List UInt8) (ts : List Tr) (i : Nat) (hi : i < ts.length) : ntL bl (ts.take (i + 1)) = ntL bl (ts.take i) ++ ntT bl ts[i] := by
  rw [List.take_succ_eq_append_getElem hi, ntL_app, ntL, ntL, List.append_nil]
theorem ntL_le (bl : List UInt8) (ts : List Tr) (i : Nat) : (ntL bl (ts.take i)).length ≤ (ntL bl ts).length := by
  have h := ntL_app bl (ts.take i) (ts.drop i)
  rw [List.take_append_drop] at h
  rw [h, List.length_append]
  omega
theorem ntT_eq (bl : List UInt8) (t : Tr) : ntT bl t = bl ++ (hdTx t.id t.nm t.rep t.kind ++ if t.kind = 0 then 32 :: 123 :: 10 :: (ntL (bl ++ [32, 32]) t.sub ++ (bl ++ [125, 10])) else [59, 10]) := by
  cases t with
  | node id nm rep kind sub => rw [ntT]; rfl
theorem cat_l (l m : List UInt8) (h : l.length + m.length ≤ 100000000) (W : World) : (Op.stringOp .add ⟨l.toArray⟩ ⟨m.toArray⟩).run Tryz.prog W = .ok (.string ⟨(l ++ m).toArray⟩) W := by
  have e : (⟨(l ++ m).toArray⟩ : ByteArray) = ⟨l.toArray⟩ ++ ⟨m.toArray⟩ := by
    have e2 : ∀ x : ByteArray, x = ⟨x.data.toList.toArray⟩ := fun x => by simp
    rw [e2 (⟨l.toArray⟩ ++ ⟨m.toArray⟩)]
    simp [ByteArray.data_append]
  rw [e]
  exact run_string_add_sum _ _ _ (by simp only [ByteArray.size, List.size_toArray]; omega)
theorem byteCells_app (l m : List UInt8) : Lib.byteCells (l ++ m) = Lib.byteCells l ++ Lib.byteCells m := by simp [Lib.byteCells]
/-- What nodesText promises. -/
def NtOK (ts : List Tr) : Prop := ∀ (bl : List UInt8) (P : Nat → Prop) (a : Option Addr) (c : Nat) (W : World), LiesN W P a ts → (∀ t ∈ ts, ∃ d, Rt d t) → (ntL bl ts).length ≤ 1000000 → ts.length ≤ 1048576 → Lib.TabIs Tryz.prog W "internal/strconv.uint64pow10" .u64 Lib.pow10Tab →
  Calls Tryz.prog 30 #[.slice a ts.length c, .string ⟨bl.toArray⟩] W fun e w' => e = .returned (.string ⟨(ntL bl ts).toArray⟩) ∧ Below W.heap.size W w'
/-- What nodesText's loop keeps. -/
structure NtI (W : World) (l : List UInt8) (X : World) : Prop where
  bd : Lib.IsBuilder 77 5 W.heap.size W.heap.size (Lib.byteCells l) X
  fr : Below W.heap.size W X
theorem NtI.lt {W X : World} {l : List UInt8} (h : NtI W l X) : W.heap.size < X.heap.size := h.bd.elim (fun h => h.lt) (fun h => h.lt)
theorem NtI.keep {W X w' : World} {l : List UInt8} (h : NtI W l X) (hb : Below X.heap.size X w') : NtI W l w' := ⟨isb_keep h.bd hb, h.fr.trans (hb.mono h.fr.size)⟩
/-- A string is written. -/
theorem NtI.write {W X : World} {l m : List UInt8} (h : NtI W l X) (hlen : l.length + m.length ≤ 100000000) :
    Calls Tryz.prog (47) #[.pointer (some ⟨W.heap.size, 0, none⟩), .string ⟨m.toArray⟩] X fun e w' => (∃ v, e = .returned v) ∧ NtI W (l ++ m) w' ∧ (∀ k cs T f, k ≠ W.heap.size → T ≠ 5 → X.heap[k]? = some (.cells cs T f) → w'.heap[k]? = some (.cells cs T f)) ∧ X.heap.size ≤ w'.heap.size := by
  refine (writeString_any W.heap.size W.heap.size _ ⟨m.toArray⟩ X h.bd (by rw [Lib.byteCells_length]; simp only [ByteArray.size, List.size_toArray]; omega) h.fr.size).mono ?_
  rintro e w' ⟨rfl, h1, h2, h3⟩
  exact ⟨⟨_, rfl⟩, ⟨.inr (by rw [byteCells_app]; exact h1), h.fr.trans h2⟩, h3, h2.size⟩
set_option maxRecDepth 100000 in
set_option maxHeartbeats 6400000 in
theorem nt_of (ts : List Tr) (hts : ∀ t ∈ ts, NtOK t.sub) : NtOK ts := fun bl P a c W hl hrt hlen hn htab => by
  have HL : Hid (LiesN W (fun b => b < W.heap.size) a ts) := hl.stay (fun _ _ h => h) (fun _ _ _ => rfl)
  have HT : Hid (∀ t ∈ ts, NtOK t.sub) := hts
  have HR : Hid _ := hrt
  have HTab : Hid _ := htab
  obtain ⟨w0, HW0, HX, HB⟩ := one_box W #[.pointer none, .slice none 0 0] 77
  have HS : Hid (NtI W [] w0) := ⟨.inl ⟨Nat.le_refl _, _, HX.out, World.ownsRow_nil _ _ _ _, by simp [Value.ownBlock]⟩, HB.out⟩
  obtain ⟨bb, HBL⟩ : ∃ bb, Hid ((⟨bl.toArray⟩ : ByteArray) = bb) := ⟨_, rfl⟩
  rw [HBL.out]
  clear hl hts hrt htab HX HB
  go_enter Tryz.func30, Tryz.ntmps30
  go_wp2_with fail
  rw [HW0.out]
  clear HW0
  go_loopw [10] (fun x wr => ∃ i : Nat, i ≤ ts.length ∧ x = .int .i64 i ∧ Hid (NtI W (ntL bl (ts.take i)) wr)) (fun x _ => ts.length - (intOf x).toNat)
  case atStart => exact ⟨0, Nat.zero_le _, rfl, by rw [List.take_zero, ntL]; exact HS⟩
  case round =>
    clear HS
    obtain ⟨i, hik, rfl, HI⟩ := hrel
    by_cases hlt : i < ts.length
    · have HLt : Hid _ := ntL_take bl ts i hlt
      have HLe : Hid (((ntL bl (ts.take i)).length + (ntT bl ts[i]).length) ≤ 1000000) := (by
        show _ ≤ _
        have h1 := ntL_le bl ts (i + 1)
        rw [ntL_take bl ts i hlt, List.length_append] at h1
        omega)
      have HNt : Hid _ := ntT_eq bl ts[i]
      obtain ⟨dp, hrt⟩ := HR.out ts[i] (List.getElem_mem hlt)
      obtain ⟨b, o, a1, c1, rfl, d0, d1, d2, d3, d4, hl1⟩ := (HL.out.keep HI.out.fr).at_ i hlt
      have HL1 : Hid (LiesN wr (fun b => b < W.heap.size) a1 ts[i].sub) := hl1
      have HSub : Hid _ := HT.out ts[i] (List.getElem_mem hlt)
      clear hl1
      generalize ts[i] = t at *
      cases hrt with
      | mk _ id nm rep kind sub hd hi hnm hr hk hg hls each =>
      simp only [Tr.id, Tr.nm, Tr.rep, Tr.kind, Tr.sub] at d0 d1 d2 d3 d4
      obtain ⟨k, rfl⟩ : ∃ k : Nat, kind = k := ⟨kind.toNat, by omega⟩
      have HL2 : Hid (LiesN wr (fun b => b < W.heap.size) a1 sub) := HL1
      have HSub2 : Hid (NtOK sub) := HSub
      have HNt2 : Hid (ntT bl (.node id nm rep (k : Nat) sub) = bl ++ (hdTx id nm rep (k : Nat) ++ if ((k : Nat) : Int) = 0 then 32 :: 123 :: 10 :: (ntL (bl ++ [32, 32]) sub ++ (bl ++ [125, 10])) else [59, 10])) := HNt
      have hns : nm.size ≤ 12 := by simp only [nameOk, Bool.and_eq_true, decide_eq_true_eq] at hnm; omega
      have q1 : rep - 1 = ((rep - 1).toNat : Nat) := by omega
      obtain ⟨r, HRr⟩ : ∃ r : Nat, Hid ((rep - 1).toNat = r) := ⟨_, rfl⟩
      rw [HRr.out] at q1
      have HHd : Hid (∀ w : World, Lib.TabIs Tryz.prog w "internal/strconv.uint64pow10" .u64 Lib.pow10Tab → Calls Tryz.prog 48 #[.agg #[.int .i64 id, .string nm, .int .i64 rep, .int .i64 (k : Nat), .slice a1 sub.length c1]] w fun e w' => e = .returned (.string ⟨(hdTx id nm rep (k : Nat)).toArray⟩) ∧ Below w.heap.size w w') := fun w h => headText_any id nm rep r k q1 a1 sub.length c1 w hi (by omega) (by omega) (by omega) h
      have HG : Hid _ := hg
      have HEach : Hid (∀ j (h : j < sub.length), Rt (dp + 1) sub[j]) := each
      have HLs : Hid (sub.length ≤ 1048576) := hls
      have hk5 : (k : Int) ≤ 5 := hk.2
      clear HL1 HSub HNt hi hnm hr hk hg each q1 HRr hns hd hls
      obtain ⟨hl9, HH9⟩ : ∃ hl9, Hid (hdTx id nm rep (k : Nat) = hl9) := ⟨_, rfl⟩
      obtain ⟨hb9, HH8⟩ : ∃ hb9, Hid ((⟨hl9.toArray⟩ : ByteArray) = hb9) := ⟨_, rfl⟩
      obtain ⟨x1, HX1⟩ : ∃ x1, Hid ((⟨(bl ++ hl9).toArray⟩ : ByteArray) = x1) := ⟨_, rfl⟩
      rw [HH9.out] at HNt2
      have HLen2 : Hid ((ntL bl (ts.take i)).length + (bl ++ hl9).length ≤ 1000000 ∧ bl.length ≤ 1000000 ∧ hl9.length ≤ 1000000) := (by
        have h := HLe.out
        rw [HNt2.out] at h
        simp only [List.length_append] at h ⊢
        refine ⟨?_, ?_, ?_⟩ <;> omega)
      have hc1 : ∀ W : World, (Op.stringOp .add bb hb9).run Tryz.prog W = .ok (.string x1) W := fun W => by
        rw [← HBL.out, ← HH8.out, ← HX1.out]
        exact cat_l _ _ (by have := HLen2.out; omega) W
      rw [HH9.out, HH8.out] at HHd
      obtain ⟨w1, HW1, HXb, HB1⟩ := one_box wr #[.int .i64 id, .string nm, .int .i64 rep, .int .i64 (k : Nat), .slice a1 sub.length c1] 24
      obtain ⟨⟨p0, p1, p2, p3, p4⟩, _⟩ := row_five HXb.out
      go_wp2_with fail
      rw [HW1.out]
      have HI1 : Hid (NtI W (ntL bl (ts.take i)) w1) := HI.out.keep HB1.out
      refine (HHd.out w1 (tab_keep HTab.out HI1.out.fr)).mono ?_
      rintro e w2 ⟨rfl, hb2⟩
      have HI2 : Hid (NtI W (ntL bl (ts.take i)) w2) := HI1.out.keep hb2
      have HXb2 : Hid (w2.heap[wr.heap.size]? = some (.cells #[.int .i64 id, .string nm, .int .i64 rep, .int .i64 (k : Nat), .slice a1 sub.length c1] 24 (0, 0))) := blk_keep hb2 HXb.out
      have hwb : wr.heap.size ≠ W.heap.size := by have := HI.out.lt; omega
      have HWr : Hid _ := HI2.out.write (m := bl ++ hl9) (by have := HLen2.out; omega)
      rw [HX1.out] at HWr
      clear hb2 HXb HB1 HW1 HI1 p0 p1 p2 p3 p4
      go_wp2_with fail
      refine Calls.mono HWr.out ?_
      rintro e w3 ⟨⟨v3, rfl⟩, hi3, hk3, hs3⟩
      have HI3 : Hid _ := hi3
      have HXb3 : Hid (w3.heap[wr.heap.size]? = some (.cells #[.int .i64 id, .string nm, .int .i64 rep, .int .i64 (k : Nat), .slice a1 sub.length c1] 24 (0, 0))) := hk3 _ _ _ _ hwb (by decide) HXb2.out
      clear hi3 hk3 hs3 HWr HXb2 HI2
      obtain ⟨⟨p0, p1, p2, p3, p4⟩, _⟩ := row_five HXb3.out
      by_cases hk0 : k = 0
      · have q0 : ((k : Nat) : Int) = 0 := by omega
        have HNt3 := HNt2.out
        rw [if_pos q0] at HNt3
        have HN3 : Hid _ := HNt3
        clear HNt3
        rw [q0] at p3
        obtain ⟨sl, HSL⟩ := hid_name (ntL (bl ++ [32, 32]) sub)
        rw [HSL.out] at HN3
        have HLen3 : Hid ((ntL bl (ts.take i)).length + (bl ++ hl9).length + (32 :: 123 :: 10 :: (sl ++ (bl ++ [125, 10]))).length ≤ 1000000) := (by
          have h := HLe.out
          rw [HN3.out] at h
          show _ ≤ _
          simp only [List.length_append, List.length_cons, List.length_nil] at h ⊢
          omega)
        have HLen4 : Hid (sl.length ≤ 1000000) := (by
          have h := HLen3.out
          simp only [List.length_append, List.length_cons, List.length_nil] at h
          show _ ≤ _
          omega)
        obtain ⟨y1, HY1⟩ := hid_name (⟨(bl ++ [32, 32]).toArray⟩ : ByteArray)
        obtain ⟨y2, HY2⟩ := hid_name (⟨sl.toArray⟩ : ByteArray)
        obtain ⟨y3, HY3⟩ := hid_name (⟨([32, 123, 10] ++ sl).toArray⟩ : ByteArray)
        obtain ⟨y4, HY4⟩ := hid_name (⟨([32, 123, 10] ++ sl ++ bl).toArray⟩ : ByteArray)
        obtain ⟨y5, HY5⟩ := hid_name (⟨([32, 123, 10] ++ sl ++ bl ++ [125, 10]).toArray⟩ : ByteArray)
        have hc2 : ∀ W : World, (Op.stringOp .add bb ⟨#[32, 32]⟩).run Tryz.prog W = .ok (.string y1) W := fun W => by
          rw [← HBL.out, ← HY1.out]
          exact cat_l bl [32, 32] (by have := HLen2.out; simp only [List.length_cons, List.length_nil]; omega) W
        have hc3 : ∀ W : World, (Op.stringOp .add ⟨#[32, 123, 10]⟩ y2).run Tryz.prog W = .ok (.string y3) W := fun W => by
          rw [← HY2.out, ← HY3.out]
          exact cat_l [32, 123, 10] sl (by have := HLen4.out; simp only [List.length_cons, List.length_nil]; omega) W
        have hc4 : ∀ W : World, (Op.stringOp .add y3 bb).run Tryz.prog W = .ok (.string y4) W := fun W => by
          rw [← HY3.out, ← HY4.out, ← HBL.out]
          exact cat_l ([32, 123, 10] ++ sl) bl (by have := HLen4.out; have := HLen2.out; simp only [List.length_append, List.length_cons, List.length_nil]; omega) W
        have hc5 : ∀ W : World, (Op.stringOp .add y4 ⟨#[125, 10]⟩).run Tryz.prog W = .ok (.string y5) W := fun W => by
          rw [← HY4.out, ← HY5.out]
          exact cat_l ([32, 123, 10] ++ sl ++ bl) [125, 10] (by have := HLen4.out; have := HLen2.out; simp only [List.length_append, List.length_cons, List.length_nil]; omega) W
        have HL3 : Hid (LiesN w3 (fun b => b < W.heap.size) a1 sub) := HL2.out.stay (fun _ h _ => h) (fun b hb _ => (HI3.out.fr.block b hb).trans (HI.out.fr.block b hb).symm)
        have HC3 : Hid _ := HSub2.out (bl ++ [32, 32]) _ a1 c1 w3 HL3.out (fun t ht => by
          obtain ⟨j, hj, rfl⟩ := List.getElem_of_mem ht
          exact ⟨_, HEach.out j hj⟩) (by rw [HSL.out]; exact HLen4.out) HLs.out (tab_keep HTab.out HI3.out.fr)
        rw [HSL.out, HY1.out, HY2.out] at HC3
        go_wp2_with fail
        refine Calls.mono HC3.out ?_
        rintro e w4 ⟨rfl, hb4⟩
        have HI4 : Hid _ := HI3.out.keep hb4
        have HWr : Hid _ := HI4.out.write (m := [32, 123, 10] ++ sl ++ bl ++ [125, 10]) (by have := HLen3.out; simp only [List.length_append, List.length_cons, List.length_nil] at this ⊢; omega)
        rw [HY5.out] at HWr
        clear hb4 HC3 HI3
        go_wp2_with fail
        refine Calls.mono HWr.out ?_
        rintro e w5 ⟨⟨v5, rfl⟩, hi5, hk5, hs5⟩
        have HI5 : Hid (NtI W (ntL bl (ts.take (i + 1))) w5) := (by
          show NtI _ _ _
          rw [HLt.out, HN3.out]
          simpa using hi5)
        clear hi5 hk5 hs5 HWr HI4
        go_wp2
        go_roundw
        case rel => exact ⟨i + 1, by omega, by go_num, HI5⟩
        case measure => simp [intOf]; omega
      · have q0 : (((k : Nat) : Int) == 0) = false := beq_eq_false_iff_ne.2 (by omega)
        have HNt3 := HNt2.out
        rw [if_neg (by omega)] at HNt3
        have HN3 : Hid _ := HNt3
        clear HNt3
        have HWr : Hid _ := HI3.out.write (m := [59, 10]) (by have := HLen2.out; simp only [List.length_append, List.length_cons, List.length_nil] at this ⊢; omega)
        go_wp2_with fail
        refine Calls.mono HWr.out ?_
        rintro e w5 ⟨⟨v5, rfl⟩, hi5, hk5, hs5⟩
        have HI5 : Hid (NtI W (ntL bl (ts.take (i + 1))) w5) := (by
          show NtI _ _ _
          rw [HLt.out, HN3.out]
          simpa using hi5)
        clear hi5 hk5 hs5 HWr HI3
        go_wp2
        go_roundw
        case rel => exact ⟨i + 1, by omega, by go_num, HI5⟩
        case measure => simp [intOf]; omega
    · obtain rfl : i = ts.length := by omega
      have HFin : Hid (NtI W (ntL bl ts) wr) := (by
        have h := HI.out
        rw [List.take_length] at h
        exact h)
      go_wp2_with fail
      refine (Tryz.Builder_String_any W.heap.size W.heap.size (ntL bl ts) wr HFin.out.bd HFin.out.fr.size).mono ?_
      rintro e w1 ⟨rfl, hb1⟩
      have HBB : Hid (Below W.heap.size W w1) := HFin.out.fr.trans hb1
      clear hb1
      obtain ⟨z9, HZ9⟩ : ∃ z9, Hid ((⟨(ntL bl ts).toArray⟩ : ByteArray) = z9) := ⟨_, rfl⟩
      rw [HZ9.out]
      go_wp2
      go_ret
      exact ⟨by rw [HZ9.out]; rfl, HBB.out⟩
/-- nodesText of whatever nodes. -/
theorem nt_ok : ∀ (n : Nat) (ts : List Tr), (∀ t ∈ ts, SizeOf.sizeOf t < n) → NtOK ts
  | 0, ts, h => nt_of ts fun _ ht => absurd (h _ ht) (Nat.not_lt_zero _)
  | n + 1, ts, h => nt_of ts fun t ht => nt_ok n t.sub fun x hx => by
      obtain ⟨j, hj, rfl⟩ := List.getElem_of_mem hx
      have h1 := t.sub_size j hj
      have h2 := h t ht
      omega
theorem nodesText_any (ts : List Tr) : NtOK ts := nt_ok (SizeOf.sizeOf ts) ts fun _ ht => List.sizeOf_lt_of_mem ht
end Go.Proofs.YtnfjpngmadoflaaGreatDoor
