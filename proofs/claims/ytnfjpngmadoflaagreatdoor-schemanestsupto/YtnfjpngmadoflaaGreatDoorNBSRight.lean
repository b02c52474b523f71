/-
  What a right schema is, node by node; how long its text is.
  schema.Text: exact; schema.Read of the text of a right schema.
  The reference's SameNode of one schema in two places.
  The law's closed fact: a schema of one leaf is read, and written.
-/
import Derived.Test.YtnfjpngmadoflaaGreatDoorNBSHead
namespace Go.Proofs.YtnfjpngmadoflaaGreatDoor
open Go.RowKit
theorem wkL_each {S : Type} (st : S → List Tr → Tr → Bool × S) (path : List Tr) : ∀ (ts : List Tr) (s : S), (wkL st s path ts).1 = true → ∀ j (h : j < ts.length), ∃ s', (wkT st s' path ts[j]).1 = true
  | [], s => fun _ j h => absurd h (Nat.not_lt_zero _)
  | t :: ts, s => fun h j hj => by
    rw [wkL] at h
    by_cases h1 : (wkT st s path t).1 = true
    · rw [if_pos h1] at h
      cases j with
      | zero => exact ⟨s, h1⟩
      | succ j => exact wkL_each st path ts _ h j (by simpa using hj)
    · rw [if_neg h1] at h
      exact absurd h h1
theorem wkT_each {S : Type} (st : S → List Tr → Tr → Bool × S) (s : S) (path : List Tr) (t : Tr) (h : (wkT st s path t).1 = true) : (st s path t).1 = true ∧ ∀ j (hj : j < t.sub.length), ∃ s', (wkT st s' (path ++ [t]) t.sub[j]).1 = true := by
  rw [wkT_eq] at h
  by_cases h1 : (st s path t).1 = true
  · rw [if_pos h1] at h
    exact ⟨h1, wkL_each st (path ++ [t]) t.sub _ h⟩
  · rw [if_neg h1] at h
    exact absurd h h1
theorem nmsL_ok : ∀ (ts ahead : List Tr), nmsL ahead ts = true → ∀ j (h : j < ts.length), nameOk ts[j].nm = true
  | [], _, _, j, h => absurd h (Nat.not_lt_zero _)
  | t :: ts, ahead, h, j, hj => by
    rw [nmsL] at h
    simp only [Bool.and_eq_true] at h
    cases j with
    | zero => exact h.1.1
    | succ j => exact nmsL_ok ts _ h.2 j (by simpa using hj)
theorem rt_of : ∀ (n : Nat) (t : Tr), SizeOf.sizeOf t < n → ∀ (path : List Tr) (m : Nat) (acc : List Int), 0 < path.length → t.Sm → nameOk t.nm = true → (wkT stB m path t).1 = true → (wkT stS () path t).1 = true → (wkT stM () path t).1 = true → (wkT stI acc path t).1 = true → Rt (path.length + 1) t
  | 0, t, h => absurd h (Nat.not_lt_zero _)
  | n + 1, t, hsz => fun path m acc hp hsm hnm hB hS hM hI => by
    obtain ⟨b1, b2⟩ := wkT_each stB m path t hB
    obtain ⟨s1, s2⟩ := wkT_each stS () path t hS
    obtain ⟨m1, m2⟩ := wkT_each stM () path t hM
    obtain ⟨i1, i2⟩ := wkT_each stI acc path t hI
    have hd : path.length < 6 := by simp [stB] at b1; exact b1.2
    have hs : shpOk t = true := s1
    have hn : nmsL [] t.sub = true := m1
    have hi : 1 ≤ t.id ∧ t.id ≤ 1000 := by
      rw [stI, if_neg (by omega)] at i1
      simp only [Bool.and_eq_true, decide_eq_true_eq] at i1
      exact i1.2
    simp only [shpOk, Bool.and_eq_true, decide_eq_true_eq, beq_iff_eq] at hs
    have hgd : t.kind = 0 ↔ 0 < t.sub.length := decide_eq_decide.1 hs.2
    have hsub := t.sub_size
    have hlen := hsm.len
    have hat := hsm.at_
    have hpl : ∀ x : Tr, (path ++ [x]).length = path.length + 1 := fun x => by simp
    cases t with
    | node id nm rep kind sub =>
      refine .mk _ id nm rep kind sub (by omega) hi hnm hs.1.1 hs.1.2 hgd hlen fun j hj => ?_
      · obtain ⟨x1, y1⟩ := b2 j hj
        obtain ⟨x2, y2⟩ := s2 j hj
        obtain ⟨x3, y3⟩ := m2 j hj
        obtain ⟨x4, y4⟩ := i2 j hj
        have h := rt_of n sub[j] (by have := hsub j hj; simp only [Tr.sub] at this; omega) (path ++ [.node id nm rep kind sub]) x1 x4 (by simp) (hat j hj) (nmsL_ok sub [] hn j hj) y1 y2 y3 y4
        rwa [hpl] at h
/-- The nodes of a right schema are right. -/
theorem rt_subs (t : Tr) (hsm : t.Sm) (hB : inB t = true) (hS : shpT t = true) (hM : nmsT t = true) (hI : idsT t = true) : ∀ x ∈ t.sub, Rt 2 x := fun x hx => by
  obtain ⟨j, hj, rfl⟩ := List.getElem_of_mem hx
  obtain ⟨b1, b2⟩ := wkT_each stB 0 [] t hB
  obtain ⟨s1, s2⟩ := wkT_each stS () [] t hS
  obtain ⟨m1, m2⟩ := wkT_each stM () [] t hM
  obtain ⟨i1, i2⟩ := wkT_each stI [] [] t hI
  obtain ⟨x1, y1⟩ := b2 j hj
  obtain ⟨x2, y2⟩ := s2 j hj
  obtain ⟨x3, y3⟩ := m2 j hj
  obtain ⟨x4, y4⟩ := i2 j hj
  exact rt_of _ t.sub[j] (Nat.lt_succ_self _) ([] ++ [t]) x1 x4 (by simp) (hsm.at_ j hj) (nmsL_ok t.sub [] m1 j hj) y1 y2 y3 y4
mutual
theorem cntB : ∀ (t : Tr) (m : Nat) (path : List Tr), (wkT stB m path t).1 = true → (wkT stB m path t).2 = m + t.cnt ∧ m + t.cnt ≤ 40
  | .node id nm rep kind sub, m, path => by
    rw [wkT, Tr.cnt]
    intro h
    by_cases hs : (stB m path (.node id nm rep kind sub)).1 = true
    · rw [if_pos hs] at h ⊢
      have h1 : m + 1 ≤ 40 ∧ path.length < 6 := by simpa [stB] using hs
      have h2 := cntBL sub (stB m path (.node id nm rep kind sub)).2 (path ++ [.node id nm rep kind sub]) h
      have e : (stB m path (.node id nm rep kind sub)).2 = m + 1 := rfl
      rw [e] at h2 ⊢
      exact ⟨by omega, by omega⟩
    · rw [if_neg hs] at h
      exact absurd h hs
theorem cntBL : ∀ (ts : List Tr) (m : Nat) (path : List Tr), (wkL stB m path ts).1 = true → (wkL stB m path ts).2 = m + cntL ts ∧ (m ≤ 40 → m + cntL ts ≤ 40)
  | [], m, path => by
    rw [wkL, cntL]
    exact fun _ => ⟨by simp, fun h => h⟩
  | t :: ts, m, path => by
    rw [wkL, cntL]
    intro h
    by_cases hs : (wkT stB m path t).1 = true
    · rw [if_pos hs] at h ⊢
      have h1 := cntB t m path hs
      have h2 := cntBL ts _ path h
      rw [h1.1] at h2 ⊢
      exact ⟨by omega, fun _ => by have := h2.2 h1.2; omega⟩
    · rw [if_neg hs] at h
      exact absurd h hs
end
theorem hd_len (id : Int) (nm : ByteArray) (rep kind : Int) (hi : 1 ≤ id ∧ id ≤ 1000) (hn : nameOk nm = true) (hr : 1 ≤ rep ∧ rep ≤ 3) (hk : 0 ≤ kind ∧ kind ≤ 5) : (hdTx id nm rep kind).length ≤ 40 := by
  have h1 : (repB rep).length ≤ 8 := by
    have : rep = 1 ∨ rep = 2 ∨ rep = 3 := by omega
    rcases this with rfl | rfl | rfl <;> decide
  have h2 : (kindB kind).length ≤ 6 := by
    have : kind = 0 ∨ kind = 1 ∨ kind = 2 ∨ kind = 3 ∨ kind = 4 ∨ kind = 5 := by omega
    rcases this with rfl | rfl | rfl | rfl | rfl | rfl <;> decide
  have h3 : nm.data.toList.length ≤ 12 := by
    simp only [nameOk, Bool.and_eq_true, decide_eq_true_eq] at hn
    have : nm.data.toList.length = nm.size := by simp
    omega
  have h4 : (Lib.itoa id).length ≤ 4 := by
    obtain ⟨u, rfl⟩ : ∃ u : Nat, id = u := ⟨id.toNat, by omega⟩
    rw [show Lib.itoa (u : Int) = Lib.decDigits u by unfold Lib.itoa; rw [if_neg (by omega)]; simp]
    exact (dd_len u (by omega)).2
  simp only [hdTx, List.length_append, List.length_cons]
  omega
/-- How long nodes' text is. -/
theorem ntL_len (bl : List UInt8) (C : Nat) : ∀ ts : List Tr, (∀ t ∈ ts, (ntT bl t).length ≤ C * t.cnt) → (ntL bl ts).length ≤ C * cntL ts
  | [], _ => by rw [ntL]; simp
  | t :: ts, h => by
    rw [ntL, cntL, List.length_append, Nat.mul_add]
    have h1 := h t (by simp)
    have h2 := ntL_len bl C ts fun x hx => h x (by simp [hx])
    omega
theorem ntT_len : ∀ (n : Nat) (t : Tr), SizeOf.sizeOf t < n → ∀ (deep : Nat) (bl : List UInt8), bl.length ≤ 2 * deep → Rt deep t → (ntT bl t).length ≤ 100 * t.cnt
  | 0, t, h => absurd h (Nat.not_lt_zero _)
  | n + 1, t, hsz => fun deep bl hb hrt => by
    have hsub := t.sub_size
    cases hrt with
    | mk _ id nm rep kind sub hd hi hn hr hk hg hl each =>
    have h1 := hd_len id nm rep kind hi hn hr hk
    have h2 : (ntL (bl ++ [32, 32]) sub).length ≤ 100 * cntL sub := ntL_len _ _ sub fun x hx => by
      obtain ⟨j, hj, rfl⟩ := List.getElem_of_mem hx
      exact ntT_len n sub[j] (by have := hsub j hj; simp only [Tr.sub] at this; omega) (deep + 1) _ (by simp; omega) (each j hj)
    rw [ntT, Tr.cnt, Nat.mul_add]
    split
    · simp only [List.length_append, List.length_cons, List.length_nil] at h2 ⊢
      omega
    · simp only [List.length_append, List.length_cons, List.length_nil]
      omega
theorem tx_len (t : Tr) (hsm : t.Sm) (hB : inB t = true) (hS : shpT t = true) (hM : nmsT t = true) (hI : idsT t = true) : (ntL [] t.sub).length ≤ 4000 := by
  have h1 := ntL_len [] 100 t.sub fun x hx => ntT_len _ x (Nat.lt_succ_self _) 2 [] (by simp) (rt_subs t hsm hB hS hM hI x hx)
  have h2 := (cntB t 0 [] hB).2
  rw [Tr.cnt_eq] at h2
  omega
end Go.Proofs.YtnfjpngmadoflaaGreatDoor

namespace Go.Proofs.YtnfjpngmadoflaaGreatDoor
open Go.RowKit
set_option maxRecDepth 100000 in
set_option maxHeartbeats 3200000 in
/-- Text of a right schema. -/
theorem text_right (t : Tr) (n : Nat) (hd : t.Dp n) (hn : n ≤ 1100000) (hs : t.Sm) (a : Option Addr) (c : Nat) (P : Nat → Prop) (W : World) (hl : LiesN W P a t.sub) (hcap : t.sub.length ≤ c) (eb es en : TypeId × Value) (he : Er3 W eb es en) (htab : Lib.TabIs Tryz.prog W "internal/strconv.uint64pow10" .u64 Lib.pow10Tab) (hv : vldN t = 0) :
    Calls Tryz.prog 13 #[nodeV t a c] W fun e w' => e = .returned (.tuple #[.string ⟨(ntL [] t.sub).toArray⟩, .nilIface]) ∧ Below W.heap.size W w' := by
  obtain ⟨w0, HW0, HX, HB⟩ := one_box W #[.int .i64 t.id, .string t.nm, .int .i64 t.rep, .int .i64 t.kind, .slice a t.sub.length c] 24
  have HL : Hid (LiesN w0 P a t.sub) := hl.keep HB.out
  have HV := valid_any t n hd hn hs a c P w0 HL.out hcap eb es en (he.keep HB.out).b (he.keep HB.out).s (he.keep HB.out).n
  rw [vldV_right _ _ _ hv] at HV
  have HV : Hid _ := HV
  obtain ⟨h1, h2, h3, h4, h5⟩ := right_parts hv
  have HTx : Hid (∀ w : World, LiesN w P a t.sub → Lib.TabIs Tryz.prog w "internal/strconv.uint64pow10" .u64 Lib.pow10Tab → Calls Tryz.prog 30 #[.slice a t.sub.length c, .string ⟨#[]⟩] w fun e w' => e = .returned (.string ⟨(ntL [] t.sub).toArray⟩) ∧ Below w.heap.size w w') := fun w hl ht => nodesText_any t.sub [] P a c w hl (fun x hx => ⟨2, rt_subs t hs h1 h3 h4 h5 x hx⟩) (by have := tx_len t hs h1 h3 h4 h5; omega) hs.len ht
  have HTab : Hid _ := htab
  obtain ⟨⟨p0, p1, p2, p3, p4⟩, _⟩ := row_five HX.out
  clear hl hd hs he htab hv h1 h2 h3 h4 h5
  unfold nodeV
  go_enter Tryz.func13, Tryz.ntmps13
  go_wp2_with fail
  rw [HW0.out]
  refine Calls.mono HV.out ?_
  rintro e w1 ⟨rfl, hb1⟩
  have HB1 : Hid (Below W.heap.size W w1) := HB.out.trans (hb1.mono HB.out.size)
  have HL1 : Hid (LiesN w1 P a t.sub) := HL.out.keep hb1
  have HX1 : Hid _ := blk_keep hb1 HX.out
  clear hb1 p0 p1 p2 p3 p4
  obtain ⟨⟨p0, p1, p2, p3, p4⟩, _⟩ := row_five HX1.out
  go_wp2_with fail
  refine Calls.mono (HTx.out w1 HL1.out (tab_keep HTab.out HB1.out)) ?_
  rintro e w2 ⟨rfl, hb2⟩
  have HB2 : Hid (Below W.heap.size W w2) := HB1.out.trans (hb2.mono HB1.out.size)
  clear hb2
  obtain ⟨x9, HX9⟩ := hid_name (⟨(ntL [] t.sub).toArray⟩ : ByteArray)
  rw [HX9.out]
  go_wp2
  go_ret2
  exact ⟨by rw [HX9.out]; rfl, HB2.out⟩
set_option maxRecDepth 100000 in
set_option maxHeartbeats 3200000 in
/-- .. of another one. -/
theorem text_wrong (t : Tr) (n : Nat) (hd : t.Dp n) (hn : n ≤ 1100000) (hs : t.Sm) (a : Option Addr) (c : Nat) (P : Nat → Prop) (W : World) (hl : LiesN W P a t.sub) (hcap : t.sub.length ≤ c) (eb es en : TypeId × Value) (he : Er3 W eb es en) (hv : vldN t ≠ 0) :
    Calls Tryz.prog 13 #[nodeV t a c] W fun e w' => (∃ ty v, e = .returned (.tuple #[.string ⟨#[]⟩, .iface ty v])) ∧ Below W.heap.size W w' := by
  obtain ⟨w0, HW0, HX, HB⟩ := one_box W #[.int .i64 t.id, .string t.nm, .int .i64 t.rep, .int .i64 t.kind, .slice a t.sub.length c] 24
  have HV := valid_any t n hd hn hs a c P w0 (hl.keep HB.out) hcap eb es en (he.keep HB.out).b (he.keep HB.out).s (he.keep HB.out).n
  obtain ⟨ty, v, hx⟩ := vldV_wrong eb es en hv
  rw [hx] at HV
  have HV : Hid _ := HV
  obtain ⟨⟨p0, p1, p2, p3, p4⟩, _⟩ := row_five HX.out
  clear hl hd hs he hv hx
  unfold nodeV
  go_enter Tryz.func13, Tryz.ntmps13
  go_wp2_with fail
  rw [HW0.out]
  refine Calls.mono HV.out ?_
  rintro e w1 ⟨rfl, hb1⟩
  have HB1 : Hid (Below W.heap.size W w1) := HB.out.trans (hb1.mono HB.out.size)
  clear hb1 p0 p1 p2 p3 p4
  go_wp2
  go_ret2
  exact ⟨⟨ty, v, rfl⟩, HB1.out⟩
set_option maxRecDepth 100000 in
set_option maxHeartbeats 6400000 in
/-- Read of a right schema's text. -/
theorem read_right (s : ByteArray) (hm : s.size ≤ 8000) (ts : List Tr) (q : Nat) (hrl : RdL s 2 0 q ts) (hw : WdAt s q s.size s.size) (nmr : ByteArray) (hnr : nmr = ⟨#[114, 111, 111, 116]⟩) (n : Nat) (hd : (Tr.node 0 nmr 1 0 ts).Dp n) (hn : n ≤ 1100000) (hs : (Tr.node 0 nmr 1 0 ts).Sm) (W : World) (eb es en : TypeId × Value) (he : Er3 W eb es en) (hv : vldN (.node 0 nmr 1 0 ts) = 0) :
    Calls Tryz.prog 12 #[.string s] W fun e w' => (∃ a' c', e = .returned (.tuple #[nodeV (.node 0 nmr 1 0 ts) a' c', .nilIface]) ∧ LiesN w' (fun b => W.heap.size ≤ b) a' ts ∧ ts.length ≤ c') ∧ Below W.heap.size W w' := by
  subst hnr
  obtain ⟨w0, HW0, HX, HY, HZ, HB, HSz⟩ := three_boxesS W #[.int .i64 0, .string ⟨#[]⟩, .int .i64 0, .int .i64 0, .slice none 0 0] #[.string s, .int .i64 0, .nilIface] #[.int .i64 0, .string ⟨#[114, 111, 111, 116]⟩, .int .i64 1, .int .i64 0, .slice none 0 0] 24 60 24
  have HC : Hid _ := nodes_ok ts 2 (W.heap.size + 1) s 0 q ⟨#[]⟩ s.size s.size w0 (by omega) HY.out (by omega) hrl hw (by
    have h : (s.extract s.size s.size).size = 0 := by rw [ByteArray.size_extract]; omega
    cases h2 : s.extract s.size s.size with
    | mk d =>
      rw [h2] at h
      have h3 : d.size = 0 := h
      congr 1
      exact Array.eq_empty_of_size_eq_zero h3) (by decide) hs.len
  have HV : Hid (∀ (w : World) (a' : Option Addr) (c' : Nat), Below W.heap.size W w → LiesN w (fun b => W.heap.size ≤ b) a' ts → ts.length ≤ c' → Calls Tryz.prog 10 #[nodeV (.node 0 ⟨#[114, 111, 111, 116]⟩ 1 0 ts) a' c'] w fun e w' => e = .returned .nilIface ∧ Below w.heap.size w w') := fun w a' c' hb hl hc => (by
    have h := valid_any (.node 0 ⟨#[114, 111, 111, 116]⟩ 1 0 ts) n hd hn hs a' c' _ w hl hc eb es en ((hb.cell (World.block_lt_of_cell? W _ he.b)).trans he.b) ((hb.cell (World.block_lt_of_cell? W _ he.s)).trans he.s) ((hb.cell (World.block_lt_of_cell? W _ he.n)).trans he.n)
    rw [vldV_right _ _ _ hv] at h
    exact h)
  have q0 : decide ((8000 : Int) < (s.size : Int)) = false := by simp; omega
  clear hrl hw hd hs he hv
  go_enter Tryz.func12, Tryz.ntmps12
  go_wp2_with fail
  rw [HW0.out]
  refine Calls.mono HC.out ?_
  rintro e w1 ⟨a1, c1, rfl, hl1, hc1, hr1, hf1⟩
  have HX1 : Hid (w1.heap[W.heap.size]? = some (.cells #[.int .i64 0, .string ⟨#[]⟩, .int .i64 0, .int .i64 0, .slice none 0 0] 24 (0, 0))) := hf1.box HX.out (by omega)
  have HZ1 : Hid (w1.heap[W.heap.size + 1 + 1]? = some (.cells #[.int .i64 0, .string ⟨#[114, 111, 111, 116]⟩, .int .i64 1, .int .i64 0, .slice none 0 0] 24 (0, 0))) := hf1.box HZ.out (by omega)
  have HR1 : Hid (w1.heap[W.heap.size + 1]? = some (.cells #[.string s, .int .i64 (q : Nat), .nilIface] 60 (0, 0))) := hr1
  have HF1 : Hid (Below W.heap.size W w1) := HB.out.trans (hf1.below HB.out.size (by omega))
  have HL1 : Hid (LiesN w1 (fun b => W.heap.size + 3 ≤ b) a1 ts) := hl1.stay (fun b hb _ => (by have := HSz.out; omega)) (fun _ _ _ => rfl)
  clear hl1 hr1 hf1 HC
  obtain ⟨⟨p0, p1, p2, p3, p4⟩, g0, g1, g2, g3, g4⟩ := row_five HZ1.out
  obtain ⟨r0, r1, r2⟩ := row_three HR1.out
  have HZ2 : Hid ((w1.setCell ⟨W.heap.size + 1 + 1, 4, none⟩ (.slice a1 ts.length c1)).heap[W.heap.size + 1 + 1]? = some (.cells #[.int .i64 0, .string ⟨#[114, 111, 111, 116]⟩, .int .i64 1, .int .i64 0, .slice a1 ts.length c1] 24 (0, 0))) := row_setC HZ1.out
  have HX2 : Hid ((w1.setCell ⟨W.heap.size + 1 + 1, 4, none⟩ (.slice a1 ts.length c1)).heap[W.heap.size]? = some (.cells #[.int .i64 0, .string ⟨#[]⟩, .int .i64 0, .int .i64 0, .slice none 0 0] 24 (0, 0))) := (Below.heap_setCell _ _ _ _ (by show W.heap.size ≠ W.heap.size + 1 + 1; omega)).trans HX1.out
  have HL2 : Hid (LiesN (w1.setCell ⟨W.heap.size + 1 + 1, 4, none⟩ (.slice a1 ts.length c1)) (fun b => W.heap.size + 3 ≤ b) a1 ts) := HL1.out.stay (fun _ h _ => h) (fun b h _ => Below.heap_setCell _ _ _ _ (by show b ≠ W.heap.size + 1 + 1; omega))
  have HF2 : Hid (Below W.heap.size W (w1.setCell ⟨W.heap.size + 1 + 1, 4, none⟩ (.slice a1 ts.length c1))) := HF1.out.setCell (p := ⟨W.heap.size + 1 + 1, 4, none⟩) (by show W.heap.size ≤ W.heap.size + 1 + 1; omega) _
  go_wp2_with fail
  refine Calls.mono (HV.out _ a1 c1 HF2.out (HL2.out.stay (fun b h _ => by omega) (fun _ _ _ => rfl)) hc1) ?_
  rintro e w2 ⟨rfl, hb2⟩
  have HZ3 : Hid _ := blk_keep hb2 HZ2.out
  have HX3 : Hid _ := blk_keep hb2 HX2.out
  have HL3 : Hid (LiesN w2 (fun b => W.heap.size + 3 ≤ b) a1 ts) := HL2.out.keep hb2
  have HF3 : Hid (Below W.heap.size W w2) := HF2.out.trans (hb2.mono HF2.out.size)
  clear hb2 HZ2 HX2 HL2 HF2 HX1 HZ1 HL1 HF1 HR1 p0 p1 p2 p3 p4 g0 g1 g2 g3 g4 r0 r1 r2
  obtain ⟨⟨p0, p1, p2, p3, p4⟩, _⟩ := row_five HZ3.out
  obtain ⟨⟨z0, z1, z2, z3, z4⟩, f0, f1, f2, f3, f4⟩ := row_five HX3.out
  go_wp2
  refine bodyPost_ret (v := .tuple #[.agg #[.int .i64 0, .string ⟨#[114, 111, 111, 116]⟩, .int .i64 1, .int .i64 0, .slice a1 ts.length c1], .nilIface]) (results_cS Tryz.results12 _ _ W.heap.size 24 #[.int .i64 0, .string ⟨#[114, 111, 111, 116]⟩, .int .i64 1, .int .i64 0, .slice a1 ts.length c1] (0, 0) _ .nilIface rfl rfl (row_setC (row_setC (row_setC (row_setC (row_setC HX3.out))))) Tryz.underlying24 rfl (by kernel_rfl)) rfl ⟨⟨a1, c1, rfl, ?_, hc1⟩, ?_⟩
  · refine HL3.out.stay (fun b h _ => by omega) (fun b h _ => ?_)
    have hb : b ≠ W.heap.size := by omega
    rw [Below.heap_setCell _ _ _ _ hb, Below.heap_setCell _ _ _ _ hb, Below.heap_setCell _ _ _ _ hb, Below.heap_setCell _ _ _ _ hb, Below.heap_setCell _ _ _ _ hb]
  · exact ((((HF3.out.setCell (by simp) _).setCell (by simp) _).setCell (by simp) _).setCell (by simp) _).setCell (by simp) _
end Go.Proofs.YtnfjpngmadoflaaGreatDoor

namespace Go.Proofs.YtnfjpngmadoflaaGreatDoor
open Go.RowKit
def SnOK (t : Tr) : Prop := ∀ (P P' : Nat → Prop) (a : Option Addr) (c : Nat) (a' : Option Addr) (c' : Nat) (W : World), LiesN W P a t.sub → LiesN W P' a' t.sub → t.sub.length ≤ c → t.sub.length ≤ c' →
  Calls Tryz.prog 11 #[nodeV t a c, nodeV t a' c'] W fun e w' => e = .returned (.bool true) ∧ Below W.heap.size W w'
set_option maxRecDepth 100000 in
set_option maxHeartbeats 6400000 in
theorem sn_of (t : Tr) (hs : t.sub.length ≤ 1048576) (hts : ∀ x ∈ t.sub, SnOK x) : SnOK t := fun P P' a c a' c' W hl hl' hc hc' => by
  obtain ⟨w0, HW0, HX, HY, HB⟩ := two_boxesS W #[.int .i64 t.id, .string t.nm, .int .i64 t.rep, .int .i64 t.kind, .slice a t.sub.length c] #[.int .i64 t.id, .string t.nm, .int .i64 t.rep, .int .i64 t.kind, .slice a' t.sub.length c'] 24 24
  have HL : Hid (LiesN w0 P a t.sub) := hl.keep HB.out
  have HL' : Hid (LiesN w0 P' a' t.sub) := hl'.keep HB.out
  have HT : Hid (∀ x ∈ t.sub, SnOK x) := hts
  obtain ⟨⟨p0, p1, p2, p3, p4⟩, _⟩ := row_five HX.out
  obtain ⟨⟨q0, q1, q2, q3, q4⟩, _⟩ := row_five HY.out
  clear hl hl' hts
  unfold nodeV
  go_enter Tryz.func11, Tryz.ntmps11
  go_wp2_with fail
  rw [HW0.out]
  go_wp2_with fail
  clear p0 p1 p2 p3 p4 q0 q1 q2 q3 q4
  go_loopw [5] (fun x wr => ∃ i : Nat, i ≤ t.sub.length ∧ x = .int .i64 i ∧ Hid (Below w0.heap.size w0 wr)) (fun x _ => t.sub.length - (intOf x).toNat)
  case atStart => exact ⟨0, Nat.zero_le _, rfl, Below.refl _ _⟩
  case round =>
    obtain ⟨i, hik, rfl, HBr⟩ := hrel
    have HXr : Hid (wr.heap[W.heap.size]? = some (.cells #[.int .i64 t.id, .string t.nm, .int .i64 t.rep, .int .i64 t.kind, .slice a t.sub.length c] 24 (0, 0))) := blk_keep HBr.out HX.out
    have HYr : Hid (wr.heap[W.heap.size + 1]? = some (.cells #[.int .i64 t.id, .string t.nm, .int .i64 t.rep, .int .i64 t.kind, .slice a' t.sub.length c'] 24 (0, 0))) := blk_keep HBr.out HY.out
    obtain ⟨⟨p0, p1, p2, p3, p4⟩, _⟩ := row_five HXr.out
    obtain ⟨⟨q0, q1, q2, q3, q4⟩, _⟩ := row_five HYr.out
    by_cases hlt : i < t.sub.length
    · obtain ⟨b, o, a1, c1, rfl, d0, d1, d2, d3, d4, hl1, hc1⟩ := (HL.out.keep HBr.out).at2 i hlt
      obtain ⟨b', o', a2, c2, rfl, e0, e1, e2, e3, e4, hl2, hc2⟩ := (HL'.out.keep HBr.out).at2 i hlt
      have HC : Hid _ := HT.out t.sub[i] (List.getElem_mem hlt) P P' a1 c1 a2 c2 wr.drew (hl1.stay (fun _ h _ => h) (fun _ _ _ => rfl)) (hl2.stay (fun _ h _ => h) (fun _ _ _ => rfl)) hc1 hc2
      clear hl1 hl2
      obtain ⟨tid, htid⟩ := hid_name t.sub[i].id
      have b10 : Below wr.heap.size wr wr := Below.refl _ _
      have HN : Hid (∀ X, Below wr.heap.size wr X → (X.cell? ⟨W.heap.size, 4, none⟩ = some (.slice (some ⟨b, o, none⟩) t.sub.length c) ∧ X.cell? ⟨W.heap.size + 1, 4, none⟩ = some (.slice (some ⟨b', o', none⟩) t.sub.length c')) ∧ (X.cell? ⟨b, o + i * 5, none⟩ = some (.int .i64 t.sub[i].id) ∧ X.cell? ⟨b, o + i * 5 + 1, none⟩ = some (.string t.sub[i].nm) ∧ X.cell? ⟨b, o + i * 5 + 2, none⟩ = some (.int .i64 t.sub[i].rep) ∧ X.cell? ⟨b, o + i * 5 + 3, none⟩ = some (.int .i64 t.sub[i].kind) ∧ X.cell? ⟨b, o + i * 5 + 4, none⟩ = some (.slice a1 t.sub[i].sub.length c1)) ∧ (X.cell? ⟨b', o' + i * 5, none⟩ = some (.int .i64 t.sub[i].id) ∧ X.cell? ⟨b', o' + i * 5 + 1, none⟩ = some (.string t.sub[i].nm) ∧ X.cell? ⟨b', o' + i * 5 + 2, none⟩ = some (.int .i64 t.sub[i].rep) ∧ X.cell? ⟨b', o' + i * 5 + 3, none⟩ = some (.int .i64 t.sub[i].kind) ∧ X.cell? ⟨b', o' + i * 5 + 4, none⟩ = some (.slice a2 t.sub[i].sub.length c2)) ∧ Below wr.heap.size wr X) := fun X hX => (by
        have k : ∀ (ad : Addr) (v : Value), wr.cell? ad = some v → X.cell? ad = some v := fun ad v h => (hX.cell (World.block_lt_of_cell? wr _ h)).trans h
        exact ⟨⟨k _ _ p4, k _ _ q4⟩, ⟨k _ _ d0, k _ _ d1, k _ _ d2, k _ _ d3, k _ _ d4⟩, ⟨k _ _ e0, k _ _ e1, k _ _ e2, k _ _ e3, k _ _ e4⟩, hX⟩)
      go_upto_region 6 with fail
      go_region_held3 (fun X => (X.cell? ⟨W.heap.size, 4, none⟩ = some (.slice (some ⟨b, o, none⟩) t.sub.length c) ∧ X.cell? ⟨W.heap.size + 1, 4, none⟩ = some (.slice (some ⟨b', o', none⟩) t.sub.length c')) ∧ (X.cell? ⟨b, o + i * 5, none⟩ = some (.int .i64 t.sub[i].id) ∧ X.cell? ⟨b, o + i * 5 + 1, none⟩ = some (.string t.sub[i].nm) ∧ X.cell? ⟨b, o + i * 5 + 2, none⟩ = some (.int .i64 t.sub[i].rep) ∧ X.cell? ⟨b, o + i * 5 + 3, none⟩ = some (.int .i64 t.sub[i].kind) ∧ X.cell? ⟨b, o + i * 5 + 4, none⟩ = some (.slice a1 t.sub[i].sub.length c1)) ∧ (X.cell? ⟨b', o' + i * 5, none⟩ = some (.int .i64 t.sub[i].id) ∧ X.cell? ⟨b', o' + i * 5 + 1, none⟩ = some (.string t.sub[i].nm) ∧ X.cell? ⟨b', o' + i * 5 + 2, none⟩ = some (.int .i64 t.sub[i].rep) ∧ X.cell? ⟨b', o' + i * 5 + 3, none⟩ = some (.int .i64 t.sub[i].kind) ∧ X.cell? ⟨b', o' + i * 5 + 4, none⟩ = some (.slice a2 t.sub[i].sub.length c2)) ∧ Below wr.heap.size wr X) (first | (with_reducible refine HN.out _ ?_; repeat' (first | with_reducible assumption | with_reducible exact b10.drew | with_reducible exact b10))) (first | (go_at_call 11; refine Calls.mono HC.out ?_; rintro e w1 ⟨rfl, hb1⟩; have hbb : Below wr.heap.size wr w1 := (Below.refl _ _).drew.trans hb1))
      all_goals
        have HBn : Hid (Below w0.heap.size w0 w1) := HBr.out.trans (hbb.mono HBr.out.size)
        clear hbb
        go_wp2
        go_roundw
        case rel => exact ⟨i + 1, by omega, by go_num, HBn⟩
        case measure => simp [intOf]; omega
    · obtain rfl : i = t.sub.length := by omega
      go_wp2
      go_ret
      exact ⟨rfl, HB.out.trans (HBr.out.mono HB.out.size)⟩
theorem sn_ok : ∀ (n : Nat) (t : Tr), SizeOf.sizeOf t < n → t.Sm → SnOK t
  | 0, t, h => absurd h (Nat.not_lt_zero _)
  | n + 1, t, hsz => fun hsm => sn_of t hsm.len fun x hx => by
      obtain ⟨j, hj, rfl⟩ := List.getElem_of_mem hx
      exact sn_ok n _ (by have := t.sub_size j hj; omega) (hsm.at_ j hj)
end Go.Proofs.YtnfjpngmadoflaaGreatDoor

namespace Go.Proofs.YtnfjpngmadoflaaGreatDoor
open Go.RowKit
def lfX : Tr := .node 1 ⟨#[97]⟩ 1 2 []
def lfT : Tr := .node 0 ⟨#[114, 111, 111, 116]⟩ 1 0 [lfX]
def lfS : ByteArray := ⟨#[114, 101, 113, 117, 105, 114, 101, 100, 32, 105, 110, 116, 32, 97, 32, 35, 49, 59]⟩
theorem lf_itoa : Lib.itoa 1 = [49] := by
  unfold Lib.itoa
  rw [if_neg (by omega)]
  rw [show (1 : Int).toNat = 1 from rfl, Lib.decDigits_one (by omega)]
  rfl
theorem lf_hd : hdTx 1 ⟨#[97]⟩ 1 2 = [114, 101, 113, 117, 105, 114, 101, 100, 32, 105, 110, 116, 32, 97, 32, 35, 49] := by
  rw [hdTx, lf_itoa]
  rfl
theorem lf_tx : ntL [] lfT.sub = [114, 101, 113, 117, 105, 114, 101, 100, 32, 105, 110, 116, 32, 97, 32, 35, 49, 59, 10] := by
  show ntL [] [lfX] = _
  rw [ntL, ntL, lfX, ntT, lf_hd]
  rfl
theorem lf_rd : RdL lfS 2 0 18 [lfX] := by
  have q1 : lfS.data.toList = [] ++ ([] ++ (hdTx 1 ⟨#[97]⟩ 1 2 ++ [59])) := by rw [lf_hd]; rfl
  have hh := hd_at q1 (by decide) Bls.nil (by omega) (by decide) (by omega) (by omega) (fun c t e => by injection e with e1 _; rw [← e1]; decide)
  rw [lf_hd] at hh
  have q2 : lfS.data.toList = [114, 101, 113, 117, 105, 114, 101, 100, 32, 105, 110, 116, 32, 97, 32, 35, 49] ++ ([] ++ ([59] ++ [])) := rfl
  have w5 := wd_tok q2 (by decide) Bls.nil (one_tok 59 _ (by decide) (by decide)) (fun c t e => by injection e with e1 _; rw [← e1]; decide)
  have e5 := ext_tok q2
  exact .cons (.leaf (rep := 0) (kind := 2) hh (by omega) (by omega) (by omega) w5 (by decide) (by rw [e5]; decide)) .nil
theorem lf_end : WdAt lfS 18 lfS.size lfS.size := by
  have q2 : lfS.data.toList = [114, 101, 113, 117, 105, 114, 101, 100, 32, 105, 110, 116, 32, 97, 32, 35, 49, 59] ++ ([] ++ ([] ++ [])) := rfl
  exact wd_tok q2 (by decide) Bls.nil (.inl ⟨rfl, rfl⟩) (fun c t e => by cases e)
theorem lf_dp : lfT.Dp 2 := .mk 1 _ _ _ _ _ fun j hj => by
  have h : j = 0 := by have : j < 1 := hj; omega
  subst h
  exact .mk 0 _ _ _ _ _ fun j hj => absurd hj (Nat.not_lt_zero _)
theorem lf_sm : lfT.Sm := .mk _ _ _ _ _ (by omega) (by decide) (by decide) fun j hj => by
  have h : j = 0 := by have : j < 1 := hj; omega
  subst h
  exact .mk _ _ _ _ _ (by omega) (by decide) (by decide) fun j hj => absurd hj (Nat.not_lt_zero _)
theorem lf_right : vldN lfT = 0 := by
  have h1 : inB lfT = true := rfl
  have h2 : isRootB lfT = true := by
    rw [isRootB, decide_eq_true_iff, Lib.toList_data]
    exact ⟨rfl, rfl, rfl, rfl⟩
  have h3 : shpT lfT = true := rfl
  have h4 : nmsT lfT = true := rfl
  have h5 : idsT lfT = true := rfl
  simp [vldN, h1, h2, h3, h4, h5]
set_option maxRecDepth 100000 in
set_option maxHeartbeats 3200000 in
theorem leaf_any (W : World) (eb es en : TypeId × Value) (he : Er3 W eb es en) (htab : Lib.TabIs Tryz.prog W "internal/strconv.uint64pow10" .u64 Lib.pow10Tab) :
    Calls Tryz.prog 4 #[] W fun e w' => e = .returned (.bool true) ∧ Below W.heap.size W w' := by
  have HR : Hid (Calls Tryz.prog 12 #[.string ⟨#[114, 101, 113, 117, 105, 114, 101, 100, 32, 105, 110, 116, 32, 97, 32, 35, 49, 59]⟩] W fun e w' => (∃ a' c', e = .returned (.tuple #[.agg #[.int .i64 0, .string ⟨#[114, 111, 111, 116]⟩, .int .i64 1, .int .i64 0, .slice a' 1 c'], .nilIface]) ∧ LiesN w' (fun b => W.heap.size ≤ b) a' [lfX] ∧ 1 ≤ c') ∧ Below W.heap.size W w') := read_right lfS (by decide) [lfX] 18 lf_rd lf_end _ rfl 2 lf_dp (by omega) lf_sm W eb es en he lf_right
  have HT : Hid (∀ (w : World) (P : Nat → Prop) (a : Option Addr) (c : Nat), Below W.heap.size W w → LiesN w P a [lfX] → 1 ≤ c → Calls Tryz.prog 13 #[.agg #[.int .i64 0, .string ⟨#[114, 111, 111, 116]⟩, .int .i64 1, .int .i64 0, .slice a 1 c]] w fun e w' => e = .returned (.tuple #[.string ⟨#[114, 101, 113, 117, 105, 114, 101, 100, 32, 105, 110, 116, 32, 97, 32, 35, 49, 59, 10]⟩, .nilIface]) ∧ Below w.heap.size w w') := fun w P a c hb hl hc => (by
    have h := text_right lfT 2 lf_dp (by omega) lf_sm a c P w hl hc eb es en ⟨(hb.cell (World.block_lt_of_cell? W _ he.b)).trans he.b, (hb.cell (World.block_lt_of_cell? W _ he.s)).trans he.s, (hb.cell (World.block_lt_of_cell? W _ he.n)).trans he.n⟩ (tab_keep htab hb) lf_right
    rw [lf_tx] at h
    exact h)
  clear he htab
  go_enter Tryz.func4, Tryz.ntmps4
  go_wp2_with fail
  refine Calls.mono HR.out ?_
  rintro e w1 ⟨⟨a1, c1, rfl, hl1, hc1⟩, hb1⟩
  obtain ⟨w2, HW2, HX2, HB2⟩ := one_box w1 #[.int .i64 0, .string ⟨#[114, 111, 111, 116]⟩, .int .i64 1, .int .i64 0, .slice a1 1 c1] 24
  have HB1 : Hid (Below W.heap.size W w2) := hb1.trans (HB2.out.mono hb1.size)
  have HL2 : Hid (LiesN w2 (fun b => W.heap.size ≤ b) a1 [lfX]) := hl1.keep HB2.out
  obtain ⟨⟨p0, p1, p2, p3, p4⟩, _⟩ := row_five HX2.out
  clear hl1 hb1
  go_wp2_with fail
  rw [HW2.out]
  go_wp2_with fail
  refine Calls.mono (HT.out w2 _ a1 c1 HB1.out HL2.out hc1) ?_
  rintro e w3 ⟨rfl, hb3⟩
  have HB3 : Hid (Below W.heap.size W w3) := HB1.out.trans (hb3.mono HB1.out.size)
  clear hb3
  go_wp2
  go_ret
  exact ⟨rfl, HB3.out⟩
end Go.Proofs.YtnfjpngmadoflaaGreatDoor
