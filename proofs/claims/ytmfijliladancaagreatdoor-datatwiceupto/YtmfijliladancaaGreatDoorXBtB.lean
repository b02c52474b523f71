/-
  data.Text: the text of a group, field by field.
-/
import Derived.Test.YtmfijliladancaaGreatDoorXBtA
import Derived.Test.YtmfijliladancaaGreatDoorXBOpenNode
import Derived.Test.YtmfijliladancaaGreatDoorXWeightD
namespace Go.Proofs.YtmfijliladancaaGreatDoor
open Go.RowKit
/-- What is appended for a datum of a node. -/
def TxP (K : Nat → World → Prop) (x : Tr) (y : Dt) (u : List UInt8) : Prop := ∀ (b : Value) (l : List UInt8) (N : Nat) (xa : Option Addr) (xc : Nat) (al : Option Addr) (cl : Nat) (af : Option Addr) (cf : Nat) (W : World), N ≤ W.heap.size → l.length + u.length ≤ 1048576 → BtR W N b l → LiesN W (fun k => k < N) xa x.sub → LiesD W (fun k => k < N) al y.l → LiesD W (fun k => k < N) af y.f → K N W →
  Calls Tryz.prog 14 #[b, nodeV x xa xc, datumV y al cl af cf] W fun e w' => ∃ b', e = .returned b' ∧ ApR W N (l ++ u) b' w'
/-- .. as if the node were Required. -/
def TxO (K : Nat → World → Prop) (x : Tr) (y : Dt) (u : List UInt8) : Prop := ∀ (b : Value) (l : List UInt8) (N : Nat) (xa : Option Addr) (xc : Nat) (al : Option Addr) (cl : Nat) (af : Option Addr) (cf : Nat) (W : World), N ≤ W.heap.size → l.length + u.length ≤ 1048576 → BtR W N b l → LiesN W (fun k => k < N) xa x.sub → LiesD W (fun k => k < N) al y.l → LiesD W (fun k => k < N) af y.f → K N W →
  Calls Tryz.prog 24 #[b, nodeV x xa xc, datumV y al cl af cf] W fun e w' => ∃ b', e = .returned b' ∧ ApR W N (l ++ u) b' w'
/-- The fields of a group, so many of them. -/
def gT (ts : List Tr) (us : List (List UInt8)) : Nat → List UInt8
  | 0 => []
  | n + 1 => gT ts us n ++ (if n = 0 then [123] else [44]) ++ (ts.getD n default).nm.data.toList ++ [58] ++ us.getD n []
theorem gT_le (ts : List Tr) (us : List (List UInt8)) (n m : Nat) (h : n ≤ m) : (gT ts us n).length ≤ (gT ts us m).length := by
  induction m with
  | zero => obtain rfl : n = 0 := by omega
            omega
  | succ m ih =>
    by_cases e : n = m + 1
    · subst e; omega
    · have := ih (by omega)
      rw [gT]
      simp only [List.length_append]
      omega
theorem LiesN.down {w w' : World} {N : Nat} {a : Option Addr} {ts : List Tr} (h : LiesN w (fun k => k < N) a ts) (hb : Below N w w') : LiesN w' (fun k => k < N) a ts := h.stay (fun _ h _ => h) (fun k hk _ => hb.block k hk)
theorem LiesD.down {w w' : World} {N : Nat} {a : Option Addr} {ts : List Dt} (h : LiesD w (fun k => k < N) a ts) (hb : Below N w w') : LiesD w' (fun k => k < N) a ts := h.stay (fun _ h _ => h) (fun k hk _ => hb.block k hk)
theorem byte_cell (w : World) (c : Int) (e : TypeId) : ∀ j u, [Value.int .u8 c][j]? = some u → (w.alloc (.cells #[.int .u8 c] e)).cell? ((⟨w.heap.size, 0, none⟩ : Addr).add j) = some u := fun j u h => by
  cases j with
  | zero => simp at h; subst h; exact cell_of_row _ _ 0 _ _ _ (heap_alloc_new w (.cells #[.int .u8 c] e))
  | succ j => simp at h
set_option maxRecDepth 100000 in
set_option maxHeartbeats 6400000 in
theorem appendGroup_of {K : Nat → World → Prop} (hK : ∀ (N : Nat) (X Y : World), K N X → Below N X Y → K N Y) (t : Tr) (hsl : t.sub.length ≤ 1048576) (fs : List Dt) (us : List (List UInt8)) (hlen : fs.length = t.sub.length) (hul : us.length = t.sub.length) (each : ∀ j (h : j < t.sub.length) (h' : j < fs.length) (h2 : j < us.length), TxP K t.sub[j] fs[j] us[j])
    (b : Value) (l : List UInt8) (N : Nat) (ta : Option Addr) (tc : Nat) (fa : Option Addr) (fc : Nat) (W : World) (hN : N ≤ W.heap.size) (hl : l.length + (gT t.sub us t.sub.length).length + 1 ≤ 1048576) (hb : BtR W N b l) (hlt : LiesN W (fun k => k < N) ta t.sub) (hlf : LiesD W (fun k => k < N) fa fs) (hk : K N W) :
    Calls Tryz.prog 38 #[b, .agg #[.int .i64 t.id, .string t.nm, .int .i64 t.rep, .int .i64 t.kind, .slice ta t.sub.length tc], .slice fa fs.length fc] W fun e w' => ∃ b', e = .returned b' ∧ ApR W N (l ++ (gT t.sub us t.sub.length ++ [125])) b' w' := by
  obtain ⟨i0, hi, hz0, hz1, hz2⟩ := info_parts Tryz.info5
  obtain ⟨w0, HW0, HX, HB⟩ := one_box W #[.int .i64 t.id, .string t.nm, .int .i64 t.rep, .int .i64 t.kind, .slice ta t.sub.length tc] 24
  have HA0 : Hid (ApR W N l b w0) := (ApR.start hb).next hN HB.out
  have HLT : Hid (LiesN W (fun k => k < N) ta t.sub) := hlt
  have HLF : Hid (LiesD W (fun k => k < N) fa fs) := hlf
  have HE : Hid _ := each
  have HKK : Hid (∀ X, Below N W X → K N X) := fun X hX => hK N W X hk hX
  have HLn : Hid (fs.length = t.sub.length ∧ us.length = t.sub.length) := ⟨hlen, hul⟩
  have hsz := HB.out.size
  have HGl : Hid (∀ n, n ≤ t.sub.length → l.length + (gT t.sub us n).length + 1 ≤ 1048576) := fun n hn => by have := gT_le t.sub us n t.sub.length hn; omega
  clear hb hlt hlf each hl hlen hul
  go_enter Tryz.func38, Tryz.ntmps38
  go_wp2_with fail
  rw [HW0.out]
  go_loopw [0, 12] (fun bv x wr => ∃ i : Nat, i ≤ t.sub.length ∧ x = .int .i64 i ∧ Hid (ApR W N (l ++ gT t.sub us i) bv wr) ∧ Hid (StB w0 wr)) (fun _ x _ => t.sub.length - (intOf x).toNat)
  case atStart => exact ⟨0, Nat.zero_le _, rfl, by rw [gT, List.append_nil]; exact HA0.out, StB.refl _⟩
  case round =>
    clear HA0
    obtain ⟨i, hik, rfl, HA, HS⟩ := hrel
    by_cases hlt : i < t.sub.length
    · have hif : i < fs.length := by rw [HLn.out.1]; exact hlt
      have hiu : i < us.length := by rw [HLn.out.2]; exact hlt
      have hG1 := HGl.out (i + 1) hlt
      rw [gT] at hG1
      simp only [List.length_append] at hG1
      obtain ⟨b1, o1, a1, c1, rfl, d0, d1, d2, d3, d4, hl1⟩ := (HLT.out.down HA.out.old).at_ i hlt
      have hb2 : Below wr.heap.size wr (wr.alloc (.cells #[.int .i64 t.sub[i].id, .string t.sub[i].nm, .int .i64 t.sub[i].rep, .int .i64 t.sub[i].kind, .slice a1 t.sub[i].sub.length c1] 24)) := (Below.refl _ _).alloc (Nat.le_refl _) _
      have HI2 : Hid ((wr.alloc (.cells #[.int .i64 t.sub[i].id, .string t.sub[i].nm, .int .i64 t.sub[i].rep, .int .i64 t.sub[i].kind, .slice a1 t.sub[i].sub.length c1] 24)).heap[wr.heap.size]? = some (.cells #[.int .i64 t.sub[i].id, .string t.sub[i].nm, .int .i64 t.sub[i].rep, .int .i64 t.sub[i].kind, .slice a1 t.sub[i].sub.length c1] 24 (0, 0))) := heap_alloc_new _ _
      have HA2 : Hid (ApR W N (l ++ gT t.sub us i) _ (wr.alloc (.cells #[.int .i64 t.sub[i].id, .string t.sub[i].nm, .int .i64 t.sub[i].rep, .int .i64 t.sub[i].kind, .slice a1 t.sub[i].sub.length c1] 24))) := HA.out.next hN hb2
      have HL2 : Hid (LiesN (wr.alloc (.cells #[.int .i64 t.sub[i].id, .string t.sub[i].nm, .int .i64 t.sub[i].rep, .int .i64 t.sub[i].kind, .slice a1 t.sub[i].sub.length c1] 24)) (fun k => k < N) a1 t.sub[i].sub) := hl1.keep hb2
      have HS2 : Hid (StB w0 (wr.alloc (.cells #[.int .i64 t.sub[i].id, .string t.sub[i].nm, .int .i64 t.sub[i].rep, .int .i64 t.sub[i].kind, .slice a1 t.sub[i].sub.length c1] 24))) := HS.out.trans (StB.below hb2)
      obtain ⟨w2, HW2⟩ := hid_name (wr.alloc (.cells #[.int .i64 t.sub[i].id, .string t.sub[i].nm, .int .i64 t.sub[i].rep, .int .i64 t.sub[i].kind, .slice a1 t.sub[i].sub.length c1] 24))
      rw [HW2.out] at HI2 HA2 HL2 HS2
      obtain ⟨g, HGn⟩ := hid_name wr.heap.size
      rw [HGn.out] at HI2
      clear hb2 hl1
      obtain ⟨s0, HS0⟩ := hid_name (if i = 0 then (⟨#[123]⟩ : ByteArray) else ⟨#[44]⟩)
      have HSd : Hid (s0.data.toList = (if i = 0 then [123] else [44])) := (by show _ = _; rw [← HS0.out]; split <;> rfl)
      have hs1 : s0.size = 1 := by rw [← HS0.out]; split <;> rfl
      have hs1' : s0.data.toList.length = 1 := by rw [Array.length_toList]; exact hs1
      have hnm : t.sub[i].nm.data.toList.length = t.sub[i].nm.size := by rw [Array.length_toList]; rfl
      have HAh : Hid (∀ X, Calls Tryz.prog 60 #[.int .i64 i] X fun e w' => e = .returned (.string s0) ∧ w' = X) := fun X => by rw [← HS0.out]; exact aheadOf_any i X
      have HGs : Hid (gT t.sub us (i + 1) = gT t.sub us i ++ s0.data.toList ++ t.sub[i].nm.data.toList ++ [58] ++ us[i]) := (by
        show _ = _
        rw [gT, HSd.out]
        simp [List.getD, hlt, hiu])
      have hG2 : l.length + (gT t.sub us i).length + 1 + t.sub[i].nm.size + 1 + us[i].length + 1 ≤ 1048576 := by
        have h := HGl.out (i + 1) hlt
        rw [HGs.out] at h
        simp only [List.length_append, hs1', hnm, List.length_cons, List.length_nil] at h
        omega
      clear hG1
      have HEi : Hid (TxP K t.sub[i] fs[i] us[i]) := HE.out i hlt hif hiu
      obtain ⟨u, HU⟩ := hid_name us[i]
      obtain ⟨x, HXn⟩ := hid_name t.sub[i]
      obtain ⟨y, HYn⟩ := hid_name fs[i]
      obtain ⟨gl, HGL⟩ := hid_name (gT t.sub us i)
      rw [HU.out] at HGs HEi hG2
      rw [HXn.out] at HGs HEi HI2 HL2 hG2 hnm d0 d1 d2 d3 d4 HW2
      rw [HYn.out] at HEi
      rw [HGL.out] at HGs HA2 hG2
      obtain ⟨⟨i0', i1', i2', i3', i4'⟩, _⟩ := row_five HI2.out
      go_upto_region 4 with fail
      rw [HW2.out, HGn.out]
      clear HW2 HGn HA HS d0 d1 d2 d3 d4
      have hzs2 := HA2.out.old.size
      go_upto_region 7 with (first
        | (go_at_call 60; refine Calls.mono (HAh.out _) ?_; rintro e w2' ⟨rfl, hw2⟩; have hw3 := hw2.symm; clear hw2; subst hw3)
        | (at_builtin; refine Lib.wpList_append_own_string _ rfl _ _ 48 9 rfl N 5 i0 Tryz.underlying48 Tryz.underlying9 hi hz0 hz1 hz2 _ _ _ rfl HA2.out.row s0 rfl (by rw [List.length_append]; unfold maxLen; omega) (by rw [List.length_append]; omega) (by omega) ?_; intro v3 w3 hown3 hgrow3 _; have HA3 : Hid _ := HA2.out.str hN hown3 hgrow3; have HS3 : Hid (StB w2 w3) := StB.grown HA2.out.row hgrow3; have HI3 : Hid _ := HS3.out _ _ _ _ HI2.out (by decide); obtain ⟨⟨j0, j1, j2, j3, j4⟩, _⟩ := row_five HI3.out; have hzs3 := HA3.out.old.size; clear hown3 hgrow3)
        | (at_builtin; refine Lib.wpList_append_own_string _ rfl _ _ 48 9 rfl N 5 i0 Tryz.underlying48 Tryz.underlying9 hi hz0 hz1 hz2 _ _ _ rfl HA3.out.row x.nm rfl (by simp only [List.length_append, hs1']; unfold maxLen; omega) (by simp only [List.length_append, hs1']; omega) (by omega) ?_; intro v4 w4 hown4 hgrow4 _; have HA4 : Hid _ := HA3.out.str hN hown4 hgrow4; have HS4 : Hid (StB w2 w4) := HS3.out.trans (StB.grown HA3.out.row hgrow4); have hzs4 := HA4.out.old.size; have HA4b : Hid _ := HA4.out.next hN ((Below.refl _ _).alloc (Nat.le_refl _) (.cells #[.int .u8 58] 5)); clear hown4 hgrow4)
        | (at_builtin; refine wpList_append_own _ rfl _ _ 48 rfl N 5 i0 (.int .u8 0) 1 1 Tryz.underlying48 hi hz0 hz1 hz2 rfl (by decide) _ _ _ rfl HA4b.out.row ⟨_, 0, none⟩ 1 1 [.int .u8 58] rfl rfl (byte_cell _ _ _) (by intro u hu; simp at hu; subst hu; rfl) (by simp only [List.length_append, hs1', hnm]; unfold maxLen; omega) (by simp only [List.length_append, hs1', hnm]; omega) (by simp; omega) ?_; intro v5 w5 hown5 hgrow5 _; have HA5 : Hid (ApR W N (((l ++ gl) ++ s0.data.toList) ++ x.nm.data.toList ++ [58]) v5 w5) := HA4b.out.one (c := 58) hN hown5 hgrow5; have HS5 : Hid (StB w2 w5) := (HS4.out.trans (StB.below ((Below.refl _ _).alloc (Nat.le_refl _) _))).trans (StB.grown HA4b.out.row hgrow5); clear hown5 hgrow5))
      have HI5 : Hid _ := HS5.out _ _ _ _ HI2.out (by decide)
      have HL5 : Hid (LiesN w5 (fun k => k < N) a1 x.sub) := HL2.out.stay (fun _ h _ => h) (fun k hk _ => (HA5.out.old.block k hk).trans (HA2.out.old.block k hk).symm)
      obtain ⟨F, hF1, hF2⟩ := HLF.out.down HA5.out.old
      obtain ⟨fb, fo, y0, y1, y2, y3, y4, y5, efa, hfN, ecs, z0, z1, z2, z3, z4, z5⟩ := hF1 i hif
      obtain ⟨al, cl, af, cf, e', hyl, hyf⟩ := (hF2 i hif).split
      rw [ecs] at e'
      rw [HYn.out] at e' hyl hyf
      simp only [List.cons.injEq, and_true] at e'
      obtain ⟨rfl, rfl, rfl, rfl, rfl, rfl⟩ := e'
      have HYL : Hid (LiesD w5 (fun k => k < N) al y.l) := hyl
      have HYF : Hid (LiesD w5 (fun k => k < N) af y.f) := hyf
      have hfN : fb < N := hfN
      subst efa
      have hzs5 := HA5.out.old.size
      have hL5 : ((((l ++ gl) ++ s0.data.toList) ++ x.nm.data.toList) ++ [58]).length + u.length ≤ 1048576 := by simp only [List.length_append, hs1', hnm, List.length_cons, List.length_nil]; omega
      have HC : Hid (∀ X, Below w5.heap.size w5 X → Calls Tryz.prog 14 #[v5, .agg #[.int .i64 x.id, .string x.nm, .int .i64 x.rep, .int .i64 x.kind, .slice a1 x.sub.length c1], .agg #[.bool y.no, .int .i64 y.v.k, .int .i64 y.v.n, .string y.v.s, .slice al y.l.length cl, .slice af y.f.length cf]] X fun e w' => ∃ b', e = .returned b' ∧ ApR W N (((((l ++ gl) ++ s0.data.toList) ++ x.nm.data.toList) ++ [58]) ++ u) b' w' ∧ StB w5 w' ∧ Below N w5 w') := fun X hX => (HEi.out v5 _ N a1 c1 al cl af cf X (by have := hX.size; omega) hL5 (ow_kept HA5.out.row hX) (HL5.out.keep hX) (HYL.out.keep hX) (HYF.out.keep hX) (HKK.out X (HA5.out.old.trans (hX.mono (by omega))))).mono fun e w' h => (by
        obtain ⟨b', h1, h2⟩ := h
        exact ⟨b', h1, (HA5.out.next hN hX).go h2, (StB.below hX).trans h2.st, (hX.mono (by omega)).trans h2.old⟩)
      have HN : Hid (∀ X, StB w5 X ∧ Below N w5 X → (X.cell? ⟨g, 0, none⟩ = some (.int .i64 x.id) ∧ X.cell? ⟨g, 1, none⟩ = some (.string x.nm) ∧ X.cell? ⟨g, 2, none⟩ = some (.int .i64 x.rep) ∧ X.cell? ⟨g, 3, none⟩ = some (.int .i64 x.kind) ∧ X.cell? ⟨g, 4, none⟩ = some (.slice a1 x.sub.length c1)) ∧ (X.cell? ⟨fb, fo + i * 6, none⟩ = some (.bool y.no) ∧ X.cell? ⟨fb, fo + i * 6 + 1, none⟩ = some (.int .i64 y.v.k) ∧ X.cell? ⟨fb, fo + i * 6 + 2, none⟩ = some (.int .i64 y.v.n) ∧ X.cell? ⟨fb, fo + i * 6 + 3, none⟩ = some (.string y.v.s) ∧ X.cell? ⟨fb, fo + i * 6 + 4, none⟩ = some (.slice al y.l.length cl) ∧ X.cell? ⟨fb, fo + i * 6 + 5, none⟩ = some (.slice af y.f.length cf))) := fun X hX => (by
        obtain ⟨⟨q0, q1, q2, q3, q4⟩, _⟩ := row_five (hX.1 _ _ _ _ HI5.out (by decide))
        have kk : ∀ (o : Nat) (v : Value), w5.cell? ⟨fb, o, none⟩ = some v → X.cell? ⟨fb, o, none⟩ = some v := fun o v h => cell_stay h (hX.2.block fb hfN)
        exact ⟨⟨q0, q1, q2, q3, q4⟩, ⟨kk _ _ z0, kk _ _ z1, kk _ _ z2, kk _ _ z3, kk _ _ z4, kk _ _ z5⟩⟩)
      obtain ⟨⟨q0, q1, q2, q3, q4⟩, _⟩ := row_five HI5.out
      clear hF1 hF2 hyl hyf HL5 HYL HYF HEi j0 j1 j2 j3 j4 i0' i1' i2' i3' i4' ecs hL5
      go_region_held3 (fun X => (X.cell? ⟨g, 0, none⟩ = some (.int .i64 x.id) ∧ X.cell? ⟨g, 1, none⟩ = some (.string x.nm) ∧ X.cell? ⟨g, 2, none⟩ = some (.int .i64 x.rep) ∧ X.cell? ⟨g, 3, none⟩ = some (.int .i64 x.kind) ∧ X.cell? ⟨g, 4, none⟩ = some (.slice a1 x.sub.length c1)) ∧ (X.cell? ⟨fb, fo + i * 6, none⟩ = some (.bool y.no) ∧ X.cell? ⟨fb, fo + i * 6 + 1, none⟩ = some (.int .i64 y.v.k) ∧ X.cell? ⟨fb, fo + i * 6 + 2, none⟩ = some (.int .i64 y.v.n) ∧ X.cell? ⟨fb, fo + i * 6 + 3, none⟩ = some (.string y.v.s) ∧ X.cell? ⟨fb, fo + i * 6 + 4, none⟩ = some (.slice al y.l.length cl) ∧ X.cell? ⟨fb, fo + i * 6 + 5, none⟩ = some (.slice af y.f.length cf))) (first | exact HN.out _ ⟨StB.below (Below.refl _ _).drew, (Below.refl _ _).drew⟩ | exact HN.out _ ⟨hs6, hb6⟩) (first
        | (go_at_call 14; (with_reducible refine Calls.mono (HC.out _ (Below.refl _ _).drew) ?_); rintro e w6 ⟨b6, rfl, ha6, hs6, hb6⟩; have HA6 : Hid _ := ha6; clear ha6))
      all_goals
        have HRel : Hid (ApR W N (l ++ gT t.sub us (i + 1)) b6 w6) := (by
          show ApR _ _ _ _ _
          rw [HGs.out]
          have h := HA6.out
          simp only [List.append_assoc] at h ⊢
          exact h)
        have HSn : Hid (StB w0 w6) := (HS2.out.trans HS5.out).trans hs6
        clear hs6 hb6 hs1 hs1' hnm
        go_wp2
        go_roundw
        case rel => exact ⟨i + 1, by omega, by go_num, HRel, HSn⟩
        case measure => simp [intOf]; omega
    · obtain rfl : i = t.sub.length := by omega
      have hG := HGl.out t.sub.length (Nat.le_refl _)
      have hzs := HA.out.old.size
      have HA2 : Hid _ := HA.out.next hN ((Below.refl _ _).alloc (Nat.le_refl _) (.cells #[.int .u8 125] 5))
      go_wp2_with (at_builtin; refine wpList_append_own _ rfl _ _ 48 rfl N 5 i0 (.int .u8 0) 1 1 Tryz.underlying48 hi hz0 hz1 hz2 rfl (by decide) _ _ _ rfl HA2.out.row ⟨_, 0, none⟩ 1 1 [.int .u8 125] rfl rfl (byte_cell _ _ _) (by intro u hu; simp at hu; subst hu; rfl) (by rw [List.length_append]; unfold maxLen; omega) (by rw [List.length_append]; omega) (by simp; omega) ?_; intro b2 w2 hown2 hgrow2 _; have HA3 : Hid (ApR W N ((l ++ gT t.sub us t.sub.length) ++ [125]) b2 w2) := HA2.out.one (c := 125) hN hown2 hgrow2)
      go_ret
      exact ⟨b2, rfl, by rw [← List.append_assoc]; exact HA3.out⟩
end Go.Proofs.YtmfijliladancaaGreatDoor
