/-
  data.Text: one datum, a list, a node: of whatever right record.
-/
import Derived.Test.YtmfijliladancaaGreatDoorXBDwB
namespace Go.Proofs.YtmfijliladancaaGreatDoor
open Go.RowKit
set_option maxRecDepth 100000 in
set_option maxHeartbeats 1600000 in
theorem appendOne_leaf (t : Tr) (d : Dt) (hk : t.kind ≠ 0) (hin : d.v.In) (hok : OkV d.v.k d.v.k d.v.n d.v.s.size) : TxO TabK t d (vx d.v) := fun b l N ta tc al cl af cf W hN hl hb hlt hdl hdf hkk => by
  obtain ⟨w0, HW0, HX, HY, HB⟩ := two_boxesS W #[.int .i64 t.id, .string t.nm, .int .i64 t.rep, .int .i64 t.kind, .slice ta t.sub.length tc] #[.bool d.no, .int .i64 d.v.k, .int .i64 d.v.n, .string d.v.s, .slice al d.l.length cl, .slice af d.f.length cf] 24 29
  have hsz := HB.out.size
  have hA := (ApR.start hb).next hN HB.out
  have HA : Hid (ApR W N l b w0) := hA
  have HC : Hid (Calls Tryz.prog 39 #[b, .agg #[.int .i64 d.v.k, .int .i64 d.v.n, .string d.v.s]] w0 fun e w' => ∃ b', e = .returned b' ∧ ApR w0 N (l ++ vx d.v) b' w') := appendValue_any b l d.v hin hok N w0 (by omega) (by omega) hA.row (tabK_step N W w0 hkk (HB.out.mono hN))
  obtain ⟨⟨p0, p1, p2, p3, p4⟩, _⟩ := row_five HX.out
  obtain ⟨z0, z1, z2, z3, z4, z5⟩ := row_six HY.out
  have q : (t.kind == 0) = false := by simp [hk]
  obtain ⟨u, HU⟩ := hid_name (vx d.v)
  rw [HU.out] at HC ⊢
  clear hb hlt hdl hdf hA hk hl hok hin hkk
  unfold nodeV datumV
  go_enter Tryz.func24, Tryz.ntmps24
  go_upto_region 1 with fail
  rw [HW0.out]
  go_wp2_with fail
  refine Calls.mono HC.out ?_
  rintro e w1 ⟨b1, rfl, ha1⟩
  have HA1 : Hid _ := HA.out.go ha1
  clear ha1
  go_wp2
  go_ret
  exact ⟨b1, rfl, HA1.out⟩
set_option maxRecDepth 100000 in
set_option maxHeartbeats 1600000 in
theorem appendNode_null (t : Tr) (d : Dt) (h3 : t.rep ≠ 3) (hno : d.no = true) : TxP TabK t d [110, 117, 108, 108] := fun b l N ta tc al cl af cf W hN hl hb hlt hdl hdf hkk => by
  unfold nodeV datumV
  rw [hno]
  obtain ⟨i0, hi, hz0, hz1, hz2⟩ := info_parts Tryz.info5
  obtain ⟨w0, HW0, HX, HY, HB⟩ := two_boxesS W #[.int .i64 t.id, .string t.nm, .int .i64 t.rep, .int .i64 t.kind, .slice ta t.sub.length tc] #[.bool true, .int .i64 d.v.k, .int .i64 d.v.n, .string d.v.s, .slice al d.l.length cl, .slice af d.f.length cf] 24 29
  have hsz := HB.out.size
  have HA : Hid (ApR W N l b w0) := (ApR.start hb).next hN HB.out
  obtain ⟨⟨p0, p1, p2, p3, p4⟩, _⟩ := row_five HX.out
  obtain ⟨z0, z1, z2, z3, z4, z5⟩ := row_six HY.out
  have q : (t.rep == 3) = false := by simp [h3]
  simp only [List.length_cons, List.length_nil] at hl
  clear hb hlt hdl hdf h3 hno hkk
  go_enter Tryz.func14, Tryz.ntmps14
  go_upto_region 1 with fail
  rw [HW0.out]
  go_wp2_with (at_builtin; refine Lib.wpList_append_own_string _ rfl _ _ 48 9 rfl N 5 i0 Tryz.underlying48 Tryz.underlying9 hi hz0 hz1 hz2 _ _ _ rfl HA.out.row ⟨#[110, 117, 108, 108]⟩ rfl (by have : (⟨#[110, 117, 108, 108]⟩ : ByteArray).size = 4 := rfl; unfold maxLen; omega) (by have : (⟨#[110, 117, 108, 108]⟩ : ByteArray).size = 4 := rfl; omega) (by omega) ?_; intro b2 w2 hown2 hgrow2 _; have HA2 : Hid _ := HA.out.str hN hown2 hgrow2)
  go_ret
  exact ⟨b2, rfl, HA2.out⟩
set_option maxRecDepth 100000 in
set_option maxHeartbeats 6400000 in
theorem appendList_of (t : Tr) (ds : List Dt) (hdl : ds.length ≤ 1048576) (us : List (List UInt8)) (hul : us.length = ds.length) (each : ∀ j (h : j < ds.length) (h2 : j < us.length), TxO TabK t ds[j] us[j])
    (b : Value) (l : List UInt8) (N : Nat) (ta : Option Addr) (tc : Nat) (fa : Option Addr) (fc : Nat) (W : World) (hN : N ≤ W.heap.size) (hl : l.length + (lT us ds.length).length + 2 ≤ 1048576) (hb : BtR W N b l) (hlt : LiesN W (fun k => k < N) ta t.sub) (hlf : LiesD W (fun k => k < N) fa ds) (hkk : TabK N W) :
    Calls Tryz.prog 23 #[b, .agg #[.int .i64 t.id, .string t.nm, .int .i64 t.rep, .int .i64 t.kind, .slice ta t.sub.length tc], .slice fa ds.length fc] W fun e w' => ∃ b', e = .returned b' ∧ ApR W N (l ++ (91 :: (lT us ds.length ++ [93]))) b' w' := by
  obtain ⟨i0, hi, hz0, hz1, hz2⟩ := info_parts Tryz.info5
  obtain ⟨w0, HW0, HX, HB⟩ := one_box W #[.int .i64 t.id, .string t.nm, .int .i64 t.rep, .int .i64 t.kind, .slice ta t.sub.length tc] 24
  have HA0 : Hid (ApR W N l b w0) := (ApR.start hb).next hN HB.out
  have HLT : Hid (LiesN W (fun k => k < N) ta t.sub) := hlt
  have HLF : Hid (LiesD W (fun k => k < N) fa ds) := hlf
  have HE : Hid _ := each
  have HKK : Hid (∀ X, Below N W X → TabK N X) := fun X hX => tabK_step N W X hkk hX
  have hsz := HB.out.size
  have HGl : Hid (∀ n, n ≤ ds.length → l.length + (lT us n).length + 2 ≤ 1048576) := fun n hn => by have := lT_le us n ds.length hn; omega
  have HA1 : Hid (∀ v, ApR W N l b (w0.alloc (.cells #[v] 5))) := fun v => HA0.out.next hN ((Below.refl _ _).alloc (Nat.le_refl _) _)
  have hl0 : l.length + 2 ≤ 1048576 := by omega
  have HXa : Hid (∀ v, (w0.alloc (.cells #[v] 5)).heap[W.heap.size]? = some (.cells #[.int .i64 t.id, .string t.nm, .int .i64 t.rep, .int .i64 t.kind, .slice ta t.sub.length tc] 24 (0, 0))) := fun v => blk_alloc HX.out
  clear hb hlt hlf each hl hkk
  go_enter Tryz.func23, Tryz.ntmps23
  go_upto_region 1 with fail
  rw [HW0.out]
  go_wp2_with (at_builtin; refine wpList_append_own _ rfl _ _ 48 rfl N 5 i0 (.int .u8 0) 1 1 Tryz.underlying48 hi hz0 hz1 hz2 rfl (by decide) _ _ _ rfl (HA1.out _).row ⟨_, 0, none⟩ 1 1 [.int .u8 91] rfl rfl (byte_cell _ _ _) (by intro u hu; simp at hu; subst hu; rfl) (by unfold maxLen; omega) (by omega) (by simp; omega) ?_; intro b2 w2 hown2 hgrow2 _; have HA2 : Hid (ApR W N (l ++ [91]) b2 w2) := (HA1.out _).one (c := 91) hN hown2 hgrow2; have HX2 : Hid (w2.heap[W.heap.size]? = some (.cells #[.int .i64 t.id, .string t.nm, .int .i64 t.rep, .int .i64 t.kind, .slice ta t.sub.length tc] 24 (0, 0))) := StB.grown (HA1.out _).row hgrow2 _ _ _ _ (HXa.out _) (by decide))
  go_loopw [0, 14] (fun bv x wr => ∃ i : Nat, i ≤ ds.length ∧ x = .int .i64 i ∧ Hid (ApR W N (l ++ (91 :: lT us i)) bv wr) ∧ Hid (wr.heap[W.heap.size]? = some (.cells #[.int .i64 t.id, .string t.nm, .int .i64 t.rep, .int .i64 t.kind, .slice ta t.sub.length tc] 24 (0, 0)))) (fun _ x _ => ds.length - (intOf x).toNat)
  case atStart => exact ⟨0, Nat.zero_le _, rfl, by rw [lT]; exact HA2.out, HX2.out⟩
  case round =>
    clear HA0 HA1 HA2 HX2 hown2 hgrow2
    obtain ⟨i, hik, rfl, HA, HXr⟩ := hrel
    by_cases hlt : i < ds.length
    · have hiu : i < us.length := by omega
      have hG1 := HGl.out (i + 1) hlt
      obtain ⟨bb, o, a1, c1, a2, c2, rfl, ⟨d0, d1, d2, d3, d4, d5⟩, hl1, hl2⟩ := (HLF.out.down HA.out.old).at_ i hlt
      have hb2 : Below wr.heap.size wr (wr.alloc (.cells #[.bool ds[i].no, .int .i64 ds[i].v.k, .int .i64 ds[i].v.n, .string ds[i].v.s, .slice a1 ds[i].l.length c1, .slice a2 ds[i].f.length c2] 29)) := (Below.refl _ _).alloc (Nat.le_refl _) _
      have HI2 : Hid ((wr.alloc (.cells #[.bool ds[i].no, .int .i64 ds[i].v.k, .int .i64 ds[i].v.n, .string ds[i].v.s, .slice a1 ds[i].l.length c1, .slice a2 ds[i].f.length c2] 29)).heap[wr.heap.size]? = some (.cells #[.bool ds[i].no, .int .i64 ds[i].v.k, .int .i64 ds[i].v.n, .string ds[i].v.s, .slice a1 ds[i].l.length c1, .slice a2 ds[i].f.length c2] 29 (0, 0))) := heap_alloc_new _ _
      have HA2 : Hid (ApR W N _ _ (wr.alloc (.cells #[.bool ds[i].no, .int .i64 ds[i].v.k, .int .i64 ds[i].v.n, .string ds[i].v.s, .slice a1 ds[i].l.length c1, .slice a2 ds[i].f.length c2] 29))) := HA.out.next hN hb2
      have HX2 : Hid _ := blk_keep hb2 HXr.out
      have HL1 : Hid (LiesD (wr.alloc (.cells #[.bool ds[i].no, .int .i64 ds[i].v.k, .int .i64 ds[i].v.n, .string ds[i].v.s, .slice a1 ds[i].l.length c1, .slice a2 ds[i].f.length c2] 29)) (fun k => k < N) a1 ds[i].l) := hl1.keep hb2
      have HL2 : Hid (LiesD (wr.alloc (.cells #[.bool ds[i].no, .int .i64 ds[i].v.k, .int .i64 ds[i].v.n, .string ds[i].v.s, .slice a1 ds[i].l.length c1, .slice a2 ds[i].f.length c2] 29)) (fun k => k < N) a2 ds[i].f) := hl2.keep hb2
      obtain ⟨w2, HW2⟩ := hid_name (wr.alloc (.cells #[.bool ds[i].no, .int .i64 ds[i].v.k, .int .i64 ds[i].v.n, .string ds[i].v.s, .slice a1 ds[i].l.length c1, .slice a2 ds[i].f.length c2] 29))
      rw [HW2.out] at HI2 HA2 HX2 HL1 HL2
      obtain ⟨g, HGn⟩ := hid_name wr.heap.size
      rw [HGn.out] at HI2
      have HEi : Hid (TxO TabK t ds[i] us[i]) := HE.out i hlt hiu
      have HLs : Hid (lT us (i + 1) = lT us i ++ (if i = 0 then [] else [44]) ++ us[i]) := (by
        show _ = _
        rw [lT]
        simp [List.getD, hiu])
      clear hb2 hl1 hl2
      obtain ⟨u, HU⟩ := hid_name us[i]
      obtain ⟨y, HYn⟩ := hid_name ds[i]
      obtain ⟨gl, HGL⟩ := hid_name (lT us i)
      rw [HU.out] at HLs HEi
      rw [HYn.out] at HEi HI2 HL1 HL2 d0 d1 d2 d3 d4 d5 HW2
      rw [HGL.out] at HLs HA2
      rw [HLs.out] at hG1
      simp only [List.length_append] at hG1
      have HCC : Hid (∀ (b' : Value) (X : World) (m : List UInt8), m.length + u.length ≤ 1048576 → ApR W N m b' X → Below N w2 X → X.heap[W.heap.size]? = some (.cells #[.int .i64 t.id, .string t.nm, .int .i64 t.rep, .int .i64 t.kind, .slice ta t.sub.length tc] 24 (0, 0)) → Calls Tryz.prog 24 #[b', .agg #[.int .i64 t.id, .string t.nm, .int .i64 t.rep, .int .i64 t.kind, .slice ta t.sub.length tc], .agg #[.bool y.no, .int .i64 y.v.k, .int .i64 y.v.n, .string y.v.s, .slice a1 y.l.length c1, .slice a2 y.f.length c2]] X fun e w' => ∃ b2, e = .returned b2 ∧ ApR W N (m ++ u) b2 w' ∧ w'.heap[W.heap.size]? = some (.cells #[.int .i64 t.id, .string t.nm, .int .i64 t.rep, .int .i64 t.kind, .slice ta t.sub.length tc] 24 (0, 0))) := fun b' X m hm ha hbX hbox => (HEi.out b' m N ta tc a1 c1 a2 c2 X (Nat.le_trans hN ha.old.size) hm ha.row (HLT.out.down ha.old) (HL1.out.down hbX) (HL2.out.down hbX) (HKK.out X ha.old)).mono fun e w' hh => (by
        obtain ⟨b2, h1, h2⟩ := hh
        exact ⟨b2, h1, ha.go h2, h2.box hbox (by decide)⟩)
      clear HL1 HL2 HEi
      by_cases hi0 : i = 0
      · have qk : decide ((0 : Int) < (i : Int)) = false := by rw [decide_eq_false_iff_not]; omega
        have qk2 : decide (0 < i) = false := by rw [decide_eq_false_iff_not]; omega
        have HI0 : Hid (i = 0) := hi0
        have HGl0 : Hid (gl = []) := (by show _ = _; rw [← HGL.out, hi0]; rfl)
        clear hi0
        obtain ⟨z0, z1, z2, z3, z4, z5⟩ := row_six HI2.out
        obtain ⟨⟨p0, p1, p2, p3, p4⟩, _⟩ := row_five HX2.out
        have HC : Hid _ := HCC.out u0 w2 _ (by simp only [List.length_append, List.length_cons]; omega) HA2.out (Below.refl _ _) HX2.out
        go_upto_region 5 with fail
        rw [HW2.out, HGn.out]
        go_wp2_with fail
        refine Calls.mono HC.out ?_
        rintro e w3 ⟨b3, rfl, ha3, hx3⟩
        have HA3 : Hid _ := ha3
        have HX3 : Hid _ := hx3
        clear ha3 hx3
        go_wp2
        go_roundw
        case rel => exact ⟨i + 1, by omega, by go_num, by
          show ApR _ _ _ _ _
          have h := HA3.out
          rw [HLs.out, if_pos HI0.out]
          simpa using h, HX3.out⟩
        case measure => simp [intOf]; omega
      · have qk : decide ((0 : Int) < (i : Int)) = true := by rw [decide_eq_true_iff]; omega
        have qk2 : decide (0 < i) = true := by rw [decide_eq_true_iff]; omega
        have HI0 : Hid (¬ i = 0) := hi0
        rw [if_neg hi0] at hG1
        simp only [List.length_cons, List.length_nil] at hG1
        clear hi0
        have hzs := HA2.out.old.size
        have HA3 : Hid (∀ v, ApR W N _ _ (w2.alloc (.cells #[v] 5))) := fun v => HA2.out.next hN ((Below.refl _ _).alloc (Nat.le_refl _) _)
        have HSt : Hid (∀ v, StB w2 (w2.alloc (.cells #[v] 5))) := fun v => StB.below ((Below.refl _ _).alloc (Nat.le_refl _) _)
        go_upto_region 5 with fail
        rw [HW2.out, HGn.out]
        go_wp2_with (at_builtin; refine wpList_append_own _ rfl _ _ 48 rfl N 5 i0 (.int .u8 0) 1 1 Tryz.underlying48 hi hz0 hz1 hz2 rfl (by decide) _ _ _ rfl (HA3.out _).row ⟨_, 0, none⟩ 1 1 [.int .u8 44] rfl rfl (byte_cell _ _ _) (by intro u hu; simp at hu; subst hu; rfl) (by simp only [List.length_append, List.length_cons]; unfold maxLen; omega) (by simp only [List.length_append, List.length_cons]; omega) (by simp; omega) ?_; intro b4 w4 hown4 hgrow4 _; have HA4 : Hid (ApR W N ((l ++ (91 :: gl)) ++ [44]) b4 w4) := (HA3.out _).one (c := 44) hN hown4 hgrow4; have HS4 : Hid (StB w2 w4) := (HSt.out _).trans (StB.grown (HA3.out _).row hgrow4); have HB4 : Hid (Below N w2 w4) := below_grown ((Below.refl N w2).alloc (Nat.le_trans hN hzs) _) (Nat.le_trans hN hzs) (HA3.out _).row hgrow4; obtain ⟨z0, z1, z2, z3, z4, z5⟩ := row_six (HS4.out _ _ _ _ HI2.out (by decide)); obtain ⟨⟨p0, p1, p2, p3, p4⟩, _⟩ := row_five (HS4.out _ _ _ _ HX2.out (by decide)))
        refine Calls.mono (HCC.out _ w4 _ (by simp only [List.length_append, List.length_cons, List.length_nil]; omega) HA4.out HB4.out (HS4.out _ _ _ _ HX2.out (by decide))) ?_
        rintro e w5 ⟨b5, rfl, ha5, hx5⟩
        have HA5 : Hid _ := ha5
        have HX5 : Hid _ := hx5
        clear ha5 hx5
        go_wp2
        go_roundw
        case rel => exact ⟨i + 1, by omega, by go_num, by
          show ApR _ _ _ _ _
          have h := HA5.out
          rw [HLs.out, if_neg HI0.out]
          simpa using h, HX5.out⟩
        case measure => simp [intOf]; omega
    · obtain rfl : i = ds.length := by omega
      have hG := HGl.out ds.length (Nat.le_refl _)
      have hzs := HA.out.old.size
      have HA2 : Hid (∀ v, ApR W N _ _ (wr.alloc (.cells #[v] 5))) := fun v => HA.out.next hN ((Below.refl _ _).alloc (Nat.le_refl _) _)
      go_wp2_with (at_builtin; refine wpList_append_own _ rfl _ _ 48 rfl N 5 i0 (.int .u8 0) 1 1 Tryz.underlying48 hi hz0 hz1 hz2 rfl (by decide) _ _ _ rfl (HA2.out _).row ⟨_, 0, none⟩ 1 1 [.int .u8 93] rfl rfl (byte_cell _ _ _) (by intro u hu; simp at hu; subst hu; rfl) (by simp only [List.length_append, List.length_cons]; unfold maxLen; omega) (by simp only [List.length_append, List.length_cons]; omega) (by simp; omega) ?_; intro b2 w2 hown2 hgrow2 _; have HA3 : Hid _ := (HA2.out _).one (c := 93) hN hown2 hgrow2)
      go_ret
      exact ⟨b2, rfl, by have h := HA3.out; rw [List.append_assoc] at h; exact h⟩
end Go.Proofs.YtmfijliladancaaGreatDoor
