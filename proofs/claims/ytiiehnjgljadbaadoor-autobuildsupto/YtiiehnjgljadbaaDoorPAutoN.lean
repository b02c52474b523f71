/-
  auto.nextOf: exact.
-/
import Derived.Test.YtiiehnjgljadbaaDoorPBAutoC
import Derived.Test.YtiiehnjgljadbaaDoorPLvX
namespace Go.Proofs.YtiiehnjgljadbaaDoor
open Go.RowKit
/-- The first so many levels. -/
def nxtP (L : List (List Int)) (k m : Nat) : List Int := (List.range m).map fun r => ((nxtK L k r : Nat) : Int)
theorem nxtP_succ (L : List (List Int)) (k m : Nat) : nxtP L k (m + 1) = nxtP L k m ++ [((nxtK L k m : Nat) : Int)] := by simp [nxtP, List.range_succ]
theorem nxtP_len (L : List (List Int)) (k m : Nat) : (nxtP L k m).length = m := by simp [nxtP]
set_option maxRecDepth 100000 in
set_option maxHeartbeats 6400000 in
theorem nextOf_any (a : Option Addr) (c : Nat) (L : List (List Int)) (k : Nat) (hk : k < L.length) (hm : L.length ≤ 1000) (W : World) (hl : LiesLL W a L) :
    Calls Tryd.prog 16 #[.slice a L.length c, .int .i64 (k : Nat)] W fun e w' => (∃ lv, e = .returned lv ∧ w'.ownsRow W.heap.size 3 1 lv (nxtR L k).length (i64s (nxtR L k))) ∧ Below W.heap.size W w' := by
  obtain ⟨iv, hvi, hv0, hv1, hv2⟩ := info_parts Tryd.infoI
  have HL : Hid (LiesLL W a L) := hl
  obtain ⟨b, o, pa, pc, rfl, d1, hl1, hm1⟩ := hl k hk
  have HC : Hid _ := common_any (some ⟨b, o, none⟩) c L k hk hm W HL.out
  have HG : Hid (L.getD k [] = L[k]) := (by show _ = _; simp [List.getD, hk])
  have HF : Hid (∀ (j : Nat) (hj : j < L[k].length) (w : World), Below W.heap.size W w → Calls Tryd.prog 29 #[.slice (some ⟨b, o, none⟩) L.length c, .int .i64 L[k][j]] w fun e w' => e = .returned (.int .i64 (fstI L L[k][j] : Nat)) ∧ Below w.heap.size w w') := fun j hj w hb => firstIn_any _ c L L[k][j] ⟨L[k], List.getElem_mem hk, List.getElem_mem hj⟩ hm w (HL.out.keep hb)
  have HL1 : Hid (Lies W pa (i64s L[k])) := hl1
  have HFl : Hid (∀ (j : Nat) (hj : j < L[k].length), fstI L L[k][j] < L.length) := fun j hj => fstI_lt L _ ⟨L[k], List.getElem_mem hk, List.getElem_mem hj⟩
  obtain ⟨cm, HCm⟩ := hid_name (cmnK L k)
  rw [HCm.out] at HC
  clear hl hl1
  go_enter Tryd.func16, Tryd.ntmps16
  go_wp2_with fail
  refine Calls.mono HC.out ?_
  rintro e w1 ⟨rfl, hb1⟩
  have HB1 : Hid (Below W.heap.size W w1) := hb1
  have d1a := (hb1.cell (World.block_lt_of_cell? W _ d1)).trans d1
  clear hb1 HC
  go_wp2_with fail
  go_loopw [5, 17] (fun y x wr => ∃ i : Nat, i ≤ L[k].length + 1 ∧ x = .int .i64 i ∧ Hid (wr.ownsRow W.heap.size 3 1 y i (i64s (nxtP L k i))) ∧ Hid (Below W.heap.size W wr)) (fun _ x _ => L[k].length + 1 - (intOf x).toNat)
  case atStart => exact ⟨0, Nat.zero_le _, rfl, World.ownsRow_nil _ _ _ _, HB1⟩
  case round =>
    obtain ⟨i, hik, rfl, HRow, HBr⟩ := hrel
    obtain ⟨la, lc, hlv⟩ := own_slC HRow.out
    subst hlv
    have e1 := (HBr.out.cell (World.block_lt_of_cell? W _ d1)).trans d1
    by_cases hlt : i < L[k].length + 1
    · have ql : decide ((i : Int) < (L[k].length : Int) + 1) = true := by rw [decide_eq_true_iff]; omega
      have HPush : Hid (∀ (z : Int) (wx : World) (l2 : Value) (w2 : World) (ob : Obj), z = ((nxtK L k i : Nat) : Int) → Below wr.heap.size wr wx → w2.ownsRow W.heap.size 3 1 l2 (i + 1) (i64s (nxtP L k i) ++ [.int .i64 z]) → (wx.alloc ob).grownBy w2 (Value.slice la i lc).ownBlock → w2.ownsRow W.heap.size 3 1 l2 (i + 1) (i64s (nxtP L k (i + 1))) ∧ Below W.heap.size W w2) := fun z wx l2 w2 ob hz hbx h1 h2 => (by
        have hbw := HBr.out.trans (hbx.mono HBr.out.size)
        refine ⟨?_, (hbw.alloc hbw.size ob).grown h2 (by have := hbw.size; simp; omega) (fun k hk => (HRow.out.lt k hk).1)⟩
        rw [nxtP_succ, i64s_app, ← hz]
        exact h1)
      by_cases hic : i ≤ cm
      · have q2 : decide (i ≤ cm) = true := by simp; omega
        have HZ : Hid (((k : Int) + 1) = ((nxtK L k i : Nat) : Int)) := (by show _ = _; rw [nxtK, HCm.out, if_pos hic]; simp)
        have HR2 : Hid ((wr.alloc (.cells #[.int .i64 ((k : Int) + 1)] 3)).ownsRow W.heap.size 3 1 (.slice la i lc) i (i64s (nxtP L k i))) := HRow.out.alloc _
        clear hic
        go_wp2_with (at_builtin; refine wpList_append_where _ rfl _ _ 39 rfl W.heap.size 3 iv (.int .i64 0) 1 8 Tryd.underlying39 hvi hv0 hv1 hv2 rfl (by decide) (.slice la i lc) i (i64s (nxtP L k i)) rfl HR2.out ⟨wr.heap.size, 0, none⟩ 1 1 [.int .i64 ((k : Int) + 1)] rfl rfl (cell_one_new _ _ _) (by intro u hu; simp at hu; subst hu; rfl) (by unfold maxLen; omega) (by omega) (by have := HBr.out.size; simp; omega) (by decide) ?_; intro l2 w2 hown2 hgr2 _; have HF2 : Hid _ := HPush.out _ _ _ _ _ HZ.out (Below.refl _ _) hown2 hgr2; obtain ⟨a9, c9, rfl⟩ := own_slC hown2)
        go_roundw
        case rel => exact ⟨i + 1, by omega, by go_num, HF2.out.1, HF2.out.2⟩
        case measure => simp [intOf]; omega
      · have q2 : decide (i ≤ cm) = false := by simp; omega
        have hi1 : i - 1 < L[k].length := by omega
        obtain ⟨b1, o1, rfl, e2⟩ := (HL1.out.keep HBr.out) (i - 1) (by rw [i64s_len]; exact hi1)
        have g1 : wr.cell? ⟨b1, o1 + (i - 1), none⟩ = some (.int .i64 L[k][i - 1]) := by simpa [i64s] using e2
        clear e2
        have HCf : Hid _ := HF.out (i - 1) hi1 wr HBr.out
        have HFt := HFl.out (i - 1) hi1
        have HZ : Hid (((fstI L L[k][i - 1] : Nat) : Int) = ((nxtK L k i : Nat) : Int)) := (by
          show _ = _
          rw [nxtK, HCm.out, if_neg hic, HG.out]
          simp [List.getD, hi1])
        obtain ⟨nn, HNn⟩ := hid_name L[k][i - 1]
        rw [HNn.out] at HCf HZ g1 HFt
        obtain ⟨ff, HFf⟩ := hid_name (fstI L nn)
        rw [HFf.out] at HCf HZ HFt
        have qi : ((i : Int) - 1).toNat = i - 1 := by omega
        have qi2 : (i : Int) - 1 = ((i - 1 : Nat) : Int) := by omega
        obtain ⟨j, HJ⟩ := hid_name (i - 1)
        rw [HJ.out] at g1 qi qi2 hi1
        have qw : IntKind.i64.wrap (j : Int) = (j : Int) := by rw [IntKind.wrap_i64]; omega
        go_wp2_with fail
        refine Calls.mono HCf.out ?_
        rintro e w3 ⟨rfl, hb3⟩
        have HB3 : Hid (Below wr.heap.size wr w3) := hb3
        have HR2 : Hid ((w3.alloc (.cells #[.int .i64 (ff : Nat)] 3)).ownsRow W.heap.size 3 1 (.slice la i lc) i (i64s (nxtP L k i))) := (ow_kept HRow.out hb3).alloc _
        clear hb3
        go_wp2_with (at_builtin; refine wpList_append_where _ rfl _ _ 39 rfl W.heap.size 3 iv (.int .i64 0) 1 8 Tryd.underlying39 hvi hv0 hv1 hv2 rfl (by decide) (.slice la i lc) i (i64s (nxtP L k i)) rfl HR2.out ⟨w3.heap.size, 0, none⟩ 1 1 [.int .i64 (ff : Nat)] rfl rfl (cell_one_new _ _ _) (by intro u hu; simp at hu; subst hu; rfl) (by unfold maxLen; omega) (by omega) (by have := HBr.out.size; have := HB3.out.size; simp; omega) (by decide) ?_; intro l2 w2 hown2 hgr2 _; have HF2 : Hid _ := HPush.out _ _ _ _ _ HZ.out HB3.out hown2 hgr2; obtain ⟨a9, c9, rfl⟩ := own_slC hown2)
        go_roundw
        case rel => exact ⟨i + 1, by omega, by go_num, HF2.out.1, HF2.out.2⟩
        case measure => simp [intOf]; omega
    · obtain rfl : i = L[k].length + 1 := by omega
      have ql : decide (((L[k].length + 1 : Nat) : Int) < (L[k].length : Int) + 1) = false := by rw [decide_eq_false_iff_not]; omega
      have HE : Hid (wr.ownsRow W.heap.size 3 1 (.slice la (L[k].length + 1) lc) (nxtR L k).length (i64s (nxtR L k))) := (by
        rw [nxtR_len, HG.out]
        have e : nxtR L k = nxtP L k (L[k].length + 1) := by unfold nxtR nxtP; rw [HG.out]
        rw [e]
        exact HRow.out)
      go_wp2
      go_ret
      exact ⟨⟨_, rfl, HE.out⟩, HBr.out⟩
end Go.Proofs.YtiiehnjgljadbaaDoor
