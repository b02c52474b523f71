/-
  The reference's UnderOf; the law's isNode.
-/
import Derived.Test.YtefgompkpjeneaaGreatDoorJBInB
import Derived.Test.YtefgompkpjeneaaGreatDoorJBSBase
import Derived.Test.YtefgompkpjeneaaGreatDoorJBSFlI
import Derived.Test.YtefgompkpjeneaaGreatDoorJAppAny
import Derived.Test.YtefgompkpjeneaaGreatDoorJLfM
import Derived.Test.YtefgompkpjeneaaGreatDoorJBSRight
import Derived.Test.YtefgompkpjeneaaGreatDoorJWErr4
namespace Go.Proofs.YtefgompkpjeneaaGreatDoor
open Go.RowKit
set_option maxRecDepth 100000 in
set_option maxHeartbeats 3200000 in
theorem underOf_any (t : Tr) (k : Nat) (hd : t.Dp k) (hk : k ≤ 100) (hcn : t.cnt ≤ 2000) (hsm : t.Sm) (P : Nat → Prop) (a : Option Addr) (c : Nat) (W : World) (hl : LiesN W P a t.sub) :
    Calls Tryz.prog 17 #[nodeV t a c] W fun e w' => (∃ lv, e = .returned lv ∧ w'.ownsRow W.heap.size 3 1 lv (lfI (ndT t)).length (i64s (lfI (ndT t)))) ∧ Below W.heap.size W w' := by
  obtain ⟨iv, hvi, hv0, hv1, hv2⟩ := info_parts Tryz.infoI
  obtain ⟨w0, HW0, HX, HB⟩ := one_box W #[.int .i64 t.id, .string t.nm, .int .i64 t.rep, .int .i64 t.kind, .slice a t.sub.length c] 24
  have HFl : Hid _ := flatF_any t hsm P a c w0 (hl.keep HB.out)
  have HNd : Hid ((fl t).map Pc.t = ndT t) := fl_nd t k hcn hd hk
  have HLn : Hid ((fl t).length ≤ 2001) := flT_len t [] 1 (-1) (by simp)
  obtain ⟨⟨p0, p1, p2, p3, p4⟩, _⟩ := row_five HX.out
  clear hl hsm hd
  unfold nodeV
  go_enter Tryz.func17, Tryz.ntmps17
  go_wp2_with fail
  rw [HW0.out]
  refine Calls.mono HFl.out ?_
  rintro e w1 ⟨⟨ps, la, lc, rfl, hco, hrow⟩, hb1⟩
  have HB1 : Hid (Below W.heap.size W w1) := HB.out.trans (hb1.mono HB.out.size)
  have hlen : ps.length = (fl t).length := by rw [← hco, List.length_map]
  have hpl : ps.length ≤ 2001 := by rw [hlen]; exact HLn.out
  have hp0 : 0 < ps.length := by rw [hlen]; exact fl_pos t
  obtain ⟨g, rfl, _⟩ := pn_cell hrow 0 hp0
  have HF : Hid (FlI t ps g w1) := ⟨hco, fun X hX i hi k u hk hu => (by
    obtain ⟨g', hg', hc⟩ := pn_cell hrow i hi
    obtain rfl : g = g' := by injection hg' with h; injection h
    have h1 := hc k u hk hu
    exact (hX.cell (World.block_lt_of_cell? w1 _ h1)).trans h1)⟩
  have HLe : Hid (ps.length = (ndT t).length) := (by show _ = _; rw [hlen, ← HNd.out, List.length_map])
  clear hco hrow hb1 HFl p0 p1 p2 p3 p4 hlen
  go_wp2_with fail
  go_loopw [4, 5] (fun y x wr => ∃ i : Nat, i ≤ ps.length ∧ x = .int .i64 i ∧ Hid (wr.ownsRow w1.heap.size 3 1 y (lfI ((ndT t).take i)).length (i64s (lfI ((ndT t).take i)))) ∧ Hid (Below w1.heap.size w1 wr)) (fun _ x _ => ps.length - (intOf x).toNat)
  case atStart => exact ⟨0, Nat.zero_le _, rfl, World.ownsRow_nil _ _ _ _, Below.refl _ _⟩
  case round =>
    obtain ⟨i, hik, rfl, HRow, HBr⟩ := hrel
    obtain ⟨ra, rc, hrv⟩ := own_slC HRow.out
    subst hrv
    by_cases hlt : i < ps.length
    · have hfi : i < (fl t).length := by rw [← HF.out.len]; exact hlt
      have hni : i < (ndT t).length := by rw [← HLe.out]; exact hlt
      have HAt : Hid ((ndT t)[i] = ps[i].t) := (by
        show _ = _
        have e1 : (ndT t)[i] = (fl t)[i].t := by simp [← HNd.out]
        rw [e1, HF.out.at_ i hlt]
        rfl)
      have c0 := HF.out.cell wr HBr.out i hlt 0 _ (by omega) rfl
      have c3 := HF.out.cell wr HBr.out i hlt 3 _ (by omega) rfl
      rw [Nat.add_zero] at c0
      obtain ⟨xt, HXt⟩ := hid_name ps[i].t
      rw [HXt.out] at c0 c3 HAt
      have HTk : Hid ((ndT t).take (i + 1) = (ndT t).take i ++ [xt]) := (by show _ = _; rw [List.take_succ_eq_append_getElem hni, HAt.out])
      have hln := lfI_len ((ndT t).take i)
      have hln2 : (lfI ((ndT t).take i)).length ≤ 2001 := by simp at hln; omega
      by_cases hk0 : xt.kind = 0
      · have q1 : (xt.kind != 0) = false := by simp [hk0]
        have HN : Hid (lfI ((ndT t).take (i + 1)) = lfI ((ndT t).take i)) := (by show _ = _; rw [HTk.out, lfI_app, lfI_one, if_pos hk0, List.append_nil])
        clear hk0
        go_wp2
        go_roundw
        case rel => exact ⟨i + 1, by omega, by go_num, by rw [HN.out]; exact HRow.out, HBr⟩
        case measure => simp [intOf]; omega
      · have q1 : (xt.kind != 0) = true := by simp [hk0]
        have HN : Hid (lfI ((ndT t).take (i + 1)) = lfI ((ndT t).take i) ++ [xt.id]) := (by show _ = _; rw [HTk.out, lfI_app, lfI_one, if_neg hk0])
        have HR2 : Hid ((wr.alloc (.cells #[.int .i64 xt.id] 3)).ownsRow w1.heap.size 3 1 (.slice ra (lfI ((ndT t).take i)).length rc) (lfI ((ndT t).take i)).length (i64s (lfI ((ndT t).take i)))) := HRow.out.alloc _
        have HPush : Hid (∀ (l2 : Value) (w2 : World) (ob : Obj), w2.ownsRow w1.heap.size 3 1 l2 ((lfI ((ndT t).take i)).length + 1) (i64s (lfI ((ndT t).take i)) ++ [.int .i64 xt.id]) → (wr.alloc ob).grownBy w2 (Value.slice ra (lfI ((ndT t).take i)).length rc).ownBlock → w2.ownsRow w1.heap.size 3 1 l2 (lfI ((ndT t).take (i + 1))).length (i64s (lfI ((ndT t).take (i + 1)))) ∧ Below w1.heap.size w1 w2) := fun l2 w2 ob h1 h2 => (by
          refine ⟨?_, (HBr.out.alloc HBr.out.size ob).grown h2 (by have := HBr.out.size; simp; omega) (fun k hk => (HRow.out.lt k hk).1)⟩
          rw [HN.out, i64s_app, List.length_append]
          exact h1)
        clear hk0
        go_wp2_with (at_builtin; refine wpList_append_where _ rfl _ _ 25 rfl w1.heap.size 3 iv (.int .i64 0) 1 8 Tryz.underlying25 hvi hv0 hv1 hv2 rfl (by decide) (.slice ra (lfI ((ndT t).take i)).length rc) _ _ rfl HR2.out ⟨wr.heap.size, 0, none⟩ 1 1 [.int .i64 xt.id] rfl rfl (cell_one_new _ _ _) (by intro u hu; simp at hu; subst hu; rfl) (by unfold maxLen; omega) (by omega) (by have := HBr.out.size; simp; omega) (by decide) ?_; intro l2 w2 hown2 hgr2 _; have HF2 : Hid _ := HPush.out _ _ _ hown2 hgr2; obtain ⟨a9, c9, rfl⟩ := own_slC hown2)
        go_roundw
        case rel => exact ⟨i + 1, by omega, by go_num, HF2.out.1, HF2.out.2⟩
        case measure => simp [intOf]; omega
    · obtain rfl : i = ps.length := by omega
      have HE : Hid (wr.ownsRow W.heap.size 3 1 (.slice ra (lfI ((ndT t).take ps.length)).length rc) (lfI (ndT t)).length (i64s (lfI (ndT t)))) := (by
        have h := HRow.out
        rw [HLe.out, List.take_length] at h ⊢
        exact ⟨h.1, h.2.imp (fun h => h) (fun ⟨g, cap, cur, e1, e2, e3⟩ => ⟨g, cap, cur, e1, by have := HB1.out.size; omega, e3⟩)⟩)
      go_wp2
      go_ret
      exact ⟨⟨_, rfl, HE.out⟩, HB1.out.trans (HBr.out.mono HB1.out.size)⟩
set_option maxRecDepth 100000 in
set_option maxHeartbeats 3200000 in
theorem isNode_ok (t : Tr) (hs : t.Sm) (P P' : Nat → Prop) (a a' : Option Addr) (c c' : Nat) (W : World) (hl : LiesN W P a t.sub) (hl' : LiesN W P' a' t.sub) (hc : t.sub.length ≤ c) (hc' : t.sub.length ≤ c') :
    Calls Tryz.prog 11 #[nodeV t a c, .nilIface, nodeV t a' c', .int .i64 0] W fun e w' => e = .returned (.bool true) ∧ Below W.heap.size W w' := by
  obtain ⟨w0, HW0, HX, HY, HB⟩ := two_boxesS W #[.int .i64 t.id, .string t.nm, .int .i64 t.rep, .int .i64 t.kind, .slice a t.sub.length c] #[.int .i64 t.id, .string t.nm, .int .i64 t.rep, .int .i64 t.kind, .slice a' t.sub.length c'] 24 24
  have HS : Hid _ := sn_ok (SizeOf.sizeOf t + 1) t (Nat.lt_succ_self _) hs P P' a c a' c' w0 (hl.keep HB.out) (hl'.keep HB.out) hc hc'
  obtain ⟨⟨p0, p1, p2, p3, p4⟩, _⟩ := row_five HX.out
  obtain ⟨⟨q0, q1, q2, q3, q4⟩, _⟩ := row_five HY.out
  clear hl hl' hs
  unfold nodeV at *
  go_enter Tryz.func11, Tryz.ntmps11
  go_upto_region 3 with fail
  rw [HW0.out]
  go_wp2_with fail
  refine Calls.mono HS.out ?_
  rintro e w1 ⟨rfl, hb1⟩
  have HB1 : Hid (Below W.heap.size W w1) := HB.out.trans (hb1.mono HB.out.size)
  clear hb1
  go_wp2
  go_ret
  exact ⟨rfl, HB1.out⟩
def zT : Tr := .node 0 ⟨#[]⟩ 0 0 []
theorem z_sm : zT.Sm := .mk _ _ _ _ _ (by omega) (by decide) (by decide) (fun j h => absurd h (by simp))
set_option maxRecDepth 100000 in
set_option maxHeartbeats 3200000 in
theorem isNode_err (A : Nat → Addr) (i : Nat) (hi : i < 8) (y0 y2 y3 : Int) (y1 : ByteArray) (ya : Option Addr) (yn yc : Nat) (W : World) (hA : Errs W A) :
    Calls Tryz.prog 11 #[.agg #[.int .i64 0, .string ⟨#[]⟩, .int .i64 0, .int .i64 0, .slice none 0 0], errV (A i), .agg #[.int .i64 y0, .string y1, .int .i64 y2, .int .i64 y3, .slice ya yn yc], .int .i64 ((i : Int) + 1)] W fun e w' => e = .returned (.bool true) ∧ Below W.heap.size W w' := by
  obtain ⟨w0, HW0, HX, HY, HB⟩ := two_boxesS W #[.int .i64 0, .string ⟨#[]⟩, .int .i64 0, .int .i64 0, .slice none 0 0] #[.int .i64 y0, .string y1, .int .i64 y2, .int .i64 y3, .slice ya yn yc] 24 24
  have HC : Hid _ := coded_sent w0 A (hA.keep HB.out) i hi ((i : Int) + 1) true (by simp)
  have HS : Hid (∀ w, Calls Tryz.prog 26 #[.agg #[.int .i64 0, .string ⟨#[]⟩, .int .i64 0, .int .i64 0, .slice none 0 0], .agg #[.int .i64 0, .string ⟨#[]⟩, .int .i64 0, .int .i64 0, .slice none 0 0]] w fun e w' => e = .returned (.bool true) ∧ Below w.heap.size w w') := fun w => sn_ok (SizeOf.sizeOf zT + 1) zT (Nat.lt_succ_self _) z_sm (fun _ => True) (fun _ => True) none 0 none 0 w ⟨fun _ => [], fun j h => absurd h (by simp [zT, Tr.sub]), fun j h => absurd h (by simp [zT, Tr.sub])⟩ ⟨fun _ => [], fun j h => absurd h (by simp [zT, Tr.sub]), fun j h => absurd h (by simp [zT, Tr.sub])⟩ (by simp [zT, Tr.sub]) (by simp [zT, Tr.sub])
  have q0 : decide ((0 : Int) < (i : Int) + 1) = true := by rw [decide_eq_true_iff]; omega
  have q1 : (0 : Int) < (i : Int) + 1 := by omega
  clear hA
  unfold errV at *
  go_enter Tryz.func11, Tryz.ntmps11
  go_upto_if 10 with fail
  rw [HW0.out]
  go_wp2_with fail
  refine Calls.mono HC.out ?_
  rintro e w1 ⟨rfl, hb1⟩
  have HB1 : Hid (Below W.heap.size W w1) := HB.out.trans (hb1.mono HB.out.size)
  have HX1 : Hid (w1.heap[W.heap.size]? = some (.cells #[.int .i64 0, .string ⟨#[]⟩, .int .i64 0, .int .i64 0, .slice none 0 0] 24 (0, 0))) := blk_keep hb1 HX.out
  obtain ⟨⟨p0, p1, p2, p3, p4⟩, _⟩ := row_five HX1.out
  clear hb1
  go_wp2_with fail
  refine Calls.mono (HS.out w1) ?_
  rintro e w2 ⟨rfl, hb2⟩
  have HB2 : Hid (Below W.heap.size W w2) := HB1.out.trans (hb2.mono HB1.out.size)
  clear hb2
  go_wp2
  go_ret
  exact ⟨rfl, HB2.out⟩
end Go.Proofs.YtefgompkpjeneaaGreatDoor
