/-
  The walk of the law EncOrder.
-/
import Derived.Test.YtjpdghpkbpdmeabDoorBWLess
import Derived.Test.YtjpdghpkbpdmeabDoorBOrdMath
namespace Go.Proofs.YtjpdghpkbpdmeabDoor
open Go.RowKit
theorem ord_cases {n1 n2 : Int} {s1 s2 : ByteArray} {l m : Bool} (h : (l && m) = false ∧ ((l || m) = true ↔ ¬ (n1 = n2 ∧ s1 = s2))) :
    (l = true ∧ m = false ∧ ¬ n1 = n2) ∨ (l = true ∧ m = false ∧ n1 = n2 ∧ ¬ s1.toList = s2.toList) ∨ (l = false ∧ m = true ∧ ¬ n1 = n2) ∨ (l = false ∧ m = true ∧ n1 = n2 ∧ ¬ s1.toList = s2.toList) ∨ (l = false ∧ m = false ∧ n1 = n2 ∧ s1 = s2) := by
  have es : s1 = s2 ↔ s1.toList = s2.toList := by
    rw [Lib.toList_data, Lib.toList_data, Array.toList_inj]
    cases s1; cases s2; simp
  rw [es] at h
  rw [es]
  by_cases hn : n1 = n2 <;> by_cases hs : s1.toList = s2.toList <;> cases l <;> cases m <;> simp_all
set_option maxRecDepth 100000 in
set_option maxHeartbeats 3200000 in
theorem encOrder_walk (k1 n1 : Int) (s1 : ByteArray) (k2 n2 : Int) (s2 : ByteArray) (k3 n3 : Int) (s3 : ByteArray) (w : World) (h1 : -9223372036854775808 ≤ n1) (h2 : -9223372036854775808 ≤ n2) (h3 : -9223372036854775808 ≤ n3) (kt st : TypeId) (kp sp : Value) (hgk : w.cell? ⟨0, 0, none⟩ = some (.iface kt kp)) (hgs : w.cell? ⟨2, 0, none⟩ = some (.iface st sp)) :
    Calls Tryd.prog 4 #[.agg #[.int .i64 k1, .int .i64 n1, .string s1], .agg #[.int .i64 k2, .int .i64 n2, .string s2], .agg #[.int .i64 k3, .int .i64 n3, .string s3]] w fun e w' => e = .returned (.bool true) ∧ Below w.heap.size w w' := by
  have hb0 : Below w.heap.size w (((w.alloc (.cells #[.int .i64 k1, .int .i64 n1, .string s1] 23)).alloc (.cells #[.int .i64 k2, .int .i64 n2, .string s2] 23)).alloc (.cells #[.int .i64 k3, .int .i64 n3, .string s3] 23)) := (((Below.refl _ _).alloc (Nat.le_refl _) _).alloc (by simp) _).alloc (by simp; omega) _
  have HK : Hid _ := (hb0.cell (World.block_lt_of_cell? w _ hgk)).trans hgk
  have HS : Hid _ := (hb0.cell (World.block_lt_of_cell? w _ hgs)).trans hgs
  have HA : Hid _ := blk_alloc (o' := .cells #[.int .i64 k3, .int .i64 n3, .string s3] 23) (blk_alloc (o' := .cells #[.int .i64 k2, .int .i64 n2, .string s2] 23) (heap_alloc_new w (.cells #[.int .i64 k1, .int .i64 n1, .string s1] 23)))
  have HB : Hid ((((w.alloc (.cells #[.int .i64 k1, .int .i64 n1, .string s1] 23)).alloc (.cells #[.int .i64 k2, .int .i64 n2, .string s2] 23)).alloc (.cells #[.int .i64 k3, .int .i64 n3, .string s3] 23)).heap[w.heap.size + 1]? = some (.cells #[.int .i64 k2, .int .i64 n2, .string s2] 23)) := by
    have e : w.heap.size + 1 = (w.alloc (.cells #[.int .i64 k1, .int .i64 n1, .string s1] 23)).heap.size := by simp
    show _ = _
    rw [e]
    exact blk_alloc (heap_alloc_new _ _)
  have HC : Hid ((((w.alloc (.cells #[.int .i64 k1, .int .i64 n1, .string s1] 23)).alloc (.cells #[.int .i64 k2, .int .i64 n2, .string s2] 23)).alloc (.cells #[.int .i64 k3, .int .i64 n3, .string s3] 23)).heap[w.heap.size + 2]? = some (.cells #[.int .i64 k3, .int .i64 n3, .string s3] 23)) := by
    have e : w.heap.size + 2 = ((w.alloc (.cells #[.int .i64 k1, .int .i64 n1, .string s1] 23)).alloc (.cells #[.int .i64 k2, .int .i64 n2, .string s2] 23)).heap.size := by simp
    show _ = _
    rw [e]
    exact heap_alloc_new _ _
  clear hgk hgs
  go_enter Tryd.func4, Tryd.ntmps4
  go_wp2_with fail
  refine (four_any _ kt st kp sp HK.out HS.out).mono ?_
  rintro e w1 ⟨rfl, hb1⟩
  have hb01 := hb0.trans (hb1.mono hb0.size)
  have HA1 : Hid _ := blk_keep hb1 HA.out
  have HB1 : Hid _ := blk_keep hb1 HB.out
  have HC1 : Hid _ := blk_keep hb1 HC.out
  clear HA HB HC HK HS
  have HN : Hid (∀ W, Below w1.heap.size w1 W → (W.cell? ⟨w.heap.size, 0, none⟩ = some (.int .i64 k1) ∧ W.cell? ⟨w.heap.size, 1, none⟩ = some (.int .i64 n1) ∧ W.cell? ⟨w.heap.size, 2, none⟩ = some (.string s1)) ∧ (W.cell? ⟨w.heap.size + 1, 0, none⟩ = some (.int .i64 k2) ∧ W.cell? ⟨w.heap.size + 1, 1, none⟩ = some (.int .i64 n2) ∧ W.cell? ⟨w.heap.size + 1, 2, none⟩ = some (.string s2)) ∧ (W.cell? ⟨w.heap.size + 2, 0, none⟩ = some (.int .i64 k3) ∧ W.cell? ⟨w.heap.size + 2, 1, none⟩ = some (.int .i64 n3) ∧ W.cell? ⟨w.heap.size + 2, 2, none⟩ = some (.string s3))) :=
    fun W hW => ⟨row_three (blk_keep hW HA1.out), row_three (blk_keep hW HB1.out), row_three (blk_keep hW HC1.out)⟩
  obtain ⟨⟨ca0, ca1, ca2⟩, ⟨cb0, cb1, cb2⟩, ⟨cc0, cc1, cc2⟩⟩ := HN.out w1 (Below.refl _ _)
  by_cases hv1 : OkV k1 k1 n1 s1.size
  · have hd1 := okV_iff.2 hv1
    have HV1 : Hid (OkV k1 k1 n1 s1.size) := hv1
    clear hv1
    go_wp2_with fail
    refine (isValueR_any _ _ _ _ _).mono ?_
    rintro e w2 ⟨rfl, hb2⟩
    have hbb2 := hb01.trans (hb2.mono hb01.size)
    obtain ⟨⟨da0, da1, da2⟩, ⟨db0, db1, db2⟩, ⟨dc0, dc1, dc2⟩⟩ := HN.out w2 hb2
    clear ca0 ca1 ca2 cb0 cb1 cb2 cc0 cc1 cc2
    by_cases hv2 : OkV k1 k2 n2 s2.size
    · have hd2 := okV_iff.2 hv2
      obtain rfl : k1 = k2 := hv2.1.symm
      have HT0 : Hid _ := vless_tri k1 n1 n2 s1 s2 h1 h2 HV1.out hv2
      clear hv2
      go_wp2_with fail
      refine (isValueR_any _ _ _ _ _).mono ?_
      rintro e w3 ⟨rfl, hb3⟩
      have hbb3 := hb2.trans (hb3.mono hb2.size)
      obtain ⟨⟨ca0, ca1, ca2⟩, ⟨cb0, cb1, cb2⟩, ⟨cc0, cc1, cc2⟩⟩ := HN.out w3 hbb3
      clear da0 da1 da2 db0 db1 db2 dc0 dc1 dc2
      by_cases hv3 : OkV k1 k3 n3 s3.size
      · have hd3 := okV_iff.2 hv3
        have HT : Hid ((vless k1 n1 s1 k1 n2 s2 && vless k1 n2 s2 k1 n1 s1) = false ∧ ((vless k1 n1 s1 k1 n2 s2 || vless k1 n2 s2 k1 n1 s1) = true ↔ ¬ (n1 = n2 ∧ s1 = s2))) := HT0.out
        obtain rfl : k1 = k3 := hv3.1.symm
        clear hv3
        go_wp2_with fail
        refine (isValueR_any _ _ _ _ _).mono ?_
        rintro e w4 ⟨rfl, hb4⟩
        have hbb4 := hbb3.trans (hb4.mono hbb3.size)
        obtain ⟨⟨da0, da1, da2⟩, ⟨db0, db1, db2⟩, ⟨dc0, dc1, dc2⟩⟩ := HN.out w4 hbb4
        clear ca0 ca1 ca2 cb0 cb1 cb2 cc0 cc1 cc2
        go_wp2_with fail
        refine (less_any _ _ _ _ _ _ _ h1 h2).mono ?_
        rintro e w5 ⟨rfl, hb5⟩
        have hbb5 := hbb4.trans (hb5.mono hbb4.size)
        obtain ⟨⟨ca0, ca1, ca2⟩, ⟨cb0, cb1, cb2⟩, ⟨cc0, cc1, cc2⟩⟩ := HN.out w5 hbb5
        clear da0 da1 da2 db0 db1 db2 dc0 dc1 dc2
        go_wp2_with fail
        refine (less_any _ _ _ _ _ _ _ h2 h1).mono ?_
        rintro e w6 ⟨rfl, hb6⟩
        have hbb6 := hbb5.trans (hb6.mono hbb5.size)
        obtain ⟨⟨da0, da1, da2⟩, ⟨db0, db1, db2⟩, ⟨dc0, dc1, dc2⟩⟩ := HN.out w6 hbb6
        clear ca0 ca1 ca2 cb0 cb1 cb2 cc0 cc1 cc2
        have hcase : (vless k1 n1 s1 k1 n2 s2 = true ∧ vless k1 n2 s2 k1 n1 s1 = false ∧ ¬ n1 = n2) ∨ (vless k1 n1 s1 k1 n2 s2 = true ∧ vless k1 n2 s2 k1 n1 s1 = false ∧ n1 = n2 ∧ ¬ s1.toList = s2.toList) ∨ (vless k1 n1 s1 k1 n2 s2 = false ∧ vless k1 n2 s2 k1 n1 s1 = true ∧ ¬ n1 = n2) ∨ (vless k1 n1 s1 k1 n2 s2 = false ∧ vless k1 n2 s2 k1 n1 s1 = true ∧ n1 = n2 ∧ ¬ s1.toList = s2.toList) ∨ (vless k1 n1 s1 k1 n2 s2 = false ∧ vless k1 n2 s2 k1 n1 s1 = false ∧ n1 = n2 ∧ s1 = s2) := ord_cases HT.out
        rcases hcase with ⟨e1, e2, e3⟩ | ⟨e1, e2, rfl, e4⟩ | ⟨e1, e2, e3⟩ | ⟨e1, e2, rfl, e4⟩ | ⟨e1, e2, rfl, rfl⟩
        all_goals
          go_wp2_with fail
          refine (less_any _ _ _ _ _ _ _ h2 h3).mono ?_
          rintro e w7 ⟨rfl, hb7⟩
          have hbb7 := hbb6.trans (hb7.mono hbb6.size)
          obtain ⟨⟨ca0, ca1, ca2⟩, ⟨cb0, cb1, cb2⟩, ⟨cc0, cc1, cc2⟩⟩ := HN.out w7 hbb7
          clear da0 da1 da2 db0 db1 db2 dc0 dc1 dc2
          cases e5 : vless k1 _ _ k1 n3 s3
          all_goals first
            | (go_wp2_with fail
               go_ret
               exact ⟨rfl, hb01.trans (hbb7.mono hb01.size)⟩)
            | (have e6 := vless_trans _ _ _ _ _ _ _ e1 e5
               go_wp2_with fail
               refine (less_any _ _ _ _ _ _ _ h1 h3).mono ?_
               rintro e w8 ⟨rfl, hb8⟩
               have hbb8 := hbb7.trans (hb8.mono hbb7.size)
               go_wp2_with fail
               go_ret
               exact ⟨rfl, hb01.trans (hbb8.mono hb01.size)⟩)
      · have hd := okV_no hv3
        go_wp2_with fail
        refine (isValueR_any _ _ _ _ _).mono ?_
        rintro e w4 ⟨rfl, hb4⟩
        go_wp2_with fail
        go_ret
        have hbb4 := hbb3.trans (hb4.mono hbb3.size)
        exact ⟨rfl, hb01.trans (hbb4.mono hb01.size)⟩
    · have hd := okV_no hv2
      go_wp2_with fail
      refine (isValueR_any _ _ _ _ _).mono ?_
      rintro e w3 ⟨rfl, hb3⟩
      go_wp2_with fail
      go_ret
      exact ⟨rfl, hbb2.trans (hb3.mono hbb2.size)⟩
  · have hd := okV_no hv1
    go_wp2_with fail
    refine (isValueR_any _ _ _ _ _).mono ?_
    rintro e w2 ⟨rfl, hb2⟩
    go_wp2_with fail
    go_ret
    exact ⟨rfl, hb01.trans (hb2.mono hb01.size)⟩
end Go.Proofs.YtjpdghpkbpdmeabDoor
