/-
  The reference's TextsOf: the texts of values.
  The reference's BestOf.
-/
import Derived.Test.YtjchkhdmjbojjaaDoorKDeltaOf
import Derived.Test.YtjchkhdmjbojjaaDoorKPrefV
import Derived.Test.YtjchkhdmjbojjaaDoorKPrefOf
import Derived.Test.YtjchkhdmjbojjaaDoorKBBestF
import Derived.Test.YtjchkhdmjbojjaaDoorKDictOf
namespace Go.Proofs.YtjchkhdmjbojjaaDoor
open Go.RowKit
def scells (ts : List ByteArray) : List Value := ts.map .string
theorem scells_len (ts : List ByteArray) : (scells ts).length = ts.length := by simp [scells]
theorem liesS_own {w : World} {B e : Nat} {v : Value} {ts : List ByteArray} (h : w.ownsRow B e 1 v (scells ts).length (scells ts)) : ∃ a c, v = .slice a ts.length c ∧ LiesS w a ts := by
  by_cases h0 : 0 < (scells ts).length
  · obtain ⟨g, c, rfl, hl⟩ := own_lies h h0
    refine ⟨_, c, by rw [scells_len], fun j hj => ?_⟩
    obtain ⟨b, o, e, hc⟩ := hl j (by rw [scells_len]; exact hj)
    exact ⟨b, o, e, by rw [hc]; simp [scells]⟩
  · rw [scells_len] at h0
    have hz : ts.length = 0 := by omega
    rw [scells_len, hz] at h
    rcases h.2 with ⟨rfl, _⟩ | ⟨g, cap, cur, rfl, _⟩
    · exact ⟨none, 0, by rw [hz], fun j hj => absurd hj (by omega)⟩
    · exact ⟨_, cap, by rw [hz], fun j hj => absurd hj (by omega)⟩
set_option maxRecDepth 100000 in
set_option maxHeartbeats 1600000 in
theorem textsOf_any (a : Option Addr) (vs : List Vl) (c : Nat) (w : World) (hn : vs.length ≤ 20000) (hl : LiesV w a vs) :
    Calls Tryd.prog 43 #[.slice a vs.length c] w fun e w' => (∃ a' c', e = .returned (.slice a' vs.length c') ∧ LiesS w' a' (vtx vs)) ∧ Below w.heap.size w w' := by
  obtain ⟨iv, hvi, hv0, hv1, hv2⟩ := info_parts Tryd.infoS
  have HL : Hid (LiesV w a vs) := hl
  clear hl
  go_enter Tryd.func43, Tryd.ntmps43
  go_wp2
  go_loopw [3, 4] (fun o x wr => ∃ i : Nat, i ≤ vs.length ∧ x = .int .i64 i ∧ Hid (wr.ownsRow w.heap.size 9 1 o (scells (vtx (vs.take i))).length (scells (vtx (vs.take i)))) ∧ Below w.heap.size w wr) (fun _ x _ => vs.length - (intOf x).toNat)
  case atStart => exact ⟨0, Nat.zero_le _, rfl, World.ownsRow_nil _ _ _ _, Below.refl _ _⟩
  case round =>
    obtain ⟨i, hik, rfl, HO, hb⟩ := hrel
    by_cases hlt : i < vs.length
    · obtain ⟨b, o, rfl, _, _, hc⟩ := (HL.out.keep hb) i hlt
      have HQ : Hid (scells (vtx (vs.take (i + 1))) = scells (vtx (vs.take i)) ++ [.string vs[i].s]) := by
        show _ = _
        rw [List.take_succ_eq_append_getElem hlt]
        simp only [scells, vtx, List.map_append]
        rfl
      have hcl : (scells (vtx (vs.take i))).length ≤ 20000 := by rw [scells_len, vtx_len, List.length_take]; omega
      generalize scells (vtx (vs.take i)) = cs at *
      generalize vs[i].s = t at *
      go_wp2_with (at_builtin; refine wpList_append_own _ rfl _ _ 65 rfl w.heap.size 9 iv (.string ⟨#[]⟩) 1 16 Tryd.underlying65 hvi hv0 hv1 hv2 rfl (by decide) _ cs.length cs rfl (HO.out.alloc _) ⟨_, 0, none⟩ 1 1 [.string t] rfl rfl (cell_one_new _ _ _) (by intro u hu; simp at hu; subst hu; rfl) (by unfold maxLen; omega) (by omega) (by have := hb.size; simp; omega) ?_; intro v' w3 hown3 hgrow3 _; have HO3 : Hid _ := hown3; have hb3 : Below w.heap.size w w3 := (hb.alloc hb.size _).grown hgrow3 (by have := hb.size; simp; omega) (fun k hk => (HO.out.lt k hk).1))
      go_roundw
      case rel => exact ⟨i + 1, by omega, by go_num, by rw [HQ.out, List.length_append]; exact HO3, hb3⟩
      case measure => simp [intOf]; omega
    · obtain rfl : i = vs.length := by omega
      rw [List.take_length] at HO
      obtain ⟨a', c', rfl, hl'⟩ := liesS_own HO.out
      have HL' : Hid _ := hl'
      clear hl'
      rw [vtx_len]
      go_wp2
      go_ret
      exact ⟨⟨a', c', rfl, HL'.out⟩, hb⟩
end Go.Proofs.YtjchkhdmjbojjaaDoor

namespace Go.Proofs.YtjchkhdmjbojjaaDoor
open Go.RowKit
set_option maxRecDepth 100000 in
set_option maxHeartbeats 3200000 in
theorem bestOf_any (a : Option Addr) (vs : List Vl) (c : Nat) (kd : Int) (w : World) (hn : vs.length ≤ 300) (hl : LiesV w a vs) (hr : Right kd vs) (us : List Vl) (ps : List Nat) (hu : Uq vs us ps) :
    Calls Tryd.prog 14 #[.int .i64 kd, .slice a vs.length c] w fun e w' => e = .returned (.tuple #[.int .i64 (bestP kd vs us ps).1, .string (bestP kd vs us ps).2]) ∧ Below w.heap.size w w' := by
  have HL : Hid (LiesV w a vs) := hl
  have HR : Hid (Right kd vs) := hr
  obtain ⟨pb, HPB⟩ : ∃ pb : ByteArray, Hid (pb = ⟨(plainB kd vs).toArray⟩) := ⟨_, rfl⟩
  obtain ⟨db, HDB⟩ : ∃ db : ByteArray, Hid (db = ⟨(dictB kd us ps).toArray⟩) := ⟨_, rfl⟩
  have HPF : Hid (∀ W, Below w.heap.size w W → Calls Tryd.prog 34 #[.int .i64 kd, .slice a vs.length c] W fun e w' => e = .returned (.string pb) ∧ Below W.heap.size W w') := fun W hW => by
    rw [HPB.out]
    exact plainOf_any a vs c kd W (by omega) (hl.keep hW) hr
  have HDF : Hid (∀ W, Below w.heap.size w W → Calls Tryd.prog 12 #[.int .i64 kd, .slice a vs.length c] W fun e w' => e = .returned (.string db) ∧ Below W.heap.size W w') := fun W hW => by
    rw [HDB.out]
    exact dictOf_any a vs c kd W hn (hl.keep hW) hr us ps hu
  clear hl hr hu
  have hcs : kd = 1 ∨ kd = 2 ∨ kd = 3 ∨ kd = 4 ∨ kd = 5 := by have := HR.out.1; omega
  rcases hcs with rfl | rfl | rfl | rfl | rfl
  · have HB : Hid (bestP 1 vs us ps = bst (0, pb) 1 db) := by
      show _ = _
      rw [HPB.out, HDB.out]
      rfl
    go_enter Tryd.func14, Tryd.ntmps14
    go_wp2_with fail
    refine (HPF.out w (Below.refl _ _)).mono ?_
    rintro e w1 ⟨rfl, hb1⟩
    go_wp2_with fail
    refine (HDF.out w1 hb1).mono ?_
    rintro e w2 ⟨rfl, hb2⟩
    have hb12 := hb1.trans (hb2.mono hb1.size)
    by_cases h1 : db.size < pb.size
    · go_wp2
      go_ret2
      exact ⟨by rw [HB.out]; simp [bst, h1], hb12⟩
    · go_wp2
      go_ret2
      exact ⟨by rw [HB.out]; simp [bst, h1], hb12⟩
  · obtain ⟨tb, HTB⟩ : ∃ tb : ByteArray, Hid (tb = ⟨(deltaB vs).toArray⟩) := ⟨_, rfl⟩
    have HB : Hid (bestP 2 vs us ps = bst (bst (0, pb) 1 db) 2 tb) := by
      show _ = _
      rw [HPB.out, HDB.out, HTB.out]
      rfl
    have HTF : Hid (∀ W, Below w.heap.size w W → Calls Tryd.prog 41 #[.slice a vs.length c] W fun e w' => e = .returned (.string tb) ∧ Below W.heap.size W w') := fun W hW => by
      rw [HTB.out]
      exact deltaOf_any a vs c W (by omega) (HL.out.keep hW) (fun j h => (HR.out.2 _ (List.getElem_mem h)).2.2.1)
    go_enter Tryd.func14, Tryd.ntmps14
    go_wp2_with fail
    refine (HPF.out w (Below.refl _ _)).mono ?_
    rintro e w1 ⟨rfl, hb1⟩
    go_wp2_with fail
    refine (HDF.out w1 hb1).mono ?_
    rintro e w2 ⟨rfl, hb2⟩
    have hb12 := hb1.trans (hb2.mono hb1.size)
    by_cases h1 : db.size < pb.size
    · go_wp2_with fail
      refine (HTF.out w2 hb12).mono ?_
      rintro e w3 ⟨rfl, hb3⟩
      have hb13 := hb12.trans (hb3.mono hb12.size)
      by_cases h2 : tb.size < db.size
      · go_wp2
        go_ret2
        exact ⟨by rw [HB.out]; simp [bst, h1, h2], hb13⟩
      · go_wp2
        go_ret2
        exact ⟨by rw [HB.out]; simp [bst, h1, h2], hb13⟩
    · go_wp2_with fail
      refine (HTF.out w2 hb12).mono ?_
      rintro e w3 ⟨rfl, hb3⟩
      have hb13 := hb12.trans (hb3.mono hb12.size)
      by_cases h2 : tb.size < pb.size
      · go_wp2
        go_ret2
        exact ⟨by rw [HB.out]; simp [bst, h1, h2], hb13⟩
      · go_wp2
        go_ret2
        exact ⟨by rw [HB.out]; simp [bst, h1, h2], hb13⟩
  · obtain ⟨tb, HTB⟩ : ∃ tb : ByteArray, Hid (tb = ⟨(deltaB vs).toArray⟩) := ⟨_, rfl⟩
    have HB : Hid (bestP 3 vs us ps = bst (bst (0, pb) 1 db) 2 tb) := by
      show _ = _
      rw [HPB.out, HDB.out, HTB.out]
      rfl
    have HTF : Hid (∀ W, Below w.heap.size w W → Calls Tryd.prog 41 #[.slice a vs.length c] W fun e w' => e = .returned (.string tb) ∧ Below W.heap.size W w') := fun W hW => by
      rw [HTB.out]
      exact deltaOf_any a vs c W (by omega) (HL.out.keep hW) (fun j h => (HR.out.2 _ (List.getElem_mem h)).2.2.1)
    go_enter Tryd.func14, Tryd.ntmps14
    go_wp2_with fail
    refine (HPF.out w (Below.refl _ _)).mono ?_
    rintro e w1 ⟨rfl, hb1⟩
    go_wp2_with fail
    refine (HDF.out w1 hb1).mono ?_
    rintro e w2 ⟨rfl, hb2⟩
    have hb12 := hb1.trans (hb2.mono hb1.size)
    by_cases h1 : db.size < pb.size
    · go_wp2_with fail
      refine (HTF.out w2 hb12).mono ?_
      rintro e w3 ⟨rfl, hb3⟩
      have hb13 := hb12.trans (hb3.mono hb12.size)
      by_cases h2 : tb.size < db.size
      · go_wp2
        go_ret2
        exact ⟨by rw [HB.out]; simp [bst, h1, h2], hb13⟩
      · go_wp2
        go_ret2
        exact ⟨by rw [HB.out]; simp [bst, h1, h2], hb13⟩
    · go_wp2_with fail
      refine (HTF.out w2 hb12).mono ?_
      rintro e w3 ⟨rfl, hb3⟩
      have hb13 := hb12.trans (hb3.mono hb12.size)
      by_cases h2 : tb.size < pb.size
      · go_wp2
        go_ret2
        exact ⟨by rw [HB.out]; simp [bst, h1, h2], hb13⟩
      · go_wp2
        go_ret2
        exact ⟨by rw [HB.out]; simp [bst, h1, h2], hb13⟩
  · obtain ⟨tb, HTB⟩ : ∃ tb : ByteArray, Hid (tb = ⟨(Um.prefs [] (bys (vtx vs))).toArray⟩) := ⟨_, rfl⟩
    have HB : Hid (bestP 4 vs us ps = bst (bst (0, pb) 1 db) 3 tb) := by
      show _ = _
      rw [HPB.out, HDB.out, HTB.out]
      rfl
    go_enter Tryd.func14, Tryd.ntmps14
    go_wp2_with fail
    refine (HPF.out w (Below.refl _ _)).mono ?_
    rintro e w1 ⟨rfl, hb1⟩
    go_wp2_with fail
    refine (HDF.out w1 hb1).mono ?_
    rintro e w2 ⟨rfl, hb2⟩
    have hb12 := hb1.trans (hb2.mono hb1.size)
    by_cases h1 : db.size < pb.size
    · go_wp2_with fail
      refine (textsOf_any a vs c w2 (by omega) (HL.out.keep hb12)).mono ?_
      rintro e w3 ⟨⟨a3, c3, rfl, hl3⟩, hb3⟩
      have hb23 := hb12.trans (hb3.mono hb12.size)
      have HPX := prefixOf_any a3 (vtx vs) c3 w3 (by rw [vtx_len]; omega) hl3 (fun t ht => by obtain ⟨v, hv, rfl⟩ := List.mem_map.1 ht; exact ok_bytes rfl (HR.out.2 v hv).1)
      rw [vtx_len, show mk (Um.prefs [] (bys (vtx vs))) = tb from HTB.out.symm] at HPX
      clear hl3
      go_wp2_with fail
      refine HPX.mono ?_
      clear HPX
      rintro e w4 ⟨rfl, hb4⟩
      have hb13 := hb23.trans (hb4.mono hb23.size)
      by_cases h2 : tb.size < db.size
      · go_wp2
        go_ret2
        exact ⟨by rw [HB.out]; simp [bst, h1, h2], hb13⟩
      · go_wp2
        go_ret2
        exact ⟨by rw [HB.out]; simp [bst, h1, h2], hb13⟩
    · go_wp2_with fail
      refine (textsOf_any a vs c w2 (by omega) (HL.out.keep hb12)).mono ?_
      rintro e w3 ⟨⟨a3, c3, rfl, hl3⟩, hb3⟩
      have hb23 := hb12.trans (hb3.mono hb12.size)
      have HPX := prefixOf_any a3 (vtx vs) c3 w3 (by rw [vtx_len]; omega) hl3 (fun t ht => by obtain ⟨v, hv, rfl⟩ := List.mem_map.1 ht; exact ok_bytes rfl (HR.out.2 v hv).1)
      rw [vtx_len, show mk (Um.prefs [] (bys (vtx vs))) = tb from HTB.out.symm] at HPX
      clear hl3
      go_wp2_with fail
      refine HPX.mono ?_
      clear HPX
      rintro e w4 ⟨rfl, hb4⟩
      have hb13 := hb23.trans (hb4.mono hb23.size)
      by_cases h2 : tb.size < pb.size
      · go_wp2
        go_ret2
        exact ⟨by rw [HB.out]; simp [bst, h1, h2], hb13⟩
      · go_wp2
        go_ret2
        exact ⟨by rw [HB.out]; simp [bst, h1, h2], hb13⟩
  · have HB : Hid (bestP 5 vs us ps = bst (0, pb) 1 db) := by
      show _ = _
      rw [HPB.out, HDB.out]
      rfl
    go_enter Tryd.func14, Tryd.ntmps14
    go_wp2_with fail
    refine (HPF.out w (Below.refl _ _)).mono ?_
    rintro e w1 ⟨rfl, hb1⟩
    go_wp2_with fail
    refine (HDF.out w1 hb1).mono ?_
    rintro e w2 ⟨rfl, hb2⟩
    have hb12 := hb1.trans (hb2.mono hb1.size)
    by_cases h1 : db.size < pb.size
    · go_wp2
      go_ret2
      exact ⟨by rw [HB.out]; simp [bst, h1], hb12⟩
    · go_wp2
      go_ret2
      exact ⟨by rw [HB.out]; simp [bst, h1], hb12⟩
end Go.Proofs.YtjchkhdmjbojjaaDoor
