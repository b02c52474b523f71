/-
  enc.Best of what is not right: Plain's error.
  The reference's BestOf.
-/
import Derived.Test.YtalphknhkkcpgaaDoorJBestF
import Derived.Test.YtalphknhkkcpgaaDoorJBWordsMath
import Derived.Test.YtalphknhkkcpgaaDoorJPlainOf
namespace Go.Proofs.YtalphknhkkcpgaaDoor
open Go.RowKit
theorem bw_two (w : World) (kd : Int) (v : Value) : (bw w kd v).heap[w.heap.size + 2]? = some (.cells #[.int .i64 0] 3 (0, 0)) := by
  have := heap_alloc_new ((w.alloc (.cells #[.int .i64 kd] 3)).alloc (.cells #[v] 22)) (.cells #[.int .i64 0] 3)
  rw [show ((w.alloc (.cells #[.int .i64 kd] 3)).alloc (.cells #[v] 22)).heap.size = w.heap.size + 2 by simp] at this
  exact blk_alloc this
theorem bw_three (w : World) (kd : Int) (v : Value) : (bw w kd v).heap[w.heap.size + 3]? = some (.cells #[.string ⟨#[]⟩] 9 (0, 0)) := by
  have := heap_alloc_new (((w.alloc (.cells #[.int .i64 kd] 3)).alloc (.cells #[v] 22)).alloc (.cells #[.int .i64 0] 3)) (.cells #[.string ⟨#[]⟩] 9)
  rw [show (((w.alloc (.cells #[.int .i64 kd] 3)).alloc (.cells #[v] 22)).alloc (.cells #[.int .i64 0] 3)).heap.size = w.heap.size + 3 by simp] at this
  exact this
theorem one_ne {w : World} {g p e : Nat} {x y : Value} (h : w.heap[g]? = some (.cells #[x] e (0, 0))) (hp : w.cell? ⟨p, 1, none⟩ = some y) : p ≠ g := by
  rintro rfl
  rw [cell_of_row _ p 1 #[x] e (0, 0) h] at hp
  simp at hp
set_option maxRecDepth 100000 in
set_option maxHeartbeats 1600000 in
/-- Best where Plain answers an error: what two cells elsewhere hold stays. -/
theorem best_err (kd : Int) (a : Option Addr) (n c : Nat) (w : World) (R : Value → World → Prop) (hR : ∀ u W (x : Int) (s : ByteArray), Below (bw w kd (.slice a n c)).heap.size (bw w kd (.slice a n c)) W → R u W → R u (((W.setCell ⟨w.heap.size + 3, 0, none⟩ (.string ⟨#[]⟩)).setCell ⟨w.heap.size + 2, 0, none⟩ (.int .i64 x)).setCell ⟨w.heap.size + 3, 0, none⟩ (.string s)))
    (hP : Calls Tryd.prog 13 #[.int .i64 kd, .slice a n c] (bw w kd (.slice a n c)) fun e w' => (∃ t p, e = .returned (.tuple #[.string ⟨#[]⟩, .iface t p]) ∧ R (.iface t p) w') ∧ Below (bw w kd (.slice a n c)).heap.size (bw w kd (.slice a n c)) w') :
    Calls Tryd.prog 9 #[.int .i64 kd, .slice a n c] w fun e w' => (∃ t p, e = .returned (.tuple #[.int .i64 0, .string ⟨#[]⟩, .iface t p]) ∧ R (.iface t p) w') ∧ Below w.heap.size w w' := by
  have HB0 : Hid _ := bw_BI w kd (.slice a n c)
  have HP : Hid _ := hP
  have HR : Hid _ := hR
  have hk0 := HB0.out.hk
  have hl0 := HB0.out.hl
  unfold bw at hk0 hl0
  clear hP hR
  go_enter Tryd.func9, Tryd.ntmps9
  go_wp2_with fail
  refine Calls.mono HP.out ?_
  clear hk0 hl0
  rintro e w1 ⟨⟨t, p, rfl, hr⟩, hb1⟩
  have HRr : Hid _ := hr
  have HI1 : Hid _ := HB0.out.keep hb1
  have hs1 := HI1.out.hs
  have fs1 := HI1.out.fs
  have hc1 := HI1.out.hc
  have fc1 := HI1.out.fc
  have HI2 : Hid _ := (HI1.out.puts ⟨#[]⟩).put 0 ⟨#[]⟩
  have HR2 : Hid _ := HR.out _ w1 0 ⟨#[]⟩ hb1 HRr.out
  clear hr
  go_wp2
  (try simp only [Exit.inBlock, Exit.then])
  refine bodyPost_ret (results_cct rfl _ _ ⟨w.heap.size + 2, 0, none⟩ ⟨w.heap.size + 3, 0, none⟩ (.int .i64 0) (.string ⟨#[]⟩) rfl rfl (loadI HI2.out.hc) (loadS HI2.out.hs)) rfl ?_
  exact ⟨⟨t, p, rfl, HR2.out⟩, HI2.out.old⟩
theorem best_kind (a : Option Addr) (n c : Nat) (kd : Int) (w : World) (kt : TypeId) (kp : Value) (hn : n ≤ 20000) (hgk : w.cell? ⟨2, 0, none⟩ = some (.iface kt kp)) (hk : ¬ (1 ≤ kd ∧ kd ≤ 5)) :
    Calls Tryd.prog 9 #[.int .i64 kd, .slice a n c] w fun e w' => e = .returned (.tuple #[.int .i64 0, .string ⟨#[]⟩, .iface kt kp]) ∧ Below w.heap.size w w' := by
  refine (best_err kd a n c w (fun u _ => u = .iface kt kp) (fun _ _ _ _ _ h => h) ?_).mono ?_
  · refine (plain_kind a n c kd _ kt kp hn (ck' hgk (bw_below w kd _)) hk).mono ?_
    rintro e w1 ⟨rfl, rfl⟩
    exact ⟨⟨_, _, rfl, rfl⟩, Below.refl _ _⟩
  · rintro e w1 ⟨⟨t, p, rfl, h⟩, hb⟩
    injection h with h1 h2
    subst h1 h2
    exact ⟨rfl, hb⟩
theorem best_fault (a : Option Addr) (vs : List Vl) (c : Nat) (kd : Int) (w : World) (kt : TypeId) (kp : Value) (hgk : w.cell? ⟨2, 0, none⟩ = some (.iface kt kp)) (hn : vs.length ≤ 20000) (hk : 1 ≤ kd) (hk5 : kd ≤ 5) (hl : LiesV w a vs) (i : Nat) (hi : i < vs.length) (hbad : ¬ vs[i].Ok kd) (hfirst : ∀ j (h : j < vs.length), j < i → vs[j].Ok kd) :
    Calls Tryd.prog 9 #[.int .i64 kd, .slice a vs.length c] w fun e w' => (∃ p, e = .returned (.tuple #[.int .i64 0, .string ⟨#[]⟩, .iface 89 (.pointer (some ⟨p, 0, none⟩))]) ∧ w'.cell? ⟨p, 0, none⟩ = some (.int .i64 i) ∧ w'.cell? ⟨p, 1, none⟩ = some (.iface kt kp)) ∧ Below w.heap.size w w' := by
  refine (best_err kd a vs.length c w (fun u W => ∃ p, u = .iface 89 (.pointer (some ⟨p, 0, none⟩)) ∧ W.cell? ⟨p, 0, none⟩ = some (.int .i64 i) ∧ W.cell? ⟨p, 1, none⟩ = some (.iface kt kp)) ?_ ?_).mono ?_
  · rintro u W x s hb ⟨p, rfl, h0, h1⟩
    have n2 : p ≠ w.heap.size + 2 := one_ne (blk_keep hb (bw_two w kd (.slice a vs.length c))) h1
    have n3 : p ≠ w.heap.size + 3 := one_ne (blk_keep hb (bw_three w kd (.slice a vs.length c))) h1
    have ne : ∀ (W : World) (x j o : Nat) (u : Value), j ≠ x → (W.setCell ⟨x, 0, none⟩ u).cell? ⟨j, o, none⟩ = W.cell? ⟨j, o, none⟩ := fun W x j o u hj =>
      World.cell?_setCell_other _ _ _ _ (fun e => hj (by injection e with e _; exact e.symm))
    refine ⟨p, rfl, ?_, ?_⟩
    · rw [ne _ _ _ _ _ n3, ne _ _ _ _ _ n2, ne _ _ _ _ _ n3]; exact h0
    · rw [ne _ _ _ _ _ n3, ne _ _ _ _ _ n2, ne _ _ _ _ _ n3]; exact h1
  · refine (plain_fault a vs c kd _ kt kp (ck' hgk (bw_below w kd _)) hn hk hk5 (hl.keep (bw_below w kd _)) i hi hbad hfirst).mono ?_
    rintro e w1 ⟨⟨p, rfl, h0, h1⟩, hb⟩
    exact ⟨⟨_, _, rfl, p, rfl, h0, h1⟩, hb⟩
  · rintro e w1 ⟨⟨t, q, rfl, p, h, h0, h1⟩, hb⟩
    injection h with h2 h3
    subst h2 h3
    exact ⟨⟨p, rfl, h0, h1⟩, hb⟩
end Go.Proofs.YtalphknhkkcpgaaDoor

namespace Go.Proofs.YtalphknhkkcpgaaDoor
open Go.RowKit
set_option maxRecDepth 100000 in
set_option maxHeartbeats 3200000 in
theorem bestOf_any (a : Option Addr) (vs : List Vl) (c : Nat) (kd : Int) (w : World) (hn : vs.length ≤ 300) (hl : LiesV w a vs) (hr : Right kd vs) (us : List Vl) (ps : List Nat) (hu : Uq vs us ps) :
    Calls Tryd.prog 12 #[.int .i64 kd, .slice a vs.length c] w fun e w' => e = .returned (.tuple #[.int .i64 (bestP kd vs us ps).1, .string (bestP kd vs us ps).2]) ∧ Below w.heap.size w w' := by
  have HL : Hid (LiesV w a vs) := hl
  have HR : Hid (Right kd vs) := hr
  obtain ⟨pb, HPB⟩ : ∃ pb : ByteArray, Hid (pb = ⟨(plainB kd vs).toArray⟩) := ⟨_, rfl⟩
  obtain ⟨db, HDB⟩ : ∃ db : ByteArray, Hid (db = ⟨(dictB kd us ps).toArray⟩) := ⟨_, rfl⟩
  have HPF : Hid (∀ W, Below w.heap.size w W → Calls Tryd.prog 30 #[.int .i64 kd, .slice a vs.length c] W fun e w' => e = .returned (.string pb) ∧ Below W.heap.size W w') := fun W hW => by
    rw [HPB.out]
    exact plainOf_any a vs c kd W (by omega) (hl.keep hW) hr
  have HDF : Hid (∀ W, Below w.heap.size w W → Calls Tryd.prog 31 #[.int .i64 kd, .slice a vs.length c] W fun e w' => e = .returned (.string db) ∧ Below W.heap.size W w') := fun W hW => by
    rw [HDB.out]
    exact dictOf_any a vs c kd W hn (hl.keep hW) hr us ps hu
  clear hl hr hu
  have hcs : kd = 1 ∨ kd = 2 ∨ kd = 3 ∨ kd = 4 ∨ kd = 5 := by have := HR.out.1; omega
  rcases hcs with rfl | rfl | rfl | rfl | rfl
  · have HB : Hid (bestP 1 vs us ps = bst (0, pb) 1 db) := by
      show _ = _
      rw [HPB.out, HDB.out]
      rfl
    go_enter Tryd.func12, Tryd.ntmps12
    go_wp2_with fail
    refine (HPF.out w (Below.refl _ _)).mono ?_
    rintro e w1 ⟨rfl, hb1⟩
    go_wp2_with fail
    refine (HDF.out w1 hb1).mono ?_
    rintro e w2 ⟨rfl, hb2⟩
    have hb12 := hb1.trans (hb2.mono hb1.size)
    by_cases h1 : db.size < pb.size
    · go_wp2
      go_ret2
      exact ⟨by rw [HB.out]; simp [bst, h1], hb12⟩
    · go_wp2
      go_ret2
      exact ⟨by rw [HB.out]; simp [bst, h1], hb12⟩
  · obtain ⟨tb, HTB⟩ : ∃ tb : ByteArray, Hid (tb = ⟨(deltaB vs).toArray⟩) := ⟨_, rfl⟩
    have HB : Hid (bestP 2 vs us ps = bst (bst (0, pb) 1 db) 2 tb) := by
      show _ = _
      rw [HPB.out, HDB.out, HTB.out]
      rfl
    have HTF : Hid (∀ W, Below w.heap.size w W → Calls Tryd.prog 32 #[.slice a vs.length c] W fun e w' => e = .returned (.string tb) ∧ Below W.heap.size W w') := fun W hW => by
      rw [HTB.out]
      exact deltaOf_any a vs c W (by omega) (HL.out.keep hW) (fun j h => (HR.out.2 _ (List.getElem_mem h)).2.2.1)
    go_enter Tryd.func12, Tryd.ntmps12
    go_wp2_with fail
    refine (HPF.out w (Below.refl _ _)).mono ?_
    rintro e w1 ⟨rfl, hb1⟩
    go_wp2_with fail
    refine (HDF.out w1 hb1).mono ?_
    rintro e w2 ⟨rfl, hb2⟩
    have hb12 := hb1.trans (hb2.mono hb1.size)
    by_cases h1 : db.size < pb.size
    · go_wp2_with fail
      refine (HTF.out w2 hb12).mono ?_
      rintro e w3 ⟨rfl, hb3⟩
      have hb13 := hb12.trans (hb3.mono hb12.size)
      by_cases h2 : tb.size < db.size
      · go_wp2
        go_ret2
        exact ⟨by rw [HB.out]; simp [bst, h1, h2], hb13⟩
      · go_wp2
        go_ret2
        exact ⟨by rw [HB.out]; simp [bst, h1, h2], hb13⟩
    · go_wp2_with fail
      refine (HTF.out w2 hb12).mono ?_
      rintro e w3 ⟨rfl, hb3⟩
      have hb13 := hb12.trans (hb3.mono hb12.size)
      by_cases h2 : tb.size < pb.size
      · go_wp2
        go_ret2
        exact ⟨by rw [HB.out]; simp [bst, h1, h2], hb13⟩
      · go_wp2
        go_ret2
        exact ⟨by rw [HB.out]; simp [bst, h1, h2], hb13⟩
  · obtain ⟨tb, HTB⟩ : ∃ tb : ByteArray, Hid (tb = ⟨(deltaB vs).toArray⟩) := ⟨_, rfl⟩
    have HB : Hid (bestP 3 vs us ps = bst (bst (0, pb) 1 db) 2 tb) := by
      show _ = _
      rw [HPB.out, HDB.out, HTB.out]
      rfl
    have HTF : Hid (∀ W, Below w.heap.size w W → Calls Tryd.prog 32 #[.slice a vs.length c] W fun e w' => e = .returned (.string tb) ∧ Below W.heap.size W w') := fun W hW => by
      rw [HTB.out]
      exact deltaOf_any a vs c W (by omega) (HL.out.keep hW) (fun j h => (HR.out.2 _ (List.getElem_mem h)).2.2.1)
    go_enter Tryd.func12, Tryd.ntmps12
    go_wp2_with fail
    refine (HPF.out w (Below.refl _ _)).mono ?_
    rintro e w1 ⟨rfl, hb1⟩
    go_wp2_with fail
    refine (HDF.out w1 hb1).mono ?_
    rintro e w2 ⟨rfl, hb2⟩
    have hb12 := hb1.trans (hb2.mono hb1.size)
    by_cases h1 : db.size < pb.size
    · go_wp2_with fail
      refine (HTF.out w2 hb12).mono ?_
      rintro e w3 ⟨rfl, hb3⟩
      have hb13 := hb12.trans (hb3.mono hb12.size)
      by_cases h2 : tb.size < db.size
      · go_wp2
        go_ret2
        exact ⟨by rw [HB.out]; simp [bst, h1, h2], hb13⟩
      · go_wp2
        go_ret2
        exact ⟨by rw [HB.out]; simp [bst, h1, h2], hb13⟩
    · go_wp2_with fail
      refine (HTF.out w2 hb12).mono ?_
      rintro e w3 ⟨rfl, hb3⟩
      have hb13 := hb12.trans (hb3.mono hb12.size)
      by_cases h2 : tb.size < pb.size
      · go_wp2
        go_ret2
        exact ⟨by rw [HB.out]; simp [bst, h1, h2], hb13⟩
      · go_wp2
        go_ret2
        exact ⟨by rw [HB.out]; simp [bst, h1, h2], hb13⟩
  · obtain ⟨tb, HTB⟩ : ∃ tb : ByteArray, Hid (tb = ⟨(Um.prefs [] (bys (vtx vs))).toArray⟩) := ⟨_, rfl⟩
    have HB : Hid (bestP 4 vs us ps = bst (bst (0, pb) 1 db) 3 tb) := by
      show _ = _
      rw [HPB.out, HDB.out, HTB.out]
      rfl
    go_enter Tryd.func12, Tryd.ntmps12
    go_wp2_with fail
    refine (HPF.out w (Below.refl _ _)).mono ?_
    rintro e w1 ⟨rfl, hb1⟩
    go_wp2_with fail
    refine (HDF.out w1 hb1).mono ?_
    rintro e w2 ⟨rfl, hb2⟩
    have hb12 := hb1.trans (hb2.mono hb1.size)
    by_cases h1 : db.size < pb.size
    · go_wp2_with fail
      refine (textsOf_any a vs c w2 (by omega) (HL.out.keep hb12)).mono ?_
      rintro e w3 ⟨⟨a3, c3, rfl, hl3⟩, hb3⟩
      have hb23 := hb12.trans (hb3.mono hb12.size)
      have HPX := prefixOf_any a3 (vtx vs) c3 w3 (by rw [vtx_len]; omega) hl3 (fun t ht => by obtain ⟨v, hv, rfl⟩ := List.mem_map.1 ht; exact ok_bytes rfl (HR.out.2 v hv).1)
      rw [vtx_len, show mk (Um.prefs [] (bys (vtx vs))) = tb from HTB.out.symm] at HPX
      clear hl3
      go_wp2_with fail
      refine HPX.mono ?_
      clear HPX
      rintro e w4 ⟨rfl, hb4⟩
      have hb13 := hb23.trans (hb4.mono hb23.size)
      by_cases h2 : tb.size < db.size
      · go_wp2
        go_ret2
        exact ⟨by rw [HB.out]; simp [bst, h1, h2], hb13⟩
      · go_wp2
        go_ret2
        exact ⟨by rw [HB.out]; simp [bst, h1, h2], hb13⟩
    · go_wp2_with fail
      refine (textsOf_any a vs c w2 (by omega) (HL.out.keep hb12)).mono ?_
      rintro e w3 ⟨⟨a3, c3, rfl, hl3⟩, hb3⟩
      have hb23 := hb12.trans (hb3.mono hb12.size)
      have HPX := prefixOf_any a3 (vtx vs) c3 w3 (by rw [vtx_len]; omega) hl3 (fun t ht => by obtain ⟨v, hv, rfl⟩ := List.mem_map.1 ht; exact ok_bytes rfl (HR.out.2 v hv).1)
      rw [vtx_len, show mk (Um.prefs [] (bys (vtx vs))) = tb from HTB.out.symm] at HPX
      clear hl3
      go_wp2_with fail
      refine HPX.mono ?_
      clear HPX
      rintro e w4 ⟨rfl, hb4⟩
      have hb13 := hb23.trans (hb4.mono hb23.size)
      by_cases h2 : tb.size < pb.size
      · go_wp2
        go_ret2
        exact ⟨by rw [HB.out]; simp [bst, h1, h2], hb13⟩
      · go_wp2
        go_ret2
        exact ⟨by rw [HB.out]; simp [bst, h1, h2], hb13⟩
  · have HB : Hid (bestP 5 vs us ps = bst (0, pb) 1 db) := by
      show _ = _
      rw [HPB.out, HDB.out]
      rfl
    go_enter Tryd.func12, Tryd.ntmps12
    go_wp2_with fail
    refine (HPF.out w (Below.refl _ _)).mono ?_
    rintro e w1 ⟨rfl, hb1⟩
    go_wp2_with fail
    refine (HDF.out w1 hb1).mono ?_
    rintro e w2 ⟨rfl, hb2⟩
    have hb12 := hb1.trans (hb2.mono hb1.size)
    by_cases h1 : db.size < pb.size
    · go_wp2
      go_ret2
      exact ⟨by rw [HB.out]; simp [bst, h1], hb12⟩
    · go_wp2
      go_ret2
      exact ⟨by rw [HB.out]; simp [bst, h1], hb12⟩
end Go.Proofs.YtalphknhkkcpgaaDoor
