/-
  enc.Best of right values, and of those that are not.
  enc.Best of what is not right: Plain's error.
-/
import Derived.Test.YtjchkhdmjbojjaaDoorKBest
import Derived.Test.YtjchkhdmjbojjaaDoorKBWordsMath
namespace Go.Proofs.YtjchkhdmjbojjaaDoor
open Go.RowKit
theorem hasPrefix_any (kd : Int) (w : World) : Calls Tryd.prog 39 #[.int .i64 kd] w fun e w' => e = .returned (.bool (decide (kd = 4))) ∧ w' = w := by
  by_cases h4 : kd = 4
  · subst h4
    go_enter Tryd.func39, Tryd.ntmps39
    go_wp2
    go_ret
    exact ⟨rfl, rfl⟩
  · have e : decide (kd = 4) = false := by simp [h4]
    have e2 : (kd == 4) = false := by simp [h4]
    rw [e]
    go_enter Tryd.func39, Tryd.ntmps39
    go_wp2
    go_ret
    exact ⟨rfl, rfl⟩
theorem ok_bytes {kd : Int} {v : Vl} (h4 : kd = 4) (h : v.Ok kd) : v.s.size ≤ 100 := by
  subst h4
  unfold Vl.Ok OkV at h
  omega
theorem loadI {W : World} {g : Nat} {v : Value} (h : W.cell? ⟨g, 0, none⟩ = some v) : (loadVar 3 ⟨g, 0, none⟩).run Tryd.prog W = .ok v W := by go_simp
theorem loadS {W : World} {g : Nat} {v : Value} (h : W.cell? ⟨g, 0, none⟩ = some v) : (loadVar 9 ⟨g, 0, none⟩).run Tryd.prog W = .ok v W := by go_simp
theorem results_cct {P : Program} {fn : Func} {p q u : Tmp} {t1 t2 : TypeId} (h : fn.results = #[.cell p t1, .cell q t2, .tmp u]) (tmps : Array Value) (w : World) (a b : Addr) (x y : Value)
    (hp : tmps.getD p undef = .pointer (some a)) (hq : tmps.getD q undef = .pointer (some b)) (hx : (loadVar t1 a).run P w = .ok x w) (hy : (loadVar t2 b).run P w = .ok y w) :
    (results fn tmps).run P w = .ok (.tuple #[x, y, tmps.getD u undef]) w := by
  have hp' : tmps[p]?.getD undef = .pointer (some a) := by simpa using hp
  have hq' : tmps[q]?.getD undef = .pointer (some b) := by simpa using hq
  simp [results, h, hp', hq', asAddr, Sem.run_bind, Result.andThen, hx, hy]
set_option maxRecDepth 100000 in
set_option maxHeartbeats 3200000 in
/-- Best of right values. -/
theorem best_right (a : Option Addr) (vs : List Vl) (c : Nat) (kd : Int) (w : World) (kt st bt : TypeId) (kp sp bp : Value) (hgk : w.cell? ⟨2, 0, none⟩ = some (.iface kt kp)) (hgs : w.cell? ⟨1, 0, none⟩ = some (.iface st sp)) (hgb : w.cell? ⟨3, 0, none⟩ = some (.iface bt bp)) (hn : vs.length ≤ 300) (hl : LiesV w a vs) (hr : Right kd vs) (us : List Vl) (ps : List Nat) (hu : Uq vs us ps) :
    Calls Tryd.prog 13 #[.int .i64 kd, .slice a vs.length c] w fun e w' => e = .returned (.tuple #[.int .i64 (bestP kd vs us ps).1, .string (bestP kd vs us ps).2, .nilIface]) ∧ Below w.heap.size w w' := by
  have HGK : Hid _ := hgk
  have HGS : Hid _ := hgs
  have HGB : Hid _ := hgb
  have HL : Hid (LiesV w a vs) := hl
  have HR : Hid (Right kd vs) := hr
  have HU : Hid (Uq vs us ps) := hu
  clear hgk hgs hgb hl hr hu
  have hbw := bw_below w kd (.slice a vs.length c)
  have HP0 := plain_right a vs c kd (bw w kd (.slice a vs.length c)) kt st kp sp (ck' HGK.out hbw) (ck' HGS.out hbw) (by omega) HR.out.1.1 HR.out.1.2 (HL.out.keep hbw) (fun j h => (HR.out.2 _ (List.getElem_mem h)).1) (fun j h => (HR.out.2 _ (List.getElem_mem h)).2.2.1)
  have HB0 : Hid _ := bw_BI w kd (.slice a vs.length c)
  have hmf : ∀ (fn : Fn) (first cap : Array Value) (W : World), (Instr.makeFunc fn first cap).run Tryd.prog W = .ok (.func fn first cap) W := fun _ _ _ _ => rfl
  have hk0 := HB0.out.hk
  have hl0 := HB0.out.hl
  unfold bw at hk0 hl0
  obtain ⟨pb, HPB⟩ : ∃ pb : ByteArray, Hid (pb = ⟨(plainB kd vs).toArray⟩) := ⟨_, rfl⟩
  obtain ⟨db, HDB⟩ : ∃ db : ByteArray, Hid (db = ⟨(dictB kd us ps).toArray⟩) := ⟨_, rfl⟩
  rw [← HPB.out] at HP0
  have HDF : Hid (∀ W, Below w.heap.size w W → Calls Tryd.prog 9 #[.int .i64 kd, .slice a vs.length c] W fun e w' => e = .returned (.tuple #[.string db, .nilIface]) ∧ Below W.heap.size W w') := fun W hW => by
    rw [HDB.out]
    exact dict_right a vs c kd W kt st kp sp (ck' HGK.out hW) (ck' HGS.out hW) hn (HL.out.keep hW) HR.out us ps HU.out
  go_enter Tryd.func13, Tryd.ntmps13
  go_wp2_with fail
  refine HP0.mono ?_
  clear HP0 hk0 hl0
  rintro e w1 ⟨rfl, hb1⟩
  have HI1 : Hid _ := HB0.out.keep hb1
  have hs1 := HI1.out.hs
  have fs1 := HI1.out.fs
  have HI2 : Hid _ := HI1.out.puts pb
  clear HB0
  go_wp2_with fail
  refine (best1_dict w kd _ _ 0 1 pb db HI2.out (HDF.out _ HI2.out.old)).mono ?_
  rintro e w2 ⟨rfl, hI3⟩
  obtain ⟨cd, HC⟩ : ∃ cd : Int, Hid (cd = if db.size < pb.size then 1 else 0) := ⟨_, rfl⟩
  obtain ⟨sb, HSb⟩ : ∃ sb : ByteArray, Hid (sb = if db.size < pb.size then db else pb) := ⟨_, rfl⟩
  rw [← HC.out, ← HSb.out] at hI3
  have hk3 := hI3.hk
  have HI3 : Hid _ := hI3
  clear hI3 hs1 fs1
  by_cases hd : kd = 2 ∨ kd = 3
  · have hdd : decide (kd = 2 ∨ kd = 3) = true := by simp [hd]
    have hpp : decide (kd = 4) = false := by simp; omega
    obtain ⟨tb, HTB⟩ : ∃ tb : ByteArray, Hid (tb = ⟨(deltaB vs).toArray⟩) := ⟨_, rfl⟩
    have HB : Hid (bestP kd vs us ps = (if tb.size < sb.size then 2 else cd, if tb.size < sb.size then tb else sb)) := by
      show _ = _
      unfold bestP
      rw [if_pos hd, ← HPB.out, ← HDB.out, ← HTB.out, HC.out, HSb.out]
      rfl
    have hF := delta_right a vs c kd w2 kt kp (ck' HGK.out HI3.out.old) (by omega) hd (HL.out.keep HI3.out.old) (fun j h => (HR.out.2 _ (List.getElem_mem h)).1) (fun j h => (HR.out.2 _ (List.getElem_mem h)).2.2.1)
    rw [← HTB.out] at hF
    have HF : Hid _ := hF
    clear hF hd
    go_wp2_with fail
    refine (hasDelta_any kd _).mono ?_
    rw [hdd]
    rintro e w3 ⟨rfl, hw⟩
    obtain rfl := hw.symm
    clear hk3
    go_wp2_with fail
    refine (best1_delta w kd _ w2 cd 2 sb tb HI3.out HF.out).mono ?_
    rintro e w4 ⟨rfl, hI4⟩
    generalize (if tb.size < sb.size then (2 : Int) else cd) = c4 at hI4 HB
    generalize (if tb.size < sb.size then tb else sb) = s4 at hI4 HB
    have hk4 := hI4.hk
    have HI4 : Hid _ := hI4
    clear hI4
    go_wp2_with fail
    refine (hasPrefix_any kd _).mono ?_
    rw [hpp]
    rintro e w5 ⟨rfl, hw⟩
    obtain rfl := hw.symm
    have hc9 := HI4.out.hc
    have hs9 := HI4.out.hs
    have fc9 := HI4.out.fc
    have fs9 := HI4.out.fs
    clear hk4
    go_wp2
    go_region
    all_goals (try go_wp2)
    all_goals
      (try simp only [Exit.inBlock, Exit.then])
      refine bodyPost_ret (results_cct rfl _ _ ⟨w.heap.size + 2, 0, none⟩ ⟨w.heap.size + 3, 0, none⟩ (.int .i64 c4) (.string s4) rfl rfl (loadI (HI4.out.put c4 s4).hc) (loadS (HI4.out.put c4 s4).hs)) rfl ?_
      exact ⟨by rw [HB.out]; rfl, (HI4.out.put c4 s4).old.drew⟩
  · have hdd : decide (kd = 2 ∨ kd = 3) = false := by simp only [decide_eq_false_iff_not]; exact hd
    by_cases h4 : kd = 4
    · have hpp : decide (kd = 4) = true := by simp [h4]
      obtain ⟨tb, HTB⟩ : ∃ tb : ByteArray, Hid (tb = ⟨(Um.prefs [] (bys (vtx vs))).toArray⟩) := ⟨_, rfl⟩
      have HB : Hid (bestP kd vs us ps = (if tb.size < sb.size then 3 else cd, if tb.size < sb.size then tb else sb)) := by
        show _ = _
        unfold bestP
        rw [if_neg hd, if_pos h4, ← HPB.out, ← HDB.out, ← HTB.out, HC.out, HSb.out]
        rfl
      have hF := prefixValues_any a vs c kd w2 (.iface bt bp) (ck' HGB.out HI3.out.old) (by omega) (HL.out.keep HI3.out.old) (fun v hv => ok_bytes h4 (HR.out.2 v hv).1)
      rw [← HTB.out] at hF
      have HF : Hid _ := hF
      clear hF hd h4
      go_wp2_with fail
      refine (hasDelta_any kd _).mono ?_
      rw [hdd]
      rintro e w3 ⟨rfl, hw⟩
      obtain rfl := hw.symm
      go_wp2_with fail
      refine (hasPrefix_any kd _).mono ?_
      rw [hpp]
      rintro e w5 ⟨rfl, hw⟩
      obtain rfl := hw.symm
      clear hk3
      go_wp2_with fail
      refine (best1_prefix w kd _ w2 cd 3 sb tb HI3.out HF.out).mono ?_
      rintro e w4 ⟨rfl, hI4⟩
      generalize (if tb.size < sb.size then (3 : Int) else cd) = c4 at hI4 HB
      generalize (if tb.size < sb.size then tb else sb) = s4 at hI4 HB
      have HI4 : Hid _ := hI4
      clear hI4
      have hc9 := HI4.out.hc
      have hs9 := HI4.out.hs
      have fc9 := HI4.out.fc
      have fs9 := HI4.out.fs
      go_wp2
      go_region
      all_goals (try go_wp2)
      all_goals
        (try simp only [Exit.inBlock, Exit.then])
        refine bodyPost_ret (results_cct rfl _ _ ⟨w.heap.size + 2, 0, none⟩ ⟨w.heap.size + 3, 0, none⟩ (.int .i64 c4) (.string s4) rfl rfl (loadI (HI4.out.put c4 s4).hc) (loadS (HI4.out.put c4 s4).hs)) rfl ?_
        exact ⟨by rw [HB.out]; rfl, (HI4.out.put c4 s4).old.drew⟩
    · have hpp : decide (kd = 4) = false := by simp [h4]
      have HB : Hid (bestP kd vs us ps = (cd, sb)) := by
        show _ = _
        unfold bestP
        rw [if_neg hd, if_neg h4, ← HPB.out, ← HDB.out, HC.out, HSb.out]
        rfl
      clear hd h4
      go_wp2_with fail
      refine (hasDelta_any kd _).mono ?_
      rw [hdd]
      rintro e w3 ⟨rfl, hw⟩
      obtain rfl := hw.symm
      go_wp2_with fail
      refine (hasPrefix_any kd _).mono ?_
      rw [hpp]
      rintro e w5 ⟨rfl, hw⟩
      obtain rfl := hw.symm
      clear hk3
      have hc9 := HI3.out.hc
      have hs9 := HI3.out.hs
      have fc9 := HI3.out.fc
      have fs9 := HI3.out.fs
      go_wp2
      go_region
      all_goals (try go_wp2)
      all_goals
        (try simp only [Exit.inBlock, Exit.then])
        refine bodyPost_ret (results_cct rfl _ _ ⟨w.heap.size + 2, 0, none⟩ ⟨w.heap.size + 3, 0, none⟩ (.int .i64 cd) (.string sb) rfl rfl (loadI (HI3.out.put cd sb).hc) (loadS (HI3.out.put cd sb).hs)) rfl ?_
        exact ⟨by rw [HB.out]; rfl, (HI3.out.put cd sb).old.drew⟩
end Go.Proofs.YtjchkhdmjbojjaaDoor

namespace Go.Proofs.YtjchkhdmjbojjaaDoor
open Go.RowKit
theorem bw_two (w : World) (kd : Int) (v : Value) : (bw w kd v).heap[w.heap.size + 2]? = some (.cells #[.int .i64 0] 3 (0, 0)) := by
  have := heap_alloc_new ((w.alloc (.cells #[.int .i64 kd] 3)).alloc (.cells #[v] 22)) (.cells #[.int .i64 0] 3)
  rw [show ((w.alloc (.cells #[.int .i64 kd] 3)).alloc (.cells #[v] 22)).heap.size = w.heap.size + 2 by simp] at this
  exact blk_alloc this
theorem bw_three (w : World) (kd : Int) (v : Value) : (bw w kd v).heap[w.heap.size + 3]? = some (.cells #[.string ⟨#[]⟩] 9 (0, 0)) := by
  have := heap_alloc_new (((w.alloc (.cells #[.int .i64 kd] 3)).alloc (.cells #[v] 22)).alloc (.cells #[.int .i64 0] 3)) (.cells #[.string ⟨#[]⟩] 9)
  rw [show (((w.alloc (.cells #[.int .i64 kd] 3)).alloc (.cells #[v] 22)).alloc (.cells #[.int .i64 0] 3)).heap.size = w.heap.size + 3 by simp] at this
  exact this
theorem one_ne {w : World} {g p e : Nat} {x y : Value} (h : w.heap[g]? = some (.cells #[x] e (0, 0))) (hp : w.cell? ⟨p, 1, none⟩ = some y) : p ≠ g := by
  rintro rfl
  rw [cell_of_row _ p 1 #[x] e (0, 0) h] at hp
  simp at hp
set_option maxRecDepth 100000 in
set_option maxHeartbeats 1600000 in
/-- Best where Plain answers an error: what two cells elsewhere hold stays. -/
theorem best_err (kd : Int) (a : Option Addr) (n c : Nat) (w : World) (R : Value → World → Prop) (hR : ∀ u W (x : Int) (s : ByteArray), Below (bw w kd (.slice a n c)).heap.size (bw w kd (.slice a n c)) W → R u W → R u (((W.setCell ⟨w.heap.size + 3, 0, none⟩ (.string ⟨#[]⟩)).setCell ⟨w.heap.size + 2, 0, none⟩ (.int .i64 x)).setCell ⟨w.heap.size + 3, 0, none⟩ (.string s)))
    (hP : Calls Tryd.prog 15 #[.int .i64 kd, .slice a n c] (bw w kd (.slice a n c)) fun e w' => (∃ t p, e = .returned (.tuple #[.string ⟨#[]⟩, .iface t p]) ∧ R (.iface t p) w') ∧ Below (bw w kd (.slice a n c)).heap.size (bw w kd (.slice a n c)) w') :
    Calls Tryd.prog 13 #[.int .i64 kd, .slice a n c] w fun e w' => (∃ t p, e = .returned (.tuple #[.int .i64 0, .string ⟨#[]⟩, .iface t p]) ∧ R (.iface t p) w') ∧ Below w.heap.size w w' := by
  have HB0 : Hid _ := bw_BI w kd (.slice a n c)
  have HP : Hid _ := hP
  have HR : Hid _ := hR
  have hk0 := HB0.out.hk
  have hl0 := HB0.out.hl
  unfold bw at hk0 hl0
  clear hP hR
  go_enter Tryd.func13, Tryd.ntmps13
  go_wp2_with fail
  refine Calls.mono HP.out ?_
  clear hk0 hl0
  rintro e w1 ⟨⟨t, p, rfl, hr⟩, hb1⟩
  have HRr : Hid _ := hr
  have HI1 : Hid _ := HB0.out.keep hb1
  have hs1 := HI1.out.hs
  have fs1 := HI1.out.fs
  have hc1 := HI1.out.hc
  have fc1 := HI1.out.fc
  have HI2 : Hid _ := (HI1.out.puts ⟨#[]⟩).put 0 ⟨#[]⟩
  have HR2 : Hid _ := HR.out _ w1 0 ⟨#[]⟩ hb1 HRr.out
  clear hr
  go_wp2
  (try simp only [Exit.inBlock, Exit.then])
  refine bodyPost_ret (results_cct rfl _ _ ⟨w.heap.size + 2, 0, none⟩ ⟨w.heap.size + 3, 0, none⟩ (.int .i64 0) (.string ⟨#[]⟩) rfl rfl (loadI HI2.out.hc) (loadS HI2.out.hs)) rfl ?_
  exact ⟨⟨t, p, rfl, HR2.out⟩, HI2.out.old⟩
theorem best_kind (a : Option Addr) (n c : Nat) (kd : Int) (w : World) (kt : TypeId) (kp : Value) (hn : n ≤ 20000) (hgk : w.cell? ⟨2, 0, none⟩ = some (.iface kt kp)) (hk : ¬ (1 ≤ kd ∧ kd ≤ 5)) :
    Calls Tryd.prog 13 #[.int .i64 kd, .slice a n c] w fun e w' => e = .returned (.tuple #[.int .i64 0, .string ⟨#[]⟩, .iface kt kp]) ∧ Below w.heap.size w w' := by
  refine (best_err kd a n c w (fun u _ => u = .iface kt kp) (fun _ _ _ _ _ h => h) ?_).mono ?_
  · refine (plain_kind a n c kd _ kt kp hn (ck' hgk (bw_below w kd _)) hk).mono ?_
    rintro e w1 ⟨rfl, rfl⟩
    exact ⟨⟨_, _, rfl, rfl⟩, Below.refl _ _⟩
  · rintro e w1 ⟨⟨t, p, rfl, h⟩, hb⟩
    injection h with h1 h2
    subst h1 h2
    exact ⟨rfl, hb⟩
theorem best_fault (a : Option Addr) (vs : List Vl) (c : Nat) (kd : Int) (w : World) (kt : TypeId) (kp : Value) (hgk : w.cell? ⟨2, 0, none⟩ = some (.iface kt kp)) (hn : vs.length ≤ 20000) (hk : 1 ≤ kd) (hk5 : kd ≤ 5) (hl : LiesV w a vs) (i : Nat) (hi : i < vs.length) (hbad : ¬ vs[i].Ok kd) (hfirst : ∀ j (h : j < vs.length), j < i → vs[j].Ok kd) :
    Calls Tryd.prog 13 #[.int .i64 kd, .slice a vs.length c] w fun e w' => (∃ p, e = .returned (.tuple #[.int .i64 0, .string ⟨#[]⟩, .iface 84 (.pointer (some ⟨p, 0, none⟩))]) ∧ w'.cell? ⟨p, 0, none⟩ = some (.int .i64 i) ∧ w'.cell? ⟨p, 1, none⟩ = some (.iface kt kp)) ∧ Below w.heap.size w w' := by
  refine (best_err kd a vs.length c w (fun u W => ∃ p, u = .iface 84 (.pointer (some ⟨p, 0, none⟩)) ∧ W.cell? ⟨p, 0, none⟩ = some (.int .i64 i) ∧ W.cell? ⟨p, 1, none⟩ = some (.iface kt kp)) ?_ ?_).mono ?_
  · rintro u W x s hb ⟨p, rfl, h0, h1⟩
    have n2 : p ≠ w.heap.size + 2 := one_ne (blk_keep hb (bw_two w kd (.slice a vs.length c))) h1
    have n3 : p ≠ w.heap.size + 3 := one_ne (blk_keep hb (bw_three w kd (.slice a vs.length c))) h1
    have ne : ∀ (W : World) (x j o : Nat) (u : Value), j ≠ x → (W.setCell ⟨x, 0, none⟩ u).cell? ⟨j, o, none⟩ = W.cell? ⟨j, o, none⟩ := fun W x j o u hj =>
      World.cell?_setCell_other _ _ _ _ (fun e => hj (by injection e with e _; exact e.symm))
    refine ⟨p, rfl, ?_, ?_⟩
    · rw [ne _ _ _ _ _ n3, ne _ _ _ _ _ n2, ne _ _ _ _ _ n3]; exact h0
    · rw [ne _ _ _ _ _ n3, ne _ _ _ _ _ n2, ne _ _ _ _ _ n3]; exact h1
  · refine (plain_fault a vs c kd _ kt kp (ck' hgk (bw_below w kd _)) hn hk hk5 (hl.keep (bw_below w kd _)) i hi hbad hfirst).mono ?_
    rintro e w1 ⟨⟨p, rfl, h0, h1⟩, hb⟩
    exact ⟨⟨_, _, rfl, p, rfl, h0, h1⟩, hb⟩
  · rintro e w1 ⟨⟨t, q, rfl, p, h, h0, h1⟩, hb⟩
    injection h with h2 h3
    subst h2 h3
    exact ⟨⟨p, rfl, h0, h1⟩, hb⟩
end Go.Proofs.YtjchkhdmjbojjaaDoor
