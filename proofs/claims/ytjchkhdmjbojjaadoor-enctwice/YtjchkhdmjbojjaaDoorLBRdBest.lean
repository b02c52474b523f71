/-
  enc.ReadBest of what Best writes.
  enc.Best of what is not right: Plain's error.
-/
import Derived.Test.YtjchkhdmjbojjaaDoorLRdDict
import Derived.Test.YtjchkhdmjbojjaaDoorLBRdDelta
import Derived.Test.YtjchkhdmjbojjaaDoorLBRdPref
import Derived.Test.YtjchkhdmjbojjaaDoorLBBest
import Derived.Test.YtjchkhdmjbojjaaDoorLBWordsMath
namespace Go.Proofs.YtjchkhdmjbojjaaDoor
open Go.RowKit
/-- The values are given. -/
def RetVl (vs : List Vl) (e : Ending) (w' : World) : Prop := ∃ a c, e = .returned (.tuple #[.slice a vs.length c, .nilIface]) ∧ LiesV w' a vs
theorem readPlain_right (kd : Int) (s : ByteArray) (vs : List Vl) (w : World) (st : TypeId) (sp : Value) (hg : w.cell? ⟨0, 0, none⟩ = some (.iface st sp)) (hs : s.size ≤ 1000000) (hn : vs.length ≤ 300) (hR : Right kd vs) (he : s.data.toList = plainB kd vs) :
    Calls Tryd.prog 16 #[.int .i64 kd, .string s, .int .i64 (vs.length : Nat)] w fun e w' => RetVl vs e w' ∧ Below w.heap.size w w' := by
  refine (readPlain_any kd s vs.length w st sp hg hs (by omega) hR.1.1 hR.1.2).mono ?_
  rw [he]
  rintro e w1 ⟨⟨us, a, c, hI, rfl, hl⟩ | ⟨hI, rfl⟩, hb⟩
  · obtain rfl : us = vs := isPl_fn hI ⟨rfl, hR, rfl⟩
    exact ⟨⟨a, c, rfl, hl⟩, hb⟩
  · exact absurd ⟨vs, rfl, hR, rfl⟩ hI
theorem readDelta_right (kd : Int) (s : ByteArray) (vs : List Vl) (w : World) (st kt : TypeId) (sp kp : Value) (hg : w.cell? ⟨0, 0, none⟩ = some (.iface st sp)) (hgk : w.cell? ⟨2, 0, none⟩ = some (.iface kt kp)) (hs : s.size ≤ 1000000) (hn : vs.length ≤ 300) (hk : kd = 2 ∨ kd = 3) (hR : Right kd vs) (he : s.data.toList = deltaB vs) :
    Calls Tryd.prog 21 #[.int .i64 kd, .string s, .int .i64 (vs.length : Nat)] w fun e w' => RetVl vs e w' ∧ Below w.heap.size w w' := by
  have hd := isDl_delta hk hR
  refine (readDelta_any kd s vs.length w st kt sp kp hg hgk hs (by omega) hk).mono ?_
  rw [he]
  rintro e w1 ⟨⟨us, a, c, hI, rfl, hl⟩ | ⟨hI, rfl⟩, hb⟩
  · obtain rfl : us = vs := by
      obtain ⟨xs, h1, _, h3, _⟩ := hI
      obtain ⟨ys, g1, _, g3, _⟩ := hd
      rw [h1] at g1
      injection g1 with g1
      rw [h3, g3, g1]
    exact ⟨⟨a, c, rfl, hl⟩, hb⟩
  · exact absurd ⟨vs, hd⟩ hI
theorem pvs_back {vs : List Vl} (hR : Right 4 vs) : pvs (bys (vtx vs)) = vs := by
  unfold pvs bys vtx
  rw [List.map_map, List.map_map]
  refine (List.map_congr_left (fun v hv => ?_)).trans (List.map_id _)
  have ho := (hR.2 v hv).1
  unfold Vl.Ok OkV at ho
  obtain ⟨k, n, s⟩ := v
  simp only [Function.comp_apply, id_eq] at ho ⊢
  rw [mk_bytes]
  obtain ⟨h1, h2⟩ := ho
  have h3 : n = 0 := by omega
  rw [h1, h3]
theorem readPV_right (s : ByteArray) (vs : List Vl) (w : World) (st : TypeId) (sp : Value) (hg : w.cell? ⟨0, 0, none⟩ = some (.iface st sp)) (hs : s.size ≤ 1000000) (hn : vs.length ≤ 300) (hR : Right 4 vs) (he : s.data.toList = Um.prefs [] (bys (vtx vs))) :
    Calls Tryd.prog 55 #[.string s, .int .i64 (vs.length : Nat)] w fun e w' => RetVl vs e w' ∧ Below w.heap.size w w' := by
  have hrd : Um.rdp vs.length [] (Um.prefs [] (bys (vtx vs))) = some (bys (vtx vs)) := by
    have h := Um.rdp_back (bys (vtx vs)) [] (by simp) (fun t ht => by
      obtain ⟨b, hb, rfl⟩ := List.mem_map.1 ht
      obtain ⟨v, hv, rfl⟩ := List.mem_map.1 hb
      rw [Array.length_toList]
      exact ok_bytes rfl (hR.2 v hv).1)
    rw [bys_len, vtx_len] at h
    exact h
  refine (readPrefixValues_any s vs.length w st sp hg hs (by omega)).mono ?_
  rw [he]
  rintro e w1 ⟨⟨us, a, c, ⟨ss, h1, rfl⟩, rfl, hl⟩ | ⟨hI, rfl⟩, hb⟩
  · rw [hrd] at h1
    injection h1 with h1
    subst h1
    rw [pvs_back hR] at hl
    exact ⟨⟨a, c, rfl, hl⟩, hb⟩
  · exact absurd ⟨_, _, hrd, rfl⟩ hI
set_option maxRecDepth 100000 in
set_option maxHeartbeats 1600000 in
theorem readBest_plain (kd : Int) (s : ByteArray) (vs : List Vl) (w : World) (st : TypeId) (sp : Value) (hg : w.cell? ⟨0, 0, none⟩ = some (.iface st sp)) (hs : s.size ≤ 1000000) (hn : vs.length ≤ 300) (hR : Right kd vs) (he : s.data.toList = plainB kd vs) :
    Calls Tryd.prog 19 #[.int .i64 kd, .int .i64 0, .string s, .int .i64 (vs.length : Nat)] w fun e w' => RetVl vs e w' ∧ Below w.heap.size w w' := by
  have HR : Hid (Right kd vs) := hR
  have HC : Hid _ := readPlain_right kd s vs w st sp hg hs hn hR he
  clear hR hg he
  go_enter Tryd.func19, Tryd.ntmps19
  go_wp2_with fail
  refine (checkCount_fine kd vs.length w HR.out.1.1 HR.out.1.2 (by omega) (by omega)).mono ?_
  rintro e w1 ⟨rfl, hw⟩
  obtain rfl := hw.symm
  go_wp2_with fail
  refine Calls.mono HC.out ?_
  rintro e w1 ⟨⟨a, c, rfl, hl⟩, hb⟩
  have HL : Hid _ := hl
  clear hl
  go_wp2
  go_ret2
  exact ⟨⟨a, c, rfl, HL.out⟩, hb⟩
set_option maxRecDepth 100000 in
set_option maxHeartbeats 1600000 in
theorem readBest_dict (kd : Int) (s : ByteArray) (vs us : List Vl) (ps : List Nat) (w : World) (st : TypeId) (sp : Value) (hg : w.cell? ⟨0, 0, none⟩ = some (.iface st sp)) (hs : s.size ≤ 1000000) (hn : vs.length ≤ 300) (hu : Uq vs us ps) (hR : Right kd vs) (he : s.data.toList = dictB kd us ps) :
    Calls Tryd.prog 19 #[.int .i64 kd, .int .i64 1, .string s, .int .i64 (vs.length : Nat)] w fun e w' => RetVl vs e w' ∧ Below w.heap.size w w' := by
  have HR : Hid (Right kd vs) := hR
  have HC : Hid _ := readDict_right kd s vs us ps w st sp hg hs hn hu hR he
  clear hR hg he hu
  go_enter Tryd.func19, Tryd.ntmps19
  go_wp2_with fail
  refine (checkCount_fine kd vs.length w HR.out.1.1 HR.out.1.2 (by omega) (by omega)).mono ?_
  rintro e w1 ⟨rfl, hw⟩
  obtain rfl := hw.symm
  go_wp2_with fail
  refine Calls.mono HC.out ?_
  rintro e w1 ⟨⟨a, c, rfl, hl⟩, hb⟩
  have HL : Hid _ := hl
  clear hl
  go_wp2
  go_ret2
  exact ⟨⟨a, c, rfl, HL.out⟩, hb⟩
set_option maxRecDepth 100000 in
set_option maxHeartbeats 1600000 in
theorem readBest_delta (kd : Int) (s : ByteArray) (vs : List Vl) (w : World) (st kt : TypeId) (sp kp : Value) (hg : w.cell? ⟨0, 0, none⟩ = some (.iface st sp)) (hgk : w.cell? ⟨2, 0, none⟩ = some (.iface kt kp)) (hs : s.size ≤ 1000000) (hn : vs.length ≤ 300) (hk : kd = 2 ∨ kd = 3) (hR : Right kd vs) (he : s.data.toList = deltaB vs) :
    Calls Tryd.prog 19 #[.int .i64 kd, .int .i64 2, .string s, .int .i64 (vs.length : Nat)] w fun e w' => RetVl vs e w' ∧ Below w.heap.size w w' := by
  have HR : Hid (Right kd vs) := hR
  have HC : Hid _ := readDelta_right kd s vs w st kt sp kp hg hgk hs hn hk hR he
  have hd : decide (kd = 2 ∨ kd = 3) = true := by simp [hk]
  clear hR hg he hgk hk
  go_enter Tryd.func19, Tryd.ntmps19
  go_wp2_with fail
  refine (checkCount_fine kd vs.length w HR.out.1.1 HR.out.1.2 (by omega) (by omega)).mono ?_
  rintro e w1 ⟨rfl, hw⟩
  obtain rfl := hw.symm
  go_wp2_with fail
  refine (hasDelta_any kd _).mono ?_
  rw [hd]
  rintro e w2 ⟨rfl, hw⟩
  obtain rfl := hw.symm
  go_wp2_with fail
  refine Calls.mono HC.out ?_
  rintro e w1 ⟨⟨a, c, rfl, hl⟩, hb⟩
  have HL : Hid _ := hl
  clear hl
  go_wp2
  go_ret2
  exact ⟨⟨a, c, rfl, HL.out⟩, hb⟩
set_option maxRecDepth 100000 in
set_option maxHeartbeats 1600000 in
theorem readBest_prefix (s : ByteArray) (vs : List Vl) (w : World) (st : TypeId) (sp : Value) (hg : w.cell? ⟨0, 0, none⟩ = some (.iface st sp)) (hs : s.size ≤ 1000000) (hn : vs.length ≤ 300) (hR : Right 4 vs) (he : s.data.toList = Um.prefs [] (bys (vtx vs))) :
    Calls Tryd.prog 19 #[.int .i64 4, .int .i64 3, .string s, .int .i64 (vs.length : Nat)] w fun e w' => RetVl vs e w' ∧ Below w.heap.size w w' := by
  have HC : Hid _ := readPV_right s vs w st sp hg hs hn hR he
  clear hR hg he
  go_enter Tryd.func19, Tryd.ntmps19
  go_wp2_with fail
  refine (checkCount_fine 4 vs.length w (by omega) (by omega) (by omega) (by omega)).mono ?_
  rintro e w1 ⟨rfl, hw⟩
  obtain rfl := hw.symm
  go_wp2_with fail
  refine (hasPrefix_any 4 _).mono ?_
  rintro e w2 ⟨rfl, hw⟩
  obtain rfl := hw.symm
  go_wp2_with fail
  refine Calls.mono HC.out ?_
  rintro e w1 ⟨⟨a, c, rfl, hl⟩, hb⟩
  have HL : Hid _ := hl
  clear hl
  go_wp2
  go_ret2
  exact ⟨⟨a, c, rfl, HL.out⟩, hb⟩
end Go.Proofs.YtjchkhdmjbojjaaDoor

namespace Go.Proofs.YtjchkhdmjbojjaaDoor
open Go.RowKit
theorem bw_two (w : World) (kd : Int) (v : Value) : (bw w kd v).heap[w.heap.size + 2]? = some (.cells #[.int .i64 0] 3 (0, 0)) := by
  have := heap_alloc_new ((w.alloc (.cells #[.int .i64 kd] 3)).alloc (.cells #[v] 22)) (.cells #[.int .i64 0] 3)
  rw [show ((w.alloc (.cells #[.int .i64 kd] 3)).alloc (.cells #[v] 22)).heap.size = w.heap.size + 2 by simp] at this
  exact blk_alloc this
theorem bw_three (w : World) (kd : Int) (v : Value) : (bw w kd v).heap[w.heap.size + 3]? = some (.cells #[.string ⟨#[]⟩] 9 (0, 0)) := by
  have := heap_alloc_new (((w.alloc (.cells #[.int .i64 kd] 3)).alloc (.cells #[v] 22)).alloc (.cells #[.int .i64 0] 3)) (.cells #[.string ⟨#[]⟩] 9)
  rw [show (((w.alloc (.cells #[.int .i64 kd] 3)).alloc (.cells #[v] 22)).alloc (.cells #[.int .i64 0] 3)).heap.size = w.heap.size + 3 by simp] at this
  exact this
theorem one_ne {w : World} {g p e : Nat} {x y : Value} (h : w.heap[g]? = some (.cells #[x] e (0, 0))) (hp : w.cell? ⟨p, 1, none⟩ = some y) : p ≠ g := by
  rintro rfl
  rw [cell_of_row _ p 1 #[x] e (0, 0) h] at hp
  simp at hp
set_option maxRecDepth 100000 in
set_option maxHeartbeats 1600000 in
/-- Best where Plain answers an error: what two cells elsewhere hold stays. -/
theorem best_err (kd : Int) (a : Option Addr) (n c : Nat) (w : World) (R : Value → World → Prop) (hR : ∀ u W (x : Int) (s : ByteArray), Below (bw w kd (.slice a n c)).heap.size (bw w kd (.slice a n c)) W → R u W → R u (((W.setCell ⟨w.heap.size + 3, 0, none⟩ (.string ⟨#[]⟩)).setCell ⟨w.heap.size + 2, 0, none⟩ (.int .i64 x)).setCell ⟨w.heap.size + 3, 0, none⟩ (.string s)))
    (hP : Calls Tryd.prog 15 #[.int .i64 kd, .slice a n c] (bw w kd (.slice a n c)) fun e w' => (∃ t p, e = .returned (.tuple #[.string ⟨#[]⟩, .iface t p]) ∧ R (.iface t p) w') ∧ Below (bw w kd (.slice a n c)).heap.size (bw w kd (.slice a n c)) w') :
    Calls Tryd.prog 13 #[.int .i64 kd, .slice a n c] w fun e w' => (∃ t p, e = .returned (.tuple #[.int .i64 0, .string ⟨#[]⟩, .iface t p]) ∧ R (.iface t p) w') ∧ Below w.heap.size w w' := by
  have HB0 : Hid _ := bw_BI w kd (.slice a n c)
  have HP : Hid _ := hP
  have HR : Hid _ := hR
  have hk0 := HB0.out.hk
  have hl0 := HB0.out.hl
  unfold bw at hk0 hl0
  clear hP hR
  go_enter Tryd.func13, Tryd.ntmps13
  go_wp2_with fail
  refine Calls.mono HP.out ?_
  clear hk0 hl0
  rintro e w1 ⟨⟨t, p, rfl, hr⟩, hb1⟩
  have HRr : Hid _ := hr
  have HI1 : Hid _ := HB0.out.keep hb1
  have hs1 := HI1.out.hs
  have fs1 := HI1.out.fs
  have hc1 := HI1.out.hc
  have fc1 := HI1.out.fc
  have HI2 : Hid _ := (HI1.out.puts ⟨#[]⟩).put 0 ⟨#[]⟩
  have HR2 : Hid _ := HR.out _ w1 0 ⟨#[]⟩ hb1 HRr.out
  clear hr
  go_wp2
  (try simp only [Exit.inBlock, Exit.then])
  refine bodyPost_ret (results_cct rfl _ _ ⟨w.heap.size + 2, 0, none⟩ ⟨w.heap.size + 3, 0, none⟩ (.int .i64 0) (.string ⟨#[]⟩) rfl rfl (loadI HI2.out.hc) (loadS HI2.out.hs)) rfl ?_
  exact ⟨⟨t, p, rfl, HR2.out⟩, HI2.out.old⟩
theorem best_kind (a : Option Addr) (n c : Nat) (kd : Int) (w : World) (kt : TypeId) (kp : Value) (hn : n ≤ 20000) (hgk : w.cell? ⟨2, 0, none⟩ = some (.iface kt kp)) (hk : ¬ (1 ≤ kd ∧ kd ≤ 5)) :
    Calls Tryd.prog 13 #[.int .i64 kd, .slice a n c] w fun e w' => e = .returned (.tuple #[.int .i64 0, .string ⟨#[]⟩, .iface kt kp]) ∧ Below w.heap.size w w' := by
  refine (best_err kd a n c w (fun u _ => u = .iface kt kp) (fun _ _ _ _ _ h => h) ?_).mono ?_
  · refine (plain_kind a n c kd _ kt kp hn (ck' hgk (bw_below w kd _)) hk).mono ?_
    rintro e w1 ⟨rfl, rfl⟩
    exact ⟨⟨_, _, rfl, rfl⟩, Below.refl _ _⟩
  · rintro e w1 ⟨⟨t, p, rfl, h⟩, hb⟩
    injection h with h1 h2
    subst h1 h2
    exact ⟨rfl, hb⟩
theorem best_fault (a : Option Addr) (vs : List Vl) (c : Nat) (kd : Int) (w : World) (kt : TypeId) (kp : Value) (hgk : w.cell? ⟨2, 0, none⟩ = some (.iface kt kp)) (hn : vs.length ≤ 20000) (hk : 1 ≤ kd) (hk5 : kd ≤ 5) (hl : LiesV w a vs) (i : Nat) (hi : i < vs.length) (hbad : ¬ vs[i].Ok kd) (hfirst : ∀ j (h : j < vs.length), j < i → vs[j].Ok kd) :
    Calls Tryd.prog 13 #[.int .i64 kd, .slice a vs.length c] w fun e w' => (∃ p, e = .returned (.tuple #[.int .i64 0, .string ⟨#[]⟩, .iface 84 (.pointer (some ⟨p, 0, none⟩))]) ∧ w'.cell? ⟨p, 0, none⟩ = some (.int .i64 i) ∧ w'.cell? ⟨p, 1, none⟩ = some (.iface kt kp)) ∧ Below w.heap.size w w' := by
  refine (best_err kd a vs.length c w (fun u W => ∃ p, u = .iface 84 (.pointer (some ⟨p, 0, none⟩)) ∧ W.cell? ⟨p, 0, none⟩ = some (.int .i64 i) ∧ W.cell? ⟨p, 1, none⟩ = some (.iface kt kp)) ?_ ?_).mono ?_
  · rintro u W x s hb ⟨p, rfl, h0, h1⟩
    have n2 : p ≠ w.heap.size + 2 := one_ne (blk_keep hb (bw_two w kd (.slice a vs.length c))) h1
    have n3 : p ≠ w.heap.size + 3 := one_ne (blk_keep hb (bw_three w kd (.slice a vs.length c))) h1
    have ne : ∀ (W : World) (x j o : Nat) (u : Value), j ≠ x → (W.setCell ⟨x, 0, none⟩ u).cell? ⟨j, o, none⟩ = W.cell? ⟨j, o, none⟩ := fun W x j o u hj =>
      World.cell?_setCell_other _ _ _ _ (fun e => hj (by injection e with e _; exact e.symm))
    refine ⟨p, rfl, ?_, ?_⟩
    · rw [ne _ _ _ _ _ n3, ne _ _ _ _ _ n2, ne _ _ _ _ _ n3]; exact h0
    · rw [ne _ _ _ _ _ n3, ne _ _ _ _ _ n2, ne _ _ _ _ _ n3]; exact h1
  · refine (plain_fault a vs c kd _ kt kp (ck' hgk (bw_below w kd _)) hn hk hk5 (hl.keep (bw_below w kd _)) i hi hbad hfirst).mono ?_
    rintro e w1 ⟨⟨p, rfl, h0, h1⟩, hb⟩
    exact ⟨⟨_, _, rfl, p, rfl, h0, h1⟩, hb⟩
  · rintro e w1 ⟨⟨t, q, rfl, p, h, h0, h1⟩, hb⟩
    injection h with h2 h3
    subst h2 h3
    exact ⟨⟨p, rfl, h0, h1⟩, hb⟩
end Go.Proofs.YtjchkhdmjbojjaaDoor
