/-
  A disk's has, Steps, Cut, Mend, Used, Read.
-/
import Derived.Test.YtmpdkccmcnegkaaDoorIDkP
namespace Go.Proofs.YtmpdkccmcnegkaaDoor
open Go.RowKit Go.Maps
theorem Tryd.zeroB (w : World) : (zeroValue 61).run Tryd.prog w = .ok (.slice none 0 0) w := by kernel_rfl
/-- A look-up, as an equation for the walk: whether, and which slice. -/
theorem FM.look {w : World} {P : Nat → Prop} {mb : Nat} {fs : List Fl} {D : DataW Value} {vf : ByteArray → Value} (h : FM w P mb fs D vf) (n : ByteArray) (hn : n.size ≤ maxLen) :
    ∃ v, (Instr.lookup 47 (.map (some mb)) (.string n) true).run Tryd.prog w = .ok (.tuple #[v, .bool (fHas fs n)]) w := by
  obtain ⟨m, hm⟩ := h.map
  obtain ⟨v, ps, hr, _⟩ := hm.look_ok Tryd.lawK Tryd.underlying47 (Tryd.zeroB w) (zd := .held (.slice none 0 0)) (zp := []) rfl (kS_of n hn)
  rw [h.hasB] at hr
  exact ⟨v, hr⟩
theorem held_inj {v u : Value} {ps : List MemPlace} (h : RF v = some (.held u, ps)) : v = u := by
  unfold RF at h
  split at h
  · simp at h; exact h.1
  · cases h
theorem atKey_none {D : DataW Value} {kl : Lit} (h : Maps.has D kl = false) (z : DataW Value) : D.atKey kl z = z := Maps.atKey_of_not_has h z
theorem FM.get {w : World} {P : Nat → Prop} {mb : Nat} {fs : List Fl} {D : DataW Value} {vf : ByteArray → Value} (h : FM w P mb fs D vf) (n : ByteArray) (hn : n.size ≤ maxLen) :
    (∀ p ∈ fs, p.1 = n → (Instr.lookup 47 (.map (some mb)) (.string n) false).run Tryd.prog w = .ok (vf n) w) ∧
    (fHas fs n = false → (Instr.lookup 47 (.map (some mb)) (.string n) false).run Tryd.prog w = .ok (.slice none 0 0) w) := by
  obtain ⟨m, hm⟩ := h.map
  obtain ⟨v, ps, hr, hv⟩ := hm.lookup Tryd.lawK Tryd.underlying47 (Tryd.zeroB w) (zd := .held (.slice none 0 0)) (zp := []) rfl (kS_of n hn)
  refine ⟨fun p hp e => ?_, fun e => ?_⟩
  · subst e
    rw [h.at_ p hp] at hv
    rw [held_inj hv] at hr
    exact hr
  · rw [atKey_none (by rw [h.hasB]; exact e)] at hv
    rw [held_inj hv] at hr
    exact hr
set_option maxRecDepth 100000 in
set_option maxHeartbeats 1600000 in
theorem has_disk (db : Nat) (P : Nat → Prop) (s : DkSt) (n : ByteArray) (hn : n.size ≤ maxLen) (W : World) (h : DkAt W P db s) :
    Calls Tryd.prog 28 #[.pointer (some ⟨db, 0, none⟩), .string n] W fun e w' => e = .returned (.bool (fHas s.fs n)) ∧ w' = W := by
  obtain ⟨mb, ld, hb, _, D, vf, hF⟩ := h.box
  obtain ⟨v, hv⟩ := hF.look n hn
  obtain ⟨⟨p0, p1, p2, p3, p4⟩, _⟩ := row5 hb
  clear hb h hF
  generalize fHas s.fs n = bb at hv ⊢
  go_enter Tryd.func28, Tryd.ntmps28
  go_wp2
  go_ret
  exact ⟨rfl, rfl⟩
set_option maxRecDepth 100000 in
set_option maxHeartbeats 1600000 in
theorem steps_disk (db : Nat) (P : Nat → Prop) (s : DkSt) (W : World) (h : DkAt W P db s) :
    Calls Tryd.prog 16 #[.pointer (some ⟨db, 0, none⟩)] W fun e w' => e = .returned (.int .i64 s.done) ∧ w' = W := by
  obtain ⟨mb, ld, hb, _⟩ := h.box
  obtain ⟨⟨p0, p1, p2, p3, p4⟩, _⟩ := row5 hb
  clear hb h
  go_enter Tryd.func16, Tryd.ntmps16
  go_wp2
  go_ret
  exact ⟨rfl, rfl⟩
/-- The box alone has turned. -/
theorem DkAt.turn {W w' : World} {P : Nat → Prop} {db : Nat} {s s' : DkSt} {mb : Nat} {ld : Int} (hP : P db) (hlt : ∀ k, P k → k < W.heap.size) (hF : ∃ D vf, FM W P mb s.fs D vf)
    (hb : W.heap[db]? = some (.cells (dkBox s.done s.short ld s.quota mb) 51 (0, 0))) (ld' : Int) (hb' : w'.heap[db]? = some (.cells (dkBox s'.done s'.short ld' s'.quota mb) 51 (0, 0))) (hg : W.grownBy w' (some db)) (hl : s'.short = true → ld' = s'.left)
    (hfs : s'.fs = s.fs) (hok : StOk s') : DkAt w' P db s' := by
  obtain ⟨D, vf, hF⟩ := hF
  refine ⟨⟨mb, ld', hb', hl, D, vf, ?_⟩, hP, fun k hk => Nat.lt_of_lt_of_le (hlt k hk) hg.size, hok⟩
  rw [hfs]
  obtain ⟨n, hm⟩ := hF.map
  refine ⟨⟨n, map_stay hm (hg.block mb hm.lt (fun e => ?_))⟩, hF.has, hF.at_, fun p hp => own_stay (hF.row p hp) (fun g hg' => hg.block g (own_lt (hF.row p hp) hg') (fun e => ?_)), hF.own, hF.apart, hF.mbP⟩
  · cases e
    obtain ⟨es, cl, h1, _⟩ := hm
    rw [h1] at hb; cases hb
  · cases e
    rcases (hF.row p hp).2 with ⟨e, _⟩ | ⟨g1, cap, cur, e, _, h1, _⟩
    · rw [e] at hg'; cases hg'
    · rw [e] at hg'; simp [Value.ownBlock] at hg'; subst hg'; rw [h1] at hb
      injection hb with hb
      injection hb with _ e2 _
      exact absurd e2 (by decide)
set_option maxRecDepth 100000 in
set_option maxHeartbeats 1600000 in
theorem lastFor_any (db dn q mb : Nat) (sh : Bool) (ld n : Int) (W : World) (hb : W.heap[db]? = some (.cells (dkBox dn sh ld q mb) 51 (0, 0))) :
    Calls Tryd.prog 36 #[.pointer (some ⟨db, 0, none⟩), .int .i64 n] W fun e w' => e = .returned (.tuple #[]) ∧ BoxR W db (dkBox dn true n q mb) w' := by
  obtain ⟨⟨p0, p1, p2, p3, p4⟩, f0, f1, f2, f3, f4⟩ := row5 hb
  have HB : Hid (W.heap[db]? = some (.cells (dkBox dn sh ld q mb) 51 (0, 0))) := hb
  clear hb
  go_enter Tryd.func36, Tryd.ntmps36
  go_wp2
  all_goals go_end0
  all_goals refine ⟨rfl, ?_, grown_set (grown_set (grown_rfl _ _) _) _, by simp⟩
  all_goals
    first
      | (have := setRow (j := 2) (setRow (j := 1) HB.out (.bool true)) (.int .i64 n)
         simpa [dkBox] using this)
      | (have := setRow (j := 1) (setRow (j := 2) HB.out (.int .i64 n)) (.bool true)
         simpa [dkBox] using this)
set_option maxRecDepth 100000 in
set_option maxHeartbeats 1600000 in
theorem lastEver_any (db dn q mb : Nat) (sh : Bool) (ld : Int) (W : World) (hb : W.heap[db]? = some (.cells (dkBox dn sh ld q mb) 51 (0, 0))) :
    Calls Tryd.prog 37 #[.pointer (some ⟨db, 0, none⟩)] W fun e w' => e = .returned (.tuple #[]) ∧ BoxR W db (dkBox dn false 0 q mb) w' := by
  obtain ⟨⟨p0, p1, p2, p3, p4⟩, f0, f1, f2, f3, f4⟩ := row5 hb
  have HB : Hid (W.heap[db]? = some (.cells (dkBox dn sh ld q mb) 51 (0, 0))) := hb
  clear hb
  go_enter Tryd.func37, Tryd.ntmps37
  go_wp2
  all_goals go_end0
  all_goals refine ⟨rfl, ?_, grown_set (grown_set (grown_rfl _ _) _) _, by simp⟩
  all_goals
    first
      | (have := setRow (j := 2) (setRow (j := 1) HB.out (.bool false)) (.int .i64 0)
         simpa [dkBox] using this)
      | (have := setRow (j := 1) (setRow (j := 2) HB.out (.int .i64 0)) (.bool false)
         simpa [dkBox] using this)
set_option maxRecDepth 100000 in
set_option maxHeartbeats 1600000 in
theorem cut_disk (db : Nat) (P : Nat → Prop) (s : DkSt) (n : Int) (hn : n ≤ 9223372036854775807) (be : Value) (W : World) (h : DkAt W P db s) (he : W.cell? ⟨0, 0, none⟩ = some be) :
    Calls Tryd.prog 26 #[.pointer (some ⟨db, 0, none⟩), .int .i64 n] W fun e w' => e = .returned (if n < 0 then be else .nilIface) ∧ DkAt w' P db (if n < 0 then s else { s with short := true, left := n.toNat }) ∧ W.grownBy w' (some db) := by
  obtain ⟨mb, ld, hb, _, hF⟩ := h.box
  obtain ⟨⟨p0, p1, p2, p3, p4⟩, f0, f1, f2, f3, f4⟩ := row5 hb
  have HB : Hid (W.heap[db]? = some (.cells (dkBox s.done s.short ld s.quota mb) 51 (0, 0))) := hb
  have HF : Hid (∃ D vf, FM W P mb s.fs D vf) := hF
  have HD : Hid (DkAt W P db s) := h
  clear hb h hF
  by_cases h0 : n < 0
  · rw [if_pos h0, if_pos h0]
    clear f0 f1 f2 f3 f4
    go_enter Tryd.func26, Tryd.ntmps26
    go_wp2
    go_ret
    exact ⟨rfl, HD.out, grown_rfl _ _⟩
  · rw [if_neg h0, if_neg h0]
    go_enter Tryd.func26, Tryd.ntmps26
    clear p0 p1 p2 p3 p4 f0 f1 f2 f3 f4
    go_wp2_with fail
    refine (lastFor_any db s.done s.quota mb s.short ld n W HB.out).mono ?_
    rintro e w1 ⟨rfl, hr⟩
    go_wp2
    go_ret
    exact ⟨rfl, DkAt.turn (s' := { s with short := true, left := n.toNat }) HD.out.dbP HD.out.lt HF.out HB.out n hr.box hr.grown (fun _ => by simp; omega) rfl ⟨HD.out.ok.srt, HD.out.ok.len, HD.out.ok.each, HD.out.ok.used, HD.out.ok.quo, by simp; omega⟩, hr.grown⟩
set_option maxRecDepth 100000 in
set_option maxHeartbeats 1600000 in
theorem mend_disk (db : Nat) (P : Nat → Prop) (s : DkSt) (W : World) (h : DkAt W P db s) :
    Calls Tryd.prog 27 #[.pointer (some ⟨db, 0, none⟩)] W fun e w' => e = .returned (.tuple #[]) ∧ DkAt w' P db { s with short := false, left := 0 } ∧ W.grownBy w' (some db) := by
  obtain ⟨mb, ld, hb, _, hF⟩ := h.box
  have HB : Hid (W.heap[db]? = some (.cells (dkBox s.done s.short ld s.quota mb) 51 (0, 0))) := hb
  have HF : Hid (∃ D vf, FM W P mb s.fs D vf) := hF
  have HD : Hid (DkAt W P db s) := h
  clear hb h hF
  go_enter Tryd.func27, Tryd.ntmps27
  go_wp2_with fail
  refine (lastEver_any db s.done s.quota mb s.short ld W HB.out).mono ?_
  rintro e w1 ⟨rfl, hr⟩
  go_wp2
  go_end0
  exact ⟨rfl, DkAt.turn (s' := { s with short := false, left := 0 }) HD.out.dbP HD.out.lt HF.out HB.out 0 hr.box hr.grown (fun h => by cases h) rfl ⟨HD.out.ok.srt, HD.out.ok.len, HD.out.ok.each, HD.out.ok.used, HD.out.ok.quo, by simp⟩, hr.grown⟩
end Go.Proofs.YtmpdkccmcnegkaaDoor
