/-
  The law's model of a disk: what an act makes of it: cut, mend, remove.
-/
import Derived.Test.YtmpdkccmcnegkaaDoorIMdD
import Derived.Test.YtmpdkccmcnegkaaDoorIDkX
namespace Go.Proofs.YtmpdkccmcnegkaaDoor
open Go.RowKit Go.Maps
/-- An act. -/
structure Ac where
  k : Int
  nm : ByteArray
  tx : ByteArray
  n : Int
abbrev acV (a : Ac) : Value := .agg #[.int .i64 a.k, .string a.nm, .string a.tx, .int .i64 a.n]
def Ac.In (a : Ac) : Prop := (-9223372036854775808 ≤ a.k ∧ a.k ≤ 9223372036854775807) ∧ a.nm.size ≤ maxLen ∧ a.tx.size ≤ maxLen ∧ (-9223372036854775808 ≤ a.n ∧ a.n ≤ 9223372036854775807)
/-- What an act makes of a disk. -/
def DkSt.stp (s : DkSt) (a : Ac) : Nat × DkSt :=
  if a.k = 0 then s.app a.nm a.tx else if a.k = 1 then s.ren a.nm a.tx else if a.k = 2 then s.rem a.nm
  else if a.k = 3 then (if a.n < 0 then (2, s) else (0, { s with short := true, left := a.n.toNat })) else (0, { s with short := false, left := 0 })
theorem row4A {w : World} {g e : Nat} {x0 x1 x2 x3 : Value} (h : w.heap[g]? = some (.cells #[x0, x1, x2, x3] e (0, 0))) : w.cell? ⟨g, 0, none⟩ = some x0 ∧ w.cell? ⟨g, 1, none⟩ = some x1 ∧ w.cell? ⟨g, 2, none⟩ = some x2 ∧ w.cell? ⟨g, 3, none⟩ = some x3 :=
  ⟨cell_of_row w g 0 _ e _ h, cell_of_row w g 1 _ e _ h, cell_of_row w g 2 _ e _ h, cell_of_row w g 3 _ e _ h⟩
theorem actBox (W : World) (a : Ac) : ∃ w0, Hid (W.alloc (.cells #[.int .i64 a.k, .string a.nm, .string a.tx, .int .i64 a.n] 35) = w0) ∧ Hid (w0.heap[W.heap.size]? = some (.cells #[.int .i64 a.k, .string a.nm, .string a.tx, .int .i64 a.n] 35 (0, 0))) ∧ Hid (Below W.heap.size W w0) := ⟨_, rfl, heap_alloc_new W _, (Below.refl _ _).alloc (Nat.le_refl _) _⟩
/-- What do answers. -/
abbrev DoR (W : World) (P : Nat → Prop) (b : Nat) (r : Nat × DkSt) (e : Ending) (w' : World) : Prop := e = .returned (.int .i64 (r.1 : Nat)) ∧ MdAt w' (Gr P W w') b r.2 ∧ Off P W w'
theorem MdAt.grow {W w1 : World} {P : Nat → Prop} {b : Nat} {s : DkSt} (h : MdAt w1 P b s) : MdAt w1 (Gr P W w1) b s := h.gr (fun _ h => .inl h) (fun k hk => by
  rcases hk with hk | ⟨_, hk⟩
  · exact h.lt k hk
  · exact hk)
theorem Gr.mono {P : Nat → Prop} {W w1 w2 : World} (h : w1.heap.size ≤ w2.heap.size) : ∀ k, Gr P W w1 k → Gr P W w2 k := fun _ hk => hk.imp id (fun h2 => ⟨h2.1, Nat.lt_of_lt_of_le h2.2 h⟩)
set_option maxRecDepth 100000 in
set_option maxHeartbeats 3200000 in
theorem do_cut (b : Nat) (P : Nat → Prop) (s : DkSt) (a : Ac) (ha : a.In) (hk : a.k = 3) (W : World) (h : MdAt W P b s) :
    Calls Tryd.prog 8 #[.pointer (some ⟨b, 0, none⟩), acV a] W fun e w' => DoR W P b (s.stp a) e w' := by
  obtain ⟨k, nm, tx, n⟩ := a
  obtain rfl : k = 3 := hk
  obtain ⟨w0, HW0, HX0, HB0⟩ := actBox W ⟨3, nm, tx, n⟩
  have HD0 : Hid (MdAt w0 P b s) := h.below HB0.out
  obtain ⟨x0, x1, x2, x3⟩ := row4A HX0.out
  have HO0 : Hid (Off P W w0) := Off.of_below HB0.out
  obtain ⟨na, nc, ta, tc, lm, hb, hl, hlm, hr⟩ := HD0.out.box
  obtain ⟨⟨p0, p1, p2, p3, p4, p5⟩, f0, f1, f2, f3, f4, f5⟩ := row6 hb
  have HB : Hid (w0.heap[b]? = some (.cells (mdBox na s.fs.length nc ta tc s.quota s.short lm s.done) 33 (0, 0))) := hb
  have HR : Hid (MdR w0 P s.fs na nc ta tc) := hr
  have hn2 : n ≤ 9223372036854775807 := ha.2.2.2.2
  have HSt : Hid (s.stp ⟨3, nm, tx, n⟩ = if n < 0 then (2, s) else (0, { s with short := true, left := n.toNat })) := rfl
  rw [HSt.out]
  have hxb : W.heap.size ≠ b := fun e => by have := h.lt b h.bP; omega
  clear hb hr hl hlm h ha
  go_enter Tryd.func8, Tryd.ntmps8
  go_upto_region 1 with fail
  rw [HW0.out]
  go_wp2_with fail
  refine Calls.mono (find_md b P s nm w0 HD0.out) ?_
  rintro e w1 ⟨⟨r, rfl, HF⟩, hw1⟩
  obtain rfl := hw1.symm
  clear hw1 HF
  by_cases hn0 : n < 0
  · go_wp2
    go_ret
    exact ⟨rfl, HD0.out.grow, HO0.out⟩
  · go_wp2
    go_ret
    have hg : w0.grownBy ((w0.setCell ⟨b, 3, none⟩ (.bool true)).setCell ⟨b, 4, none⟩ (.int .i64 n)) (some b) := grown_set (grown_set (grown_rfl _ _) _) _
    have h1 := setRow (j := 4) (setRow (j := 3) HB.out (.bool true)) (.int .i64 n)
    have hm := MdAt.turn (s' := { s with short := true, left := n.toNat }) HD0.out.bP HD0.out.lt HR.out HB.out n (by simpa [mdBox] using h1) hg (fun _ => by simp; omega) (by simp; omega) rfl ⟨HD0.out.ok.srt, HD0.out.ok.len, HD0.out.ok.each, HD0.out.ok.used, HD0.out.ok.quo, by simp; omega⟩
    exact ⟨rfl, hm.grow, HO0.out.trans (off_of hg HD0.out.bP) (fun _ _ h => h)⟩
set_option maxRecDepth 100000 in
set_option maxHeartbeats 3200000 in
theorem do_mend (b : Nat) (P : Nat → Prop) (s : DkSt) (a : Ac) (hk : a.k ≠ 0 ∧ a.k ≠ 1 ∧ a.k ≠ 2 ∧ a.k ≠ 3) (W : World) (h : MdAt W P b s) :
    Calls Tryd.prog 8 #[.pointer (some ⟨b, 0, none⟩), acV a] W fun e w' => DoR W P b (s.stp a) e w' := by
  have HSt : Hid (s.stp a = (0, { s with short := false, left := 0 })) := (by show _ = _; unfold DkSt.stp; rw [if_neg hk.1, if_neg hk.2.1, if_neg hk.2.2.1, if_neg hk.2.2.2])
  rw [HSt.out]
  obtain ⟨w0, HW0, HX0, HB0⟩ := actBox W a
  obtain ⟨k, nm, tx, n⟩ := a
  have HD0 : Hid (MdAt w0 P b s) := h.below HB0.out
  obtain ⟨x0, x1, x2, x3⟩ := row4A HX0.out
  have HO0 : Hid (Off P W w0) := Off.of_below HB0.out
  obtain ⟨na, nc, ta, tc, lm, hb, hl, hlm, hr⟩ := HD0.out.box
  obtain ⟨⟨p0, p1, p2, p3, p4, p5⟩, f0, f1, f2, f3, f4, f5⟩ := row6 hb
  have HB : Hid (w0.heap[b]? = some (.cells (mdBox na s.fs.length nc ta tc s.quota s.short lm s.done) 33 (0, 0))) := hb
  have HR : Hid (MdR w0 P s.fs na nc ta tc) := hr
  obtain ⟨k0, k1, k2, k3⟩ := hk
  have e0 : (k == 0) = false := beq_eq_false_iff_ne.2 k0
  have e1 : (k == 1) = false := beq_eq_false_iff_ne.2 k1
  have e2 : (k == 2) = false := beq_eq_false_iff_ne.2 k2
  have e3 : (k == 3) = false := beq_eq_false_iff_ne.2 k3
  clear hb hr hl hlm h
  go_enter Tryd.func8, Tryd.ntmps8
  go_upto_region 1 with fail
  rw [HW0.out]
  go_wp2_with fail
  refine Calls.mono (find_md b P s nm w0 HD0.out) ?_
  rintro e w1 ⟨⟨r, rfl, HF⟩, hw1⟩
  obtain rfl := hw1.symm
  clear hw1 HF
  go_wp2
  go_ret
  have hg : w0.grownBy ((w0.setCell ⟨b, 3, none⟩ (.bool false)).setCell ⟨b, 4, none⟩ (.int .i64 0)) (some b) := grown_set (grown_set (grown_rfl _ _) _) _
  have h1 := setRow (j := 4) (setRow (j := 3) HB.out (.bool false)) (.int .i64 0)
  have hm := MdAt.turn (s' := { s with short := false, left := 0 }) HD0.out.bP HD0.out.lt HR.out HB.out 0 (by simpa [mdBox] using h1) hg (fun h => by cases h) (by simp) rfl ⟨HD0.out.ok.srt, HD0.out.ok.len, HD0.out.ok.each, HD0.out.ok.used, HD0.out.ok.quo, by simp⟩
  exact ⟨rfl, hm.grow, HO0.out.trans (off_of hg HD0.out.bP) (fun _ _ h => h)⟩
set_option maxRecDepth 100000 in
set_option maxHeartbeats 3200000 in
theorem do_rem (b : Nat) (P : Nat → Prop) (s : DkSt) (a : Ac) (hk : a.k = 2) (hd : s.done ≤ 1000000000) (W : World) (h : MdAt W P b s) :
    Calls Tryd.prog 8 #[.pointer (some ⟨b, 0, none⟩), acV a] W fun e w' => DoR W P b (s.stp a) e w' := by
  obtain ⟨k, nm, tx, n⟩ := a
  obtain rfl : k = 2 := hk
  obtain ⟨rr, HRr⟩ := hid_nm (s.stp ⟨2, nm, tx, n⟩)
  rw [HRr.out]
  have HRem : Hid (s.rem nm = rr) := HRr.out
  obtain ⟨w0, HW0, HX0, HB0⟩ := actBox W ⟨2, nm, tx, n⟩
  have HD0 : Hid (MdAt w0 P b s) := h.below HB0.out
  obtain ⟨x0, x1, x2, x3⟩ := row4A HX0.out
  have HO0 : Hid (Off P W w0) := Off.of_below HB0.out
  clear h
  go_enter Tryd.func8, Tryd.ntmps8
  go_upto_region 1 with fail
  rw [HW0.out]
  go_wp2_with fail
  refine Calls.mono (find_md b P s nm w0 HD0.out) ?_
  rintro e w1 ⟨⟨r, rfl, hF⟩, hw1⟩
  obtain rfl := hw1.symm
  clear hw1
  rcases hF with ⟨rfl, hno⟩ | ⟨i, hi, rfl, hnm⟩
  · obtain rfl : rr = (5, s) := HRem.out.symm.trans (by unfold DkSt.rem; rw [if_pos hno])
    clear hno
    go_wp2
    go_ret
    exact ⟨rfl, HD0.out.grow, HO0.out⟩
  · have hyes : fHas s.fs nm = true := fHas_iff.2 ⟨s.fs[i], List.getElem_mem hi, hnm⟩
    have HNm : Hid (s.fs[i].1 = nm) := hnm
    clear hnm
    by_cases hk : s.k 1 < 1
    · obtain rfl : rr = (6, s.spend 1) := HRem.out.symm.trans (by unfold DkSt.rem; rw [if_neg (by rw [hyes]; simp), if_pos hk])
      have HK : Hid (s.k 1 = 0) := (by show _ = _; omega)
      clear hk hyes
      go_wp2_with fail
      refine Calls.mono (room_md b P s 1 (by omega) hd w0 HD0.out) ?_
      rintro e w2 ⟨rfl, hd2, hg2, hs2⟩
      rw [HK.out]
      go_wp2
      go_ret
      exact ⟨rfl, hd2.grow, HO0.out.trans (off_of hg2 HD0.out.bP) (fun _ _ h => h)⟩
    · obtain rfl : rr = (0, { s.spend 1 with fs := fDel s.fs nm }) := HRem.out.symm.trans (by unfold DkSt.rem; rw [if_neg (by rw [hyes]; simp), if_neg hk])
      have HK : Hid (s.k 1 = 1) := (by show _ = _; have := s.k_le 1; omega)
      clear hk hyes
      go_wp2_with fail
      refine Calls.mono (room_md b P s 1 (by omega) hd w0 HD0.out) ?_
      rintro e w2 ⟨rfl, hd2, hg2, hs2⟩
      rw [HK.out]
      have HD2 : Hid (MdAt w2 P b (s.spend 1)) := hd2
      have HO2 : Hid (Off P W w2) := HO0.out.trans (off_of hg2 HD0.out.bP) (fun _ _ h => h)
      clear hd2 hg2 hs2
      go_wp2_with fail
      refine Calls.mono (drop_md b P (s.spend 1) i hi w2 HD2.out) ?_
      rintro e w3 ⟨rfl, hd3, ho3⟩
      go_wp2
      go_ret
      have hd3' : MdAt w3 (Gr P w2 w3) b { s.spend 1 with fs := fDel s.fs nm } := by rw [← HNm.out]; exact hd3
      refine ⟨rfl, hd3'.gr (fun k hk => ?_) (fun k hk => ?_), HO2.out.trans ho3 (fun _ _ h => h)⟩
      · exact hk.imp id (fun h2 => ⟨Nat.le_trans HO2.out.size h2.1, h2.2⟩)
      · rcases hk with hk | ⟨_, hk⟩
        · exact Nat.lt_of_lt_of_le (HD2.out.lt k hk) ho3.size
        · exact hk
end Go.Proofs.YtmpdkccmcnegkaaDoor
