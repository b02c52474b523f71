/-
  The walk of the law DiskActs.
-/
import Derived.Test.YtmpdkccmcnegkaaDoorIAcS
import Derived.Test.YtmpdkccmcnegkaaDoorIDkY
namespace Go.Proofs.YtmpdkccmcnegkaaDoor
open Go.RowKit Go.Maps
theorem stp_done (s : DkSt) (a : Ac) (ht : a.tx.size ≤ 500) : (s.stp a).2.done ≤ s.done + 500 := by
  have k1 := s.k_le 1
  have kt := s.k_le a.tx.size
  unfold DkSt.stp DkSt.app DkSt.ren DkSt.rem DkSt.spend
  repeat' split
  all_goals simp
  all_goals omega
theorem stp_code (s : DkSt) (a : Ac) : (s.stp a).1 = 0 ∨ (s.stp a).1 = 2 ∨ (s.stp a).1 = 5 ∨ (s.stp a).1 = 6 ∨ (s.stp a).1 = 8 := by
  unfold DkSt.stp DkSt.app DkSt.ren DkSt.rem
  repeat' split
  all_goals simp
theorem stp_quota (s : DkSt) (a : Ac) : (s.stp a).2.quota = s.quota := by
  unfold DkSt.stp DkSt.app DkSt.ren DkSt.rem DkSt.spend
  repeat' split
  all_goals rfl
/-- Acts in memory. -/
def LiesA (w : World) (aa : Option Addr) (l : List Ac) : Prop := ∀ j (h : j < l.length), ∃ b o, aa = some ⟨b, o, none⟩ ∧ w.cell? ⟨b, o + j * 4, none⟩ = some (.int .i64 l[j].k) ∧ w.cell? ⟨b, o + j * 4 + 1, none⟩ = some (.string l[j].nm) ∧ w.cell? ⟨b, o + j * 4 + 2, none⟩ = some (.string l[j].tx) ∧ w.cell? ⟨b, o + j * 4 + 3, none⟩ = some (.int .i64 l[j].n)
theorem LiesA.keep {w w' : World} {aa : Option Addr} {l : List Ac} (h : LiesA w aa l) (hb : Below w.heap.size w w') : LiesA w' aa l := fun j hj => by
  obtain ⟨b, o, e, h0, h1, h2, h3⟩ := h j hj
  have hl := World.block_lt_of_cell? w _ h0
  exact ⟨b, o, e, (hb.cell (p := ⟨b, o + j * 4, none⟩) hl).trans h0, (hb.cell (p := ⟨b, o + j * 4 + 1, none⟩) hl).trans h1, (hb.cell (p := ⟨b, o + j * 4 + 2, none⟩) hl).trans h2, (hb.cell (p := ⟨b, o + j * 4 + 3, none⟩) hl).trans h3⟩
theorem Errs.erc {w : World} {A : Nat → Addr} (h : Errs w A) (P : Nat → Prop) (hP : ∀ k, P k → k ≠ 0 ∧ k ≠ 1 ∧ k ≠ 5 ∧ k ≠ 7) : ErC w P (errV (A 1)) (errV (A 4)) (errV (A 5)) (errV (A 7)) :=
  ⟨(h.at_ 1 (by omega)).var, (h.at_ 4 (by omega)).var, (h.at_ 5 (by omega)).var, (h.at_ 7 (by omega)).var, hP⟩
theorem errs_lt {w : World} {A : Nat → Addr} (h : Errs w A) {N k : Nat} (hN : w.heap.size ≤ N) (hk : N ≤ k) : k ≠ 0 ∧ k ≠ 1 ∧ k ≠ 5 ∧ k ≠ 7 := by
  have h1 : 0 < w.heap.size := World.block_lt_of_cell? w _ (h.at_ 1 (by omega)).var
  have h2 : 1 < w.heap.size := World.block_lt_of_cell? w _ (h.at_ 4 (by omega)).var
  have h3 : 5 < w.heap.size := World.block_lt_of_cell? w _ (h.at_ 5 (by omega)).var
  have h4 : 7 < w.heap.size := World.block_lt_of_cell? w _ (h.at_ 7 (by omega)).var
  refine ⟨?_, ?_, ?_, ?_⟩ <;> omega
theorem coded_ev (w : World) (A : Nat → Addr) (h : Errs w A) (c : Nat) (hc : c = 0 ∨ c = 2 ∨ c = 5 ∨ c = 6 ∨ c = 8) :
    Calls Tryd.prog 7 #[ev (errV (A 1)) (errV (A 4)) (errV (A 5)) (errV (A 7)) c, .int .i64 c] w fun e w' => e = .returned (.bool true) ∧ Below w.heap.size w w' := by
  rcases hc with rfl | rfl | rfl | rfl | rfl
  · refine (coded_nil w 0 true (by decide)).mono ?_
    rintro e w' ⟨h1, rfl⟩
    exact ⟨h1, Below.refl _ _⟩
  · exact coded_sent w A h 1 (by omega) 2 true (by decide)
  · exact coded_sent w A h 4 (by omega) 5 true (by decide)
  · exact coded_sent w A h 5 (by omega) 6 true (by decide)
  · exact coded_sent w A h 7 (by omega) 8 true (by decide)
set_option maxRecDepth 100000 in
set_option maxHeartbeats 3200000 in
theorem fresh_ok (W : World) : Calls Tryd.prog 5 #[] W fun e w' => e = .returned (.bool true) ∧ Below W.heap.size W w' := by
  go_enter Tryd.func5, Tryd.ntmps5
  go_wp2_with fail
  refine Calls.mono (new_ok 10 (by omega) W) ?_
  rintro e w1 ⟨⟨db, rfl, hd⟩, hb1⟩
  have HD1 : Hid (DkAt w1 (NewP W w1) db ⟨[], 0, false, 0, 10⟩) := hd
  have HB1 : Hid (Below W.heap.size W w1) := hb1
  clear hd hb1
  go_wp2_with fail
  refine Calls.mono (used_disk db _ _ w1 HD1.out) ?_
  rintro e w2 ⟨rfl, hb2⟩
  have HD2 : Hid (DkAt w2 (NewP W w1) db ⟨[], 0, false, 0, 10⟩) := HD1.out.below hb2
  have HB2 : Hid (Below W.heap.size W w2) := HB1.out.trans (hb2.mono HB1.out.size)
  clear hb2
  have e0 : fUsed ([] : List Fl) = 0 := rfl
  rw [e0]
  go_wp2_with fail
  refine Calls.mono (names_disk db _ _ w2 HD2.out) ?_
  rintro e w3 ⟨⟨v, rfl, hrow⟩, hb3⟩
  obtain ⟨la, lc, rfl⟩ := own_slC hrow
  have HD3 : Hid (DkAt w3 (NewP W w1) db ⟨[], 0, false, 0, 10⟩) := HD2.out.below hb3
  have HB3 : Hid (Below W.heap.size W w3) := HB2.out.trans (hb3.mono HB2.out.size)
  clear hrow hb3
  go_wp2_with fail
  refine Calls.mono (steps_disk db _ _ w3 HD3.out) ?_
  rintro e w4 ⟨rfl, hw4⟩
  obtain rfl := hw4.symm
  go_wp2
  go_ret
  exact ⟨rfl, HB3.out⟩
end Go.Proofs.YtmpdkccmcnegkaaDoor
