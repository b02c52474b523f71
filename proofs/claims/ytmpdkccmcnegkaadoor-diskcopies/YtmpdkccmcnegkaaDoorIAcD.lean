/-
  An act on a disk; a disk held against its model.
-/
import Derived.Test.YtmpdkccmcnegkaaDoorIMdG
namespace Go.Proofs.YtmpdkccmcnegkaaDoor
open Go.RowKit Go.Maps
theorem DkAt.into {w : World} {P Q : Nat → Prop} {W : World} {b : Nat} {s : DkSt} (h : DkAt w Q b s) (hQ : ∀ k, Q k → Gr P W w k) (hl : ∀ k, P k → k < W.heap.size) (hW : W.heap.size ≤ w.heap.size) : DkAt w (Gr P W w) b s := h.gr hQ (fun k hk => by
  rcases hk with hk | ⟨_, hk⟩
  · exact Nat.lt_of_lt_of_le (hl k hk) hW
  · exact hk)
set_option maxRecDepth 100000 in
set_option maxHeartbeats 3200000 in
theorem act_disk (db : Nat) (P : Nat → Prop) (s : DkSt) (a : Ac) (ha : a.In) (ht : a.tx.size ≤ 500) (hd : s.done ≤ 1000000000) (be en ee se : Value) (W : World) (h : DkAt W P db s) (he : ErC W P be en ee se) :
    Calls Tryd.prog 9 #[.pointer (some ⟨db, 0, none⟩), acV a] W fun e w' => e = .returned (ev be en ee se (s.stp a).1) ∧ DkAt w' (Gr P W w') db (s.stp a).2 ∧ Off P W w' := by
  obtain ⟨w0, HW0, HX0, HB0⟩ := actBox W a
  obtain ⟨k, nm, tx, n⟩ := a
  have HD0 : Hid (DkAt w0 P db s) := h.below HB0.out
  have HE0 : Hid (ErC w0 P be en ee se) := he.below HB0.out
  have HO0 : Hid (Off P W w0) := Off.of_below HB0.out
  have HPl : Hid (∀ k, P k → k < W.heap.size) := h.lt
  obtain ⟨x0, x1, x2, x3⟩ := row4A HX0.out
  have hnm : nm.size ≤ maxLen := ha.2.1
  have htm : tx.size ≤ maxLen := ha.2.2.1
  have hn2 : n ≤ 9223372036854775807 := ha.2.2.2.2
  replace ht : tx.size ≤ 500 := ht
  clear h he ha
  by_cases k0 : k = 0
  · subst k0
    have HSt : Hid (s.stp ⟨0, nm, tx, n⟩ = s.app nm tx) := rfl
    rw [HSt.out]
    go_enter Tryd.func9, Tryd.ntmps9
    go_upto_region 1 with fail
    rw [HW0.out]
    go_wp2_with fail
    refine Calls.mono (append_disk db P s nm tx hnm ht hd be en ee se w0 HD0.out HE0.out) ?_
    rintro e w1 ⟨rfl, hd1, ho1⟩
    go_wp2
    go_ret
    exact ⟨rfl, hd1.into (Gr.sub (fun _ h => .inl h) HO0.out.size ho1.size) HPl.out (Nat.le_trans HO0.out.size ho1.size), HO0.out.trans ho1 (fun _ _ h => h)⟩
  by_cases k1 : k = 1
  · subst k1
    have HSt : Hid (s.stp ⟨1, nm, tx, n⟩ = s.ren nm tx) := rfl
    rw [HSt.out]
    go_enter Tryd.func9, Tryd.ntmps9
    go_upto_region 1 with fail
    rw [HW0.out]
    go_wp2_with fail
    refine Calls.mono (rename_disk db P s nm tx hnm htm hd be en ee se w0 HD0.out HE0.out) ?_
    rintro e w1 ⟨rfl, hd1, ho1⟩
    go_wp2
    go_ret
    exact ⟨rfl, hd1.into (fun _ h => .inl h) HPl.out (Nat.le_trans HO0.out.size ho1.size), HO0.out.trans ho1 (fun _ _ h => h)⟩
  by_cases k2 : k = 2
  · subst k2
    have HSt : Hid (s.stp ⟨2, nm, tx, n⟩ = s.rem nm) := rfl
    rw [HSt.out]
    go_enter Tryd.func9, Tryd.ntmps9
    go_upto_region 1 with fail
    rw [HW0.out]
    go_wp2_with fail
    refine Calls.mono (remove_disk db P s nm hnm hd be en ee se w0 HD0.out HE0.out) ?_
    rintro e w1 ⟨rfl, hd1, ho1, _⟩
    go_wp2
    go_ret
    exact ⟨rfl, hd1.into (fun _ h => .inl h) HPl.out (Nat.le_trans HO0.out.size ho1.size), HO0.out.trans ho1 (fun _ _ h => h)⟩
  by_cases k3 : k = 3
  · subst k3
    have HSt : Hid (s.stp ⟨3, nm, tx, n⟩ = if n < 0 then (2, s) else (0, { s with short := true, left := n.toNat })) := rfl
    rw [HSt.out]
    go_enter Tryd.func9, Tryd.ntmps9
    go_upto_region 1 with fail
    rw [HW0.out]
    go_wp2_with fail
    refine Calls.mono (cut_disk db P s n hn2 be w0 HD0.out HE0.out.b) ?_
    rintro e w1 ⟨rfl, hd1, hg1⟩
    have ho1 := off_of hg1 HD0.out.dbP
    by_cases hn0 : n < 0
    · rw [if_pos hn0] at hd1
      rw [if_pos hn0]
      have HD1 : Hid (DkAt w1 (Gr P W w1) db s) := hd1.into (fun _ h => .inl h) HPl.out (Nat.le_trans HO0.out.size ho1.size)
      have HF1 : Hid (Off P W w1) := HO0.out.trans ho1 (fun _ _ h => h)
      clear hd1 hg1 ho1
      go_wp2
      go_ret
      exact ⟨rfl, HD1.out, HF1.out⟩
    · rw [if_neg hn0] at hd1
      rw [if_neg hn0]
      have HD1 : Hid (DkAt w1 (Gr P W w1) db { s with short := true, left := n.toNat }) := hd1.into (fun _ h => .inl h) HPl.out (Nat.le_trans HO0.out.size ho1.size)
      have HF1 : Hid (Off P W w1) := HO0.out.trans ho1 (fun _ _ h => h)
      clear hd1 hg1 ho1
      go_wp2
      go_ret
      exact ⟨rfl, HD1.out, HF1.out⟩
  · have HSt : Hid (s.stp ⟨k, nm, tx, n⟩ = (0, { s with short := false, left := 0 })) := (by show _ = _; unfold DkSt.stp; rw [if_neg k0, if_neg k1, if_neg k2, if_neg k3])
    rw [HSt.out]
    have e0 : (k == 0) = false := beq_eq_false_iff_ne.2 k0
    have e1 : (k == 1) = false := beq_eq_false_iff_ne.2 k1
    have e2 : (k == 2) = false := beq_eq_false_iff_ne.2 k2
    have e3 : (k == 3) = false := beq_eq_false_iff_ne.2 k3
    go_enter Tryd.func9, Tryd.ntmps9
    go_upto_region 1 with fail
    rw [HW0.out]
    go_wp2_with fail
    refine Calls.mono (mend_disk db P s w0 HD0.out) ?_
    rintro e w1 ⟨rfl, hd1, hg1⟩
    have ho1 := off_of hg1 HD0.out.dbP
    go_wp2
    go_ret
    exact ⟨rfl, hd1.into (fun _ h => .inl h) HPl.out (Nat.le_trans HO0.out.size ho1.size), HO0.out.trans ho1 (fun _ _ h => h)⟩
end Go.Proofs.YtmpdkccmcnegkaaDoor
