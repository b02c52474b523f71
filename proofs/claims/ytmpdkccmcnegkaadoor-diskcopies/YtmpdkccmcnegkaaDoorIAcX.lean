/-
  The walk of the law DiskActs: its loop and its end.
-/
import Derived.Test.YtmpdkccmcnegkaaDoorIAcW
namespace Go.Proofs.YtmpdkccmcnegkaaDoor
open Go.RowKit Go.Maps
/-- What the law holds between two acts: a disk and its model, apart from one another. -/
structure LpI (W : World) (db b q i : Nat) (s : DkSt) (P Q : Nat → Prop) (wr : World) : Prop where
  dk : DkAt wr P db s
  md : MdAt wr Q b s
  ap : ∀ k, P k → Q k → False
  pn : ∀ k, P k → W.heap.size ≤ k
  qn : ∀ k, Q k → W.heap.size ≤ k
  old : Below W.heap.size W wr
  done : s.done ≤ 500 * i
  quo : s.quota = q
theorem LpI.below {W : World} {db b q i : Nat} {s : DkSt} {P Q : Nat → Prop} {wr w' : World} (h : LpI W db b q i s P Q wr) (hb : Below wr.heap.size wr w') : LpI W db b q i s P Q w' :=
  ⟨h.dk.below hb, h.md.below hb, h.ap, h.pn, h.qn, h.old.trans (hb.mono h.old.size), h.done, h.quo⟩
theorem LpI.acts {W : World} {db b q i : Nat} {s : DkSt} {P Q : Nat → Prop} {wr w3 w4 : World} {a : Ac} (h : LpI W db b q i s P Q wr) (ht : a.tx.size ≤ 500) (hm : MdAt w3 (Gr Q wr w3) b (s.stp a).2) (ho : Off Q wr w3) (hd : DkAt w4 (Gr P w3 w4) db (s.stp a).2) (ho2 : Off P w3 w4) : LpI W db b q (i + 1) (s.stp a).2 (Gr P w3 w4) (Gr Q wr w3) w4 := by
  have hs := h.old.size
  have h1 := ho.size
  refine ⟨hd, hm.off ho2 (fun k hp hq => ?_), fun k hp hq => ?_, fun k hk => ?_, fun k hk => ?_, ?_, ?_, (stp_quota s a).trans h.quo⟩
  · rcases hq with hq | ⟨h3, _⟩
    · exact h.ap k hp hq
    · have := h.dk.lt k hp; omega
  · rcases hp with hp | ⟨h2, _⟩
    · rcases hq with hq | ⟨h3, _⟩
      · exact h.ap k hp hq
      · have := h.dk.lt k hp; omega
    · rcases hq with hq | ⟨_, h3⟩
      · have := h.md.lt k hq; omega
      · omega
  · rcases hk with hk | ⟨hk, _⟩
    · exact h.pn k hk
    · omega
  · rcases hk with hk | ⟨hk, _⟩
    · exact h.qn k hk
    · omega
  · have b3 := h.old.trans (ho.below hs h.qn)
    exact b3.trans (ho2.below b3.size h.pn)
  · have h5 := stp_done s a ht
    have h6 := h.done
    omega
theorem LpI.mid {W : World} {db b q i : Nat} {s : DkSt} {P Q : Nat → Prop} {wr w3 : World} (h : LpI W db b q i s P Q wr) (ho : Off Q wr w3) : DkAt w3 P db s ∧ Below W.heap.size W w3 :=
  ⟨h.dk.off ho (fun k hq hp => h.ap k hp hq), h.old.trans (ho.below h.old.size h.qn)⟩
theorem md_new (w : World) (q : Nat) (hq : q ≤ 500000) : MdAt (w.alloc (.cells (mdBox none 0 0 none 0 q false 0 0) 33)) (fun k => k = w.heap.size) w.heap.size ⟨[], 0, false, 0, q⟩ := by
  refine ⟨⟨none, 0, none, 0, 0, heap_alloc_new w _, fun h => (by cases h), ⟨by simp, by omega⟩, ⟨World.ownsRow_nil _ _ _ _, World.ownsRow_nil _ _ _ _, fun a e => (by cases e), fun a e => (by cases e), fun a a' e _ => (by cases e)⟩⟩, rfl, fun k hk => by rw [hk]; simp, ⟨List.Pairwise.nil, Nat.zero_le _, fun p hp => absurd hp (by simp), Nat.zero_le _, hq, Nat.zero_le _⟩⟩
set_option maxRecDepth 100000 in
set_option maxHeartbeats 12800000 in
theorem diskActs_walk (q : Int) (hq : -9223372036854775808 ≤ q ∧ q ≤ 9223372036854775807) (l : List Ac) (aa : Option Addr) (c : Nat) (nm : ByteArray) (hnm : nm.size ≤ maxLen) (W : World) (A : Nat → Addr) (hE : Errs W A) (hl : LiesA W aa l) (hIn : ∀ x ∈ l, x.In) (hln : l.length ≤ maxLen) :
    Calls Tryd.prog 3 #[.int .i64 q, .slice aa l.length c, .string nm] W fun e w' => e = .returned (.bool true) ∧ Below W.heap.size W w' := by
  have HE : Hid (∀ X, Below W.heap.size W X → Errs X A) := fun X hX => hE.keep hX
  have HE0 : Hid (Errs W A) := hE
  have HLl : Hid (LiesA W aa l) := hl
  have HIn : Hid (∀ x ∈ l, x.In) := hIn
  have hln' : l.length ≤ 9223372036854775807 := hln
  have hnm' : nm.size ≤ 9223372036854775807 := hnm
  obtain ⟨n, HN⟩ := hid_nm l.length
  rw [HN.out] at hln' ⊢
  clear hE hl hIn hln
  go_enter Tryd.func3, Tryd.ntmps3
  go_wp2_with fail
  refine Calls.mono (fresh_ok W) ?_
  rintro e w1 ⟨rfl, hb1⟩
  have HB1 : Hid (Below W.heap.size W w1) := hb1
  clear hb1
  by_cases hn60 : 60 < n
  · go_wp2
    go_ret
    exact ⟨rfl, HB1.out⟩
  by_cases hn100 : 100 < nm.size
  · go_wp2
    go_ret
    exact ⟨rfl, HB1.out⟩
  have hE1 := HE.out w1 HB1.out
  have hEb : w1.cell? ⟨0, 0, none⟩ = some (errV (A 1)) := (hE1.at_ 1 (by omega)).var
  by_cases hqb : q < 0 ∨ 500000 < q
  · have HNew : Hid _ := new_bad q hqb (errV (A 1)) w1 hEb
    clear hEb hE1
    go_wp2_with fail
    refine Calls.mono HNew.out ?_
    rintro e w2 ⟨rfl, hb2⟩
    have HB2 : Hid (Below W.heap.size W w2) := HB1.out.trans (hb2.mono HB1.out.size)
    have HCd : Hid _ := coded_sent w2 A (HE.out w2 HB2.out) 1 (by omega) 2 true (by decide)
    clear hb2
    by_cases hq0 : q < 0
    · go_wp2_with fail
      refine Calls.mono HCd.out ?_
      rintro e w3 ⟨rfl, hb3⟩
      have HB3 : Hid (Below W.heap.size W w3) := HB2.out.trans (hb3.mono HB2.out.size)
      go_wp2
      go_ret
      exact ⟨rfl, HB3.out⟩
    · have hq5 : 500000 < q := by omega
      go_wp2_with fail
      refine Calls.mono HCd.out ?_
      rintro e w3 ⟨rfl, hb3⟩
      have HB3 : Hid (Below W.heap.size W w3) := HB2.out.trans (hb3.mono HB2.out.size)
      go_wp2
      go_ret
      exact ⟨rfl, HB3.out⟩
  obtain ⟨qn, rfl⟩ : ∃ qn : Nat, q = qn := ⟨q.toNat, by omega⟩
  have hqn : qn ≤ 500000 := by omega
  clear hqb hEb hE1
  go_wp2_with fail
  refine Calls.mono (new_ok qn hqn w1) ?_
  rintro e w2 ⟨⟨db, rfl, hd2⟩, hb2⟩
  have HB2 : Hid (Below W.heap.size W w2) := HB1.out.trans (hb2.mono HB1.out.size)
  have HD2 : Hid (DkAt w2 (NewP w1 w2) db ⟨[], 0, false, 0, qn⟩) := hd2
  have HW12 : Hid (W.heap.size ≤ w1.heap.size) := HB1.out.size
  clear hd2 hb2
  have HI0 : Hid (LpI W db w2.heap.size qn 0 ⟨[], 0, false, 0, qn⟩ (NewP w1 w2) (fun k => k = w2.heap.size) (w2.alloc (.cells (mdBox none 0 0 none 0 qn false 0 0) 33))) := (by
    have hb : Below w2.heap.size w2 (w2.alloc (.cells (mdBox none 0 0 none 0 qn false 0 0) 33)) := (Below.refl _ _).alloc (Nat.le_refl _) _
    exact ⟨HD2.out.below hb, md_new w2 qn hqn, fun k hp hq => by have := hp.2; omega, fun k hk => Nat.le_trans HW12.out hk.1, fun k hk => by rw [hk]; exact HB2.out.size, HB2.out.trans (hb.mono HB2.out.size), Nat.zero_le _, rfl⟩)
  clear HD2
  go_wp2
  go_loopw [11] (fun x wr => ∃ i : Nat, i ≤ n ∧ x = .int .i64 i ∧ Hid (∃ s P Q, LpI W db w2.heap.size qn i s P Q wr)) (fun x _ => n - (intOf x).toNat)
  case atStart => exact ⟨0, Nat.zero_le _, rfl, ⟨_, _, _, HI0.out⟩⟩
  case round =>
    obtain ⟨i, hi, rfl, HI⟩ := hrel
    obtain ⟨s, P, Q, hI⟩ := HI.out
    have HIr : Hid (LpI W db w2.heap.size qn i s P Q wr) := hI
    clear HI hI
    by_cases hlt : i < n
    · have hlt' : i < l.length := by rw [HN.out]; exact hlt
      obtain ⟨ab, ao, hab, c0, c1, c2, c3⟩ := (HLl.out.keep HIr.out.old) i hlt'
      subst hab
      have HIx : Hid (l[i].In) := HIn.out _ (List.getElem_mem hlt')
      obtain ⟨x, HX⟩ := hid_nm l[i]
      rw [HX.out] at c0 c1 c2 c3 HIx
      by_cases h500 : 500 < x.tx.size
      · go_wp2
        go_ret
        exact ⟨rfl, HIr.out.old⟩
      by_cases h100 : 100 < x.nm.size
      · go_wp2
        go_ret
        exact ⟨rfl, HIr.out.old⟩
      have hdn : s.done ≤ 1000000000 := by have := HIr.out.done; omega
      have HT5 : Hid (x.tx.size ≤ 500) := (by show _ ≤ _; omega)
      go_wp2_with fail
      refine Calls.mono (do_md w2.heap.size Q s x HIx.out HT5.out hdn wr HIr.out.md) ?_
      rintro e w3 ⟨rfl, hm3, ho3⟩
      have HM3 : Hid (MdAt w3 (Gr Q wr w3) w2.heap.size (s.stp x).2) := hm3
      have HO3 : Hid (Off Q wr w3) := ho3
      have HD3 : Hid (DkAt w3 P db s) := (HIr.out.mid ho3).1
      have HB3 : Hid (Below W.heap.size W w3) := (HIr.out.mid ho3).2
      obtain ⟨ab', ao', hab, d0, d1, d2, d3⟩ := (HLl.out.keep HB3.out) i hlt'
      injection hab with hab
      injection hab with hab1 hab2
      subst hab1 hab2
      rw [HX.out] at d0 d1 d2 d3
      clear hm3 ho3 c0 c1 c2 c3
      go_wp2_with fail
      refine Calls.mono (act_disk db P s x HIx.out HT5.out hdn _ _ _ _ w3 HD3.out ((HE.out w3 HB3.out).erc P (fun k hk => errs_lt HE0.out (HIr.out.pn k hk |> fun h => Nat.le_refl _) (HIr.out.pn k hk)))) ?_
      rintro e w4 ⟨rfl, hd4, ho4⟩
      have HI4 : Hid (LpI W db w2.heap.size qn (i + 1) (s.stp x).2 (Gr P w3 w4) (Gr Q wr w3) w4) := HIr.out.acts HT5.out HM3.out HO3.out hd4 ho4
      obtain ⟨ec, HEc⟩ := hid_nm (ev (errV (A 1)) (errV (A 4)) (errV (A 5)) (errV (A 7)) (s.stp x).1)
      have HCd : Hid _ := coded_ev w4 A (HE.out w4 HI4.out.old) (s.stp x).1 (stp_code s x)
      rw [HEc.out] at HCd
      rw [HEc.out]
      clear hd4 ho4 d0 d1 d2 d3
      generalize (s.stp x).2 = s' at HI4
      generalize Gr P w3 w4 = P' at HI4
      generalize Gr Q wr w3 = Q' at HI4 HM3
      go_wp2_with fail
      refine Calls.mono HCd.out ?_
      rintro e w5 ⟨rfl, hb5⟩
      have HI5 : Hid (LpI W db w2.heap.size qn (i + 1) s' P' Q' w5) := HI4.out.below hb5
      clear hb5
      go_wp2_with fail
      refine Calls.mono (same_ok db w2.heap.size P' Q' s' (errV (A 4)) w5 HI5.out.dk HI5.out.md (((HE.out w5 HI5.out.old).at_ 4 (by omega)).var)) ?_
      rintro e w6 ⟨rfl, hb6⟩
      have HI6 : Hid (LpI W db w2.heap.size qn (i + 1) s' P' Q' w6) := HI5.out.below hb6
      clear hb6
      go_wp2_with fail
      refine Calls.mono (used_disk db P' s' w6 HI6.out.dk) ?_
      rintro e w7 ⟨rfl, hb7⟩
      have HI7 : Hid (LpI W db w2.heap.size qn (i + 1) s' P' Q' w7) := HI6.out.below hb7
      have hus : fUsed s'.fs ≤ qn := by have := HI6.out.dk.ok.used; rw [HI6.out.quo] at this; exact this
      generalize fUsed s'.fs = us at hus
      clear hb7
      go_wp2
      go_roundw
      case rel => exact ⟨i + 1, by omega, by go_num, ⟨_, _, _, HI7.out⟩⟩
      case measure => simp [intOf]; omega
    · obtain rfl : i = n := by omega
      have HRd : Hid _ := read_disk db P s nm hnm (errV (A 4)) wr HIr.out.dk (((HE.out wr HIr.out.old).at_ 4 (by omega)).var)
      go_wp2_with fail
      refine Calls.mono HRd.out ?_
      rintro e w3 ⟨rfl, hb3⟩
      have HI3 : Hid (LpI W db w2.heap.size qn i s P Q w3) := HIr.out.below hb3
      clear hb3
      obtain ⟨rs, HRs⟩ := hid_nm ((fGet s.fs nm).getD ⟨#[]⟩)
      obtain ⟨hs, HHs⟩ := hid_nm (fHas s.fs nm)
      rw [HRs.out, HHs.out]
      obtain ⟨er, HEr⟩ := hid_nm (if hs = true then Value.nilIface else errV (A 4))
      rw [HEr.out]
      go_wp2_with fail
      refine Calls.mono (find_md w2.heap.size Q s nm w3 HI3.out.md) ?_
      rintro e w4 ⟨⟨r, rfl, hF⟩, hw4⟩
      obtain rfl := hw4.symm
      clear hw4
      rcases hF with ⟨rfl, hno⟩ | ⟨j, hj, rfl, hnm2⟩
      · obtain rfl : hs = false := HHs.out.symm.trans hno
        obtain rfl : er = errV (A 4) := HEr.out.symm.trans (by simp)
        obtain rfl : rs = ⟨#[]⟩ := HRs.out.symm.trans (by rw [fGet_none hno]; rfl)
        have HCd : Hid _ := coded_sent w3 A (HE.out w3 HI3.out.old) 4 (by omega) 5 true (by decide)
        clear hno
        go_wp2_with fail
        refine Calls.mono HCd.out ?_
        rintro e w5 ⟨rfl, hb5⟩
        have HB5 : Hid (Below W.heap.size W w5) := HI3.out.old.trans (hb5.mono HI3.out.old.size)
        go_wp2
        go_ret
        exact ⟨rfl, HB5.out⟩
      · have hyes : fHas s.fs nm = true := fHas_iff.2 ⟨_, List.getElem_mem hj, hnm2⟩
        obtain rfl : hs = true := HHs.out.symm.trans hyes
        obtain rfl : er = .nilIface := HEr.out.symm.trans (by simp)
        have HRs2 : Hid (s.fs[j].2 = rs) := (by
          show _ = _
          rw [← HRs.out, ← hnm2, fGet_some HI3.out.dk.ok.srt (List.getElem_mem hj)]; rfl)
        obtain ⟨na, nc, ta, tc, lm, hb, _, _, hr⟩ := HI3.out.md.box
        obtain ⟨⟨p0, p1, p2, p3, p4, p5⟩, _⟩ := row6 hb
        obtain ⟨gt, hgt, hct⟩ := row_at hr.tr (j := j) (by rw [List.length_map]; exact hj)
        subst hgt
        rw [List.getElem_map, HRs2.out] at hct
        clear hb hr hyes hnm2
        go_wp2
        go_ret
        exact ⟨rfl, HI3.out.old⟩
end Go.Proofs.YtmpdkccmcnegkaaDoor
