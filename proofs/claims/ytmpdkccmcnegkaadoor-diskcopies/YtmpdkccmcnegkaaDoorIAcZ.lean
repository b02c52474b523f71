/-
  The walk of the law DiskCopies, whole.
-/
import Derived.Test.YtmpdkccmcnegkaaDoorIAcY
namespace Go.Proofs.YtmpdkccmcnegkaaDoor
open Go.RowKit Go.Maps
set_option maxRecDepth 100000 in
set_option maxHeartbeats 25600000 in
theorem diskCopies_walk (q : Int) (hq : -9223372036854775808 ≤ q ∧ q ≤ 9223372036854775807) (l : List Ac) (aa : Option Addr) (c : Nat) (l2 : List Ac) (ab : Option Addr) (c2 : Nat) (W : World) (A : Nat → Addr) (hE : Errs W A) (hl : LiesA W aa l) (hIn : ∀ x ∈ l, x.In) (hln : l.length ≤ maxLen) (hl2 : LiesA W ab l2) (hIn2 : ∀ x ∈ l2, x.In) (hln2 : l2.length ≤ maxLen) :
    Calls Tryd.prog 4 #[.int .i64 q, .slice aa l.length c, .slice ab l2.length c2] W fun e w' => e = .returned (.bool true) ∧ Below W.heap.size W w' := by
  have HE : Hid (∀ X, Below W.heap.size W X → Errs X A) := fun X hX => hE.keep hX
  have HE0 : Hid (Errs W A) := hE
  have HLl : Hid (LiesA W aa l) := hl
  have HIn : Hid (∀ x ∈ l, x.In) := hIn
  have HLl2 : Hid (LiesA W ab l2) := hl2
  have HIn2 : Hid (∀ x ∈ l2, x.In) := hIn2
  have hln' : l.length ≤ 9223372036854775807 := hln
  have hln2' : l2.length ≤ 9223372036854775807 := hln2
  obtain ⟨n, HN⟩ := hid_nm l.length
  obtain ⟨n2, HN2⟩ := hid_nm l2.length
  rw [HN.out] at hln' ⊢
  rw [HN2.out] at hln2' ⊢
  clear hE hl hIn hln hl2 hIn2 hln2
  go_enter Tryd.func4, Tryd.ntmps4
  go_wp2_with fail
  refine Calls.mono (fresh_ok W) ?_
  rintro e w1 ⟨rfl, hb1⟩
  have HB1 : Hid (Below W.heap.size W w1) := hb1
  clear hb1
  by_cases hn30 : 30 < n
  · go_wp2
    go_ret
    exact ⟨rfl, HB1.out⟩
  by_cases hn31 : 30 < n2
  · go_wp2
    go_ret
    exact ⟨rfl, HB1.out⟩
  by_cases hq0 : q < 0
  · go_wp2
    go_ret
    exact ⟨rfl, HB1.out⟩
  by_cases hq5 : 500000 < q
  · go_wp2
    go_ret
    exact ⟨rfl, HB1.out⟩
  obtain ⟨qn, rfl⟩ : ∃ qn : Nat, q = qn := ⟨q.toNat, by omega⟩
  have hqn : qn ≤ 500000 := by omega
  go_wp2_with fail
  refine Calls.mono (new_ok qn hqn w1) ?_
  rintro e w2 ⟨⟨db, rfl, hd2⟩, hb2⟩
  have HB2 : Hid (Below W.heap.size W w2) := HB1.out.trans (hb2.mono HB1.out.size)
  have HD2 : Hid (DkAt w2 (NewP w1 w2) db ⟨[], 0, false, 0, qn⟩) := hd2
  have HW12 : Hid (W.heap.size ≤ w1.heap.size) := HB1.out.size
  clear hd2 hb2
  have HI0 : Hid (LpI W db w2.heap.size qn 0 ⟨[], 0, false, 0, qn⟩ (NewP w1 w2) (fun k => k = w2.heap.size) (w2.alloc (.cells (mdBox none 0 0 none 0 qn false 0 0) 33))) := (by
    have hb : Below w2.heap.size w2 (w2.alloc (.cells (mdBox none 0 0 none 0 qn false 0 0) 33)) := (Below.refl _ _).alloc (Nat.le_refl _) _
    exact ⟨HD2.out.below hb, md_new w2 qn hqn, fun k hp hq => by have := hp.2; omega, fun k hk => Nat.le_trans HW12.out hk.1, fun k hk => by rw [hk]; exact HB2.out.size, HB2.out.trans (hb.mono HB2.out.size), Nat.zero_le _, rfl⟩)
  clear HD2
  go_wp2
  go_loopw [11] (fun x wr => ∃ i : Nat, i ≤ n ∧ x = .int .i64 i ∧ Hid (∃ s P Q, LpI W db w2.heap.size qn i s P Q wr)) (fun x _ => n - (intOf x).toNat)
  case atStart => exact ⟨0, Nat.zero_le _, rfl, ⟨_, _, _, HI0.out⟩⟩
  case round =>
    obtain ⟨i, hi, rfl, HI⟩ := hrel
    obtain ⟨s, P, Q, hI⟩ := HI.out
    have HIr : Hid (LpI W db w2.heap.size qn i s P Q wr) := hI
    clear HI hI
    by_cases hlt : i < n
    · have hlt' : i < l.length := by rw [HN.out]; exact hlt
      obtain ⟨xb, xo, hab, c0, c1, c2', c3⟩ := (HLl.out.keep HIr.out.old) i hlt'
      subst hab
      have HIx : Hid (l[i].In) := HIn.out _ (List.getElem_mem hlt')
      obtain ⟨x, HX⟩ := hid_nm l[i]
      rw [HX.out] at c0 c1 c2' c3 HIx
      by_cases h500 : 500 < x.tx.size
      · go_wp2
        go_ret
        exact ⟨rfl, HIr.out.old⟩
      have hdn : s.done ≤ 1000000000 := by have := HIr.out.done; omega
      have HT5 : Hid (x.tx.size ≤ 500) := (by show _ ≤ _; omega)
      go_wp2_with fail
      refine Calls.mono (do_md w2.heap.size Q s x HIx.out HT5.out hdn wr HIr.out.md) ?_
      rintro e w3 ⟨rfl, hm3, ho3⟩
      have HM3 : Hid (MdAt w3 (Gr Q wr w3) w2.heap.size (s.stp x).2) := hm3
      have HO3 : Hid (Off Q wr w3) := ho3
      have HD3 : Hid (DkAt w3 P db s) := (HIr.out.mid ho3).1
      have HB3 : Hid (Below W.heap.size W w3) := (HIr.out.mid ho3).2
      obtain ⟨xb', xo', hab, d0, d1, d2, d3⟩ := (HLl.out.keep HB3.out) i hlt'
      injection hab with hab
      injection hab with hab1 hab2
      subst hab1 hab2
      rw [HX.out] at d0 d1 d2 d3
      clear hm3 ho3 c0 c1 c2' c3
      go_wp2_with fail
      refine Calls.mono (act_disk db P s x HIx.out HT5.out hdn _ _ _ _ w3 HD3.out ((HE.out w3 HB3.out).erc P (fun k hk => errs_lt HE0.out (Nat.le_refl _) (HIr.out.pn k hk)))) ?_
      rintro e w4 ⟨rfl, hd4, ho4⟩
      have HI4 : Hid (LpI W db w2.heap.size qn (i + 1) (s.stp x).2 (Gr P w3 w4) (Gr Q wr w3) w4) := HIr.out.acts HT5.out HM3.out HO3.out hd4 ho4
      clear hd4 ho4 d0 d1 d2 d3
      go_wp2
      go_roundw
      case rel => exact ⟨i + 1, by omega, by go_num, ⟨_, _, _, HI4.out⟩⟩
      case measure => simp [intOf]; omega
    · obtain rfl : i = n := by omega
      go_wp2_with fail
      refine Calls.mono (copy_disk db P s wr HIr.out.dk) ?_
      rintro e w3 ⟨⟨gd, rfl, hg3⟩, hb3⟩
      have HT3 : Hid (Tri W db w2.heap.size gd qn i i s s P Q (NewP wr w3) w3) := ⟨HIr.out.below hb3, hg3, fun k hp hr => by have := HIr.out.dk.lt k hp; have := hr.1; omega, fun k hp hr => by have := HIr.out.md.lt k hp; have := hr.1; omega, fun k hk => Nat.le_trans HIr.out.old.size hk.1, HIr.out.done⟩
      generalize NewP wr w3 = R at HT3
      clear hg3 hb3
      go_wp2_with fail
      refine Calls.mono (same_ok gd w2.heap.size R Q s (errV (A 4)) w3 HT3.out.ck HT3.out.two.md (((HE.out w3 HT3.out.two.old).at_ 4 (by omega)).var)) ?_
      rintro e w4 ⟨rfl, hb4⟩
      have HT4 : Hid (Tri W db w2.heap.size gd qn i i s s P Q R w4) := HT3.out.below hb4
      clear hb4 HT3
      have HJ0 : Hid (Tri W db w2.heap.size gd qn i (i + 0) s (runs s (l2.take 0)) P Q R w4) := HT4.out
      clear HT4 HIr
      go_wp2
      go_loopw [13] (fun x wx => ∃ j : Nat, j ≤ n2 ∧ x = .int .i64 j ∧ Hid (∃ R, Tri W db w2.heap.size gd qn i (i + j) s (runs s (l2.take j)) P Q R wx) ∧ Hid (∀ k (h : k < l2.length), k < j → l2[k].tx.size ≤ 500)) (fun x _ => n2 - (intOf x).toNat)
      case atStart => exact ⟨0, Nat.zero_le _, rfl, ⟨_, HJ0.out⟩, fun k _ h => absurd h (Nat.not_lt_zero _)⟩
      case round =>
        rename World => wx
        obtain ⟨j, hj, rfl, HJ, HTx⟩ := hrel
        obtain ⟨R2, hJ⟩ := HJ.out
        have HJr : Hid (Tri W db w2.heap.size gd qn i (i + j) s (runs s (l2.take j)) P Q R2 wx) := hJ
        clear HJ hJ HJ0
        by_cases hlt2 : j < n2
        · have hlt' : j < l2.length := by rw [HN2.out]; exact hlt2
          obtain ⟨xb, xo, hab, c0, c1, c2', c3⟩ := (HLl2.out.keep HJr.out.two.old) j hlt'
          subst hab
          have HIx : Hid (l2[j].In) := HIn2.out _ (List.getElem_mem hlt')
          have HRun := runs_step s l2 j hlt'
          obtain ⟨x, HX⟩ := hid_nm l2[j]
          rw [HX.out] at c0 c1 c2' c3 HIx HRun
          have HRn : Hid (runs s (l2.take (j + 1)) = ((runs s (l2.take j)).stp x).2) := HRun
          clear HRun
          by_cases h500 : 500 < x.tx.size
          · go_wp2
            go_ret
            exact ⟨rfl, HJr.out.two.old⟩
          have hdn : (runs s (l2.take j)).done ≤ 1000000000 := by have := HJr.out.dn; omega
          have HT5 : Hid (x.tx.size ≤ 500) := (by show _ ≤ _; omega)
          have HTn : Hid (∀ k (h : k < l2.length), k < j + 1 → l2[k].tx.size ≤ 500) := fun k h hk => by
            by_cases e : k = j
            · subst e; rw [HX.out]; exact HT5.out
            · exact HTx.out k h (by omega)
          go_wp2_with fail
          refine Calls.mono (act_disk gd R2 _ x HIx.out HT5.out hdn _ _ _ _ wx HJr.out.ck ((HE.out wx HJr.out.two.old).erc R2 (fun k hk => errs_lt HE0.out (Nat.le_refl _) (HJr.out.rn k hk)))) ?_
          rintro e w5 ⟨rfl, hd5, ho5⟩
          have HJ5 : Hid (Tri W db w2.heap.size gd qn i (i + (j + 1)) s (runs s (l2.take (j + 1))) P Q (Gr R2 wx w5) w5) := (by
            have := HJr.out.actC HT5.out hd5 ho5
            rw [HRn.out]; exact this)
          clear hd5 ho5 c0 c1 c2' c3
          go_wp2
          go_roundw
          case rel => exact ⟨j + 1, by omega, by go_num, ⟨_, HJ5.out⟩, HTn⟩
          case measure => simp [intOf]; omega
        · obtain rfl : j = n2 := by omega
          have HTall : Hid (∀ k (h : k < l2.length), l2[k].tx.size ≤ 500) := fun k h => HTx.out k h (by rw [← HN2.out]; exact h)
          have HAll : Hid (l2.take j = l2) := (by show _ = _; rw [← HN2.out, List.take_length])
          rw [HAll.out] at HJr
          clear HTx HAll
          go_wp2_with fail
          refine Calls.mono (same_ok db w2.heap.size P Q s (errV (A 4)) wx HJr.out.two.dk HJr.out.two.md (((HE.out wx HJr.out.two.old).at_ 4 (by omega)).var)) ?_
          rintro e w5 ⟨rfl, hb5⟩
          have HK0 : Hid (Tri W db w2.heap.size gd qn (i + 0) (i + j) (runs s (l2.take 0)) (runs s l2) P Q R2 w5) := HJr.out.below hb5
          clear hb5 HJr
          go_wp2
          go_loopw [14, 15] (fun x _ wy => ∃ m : Nat, m ≤ j ∧ x = .int .i64 m ∧ Hid (∃ P Q, Tri W db w2.heap.size gd qn (i + m) (i + j) (runs s (l2.take m)) (runs s l2) P Q R2 wy)) (fun x _ _ => j - (intOf x).toNat)
          case atStart => exact ⟨0, Nat.zero_le _, rfl, ⟨_, _, HK0.out⟩⟩
          case round =>
            rename World => wy
            obtain ⟨m, hm, rfl, HK⟩ := hrel
            obtain ⟨P2, Q2, hK⟩ := HK.out
            have HKr : Hid (Tri W db w2.heap.size gd qn (i + m) (i + j) (runs s (l2.take m)) (runs s l2) P2 Q2 R2 wy) := hK
            clear HK hK HK0
            by_cases hlt3 : m < j
            · have hlt' : m < l2.length := by rw [HN2.out]; exact hlt3
              obtain ⟨xb, xo, hab, c0, c1, c2', c3⟩ := (HLl2.out.keep HKr.out.two.old) m hlt'
              subst hab
              have HIx : Hid (l2[m].In) := HIn2.out _ (List.getElem_mem hlt')
              have HT5 : Hid (l2[m].tx.size ≤ 500) := HTall.out m hlt'
              have HRun := runs_step s l2 m hlt'
              obtain ⟨x, HX⟩ := hid_nm l2[m]
              rw [HX.out] at c0 c1 c2' c3 HIx HRun HT5
              have HRn : Hid (runs s (l2.take (m + 1)) = ((runs s (l2.take m)).stp x).2) := HRun
              clear HRun
              generalize runs s (l2.take m) = sm at HKr HRn
              have hdn : sm.done ≤ 1000000000 := by have := HKr.out.two.done; omega
              go_wp2_with fail
              refine Calls.mono (do_md w2.heap.size Q2 sm x HIx.out HT5.out hdn wy HKr.out.two.md) ?_
              rintro e w6 ⟨rfl, hm3, ho3⟩
              have HM3 : Hid (MdAt w6 (Gr Q2 wy w6) w2.heap.size (sm.stp x).2) := hm3
              have HO3 : Hid (Off Q2 wy w6) := ho3
              have HD3 : Hid (DkAt w6 P2 db sm) := (HKr.out.two.mid ho3).1
              have HB3 : Hid (Below W.heap.size W w6) := (HKr.out.two.mid ho3).2
              obtain ⟨xb', xo', hab, d0, d1, d2, d3⟩ := (HLl2.out.keep HB3.out) m hlt'
              injection hab with hab
              injection hab with hab1 hab2
              subst hab1 hab2
              rw [HX.out] at d0 d1 d2 d3
              clear hm3 ho3 c0 c1 c2' c3
              go_wp2_with fail
              refine Calls.mono (act_disk db P2 sm x HIx.out HT5.out hdn _ _ _ _ w6 HD3.out ((HE.out w6 HB3.out).erc P2 (fun k hk => errs_lt HE0.out (Nat.le_refl _) (HKr.out.two.pn k hk)))) ?_
              rintro e w7 ⟨rfl, hd4, ho4⟩
              have HI4 : Hid (Tri W db w2.heap.size gd qn (i + m + 1) (i + j) (sm.stp x).2 (runs s l2) (Gr P2 w6 w7) (Gr Q2 wy w6) R2 w7) := HKr.out.acts HT5.out HM3.out HO3.out hd4 ho4
              obtain ⟨ec, HEc⟩ := hid_nm (ev (errV (A 1)) (errV (A 4)) (errV (A 5)) (errV (A 7)) (sm.stp x).1)
              have HCd : Hid _ := coded_ev w7 A (HE.out w7 HI4.out.two.old) (sm.stp x).1 (stp_code sm x)
              rw [HEc.out] at HCd
              rw [HEc.out]
              clear hd4 ho4 d0 d1 d2 d3
              go_wp2_with fail
              refine Calls.mono HCd.out ?_
              rintro e w8 ⟨rfl, hb8⟩
              have HI8 : Hid (Tri W db w2.heap.size gd qn (i + (m + 1)) (i + j) (runs s (l2.take (m + 1))) (runs s l2) (Gr P2 w6 w7) (Gr Q2 wy w6) R2 w8) := (by rw [HRn.out]; exact HI4.out.below hb8)
              clear hb8 HI4
              go_wp2
              go_roundw
              case rel => exact ⟨m + 1, by omega, by go_num, ⟨_, _, HI8.out⟩⟩
              case measure => simp [intOf]; omega
            · obtain rfl : m = j := by omega
              have HAll : Hid (l2.take m = l2) := (by show _ = _; rw [← HN2.out, List.take_length])
              rw [HAll.out] at HKr
              go_wp2_with fail
              refine Calls.mono (same_ok db w2.heap.size P2 Q2 (runs s l2) (errV (A 4)) wy HKr.out.two.dk HKr.out.two.md (((HE.out wy HKr.out.two.old).at_ 4 (by omega)).var)) ?_
              rintro e w6 ⟨rfl, hb6⟩
              have HK6 : Hid (Tri W db w2.heap.size gd qn (i + m) (i + m) (runs s l2) (runs s l2) P2 Q2 R2 w6) := HKr.out.below hb6
              clear hb6
              go_wp2_with fail
              refine Calls.mono (same_ok gd w2.heap.size R2 Q2 (runs s l2) (errV (A 4)) w6 HK6.out.ck HK6.out.two.md (((HE.out w6 HK6.out.two.old).at_ 4 (by omega)).var)) ?_
              rintro e w7 ⟨rfl, hb7⟩
              go_wp2
              go_ret
              exact ⟨rfl, HK6.out.two.old.trans (hb7.mono HK6.out.two.old.size)⟩
end Go.Proofs.YtmpdkccmcnegkaaDoor
