/-
  A disk held against its model.
-/
import Derived.Test.YtmpdkccmcnegkaaDoorIAcD
namespace Go.Proofs.YtmpdkccmcnegkaaDoor
open Go.RowKit Go.Maps
set_option maxRecDepth 100000 in
set_option maxHeartbeats 6400000 in
theorem same_ok (db b : Nat) (P Q : Nat → Prop) (s : DkSt) (en : Value) (W : World) (hD : DkAt W P db s) (hM : MdAt W Q b s) (he : W.cell? ⟨1, 0, none⟩ = some en) :
    Calls Tryd.prog 10 #[.pointer (some ⟨db, 0, none⟩), .pointer (some ⟨b, 0, none⟩)] W fun e w' => e = .returned (.bool true) ∧ Below W.heap.size W w' := by
  have HD : Hid (DkAt W P db s) := hD
  have HM : Hid (MdAt W Q b s) := hM
  have HE : Hid (∀ X, Below W.heap.size W X → X.cell? ⟨1, 0, none⟩ = some en) := fun X hX => (hX.cell (World.block_lt_of_cell? W _ he)).trans he
  have HNm : Hid _ := names_disk db P s W hD
  clear hD hM he
  go_enter Tryd.func10, Tryd.ntmps10
  go_upto_region 1 with fail
  go_wp2_with fail
  refine Calls.mono HNm.out ?_
  rintro e w1 ⟨⟨v, rfl, hrow⟩, hb1⟩
  obtain ⟨la, lc, rfl⟩ := own_slC hrow
  have HRow : Hid (w1.ownsRow W.heap.size 9 1 (.slice la s.fs.length lc) s.fs.length (strC (s.fs.map (·.1)))) := hrow
  have HB1 : Hid (Below W.heap.size W w1) := hb1
  have HM1 : Hid (MdAt w1 Q b s) := HM.out.below hb1
  have HD1 : Hid (DkAt w1 P db s) := HD.out.below hb1
  obtain ⟨na, nc, ta, tc, lm, hb, _, _, hr⟩ := HM1.out.box
  have HR : Hid (MdR w1 Q s.fs na nc ta tc) := hr
  obtain ⟨L, HL⟩ := hid_nm s.fs.length
  have hL40 : L ≤ 40 := by rw [← HL.out]; exact HM1.out.ok.len
  have HC : Hid (∀ X, Below w1.heap.size w1 X → X.cell? ⟨b, 0, none⟩ = some (.slice na L nc) ∧ X.cell? ⟨b, 1, none⟩ = some (.slice ta L tc) ∧ X.cell? ⟨b, 5, none⟩ = some (.int .i64 s.done)) := fun X hX => by
    obtain ⟨⟨p0, p1, p2, p3, p4, p5⟩, _⟩ := row6 (blk_keep hX hb)
    rw [HL.out] at p0 p1
    exact ⟨p0, p1, p5⟩
  rw [HL.out]
  obtain ⟨us, HUs⟩ := hid_nm (fUsed s.fs)
  have HU1 : Hid (∀ X, Below w1.heap.size w1 X → Calls Tryd.prog 11 #[.pointer (some ⟨db, 0, none⟩)] X fun e w' => e = .returned (.int .i64 us) ∧ Below X.heap.size X w') := fun X hX => by rw [← HUs.out]; exact used_disk db P s X (HD1.out.below hX)
  have HU2 : Hid (∀ X, Below w1.heap.size w1 X → Calls Tryd.prog 19 #[.pointer (some ⟨b, 0, none⟩)] X fun e w' => e = .returned (.int .i64 us) ∧ w' = X) := fun X hX => by rw [← HUs.out]; exact used_md b Q s X (HM1.out.below hX)
  have HU3 : Hid (∀ X, Below w1.heap.size w1 X → Calls Tryd.prog 16 #[.pointer (some ⟨db, 0, none⟩)] X fun e w' => e = .returned (.int .i64 s.done) ∧ w' = X) := fun X hX => steps_disk db P s X (HD1.out.below hX)
  clear hb hr hrow hb1
  go_upto_region 2 with fail
  go_cut [34] (fun x wx => x = .bool false ∧ Hid (Below w1.heap.size w1 wx))
  case first =>
    have hbb : Below w1.heap.size w1 w1.drew := (Below.refl _ _).drew
    obtain ⟨p0, p1, p5⟩ := HC.out _ hbb
    go_region_law (first
      | (go_simp; (with_reducible refine Calls.mono (HU1.out _ hbb) ?_); rintro e w3 ⟨rfl, hb3⟩; replace hbb := hbb.trans (hb3.mono hbb.size); obtain ⟨p0, p1, p5⟩ := HC.out _ hbb)
      | (go_simp; (with_reducible refine Calls.mono (HU2.out _ hbb) ?_); rintro e w4 ⟨rfl, hw4⟩; obtain rfl := hw4.symm)
      | (go_simp; (with_reducible refine Calls.mono (HU3.out _ hbb) ?_); rintro e w5 ⟨rfl, hw5⟩; obtain rfl := hw5.symm))
    all_goals
      have HH : Hid (Below w1.heap.size w1 _) := hbb
      clear hbb
      go_wp2
      go_meet
      exact ⟨rfl, HH⟩
  case rest =>
    obtain ⟨rfl, HBw⟩ := hcut
    rename World => w2
    have HB2 : Hid (Below w1.heap.size w1 w2) := HBw
    clear HBw
    go_wp2
    go_loopw [6] (fun x wr => ∃ i : Nat, i ≤ L ∧ x = .int .i64 i ∧ Hid (Below w1.heap.size w1 wr)) (fun x _ => L - (intOf x).toNat)
    case atStart => exact ⟨0, Nat.zero_le _, rfl, HB2⟩
    case round =>
      obtain ⟨i, hi, rfl, HBr⟩ := hrel
      by_cases hlt : i < L
      · have hlt' : i < s.fs.length := by rw [HL.out]; exact hlt
        have HRw : Hid (wr.ownsRow W.heap.size 9 1 (.slice la L lc) L (strC (s.fs.map (·.1)))) := (by have := ow_kept HRow.out HBr.out; rw [HL.out] at this; exact this)
        obtain ⟨g, hg, hc⟩ := row_at HRw.out (j := i) (by rw [List.length_map]; exact hlt')
        subst hg
        rw [List.getElem_map] at hc
        obtain ⟨x, HX⟩ := hid_nm s.fs[i].1
        obtain ⟨y, HY⟩ := hid_nm s.fs[i].2
        rw [HX.out] at hc
        have hmem := List.getElem_mem hlt'
        have hxs : x.size ≤ maxLen := by
          rw [← HX.out]
          have := (HD1.out.ok.each _ hmem).2
          unfold maxLen; omega
        have HRd : Hid (Calls Tryd.prog 12 #[.pointer (some ⟨db, 0, none⟩), .string x] wr fun e w' => e = .returned (.tuple #[.string y, .nilIface]) ∧ Below wr.heap.size wr w') := (by
          have h := read_disk db P s x hxs en wr (HD1.out.below HBr.out) (HE.out wr (HB1.out.trans (HBr.out.mono HB1.out.size)))
          have e1 : fHas s.fs x = true := fHas_iff.2 ⟨_, hmem, HX.out⟩
          have e2 : fGet s.fs x = some y := by rw [← HX.out, ← HY.out]; exact fGet_some HD1.out.ok.srt hmem
          rw [e1, e2] at h
          exact h)
        go_wp2_with fail
        refine Calls.mono HRd.out ?_
        rintro e w3 ⟨rfl, hb3⟩
        have HB3 : Hid (Below w1.heap.size w1 w3) := HBr.out.trans (hb3.mono HBr.out.size)
        have hc3 := (hb3.cell (World.block_lt_of_cell? wr _ hc)).trans hc
        obtain ⟨p0, p1, p5⟩ := HC.out _ HB3.out
        have hr3 : MdR w3 Q s.fs na nc ta tc := HR.out.stay (fun k hk hq => HB3.out.block k hk) (fun _ h => h)
        have hn3 := hr3.nr
        have ht3 := hr3.tr
        obtain ⟨gn, hgn, hcn⟩ := row_at hn3 (j := i) (by rw [List.length_map]; exact hlt')
        obtain ⟨gt, hgt, hct⟩ := row_at ht3 (j := i) (by rw [List.length_map]; exact hlt')
        subst hgn hgt
        rw [List.getElem_map, HX.out] at hcn
        rw [List.getElem_map, HY.out] at hct
        clear hr3 hn3 ht3 hc hb3 hmem
        go_wp2
        go_quiet (fail)
        go_wp2
        go_roundw
        case rel => exact ⟨i + 1, by omega, by go_num, HB3.out.trans (below_dW (Below.refl _ _) _)⟩
        case measure => simp [intOf]; omega
      · obtain rfl : i = L := by omega
        go_wp2
        go_ret
        exact ⟨rfl, HB1.out.trans (HBr.out.mono HB1.out.size)⟩
end Go.Proofs.YtmpdkccmcnegkaaDoor
