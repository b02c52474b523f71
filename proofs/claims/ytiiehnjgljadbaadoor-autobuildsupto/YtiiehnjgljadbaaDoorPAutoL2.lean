/-
  auto.listsAround, walked.
-/
import Derived.Test.YtiiehnjgljadbaaDoorPBAutoK
namespace Go.Proofs.YtiiehnjgljadbaaDoor
open Go.RowKit
theorem Tryd.infoIs : (Tryd.prog.info? 39).map (fun i => (i.zero, i.size, i.bytes)) = some (some (.slice none 0 0), 1, 24) := by kernel_rfl
theorem sub_cnt (t : Tr) (j : Nat) (hj : j < t.sub.length) : t.sub[j].cnt + 1 ≤ t.cnt := by
  rw [Tr.cnt_eq t]
  have h : ∀ (ts : List Tr) (j : Nat) (hj : j < ts.length), ts[j].cnt ≤ cntL ts := fun ts => by
    induction ts with
    | nil => intro j hj; simp at hj
    | cons x xs ih =>
      intro j hj
      rw [cntL]
      cases j with
      | zero => simp
      | succ j => have := ih j (by simpa using hj); simp; omega
  have := h t.sub j hj
  omega
theorem cntL_take (ts : List Tr) (i : Nat) : cntL (ts.take i) ≤ cntL ts := by
  induction ts generalizing i with
  | nil => simp
  | cons x xs ih =>
    cases i with
    | zero => simp [cntL]
    | succ i => have := ih i; simp [cntL]; omega
theorem LstR.one {w : World} {g : Nat} {pa : Option Addr} {pc : Nat} {ab : List Int} (h : w.heap[g]? = some (.cells #[.slice pa ab.length pc] 39 (0, 0))) (hi : LiI w pa ab) (hl : ab.length ≤ 1000) : LstR w (some ⟨g, 0, none⟩) [ab] := fun j hj => by
  obtain rfl : j = 0 := by simpa using hj
  exact ⟨g, 0, pa, pc, rfl, by simp [World.cell?, h], hi, hl⟩
set_option maxRecDepth 100000 in
set_option maxHeartbeats 6400000 in
theorem listsAround_any : ∀ (n : Nat) (t : Tr), SizeOf.sizeOf t < n → t.Sm → ∀ (ab : List Int), ab.length + t.cnt ≤ 1000 → ∀ (pa : Option Addr) (pc : Nat) (a : Option Addr) (c : Nat) (P : Nat → Prop) (W : World), LiesN W P a t.sub → LiI W pa ab →
    Calls Tryd.prog 15 #[nodeV t a c, .slice pa ab.length pc] W fun e w' => (∃ la lc, e = .returned (.slice la (lsT ab t).length lc) ∧ LstR w' la (lsT ab t)) ∧ Below W.heap.size W w'
  | 0, t, h => absurd h (Nat.not_lt_zero _)
  | n + 1, t, hsz => fun hsm ab hab pa pc a c P W hl hli => by
    obtain ⟨iv, hvi, hv0, hv1, hv2⟩ := info_parts Tryd.infoIs
    have HL : Hid (∀ X, Below W.heap.size W X → LiesN X P a t.sub) := fun X hX => hl.keep hX
    have HLi : Hid (LiI W pa ab) := hli
    have hlen := hsm.len
    have HIH : Hid (∀ j (hj : j < t.sub.length) (ab' : List Int), ab'.length + t.sub[j].cnt ≤ 1000 → ∀ (pa' : Option Addr) (pc' : Nat) (a' : Option Addr) (c' : Nat) (X : World), LiesN X P a' t.sub[j].sub → LiI X pa' ab' → Calls Tryd.prog 15 #[nodeV t.sub[j] a' c', .slice pa' ab'.length pc'] X fun e w' => (∃ la lc, e = .returned (.slice la (lsT ab' t.sub[j]).length lc) ∧ LstR w' la (lsT ab' t.sub[j])) ∧ Below X.heap.size X w') := fun j hj ab' hab' pa' pc' a' c' X h1 h2 => listsAround_any n t.sub[j] (by have := t.sub_size j hj; omega) (hsm.at_ j hj) ab' hab' pa' pc' a' c' P X h1 h2
    have HEq : Hid _ := lsT_eq ab t
    obtain ⟨ab', HAB⟩ : ∃ x, Hid ((if t.rep = 3 then ab ++ [t.id] else ab) = x) := ⟨_, rfl⟩
    rw [HAB.out] at HEq
    have hab1 : ab'.length ≤ ab.length + 1 := by rw [← HAB.out]; split <;> simp
    have hcn := Tr.cnt_eq t
    clear hl hli hsm hsz
    obtain ⟨w0, HW0, HX, HB0⟩ := one_box W #[.int .i64 t.id, .string t.nm, .int .i64 t.rep, .int .i64 t.kind, .slice a t.sub.length c] 24
    unfold nodeV
    obtain ⟨⟨p0, p1, p2, p3, p4⟩, _⟩ := row_five HX.out
    go_enter Tryd.func15, Tryd.ntmps15
    go_upto_if 10 with fail
    rw [HW0.out]
    go_cut [1] (fun x wx => ∃ pa' pc', x = .slice pa' ab'.length pc' ∧ Hid (LiI wx pa' ab') ∧ Hid (wx.heap[W.heap.size]? = some (.cells #[.int .i64 t.id, .string t.nm, .int .i64 t.rep, .int .i64 t.kind, .slice a t.sub.length c] 24 (0, 0))) ∧ Hid (Below W.heap.size W wx))
    case first =>
      rcases Decidable.em (t.rep = 3) with h3 | h3
      · have q : (t.rep == 3) = true := by simp [h3]
        have HA2 : Hid (ab ++ [t.id] = ab') := (by show _ = _; rw [← HAB.out, if_pos h3])
        clear h3
        obtain ⟨wz, HWz, HZ1, HZ2, HBz⟩ := two_boxesS w0 #[.int .i64 t.id] #[.slice pa ab.length pc, .slice (some ⟨w0.heap.size, 0, none⟩) 1 1] 3 39
        have HBW : Hid (Below W.heap.size W wz) := HB0.out.trans (HBz.out.mono HB0.out.size)
        have HCc : Hid _ := concatI_any wz (w0.heap.size + 1) ab.length pc w0.heap.size pa ab t.id (by simp [World.cell?, HZ2.out]) (by simp [World.cell?, HZ2.out]) rfl (HLi.out.1.keep HBW.out) (by simp [World.cell?, HZ1.out]) (by omega)
        go_wp2_with fail
        rw [HWz.out]
        refine Calls.mono HCc.out ?_
        rintro e w1 ⟨⟨v, rfl, hown⟩, hb1⟩
        obtain ⟨a1, c1, rfl, hli1⟩ := LiI.own hown
        go_wp2
        go_meet
        refine ⟨a1, c1, by rw [← HA2.out]; simp, by rw [HA2.out] at hli1; exact hli1, blk_keep hb1 (blk_keep HBz.out HX.out), HBW.out.trans (hb1.mono HBW.out.size)⟩
      · have q : (t.rep == 3) = false := by simp [h3]
        have HA2 : Hid (ab = ab') := (by show _ = _; rw [← HAB.out, if_neg h3])
        clear h3
        go_wp2
        go_meet
        exact ⟨pa, pc, by rw [HA2.out], by rw [← HA2.out]; exact HLi.out.keep HB0.out, HX.out, HB0.out⟩
    case rest =>
      obtain ⟨pa', pc', rfl, HLi2, HBx, HBw⟩ := hcut
      rename World => w1
      clear HX HB0 HW0 p0 p1 p2 p3 p4 HLi
      obtain ⟨⟨p0, p1, p2, p3, p4⟩, _⟩ := row_five HBx.out
      rcases Decidable.em (t.kind = 0) with h0 | h0
      · have q : (t.kind != 0) = false := by simp [h0]
        have HT : Hid (lsT ab t = lsL ab' t.sub) := (by show _ = _; rw [HEq.out, if_pos h0])
        clear h0
        go_wp2
        go_loopw [5, 25] (fun y x wr => ∃ i : Nat, i ≤ t.sub.length ∧ x = .int .i64 i ∧ (∃ svs, Hid (RowO w1.heap.size wr y (lsL ab' (t.sub.take i)) svs)) ∧ Hid (Below w1.heap.size w1 wr)) (fun _ x _ => t.sub.length - (intOf x).toNat)
        case atStart => exact ⟨0, Nat.zero_le _, rfl, ⟨[], ⟨World.ownsRow_nil _ _ _ _, rfl, fun j hj => absurd hj (by simp [lsL])⟩⟩, Below.refl _ _⟩
        case round =>
          obtain ⟨i, hik, rfl, ⟨svs, HR⟩, HBr⟩ := hrel
          obtain ⟨la, lc, hy, _⟩ := HR.out.rl
          subst hy
          have HBW : Hid (Below W.heap.size W wr) := HBw.out.trans (HBr.out.mono HBw.out.size)
          by_cases hlt : i < t.sub.length
          · obtain ⟨b, o, a1, c1, ea, d0, d1, d2, d3, d4, hl1⟩ := (HL.out wr HBW.out).at_ i hlt
            subst ea
            have hci := sub_cnt t i hlt
            have HC : Hid _ := HIH.out i hlt ab' (by omega) pa' pc' a1 c1
            have HL1 : Hid (LiesN wr P a1 t.sub[i].sub) := hl1
            clear hl1
            have HTk : Hid _ := lsL_take ab' t.sub i hlt
            have hls := lsT_len ab' t.sub[i]
            have hlk := lsL_len ab' (t.sub.take i)
            have hck := cntL_take t.sub i
            have HB2 : Hid (∀ ob, Below wr.heap.size wr (wr.alloc ob)) := fun ob => (Below.refl _ _).alloc (Nat.le_refl _) ob
            have HLi3 : Hid (LiI wr pa' ab') := HLi2.out.keep HBr.out
            go_wp2_with fail
            refine Calls.mono (HC.out _ (HL1.out.keep (HB2.out _)) (HLi3.out.keep (HB2.out _))) ?_
            rintro e wq ⟨⟨la2, lc2, rfl, hlst⟩, hbq⟩
            have HBq : Hid (Below wr.heap.size wr wq) := (HB2.out _).trans (hbq.mono (HB2.out _).size)
            obtain ⟨svs2, hs1, hs2, hs3, hs4⟩ := hlst.news
            have HS1 : Hid _ := hs1
            have HS2 : Hid _ := hs2
            have HS3 : Hid _ := hs3
            have HS4 : Hid _ := hs4
            have HRq : Hid (RowO w1.heap.size wq (.slice la (lsL ab' (t.sub.take i)).length lc) (lsL ab' (t.sub.take i)) svs) := HR.out.keep HBq.out
            have HBq2 : Hid (Below w1.heap.size w1 wq) := HBr.out.trans (HBq.out.mono HBr.out.size)
            clear hlst hbq hs1 hs2 hs3 hs4 HC HL1 d0 d1 d2 d3 d4
            go_wp2_with (at_builtin; (refine wpList_append_any _ rfl _ _ 28 rfl w1.heap.size 39 iv (.slice none 0 0) 1 24 Tryd.underlying28 hvi hv0 hv1 hv2 rfl (by decide) _ _ svs rfl HRq.out.1 la2 _ lc2 svs2 rfl (by rw [HS1.out, Nat.mul_one]) HS2.out HS3.out (by unfold maxLen; omega) (by omega) HBq2.out.size ?_); intro v3 w3 hown3 hg3 _)
            have HR3 : Hid (RowO w1.heap.size w3 v3 (lsL ab' (t.sub.take (i + 1))) (svs ++ svs2)) := (by
              have h := HRq.out.push HS1.out HS4.out hown3 hg3
              rw [← HTk.out] at h
              exact h)
            have HB3 : Hid (Below w1.heap.size w1 w3) := below_ownI HBq2.out (Nat.le_refl _) HRq.out.1 hg3
            clear hown3 hg3
            go_wp2
            go_roundw
            case rel => exact ⟨i + 1, by omega, by go_num, ⟨_, HR3⟩, HB3⟩
            case measure => simp [intOf]; omega
          · obtain rfl : i = t.sub.length := by omega
            have HRl : Hid (∃ a c, Value.slice la (lsL ab' (t.sub.take t.sub.length)).length lc = .slice a (lsT ab t).length c ∧ LstR wr a (lsT ab t)) := (by
              have h := HR.out.rl
              show ∃ _, _
              rw [HT.out]
              rw [List.take_length] at h ⊢
              exact h)
            go_wp2
            go_ret
            obtain ⟨la2, lc2, e2, hrl2⟩ := HRl.out
            exact ⟨⟨la2, lc2, congrArg Ending.returned e2, hrl2⟩, HBW.out⟩
      · have q : (t.kind != 0) = true := by simp [h0]
        have HT : Hid (lsT ab t = [ab']) := (by show _ = _; rw [HEq.out, if_neg h0])
        clear h0
        go_wp2
        go_ret
        have hbz : Below w1.heap.size w1 (w1.alloc (.cells #[.slice pa' ab'.length pc'] 39)) := (Below.refl _ _).alloc (Nat.le_refl _) _
        refine ⟨⟨some ⟨w1.heap.size, 0, none⟩, 1, by rw [HT.out]; rfl, ?_⟩, HBw.out.trans (hbz.mono HBw.out.size)⟩
        rw [HT.out]
        exact LstR.one (heap_alloc_new w1 _) (HLi2.out.keep hbz) (by omega)
end Go.Proofs.YtiiehnjgljadbaaDoor
