/-
  A disk's Rename.
-/
import Derived.Test.YtmpdkccmcnegkaaDoorIDkW
namespace Go.Proofs.YtmpdkccmcnegkaaDoor
open Go.RowKit Go.Maps
theorem DkAt.below {w w' : World} {P : Nat → Prop} {db : Nat} {s : DkSt} (h : DkAt w P db s) (hb : Below w.heap.size w w') : DkAt w' P db s :=
  h.off (P := fun _ => False) (Off.of_below hb) (fun _ hp _ => hp)
theorem ErC.off0 {w w' : World} {P : Nat → Prop} {be en ee se : Value} (h : ErC w P be en ee se) (ho : Off P w w') : ErC w' P be en ee se := by
  have := h.off ho
  exact ⟨this.b, this.n, this.e, this.s, h.ap⟩
theorem ErC.below {w w' : World} {P : Nat → Prop} {be en ee se : Value} (h : ErC w P be en ee se) (hb : Below w.heap.size w w') : ErC w' P be en ee se := h.off0 (Off.of_below hb)
def fRen (fs : List Fl) (a b t : ByteArray) : List Fl := fIns (fDel (fDel fs a) b) b t
/-- Rename, as a function. -/
def DkSt.ren (s : DkSt) (a b : ByteArray) : Nat × DkSt :=
  if (fnOk b && fHas s.fs a) = false then (5, s) else if s.k 1 < 1 then (6, s.spend 1) else (0, { s.spend 1 with fs := fRen s.fs a b ((fGet s.fs a).getD ⟨#[]⟩) })
theorem StOk.ren {s : DkSt} (h : StOk s) {q : Fl} (hq : q ∈ s.fs) {b : ByteArray} (hb : b.size ≤ 12) : StOk { s with fs := fRen s.fs q.1 b q.2 } := by
  have hn : ∀ p ∈ fDel (fDel s.fs q.1) b, p.1 ≠ b := fun p hp => (mem_del.1 hp).2
  have h1 := (h.del q.1).del b
  refine ⟨h1.srt.ins hn, ?_, fun p hp => ?_, ?_, h.quo, h.lft⟩
  · show (fIns _ _ _).length ≤ 40
    rw [len_ins]
    have h2 := len_del (fDel s.fs q.1) b
    have h3 : (fDel s.fs q.1).length < s.fs.length := List.length_filter_lt_length_iff_exists.2 ⟨q, hq, by simp⟩
    have := h.len
    omega
  · rcases mem_ins.1 hp with rfl | hp
    · exact ⟨(h.each q hq).1, hb⟩
    · exact h1.each p hp
  · show fUsed (fIns _ _ _) ≤ s.quota
    rw [used_ins]
    have h2 := used_del h.srt hq
    have h3 : fUsed (fDel (fDel s.fs q.1) b) ≤ fUsed (fDel s.fs q.1) := by
      have := fDone_le (fDel s.fs q.1) (fun m => decide (m = b))
      have e : fDone (fDel s.fs q.1) (fun m => decide (m = b)) = fUsed (fDel (fDel s.fs q.1) b) := by
        unfold fDone; rw [show fDel (fDel s.fs q.1) b = (fDel s.fs q.1).filter (fun p => decide (p.1 ≠ b)) from rfl]
        exact congrArg fUsed (List.filter_congr (fun p _ => by simp))
      omega
    have := h.used
    omega
/-- A row stands where a map turns. -/
theorem turn_ne {w w' : World} {mb g base e size n : Nat} {v : Value} {xs : List Value} (ht : w.mapTurned w' mb) (h : w.ownsRow base e size v n xs) (hg : v.ownBlock = some g) : g ≠ mb := by
  rintro rfl
  obtain ⟨es, cl, _, _, hb, _⟩ := ht
  rcases h.2 with ⟨rfl, _⟩ | ⟨g1, cap, cur, rfl, _, h1, _⟩
  · cases hg
  · simp [Value.ownBlock] at hg; subst hg; rw [h1] at hb; cases hb
theorem row_turn {w w' : World} {mb base e size n : Nat} {v : Value} {xs : List Value} (ht : w.mapTurned w' mb) (h : w.ownsRow base e size v n xs) : w'.ownsRow base e size v n xs :=
  own_stay h (fun g hg => ht.grown.block g (own_lt h hg) (fun e => turn_ne ht h hg (by injection e)))
theorem fnOk_le {b : ByteArray} (h : fnOk b = true) : b.size ≤ 12 := by
  simp only [fnOk, Bool.and_eq_true, decide_eq_true_eq] at h
  exact h.1.2
set_option maxRecDepth 100000 in
set_option maxHeartbeats 3200000 in
theorem rename_disk (db : Nat) (P : Nat → Prop) (s : DkSt) (a b : ByteArray) (ha : a.size ≤ maxLen) (hbz : b.size ≤ maxLen) (hd : s.done ≤ 1000000000) (be en ee se : Value) (W : World) (h : DkAt W P db s) (he : ErC W P be en ee se) :
    Calls Tryd.prog 24 #[.pointer (some ⟨db, 0, none⟩), .string a, .string b] W fun e w' => e = .returned (ev be en ee se (s.ren a b).1) ∧ DkAt w' P db (s.ren a b).2 ∧ Off P W w' := by
  have HI : Hid _ := isName_disk b hbz W
  have HD : Hid (DkAt W P db s) := h
  have HE : Hid (ErC W P be en ee se) := he
  clear h he
  unfold DkSt.ren
  cases hx : fnOk b with
  | false =>
    rw [hx] at HI
    rw [Bool.false_and, if_pos rfl]
    clear hx
    go_enter Tryd.func24, Tryd.ntmps24
    go_wp2_with fail
    refine Calls.mono HI.out ?_
    rintro e w1 ⟨rfl, hb1⟩
    have hE5 := (HE.out.below hb1).n
    go_wp2
    go_ret
    exact ⟨rfl, HD.out.below hb1, Off.of_below hb1⟩
  | true =>
    rw [hx] at HI
    rw [Bool.true_and]
    have HB12 : Hid (b.size ≤ 12) := fnOk_le hx
    clear hx
    cases hx : fHas s.fs a with
    | false =>
      have HX : Hid (fHas s.fs a = false) := hx
      rw [if_pos rfl]
      clear hx
      go_enter Tryd.func24, Tryd.ntmps24
      go_wp2_with fail
      refine Calls.mono HI.out ?_
      rintro e w1 ⟨rfl, hb1⟩
      have hE5 := (HE.out.below hb1).n
      go_wp2_with fail
      refine Calls.mono (has_disk db P s a ha w1 (HD.out.below hb1)) ?_
      rintro e w2 ⟨rfl, hw2⟩
      obtain rfl := hw2.symm
      clear hw2
      rw [HX.out]
      go_wp2
      go_ret
      exact ⟨rfl, HD.out.below hb1, Off.of_below hb1⟩
    | true =>
      have HX : Hid (fHas s.fs a = true) := hx
      rw [if_neg (by simp)]
      obtain ⟨q, hq, rfl⟩ := fHas_iff.1 hx
      clear hx
      have HQ : Hid (q ∈ s.fs) := hq
      have HG : Hid (fGet s.fs q.1 = some q.2) := fGet_some HD.out.ok.srt hq
      rw [HG.out]
      clear hq
      by_cases hk : s.k 1 < 1
      · rw [if_pos hk]
        have HK : Hid (s.k 1 = 0) := (by show _ = _; omega)
        clear hk
        go_enter Tryd.func24, Tryd.ntmps24
        go_wp2_with fail
        refine Calls.mono HI.out ?_
        rintro e w1 ⟨rfl, hb1⟩
        have HD1 : Hid (DkAt w1 P db s) := HD.out.below hb1
        have HE1 : Hid _ := HE.out.below hb1
        have HO1 : Hid (Off P W w1) := Off.of_below hb1
        clear hb1
        go_wp2_with fail
        refine Calls.mono (has_disk db P s q.1 ha w1 HD1.out) ?_
        rintro e w2 ⟨rfl, hw2⟩
        obtain rfl := hw2.symm
        clear hw2
        rw [HX.out]
        go_wp2_with fail
        refine Calls.mono (spend_disk db P s 1 (by omega) hd w1 HD1.out) ?_
        rintro e w2 ⟨rfl, hd2, hg2, hs2⟩
        rw [HK.out]
        have hE6 := (HE1.out.off0 (off_of hg2 HD.out.dbP)).e
        go_wp2
        go_ret
        exact ⟨rfl, hd2, HO1.out.trans (off_of hg2 HD.out.dbP) (fun _ _ h => h)⟩
      · rw [if_neg hk]
        have HK : Hid (s.k 1 = 1) := (by show _ = _; have := s.k_le 1; omega)
        clear hk
        go_enter Tryd.func24, Tryd.ntmps24
        go_wp2_with fail
        refine Calls.mono HI.out ?_
        rintro e w1 ⟨rfl, hb1⟩
        have HD1 : Hid (DkAt w1 P db s) := HD.out.below hb1
        have HO1 : Hid (Off P W w1) := Off.of_below hb1
        clear hb1
        go_wp2_with fail
        refine Calls.mono (has_disk db P s q.1 ha w1 HD1.out) ?_
        rintro e w2 ⟨rfl, hw2⟩
        obtain rfl := hw2.symm
        clear hw2
        rw [HX.out]
        go_wp2_with fail
        refine Calls.mono (spend_disk db P s 1 (by omega) hd w1 HD1.out) ?_
        rintro e w2 ⟨rfl, hd2, hg2, hs2⟩
        rw [HK.out]
        obtain ⟨mb, ld, hb, hl, D, vf, hF⟩ := hd2.box
        obtain ⟨m, hm0⟩ := hF.map
        have hm := own_tight hm0
        obtain ⟨⟨p0, p1, p2, p3, p4⟩, _⟩ := row5 hb
        have hlk := (hF.get q.1 ha).1 q HQ.out rfl
        have HB : Hid (w2.heap[db]? = some (.cells (dkBox (s.spend 1).done (s.spend 1).short ld (s.spend 1).quota mb) 51 (0, 0))) := hb
        have HL : Hid ((s.spend 1).short = true → ld = (s.spend 1).left) := hl
        have HF : Hid (FM w2 P mb (s.spend 1).fs D vf) := hF
        have HD2 : Hid (DkAt w2 P db (s.spend 1)) := hd2
        have HO2 : Hid (Off P W w2) := HO1.out.trans (off_of hg2 HD.out.dbP) (fun _ _ h => h)
        have HM : Hid (w2.ownsMap Tryd.prog 9 RF mb (Maps.size D) D) := hm
        have HSz : Hid (Maps.size D = s.fs.length) := hF.size hd2.ok.srt
        obtain ⟨g, hvo, hgP⟩ := hF.own q HQ.out
        have hrow := hF.row q HQ.out
        obtain ⟨va, vc, hve⟩ : ∃ va vc, vf q.1 = .slice va (bl q.2).length vc := by
          obtain ⟨x, y, e⟩ := own_slC hrow
          exact ⟨x, y, e⟩
        have HV : Hid (vf q.1 = .slice va (bl q.2).length vc) := hve
        rw [hve] at hlk
        clear hb hl hF hd2 hg2 hs2 hm hm0 hrow hve
        go_wp2_with (first
          | (at_delete; refine wpList_delete_own _ rfl _ _ 47 9 rfl 61 Tryd.lawK Tryd.underlying47 RF mb (Maps.size D) D rfl HM.out _ _ rfl (kS_of q.1 ha) ?_; intro w3 hown3 hturn3; have HT3 : Hid (w2.mapTurned w3 mb) := hturn3; have HW3 : Hid _ := hown3; obtain ⟨⟨r0, r1, r2, r3, r4⟩, _⟩ := row5 ((hturn3.grown.block db (lt_of_block HB.out) (fun e => map_ne HM.out HB.out (by injection e))).trans HB.out); clear hown3 hturn3)
          | (at_mapUpdate; refine wpList_mapUpdate_in _ rfl _ _ _ 47 rfl 9 61 Tryd.lawK Tryd.underlying47 RF mb (Maps.size D) _ rfl HW3.out (by rw [HSz.out]; have := HD.out.ok.len; unfold maxLen; omega) _ _ _ rfl rfl (kS_of b hbz) _ _ rfl ?_; intro w4 hown4 hturn4)
          | go_in)
        go_ret
        have hF3 := HF.out.del q.1 HW3.out HT3.out
        have hz3 := turned_size HT3.out
        have hz4 := turned_size hturn4
        have hk3 : w3.heap[db]? = w2.heap[db]? := HT3.out.grown.block db (lt_of_block HB.out) (fun e => map_ne HM.out HB.out (by injection e))
        have hk4 : w4.heap[db]? = w3.heap[db]? := hturn4.grown.block db (by rw [hz3]; exact lt_of_block HB.out) (fun e => map_ne HM.out HB.out (by injection e))
        have hr2 := HF.out.row q HQ.out
        rw [HV.out] at hr2 hvo
        have hr4 := row_turn hturn4 (row_turn HT3.out hr2)
        have hF4 := hF3.put (P' := P) (fs' := fRen s.fs q.1 b q.2) b q.2 _ hown4 (fun p => by
            unfold fRen
            rw [mem_ins, mem_del]; rfl) (fun p hp _ g' hg' => hturn4.grown.block g' (own_lt (hF3.row p hp) hg') (fun e => turn_ne hturn4 (hF3.row p hp) hg' (by injection e))) hr4 (fun _ h => h) ⟨g, hvo, hgP⟩ (fun p hp _ e => (mem_del.1 hp).2 (HF.out.apart p (mem_del.1 hp).1 q HQ.out (by rw [HV.out]; exact e)))
        refine ⟨rfl, DkAt.refile (s := s.spend 1) HB.out HL.out (hk4.trans hk3) hF4 HD2.out.dbP (fun k hk => by rw [hz4, hz3]; exact HD2.out.lt k hk) ?_, ?_⟩
        · exact HD2.out.ok.ren HQ.out HB12.out
        · exact (HO2.out.trans (off_of HT3.out.grown HF.out.mbP) (fun _ _ h => h)).trans (off_of hturn4.grown HF.out.mbP) (fun _ _ h => h)
end Go.Proofs.YtmpdkccmcnegkaaDoor
