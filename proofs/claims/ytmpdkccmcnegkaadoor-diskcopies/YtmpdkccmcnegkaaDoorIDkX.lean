/-
  A disk's Append.
-/
import Derived.Test.YtmpdkccmcnegkaaDoorIDkS
namespace Go.Proofs.YtmpdkccmcnegkaaDoor
open Go.RowKit Go.Maps
def bcut (t : ByteArray) (m : Nat) : ByteArray := ⟨((bl t).take m).toArray⟩
def bcat (a b : ByteArray) : ByteArray := ⟨(bl a ++ bl b).toArray⟩
def fApp (fs : List Fl) (n x : ByteArray) : List Fl := if fHas fs n then fSet fs n (bcat ((fGet fs n).getD ⟨#[]⟩) x) else fIns fs n x
/-- Append, as a function. -/
def DkSt.app (s : DkSt) (n t : ByteArray) : Nat × DkSt :=
  if fnOk n = false then (5, s) else if t.size = 0 then (0, s) else if fHas s.fs n = false ∧ 40 ≤ s.fs.length then (2, s) else if s.quota < fUsed s.fs + t.size then (8, s)
  else (if s.k t.size < t.size then 6 else 0, if 0 < s.k t.size then { s.spend t.size with fs := fApp s.fs n (bcut t (s.k t.size)) } else s.spend t.size)
/-- What is appended to: the file's row, or nothing. -/
structure ApO (w : World) (P : Nat → Prop) (fs : List Fl) (vf : ByteArray → Value) (n : ByteArray) (v : Value) (old : ByteArray) : Prop where
  row : w.ownsRow 0 5 1 v (bl old).length (cellsOf (bl old))
  own : ∀ g, v.ownBlock = some g → P g
  ap : ∀ p ∈ fs, p.1 ≠ n → (vf p.1).ownBlock ≠ v.ownBlock
  new : (fGet fs n).getD ⟨#[]⟩ = old
  le : old.size ≤ fUsed fs
theorem FM.old {w : World} {P : Nat → Prop} {mb : Nat} {fs : List Fl} {D : DataW Value} {vf : ByteArray → Value} (h : FM w P mb fs D vf) (hs : Srt fs) (n : ByteArray) (hn : n.size ≤ maxLen) :
    ∃ a c old, (∀ X : World, X.heap = w.heap → (Instr.lookup 47 (.map (some mb)) (.string n) false).run Tryd.prog X = .ok (.slice a (bl old).length c) X) ∧ ApO w P fs vf n (.slice a (bl old).length c) old := by
  cases hx : fHas fs n with
  | false =>
    have h1 : ∀ X : World, X.heap = w.heap → _ := fun X e => ((h.stay (w' := X) (P' := P) (fun _ _ _ => by rw [e]) (fun _ h => h)).get n hn).2 hx
    refine ⟨none, 0, ⟨#[]⟩, h1, ⟨World.ownsRow_nil w 0 _ 1, fun g hg => (by cases hg), fun p hp _ e => ?_, (by rw [fGet_none hx]; rfl), Nat.zero_le _⟩⟩
    obtain ⟨g, e2, _⟩ := h.own p hp
    rw [e2] at e; cases e
  | true =>
    obtain ⟨p, hp, rfl⟩ := fHas_iff.1 hx
    have h1 : ∀ X : World, X.heap = w.heap → _ := fun X e => ((h.stay (w' := X) (P' := P) (fun _ _ _ => by rw [e]) (fun _ h => h)).get p.1 hn).1 p hp rfl
    obtain ⟨a, c, e⟩ := own_slC (h.row p hp)
    have hr := h.row p hp
    have ho := h.own p hp
    rw [e] at hr
    simp only [e] at h1
    refine ⟨a, c, p.2, h1, ⟨hr, fun g hg => ?_, fun q hq hne e2 => hne (h.apart q hq p hp (by rw [e, e2])), (by rw [fGet_some hs hp]; rfl), used_mem hp⟩⟩
    obtain ⟨g', e2, hP⟩ := ho
    rw [e, hg] at e2; cases e2; exact hP
theorem bcat_size (a b : ByteArray) : (bcat a b).size = a.size + b.size := by
  show (bl a ++ bl b).toArray.size = a.data.size + b.data.size
  simp [bl]
theorem bcut_size (t : ByteArray) (k : Nat) (h : k ≤ t.size) : (bcut t k).size = k := by
  have h' : k ≤ t.data.size := h
  show ((bl t).take k).toArray.size = k
  simp [bl]
  omega
theorem mem_app {fs : List Fl} (n x : ByteArray) (p : Fl) : p ∈ fApp fs n x ↔ p = (n, bcat ((fGet fs n).getD ⟨#[]⟩) x) ∨ (p ∈ fs ∧ p.1 ≠ n) := by
  unfold fApp
  cases hx : fHas fs n with
  | false =>
    rw [if_neg (by simp), mem_ins, fGet_none hx]
    have e : bcat (((none : Option ByteArray)).getD ⟨#[]⟩) x = x := by apply bl_inj; simp [bcat, bl]
    rw [e]
    exact ⟨fun h => h.imp id (fun h => ⟨h, fHas_no.1 hx p h⟩), fun h => h.imp id (fun h => h.1)⟩
  | true => rw [if_pos rfl, mem_set (fHas_iff.1 hx)]
theorem used_app {fs : List Fl} (hs : Srt fs) (n x : ByteArray) : fUsed (fApp fs n x) = fUsed fs + x.size := by
  unfold fApp
  cases hx : fHas fs n with
  | false => rw [if_neg (by simp), used_ins]
  | true =>
    obtain ⟨q, hq, rfl⟩ := fHas_iff.1 hx
    have h := used_set hs hq (bcat q.2 x)
    rw [if_pos rfl, fGet_some hs hq]
    rw [bcat_size] at h
    show fUsed (fSet fs q.1 (bcat q.2 x)) = _
    omega
theorem StOk.app {s : DkSt} (h : StOk s) {n x : ByteArray} (hn : n.size ≤ 12) (hx : 1 ≤ x.size) (hf : ¬ (fHas s.fs n = false ∧ 40 ≤ s.fs.length)) (hu : fUsed s.fs + x.size ≤ s.quota) : StOk { s with fs := fApp s.fs n x } := by
  refine ⟨?_, ?_, fun p hp => ?_, ?_, h.quo, h.lft⟩
  · show Srt (fApp s.fs n x)
    unfold fApp
    cases hb : fHas s.fs n with
    | false => rw [if_neg (by simp)]; exact h.srt.ins (fHas_no.1 hb)
    | true => rw [if_pos rfl]; exact h.srt.set _ _
  · show (fApp s.fs n x).length ≤ 40
    unfold fApp
    cases hb : fHas s.fs n with
    | false =>
      rw [if_neg (by simp), len_ins]
      have : ¬ 40 ≤ s.fs.length := fun h2 => hf ⟨hb, h2⟩
      omega
    | true => rw [if_pos rfl, len_set]; exact h.len
  · rcases (mem_app n x p).1 hp with rfl | ⟨hp, _⟩
    · exact ⟨by rw [bcat_size]; omega, hn⟩
    · exact h.each p hp
  · show fUsed (fApp s.fs n x) ≤ s.quota
    rw [used_app h.srt]; exact hu
theorem row_ne_map {w : World} {mb base e size n : Nat} {v : Value} {xs : List Value} {m : Nat} {D : DataW Value} {k : TypeId} (h : w.ownsRow base e size v n xs) (hm : w.ownsMap Tryd.prog k RF m mb D) : some m ≠ v.ownBlock := by
  intro e2
  obtain ⟨es, cl, hb, _⟩ := hm
  rcases h.2 with ⟨rfl, _⟩ | ⟨g1, cap, cur, rfl, _, h1, _⟩
  · cases e2
  · simp [Value.ownBlock] at e2; subst e2; rw [h1] at hb; cases hb
/-- Behind the append and the store. -/
theorem app_done {W w5 w6 w7 : World} {P : Nat → Prop} {db mb : Nat} {ld : Int} {s : DkSt} {D : DataW Value} {vf : ByteArray → Value} {n x old : ByteArray} {a a6 : Option Addr} {c c6 m : Nat} (hd : DkAt w5 P db s) (hO : Off P W w5)
    (hb : w5.heap[db]? = some (.cells (dkBox s.done s.short ld s.quota mb) 51 (0, 0))) (hl : s.short = true → ld = s.left) (hF : FM w5 P mb s.fs D vf) (hm : w5.ownsMap Tryd.prog 9 RF mb m D) (ho : ApO w5 P s.fs vf n (.slice a (bl old).length c) old)
    (h6 : w6.ownsRow 0 5 1 (.slice a6 (bl (bcat old x)).length c6) (bl (bcat old x)).length (cellsOf (bl (bcat old x)))) (hg6 : w5.grownBy w6 (Value.slice a (bl old).length c).ownBlock)
    (hw6 : (Value.slice a6 (bl (bcat old x)).length c6).ownBlock = (Value.slice a (bl old).length c).ownBlock ∨ ∀ g, (Value.slice a6 (bl (bcat old x)).length c6).ownBlock = some g → w5.heap.size ≤ g)
    {m' : Nat} (h7 : w7.ownsMap Tryd.prog 9 RF mb m' (D.put (kS n) (.held (.slice a6 (bl (bcat old x)).length c6)))) (ht7 : w6.mapTurned w7 mb) (hn : n.size ≤ 12) (hx : 1 ≤ x.size) (hf : ¬ (fHas s.fs n = false ∧ 40 ≤ s.fs.length)) (hu : fUsed s.fs + x.size ≤ s.quota) :
    DkAt w7 (Gr P W w7) db { s with fs := fApp s.fs n x } ∧ Off P W w7 := by
  have hz := turned_size ht7
  have hs5 := hO.size
  have hs6 := hg6.size
  have k6 : ∀ k, k < w5.heap.size → some k ≠ (Value.slice a (bl old).length c).ownBlock → w6.heap[k]? = w5.heap[k]? := fun k hk hn => hg6.block k hk hn
  have k7 : ∀ k, k < w5.heap.size → some k ≠ (Value.slice a (bl old).length c).ownBlock → k ≠ mb → w7.heap[k]? = w5.heap[k]? := fun k hk hn hne => (ht7.grown.block k (by omega) (fun e => hne (by injection e))).trans (k6 k hk hn)
  have hdb : some db ≠ (Value.slice a (bl old).length c).ownBlock := fun e => ow_apart ho.row hb (by decide) e.symm
  have h7r := row_turn ht7 h6
  have hpos : 0 < (bl (bcat old x)).length := by
    have : (bl (bcat old x)).length = (bcat old x).size := by simp [bl]
    rw [this, bcat_size]; omega
  obtain ⟨g6, hg6e⟩ : ∃ g6, (Value.slice a6 (bl (bcat old x)).length c6).ownBlock = some g6 := by
    rcases h6.2 with ⟨_, e⟩ | ⟨g1, cap, cur, e, _, _⟩
    · omega
    · exact ⟨g1, by rw [e]; rfl⟩
  have hF7 := hF.put (w' := w7) (P' := Gr P W w7) (fs' := fApp s.fs n x) n (bcat old x) _ h7 (fun p => by rw [mem_app, ho.new]) (fun p hp hne g hg => by
      refine k7 g (own_lt (hF.row p hp) hg) (fun e => ho.ap p hp hne (by rw [hg, e])) (fun e => ?_)
      subst e
      exact row_ne_map (hF.row p hp) hm hg.symm) h7r (fun _ h => .inl h) ⟨g6, hg6e, ?_⟩ (fun p hp hne e => ?_)
  · refine ⟨DkAt.refile hb hl (k7 db (lt_of_block hb) hdb (map_ne hm hb)) hF7 (.inl hd.dbP) (fun k hk => ?_) (hd.ok.app hn hx hf hu), ?_⟩
    · rcases hk with hk | ⟨_, hk⟩
      · have := hd.lt k hk; omega
      · exact hk
    · refine (hO.trans (S' := P) (Off.of_grown hg6 (fun k _ e => ho.own k e)) (fun _ _ h => h)).trans (off_of ht7.grown hF.mbP) (fun _ _ h => h)
  · rcases hw6 with e | e
    · exact .inl (ho.own g6 (by rw [← e]; exact hg6e))
    · exact .inr ⟨by have := e g6 hg6e; omega, by rw [hz]; exact own_lt h6 hg6e⟩
  · rcases hw6 with e2 | e2
    · exact ho.ap p hp hne (by rw [e, e2])
    · have h1 := e2 g6 hg6e
      rw [hg6e] at e
      have := own_lt (hF.row p hp) e
      omega
theorem row_drew {w : World} {base e size n : Nat} {v : Value} {xs : List Value} (h : w.ownsRow base e size v n xs) : w.drew.ownsRow base e size v n xs := h
theorem strC_cut (t : ByteArray) (k : Nat) : Lib.strCells (bcut t k) = cellsOf ((bl t).take k) := by rw [ow_strCells']; simp [bcut]
set_option maxRecDepth 100000 in
set_option maxHeartbeats 6400000 in
theorem append_disk (db : Nat) (P : Nat → Prop) (s : DkSt) (n t : ByteArray) (hn : n.size ≤ maxLen) (ht : t.size ≤ 500) (hd : s.done ≤ 1000000000) (be en ee se : Value) (W : World) (h : DkAt W P db s) (he : ErC W P be en ee se) :
    Calls Tryd.prog 23 #[.pointer (some ⟨db, 0, none⟩), .string n, .string t] W fun e w' => e = .returned (ev be en ee se (s.app n t).1) ∧ DkAt w' (Gr P W w') db (s.app n t).2 ∧ Off P W w' := by
  have HI : Hid _ := isName_disk n hn W
  have HD : Hid (DkAt W P db s) := h
  have HE : Hid (ErC W P be en ee se) := he
  have HGr : Hid (∀ w', Below W.heap.size W w' → DkAt w' (Gr P W w') db s) := fun w' hb => (HD.out.below hb).gr (fun _ h => .inl h) (fun k hk => by
    rcases hk with hk | ⟨_, hk⟩
    · exact Nat.lt_of_lt_of_le (HD.out.lt k hk) hb.size
    · exact hk)
  obtain ⟨r, HR⟩ := hid_nm (s.app n t)
  rw [HR.out]
  clear h he
  cases hx : fnOk n with
  | false =>
    rw [hx] at HI
    obtain rfl : r = (5, s) := HR.out.symm.trans (by unfold DkSt.app; rw [if_pos hx])
    clear hx
    go_enter Tryd.func23, Tryd.ntmps23
    go_wp2_with fail
    refine Calls.mono HI.out ?_
    rintro e w1 ⟨rfl, hb1⟩
    have hE5 := (HE.out.below hb1).n
    go_wp2
    go_ret
    exact ⟨rfl, HGr.out w1 hb1, Off.of_below hb1⟩
  | true =>
    rw [hx] at HI
    have HN12 : Hid (fnOk n = true) := hx
    clear hx
    by_cases ht0 : t.size = 0
    · obtain rfl : r = (0, s) := HR.out.symm.trans (by unfold DkSt.app; rw [if_neg (by rw [HN12.out]; simp), if_pos ht0])
      obtain rfl : t = ⟨#[]⟩ := by
        cases t with | mk d => simp [ByteArray.size] at ht0; simp [ht0]
      clear ht0
      go_enter Tryd.func23, Tryd.ntmps23
      go_wp2_with fail
      refine Calls.mono HI.out ?_
      rintro e w1 ⟨rfl, hb1⟩
      go_wp2
      go_ret
      exact ⟨rfl, HGr.out w1 hb1, Off.of_below hb1⟩
    have HT0 : Hid (t.size ≠ 0) := ht0
    have q0 : t.toList.isEmpty = false := by
      rw [ByteArray.toList_eq, List.isEmpty_eq_false_iff]
      intro e
      exact ht0 (by have := congrArg List.length e; simpa using this)
    clear ht0
    go_enter Tryd.func23, Tryd.ntmps23
    go_wp2_with fail
    refine Calls.mono HI.out ?_
    rintro e w1 ⟨rfl, hb1⟩
    have HD1 : Hid (DkAt w1 P db s) := HD.out.below hb1
    have HB1 : Hid (Below W.heap.size W w1) := hb1
    have HE1 : Hid (ErC w1 P be en ee se) := HE.out.below hb1
    obtain ⟨mb, ld, hb, hl, D, vf, hF⟩ := HD1.out.box
    obtain ⟨m, hm0⟩ := hF.map
    have hm := own_tight hm0
    obtain ⟨⟨p0, p1, p2, p3, p4⟩, _⟩ := row5 hb
    have hlen := hm.len Tryd.underlying47 3
    rw [hF.size HD1.out.ok.srt] at hlen
    clear hb1 hb hl hF hm hm0
    go_upto_region 5 with fail
    clear q0
    by_cases hfull : fHas s.fs n = false ∧ 40 ≤ s.fs.length
    · obtain rfl : r = (2, s) := HR.out.symm.trans (by unfold DkSt.app; rw [if_neg (by rw [HN12.out]; simp), if_neg HT0.out, if_pos hfull])
      have q1 : decide ((40 : Int) ≤ (s.fs.length : Int)) = true := by rw [decide_eq_true_iff]; omega
      have hE2 := HE1.out.b
      have HHs : Hid (fHas s.fs n = false) := hfull.1
      clear hfull
      go_wp2_with fail
      refine Calls.mono (has_disk db P s n hn w1 HD1.out) ?_
      rintro e w2 ⟨rfl, hw2⟩
      obtain rfl := hw2.symm
      clear hw2
      rw [HHs.out]
      go_wp2
      go_ret
      exact ⟨rfl, HGr.out w1 HB1.out, Off.of_below HB1.out⟩
    obtain ⟨hs, HHs⟩ := hid_nm (fHas s.fs n)
    have HFu : Hid (¬ (fHas s.fs n = false ∧ 40 ≤ s.fs.length)) := hfull
    have HQ1 : Hid (hs = false → decide ((40 : Int) ≤ (s.fs.length : Int)) = false) := fun e => by
      rw [decide_eq_false_iff_not]
      have h1 : fHas s.fs n = false := HHs.out.trans e
      intro h2
      exact hfull ⟨h1, by omega⟩
    clear hfull
    go_cut [25] (fun x wx => x = .bool false ∧ wx = w1)
    case first =>
      go_wp2_with fail
      refine Calls.mono (has_disk db P s n hn w1 HD1.out) ?_
      rintro e w2 ⟨rfl, hw2⟩
      obtain rfl := hw2.symm
      clear hw2
      rw [HHs.out]
      cases hs with
      | true =>
        go_wp2
        go_meet
        exact ⟨rfl, rfl⟩
      | false =>
        have q1 := HQ1.out rfl
        go_wp2
        go_meet
        exact ⟨rfl, rfl⟩
    case rest =>
      obtain ⟨rfl, rfl⟩ := hcut
      clear hlen
      have HU : Hid (∀ X, Below wc.heap.size wc X → Calls Tryd.prog 11 #[.pointer (some ⟨db, 0, none⟩)] X fun e w' => e = .returned (.int .i64 (fUsed s.fs)) ∧ Below X.heap.size X w') := fun X hX => used_disk db P s X (HD1.out.below hX)
      have HU5 : Hid (fUsed s.fs ≤ 500000 ∧ s.quota ≤ 500000 ∧ fUsed s.fs ≤ s.quota) := ⟨Nat.le_trans HD1.out.ok.used HD1.out.ok.quo, HD1.out.ok.quo, HD1.out.ok.used⟩
      have HP3 : Hid (∀ X, Below wc.heap.size wc X → X.cell? ⟨db, 3, none⟩ = some (.int .i64 s.quota)) := fun X hX => (hX.cell (World.block_lt_of_cell? wc _ p3)).trans p3
      go_upto_region 7 with fail
      go_cut [36] (fun x wx => x = .bool (decide (s.quota < fUsed s.fs + t.size)) ∧ Hid (Below wc.heap.size wc wx))
      case first =>
        obtain ⟨u5, q5, uq5⟩ := HU5.out
        have hbb : Below wc.heap.size wc wc.drew := (Below.refl _ _).drew
        have hq : decide ((s.quota : Int) - (fUsed s.fs : Int) < (t.size : Int)) = decide (s.quota < fUsed s.fs + t.size) := by rw [decide_eq_decide]; omega
        have hwr : IntKind.i64.wrap ((s.quota : Int) - (fUsed s.fs : Int)) = (s.quota : Int) - (fUsed s.fs : Int) := by rw [IntKind.wrap_i64]; omega
        generalize fUsed s.fs = us at *
        clear HI HD HE HGr HR HN12 HT0 HHs HFu HQ1 HD1 HB1 HE1
        go_region_law (go_simp; (with_reducible refine Calls.mono (HU.out _ hbb) ?_); rintro e w3 ⟨rfl, hb3⟩; replace hbb := hbb.trans (hb3.mono hbb.size); replace p3 := HP3.out _ hbb)
        all_goals
          have HH : Hid (Below wc.heap.size wc _) := hbb
          clear hbb
          go_wp2
          go_meet
          exact ⟨rfl, HH⟩
      case rest =>
        obtain ⟨rfl, HBw⟩ := hcut
        rename World => wq
        have HBq : Hid (Below wc.heap.size wc wq) := HBw
        have HDq : Hid (DkAt wq P db s) := HD1.out.below HBq.out
        have HEq : Hid (ErC wq P be en ee se) := HE1.out.below HBq.out
        have HWq : Hid (Below W.heap.size W wq) := HB1.out.trans (HBq.out.mono HB1.out.size)
        clear HBw p0 p1 p2 p3 p4
        by_cases hroom : s.quota < fUsed s.fs + t.size
        · obtain rfl : r = (8, s) := HR.out.symm.trans (by unfold DkSt.app; rw [if_neg (by rw [HN12.out]; simp), if_neg HT0.out, if_neg HFu.out, if_pos hroom])
          rw [decide_eq_true hroom]
          have hE8 := HEq.out.s
          clear hroom
          go_wp2
          go_ret
          exact ⟨rfl, HGr.out wq HWq.out, Off.of_below HWq.out⟩
        have HRm : Hid (¬ s.quota < fUsed s.fs + t.size) := hroom
        rw [decide_eq_false hroom]
        clear hroom
        go_wp2_with fail
        refine Calls.mono (spend_disk db P s t.size (by omega) hd wq HDq.out) ?_
        rintro e w5 ⟨rfl, hd5, hg5, hs5⟩
        obtain ⟨k, HK⟩ := hid_nm (s.k t.size)
        rw [HK.out]
        have hkl : k ≤ t.size := by rw [← HK.out]; exact s.k_le _
        have HD5 : Hid (DkAt w5 P db (s.spend t.size)) := hd5
        have HO5 : Hid (Off P W w5) := (Off.of_below (S := P) HWq.out).trans (off_of hg5 HD.out.dbP) (fun _ _ h => h)
        have HE5 : Hid (ErC w5 P be en ee se) := HEq.out.off0 (off_of hg5 HD.out.dbP)
        clear hd5 hg5 hs5 HGr HI HD HBq HDq HEq HWq HD1 HB1 HE1 HU HU5 HP3
        by_cases hk0 : k = 0
        · obtain rfl : r = (6, s.spend t.size) := HR.out.symm.trans (by
            unfold DkSt.app
            rw [if_neg (by rw [HN12.out]; simp), if_neg HT0.out, if_neg HFu.out, if_neg HRm.out, HK.out, hk0, if_pos (Nat.pos_of_ne_zero HT0.out), if_neg (Nat.lt_irrefl 0)])
          subst hk0
          have hE6 := HE5.out.e
          have hpos : 0 < t.size := Nat.pos_of_ne_zero HT0.out
          go_wp2
          go_ret
          exact ⟨rfl, HD5.out.gr (fun _ h => .inl h) (fun k hk => by
            rcases hk with hk | ⟨_, hk⟩
            · exact HD5.out.lt k hk
            · exact hk), HO5.out⟩
        have hkp : 0 < k := by omega
        obtain rfl : r = (if k < t.size then 6 else 0, { s.spend t.size with fs := fApp s.fs n (bcut t k) }) := HR.out.symm.trans (by
            unfold DkSt.app
            rw [if_neg (by rw [HN12.out]; simp), if_neg HT0.out, if_neg HFu.out, if_neg HRm.out, HK.out, if_pos hkp])
        clear hk0
        obtain ⟨i0, hi, hz0, hz1, hz2⟩ := info_parts Tryd.info5
        obtain ⟨mb, ld, hb, hl, D, vf, hF⟩ := HD5.out.box
        obtain ⟨a, c, old, hlk0, hold⟩ := hF.old HD5.out.ok.srt n hn
        obtain ⟨⟨p0, p1, p2, p3, p4⟩, _⟩ := row5 hb
        have hlk : (Instr.lookup 47 (.map (some mb)) (.string n) false).run Tryd.prog w5.drew = .ok (.slice a (bl old).length c) w5.drew := hlk0 w5.drew rfl
        obtain ⟨m5, hm50⟩ := hF.map
        have hm5 := own_tight hm50
        have hm5z : Maps.size D < maxLen := by rw [hF.size HD5.out.ok.srt]; have := HD5.out.ok.len; unfold maxLen; omega
        have HB5 : Hid (w5.heap[db]? = some (.cells (dkBox (s.spend t.size).done (s.spend t.size).short ld (s.spend t.size).quota mb) 51 (0, 0))) := hb
        have HL5 : Hid ((s.spend t.size).short = true → ld = (s.spend t.size).left) := hl
        have HF5 : Hid (FM w5 P mb (s.spend t.size).fs D vf) := hF
        have HA5 : Hid (ApO w5 P (s.spend t.size).fs vf n (.slice a (bl old).length c) old) := hold
        have HM5 : Hid (w5.ownsMap Tryd.prog 9 RF mb (Maps.size D) D) := hm5
        have hrow5 := hold.row
        have hmbne := row_ne_map hold.row hm5
        have hdbne : some db ≠ (Value.slice a (bl old).length c).ownBlock := fun e => ow_apart hold.row hb (by decide) e.symm
        have hxs : (t.extract 0 k).size = k := by rw [ByteArray.size_extract]; omega
        have hxc : t.extract 0 k = bcut t k := by
          apply bl_inj
          simp [bl, bcut, ByteArray.data_extract, Array.toList_extract, List.extract]
        have holz : (bl old).length ≤ 500000 := by
          have h1 := hold.le
          have h2 := HD5.out.ok.used
          have h3 := HD5.out.ok.quo
          have h4 : (s.spend t.size).fs = s.fs := rfl
          simp only [h4] at h1 h2
          have h5 : (bl old).length = old.size := by simp [bl]
          omega
        have HXC : Hid (t.extract 0 k = bcut t k) := hxc
        have HXS : Hid ((t.extract 0 k).size = k) := hxs
        clear hxc
        go_upto_region 11 with fail
        go_cut [] (fun wx => Hid (DkAt wx (Gr P W wx) db { s.spend t.size with fs := fApp s.fs n (bcut t k) }) ∧ Hid (Off P W wx))
        case first =>
          have HSZ : Hid ((bl old).length + (t.extract 0 k).size = (bl (bcat old (bcut t k))).length) := (by
            show _ = _
            rw [HXS.out]
            have e : (bl (bcat old (bcut t k))).length = (bcat old (bcut t k)).size := by simp [bl]
            rw [e, bcat_size, bcut_size t k hkl]
            simp [bl])
          have HCL : Hid (cellsOf (bl old) ++ Lib.strCells (t.extract 0 k) = cellsOf (bl (bcat old (bcut t k)))) := (by
            show _ = _
            rw [HXC.out, strC_cut, ← ow_app]
            simp [bcat, bl, bcut])
          obtain ⟨LN, HLN⟩ := hid_nm (bl (bcat old (bcut t k))).length
          clear hold hlk0 hb hl hF
          go_region_law (first
            | (refine step_where_string rfl _ _ 61 9 rfl 0 5 i0 Tryd.underlying61 Tryd.underlying9 hi hz0 hz1 hz2 _ (bl old).length (cellsOf (bl old)) rfl (row_drew hrow5) _ rfl (by rw [HXS.out]; unfold maxLen; omega) (by rw [HXS.out]; omega) (Nat.zero_le _) ?_; intro v' w6 hown6 hgr6 hwh6; rw [HSZ.out, HCL.out, HLN.out] at hown6; obtain ⟨a6, c6, rfl⟩ := own_slC hown6; obtain ⟨w7, hrun7, hown7, hturn7⟩ := (map_stay hm5 (hgr6.block mb hm5.lt hmbne)).store Tryd.lawK Tryd.underlying47 hm5z (kS_of n hn) (val := .slice a6 LN c6) rfl; have p46 : w6.cell? ⟨db, 4, none⟩ = some (.map (some mb)) := (World.cell?_of_block (hgr6.block db (lt_of_block HB5.out) hdbne)).trans p4))
          all_goals
            obtain rfl := HLN.out
            have hfin := app_done (s := s.spend t.size) HD5.out HO5.out HB5.out HL5.out HF5.out HM5.out HA5.out hown6 ⟨hgr6.os, hgr6.tape, hgr6.output, hgr6.size, hgr6.block⟩ hwh6 hown7 hturn7 (fnOk_le HN12.out) (by rw [bcut_size t k hkl]; omega) HFu.out (by
              rw [bcut_size t k hkl]
              have h1 : ¬ s.quota < fUsed s.fs + t.size := HRm.out
              show fUsed s.fs + k ≤ s.quota
              omega)
            have HF1 : Hid _ := hfin.1
            have HF2 : Hid _ := hfin.2
            clear hfin hlk p0 p1 p2 p3 p4 p46 hrun7
            go_wp2
            go_meet
            exact ⟨HF1, HF2⟩
        case rest =>
          obtain ⟨HF1, HF2⟩ := hcut
          rename World => w8
          have hE6 := (HE.out.off0 HF2.out).e
          have HF3 : Hid (Off P W w8) := HF2.out
          have HF4 : Hid (DkAt w8 (Gr P W w8) db { s.spend t.size with fs := fApp s.fs n (bcut t k) }) := HF1.out
          clear HF1 HF2 hold hlk0 hlk hb hl hF hm5 hm50 hrow5 p0 p1 p2 p3 p4
          by_cases hlt : k < t.size
          · go_wp2
            go_ret
            exact ⟨rfl, HF4.out, HF3.out⟩
          · go_wp2
            go_ret
            exact ⟨rfl, HF4.out, HF3.out⟩
end Go.Proofs.YtmpdkccmcnegkaaDoor
