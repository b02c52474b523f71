/-
  A disk's New, Remove, Rename.
-/
import Derived.Test.YtmpdkccmcnegkaaDoorIDkR
namespace Go.Proofs.YtmpdkccmcnegkaaDoor
open Go.RowKit Go.Maps
/-- The errors that a disk tells lie outside of what may turn. -/
structure ErC (w : World) (P : Nat → Prop) (be en ee se : Value) : Prop where
  b : w.cell? ⟨0, 0, none⟩ = some be
  n : w.cell? ⟨1, 0, none⟩ = some en
  e : w.cell? ⟨5, 0, none⟩ = some ee
  s : w.cell? ⟨7, 0, none⟩ = some se
  ap : ∀ k, P k → k ≠ 0 ∧ k ≠ 1 ∧ k ≠ 5 ∧ k ≠ 7
def ev (be en ee se : Value) (c : Nat) : Value := if c = 2 then be else if c = 5 then en else if c = 6 then ee else if c = 8 then se else .nilIface
theorem ErC.off {w w' : World} {P : Nat → Prop} {be en ee se : Value} (h : ErC w P be en ee se) (ho : Off P w w') : ErC w' (Gr P w w') be en ee se := by
  have hlt : ∀ g v, w.cell? ⟨g, 0, none⟩ = some v → g < w.heap.size := fun g v hg => World.block_lt_of_cell? w _ hg
  have key : ∀ g v, ¬ P g → w.cell? ⟨g, 0, none⟩ = some v → w'.cell? ⟨g, 0, none⟩ = some v := fun g v hg hv =>
    (World.cell?_of_block (ho.keep g (hlt g v hv) hg)).trans hv
  refine ⟨key _ _ (fun hp => (h.ap _ hp).1 rfl) h.b, key _ _ (fun hp => (h.ap _ hp).2.1 rfl) h.n, key _ _ (fun hp => (h.ap _ hp).2.2.1 rfl) h.e, key _ _ (fun hp => (h.ap _ hp).2.2.2 rfl) h.s, fun k hk => ?_⟩
  rcases hk with hk | ⟨hk, _⟩
  · exact h.ap k hk
  · have h1 := hlt _ _ h.b
    have h2 := hlt _ _ h.n
    have h3 := hlt _ _ h.e
    have h4 := hlt _ _ h.s
    refine ⟨?_, ?_, ?_, ?_⟩ <;> intro e <;> subst e <;> omega
theorem Gr.of {P : Nat → Prop} {W w' : World} (hs : w'.heap.size = W.heap.size) : Gr P W w' = P := by
  funext k
  refine propext ⟨fun h => ?_, .inl⟩
  rcases h with h | ⟨h1, h2⟩
  · exact h
  · omega
theorem DkAt.gr {w : World} {P P' : Nat → Prop} {db : Nat} {s : DkSt} (h : DkAt w P db s) (hP : ∀ k, P k → P' k) (hl : ∀ k, P' k → k < w.heap.size) : DkAt w P' db s := by
  obtain ⟨mb, ld, hb, h2, D, vf, hF⟩ := h.box
  exact ⟨⟨mb, ld, hb, h2, D, vf, hF.stay (fun _ _ _ => rfl) hP⟩, hP _ h.dbP, hl, h.ok⟩
theorem DkAt.off {w w' : World} {P Q : Nat → Prop} {db : Nat} {s : DkSt} (h : DkAt w Q db s) (ho : Off P w w') (hd : ∀ k, P k → Q k → False) : DkAt w' Q db s := by
  obtain ⟨mb, ld, hb, h2, D, vf, hF⟩ := h.box
  exact ⟨⟨mb, ld, ho.blk hb (fun hp => hd _ hp h.dbP), h2, D, vf, hF.stay (fun k hk hq => ho.keep k hk (fun hp => hd k hp hq)) (fun _ hk => hk)⟩, h.dbP, fun k hk => Nat.lt_of_lt_of_le (h.lt k hk) ho.size, h.ok⟩
set_option maxRecDepth 100000 in
theorem spend_disk (db : Nat) (P : Nat → Prop) (s : DkSt) (n : Nat) (hn : n ≤ 1000000) (hd : s.done ≤ 1000000000) (W : World) (h : DkAt W P db s) :
    Calls Tryd.prog 35 #[.pointer (some ⟨db, 0, none⟩), .int .i64 n] W fun e w' => e = .returned (.int .i64 (s.k n : Nat)) ∧ DkAt w' P db (s.spend n) ∧ W.grownBy w' (some db) ∧ w'.heap.size = W.heap.size := by
  obtain ⟨mb, ld, hb, hl, hF⟩ := h.box
  refine (spend_any db s.done s.quota mb n s.left s.short ld W hb hl hn hd h.ok.lft).mono ?_
  rintro e w' ⟨rfl, hr⟩
  refine ⟨rfl, DkAt.turn (s' := s.spend n) h.dbP h.lt hF hb _ hr.box hr.grown (fun hs => ?_) rfl (h.ok.spend n), hr.grown, hr.size⟩
  have hs' : s.short = true := hs
  simp [DkSt.spend, DkSt.k, hs']
theorem off_of {P : Nat → Prop} {W w' : World} {g : Nat} (hg : W.grownBy w' (some g)) (hP : P g) : Off P W w' := Off.of_grown hg (fun k _ e => by cases e; exact hP)
/-- Remove, as a function. -/
def DkSt.rem (s : DkSt) (n : ByteArray) : Nat × DkSt :=
  if fHas s.fs n = false then (5, s) else if s.k 1 < 1 then (6, s.spend 1) else (0, { s.spend 1 with fs := fDel s.fs n })
theorem StOk.del {s : DkSt} (h : StOk s) (n : ByteArray) : StOk { s with fs := fDel s.fs n } := by
  refine ⟨h.srt.del n, Nat.le_trans (len_del _ _) h.len, fun p hp => h.each p (mem_del.1 hp).1, ?_, h.quo, h.lft⟩
  refine Nat.le_trans ?_ h.used
  have := fDone_le s.fs (fun m => decide (m = n))
  have e : fDone s.fs (fun m => decide (m = n)) = fUsed (fDel s.fs n) := by
    unfold fDone fDel
    exact congrArg fUsed (List.filter_congr (fun p _ => by simp))
  rw [← e]; exact this
/-- The files have turned, the box has not. -/
theorem DkAt.refile {W w' : World} {P' : Nat → Prop} {db mb : Nat} {ld : Int} {s : DkSt} {fs' : List Fl} {D : DataW Value} {vf : ByteArray → Value} (hb : W.heap[db]? = some (.cells (dkBox s.done s.short ld s.quota mb) 51 (0, 0))) (hl : s.short = true → ld = s.left)
    (hk : w'.heap[db]? = W.heap[db]?) (hF : FM w' P' mb fs' D vf) (hP : P' db) (hlt : ∀ k, P' k → k < w'.heap.size) (hok : StOk { s with fs := fs' }) : DkAt w' P' db { s with fs := fs' } :=
  ⟨⟨mb, ld, hk.trans hb, hl, D, vf, hF⟩, hP, hlt, hok⟩
theorem turned_size {w w' : World} {b : Nat} (h : w.mapTurned w' b) : w'.heap.size = w.heap.size := by
  obtain ⟨es, cl, es', cl', _, rfl⟩ := h
  simp [Go.ChangeMaps.setBlock]
theorem map_ne {w : World} {b db : Nat} {cs : Array Value} {t : TypeId} {z : Nat × Nat} {n : Nat} {D : DataW Value} {k : TypeId} (h : w.ownsMap Tryd.prog k RF b n D) (hb : w.heap[db]? = some (.cells cs t z)) : db ≠ b := by
  rintro rfl
  obtain ⟨es, cl, h1, _⟩ := h
  rw [h1] at hb; cases hb
set_option maxRecDepth 100000 in
set_option maxHeartbeats 1600000 in
theorem remove_disk (db : Nat) (P : Nat → Prop) (s : DkSt) (n : ByteArray) (hn : n.size ≤ maxLen) (hd : s.done ≤ 1000000000) (be en ee se : Value) (W : World) (h : DkAt W P db s) (he : ErC W P be en ee se) :
    Calls Tryd.prog 25 #[.pointer (some ⟨db, 0, none⟩), .string n] W fun e w' => e = .returned (ev be en ee se (s.rem n).1) ∧ DkAt w' P db (s.rem n).2 ∧ Off P W w' ∧ w'.heap.size = W.heap.size := by
  have HH : Hid _ := has_disk db P s n hn W h
  have HS : Hid _ := spend_disk db P s 1 (by omega) hd W h
  have HD : Hid (DkAt W P db s) := h
  have HE : Hid (ErC W P be en ee se) := he
  have hE5 := he.n
  clear h he
  unfold DkSt.rem
  cases hx : fHas s.fs n with
  | false =>
    rw [hx] at HH
    rw [if_pos rfl]
    clear hx
    go_enter Tryd.func25, Tryd.ntmps25
    go_wp2_with fail
    refine Calls.mono HH.out ?_
    rintro e w1 ⟨rfl, hw1⟩
    obtain rfl := hw1.symm
    clear hw1
    go_wp2
    go_ret
    exact ⟨rfl, HD.out, Off.refl _ _, rfl⟩
  | true =>
    rw [hx] at HH
    rw [if_neg (by simp)]
    clear hx hE5
    by_cases hk : s.k 1 < 1
    · rw [if_pos hk]
      have hk0 : s.k 1 = 0 := by omega
      rw [hk0] at HS
      clear hk hk0
      go_enter Tryd.func25, Tryd.ntmps25
      go_wp2_with fail
      refine Calls.mono HH.out ?_
      rintro e w1 ⟨rfl, hw1⟩
      obtain rfl := hw1.symm
      clear hw1
      go_wp2_with fail
      refine Calls.mono HS.out ?_
      rintro e w2 ⟨rfl, hd2, hg2, hs2⟩
      have hE6 := (HE.out.off (off_of hg2 HD.out.dbP)).e
      go_wp2
      go_ret
      exact ⟨rfl, hd2, off_of hg2 HD.out.dbP, hs2⟩
    · rw [if_neg hk]
      have hk0 : s.k 1 = 1 := by have := s.k_le 1; omega
      rw [hk0] at HS
      clear hk hk0
      go_enter Tryd.func25, Tryd.ntmps25
      go_wp2_with fail
      refine Calls.mono HH.out ?_
      rintro e w1 ⟨rfl, hw1⟩
      obtain rfl := hw1.symm
      clear hw1
      go_wp2_with fail
      refine Calls.mono HS.out ?_
      rintro e w2 ⟨rfl, hd2, hg2, hs2⟩
      obtain ⟨mb, ld, hb, hl, D, vf, hF⟩ := hd2.box
      obtain ⟨m, hm⟩ := hF.map
      obtain ⟨⟨p0, p1, p2, p3, p4⟩, _⟩ := row5 hb
      have HB : Hid (w2.heap[db]? = some (.cells (dkBox (s.spend 1).done (s.spend 1).short ld (s.spend 1).quota mb) 51 (0, 0))) := hb
      have HL : Hid ((s.spend 1).short = true → ld = (s.spend 1).left) := hl
      have HF : Hid (FM w2 P mb (s.spend 1).fs D vf) := hF
      have HD2 : Hid (DkAt w2 P db (s.spend 1)) := hd2
      have HO2 : Hid (Off P W w2) := off_of hg2 HD.out.dbP
      have HZ : Hid (w2.heap.size = W.heap.size) := hs2
      clear hb hl hF hd2 hg2 hs2
      go_wp2_with (first | (at_delete; refine wpList_delete_own _ rfl _ _ 47 9 rfl 61 Tryd.lawK Tryd.underlying47 RF mb m D rfl hm _ _ rfl (kS_of n hn) ?_; intro w3 hown3 hturn3) | go_in)
      go_ret
      have hz := turned_size hturn3
      have hne := map_ne hm HB.out
      refine ⟨rfl, DkAt.refile (s := s.spend 1) HB.out HL.out (hturn3.grown.block db (lt_of_block HB.out) (fun e => hne (by injection e))) (HF.out.del n hown3 hturn3) HD2.out.dbP (fun k hk => by rw [hz]; exact HD2.out.lt k hk) (HD2.out.ok.del n), HO2.out.trans (off_of hturn3.grown HF.out.mbP) (fun _ _ h => h), hz.trans HZ.out⟩
end Go.Proofs.YtmpdkccmcnegkaaDoor
