/-
  The law's model of a disk: used, room.
-/
import Derived.Test.YtmpdkccmcnegkaaDoorIMdA
namespace Go.Proofs.YtmpdkccmcnegkaaDoor
open Go.RowKit Go.Maps
theorem used_take (fs : List Fl) (i : Nat) (h : i < fs.length) : fUsed (fs.take (i + 1)) = fUsed (fs.take i) + fs[i].2.size := by
  unfold fUsed
  rw [List.take_add_one, List.getElem?_eq_getElem h, List.map_append, List.sum_append]
  simp only [Option.toList, List.map_cons, List.map_nil, List.sum_cons, List.sum_nil, Nat.add_zero]
theorem used_take_le (fs : List Fl) (i : Nat) : fUsed (fs.take i) ≤ fUsed fs := by
  have h : fUsed fs = fUsed (fs.take i ++ fs.drop i) := by rw [List.take_append_drop]
  rw [h]
  unfold fUsed
  rw [List.map_append, List.sum_append]
  omega
set_option maxRecDepth 100000 in
set_option maxHeartbeats 1600000 in
theorem used_md (b : Nat) (P : Nat → Prop) (s : DkSt) (W : World) (h : MdAt W P b s) :
    Calls Tryd.prog 19 #[.pointer (some ⟨b, 0, none⟩)] W fun e w' => e = .returned (.int .i64 (fUsed s.fs)) ∧ w' = W := by
  obtain ⟨na, nc, ta, tc, lm, hb, _, _, hr⟩ := h.box
  obtain ⟨⟨p0, p1, p2, p3, p4, p5⟩, _⟩ := row6 hb
  have HR : Hid _ := hr.tr
  have hlen := h.ok.len
  have HU : Hid (fUsed s.fs ≤ 500000) := Nat.le_trans h.ok.used h.ok.quo
  clear hb hr h
  generalize s.fs = fs at HR hlen p1 HU ⊢
  go_enter Tryd.func19, Tryd.ntmps19
  go_wp2
  go_loop [3, 4] (fun y x => ∃ (i u : Nat), i ≤ fs.length ∧ x = .int .i64 i ∧ y = .int .i64 u ∧ Hid (fUsed (fs.take i) = u)) (fun _ x => fs.length - (intOf x).toNat)
  case atStart => exact ⟨0, 0, Nat.zero_le _, rfl, rfl, rfl⟩
  case round =>
    obtain ⟨i, u, hi, rfl, rfl, HA⟩ := hrel
    by_cases hlt : i < fs.length
    · obtain ⟨g, rfl, hc⟩ := row_at HR.out (j := i) (by simpa using hlt)
      rw [List.getElem_map] at hc
      obtain ⟨x, HX⟩ := hid_nm fs[i].2
      rw [HX.out] at hc
      have h1 := used_take fs i hlt
      have h2 := used_take_le fs (i + 1)
      have h3 := HU.out
      rw [HA.out, HX.out] at h1
      have HN : Hid (fUsed (fs.take (i + 1)) = u + x.size) := h1
      have hb : u + x.size ≤ 500000 := by omega
      clear h1 h2 h3
      go_wp2
      go_round
      case rel => exact ⟨i + 1, u + x.size, by omega, by go_num, by go_num, HN⟩
      case measure => simp [intOf]; omega
    · obtain rfl : i = fs.length := by omega
      have HE : Hid (fUsed fs = u) := (by show _ = _; rw [← HA.out, List.take_length])
      go_wp2
      go_ret
      exact ⟨by rw [HE.out]; rfl, rfl⟩
/-- The model's box alone has turned. -/
theorem MdAt.turn {W w' : World} {P : Nat → Prop} {b : Nat} {s s' : DkSt} {na ta : Option Addr} {nc tc : Nat} {lm : Int} (hP : P b) (hlt : ∀ k, P k → k < W.heap.size) (hr : MdR W P s.fs na nc ta tc)
    (hb : W.heap[b]? = some (.cells (mdBox na s.fs.length nc ta tc s.quota s.short lm s.done) 33 (0, 0))) (lm' : Int) (hb' : w'.heap[b]? = some (.cells (mdBox na s.fs.length nc ta tc s'.quota s'.short lm' s'.done) 33 (0, 0))) (hg : W.grownBy w' (some b)) (hl : s'.short = true → lm' = s'.left)
    (hlm : -(s'.done : Int) ≤ lm' ∧ lm' ≤ 9223372036854775807) (hfs : s'.fs = s.fs) (hok : StOk s') : MdAt w' P b s' := by
  have hne : ∀ {base e n : Nat} {v : Value} {xs : List Value} {g : Nat}, W.ownsRow base e 1 v n xs → e ≠ 33 → v.ownBlock = some g → some g ≠ some b := fun h he hg e => by
    injection e with e
    subst e
    rcases h.2 with ⟨rfl, _⟩ | ⟨g1, cap, cur, rfl, _, h1, _⟩
    · cases hg
    · simp [Value.ownBlock] at hg; subst hg; rw [h1] at hb
      injection hb with hb
      injection hb with _ e2 _
      exact he e2
  refine ⟨⟨na, nc, ta, tc, lm', by rw [hfs]; exact hb', hl, hlm, ?_⟩, hP, fun k hk => Nat.lt_of_lt_of_le (hlt k hk) hg.size, hok⟩
  rw [hfs]
  exact ⟨own_stay hr.nr (fun g hg' => hg.block g (own_lt hr.nr hg') (hne hr.nr (by decide) hg')), own_stay hr.tr (fun g hg' => hg.block g (own_lt hr.tr hg') (hne hr.tr (by decide) hg')), hr.no, hr.to_, hr.ne⟩
set_option maxRecDepth 100000 in
set_option maxHeartbeats 1600000 in
theorem room_md (b : Nat) (P : Nat → Prop) (s : DkSt) (n : Nat) (hn : n ≤ 1000000) (hd : s.done ≤ 1000000000) (W : World) (h : MdAt W P b s) :
    Calls Tryd.prog 20 #[.pointer (some ⟨b, 0, none⟩), .int .i64 n] W fun e w' => e = .returned (.int .i64 (s.k n : Nat)) ∧ MdAt w' P b (s.spend n) ∧ W.grownBy w' (some b) ∧ w'.heap.size = W.heap.size := by
  obtain ⟨na, nc, ta, tc, lm, hb, hl, ⟨hm1, hm2⟩, hr⟩ := h.box
  obtain ⟨⟨p0, p1, p2, p3, p4, p5⟩, f0, f1, f2, f3, f4, f5⟩ := row6 hb
  have HB : Hid (W.heap[b]? = some (.cells (mdBox na s.fs.length nc ta tc s.quota s.short lm s.done) 33 (0, 0))) := hb
  have HD : Hid (MdAt W P b s) := h
  have HR : Hid (MdR W P s.fs na nc ta tc) := hr
  obtain ⟨k, HK⟩ := hid_nm (s.k n)
  have HT : Hid (∀ w', w'.heap[b]? = some (.cells (mdBox na s.fs.length nc ta tc s.quota s.short (lm - k) (s.done + k)) 33 (0, 0)) → W.grownBy w' (some b) → MdAt w' P b (s.spend n)) := fun w' hb' hg => by
    have e := HK.out
    refine MdAt.turn (s' := s.spend n) HD.out.bP HD.out.lt HR.out HB.out (lm - k) (by simp only [DkSt.spend]; rw [HK.out]; exact hb') hg (fun hs => ?_) (by simp only [DkSt.spend]; rw [e]; omega) rfl (HD.out.ok.spend n)
    have hs' : s.short = true := hs
    have := hl hs'
    simp only [DkSt.spend, hs', if_true]
    rw [HK.out]
    have h2 : k ≤ s.left := by rw [← HK.out]; simp only [DkSt.k, hs', if_true]; omega
    omega
  have HZ : Hid (∀ k' : Int, ((W.setCell ⟨b, 4, none⟩ (.int .i64 k')).heap.size) = W.heap.size) := fun _ => by simp
  rw [HK.out]
  have hkn : k ≤ n := by rw [← HK.out]; exact s.k_le n
  cases hs : s.short with
  | false =>
    have hk : k = n := by rw [← HK.out]; simp [DkSt.k, hs]
    subst hk
    rw [hs] at p3 HB HT
    clear hl hb h hr HK
    go_enter Tryd.func20, Tryd.ntmps20
    go_wp2
    go_ret
    refine ⟨rfl, HT.out _ ?_ (grown_set (grown_set (grown_rfl _ _) _) _), grown_set (grown_set (grown_rfl _ _) _) _, by simp⟩
    have := setRow (j := 5) (setRow (j := 4) HB.out (.int .i64 (lm - (k : Int)))) (.int .i64 ((s.done : Int) + (k : Int)))
    simpa [mdBox] using this
  | true =>
    have hll := hl hs
    have hleft := HD.out.ok.lft
    have hk : k = min n s.left := by rw [← HK.out]; simp [DkSt.k, hs]
    rw [hs] at p3 HB HT
    subst hll
    clear hl hb h hr HK
    by_cases hnl : n ≤ s.left
    · have hkk : k = n := by omega
      subst hkk
      clear hk
      go_enter Tryd.func20, Tryd.ntmps20
      go_wp2
      go_ret
      refine ⟨rfl, HT.out _ ?_ (grown_set (grown_set (grown_rfl _ _) _) _), grown_set (grown_set (grown_rfl _ _) _) _, by simp⟩
      have := setRow (j := 5) (setRow (j := 4) HB.out (.int .i64 ((s.left : Int) - (k : Int)))) (.int .i64 ((s.done : Int) + (k : Int)))
      simpa [mdBox] using this
    · have hkk : k = s.left := by omega
      rw [hkk] at HT
      rw [hkk]
      clear hk hkk hkn
      generalize s.left = left at *
      go_enter Tryd.func20, Tryd.ntmps20
      go_wp2
      go_ret
      refine ⟨rfl, HT.out _ ?_ (grown_set (grown_set (grown_rfl _ _) _) _), grown_set (grown_set (grown_rfl _ _) _) _, by simp⟩
      have := setRow (j := 5) (setRow (j := 4) HB.out (.int .i64 ((left : Int) - (left : Int)))) (.int .i64 ((s.done : Int) + (left : Int)))
      simpa [mdBox] using this
end Go.Proofs.YtmpdkccmcnegkaaDoor
