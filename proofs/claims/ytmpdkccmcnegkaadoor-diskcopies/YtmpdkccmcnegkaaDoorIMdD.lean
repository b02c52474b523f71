/-
  The law's model of a disk: put.
-/
import Derived.Test.YtmpdkccmcnegkaaDoorIMdC
namespace Go.Proofs.YtmpdkccmcnegkaaDoor
open Go.RowKit Go.Maps
theorem news_one (w : World) (x : ByteArray) : ∀ j u, (strC [x])[j]? = some u → ∃ a, some (⟨w.heap.size, 0, none⟩ : Addr) = some a ∧ (w.alloc (.cells #[.string x] 9)).cell? (a.add j) = some u := fun j u hu => by
  have hj : j = 0 := by
    have := (List.getElem?_eq_some_iff.1 hu).1
    simp at this; omega
  subst hj
  refine ⟨_, rfl, ?_⟩
  rw [addrPl, cell_of_row _ _ _ _ _ _ (heap_alloc_new w _)]
  simpa [strC] using hu
theorem row_some {w : World} {base e n c i : Nat} {a : Option Addr} {ss : List ByteArray} (h : w.ownsRow base e 1 (.slice a n c) n (strC ss)) (hi : i ≤ n) (hc : c ≠ i) : ∃ g, a = some ⟨g, 0, none⟩ := by
  rcases h.2 with ⟨e1, e2⟩ | ⟨g, cap, cur, e1, _⟩
  · injection e1 with e1 e2 e3; omega
  · injection e1 with e1 e2 e3; exact ⟨g, e1⟩
theorem less_dec (x : List UInt8) : ∀ y, Op.bytesLess x y = decide (x < y) := by
  induction x with
  | nil => intro y; cases y <;> simp [Op.bytesLess]
  | cons a x ih =>
    intro y
    cases y with
    | nil => simp [Op.bytesLess]
    | cons b y =>
      rw [Op.bytesLess, ih y]
      rw [Bool.eq_iff_iff]
      by_cases h1 : a < b
      · simp [h1, List.cons_lt_cons_iff]
      · by_cases h2 : a = b
        · simp [h2]
        · simp [h1, h2, List.cons_lt_cons_iff]
set_option maxRecDepth 100000 in
set_option maxHeartbeats 6400000 in
theorem put_md (b : Nat) (P : Nat → Prop) (s : DkSt) (n t : ByteArray) (hn : ∀ p ∈ s.fs, p.1 ≠ n) (hok : StOk { s with fs := fIns s.fs n t }) (W : World) (h : MdAt W P b s) :
    Calls Tryd.prog 21 #[.pointer (some ⟨b, 0, none⟩), .string n, .string t] W fun e w' => e = .returned (.tuple #[]) ∧ MdAt w' (Gr P W w') b { s with fs := fIns s.fs n t } ∧ Off P W w' := by
  obtain ⟨iv, hvi, hv0, hv1, hv2⟩ := info_parts Tryd.infoStr
  obtain ⟨na, nc, ta, tc, lm, hb, hl, hlm, hr⟩ := h.box
  have HD : Hid (MdAt W P b s) := h
  have HLm : Hid ((s.short = true → lm = s.left) ∧ (-(s.done : Int) ≤ lm ∧ lm ≤ 9223372036854775807)) := ⟨hl, hlm⟩
  have hlen := h.ok.len
  obtain ⟨L, HL⟩ := hid_nm s.fs.length
  rw [HL.out] at hb hlen
  have HNR : Hid (W.ownsRow 0 9 1 (.slice na L nc) L (strC (s.fs.map (·.1)))) := (by have := hr.nr; rw [HL.out] at this; exact this)
  have HTR : Hid (W.ownsRow 0 9 1 (.slice ta L tc) L (strC (s.fs.map (·.2)))) := (by have := hr.tr; rw [HL.out] at this; exact this)
  have HB : Hid (W.heap[b]? = some (.cells (mdBox na L nc ta tc s.quota s.short lm s.done) 33 (0, 0))) := hb
  have hbl : b < W.heap.size := HD.out.lt b HD.out.bP
  have HSr : Hid (Srt s.fs) := h.ok.srt
  have HNn : Hid (∀ p ∈ s.fs, p.1 ≠ n) := hn
  have HOk : Hid (StOk { s with fs := fIns s.fs n t }) := hok
  obtain ⟨⟨p0, p1, p2, p3, p4, p5⟩, f0, f1, f2, f3, f4, f5⟩ := row6 hb
  clear hb hr h hl hlm p2 p3 p4 p5 f2 f3 f4 f5 hok hn
  have HX0 : Hid (∀ i, s.fs.takeWhile (ahd n) = s.fs.take i ∧ s.fs.dropWhile (ahd n) = s.fs.drop i → fIns s.fs n t = s.fs.take i ++ (n, t) :: s.fs.drop i) := fun i h => by unfold fIns; rw [h.1, h.2]
  go_enter Tryd.func21, Tryd.ntmps21
  go_wp2
  go_loop [6] (fun x => ∃ i : Nat, i ≤ L ∧ x = .int .i64 i ∧ Hid (∀ p ∈ s.fs.take i, ahd n p = true)) (fun x => L - (intOf x).toNat)
  case atStart => exact ⟨0, Nat.zero_le _, rfl, fun p h => absurd h (by simp)⟩
  case round =>
    obtain ⟨i, hi, rfl, HA⟩ := hrel
    obtain ⟨c, HC⟩ : ∃ c : Bool, Hid ((c = true → i < L ∧ ∀ p ∈ s.fs.take (i + 1), ahd n p = true) ∧ (c = false → s.fs.takeWhile (ahd n) = s.fs.take i ∧ s.fs.dropWhile (ahd n) = s.fs.drop i) ∧ c = (decide (i < L) && ((s.fs[i]?).map (ahd n)).getD false)) := (by
      by_cases hlt : i < L
      · have hlt' : i < s.fs.length := by rw [HL.out]; exact hlt
        cases ha : ahd n s.fs[i] with
        | true =>
          refine ⟨true, fun _ => ⟨hlt, fun p hp => ?_⟩, fun h => (by cases h), by rw [List.getElem?_eq_getElem hlt']; simp [hlt, ha]⟩
          rw [List.take_add_one, List.mem_append] at hp
          rcases hp with hp | hp
          · exact HA.out p hp
          · rw [List.getElem?_eq_getElem hlt'] at hp
            simp at hp; subst hp; exact ha
        | false =>
          refine ⟨false, fun h => (by cases h), fun _ => tw_len (by omega) HA.out (fun p hp => ?_), by rw [List.getElem?_eq_getElem hlt']; simp [ha]⟩
          rw [List.getElem?_eq_getElem hlt'] at hp; injection hp with hp; rw [← hp]; exact ha
      · refine ⟨false, fun h => (by cases h), fun _ => tw_len (by rw [HL.out]; exact hi) HA.out (fun p hp => ?_), by simp [hlt]⟩
        rw [List.getElem?_eq_none (by rw [HL.out]; omega)] at hp; cases hp)
    go_upto_region 1 with fail
    go_cut [26] (fun x wx => x = .bool c ∧ wx = W)
    case first =>
      by_cases hlt : i < L
      · have hlt' : i < s.fs.length := by rw [HL.out]; exact hlt
        obtain ⟨g, hg, hc⟩ := row_at HNR.out (j := i) (by simpa using hlt')
        subst hg
        rw [List.getElem_map] at hc
        obtain ⟨x, HX⟩ := hid_nm s.fs[i].1
        rw [HX.out] at hc
        have HQ : Op.bytesLess x.toList n.toList = c := by
          rw [HC.out.2.2, List.getElem?_eq_getElem hlt', less_dec, ByteArray.toList_eq, ByteArray.toList_eq]
          simp [hlt, ahd, HX.out, bl]
        go_wp2
        go_meet
        exact ⟨rfl, rfl⟩
      · have HQ : Hid (c = false) := (by show _ = _; rw [HC.out.2.2]; simp [hlt])
        go_wp2
        go_meet
        exact ⟨by rw [HQ.out], rfl⟩
    case rest =>
      obtain ⟨rfl, hwx⟩ := hcut
      obtain rfl := hwx.symm
      clear hwx
      cases c with
      | true =>
        obtain ⟨hlt, hN⟩ := HC.out.1 rfl
        have HN : Hid (∀ p ∈ s.fs.take (i + 1), ahd n p = true) := hN
        clear hN
        go_wp2
        go_round
        case rel => exact ⟨i + 1, by omega, by go_num, HN⟩
        case measure => simp [intOf]; omega
      | false =>
        have HW := HC.out.2.1 rfl
        have HIns : Hid (fIns s.fs n t = s.fs.take i ++ (n, t) :: s.fs.drop i) := HX0.out i HW
        clear HW HC HX0
        have hc1 : L ≤ nc := (own_cap HNR.out).2
        have hc2 : L ≤ tc := (own_cap HTR.out).2
        have hN1 : (s.fs.map (·.1)).length = L := by rw [List.length_map, HL.out]
        have hN2 : (s.fs.map (·.2)).length = L := by rw [List.length_map, HL.out]
        have HM1 : Hid (i + 1 + (L - i) = L + 1) := (by show _ = _; omega)
        have HLi : Hid ((fIns s.fs n t).length = L + 1) := (by show _ = _; rw [len_ins, HL.out])
        have HX0n : Hid (strC (((s.fs.map (·.1)).drop 0).take i) ++ strC [n] ++ strC (((s.fs.map (·.1)).drop i).take (L - i)) = strC ((fIns s.fs n t).map (·.1))) := (by
          show _ = _
          rw [HIns.out, List.drop_zero, List.take_of_length_le (l := (s.fs.map (·.1)).drop i) (by rw [List.length_drop, hN1]; exact Nat.le_refl _)]
          simp [strC])
        have HX0t : Hid (strC (((s.fs.map (·.2)).drop 0).take i) ++ strC [t] ++ strC (((s.fs.map (·.2)).drop i).take (L - i)) = strC ((fIns s.fs n t).map (·.2))) := (by
          show _ = _
          rw [HIns.out, List.drop_zero, List.take_of_length_le (l := (s.fs.map (·.2)).drop i) (by rw [List.length_drop, hN2]; exact Nat.le_refl _)]
          simp [strC])
        go_upto_region 4 with fail
        go_upto_region 5 with (first | (at_builtin; refine wpList_append_any _ rfl _ _ 31 rfl W.heap.size 9 iv (.string ⟨#[]⟩) 1 16 Tryd.underlying31 hvi hv0 hv1 hv2 rfl (by decide) (.slice none 0 0) 0 [] rfl (World.ownsRow_nil _ _ _ _) na i nc (strC (((s.fs.map (·.1)).drop 0).take i)) rfl (by have := HL.out; simp; omega) (news_S HNR.out i (by have := HL.out; simp; omega) _ (fun g e _ => e)) (one_S _) (by unfold maxLen; omega) (by omega) (Nat.le_refl _) ?_; intro l1 w1 hown1 hgr1 hwh1))
        rw [Nat.zero_add] at hown1
        obtain ⟨a1n, c1n, rfl⟩ := own_slC hown1
        have hb1 : Below W.heap.size W w1 := ⟨hgr1.os, hgr1.tape, hgr1.output, hgr1.size, fun k hk => hgr1.block k hk (by simp [Value.ownBlock])⟩
        have hb1a : Below W.heap.size W (w1.alloc (.cells #[.string n] 9)) := hb1.alloc hb1.size _
        have HOn : Hid ((w1.alloc (.cells #[.string n] 9)).ownsRow W.heap.size 9 1 (.slice a1n i c1n) i (strC (((s.fs.map (·.1)).drop 0).take i))) := ow_kept hown1 ((Below.refl _ _).alloc (Nat.le_refl _) _)
        have HB1n : Hid (Below W.heap.size W (w1.alloc (.cells #[.string n] 9))) := hb1a
        clear hown1 hgr1 hwh1 hb1 hb1a
        go_upto_region 6 with (first | (at_builtin; refine wpList_append_any _ rfl _ _ 31 rfl W.heap.size 9 iv (.string ⟨#[]⟩) 1 16 Tryd.underlying31 hvi hv0 hv1 hv2 rfl (by decide) (.slice a1n i c1n) i _ rfl HOn.out (some ⟨w1.heap.size, 0, none⟩) 1 1 (strC [n]) rfl rfl (news_one w1 n) (one_S _) (by unfold maxLen; omega) (by omega) HB1n.out.size ?_; intro l2 w2 hown2 hgr2 hwh2))
        obtain ⟨a2n, c2n, rfl⟩ := own_slC hown2
        have hnb2 : ∀ k, k < W.heap.size → some k ≠ (Value.slice a1n i c1n).ownBlock := fun k hk e => absurd (row_ge HOn.out e.symm) (by omega)
        have hb2 : Below W.heap.size W w2 := HB1n.out.trans ⟨hgr2.os, hgr2.tape, hgr2.output, hgr2.size, fun k hk => hgr2.block k (Nat.lt_of_lt_of_le hk HB1n.out.size) (hnb2 k hk)⟩
        have HPn : Hid (w2.ownsRow W.heap.size 9 1 (.slice a2n (i + 1) c2n) (i + 1) (strC (((s.fs.map (·.1)).drop 0).take i) ++ strC [n])) := hown2
        have HB2n : Hid (Below W.heap.size W w2) := hb2
        have HF2n : Hid (Off (· = b) W w2) := Off.of_below hb2
        have HR2n : Hid (w2.ownsRow 0 9 1 (.slice na L nc) L (strC (s.fs.map (·.1)))) := ow_kept HNR.out hb2
        have HX2n : Hid (w2.heap[b]? = some (.cells (mdBox na L nc ta tc s.quota s.short lm s.done) 33 (0, 0))) := blk_keep hb2 HB.out
        have HBNn : Hid (b < W.heap.size) := hbl
        obtain ⟨⟨q0n, q1n, _⟩, g0n, g1n, _⟩ := row6 HX2n.out
        clear hown2 hgr2 hwh2 hb2 hnb2
        go_cut [] (fun wx => Hid (NewRow W wx b 0 W.heap.size (L + 1) (mdBox na L nc ta tc s.quota s.short lm s.done) ((fIns s.fs n t).map (·.1))))
        case first =>
          by_cases hnc : nc = i
          · have HM0 : Hid (L - i = 0) := (by show _ = _; omega)
            go_wp2_with (first | (at_builtin; refine wpList_append_any _ rfl _ _ 31 rfl W.heap.size 9 iv (.string ⟨#[]⟩) 1 16 Tryd.underlying31 hvi hv0 hv1 hv2 rfl (by decide) (.slice a2n (i + 1) c2n) (i + 1) _ rfl HPn.out na _ _ (strC (((s.fs.map (·.1)).drop i).take (L - i))) rfl (by have := HL.out; simp; omega) (news_S HR2n.out (L - i) (by have := HL.out; simp; omega) _ (fun g e h0 => by exfalso; rw [HM0.out] at h0; exact Nat.lt_irrefl 0 h0)) (one_S _) (by unfold maxLen; omega) (by omega) HB2n.out.size ?_; intro l3 w3_ hown3 hgr3 hwh3; obtain ⟨a3, c3, rfl⟩ := own_slC hown3; have hnb : some b ≠ (Value.slice a2n (i + 1) c2n).ownBlock := (fun e => absurd (row_ge HPn.out e.symm) (by have := HBNn.out; omega)); have hx3 := (hgr3.block b (lt_of_block HX2n.out) hnb).trans HX2n.out; obtain ⟨⟨r0, r1, _⟩, s0, s1, _⟩ := row6 hx3))
            go_meet
            exact newRow (j := 0) HM1.out hx3 (by rw [HX0n.out] at hown3; exact hown3) HBNn.out (off_grown HF2n.out hgr3 HPn.out (Nat.le_refl _))
          · obtain ⟨g, hg⟩ := row_some HNR.out (by omega) hnc
            subst hg
            go_wp2_with (first | (at_builtin; refine wpList_append_any _ rfl _ _ 31 rfl W.heap.size 9 iv (.string ⟨#[]⟩) 1 16 Tryd.underlying31 hvi hv0 hv1 hv2 rfl (by decide) (.slice a2n (i + 1) c2n) (i + 1) _ rfl HPn.out (some ⟨g, i, none⟩) _ _ (strC (((s.fs.map (·.1)).drop i).take (L - i))) rfl (by have := HL.out; simp; omega) (news_S HR2n.out (L - i) (by have := HL.out; simp; omega) _ (fun g e h0 => by injection e with e; injection e with e1 e2; subst e1; rfl)) (one_S _) (by unfold maxLen; omega) (by omega) HB2n.out.size ?_; intro l3 w3_ hown3 hgr3 hwh3; obtain ⟨a3, c3, rfl⟩ := own_slC hown3; have hnb : some b ≠ (Value.slice a2n (i + 1) c2n).ownBlock := (fun e => absurd (row_ge HPn.out e.symm) (by have := HBNn.out; omega)); have hx3 := (hgr3.block b (lt_of_block HX2n.out) hnb).trans HX2n.out; obtain ⟨⟨r0, r1, _⟩, s0, s1, _⟩ := row6 hx3))
            go_meet
            exact newRow (j := 0) HM1.out hx3 (by rw [HX0n.out] at hown3; exact hown3) HBNn.out (off_grown HF2n.out hgr3 HPn.out (Nat.le_refl _))
        case rest =>
          rename World => w3
          rename Hid (NewRow _ w3 _ _ _ _ _ _) => HN3
          obtain ⟨a2, c2, hx3, hn3⟩ := HN3.out.ex
          have HX3 : Hid (w3.heap[b]? = some (.cells (#[.slice a2 (L + 1) c2, .slice ta L tc, .int .i64 s.quota, .bool s.short, .int .i64 lm, .int .i64 s.done] : Array Value) 33 (0, 0))) := (by show _ = _; rw [hx3]; rfl)
          have HNR3 : Hid (w3.ownsRow W.heap.size 9 1 (.slice a2 (L + 1) c2) (L + 1) (strC ((fIns s.fs n t).map (·.1)))) := hn3
          have HWN : Hid (W.heap.size ≤ w3.heap.size) := HN3.out.off.size
          have HTR3 : Hid (w3.ownsRow 0 9 1 (.slice ta L tc) L (strC (s.fs.map (·.2)))) := own_stay HTR.out (fun g hg => HN3.out.off.keep g (own_lt HTR.out hg) (model_ne HB.out HTR.out hg))
          obtain ⟨⟨y0, y1, _⟩, z0, z1, _⟩ := row6 HX3.out
          clear hx3 hn3 p0 p1 f0 f1 q0n q1n g0n g1n
          go_upto_region 8 with fail
          go_upto_region 9 with (first | (at_builtin; refine wpList_append_any _ rfl _ _ 31 rfl w3.heap.size 9 iv (.string ⟨#[]⟩) 1 16 Tryd.underlying31 hvi hv0 hv1 hv2 rfl (by decide) (.slice none 0 0) 0 [] rfl (World.ownsRow_nil _ _ _ _) ta i tc (strC (((s.fs.map (·.2)).drop 0).take i)) rfl (by have := HL.out; simp; omega) (news_S HTR3.out i (by have := HL.out; simp; omega) _ (fun g e _ => e)) (one_S _) (by unfold maxLen; omega) (by omega) (Nat.le_refl _) ?_; intro l1 w1 hown1 hgr1 hwh1))
          rw [Nat.zero_add] at hown1
          obtain ⟨a1t, c1t, rfl⟩ := own_slC hown1
          have hb1 : Below w3.heap.size w3 w1 := ⟨hgr1.os, hgr1.tape, hgr1.output, hgr1.size, fun k hk => hgr1.block k hk (by simp [Value.ownBlock])⟩
          have hb1a : Below w3.heap.size w3 (w1.alloc (.cells #[.string t] 9)) := hb1.alloc hb1.size _
          have HOt : Hid ((w1.alloc (.cells #[.string t] 9)).ownsRow w3.heap.size 9 1 (.slice a1t i c1t) i (strC (((s.fs.map (·.2)).drop 0).take i))) := ow_kept hown1 ((Below.refl _ _).alloc (Nat.le_refl _) _)
          have HB1t : Hid (Below w3.heap.size w3 (w1.alloc (.cells #[.string t] 9))) := hb1a
          clear hown1 hgr1 hwh1 hb1 hb1a
          go_upto_region 10 with (first | (at_builtin; refine wpList_append_any _ rfl _ _ 31 rfl w3.heap.size 9 iv (.string ⟨#[]⟩) 1 16 Tryd.underlying31 hvi hv0 hv1 hv2 rfl (by decide) (.slice a1t i c1t) i _ rfl HOt.out (some ⟨w1.heap.size, 0, none⟩) 1 1 (strC [t]) rfl rfl (news_one w1 t) (one_S _) (by unfold maxLen; omega) (by omega) HB1t.out.size ?_; intro l2 w2 hown2 hgr2 hwh2))
          obtain ⟨a2t, c2t, rfl⟩ := own_slC hown2
          have hnb2 : ∀ k, k < w3.heap.size → some k ≠ (Value.slice a1t i c1t).ownBlock := fun k hk e => absurd (row_ge HOt.out e.symm) (by omega)
          have hb2 : Below w3.heap.size w3 w2 := HB1t.out.trans ⟨hgr2.os, hgr2.tape, hgr2.output, hgr2.size, fun k hk => hgr2.block k (Nat.lt_of_lt_of_le hk HB1t.out.size) (hnb2 k hk)⟩
          have HPt : Hid (w2.ownsRow w3.heap.size 9 1 (.slice a2t (i + 1) c2t) (i + 1) (strC (((s.fs.map (·.2)).drop 0).take i) ++ strC [t])) := hown2
          have HB2t : Hid (Below w3.heap.size w3 w2) := hb2
          have HF2t : Hid (Off (· = b) w3 w2) := Off.of_below hb2
          have HR2t : Hid (w2.ownsRow 0 9 1 (.slice ta L tc) L (strC (s.fs.map (·.2)))) := ow_kept HTR3.out hb2
          have HX2t : Hid (w2.heap[b]? = some (.cells (#[.slice a2 (L + 1) c2, .slice ta L tc, .int .i64 s.quota, .bool s.short, .int .i64 lm, .int .i64 s.done] : Array Value) 33 (0, 0))) := blk_keep hb2 HX3.out
          have HBNt : Hid (b < w3.heap.size) := Nat.lt_of_lt_of_le hbl HWN.out
          obtain ⟨⟨q0t, q1t, _⟩, g0t, g1t, _⟩ := row6 HX2t.out
          clear hown2 hgr2 hwh2 hb2 hnb2
          by_cases hnc : tc = i
          · have HM0 : Hid (L - i = 0) := (by show _ = _; omega)
            go_wp2_with (first | (at_builtin; refine wpList_append_any _ rfl _ _ 31 rfl w3.heap.size 9 iv (.string ⟨#[]⟩) 1 16 Tryd.underlying31 hvi hv0 hv1 hv2 rfl (by decide) (.slice a2t (i + 1) c2t) (i + 1) _ rfl HPt.out ta _ _ (strC (((s.fs.map (·.2)).drop i).take (L - i))) rfl (by have := HL.out; simp; omega) (news_S HR2t.out (L - i) (by have := HL.out; simp; omega) _ (fun g e h0 => by exfalso; rw [HM0.out] at h0; exact Nat.lt_irrefl 0 h0)) (one_S _) (by unfold maxLen; omega) (by omega) HB2t.out.size ?_; intro l3 w3_ hown3 hgr3 hwh3; obtain ⟨a3, c3, rfl⟩ := own_slC hown3; have hnb : some b ≠ (Value.slice a2t (i + 1) c2t).ownBlock := (fun e => absurd (row_ge HPt.out e.symm) (by have := HBNt.out; omega)); have hx3 := (hgr3.block b (lt_of_block HX2t.out) hnb).trans HX2t.out; obtain ⟨⟨r0, r1, _⟩, s0, s1, _⟩ := row6 hx3))
            go_end0
            have HFin := mod_fin HD.out HLm.out HLi.out HOk.out HNR3.out HN3.out.off (newRow (j := 1) HM1.out hx3 (by rw [HX0t.out] at hown3; exact hown3) HBNt.out (off_grown HF2t.out hgr3 HPt.out (Nat.le_refl _)))
            exact ⟨rfl, HFin.1, HFin.2⟩
          · obtain ⟨g, hg⟩ := row_some HTR3.out (by omega) hnc
            subst hg
            go_wp2_with (first | (at_builtin; refine wpList_append_any _ rfl _ _ 31 rfl w3.heap.size 9 iv (.string ⟨#[]⟩) 1 16 Tryd.underlying31 hvi hv0 hv1 hv2 rfl (by decide) (.slice a2t (i + 1) c2t) (i + 1) _ rfl HPt.out (some ⟨g, i, none⟩) _ _ (strC (((s.fs.map (·.2)).drop i).take (L - i))) rfl (by have := HL.out; simp; omega) (news_S HR2t.out (L - i) (by have := HL.out; simp; omega) _ (fun g e h0 => by injection e with e; injection e with e1 e2; subst e1; rfl)) (one_S _) (by unfold maxLen; omega) (by omega) HB2t.out.size ?_; intro l3 w3_ hown3 hgr3 hwh3; obtain ⟨a3, c3, rfl⟩ := own_slC hown3; have hnb : some b ≠ (Value.slice a2t (i + 1) c2t).ownBlock := (fun e => absurd (row_ge HPt.out e.symm) (by have := HBNt.out; omega)); have hx3 := (hgr3.block b (lt_of_block HX2t.out) hnb).trans HX2t.out; obtain ⟨⟨r0, r1, _⟩, s0, s1, _⟩ := row6 hx3))
            go_end0
            have HFin := mod_fin HD.out HLm.out HLi.out HOk.out HNR3.out HN3.out.off (newRow (j := 1) HM1.out hx3 (by rw [HX0t.out] at hown3; exact hown3) HBNt.out (off_grown HF2t.out hgr3 HPt.out (Nat.le_refl _)))
            exact ⟨rfl, HFin.1, HFin.2⟩
end Go.Proofs.YtmpdkccmcnegkaaDoor
