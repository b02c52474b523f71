/-
  The law's model of a disk: drop.
-/
import Derived.Test.YtmpdkccmcnegkaaDoorIMdB
import Derived.Deep.DeepCutAuto
import Derived.Deep.Cut
namespace Go.Proofs.YtmpdkccmcnegkaaDoor
open Go.RowKit Go.Maps
theorem tw_len {n : ByteArray} : ∀ {fs : List Fl} {i : Nat} (_ : i ≤ fs.length), (∀ p ∈ fs.take i, ahd n p = true) → (∀ p, fs[i]? = some p → ahd n p = false) → fs.takeWhile (ahd n) = fs.take i ∧ fs.dropWhile (ahd n) = fs.drop i
  | [], i, _, _, _ => by simp
  | x :: xs, 0, _, _, h => by
    have hx := h x rfl
    rw [List.takeWhile_cons, List.dropWhile_cons, hx]
    simp
  | x :: xs, i + 1, hi, h1, h2 => by
    have hx : ahd n x = true := h1 x (by simp)
    obtain ⟨e1, e2⟩ := tw_len (n := n) (fs := xs) (i := i) (by simpa using hi) (fun p hp => h1 p (by simp [hp])) (fun p hp => h2 p (by simpa using hp))
    rw [List.takeWhile_cons, List.dropWhile_cons, hx, e1, e2]
    simp
theorem news_S {w : World} {base e n c lo : Nat} {a : Option Addr} {ss : List ByteArray} (h : w.ownsRow base e 1 (.slice a n c) n (strC ss)) (m : Nat) (hm : lo + m ≤ ss.length) (a' : Option Addr) (ha : ∀ g, a = some ⟨g, 0, none⟩ → 0 < m → a' = some ⟨g, lo, none⟩) :
    ∀ j u, (strC ((ss.drop lo).take m))[j]? = some u → ∃ b, a' = some b ∧ w.cell? (b.add j) = some u := fun j u hu => by
  have hj : j < m := by
    have := (List.getElem?_eq_some_iff.1 hu).1
    simp at this; omega
  obtain ⟨g, e1, hc⟩ := row_at h (j := lo + j) (by omega)
  refine ⟨_, ha g e1 (by omega), ?_⟩
  rw [addrPl, hc]
  rw [strC, List.getElem?_map, List.getElem?_take, if_pos hj, List.getElem?_drop, List.getElem?_eq_getElem (by omega)] at hu
  simpa using hu
theorem one_S (ss : List ByteArray) : ∀ u ∈ strC ss, u.oneCell' = true := fun u hu => by obtain ⟨x, _, rfl⟩ := List.mem_map.1 hu; rfl
theorem Tryd.infoStr : (Tryd.prog.info? 9).map (fun i => (i.zero, i.size, i.bytes)) = some (some (.string ⟨#[]⟩), 1, 16) := by kernel_rfl
theorem row_base {w : World} {base e size n : Nat} {v : Value} {xs : List Value} (h : w.ownsRow base e size v n xs) : w.ownsRow 0 e size v n xs := by
  refine ⟨h.1, ?_⟩
  rcases h.2 with hn | ⟨g, cap, cur, rfl, _, r⟩
  · exact .inl hn
  · exact .inr ⟨g, cap, cur, rfl, Nat.zero_le _, r⟩
theorem row_ge {w : World} {base e size n g : Nat} {v : Value} {xs : List Value} (h : w.ownsRow base e size v n xs) (hg : v.ownBlock = some g) : base ≤ g := by
  rcases h.2 with ⟨rfl, _⟩ | ⟨g1, cap, cur, rfl, hb, _⟩
  · cases hg
  · simp [Value.ownBlock] at hg; omega
/-- A new row is stored into the model's box. -/
structure NewRow (W w' : World) (b j N m : Nat) (cs : Array Value) (ss : List ByteArray) : Prop where
  ex : ∃ a2 c2, w'.heap[b]? = some (.cells (cs.setIfInBounds j (.slice a2 m c2)) 33 (0, 0)) ∧ w'.ownsRow N 9 1 (.slice a2 m c2) m (strC ss)
  off : Off (· = b) W w'
theorem newRow {W w2 : World} {b j N m m' : Nat} {cs : Array Value} {a2 : Option Addr} {c2 : Nat} {ss : List ByteArray} (hm : m' = m) (hx : w2.heap[b]? = some (.cells cs 33 (0, 0))) (ho : w2.ownsRow N 9 1 (.slice a2 m' c2) m' (strC ss)) (hN : b < N) (hoff : Off (· = b) W w2) :
    NewRow W (w2.setCell ⟨b, j, none⟩ (.slice a2 m' c2)) b j N m cs ss := by
  subst hm
  exact ⟨⟨a2, c2, setRow hx _, own_stay ho (fun g hg => Below.heap_setCell _ _ _ _ (fun e => by have := row_ge ho hg; simp at e; omega))⟩, hoff.set (.inl rfl) _⟩
theorem off_grown {W w1 w2 : World} {b N n e : Nat} {v : Value} {xs : List Value} (h : Off (· = b) W w1) (hw : w1.grownBy w2 v.ownBlock) (ho : w1.ownsRow N e 1 v n xs) (hN : W.heap.size ≤ N) : Off (· = b) W w2 :=
  h.trans (Off.of_grown (S := fun k => W.heap.size ≤ k) hw (fun k _ e => by have := row_ge ho e; omega)) (fun k hk h2 => absurd hk (by omega))
theorem mod_fin {W w3 w5 : World} {P : Nat → Prop} {b m : Nat} {s : DkSt} {fs' : List Fl} {lm : Int} {a2 : Option Addr} {c2 : Nat} {x : Value} (hD : MdAt W P b s) (hL : (s.short = true → lm = s.left) ∧ (-(s.done : Int) ≤ lm ∧ lm ≤ 9223372036854775807)) (hm : fs'.length = m) (hok : StOk { s with fs := fs' })
    (hn3 : w3.ownsRow W.heap.size 9 1 (.slice a2 m c2) m (strC (fs'.map (·.1)))) (ho3 : Off (· = b) W w3)
    (h5 : NewRow w3 w5 b 1 w3.heap.size m #[.slice a2 m c2, x, .int .i64 s.quota, .bool s.short, .int .i64 lm, .int .i64 s.done] (fs'.map (·.2))) : MdAt w5 (Gr P W w5) b { s with fs := fs' } ∧ Off P W w5 := by
  subst hm
  obtain ⟨a4, c4, hx5, hn5⟩ := h5.ex
  have hbl : b < W.heap.size := hD.lt b hD.bP
  have h35 := h5.off.size
  have h03 := ho3.size
  have hn3' : w5.ownsRow W.heap.size 9 1 (.slice a2 fs'.length c2) fs'.length (strC (fs'.map (·.1))) := own_stay hn3 (fun g hg => h5.off.keep g (own_lt hn3 hg) (fun e => by have := row_ge hn3 hg; omega))
  have blk : ∀ {n c : Nat} {a : Option Addr} {y : Addr}, a = some y → (Value.slice a n c).ownBlock = some y.block := fun e => by subst e; rfl
  refine ⟨⟨⟨a2, c2, a4, c4, lm, hx5, hL.1, hL.2, row_base hn3', row_base hn5, fun y e => .inr ⟨row_ge hn3' (blk e), own_lt hn3' (blk e)⟩, fun y e => .inr ⟨Nat.le_trans h03 (row_ge hn5 (blk e)), own_lt hn5 (blk e)⟩, fun y y' e e' h => ?_⟩, .inl hD.bP, fun k hk => ?_, hok⟩, (ho3.trans h5.off (fun _ _ h => h)).mono (fun k _ e => by subst e; exact hD.bP)⟩
  · have h1 := own_lt hn3 (blk e)
    have h2 := row_ge hn5 (blk e')
    omega
  · rcases hk with hk | ⟨_, hk⟩
    · have := hD.lt k hk; omega
    · exact hk
theorem model_ne {w : World} {b base n g : Nat} {v : Value} {xs : List Value} {cs : Array Value} (hb : w.heap[b]? = some (.cells cs 33 (0, 0))) (h : w.ownsRow base 9 1 v n xs) (hg : v.ownBlock = some g) : g ≠ b := by
  rintro rfl
  rcases h.2 with ⟨rfl, _⟩ | ⟨g1, cap, cur, rfl, _, h1, _⟩
  · cases hg
  · simp [Value.ownBlock] at hg; subst hg; rw [h1] at hb
    injection hb with hb
    injection hb with _ e2 _
    exact absurd e2 (by decide)
set_option maxRecDepth 100000 in
set_option maxHeartbeats 6400000 in
theorem drop_md (b : Nat) (P : Nat → Prop) (s : DkSt) (i : Nat) (hi : i < s.fs.length) (W : World) (h : MdAt W P b s) :
    Calls Tryd.prog 22 #[.pointer (some ⟨b, 0, none⟩), .int .i64 i] W fun e w' => e = .returned (.tuple #[]) ∧ MdAt w' (Gr P W w') b { s with fs := fDel s.fs s.fs[i].1 } ∧ Off P W w' := by
  obtain ⟨iv, hvi, hv0, hv1, hv2⟩ := info_parts Tryd.infoStr
  obtain ⟨na, nc, ta, tc, lm, hb, hl, hlm, hr⟩ := h.box
  have HD : Hid (MdAt W P b s) := h
  have HLm : Hid ((s.short = true → lm = s.left) ∧ (-(s.done : Int) ≤ lm ∧ lm ≤ 9223372036854775807)) := ⟨hl, hlm⟩
  have hlen := h.ok.len
  obtain ⟨gn, hgn, _⟩ := row_at hr.nr (j := i) (by simpa using hi)
  obtain ⟨gt, hgt, _⟩ := row_at hr.tr (j := i) (by simpa using hi)
  subst hgn hgt
  obtain ⟨L, HL⟩ := hid_nm s.fs.length
  rw [HL.out] at hb
  have HNR : Hid (W.ownsRow 0 9 1 (.slice (some ⟨gn, 0, none⟩) L nc) L (strC (s.fs.map (·.1)))) := (by have := hr.nr; rw [HL.out] at this; exact this)
  have HTR : Hid (W.ownsRow 0 9 1 (.slice (some ⟨gt, 0, none⟩) L tc) L (strC (s.fs.map (·.2)))) := (by have := hr.tr; rw [HL.out] at this; exact this)
  have hiL : i < L := by rw [← HL.out]; exact hi
  have hL40 : L ≤ 40 := by rw [← HL.out]; exact hlen
  have hc1 : L ≤ nc := (own_cap HNR.out).2
  have hc2 : L ≤ tc := (own_cap HTR.out).2
  have HB : Hid (W.heap[b]? = some (.cells (mdBox (some ⟨gn, 0, none⟩) L nc (some ⟨gt, 0, none⟩) tc s.quota s.short lm s.done) 33 (0, 0))) := hb
  have hbl : b < W.heap.size := HD.out.lt b HD.out.bP
  have hN1 : (s.fs.map (·.1)).length = L := by rw [List.length_map, HL.out]
  have hN2 : (s.fs.map (·.2)).length = L := by rw [List.length_map, HL.out]
  have HDel : Hid (fDel s.fs s.fs[i].1 = s.fs.take i ++ s.fs.drop (i + 1)) := (cut_out HD.out.ok.srt hi).symm
  have HM1 : Hid (i + (L - (i + 1)) = L - 1) := (by show _ = _; omega)
  have HLd : Hid ((fDel s.fs s.fs[i].1).length = L - 1) := (by show _ = _; rw [HDel.out, List.length_append, List.length_take, List.length_drop, HL.out]; omega)
  have HX0n : Hid (strC (((s.fs.map (·.1)).drop 0).take i) ++ strC (((s.fs.map (·.1)).drop (i + 1)).take (L - (i + 1))) = strC ((fDel s.fs s.fs[i].1).map (·.1))) := (by
    show _ = _
    rw [HDel.out, List.drop_zero, List.take_of_length_le (l := (s.fs.map (·.1)).drop (i + 1)) (by rw [List.length_drop, hN1]; exact Nat.le_refl _)]
    simp [strC])
  have HX0t : Hid (strC (((s.fs.map (·.2)).drop 0).take i) ++ strC (((s.fs.map (·.2)).drop (i + 1)).take (L - (i + 1))) = strC ((fDel s.fs s.fs[i].1).map (·.2))) := (by
    show _ = _
    rw [HDel.out, List.drop_zero, List.take_of_length_le (l := (s.fs.map (·.2)).drop (i + 1)) (by rw [List.length_drop, hN2]; exact Nat.le_refl _)]
    simp [strC])
  obtain ⟨⟨p0, p1, p2, p3, p4, p5⟩, f0, f1, f2, f3, f4, f5⟩ := row6 hb
  clear hb hr h hlen hl hlm p2 p3 p4 p5 f2 f3 f4 f5
  go_enter Tryd.func22, Tryd.ntmps22
  go_upto_region 1 with fail
  go_upto_region 2 with (first | (at_builtin; refine wpList_append_any _ rfl _ _ 31 rfl W.heap.size 9 iv (.string ⟨#[]⟩) 1 16 Tryd.underlying31 hvi hv0 hv1 hv2 rfl (by decide) (.slice none 0 0) 0 [] rfl (World.ownsRow_nil _ _ _ _) (some ⟨gn, 0, none⟩) i nc (strC (((s.fs.map (·.1)).drop 0).take i)) rfl (by simp; omega) (news_S HNR.out i (by omega) _ (fun g e _ => e)) (one_S _) (by unfold maxLen; omega) (by omega) (Nat.le_refl _) ?_; intro l1 w1 hown1 hgr1 hwh1))
  rw [Nat.zero_add] at hown1
  obtain ⟨a1n, c1n, rfl⟩ := own_slC hown1
  have hb1 : Below W.heap.size W w1 := ⟨hgr1.os, hgr1.tape, hgr1.output, hgr1.size, fun k hk => hgr1.block k hk (by simp [Value.ownBlock])⟩
  have HOn : Hid (w1.ownsRow W.heap.size 9 1 (.slice a1n i c1n) i (strC (((s.fs.map (·.1)).drop 0).take i))) := hown1
  have HBn : Hid (Below W.heap.size W w1) := hb1
  have HFn : Hid (Off (· = b) W w1) := Off.of_below hb1
  have HR1n : Hid (w1.ownsRow 0 9 1 (.slice (some ⟨gn, 0, none⟩) L nc) L (strC (s.fs.map (·.1)))) := ow_kept HNR.out hb1
  have HXn : Hid (w1.heap[b]? = some (.cells (mdBox (some ⟨gn, 0, none⟩) L nc (some ⟨gt, 0, none⟩) tc s.quota s.short lm s.done) 33 (0, 0))) := blk_keep hb1 HB.out
  have HBNn : Hid (b < W.heap.size) := hbl
  obtain ⟨⟨q0n, q1n, _⟩, g0n, g1n, _⟩ := row6 HXn.out
  clear hown1 hgr1 hwh1 hb1
  go_cut [] (fun wx => Hid (NewRow W wx b 0 W.heap.size (L - 1) (mdBox (some ⟨gn, 0, none⟩) L nc (some ⟨gt, 0, none⟩) tc s.quota s.short lm s.done) ((fDel s.fs s.fs[i].1).map (·.1))))
  case first =>
    by_cases hnc : nc = i + 1
    · have HM0 : Hid (L - (i + 1) = 0) := (by show _ = _; omega)
      go_wp2_with (first | (at_builtin; refine wpList_append_any _ rfl _ _ 31 rfl W.heap.size 9 iv (.string ⟨#[]⟩) 1 16 Tryd.underlying31 hvi hv0 hv1 hv2 rfl (by decide) (.slice a1n i c1n) i _ rfl HOn.out (some ⟨gn, 0, none⟩) _ _ (strC (((s.fs.map (·.1)).drop (i + 1)).take (L - (i + 1)))) rfl (by have := HL.out; simp; omega) (news_S HR1n.out (L - (i + 1)) (by omega) _ (fun g e h0 => by exfalso; rw [HM0.out] at h0; exact Nat.lt_irrefl 0 h0)) (one_S _) (by unfold maxLen; omega) (by omega) HBn.out.size ?_; intro l2 w2 hown2 hgr2 hwh2; obtain ⟨a2, c2, rfl⟩ := own_slC hown2; have hnb : some b ≠ (Value.slice a1n i c1n).ownBlock := (fun e => absurd (row_ge HOn.out e.symm) (by have := HBNn.out; omega)); have hx2 := (hgr2.block b (lt_of_block HXn.out) hnb).trans HXn.out; obtain ⟨⟨r0, r1, _⟩, s0, s1, _⟩ := row6 hx2))
      go_meet
      exact newRow (j := 0) HM1.out hx2 (by rw [HX0n.out] at hown2; exact hown2) HBNn.out (off_grown HFn.out hgr2 HOn.out (Nat.le_refl _))
    · go_wp2_with (first | (at_builtin; refine wpList_append_any _ rfl _ _ 31 rfl W.heap.size 9 iv (.string ⟨#[]⟩) 1 16 Tryd.underlying31 hvi hv0 hv1 hv2 rfl (by decide) (.slice a1n i c1n) i _ rfl HOn.out (some ⟨gn, i + 1, none⟩) _ _ (strC (((s.fs.map (·.1)).drop (i + 1)).take (L - (i + 1)))) rfl (by have := HL.out; simp; omega) (news_S HR1n.out (L - (i + 1)) (by omega) _ (fun g e h0 => by injection e with e; injection e with e1 e2; subst e1; rfl)) (one_S _) (by unfold maxLen; omega) (by omega) HBn.out.size ?_; intro l2 w2 hown2 hgr2 hwh2; obtain ⟨a2, c2, rfl⟩ := own_slC hown2; have hnb : some b ≠ (Value.slice a1n i c1n).ownBlock := (fun e => absurd (row_ge HOn.out e.symm) (by have := HBNn.out; omega)); have hx2 := (hgr2.block b (lt_of_block HXn.out) hnb).trans HXn.out; obtain ⟨⟨r0, r1, _⟩, s0, s1, _⟩ := row6 hx2))
      go_meet
      exact newRow (j := 0) HM1.out hx2 (by rw [HX0n.out] at hown2; exact hown2) HBNn.out (off_grown HFn.out hgr2 HOn.out (Nat.le_refl _))
  case rest =>
    rename World => w3
    rename Hid (NewRow _ w3 _ _ _ _ _ _) => HN3
    obtain ⟨a2, c2, hx3, hn3⟩ := HN3.out.ex
    have HX3 : Hid (w3.heap[b]? = some (.cells (#[.slice a2 (L - 1) c2, .slice (some ⟨gt, 0, none⟩) L tc, .int .i64 s.quota, .bool s.short, .int .i64 lm, .int .i64 s.done] : Array Value) 33 (0, 0))) := (by show _ = _; rw [hx3]; rfl)
    have HNR3 : Hid (w3.ownsRow W.heap.size 9 1 (.slice a2 (L - 1) c2) (L - 1) (strC ((fDel s.fs s.fs[i].1).map (·.1)))) := hn3
    have HWN : Hid (W.heap.size ≤ w3.heap.size) := HN3.out.off.size
    have HTR3 : Hid (w3.ownsRow 0 9 1 (.slice (some ⟨gt, 0, none⟩) L tc) L (strC (s.fs.map (·.2)))) := own_stay HTR.out (fun g hg => HN3.out.off.keep g (own_lt HTR.out hg) (model_ne HB.out HTR.out hg))
    obtain ⟨⟨y0, y1, _⟩, z0, z1, _⟩ := row6 HX3.out
    clear hx3 hn3 p0 p1 f0 f1 q0n q1n g0n g1n
    go_upto_region 4 with fail
    go_upto_region 5 with (first | (at_builtin; refine wpList_append_any _ rfl _ _ 31 rfl w3.heap.size 9 iv (.string ⟨#[]⟩) 1 16 Tryd.underlying31 hvi hv0 hv1 hv2 rfl (by decide) (.slice none 0 0) 0 [] rfl (World.ownsRow_nil _ _ _ _) (some ⟨gt, 0, none⟩) i tc (strC (((s.fs.map (·.2)).drop 0).take i)) rfl (by simp; omega) (news_S HTR3.out i (by omega) _ (fun g e _ => e)) (one_S _) (by unfold maxLen; omega) (by omega) (Nat.le_refl _) ?_; intro l1 w1 hown1 hgr1 hwh1))
    rw [Nat.zero_add] at hown1
    obtain ⟨a1t, c1t, rfl⟩ := own_slC hown1
    have hb1 : Below w3.heap.size w3 w1 := ⟨hgr1.os, hgr1.tape, hgr1.output, hgr1.size, fun k hk => hgr1.block k hk (by simp [Value.ownBlock])⟩
    have HOt : Hid (w1.ownsRow w3.heap.size 9 1 (.slice a1t i c1t) i (strC (((s.fs.map (·.2)).drop 0).take i))) := hown1
    have HBt : Hid (Below w3.heap.size w3 w1) := hb1
    have HFt : Hid (Off (· = b) w3 w1) := Off.of_below hb1
    have HR1t : Hid (w1.ownsRow 0 9 1 (.slice (some ⟨gt, 0, none⟩) L tc) L (strC (s.fs.map (·.2)))) := ow_kept HTR3.out hb1
    have HXt : Hid (w1.heap[b]? = some (.cells (#[.slice a2 (L - 1) c2, .slice (some ⟨gt, 0, none⟩) L tc, .int .i64 s.quota, .bool s.short, .int .i64 lm, .int .i64 s.done] : Array Value) 33 (0, 0))) := blk_keep hb1 HX3.out
    have HBNt : Hid (b < w3.heap.size) := Nat.lt_of_lt_of_le hbl HWN.out
    obtain ⟨⟨q0t, q1t, _⟩, g0t, g1t, _⟩ := row6 HXt.out
    clear hown1 hgr1 hwh1 hb1
    by_cases hnc : tc = i + 1
    · have HM0 : Hid (L - (i + 1) = 0) := (by show _ = _; omega)
      go_wp2_with (first | (at_builtin; refine wpList_append_any _ rfl _ _ 31 rfl w3.heap.size 9 iv (.string ⟨#[]⟩) 1 16 Tryd.underlying31 hvi hv0 hv1 hv2 rfl (by decide) (.slice a1t i c1t) i _ rfl HOt.out (some ⟨gt, 0, none⟩) _ _ (strC (((s.fs.map (·.2)).drop (i + 1)).take (L - (i + 1)))) rfl (by have := HL.out; simp; omega) (news_S HR1t.out (L - (i + 1)) (by omega) _ (fun g e h0 => by exfalso; rw [HM0.out] at h0; exact Nat.lt_irrefl 0 h0)) (one_S _) (by unfold maxLen; omega) (by omega) HBt.out.size ?_; intro l2 w2 hown2 hgr2 hwh2; obtain ⟨a2, c2, rfl⟩ := own_slC hown2; have hnb : some b ≠ (Value.slice a1t i c1t).ownBlock := (fun e => absurd (row_ge HOt.out e.symm) (by have := HBNt.out; omega)); have hx2 := (hgr2.block b (lt_of_block HXt.out) hnb).trans HXt.out; obtain ⟨⟨r0, r1, _⟩, s0, s1, _⟩ := row6 hx2))
      go_end0
      have HFin := mod_fin HD.out HLm.out HLd.out (HD.out.ok.del _) HNR3.out HN3.out.off (newRow (j := 1) HM1.out hx2 (by rw [HX0t.out] at hown2; exact hown2) HBNt.out (off_grown HFt.out hgr2 HOt.out (Nat.le_refl _)))
      exact ⟨rfl, HFin.1, HFin.2⟩
    · go_wp2_with (first | (at_builtin; refine wpList_append_any _ rfl _ _ 31 rfl w3.heap.size 9 iv (.string ⟨#[]⟩) 1 16 Tryd.underlying31 hvi hv0 hv1 hv2 rfl (by decide) (.slice a1t i c1t) i _ rfl HOt.out (some ⟨gt, i + 1, none⟩) _ _ (strC (((s.fs.map (·.2)).drop (i + 1)).take (L - (i + 1)))) rfl (by have := HL.out; simp; omega) (news_S HR1t.out (L - (i + 1)) (by omega) _ (fun g e h0 => by injection e with e; injection e with e1 e2; subst e1; rfl)) (one_S _) (by unfold maxLen; omega) (by omega) HBt.out.size ?_; intro l2 w2 hown2 hgr2 hwh2; obtain ⟨a2, c2, rfl⟩ := own_slC hown2; have hnb : some b ≠ (Value.slice a1t i c1t).ownBlock := (fun e => absurd (row_ge HOt.out e.symm) (by have := HBNt.out; omega)); have hx2 := (hgr2.block b (lt_of_block HXt.out) hnb).trans HXt.out; obtain ⟨⟨r0, r1, _⟩, s0, s1, _⟩ := row6 hx2))
      go_end0
      have HFin := mod_fin HD.out HLm.out HLd.out (HD.out.ok.del _) HNR3.out HN3.out.off (newRow (j := 1) HM1.out hx2 (by rw [HX0t.out] at hown2; exact hown2) HBNt.out (off_grown HFt.out hgr2 HOt.out (Nat.le_refl _)))
      exact ⟨rfl, HFin.1, HFin.2⟩
end Go.Proofs.YtmpdkccmcnegkaaDoor
