/-
  What a walk's loop keeps; the words, without the program.
  The walk through a schema, with one visitor: it answers what the list's walk answers, if the visitor does.
  The walk through a schema, with one visitor: it answers what the list's walk answers, if the visitor does.
  The walk through a schema, with one visitor: it answers what the list's walk answers, if the visitor does.
  The walk through a schema, with one visitor: it answers what the list's walk answers, if the visitor does.
  The walk through a schema, with one visitor: it answers what the list's walk answers, if the visitor does.
  The walk through a schema, with one visitor: it answers what the list's walk answers, if the visitor does.
  The walk through a schema, with one visitor: it answers what the list's walk answers, if the visitor does.
-/
import Derived.Test.YteonbmaokphleaaGreatDoorHBOwnN
import Derived.Test.YteonbmaokphleaaGreatDoorHBAppWhere
namespace Go.Proofs.YteonbmaokphleaaGreatDoor
open Go.RowKit
theorem wk_box {S : Type} {I : S → World → Prop} {B Bw : Nat} (hBw : B ≤ Bw) (hI : ∀ s W w' r, I s W → W.grownBy w' r → (∀ k, r = some k → Bw ≤ k ∧ IsNB W k) → I s w') {s : S} {W : World} {v : Value} {path : List Tr} (t : Tr) (a : Option Addr) (c : Nat) (hi : I s W) (hp : PathR W B Bw v path) (hl : LiesN W (fun b => b < B) a t.sub) (hbw : Bw ≤ W.heap.size) :
    I s (W.alloc (.cells #[.int .i64 t.id, .string t.nm, .int .i64 t.rep, .int .i64 t.kind, .slice a t.sub.length c] 24)) ∧ PathR (W.alloc (.cells #[.int .i64 t.id, .string t.nm, .int .i64 t.rep, .int .i64 t.kind, .slice a t.sub.length c] 24)) B Bw v path ∧ LiesN (W.alloc (.cells #[.int .i64 t.id, .string t.nm, .int .i64 t.rep, .int .i64 t.kind, .slice a t.sub.length c] 24)) (fun b => b < B) a t.sub ∧ Bw ≤ (W.alloc (.cells #[.int .i64 t.id, .string t.nm, .int .i64 t.rep, .int .i64 t.kind, .slice a t.sub.length c] 24)).heap.size := by
 have hg : W.grownBy (W.alloc (.cells #[.int .i64 t.id, .string t.nm, .int .i64 t.rep, .int .i64 t.kind, .slice a t.sub.length c] 24)) none := World.grownBy_alloc _ _ _
 have hb : Below W.heap.size W (W.alloc (.cells #[.int .i64 t.id, .string t.nm, .int .i64 t.rep, .int .i64 t.kind, .slice a t.sub.length c] 24)) := (Below.refl _ _).alloc (Nat.le_refl _) _
 exact ⟨hI _ _ _ none hi hg (fun k hk => by cases hk), hp.vfr (VFr.of_below hb (by omega)), hl.keep hb, by simp; omega⟩
structure WP {S : Type} (B Bw : Nat) (W : World) (t : Tr) (a : Option Addr) (c : Nat) (v : Value) (path : List Tr) (I : S → World → Prop) (s : S) (wr : World) (v2 : Value) : Prop where
 box : wr.heap[W.heap.size]? = some (.cells #[.int .i64 t.id, .string t.nm, .int .i64 t.rep, .int .i64 t.kind, .slice a t.sub.length c] 24 (0, 0))
 apart : v2.ownBlock ≠ some W.heap.size
 row : PathR wr B Bw v2 (path ++ [t])
 old : PathR wr B Bw v path
 fr : WFr B Bw v W wr
 inv : I s wr
 vlt : ∀ k, v.ownBlock = some k → k < W.heap.size
 two : (∃ g cap, v = .slice (some ⟨g, 0, none⟩) path.length cap ∧ v2 = .slice (some ⟨g, 0, none⟩) (path.length + 1) cap) ∨ (∀ k, v2.ownBlock = some k → W.heap.size < k)
theorem WP.start {S : Type} {B Bw : Nat} {W : World} {t : Tr} {a : Option Addr} {c : Nat} {v : Value} {path : List Tr} {I : S → World → Prop} {s : S} {w1 w2 : World} {v2 : Value} {ncs : List (List Value)} {ob : Obj} (hBw : B ≤ Bw)
    (hI : ∀ s W w' r, I s W → W.grownBy w' r → (∀ k, r = some k → Bw ≤ k ∧ IsNB W k) → I s w') (hbw : Bw ≤ W.heap.size) (hf : VFr B Bw W w1)
    (hbox : w1.heap[W.heap.size]? = some (.cells #[.int .i64 t.id, .string t.nm, .int .i64 t.rep, .int .i64 t.kind, .slice a t.sub.length c] 24 (0, 0)))
    (hrow : w1.ownsRow Bw 24 5 v path.length ncs.flatten) (hn1 : ncs.length = path.length) (hn2 : ∀ x ∈ ncs, x.length = 5) (hn4 : ∀ j (h : j < path.length) (h' : j < ncs.length), NodeC w1 (fun b => b < B) path[j] ncs[j])
    (hi : I s w1) (hcap : t.sub.length ≤ c) (hl : LiesN W (fun b => b < B) a t.sub) (hvW : ∀ k, v.ownBlock = some k → k < W.heap.size)
    (hown : w2.ownsRow Bw 24 5 v2 (path.length + 1) (ncs.flatten ++ [.int .i64 t.id, .string t.nm, .int .i64 t.rep, .int .i64 t.kind, .slice a t.sub.length c])) (hg : (w1.alloc ob).grownBy w2 v.ownBlock) (hw : Moved (w1.alloc ob) w2 path.length 1 v v2) :
    WP B Bw W t a c v path I s w2 v2 := by
 have hlt := lt_of_block hbox
 have hvb : ∀ k, v.ownBlock = some k → Bw ≤ k ∧ k < w1.heap.size ∧ IsNB w1 k := fun k hk => by
  obtain ⟨h1, h2, cs, h3⟩ := own_block hrow hk
  exact ⟨h1, h2, cs, _, h3⟩
 have hg1 : w1.grownBy w2 v.ownBlock := ⟨hg.os, hg.tape, hg.output, by have := hg.size; simp at this; omega, fun k hk hne => by rw [hg.block k (by simp; omega) hne, heap_alloc_old w1 ob hk]⟩
 have hb2 : Below B w1 w2 := ⟨hg1.os, hg1.tape, hg1.output, hg1.size, fun k hk => by
  by_cases h : k < w1.heap.size
  · exact hg1.block k h (fun e => by have := (hvb k e.symm).1; omega)
  · omega⟩
 have hB1 : B ≤ w1.heap.size := by have := hf.below.size; omega
 have hold : PathR w2 B Bw v path := by
  refine ⟨ncs, hn1, hn2, ?_, fun j hj hj' => (hn4 j hj hj').stay (fun _ h _ => h) (fun b hb' _ => hb2.block b hb')⟩
  rcases hw with ⟨g, cap, rfl, rfl⟩ | ⟨_, hg0⟩
  · exact own_begin hrow.1 hown (by simp)
  · refine own_same hrow fun k hk => ?_
    have h := (hvb k hk).2.1
    rw [hg0.block k (by simp; omega) (by simp), heap_alloc_old w1 ob h]
 refine ⟨?_, ?_, ?_, hold, ⟨hf.below.trans hb2, fun k h1 h2 h3 h4 => ?_⟩, ?_, hvW, ?_⟩
 · rw [hg1.block _ hlt (fun e => by have := hvW _ e.symm; omega)]
   exact hbox
 · rcases hw with ⟨g, cap, rfl, rfl⟩ | ⟨e, _⟩
   · intro e
     have := hvW g rfl
     simp [Value.ownBlock] at e
     omega
   · rw [e]; simp; omega
 · refine ⟨ncs ++ [[.int .i64 t.id, .string t.nm, .int .i64 t.rep, .int .i64 t.kind, .slice a t.sub.length c]], by simp [hn1], fun x hx => ?_, by simpa using hown, fun j hj hj' => ?_⟩
   · rcases List.mem_append.1 hx with hx | hx
     · exact hn2 x hx
     · rw [List.mem_singleton.1 hx]; rfl
   · by_cases h : j < path.length
     · rw [List.getElem_append_left h, List.getElem_append_left (by omega)]
       exact (hn4 j h (by omega)).stay (fun _ h _ => h) (fun b hb' _ => hb2.block b hb')
     · have hj2 : j = path.length := by simp at hj; omega
       subst hj2
       rw [List.getElem_append_right (by omega), List.getElem_append_right (by omega)]
       simp only [hn1, Nat.sub_self, List.getElem_cons_zero]
       exact NodeC.join c hcap (hl.stay (fun _ h _ => h) (fun b hb' _ => (hf.below.trans hb2).block b hb'))
 · have e := hf.rows k h1 h2 h3
   rw [hg1.block k (by have := hf.below.size; omega) h4, e]
 · exact hI _ _ _ _ hi hg1 (fun k hk => ⟨(hvb k hk).1, (hvb k hk).2.2⟩)
 · rcases hw with h | ⟨e, _⟩
   · exact .inl h
   · right
     intro k hk
     rw [e] at hk
     simp at hk
     omega
theorem WP.alloc {S : Type} {B Bw : Nat} {W : World} {t : Tr} {a : Option Addr} {c : Nat} {v : Value} {path : List Tr} {I : S → World → Prop} {s : S} {wr : World} {v2 : Value} (hBw : B ≤ Bw) (hI : ∀ s W w' r, I s W → W.grownBy w' r → (∀ k, r = some k → Bw ≤ k ∧ IsNB W k) → I s w') (hbw : Bw ≤ W.heap.size) (h : WP B Bw W t a c v path I s wr v2) (ob : Obj) : WP B Bw W t a c v path I s (wr.alloc ob) v2 := by
 have hs := h.fr.below.size
 have hb : Below wr.heap.size wr (wr.alloc ob) := (Below.refl _ _).alloc (Nat.le_refl _) _
 have hv : VFr B Bw wr (wr.alloc ob) := VFr.of_below hb (by omega)
 exact ⟨blk_alloc h.box, h.apart, h.row.vfr hv, h.old.vfr hv, ⟨h.fr.below.trans hv.below, fun k h1 h2 h3 h4 => (hb.block k (by omega)).trans (h.fr.rows k h1 h2 h3 h4)⟩, hI _ _ _ none h.inv (World.grownBy_alloc _ _ _) (fun k hk => by cases hk), h.vlt, h.two⟩
theorem WP.weak {S : Type} {B Bw : Nat} {W : World} {t : Tr} {a : Option Addr} {c : Nat} {v : Value} {path : List Tr} {I : S → World → Prop} {s : S} {wr : World} {v2 : Value} (h : WP B Bw W t a c v path I s wr v2) : WP B Bw W t a c v path (fun (_ : S) _ => True) s wr v2 := ⟨h.box, h.apart, h.row, h.old, h.fr, trivial, h.vlt, h.two⟩
theorem WP.next {S : Type} {B Bw : Nat} {W : World} {t : Tr} {a : Option Addr} {c : Nat} {v : Value} {path : List Tr} {I : S → World → Prop} {s s' : S} {wr w2 : World} {v2 : Value} (hbw : Bw ≤ W.heap.size) (h : WP B Bw W t a c v path I s wr v2)
    (hf : WFr B Bw v2 wr w2) (hp : PathR w2 B Bw v2 (path ++ [t])) (hi : I s' w2) : WP B Bw W t a c v path I s' w2 v2 := by
 have hb := hf.below
 refine ⟨?_, h.apart, hp, ?_, ⟨h.fr.below.trans hb, fun k h1 h2 h3 h4 => ?_⟩, hi, h.vlt, h.two⟩
 · rw [hf.rows _ hbw (lt_of_block h.box) ⟨_, _, h.box⟩ (fun e => h.apart e.symm)]
   exact h.box
 · rcases h.two with ⟨g, cap, rfl, rfl⟩ | h2
   · obtain ⟨ncs, hn1, hn2, hn3, hn4⟩ := hp
     obtain ⟨ncs', hm1, hm2, hm3, hm4⟩ := h.old
     refine ⟨ncs.take path.length, by simp [hn1], fun x hx => hn2 x (List.mem_of_mem_take hx), ?_, fun j hj hj' => ?_⟩
     · have hl5 : (ncs.take path.length).flatten.length = path.length * 5 := by
         rw [flat5_len _ (fun x hx => hn2 x (List.mem_of_mem_take hx))]; simp [hn1]
       have e : ncs.flatten = (ncs.take path.length).flatten ++ (ncs.drop path.length).flatten := by rw [← List.flatten_append, List.take_append_drop]
       rw [e] at hn3
       exact own_begin (m := 1) hl5 (by simpa using hn3) (by simp)
     · have := hn4 j (by simp; omega) (by simp at hj'; omega)
       rw [List.getElem_append_left hj] at this
       rw [List.getElem_take]
       exact this
   · refine h.old.stay hb fun k hk => ?_
     obtain ⟨q1, q2, q3⟩ := h.old.block hk
     refine hf.rows k q1 q2 q3 fun e => ?_
     have q4 := h2 k e.symm
     have q5 := h.vlt k hk
     omega
 · have e := h.fr.rows k h1 h2 h3 h4
   obtain ⟨cs, z, hc⟩ := h3
   rw [hf.rows k h1 (Nat.lt_of_lt_of_le h2 h.fr.below.size) ⟨cs, z, e.trans hc⟩ (fun e2 => ?_), e]
   rcases h.two with ⟨g, cap, rfl, rfl⟩ | h5
   · exact h4 e2
   · have := h5 k e2.symm
     omega
set_option maxRecDepth 100000 in
set_option maxHeartbeats 1600000 in
theorem wkM_any {S : Type} (st : S → List Tr → Tr → Bool × S) (I J : S → World → Prop) (Q : List Tr → Tr → Prop) (μ : S → Nat) (M : Nat) (B Bw : Nat) (hBw : B ≤ Bw)
    (hI : ∀ s W w' r, I s W → W.grownBy w' r → (∀ k, r = some k → Bw ≤ k ∧ IsNB W k) → I s w')
    (hQ : ∀ path t, Q path t → ∀ j (hj : j < t.sub.length), Q (path ++ [t]) t.sub[j]) (hμ : ∀ s path t, μ (st s path t).2 ≤ μ s + 1)
    (HV : Hid (∀ s path t a c v W, Q path t → μ s + 1 ≤ M → I s W → PathR W B Bw v path → LiesN W (fun b => b < B) a t.sub → t.sub.length ≤ c → t.Sm → Bw ≤ W.heap.size → Calls Tryz.prog 98 #[nodeV t a c, v] W fun e w' => e = .returned (.bool (st s path t).1) ∧ ((st s path t).1 = true → I (st s path t).2 w') ∧ ((st s path t).1 = false → J (st s path t).2 w') ∧ VFr B Bw W w')) :
    ∀ (n : Nat) (t : Tr), Tr.Dp n t → t.Sm → ∀ (s : S) (path : List Tr) (a : Option Addr) (c : Nat) (v : Value) (W : World), Q path t → μ s + t.cnt ≤ M → path.length + n ≤ 1100000 → I s W → PathR W B Bw v path → LiesN W (fun b => b < B) a t.sub → t.sub.length ≤ c → Bw ≤ W.heap.size →
    Calls Tryz.prog 37 #[nodeV t a c, v, .func (.func 98) #[] #[]] W fun e w' => e = .returned (.bool (wkT st s path t).1) ∧ ((wkT st s path t).1 = true → I (wkT st s path t).2 w') ∧ ((wkT st s path t).1 = false → J (wkT st s path t).2 w') ∧ WFr B Bw v W w' ∧ PathR w' B Bw v path
 | 0, t, h => absurd h.pos (Nat.lt_irrefl _)
 | n + 1, t, hdp => fun hsm s path a c v W hq hm hlen hi hp hl hcap hbw => by
  obtain ⟨iv, hvi, hv0, hv1, hv2⟩ := info_parts Tryz.infoN
  have HL : Hid (LiesN W (fun b => b < B) a t.sub) := hl
  have hsl := hsm.len
  have HP : Hid (PathR W B Bw v path) := hp
  have HI : Hid (I s W) := hi
  obtain ⟨va, vc, rfl⟩ := hp.shape
  have HIH : Hid (∀ j (hj : j < t.sub.length) (s : S) (path : List Tr) (a : Option Addr) (c : Nat) (v : Value) (W : World), Q path t.sub[j] → μ s + t.sub[j].cnt ≤ M → path.length + n ≤ 1100000 → I s W → PathR W B Bw v path → LiesN W (fun b => b < B) a t.sub[j].sub → t.sub[j].sub.length ≤ c → Bw ≤ W.heap.size → Calls Tryz.prog 37 #[nodeV t.sub[j] a c, v, .func (.func 98) #[] #[]] W fun e w' => e = .returned (.bool (wkT st s path t.sub[j]).1) ∧ ((wkT st s path t.sub[j]).1 = true → I (wkT st s path t.sub[j]).2 w') ∧ ((wkT st s path t.sub[j]).1 = false → J (wkT st s path t.sub[j]).2 w') ∧ WFr B Bw v W w' ∧ PathR w' B Bw v path) := fun j hj => wkM_any st I J Q μ M  B Bw hBw hI hQ hμ HV n t.sub[j] (hdp.at_ j hj) (hsm.at_ j hj)
  have HEq := wkT_eq st s path t
  obtain ⟨b1, s1, hst⟩ : ∃ b1 s1, st s path t = (b1, s1) := ⟨_, _, rfl⟩
  rw [hst] at HEq
  have hw1 := wk_box hBw hI t a c hi hp hl hbw
  have hcnt := t.cnt_eq
  have HQ : Hid (∀ j (hj : j < t.sub.length), Q (path ++ [t]) t.sub[j]) := hQ path t hq
  have HC := HV.out s path t a c (.slice va path.length vc) _ hq (by omega) hw1.1 hw1.2.1 hw1.2.2.1 hcap hsm hw1.2.2.2
  rw [hst] at HC
  have HC : Hid _ := HC
  have HEq : Hid _ := HEq
  have hm1 : μ s1 + cntL t.sub ≤ M := by have h := hμ s path t; rw [hst] at h; simp only at h; omega
  have HM : Hid (μ s1 + cntL t.sub ≤ M) := hm1
  have hst : Hid _ := hst
  clear hm1 hcnt hm hq
  clear hl hsm hp hi hw1
  unfold nodeV
  go_enter Tryz.func37, Tryz.ntmps37
  go_wp2_with fail
  refine Calls.mono HC.out ?_
  clear HC
  rintro e w1 ⟨rfl, hiT, hiF, hf1⟩
  have HJ : Hid _ := hiF
  have HT : Hid _ := hiT
  have HF1 : Hid (VFr B Bw W w1) := ((VFr.refl B Bw W).alloc (by omega) _).trans hf1
  have HB1 : Hid (w1.heap[W.heap.size]? = some (.cells #[.int .i64 t.id, .string t.nm, .int .i64 t.rep, .int .i64 t.kind, .slice a t.sub.length c] 24 (0, 0))) := (hf1.rows W.heap.size hbw (by simp) ⟨_, _, heap_alloc_new W _⟩).trans (heap_alloc_new W _)
  clear hiT hiF hf1
  obtain ⟨⟨p0, p1, p2, p3, p4⟩, _⟩ := row_five HB1.out
  cases b1 with
  | false =>
   have HE2 : Hid (wkT st s path t = (false, s1)) := (by show _ = _; simpa using HEq.out)
   go_wp2
   go_ret
   rw [HE2.out]
   exact ⟨rfl, fun h => by simp at h, fun _ => HJ.out (by simp), ⟨HF1.out.below, fun k h1 h2 h3 _ => HF1.out.rows k h1 h2 h3⟩, HP.out.vfr HF1.out⟩
  | true =>
   have HE2 : Hid (wkT st s path t = wkL st s1 (path ++ [t]) t.sub) := (by show _ = _; simpa using HEq.out)
   obtain ⟨ncs, hn1, hn2, hn3, hn4⟩ := HP.out.vfr HF1.out
   have HN4 : Hid _ := hn4
   have HN2 : Hid _ := hn2
   have HN1 : Hid _ := hn1
   have HR : Hid (w1.ownsRow Bw 24 5 (.slice va path.length vc) path.length ncs.flatten) := hn3
   clear hn1 hn2 hn3 hn4
   have hs1 := HF1.out.below.size
   go_wp2_with (at_builtin; refine wpList_append_kept _ rfl _ _ 22 rfl Bw 24 iv (.agg #[.int .i64 0, .string ⟨#[]⟩, .int .i64 0, .int .i64 0, .slice none 0 0]) 5 64 Tryz.underlying22 hvi hv0 hv1 hv2 rfl (by decide) _ path.length ncs.flatten rfl (HR.out.alloc _) ⟨w1.heap.size, 0, none⟩ 1 1 [.int .i64 t.id, .string t.nm, .int .i64 t.rep, .int .i64 t.kind, .slice a t.sub.length c] rfl rfl five_cells (by intro u hu; simp at hu; rcases hu with rfl | rfl | rfl | rfl | rfl <;> rfl) (by unfold maxLen; omega) (by omega) (by simp; omega) (by decide) ?_; intro v2 w2 hown2 hgrow2 hwh2; have HW : Hid (WP B Bw W t a c (.slice va path.length vc) path I s1 w2 v2) := WP.start hBw hI hbw HF1.out HB1.out HR.out HN1.out HN2.out HN4.out (HT.out (by simp)) hcap HL.out (fun k hk => (HP.out.block hk).2.1) hown2 hgrow2 hwh2; clear hown2 hgrow2 hwh2 p0 p1 p2 p3 p4; obtain ⟨a2, c2, e2⟩ := HW.out.row.shape; rw [show (path ++ [t]).length = path.length + 1 by simp] at e2; subst e2; obtain ⟨⟨p0, p1, p2, p3, p4⟩, _⟩ := row_five HW.out.box)
   clear HR HN1 HN2 HN4 HT HF1 HB1
   have hlen2 : (path ++ [t]).length + n ≤ 1100000 := by simp; omega
   have HS : Hid (wkL st s1 (path ++ [t]) (t.sub.take 0) = (true, s1)) := by
    show _ = _
    rw [List.take_zero, wkL]
   go_loopw [21] (fun x wr => ∃ (i : Nat) (s' : S), i ≤ t.sub.length ∧ x = .int .i64 i ∧ Hid (μ s' + cntL (t.sub.drop i) ≤ M) ∧ Hid (wkL st s1 (path ++ [t]) (t.sub.take i) = (true, s')) ∧ Hid (WP B Bw W t a c (.slice va path.length vc) path I s' wr (.slice a2 (path.length + 1) c2))) (fun x _ => t.sub.length - (intOf x).toNat)
   case atStart => exact ⟨0, s1, Nat.zero_le _, rfl, HM, HS, HW⟩
   case round =>
    clear HS HW p0 p1 p2 p3 p4
    obtain ⟨i, s', hik, rfl, HMi, HS, HW⟩ := hrel
    obtain ⟨⟨p0, p1, p2, p3, p4⟩, _⟩ := row_five HW.out.box
    by_cases hlt : i < t.sub.length
    · have HLr : Hid (LiesN wr (fun b => b < B) a t.sub) := HL.out.stay (fun _ h _ => h) (fun b h _ => HW.out.fr.below.block b h)
      obtain ⟨b, o, a1, c1, rfl, d0, d1, d2, d3, d4, hl1, hc1⟩ := HLr.out.at2 i hlt
      have HWA : Hid _ := HW.out.alloc hBw hI hbw (.cells #[.int .i64 t.sub[i].id, .string t.sub[i].nm, .int .i64 t.sub[i].rep, .int .i64 t.sub[i].kind, .slice a1 t.sub[i].sub.length c1] 24)
      obtain ⟨b3, s3, hr3⟩ : ∃ b3 s3, wkT st s' (path ++ [t]) t.sub[i] = (b3, s3) := ⟨_, _, rfl⟩
      have hmi := HMi.out
      rw [cntL_drop t.sub i hlt] at hmi
      have hmr := wkT_more st μ hμ t.sub[i] s' (path ++ [t])
      rw [hr3] at hmr
      simp only at hmr
      have HM3 : Hid (μ s3 + cntL (t.sub.drop (i + 1)) ≤ M) := (by show _ ≤ _; omega)
      have HC := HIH.out i hlt s' (path ++ [t]) a1 c1 (.slice a2 (path.length + 1) c2) _ (HQ.out i hlt) (by omega) hlen2 HWA.out.inv HWA.out.row (hl1.keep ((Below.refl _ _).alloc (Nat.le_refl _) _)) hc1 (by have := HW.out.fr.below.size; simp; omega)
      rw [hr3] at HC
      have HC : Hid _ := HC
      have HS3 : Hid (wkL st s1 (path ++ [t]) (t.sub.take (i + 1)) = (b3, s3)) := (wkL_take st s1 (path ++ [t]) t.sub i hlt s' HS.out).trans hr3
      clear hr3 hl1 hc1 hmi hmr
      go_wp2_with fail
      refine Calls.mono HC.out ?_
      clear HC
      rintro e w3 ⟨rfl, hT, hF, hfr, hpr⟩
      have HF : Hid _ := hF
      have HT : Hid _ := hT
      have HFr : Hid _ := hfr
      have HPr : Hid _ := hpr
      clear hT hF hfr hpr
      cases b3 with
      | true =>
       have HW3 : Hid _ := HWA.out.next hbw HFr.out HPr.out (HT.out (by simp))
       go_wp2
       go_roundw
       case rel => exact ⟨i + 1, s3, by omega, by go_num, HM3, HS3, HW3⟩
       case measure => simp [intOf]; omega
      | false =>
       have HEnd : Hid (wkT st s path t = (false, s3)) := (HE2.out.trans (wkL_stop st s1 (path ++ [t]) t.sub (i + 1) (by rw [HS3.out]))).trans HS3.out
       have HWl : Hid (WP B Bw W t (some ⟨b, o, none⟩) c (.slice va path.length vc) path (fun _ _ => True) s3 w3 (.slice a2 (path.length + 1) c2)) := WP.next (s := s') hbw (HWA.out.weak) HFr.out HPr.out trivial
       go_wp2
       go_ret
       rw [HEnd.out]
       exact ⟨rfl, fun h => by simp at h, fun _ => HF.out (by simp), HWl.out.fr, HWl.out.old⟩
    · obtain rfl : i = t.sub.length := by omega
      go_wp2
      go_ret
      have HS2 := HS.out
      rw [List.take_length] at HS2
      rw [HE2.out, HS2]
      exact ⟨rfl, fun _ => HW.out.inv, fun h => by simp at h, HW.out.fr, HW.out.old⟩
set_option maxRecDepth 100000 in
set_option maxHeartbeats 1600000 in
theorem wkS_any {S : Type} (st : S → List Tr → Tr → Bool × S) (I J : S → World → Prop) (Q : List Tr → Tr → Prop) (μ : S → Nat) (M : Nat) (B Bw : Nat) (hBw : B ≤ Bw)
    (hI : ∀ s W w' r, I s W → W.grownBy w' r → (∀ k, r = some k → Bw ≤ k ∧ IsNB W k) → I s w')
    (hQ : ∀ path t, Q path t → ∀ j (hj : j < t.sub.length), Q (path ++ [t]) t.sub[j]) (hμ : ∀ s path t, μ (st s path t).2 ≤ μ s + 1)
    (HV : Hid (∀ s path t a c v W, Q path t → μ s + 1 ≤ M → I s W → PathR W B Bw v path → LiesN W (fun b => b < B) a t.sub → t.sub.length ≤ c → t.Sm → Bw ≤ W.heap.size → Calls Tryz.prog 95 #[nodeV t a c, v] W fun e w' => e = .returned (.bool (st s path t).1) ∧ ((st s path t).1 = true → I (st s path t).2 w') ∧ ((st s path t).1 = false → J (st s path t).2 w') ∧ VFr B Bw W w')) :
    ∀ (n : Nat) (t : Tr), Tr.Dp n t → t.Sm → ∀ (s : S) (path : List Tr) (a : Option Addr) (c : Nat) (v : Value) (W : World), Q path t → μ s + t.cnt ≤ M → path.length + n ≤ 1100000 → I s W → PathR W B Bw v path → LiesN W (fun b => b < B) a t.sub → t.sub.length ≤ c → Bw ≤ W.heap.size →
    Calls Tryz.prog 37 #[nodeV t a c, v, .func (.func 95) #[] #[]] W fun e w' => e = .returned (.bool (wkT st s path t).1) ∧ ((wkT st s path t).1 = true → I (wkT st s path t).2 w') ∧ ((wkT st s path t).1 = false → J (wkT st s path t).2 w') ∧ WFr B Bw v W w' ∧ PathR w' B Bw v path
 | 0, t, h => absurd h.pos (Nat.lt_irrefl _)
 | n + 1, t, hdp => fun hsm s path a c v W hq hm hlen hi hp hl hcap hbw => by
  obtain ⟨iv, hvi, hv0, hv1, hv2⟩ := info_parts Tryz.infoN
  have HL : Hid (LiesN W (fun b => b < B) a t.sub) := hl
  have hsl := hsm.len
  have HP : Hid (PathR W B Bw v path) := hp
  have HI : Hid (I s W) := hi
  obtain ⟨va, vc, rfl⟩ := hp.shape
  have HIH : Hid (∀ j (hj : j < t.sub.length) (s : S) (path : List Tr) (a : Option Addr) (c : Nat) (v : Value) (W : World), Q path t.sub[j] → μ s + t.sub[j].cnt ≤ M → path.length + n ≤ 1100000 → I s W → PathR W B Bw v path → LiesN W (fun b => b < B) a t.sub[j].sub → t.sub[j].sub.length ≤ c → Bw ≤ W.heap.size → Calls Tryz.prog 37 #[nodeV t.sub[j] a c, v, .func (.func 95) #[] #[]] W fun e w' => e = .returned (.bool (wkT st s path t.sub[j]).1) ∧ ((wkT st s path t.sub[j]).1 = true → I (wkT st s path t.sub[j]).2 w') ∧ ((wkT st s path t.sub[j]).1 = false → J (wkT st s path t.sub[j]).2 w') ∧ WFr B Bw v W w' ∧ PathR w' B Bw v path) := fun j hj => wkS_any st I J Q μ M  B Bw hBw hI hQ hμ HV n t.sub[j] (hdp.at_ j hj) (hsm.at_ j hj)
  have HEq := wkT_eq st s path t
  obtain ⟨b1, s1, hst⟩ : ∃ b1 s1, st s path t = (b1, s1) := ⟨_, _, rfl⟩
  rw [hst] at HEq
  have hw1 := wk_box hBw hI t a c hi hp hl hbw
  have hcnt := t.cnt_eq
  have HQ : Hid (∀ j (hj : j < t.sub.length), Q (path ++ [t]) t.sub[j]) := hQ path t hq
  have HC := HV.out s path t a c (.slice va path.length vc) _ hq (by omega) hw1.1 hw1.2.1 hw1.2.2.1 hcap hsm hw1.2.2.2
  rw [hst] at HC
  have HC : Hid _ := HC
  have HEq : Hid _ := HEq
  have hm1 : μ s1 + cntL t.sub ≤ M := by have h := hμ s path t; rw [hst] at h; simp only at h; omega
  have HM : Hid (μ s1 + cntL t.sub ≤ M) := hm1
  have hst : Hid _ := hst
  clear hm1 hcnt hm hq
  clear hl hsm hp hi hw1
  unfold nodeV
  go_enter Tryz.func37, Tryz.ntmps37
  go_wp2_with fail
  refine Calls.mono HC.out ?_
  clear HC
  rintro e w1 ⟨rfl, hiT, hiF, hf1⟩
  have HJ : Hid _ := hiF
  have HT : Hid _ := hiT
  have HF1 : Hid (VFr B Bw W w1) := ((VFr.refl B Bw W).alloc (by omega) _).trans hf1
  have HB1 : Hid (w1.heap[W.heap.size]? = some (.cells #[.int .i64 t.id, .string t.nm, .int .i64 t.rep, .int .i64 t.kind, .slice a t.sub.length c] 24 (0, 0))) := (hf1.rows W.heap.size hbw (by simp) ⟨_, _, heap_alloc_new W _⟩).trans (heap_alloc_new W _)
  clear hiT hiF hf1
  obtain ⟨⟨p0, p1, p2, p3, p4⟩, _⟩ := row_five HB1.out
  cases b1 with
  | false =>
   have HE2 : Hid (wkT st s path t = (false, s1)) := (by show _ = _; simpa using HEq.out)
   go_wp2
   go_ret
   rw [HE2.out]
   exact ⟨rfl, fun h => by simp at h, fun _ => HJ.out (by simp), ⟨HF1.out.below, fun k h1 h2 h3 _ => HF1.out.rows k h1 h2 h3⟩, HP.out.vfr HF1.out⟩
  | true =>
   have HE2 : Hid (wkT st s path t = wkL st s1 (path ++ [t]) t.sub) := (by show _ = _; simpa using HEq.out)
   obtain ⟨ncs, hn1, hn2, hn3, hn4⟩ := HP.out.vfr HF1.out
   have HN4 : Hid _ := hn4
   have HN2 : Hid _ := hn2
   have HN1 : Hid _ := hn1
   have HR : Hid (w1.ownsRow Bw 24 5 (.slice va path.length vc) path.length ncs.flatten) := hn3
   clear hn1 hn2 hn3 hn4
   have hs1 := HF1.out.below.size
   go_wp2_with (at_builtin; refine wpList_append_kept _ rfl _ _ 22 rfl Bw 24 iv (.agg #[.int .i64 0, .string ⟨#[]⟩, .int .i64 0, .int .i64 0, .slice none 0 0]) 5 64 Tryz.underlying22 hvi hv0 hv1 hv2 rfl (by decide) _ path.length ncs.flatten rfl (HR.out.alloc _) ⟨w1.heap.size, 0, none⟩ 1 1 [.int .i64 t.id, .string t.nm, .int .i64 t.rep, .int .i64 t.kind, .slice a t.sub.length c] rfl rfl five_cells (by intro u hu; simp at hu; rcases hu with rfl | rfl | rfl | rfl | rfl <;> rfl) (by unfold maxLen; omega) (by omega) (by simp; omega) (by decide) ?_; intro v2 w2 hown2 hgrow2 hwh2; have HW : Hid (WP B Bw W t a c (.slice va path.length vc) path I s1 w2 v2) := WP.start hBw hI hbw HF1.out HB1.out HR.out HN1.out HN2.out HN4.out (HT.out (by simp)) hcap HL.out (fun k hk => (HP.out.block hk).2.1) hown2 hgrow2 hwh2; clear hown2 hgrow2 hwh2 p0 p1 p2 p3 p4; obtain ⟨a2, c2, e2⟩ := HW.out.row.shape; rw [show (path ++ [t]).length = path.length + 1 by simp] at e2; subst e2; obtain ⟨⟨p0, p1, p2, p3, p4⟩, _⟩ := row_five HW.out.box)
   clear HR HN1 HN2 HN4 HT HF1 HB1
   have hlen2 : (path ++ [t]).length + n ≤ 1100000 := by simp; omega
   have HS : Hid (wkL st s1 (path ++ [t]) (t.sub.take 0) = (true, s1)) := by
    show _ = _
    rw [List.take_zero, wkL]
   go_loopw [21] (fun x wr => ∃ (i : Nat) (s' : S), i ≤ t.sub.length ∧ x = .int .i64 i ∧ Hid (μ s' + cntL (t.sub.drop i) ≤ M) ∧ Hid (wkL st s1 (path ++ [t]) (t.sub.take i) = (true, s')) ∧ Hid (WP B Bw W t a c (.slice va path.length vc) path I s' wr (.slice a2 (path.length + 1) c2))) (fun x _ => t.sub.length - (intOf x).toNat)
   case atStart => exact ⟨0, s1, Nat.zero_le _, rfl, HM, HS, HW⟩
   case round =>
    clear HS HW p0 p1 p2 p3 p4
    obtain ⟨i, s', hik, rfl, HMi, HS, HW⟩ := hrel
    obtain ⟨⟨p0, p1, p2, p3, p4⟩, _⟩ := row_five HW.out.box
    by_cases hlt : i < t.sub.length
    · have HLr : Hid (LiesN wr (fun b => b < B) a t.sub) := HL.out.stay (fun _ h _ => h) (fun b h _ => HW.out.fr.below.block b h)
      obtain ⟨b, o, a1, c1, rfl, d0, d1, d2, d3, d4, hl1, hc1⟩ := HLr.out.at2 i hlt
      have HWA : Hid _ := HW.out.alloc hBw hI hbw (.cells #[.int .i64 t.sub[i].id, .string t.sub[i].nm, .int .i64 t.sub[i].rep, .int .i64 t.sub[i].kind, .slice a1 t.sub[i].sub.length c1] 24)
      obtain ⟨b3, s3, hr3⟩ : ∃ b3 s3, wkT st s' (path ++ [t]) t.sub[i] = (b3, s3) := ⟨_, _, rfl⟩
      have hmi := HMi.out
      rw [cntL_drop t.sub i hlt] at hmi
      have hmr := wkT_more st μ hμ t.sub[i] s' (path ++ [t])
      rw [hr3] at hmr
      simp only at hmr
      have HM3 : Hid (μ s3 + cntL (t.sub.drop (i + 1)) ≤ M) := (by show _ ≤ _; omega)
      have HC := HIH.out i hlt s' (path ++ [t]) a1 c1 (.slice a2 (path.length + 1) c2) _ (HQ.out i hlt) (by omega) hlen2 HWA.out.inv HWA.out.row (hl1.keep ((Below.refl _ _).alloc (Nat.le_refl _) _)) hc1 (by have := HW.out.fr.below.size; simp; omega)
      rw [hr3] at HC
      have HC : Hid _ := HC
      have HS3 : Hid (wkL st s1 (path ++ [t]) (t.sub.take (i + 1)) = (b3, s3)) := (wkL_take st s1 (path ++ [t]) t.sub i hlt s' HS.out).trans hr3
      clear hr3 hl1 hc1 hmi hmr
      go_wp2_with fail
      refine Calls.mono HC.out ?_
      clear HC
      rintro e w3 ⟨rfl, hT, hF, hfr, hpr⟩
      have HF : Hid _ := hF
      have HT : Hid _ := hT
      have HFr : Hid _ := hfr
      have HPr : Hid _ := hpr
      clear hT hF hfr hpr
      cases b3 with
      | true =>
       have HW3 : Hid _ := HWA.out.next hbw HFr.out HPr.out (HT.out (by simp))
       go_wp2
       go_roundw
       case rel => exact ⟨i + 1, s3, by omega, by go_num, HM3, HS3, HW3⟩
       case measure => simp [intOf]; omega
      | false =>
       have HEnd : Hid (wkT st s path t = (false, s3)) := (HE2.out.trans (wkL_stop st s1 (path ++ [t]) t.sub (i + 1) (by rw [HS3.out]))).trans HS3.out
       have HWl : Hid (WP B Bw W t (some ⟨b, o, none⟩) c (.slice va path.length vc) path (fun _ _ => True) s3 w3 (.slice a2 (path.length + 1) c2)) := WP.next (s := s') hbw (HWA.out.weak) HFr.out HPr.out trivial
       go_wp2
       go_ret
       rw [HEnd.out]
       exact ⟨rfl, fun h => by simp at h, fun _ => HF.out (by simp), HWl.out.fr, HWl.out.old⟩
    · obtain rfl : i = t.sub.length := by omega
      go_wp2
      go_ret
      have HS2 := HS.out
      rw [List.take_length] at HS2
      rw [HE2.out, HS2]
      exact ⟨rfl, fun _ => HW.out.inv, fun h => by simp at h, HW.out.fr, HW.out.old⟩
set_option maxRecDepth 100000 in
set_option maxHeartbeats 1600000 in
theorem wkN_any {S : Type} (st : S → List Tr → Tr → Bool × S) (I J : S → World → Prop) (Q : List Tr → Tr → Prop) (μ : S → Nat) (M : Nat) (g0 : Nat) (B Bw : Nat) (hBw : B ≤ Bw)
    (hI : ∀ s W w' r, I s W → W.grownBy w' r → (∀ k, r = some k → Bw ≤ k ∧ IsNB W k) → I s w')
    (hQ : ∀ path t, Q path t → ∀ j (hj : j < t.sub.length), Q (path ++ [t]) t.sub[j]) (hμ : ∀ s path t, μ (st s path t).2 ≤ μ s + 1)
    (HV : Hid (∀ s path t a c v W, Q path t → μ s + 1 ≤ M → I s W → PathR W B Bw v path → LiesN W (fun b => b < B) a t.sub → t.sub.length ≤ c → t.Sm → Bw ≤ W.heap.size → Calls Tryz.prog 84 #[nodeV t a c, v, .pointer (some ⟨g0, 0, none⟩)] W fun e w' => e = .returned (.bool (st s path t).1) ∧ ((st s path t).1 = true → I (st s path t).2 w') ∧ ((st s path t).1 = false → J (st s path t).2 w') ∧ VFr B Bw W w')) :
    ∀ (n : Nat) (t : Tr), Tr.Dp n t → t.Sm → ∀ (s : S) (path : List Tr) (a : Option Addr) (c : Nat) (v : Value) (W : World), Q path t → μ s + t.cnt ≤ M → path.length + n ≤ 1100000 → I s W → PathR W B Bw v path → LiesN W (fun b => b < B) a t.sub → t.sub.length ≤ c → Bw ≤ W.heap.size →
    Calls Tryz.prog 37 #[nodeV t a c, v, .func (.func 84) #[] #[.pointer (some ⟨g0, 0, none⟩)]] W fun e w' => e = .returned (.bool (wkT st s path t).1) ∧ ((wkT st s path t).1 = true → I (wkT st s path t).2 w') ∧ ((wkT st s path t).1 = false → J (wkT st s path t).2 w') ∧ WFr B Bw v W w' ∧ PathR w' B Bw v path
 | 0, t, h => absurd h.pos (Nat.lt_irrefl _)
 | n + 1, t, hdp => fun hsm s path a c v W hq hm hlen hi hp hl hcap hbw => by
  obtain ⟨iv, hvi, hv0, hv1, hv2⟩ := info_parts Tryz.infoN
  have HL : Hid (LiesN W (fun b => b < B) a t.sub) := hl
  have hsl := hsm.len
  have HP : Hid (PathR W B Bw v path) := hp
  have HI : Hid (I s W) := hi
  obtain ⟨va, vc, rfl⟩ := hp.shape
  have HIH : Hid (∀ j (hj : j < t.sub.length) (s : S) (path : List Tr) (a : Option Addr) (c : Nat) (v : Value) (W : World), Q path t.sub[j] → μ s + t.sub[j].cnt ≤ M → path.length + n ≤ 1100000 → I s W → PathR W B Bw v path → LiesN W (fun b => b < B) a t.sub[j].sub → t.sub[j].sub.length ≤ c → Bw ≤ W.heap.size → Calls Tryz.prog 37 #[nodeV t.sub[j] a c, v, .func (.func 84) #[] #[.pointer (some ⟨g0, 0, none⟩)]] W fun e w' => e = .returned (.bool (wkT st s path t.sub[j]).1) ∧ ((wkT st s path t.sub[j]).1 = true → I (wkT st s path t.sub[j]).2 w') ∧ ((wkT st s path t.sub[j]).1 = false → J (wkT st s path t.sub[j]).2 w') ∧ WFr B Bw v W w' ∧ PathR w' B Bw v path) := fun j hj => wkN_any st I J Q μ M g0 B Bw hBw hI hQ hμ HV n t.sub[j] (hdp.at_ j hj) (hsm.at_ j hj)
  have HEq := wkT_eq st s path t
  obtain ⟨b1, s1, hst⟩ : ∃ b1 s1, st s path t = (b1, s1) := ⟨_, _, rfl⟩
  rw [hst] at HEq
  have hw1 := wk_box hBw hI t a c hi hp hl hbw
  have hcnt := t.cnt_eq
  have HQ : Hid (∀ j (hj : j < t.sub.length), Q (path ++ [t]) t.sub[j]) := hQ path t hq
  have HC := HV.out s path t a c (.slice va path.length vc) _ hq (by omega) hw1.1 hw1.2.1 hw1.2.2.1 hcap hsm hw1.2.2.2
  rw [hst] at HC
  have HC : Hid _ := HC
  have HEq : Hid _ := HEq
  have hm1 : μ s1 + cntL t.sub ≤ M := by have h := hμ s path t; rw [hst] at h; simp only at h; omega
  have HM : Hid (μ s1 + cntL t.sub ≤ M) := hm1
  have hst : Hid _ := hst
  clear hm1 hcnt hm hq
  clear hl hsm hp hi hw1
  unfold nodeV
  go_enter Tryz.func37, Tryz.ntmps37
  go_wp2_with fail
  refine Calls.mono HC.out ?_
  clear HC
  rintro e w1 ⟨rfl, hiT, hiF, hf1⟩
  have HJ : Hid _ := hiF
  have HT : Hid _ := hiT
  have HF1 : Hid (VFr B Bw W w1) := ((VFr.refl B Bw W).alloc (by omega) _).trans hf1
  have HB1 : Hid (w1.heap[W.heap.size]? = some (.cells #[.int .i64 t.id, .string t.nm, .int .i64 t.rep, .int .i64 t.kind, .slice a t.sub.length c] 24 (0, 0))) := (hf1.rows W.heap.size hbw (by simp) ⟨_, _, heap_alloc_new W _⟩).trans (heap_alloc_new W _)
  clear hiT hiF hf1
  obtain ⟨⟨p0, p1, p2, p3, p4⟩, _⟩ := row_five HB1.out
  cases b1 with
  | false =>
   have HE2 : Hid (wkT st s path t = (false, s1)) := (by show _ = _; simpa using HEq.out)
   go_wp2
   go_ret
   rw [HE2.out]
   exact ⟨rfl, fun h => by simp at h, fun _ => HJ.out (by simp), ⟨HF1.out.below, fun k h1 h2 h3 _ => HF1.out.rows k h1 h2 h3⟩, HP.out.vfr HF1.out⟩
  | true =>
   have HE2 : Hid (wkT st s path t = wkL st s1 (path ++ [t]) t.sub) := (by show _ = _; simpa using HEq.out)
   obtain ⟨ncs, hn1, hn2, hn3, hn4⟩ := HP.out.vfr HF1.out
   have HN4 : Hid _ := hn4
   have HN2 : Hid _ := hn2
   have HN1 : Hid _ := hn1
   have HR : Hid (w1.ownsRow Bw 24 5 (.slice va path.length vc) path.length ncs.flatten) := hn3
   clear hn1 hn2 hn3 hn4
   have hs1 := HF1.out.below.size
   go_wp2_with (at_builtin; refine wpList_append_kept _ rfl _ _ 22 rfl Bw 24 iv (.agg #[.int .i64 0, .string ⟨#[]⟩, .int .i64 0, .int .i64 0, .slice none 0 0]) 5 64 Tryz.underlying22 hvi hv0 hv1 hv2 rfl (by decide) _ path.length ncs.flatten rfl (HR.out.alloc _) ⟨w1.heap.size, 0, none⟩ 1 1 [.int .i64 t.id, .string t.nm, .int .i64 t.rep, .int .i64 t.kind, .slice a t.sub.length c] rfl rfl five_cells (by intro u hu; simp at hu; rcases hu with rfl | rfl | rfl | rfl | rfl <;> rfl) (by unfold maxLen; omega) (by omega) (by simp; omega) (by decide) ?_; intro v2 w2 hown2 hgrow2 hwh2; have HW : Hid (WP B Bw W t a c (.slice va path.length vc) path I s1 w2 v2) := WP.start hBw hI hbw HF1.out HB1.out HR.out HN1.out HN2.out HN4.out (HT.out (by simp)) hcap HL.out (fun k hk => (HP.out.block hk).2.1) hown2 hgrow2 hwh2; clear hown2 hgrow2 hwh2 p0 p1 p2 p3 p4; obtain ⟨a2, c2, e2⟩ := HW.out.row.shape; rw [show (path ++ [t]).length = path.length + 1 by simp] at e2; subst e2; obtain ⟨⟨p0, p1, p2, p3, p4⟩, _⟩ := row_five HW.out.box)
   clear HR HN1 HN2 HN4 HT HF1 HB1
   have hlen2 : (path ++ [t]).length + n ≤ 1100000 := by simp; omega
   have HS : Hid (wkL st s1 (path ++ [t]) (t.sub.take 0) = (true, s1)) := by
    show _ = _
    rw [List.take_zero, wkL]
   go_loopw [21] (fun x wr => ∃ (i : Nat) (s' : S), i ≤ t.sub.length ∧ x = .int .i64 i ∧ Hid (μ s' + cntL (t.sub.drop i) ≤ M) ∧ Hid (wkL st s1 (path ++ [t]) (t.sub.take i) = (true, s')) ∧ Hid (WP B Bw W t a c (.slice va path.length vc) path I s' wr (.slice a2 (path.length + 1) c2))) (fun x _ => t.sub.length - (intOf x).toNat)
   case atStart => exact ⟨0, s1, Nat.zero_le _, rfl, HM, HS, HW⟩
   case round =>
    clear HS HW p0 p1 p2 p3 p4
    obtain ⟨i, s', hik, rfl, HMi, HS, HW⟩ := hrel
    obtain ⟨⟨p0, p1, p2, p3, p4⟩, _⟩ := row_five HW.out.box
    by_cases hlt : i < t.sub.length
    · have HLr : Hid (LiesN wr (fun b => b < B) a t.sub) := HL.out.stay (fun _ h _ => h) (fun b h _ => HW.out.fr.below.block b h)
      obtain ⟨b, o, a1, c1, rfl, d0, d1, d2, d3, d4, hl1, hc1⟩ := HLr.out.at2 i hlt
      have HWA : Hid _ := HW.out.alloc hBw hI hbw (.cells #[.int .i64 t.sub[i].id, .string t.sub[i].nm, .int .i64 t.sub[i].rep, .int .i64 t.sub[i].kind, .slice a1 t.sub[i].sub.length c1] 24)
      obtain ⟨b3, s3, hr3⟩ : ∃ b3 s3, wkT st s' (path ++ [t]) t.sub[i] = (b3, s3) := ⟨_, _, rfl⟩
      have hmi := HMi.out
      rw [cntL_drop t.sub i hlt] at hmi
      have hmr := wkT_more st μ hμ t.sub[i] s' (path ++ [t])
      rw [hr3] at hmr
      simp only at hmr
      have HM3 : Hid (μ s3 + cntL (t.sub.drop (i + 1)) ≤ M) := (by show _ ≤ _; omega)
      have HC := HIH.out i hlt s' (path ++ [t]) a1 c1 (.slice a2 (path.length + 1) c2) _ (HQ.out i hlt) (by omega) hlen2 HWA.out.inv HWA.out.row (hl1.keep ((Below.refl _ _).alloc (Nat.le_refl _) _)) hc1 (by have := HW.out.fr.below.size; simp; omega)
      rw [hr3] at HC
      have HC : Hid _ := HC
      have HS3 : Hid (wkL st s1 (path ++ [t]) (t.sub.take (i + 1)) = (b3, s3)) := (wkL_take st s1 (path ++ [t]) t.sub i hlt s' HS.out).trans hr3
      clear hr3 hl1 hc1 hmi hmr
      go_wp2_with fail
      refine Calls.mono HC.out ?_
      clear HC
      rintro e w3 ⟨rfl, hT, hF, hfr, hpr⟩
      have HF : Hid _ := hF
      have HT : Hid _ := hT
      have HFr : Hid _ := hfr
      have HPr : Hid _ := hpr
      clear hT hF hfr hpr
      cases b3 with
      | true =>
       have HW3 : Hid _ := HWA.out.next hbw HFr.out HPr.out (HT.out (by simp))
       go_wp2
       go_roundw
       case rel => exact ⟨i + 1, s3, by omega, by go_num, HM3, HS3, HW3⟩
       case measure => simp [intOf]; omega
      | false =>
       have HEnd : Hid (wkT st s path t = (false, s3)) := (HE2.out.trans (wkL_stop st s1 (path ++ [t]) t.sub (i + 1) (by rw [HS3.out]))).trans HS3.out
       have HWl : Hid (WP B Bw W t (some ⟨b, o, none⟩) c (.slice va path.length vc) path (fun _ _ => True) s3 w3 (.slice a2 (path.length + 1) c2)) := WP.next (s := s') hbw (HWA.out.weak) HFr.out HPr.out trivial
       go_wp2
       go_ret
       rw [HEnd.out]
       exact ⟨rfl, fun h => by simp at h, fun _ => HF.out (by simp), HWl.out.fr, HWl.out.old⟩
    · obtain rfl : i = t.sub.length := by omega
      go_wp2
      go_ret
      have HS2 := HS.out
      rw [List.take_length] at HS2
      rw [HE2.out, HS2]
      exact ⟨rfl, fun _ => HW.out.inv, fun h => by simp at h, HW.out.fr, HW.out.old⟩
set_option maxRecDepth 100000 in
set_option maxHeartbeats 1600000 in
theorem wkI_any {S : Type} (st : S → List Tr → Tr → Bool × S) (I J : S → World → Prop) (Q : List Tr → Tr → Prop) (μ : S → Nat) (M : Nat) (g0 : Nat) (B Bw : Nat) (hBw : B ≤ Bw)
    (hI : ∀ s W w' r, I s W → W.grownBy w' r → (∀ k, r = some k → Bw ≤ k ∧ IsNB W k) → I s w')
    (hQ : ∀ path t, Q path t → ∀ j (hj : j < t.sub.length), Q (path ++ [t]) t.sub[j]) (hμ : ∀ s path t, μ (st s path t).2 ≤ μ s + 1)
    (HV : Hid (∀ s path t a c v W, Q path t → μ s + 1 ≤ M → I s W → PathR W B Bw v path → LiesN W (fun b => b < B) a t.sub → t.sub.length ≤ c → t.Sm → Bw ≤ W.heap.size → Calls Tryz.prog 101 #[nodeV t a c, v, .pointer (some ⟨g0, 0, none⟩)] W fun e w' => e = .returned (.bool (st s path t).1) ∧ ((st s path t).1 = true → I (st s path t).2 w') ∧ ((st s path t).1 = false → J (st s path t).2 w') ∧ VFr B Bw W w')) :
    ∀ (n : Nat) (t : Tr), Tr.Dp n t → t.Sm → ∀ (s : S) (path : List Tr) (a : Option Addr) (c : Nat) (v : Value) (W : World), Q path t → μ s + t.cnt ≤ M → path.length + n ≤ 1100000 → I s W → PathR W B Bw v path → LiesN W (fun b => b < B) a t.sub → t.sub.length ≤ c → Bw ≤ W.heap.size →
    Calls Tryz.prog 37 #[nodeV t a c, v, .func (.func 101) #[] #[.pointer (some ⟨g0, 0, none⟩)]] W fun e w' => e = .returned (.bool (wkT st s path t).1) ∧ ((wkT st s path t).1 = true → I (wkT st s path t).2 w') ∧ ((wkT st s path t).1 = false → J (wkT st s path t).2 w') ∧ WFr B Bw v W w' ∧ PathR w' B Bw v path
 | 0, t, h => absurd h.pos (Nat.lt_irrefl _)
 | n + 1, t, hdp => fun hsm s path a c v W hq hm hlen hi hp hl hcap hbw => by
  obtain ⟨iv, hvi, hv0, hv1, hv2⟩ := info_parts Tryz.infoN
  have HL : Hid (LiesN W (fun b => b < B) a t.sub) := hl
  have hsl := hsm.len
  have HP : Hid (PathR W B Bw v path) := hp
  have HI : Hid (I s W) := hi
  obtain ⟨va, vc, rfl⟩ := hp.shape
  have HIH : Hid (∀ j (hj : j < t.sub.length) (s : S) (path : List Tr) (a : Option Addr) (c : Nat) (v : Value) (W : World), Q path t.sub[j] → μ s + t.sub[j].cnt ≤ M → path.length + n ≤ 1100000 → I s W → PathR W B Bw v path → LiesN W (fun b => b < B) a t.sub[j].sub → t.sub[j].sub.length ≤ c → Bw ≤ W.heap.size → Calls Tryz.prog 37 #[nodeV t.sub[j] a c, v, .func (.func 101) #[] #[.pointer (some ⟨g0, 0, none⟩)]] W fun e w' => e = .returned (.bool (wkT st s path t.sub[j]).1) ∧ ((wkT st s path t.sub[j]).1 = true → I (wkT st s path t.sub[j]).2 w') ∧ ((wkT st s path t.sub[j]).1 = false → J (wkT st s path t.sub[j]).2 w') ∧ WFr B Bw v W w' ∧ PathR w' B Bw v path) := fun j hj => wkI_any st I J Q μ M g0 B Bw hBw hI hQ hμ HV n t.sub[j] (hdp.at_ j hj) (hsm.at_ j hj)
  have HEq := wkT_eq st s path t
  obtain ⟨b1, s1, hst⟩ : ∃ b1 s1, st s path t = (b1, s1) := ⟨_, _, rfl⟩
  rw [hst] at HEq
  have hw1 := wk_box hBw hI t a c hi hp hl hbw
  have hcnt := t.cnt_eq
  have HQ : Hid (∀ j (hj : j < t.sub.length), Q (path ++ [t]) t.sub[j]) := hQ path t hq
  have HC := HV.out s path t a c (.slice va path.length vc) _ hq (by omega) hw1.1 hw1.2.1 hw1.2.2.1 hcap hsm hw1.2.2.2
  rw [hst] at HC
  have HC : Hid _ := HC
  have HEq : Hid _ := HEq
  have hm1 : μ s1 + cntL t.sub ≤ M := by have h := hμ s path t; rw [hst] at h; simp only at h; omega
  have HM : Hid (μ s1 + cntL t.sub ≤ M) := hm1
  have hst : Hid _ := hst
  clear hm1 hcnt hm hq
  clear hl hsm hp hi hw1
  unfold nodeV
  go_enter Tryz.func37, Tryz.ntmps37
  go_wp2_with fail
  refine Calls.mono HC.out ?_
  clear HC
  rintro e w1 ⟨rfl, hiT, hiF, hf1⟩
  have HJ : Hid _ := hiF
  have HT : Hid _ := hiT
  have HF1 : Hid (VFr B Bw W w1) := ((VFr.refl B Bw W).alloc (by omega) _).trans hf1
  have HB1 : Hid (w1.heap[W.heap.size]? = some (.cells #[.int .i64 t.id, .string t.nm, .int .i64 t.rep, .int .i64 t.kind, .slice a t.sub.length c] 24 (0, 0))) := (hf1.rows W.heap.size hbw (by simp) ⟨_, _, heap_alloc_new W _⟩).trans (heap_alloc_new W _)
  clear hiT hiF hf1
  obtain ⟨⟨p0, p1, p2, p3, p4⟩, _⟩ := row_five HB1.out
  cases b1 with
  | false =>
   have HE2 : Hid (wkT st s path t = (false, s1)) := (by show _ = _; simpa using HEq.out)
   go_wp2
   go_ret
   rw [HE2.out]
   exact ⟨rfl, fun h => by simp at h, fun _ => HJ.out (by simp), ⟨HF1.out.below, fun k h1 h2 h3 _ => HF1.out.rows k h1 h2 h3⟩, HP.out.vfr HF1.out⟩
  | true =>
   have HE2 : Hid (wkT st s path t = wkL st s1 (path ++ [t]) t.sub) := (by show _ = _; simpa using HEq.out)
   obtain ⟨ncs, hn1, hn2, hn3, hn4⟩ := HP.out.vfr HF1.out
   have HN4 : Hid _ := hn4
   have HN2 : Hid _ := hn2
   have HN1 : Hid _ := hn1
   have HR : Hid (w1.ownsRow Bw 24 5 (.slice va path.length vc) path.length ncs.flatten) := hn3
   clear hn1 hn2 hn3 hn4
   have hs1 := HF1.out.below.size
   go_wp2_with (at_builtin; refine wpList_append_kept _ rfl _ _ 22 rfl Bw 24 iv (.agg #[.int .i64 0, .string ⟨#[]⟩, .int .i64 0, .int .i64 0, .slice none 0 0]) 5 64 Tryz.underlying22 hvi hv0 hv1 hv2 rfl (by decide) _ path.length ncs.flatten rfl (HR.out.alloc _) ⟨w1.heap.size, 0, none⟩ 1 1 [.int .i64 t.id, .string t.nm, .int .i64 t.rep, .int .i64 t.kind, .slice a t.sub.length c] rfl rfl five_cells (by intro u hu; simp at hu; rcases hu with rfl | rfl | rfl | rfl | rfl <;> rfl) (by unfold maxLen; omega) (by omega) (by simp; omega) (by decide) ?_; intro v2 w2 hown2 hgrow2 hwh2; have HW : Hid (WP B Bw W t a c (.slice va path.length vc) path I s1 w2 v2) := WP.start hBw hI hbw HF1.out HB1.out HR.out HN1.out HN2.out HN4.out (HT.out (by simp)) hcap HL.out (fun k hk => (HP.out.block hk).2.1) hown2 hgrow2 hwh2; clear hown2 hgrow2 hwh2 p0 p1 p2 p3 p4; obtain ⟨a2, c2, e2⟩ := HW.out.row.shape; rw [show (path ++ [t]).length = path.length + 1 by simp] at e2; subst e2; obtain ⟨⟨p0, p1, p2, p3, p4⟩, _⟩ := row_five HW.out.box)
   clear HR HN1 HN2 HN4 HT HF1 HB1
   have hlen2 : (path ++ [t]).length + n ≤ 1100000 := by simp; omega
   have HS : Hid (wkL st s1 (path ++ [t]) (t.sub.take 0) = (true, s1)) := by
    show _ = _
    rw [List.take_zero, wkL]
   go_loopw [21] (fun x wr => ∃ (i : Nat) (s' : S), i ≤ t.sub.length ∧ x = .int .i64 i ∧ Hid (μ s' + cntL (t.sub.drop i) ≤ M) ∧ Hid (wkL st s1 (path ++ [t]) (t.sub.take i) = (true, s')) ∧ Hid (WP B Bw W t a c (.slice va path.length vc) path I s' wr (.slice a2 (path.length + 1) c2))) (fun x _ => t.sub.length - (intOf x).toNat)
   case atStart => exact ⟨0, s1, Nat.zero_le _, rfl, HM, HS, HW⟩
   case round =>
    clear HS HW p0 p1 p2 p3 p4
    obtain ⟨i, s', hik, rfl, HMi, HS, HW⟩ := hrel
    obtain ⟨⟨p0, p1, p2, p3, p4⟩, _⟩ := row_five HW.out.box
    by_cases hlt : i < t.sub.length
    · have HLr : Hid (LiesN wr (fun b => b < B) a t.sub) := HL.out.stay (fun _ h _ => h) (fun b h _ => HW.out.fr.below.block b h)
      obtain ⟨b, o, a1, c1, rfl, d0, d1, d2, d3, d4, hl1, hc1⟩ := HLr.out.at2 i hlt
      have HWA : Hid _ := HW.out.alloc hBw hI hbw (.cells #[.int .i64 t.sub[i].id, .string t.sub[i].nm, .int .i64 t.sub[i].rep, .int .i64 t.sub[i].kind, .slice a1 t.sub[i].sub.length c1] 24)
      obtain ⟨b3, s3, hr3⟩ : ∃ b3 s3, wkT st s' (path ++ [t]) t.sub[i] = (b3, s3) := ⟨_, _, rfl⟩
      have hmi := HMi.out
      rw [cntL_drop t.sub i hlt] at hmi
      have hmr := wkT_more st μ hμ t.sub[i] s' (path ++ [t])
      rw [hr3] at hmr
      simp only at hmr
      have HM3 : Hid (μ s3 + cntL (t.sub.drop (i + 1)) ≤ M) := (by show _ ≤ _; omega)
      have HC := HIH.out i hlt s' (path ++ [t]) a1 c1 (.slice a2 (path.length + 1) c2) _ (HQ.out i hlt) (by omega) hlen2 HWA.out.inv HWA.out.row (hl1.keep ((Below.refl _ _).alloc (Nat.le_refl _) _)) hc1 (by have := HW.out.fr.below.size; simp; omega)
      rw [hr3] at HC
      have HC : Hid _ := HC
      have HS3 : Hid (wkL st s1 (path ++ [t]) (t.sub.take (i + 1)) = (b3, s3)) := (wkL_take st s1 (path ++ [t]) t.sub i hlt s' HS.out).trans hr3
      clear hr3 hl1 hc1 hmi hmr
      go_wp2_with fail
      refine Calls.mono HC.out ?_
      clear HC
      rintro e w3 ⟨rfl, hT, hF, hfr, hpr⟩
      have HF : Hid _ := hF
      have HT : Hid _ := hT
      have HFr : Hid _ := hfr
      have HPr : Hid _ := hpr
      clear hT hF hfr hpr
      cases b3 with
      | true =>
       have HW3 : Hid _ := HWA.out.next hbw HFr.out HPr.out (HT.out (by simp))
       go_wp2
       go_roundw
       case rel => exact ⟨i + 1, s3, by omega, by go_num, HM3, HS3, HW3⟩
       case measure => simp [intOf]; omega
      | false =>
       have HEnd : Hid (wkT st s path t = (false, s3)) := (HE2.out.trans (wkL_stop st s1 (path ++ [t]) t.sub (i + 1) (by rw [HS3.out]))).trans HS3.out
       have HWl : Hid (WP B Bw W t (some ⟨b, o, none⟩) c (.slice va path.length vc) path (fun _ _ => True) s3 w3 (.slice a2 (path.length + 1) c2)) := WP.next (s := s') hbw (HWA.out.weak) HFr.out HPr.out trivial
       go_wp2
       go_ret
       rw [HEnd.out]
       exact ⟨rfl, fun h => by simp at h, fun _ => HF.out (by simp), HWl.out.fr, HWl.out.old⟩
    · obtain rfl : i = t.sub.length := by omega
      go_wp2
      go_ret
      have HS2 := HS.out
      rw [List.take_length] at HS2
      rw [HE2.out, HS2]
      exact ⟨rfl, fun _ => HW.out.inv, fun h => by simp at h, HW.out.fr, HW.out.old⟩
set_option maxRecDepth 100000 in
set_option maxHeartbeats 1600000 in
theorem wkY_any {S : Type} (st : S → List Tr → Tr → Bool × S) (I J : S → World → Prop) (Q : List Tr → Tr → Prop) (μ : S → Nat) (M : Nat) (g0 g1 : Nat) (B Bw : Nat) (hBw : B ≤ Bw)
    (hI : ∀ s W w' r, I s W → W.grownBy w' r → (∀ k, r = some k → Bw ≤ k ∧ IsNB W k) → I s w')
    (hQ : ∀ path t, Q path t → ∀ j (hj : j < t.sub.length), Q (path ++ [t]) t.sub[j]) (hμ : ∀ s path t, μ (st s path t).2 ≤ μ s + 1)
    (HV : Hid (∀ s path t a c v W, Q path t → μ s + 1 ≤ M → I s W → PathR W B Bw v path → LiesN W (fun b => b < B) a t.sub → t.sub.length ≤ c → t.Sm → Bw ≤ W.heap.size → Calls Tryz.prog 85 #[nodeV t a c, v, .pointer (some ⟨g0, 0, none⟩), .pointer (some ⟨g1, 0, none⟩)] W fun e w' => e = .returned (.bool (st s path t).1) ∧ ((st s path t).1 = true → I (st s path t).2 w') ∧ ((st s path t).1 = false → J (st s path t).2 w') ∧ VFr B Bw W w')) :
    ∀ (n : Nat) (t : Tr), Tr.Dp n t → t.Sm → ∀ (s : S) (path : List Tr) (a : Option Addr) (c : Nat) (v : Value) (W : World), Q path t → μ s + t.cnt ≤ M → path.length + n ≤ 1100000 → I s W → PathR W B Bw v path → LiesN W (fun b => b < B) a t.sub → t.sub.length ≤ c → Bw ≤ W.heap.size →
    Calls Tryz.prog 37 #[nodeV t a c, v, .func (.func 85) #[] #[.pointer (some ⟨g0, 0, none⟩), .pointer (some ⟨g1, 0, none⟩)]] W fun e w' => e = .returned (.bool (wkT st s path t).1) ∧ ((wkT st s path t).1 = true → I (wkT st s path t).2 w') ∧ ((wkT st s path t).1 = false → J (wkT st s path t).2 w') ∧ WFr B Bw v W w' ∧ PathR w' B Bw v path
 | 0, t, h => absurd h.pos (Nat.lt_irrefl _)
 | n + 1, t, hdp => fun hsm s path a c v W hq hm hlen hi hp hl hcap hbw => by
  obtain ⟨iv, hvi, hv0, hv1, hv2⟩ := info_parts Tryz.infoN
  have HL : Hid (LiesN W (fun b => b < B) a t.sub) := hl
  have hsl := hsm.len
  have HP : Hid (PathR W B Bw v path) := hp
  have HI : Hid (I s W) := hi
  obtain ⟨va, vc, rfl⟩ := hp.shape
  have HIH : Hid (∀ j (hj : j < t.sub.length) (s : S) (path : List Tr) (a : Option Addr) (c : Nat) (v : Value) (W : World), Q path t.sub[j] → μ s + t.sub[j].cnt ≤ M → path.length + n ≤ 1100000 → I s W → PathR W B Bw v path → LiesN W (fun b => b < B) a t.sub[j].sub → t.sub[j].sub.length ≤ c → Bw ≤ W.heap.size → Calls Tryz.prog 37 #[nodeV t.sub[j] a c, v, .func (.func 85) #[] #[.pointer (some ⟨g0, 0, none⟩), .pointer (some ⟨g1, 0, none⟩)]] W fun e w' => e = .returned (.bool (wkT st s path t.sub[j]).1) ∧ ((wkT st s path t.sub[j]).1 = true → I (wkT st s path t.sub[j]).2 w') ∧ ((wkT st s path t.sub[j]).1 = false → J (wkT st s path t.sub[j]).2 w') ∧ WFr B Bw v W w' ∧ PathR w' B Bw v path) := fun j hj => wkY_any st I J Q μ M g0 g1 B Bw hBw hI hQ hμ HV n t.sub[j] (hdp.at_ j hj) (hsm.at_ j hj)
  have HEq := wkT_eq st s path t
  obtain ⟨b1, s1, hst⟩ : ∃ b1 s1, st s path t = (b1, s1) := ⟨_, _, rfl⟩
  rw [hst] at HEq
  have hw1 := wk_box hBw hI t a c hi hp hl hbw
  have hcnt := t.cnt_eq
  have HQ : Hid (∀ j (hj : j < t.sub.length), Q (path ++ [t]) t.sub[j]) := hQ path t hq
  have HC := HV.out s path t a c (.slice va path.length vc) _ hq (by omega) hw1.1 hw1.2.1 hw1.2.2.1 hcap hsm hw1.2.2.2
  rw [hst] at HC
  have HC : Hid _ := HC
  have HEq : Hid _ := HEq
  have hm1 : μ s1 + cntL t.sub ≤ M := by have h := hμ s path t; rw [hst] at h; simp only at h; omega
  have HM : Hid (μ s1 + cntL t.sub ≤ M) := hm1
  have hst : Hid _ := hst
  clear hm1 hcnt hm hq
  clear hl hsm hp hi hw1
  unfold nodeV
  go_enter Tryz.func37, Tryz.ntmps37
  go_wp2_with fail
  refine Calls.mono HC.out ?_
  clear HC
  rintro e w1 ⟨rfl, hiT, hiF, hf1⟩
  have HJ : Hid _ := hiF
  have HT : Hid _ := hiT
  have HF1 : Hid (VFr B Bw W w1) := ((VFr.refl B Bw W).alloc (by omega) _).trans hf1
  have HB1 : Hid (w1.heap[W.heap.size]? = some (.cells #[.int .i64 t.id, .string t.nm, .int .i64 t.rep, .int .i64 t.kind, .slice a t.sub.length c] 24 (0, 0))) := (hf1.rows W.heap.size hbw (by simp) ⟨_, _, heap_alloc_new W _⟩).trans (heap_alloc_new W _)
  clear hiT hiF hf1
  obtain ⟨⟨p0, p1, p2, p3, p4⟩, _⟩ := row_five HB1.out
  cases b1 with
  | false =>
   have HE2 : Hid (wkT st s path t = (false, s1)) := (by show _ = _; simpa using HEq.out)
   go_wp2
   go_ret
   rw [HE2.out]
   exact ⟨rfl, fun h => by simp at h, fun _ => HJ.out (by simp), ⟨HF1.out.below, fun k h1 h2 h3 _ => HF1.out.rows k h1 h2 h3⟩, HP.out.vfr HF1.out⟩
  | true =>
   have HE2 : Hid (wkT st s path t = wkL st s1 (path ++ [t]) t.sub) := (by show _ = _; simpa using HEq.out)
   obtain ⟨ncs, hn1, hn2, hn3, hn4⟩ := HP.out.vfr HF1.out
   have HN4 : Hid _ := hn4
   have HN2 : Hid _ := hn2
   have HN1 : Hid _ := hn1
   have HR : Hid (w1.ownsRow Bw 24 5 (.slice va path.length vc) path.length ncs.flatten) := hn3
   clear hn1 hn2 hn3 hn4
   have hs1 := HF1.out.below.size
   go_wp2_with (at_builtin; refine wpList_append_kept _ rfl _ _ 22 rfl Bw 24 iv (.agg #[.int .i64 0, .string ⟨#[]⟩, .int .i64 0, .int .i64 0, .slice none 0 0]) 5 64 Tryz.underlying22 hvi hv0 hv1 hv2 rfl (by decide) _ path.length ncs.flatten rfl (HR.out.alloc _) ⟨w1.heap.size, 0, none⟩ 1 1 [.int .i64 t.id, .string t.nm, .int .i64 t.rep, .int .i64 t.kind, .slice a t.sub.length c] rfl rfl five_cells (by intro u hu; simp at hu; rcases hu with rfl | rfl | rfl | rfl | rfl <;> rfl) (by unfold maxLen; omega) (by omega) (by simp; omega) (by decide) ?_; intro v2 w2 hown2 hgrow2 hwh2; have HW : Hid (WP B Bw W t a c (.slice va path.length vc) path I s1 w2 v2) := WP.start hBw hI hbw HF1.out HB1.out HR.out HN1.out HN2.out HN4.out (HT.out (by simp)) hcap HL.out (fun k hk => (HP.out.block hk).2.1) hown2 hgrow2 hwh2; clear hown2 hgrow2 hwh2 p0 p1 p2 p3 p4; obtain ⟨a2, c2, e2⟩ := HW.out.row.shape; rw [show (path ++ [t]).length = path.length + 1 by simp] at e2; subst e2; obtain ⟨⟨p0, p1, p2, p3, p4⟩, _⟩ := row_five HW.out.box)
   clear HR HN1 HN2 HN4 HT HF1 HB1
   have hlen2 : (path ++ [t]).length + n ≤ 1100000 := by simp; omega
   have HS : Hid (wkL st s1 (path ++ [t]) (t.sub.take 0) = (true, s1)) := by
    show _ = _
    rw [List.take_zero, wkL]
   go_loopw [21] (fun x wr => ∃ (i : Nat) (s' : S), i ≤ t.sub.length ∧ x = .int .i64 i ∧ Hid (μ s' + cntL (t.sub.drop i) ≤ M) ∧ Hid (wkL st s1 (path ++ [t]) (t.sub.take i) = (true, s')) ∧ Hid (WP B Bw W t a c (.slice va path.length vc) path I s' wr (.slice a2 (path.length + 1) c2))) (fun x _ => t.sub.length - (intOf x).toNat)
   case atStart => exact ⟨0, s1, Nat.zero_le _, rfl, HM, HS, HW⟩
   case round =>
    clear HS HW p0 p1 p2 p3 p4
    obtain ⟨i, s', hik, rfl, HMi, HS, HW⟩ := hrel
    obtain ⟨⟨p0, p1, p2, p3, p4⟩, _⟩ := row_five HW.out.box
    by_cases hlt : i < t.sub.length
    · have HLr : Hid (LiesN wr (fun b => b < B) a t.sub) := HL.out.stay (fun _ h _ => h) (fun b h _ => HW.out.fr.below.block b h)
      obtain ⟨b, o, a1, c1, rfl, d0, d1, d2, d3, d4, hl1, hc1⟩ := HLr.out.at2 i hlt
      have HWA : Hid _ := HW.out.alloc hBw hI hbw (.cells #[.int .i64 t.sub[i].id, .string t.sub[i].nm, .int .i64 t.sub[i].rep, .int .i64 t.sub[i].kind, .slice a1 t.sub[i].sub.length c1] 24)
      obtain ⟨b3, s3, hr3⟩ : ∃ b3 s3, wkT st s' (path ++ [t]) t.sub[i] = (b3, s3) := ⟨_, _, rfl⟩
      have hmi := HMi.out
      rw [cntL_drop t.sub i hlt] at hmi
      have hmr := wkT_more st μ hμ t.sub[i] s' (path ++ [t])
      rw [hr3] at hmr
      simp only at hmr
      have HM3 : Hid (μ s3 + cntL (t.sub.drop (i + 1)) ≤ M) := (by show _ ≤ _; omega)
      have HC := HIH.out i hlt s' (path ++ [t]) a1 c1 (.slice a2 (path.length + 1) c2) _ (HQ.out i hlt) (by omega) hlen2 HWA.out.inv HWA.out.row (hl1.keep ((Below.refl _ _).alloc (Nat.le_refl _) _)) hc1 (by have := HW.out.fr.below.size; simp; omega)
      rw [hr3] at HC
      have HC : Hid _ := HC
      have HS3 : Hid (wkL st s1 (path ++ [t]) (t.sub.take (i + 1)) = (b3, s3)) := (wkL_take st s1 (path ++ [t]) t.sub i hlt s' HS.out).trans hr3
      clear hr3 hl1 hc1 hmi hmr
      go_wp2_with fail
      refine Calls.mono HC.out ?_
      clear HC
      rintro e w3 ⟨rfl, hT, hF, hfr, hpr⟩
      have HF : Hid _ := hF
      have HT : Hid _ := hT
      have HFr : Hid _ := hfr
      have HPr : Hid _ := hpr
      clear hT hF hfr hpr
      cases b3 with
      | true =>
       have HW3 : Hid _ := HWA.out.next hbw HFr.out HPr.out (HT.out (by simp))
       go_wp2
       go_roundw
       case rel => exact ⟨i + 1, s3, by omega, by go_num, HM3, HS3, HW3⟩
       case measure => simp [intOf]; omega
      | false =>
       have HEnd : Hid (wkT st s path t = (false, s3)) := (HE2.out.trans (wkL_stop st s1 (path ++ [t]) t.sub (i + 1) (by rw [HS3.out]))).trans HS3.out
       have HWl : Hid (WP B Bw W t (some ⟨b, o, none⟩) c (.slice va path.length vc) path (fun _ _ => True) s3 w3 (.slice a2 (path.length + 1) c2)) := WP.next (s := s') hbw (HWA.out.weak) HFr.out HPr.out trivial
       go_wp2
       go_ret
       rw [HEnd.out]
       exact ⟨rfl, fun h => by simp at h, fun _ => HF.out (by simp), HWl.out.fr, HWl.out.old⟩
    · obtain rfl : i = t.sub.length := by omega
      go_wp2
      go_ret
      have HS2 := HS.out
      rw [List.take_length] at HS2
      rw [HE2.out, HS2]
      exact ⟨rfl, fun _ => HW.out.inv, fun h => by simp at h, HW.out.fr, HW.out.old⟩
set_option maxRecDepth 100000 in
set_option maxHeartbeats 1600000 in
theorem wkB_any {S : Type} (st : S → List Tr → Tr → Bool × S) (I J : S → World → Prop) (Q : List Tr → Tr → Prop) (μ : S → Nat) (M : Nat) (g0 : Nat) (B Bw : Nat) (hBw : B ≤ Bw)
    (hI : ∀ s W w' r, I s W → W.grownBy w' r → (∀ k, r = some k → Bw ≤ k ∧ IsNB W k) → I s w')
    (hQ : ∀ path t, Q path t → ∀ j (hj : j < t.sub.length), Q (path ++ [t]) t.sub[j]) (hμ : ∀ s path t, μ (st s path t).2 ≤ μ s + 1)
    (HV : Hid (∀ s path t a c v W, Q path t → μ s + 1 ≤ M → I s W → PathR W B Bw v path → LiesN W (fun b => b < B) a t.sub → t.sub.length ≤ c → t.Sm → Bw ≤ W.heap.size → Calls Tryz.prog 94 #[nodeV t a c, v, .pointer (some ⟨g0, 0, none⟩)] W fun e w' => e = .returned (.bool (st s path t).1) ∧ ((st s path t).1 = true → I (st s path t).2 w') ∧ ((st s path t).1 = false → J (st s path t).2 w') ∧ VFr B Bw W w')) :
    ∀ (n : Nat) (t : Tr), Tr.Dp n t → t.Sm → ∀ (s : S) (path : List Tr) (a : Option Addr) (c : Nat) (v : Value) (W : World), Q path t → μ s + t.cnt ≤ M → path.length + n ≤ 1100000 → I s W → PathR W B Bw v path → LiesN W (fun b => b < B) a t.sub → t.sub.length ≤ c → Bw ≤ W.heap.size →
    Calls Tryz.prog 37 #[nodeV t a c, v, .func (.func 94) #[] #[.pointer (some ⟨g0, 0, none⟩)]] W fun e w' => e = .returned (.bool (wkT st s path t).1) ∧ ((wkT st s path t).1 = true → I (wkT st s path t).2 w') ∧ ((wkT st s path t).1 = false → J (wkT st s path t).2 w') ∧ WFr B Bw v W w' ∧ PathR w' B Bw v path
 | 0, t, h => absurd h.pos (Nat.lt_irrefl _)
 | n + 1, t, hdp => fun hsm s path a c v W hq hm hlen hi hp hl hcap hbw => by
  obtain ⟨iv, hvi, hv0, hv1, hv2⟩ := info_parts Tryz.infoN
  have HL : Hid (LiesN W (fun b => b < B) a t.sub) := hl
  have hsl := hsm.len
  have HP : Hid (PathR W B Bw v path) := hp
  have HI : Hid (I s W) := hi
  obtain ⟨va, vc, rfl⟩ := hp.shape
  have HIH : Hid (∀ j (hj : j < t.sub.length) (s : S) (path : List Tr) (a : Option Addr) (c : Nat) (v : Value) (W : World), Q path t.sub[j] → μ s + t.sub[j].cnt ≤ M → path.length + n ≤ 1100000 → I s W → PathR W B Bw v path → LiesN W (fun b => b < B) a t.sub[j].sub → t.sub[j].sub.length ≤ c → Bw ≤ W.heap.size → Calls Tryz.prog 37 #[nodeV t.sub[j] a c, v, .func (.func 94) #[] #[.pointer (some ⟨g0, 0, none⟩)]] W fun e w' => e = .returned (.bool (wkT st s path t.sub[j]).1) ∧ ((wkT st s path t.sub[j]).1 = true → I (wkT st s path t.sub[j]).2 w') ∧ ((wkT st s path t.sub[j]).1 = false → J (wkT st s path t.sub[j]).2 w') ∧ WFr B Bw v W w' ∧ PathR w' B Bw v path) := fun j hj => wkB_any st I J Q μ M g0 B Bw hBw hI hQ hμ HV n t.sub[j] (hdp.at_ j hj) (hsm.at_ j hj)
  have HEq := wkT_eq st s path t
  obtain ⟨b1, s1, hst⟩ : ∃ b1 s1, st s path t = (b1, s1) := ⟨_, _, rfl⟩
  rw [hst] at HEq
  have hw1 := wk_box hBw hI t a c hi hp hl hbw
  have hcnt := t.cnt_eq
  have HQ : Hid (∀ j (hj : j < t.sub.length), Q (path ++ [t]) t.sub[j]) := hQ path t hq
  have HC := HV.out s path t a c (.slice va path.length vc) _ hq (by omega) hw1.1 hw1.2.1 hw1.2.2.1 hcap hsm hw1.2.2.2
  rw [hst] at HC
  have HC : Hid _ := HC
  have HEq : Hid _ := HEq
  have hm1 : μ s1 + cntL t.sub ≤ M := by have h := hμ s path t; rw [hst] at h; simp only at h; omega
  have HM : Hid (μ s1 + cntL t.sub ≤ M) := hm1
  have hst : Hid _ := hst
  clear hm1 hcnt hm hq
  clear hl hsm hp hi hw1
  unfold nodeV
  go_enter Tryz.func37, Tryz.ntmps37
  go_wp2_with fail
  refine Calls.mono HC.out ?_
  clear HC
  rintro e w1 ⟨rfl, hiT, hiF, hf1⟩
  have HJ : Hid _ := hiF
  have HT : Hid _ := hiT
  have HF1 : Hid (VFr B Bw W w1) := ((VFr.refl B Bw W).alloc (by omega) _).trans hf1
  have HB1 : Hid (w1.heap[W.heap.size]? = some (.cells #[.int .i64 t.id, .string t.nm, .int .i64 t.rep, .int .i64 t.kind, .slice a t.sub.length c] 24 (0, 0))) := (hf1.rows W.heap.size hbw (by simp) ⟨_, _, heap_alloc_new W _⟩).trans (heap_alloc_new W _)
  clear hiT hiF hf1
  obtain ⟨⟨p0, p1, p2, p3, p4⟩, _⟩ := row_five HB1.out
  cases b1 with
  | false =>
   have HE2 : Hid (wkT st s path t = (false, s1)) := (by show _ = _; simpa using HEq.out)
   go_wp2
   go_ret
   rw [HE2.out]
   exact ⟨rfl, fun h => by simp at h, fun _ => HJ.out (by simp), ⟨HF1.out.below, fun k h1 h2 h3 _ => HF1.out.rows k h1 h2 h3⟩, HP.out.vfr HF1.out⟩
  | true =>
   have HE2 : Hid (wkT st s path t = wkL st s1 (path ++ [t]) t.sub) := (by show _ = _; simpa using HEq.out)
   obtain ⟨ncs, hn1, hn2, hn3, hn4⟩ := HP.out.vfr HF1.out
   have HN4 : Hid _ := hn4
   have HN2 : Hid _ := hn2
   have HN1 : Hid _ := hn1
   have HR : Hid (w1.ownsRow Bw 24 5 (.slice va path.length vc) path.length ncs.flatten) := hn3
   clear hn1 hn2 hn3 hn4
   have hs1 := HF1.out.below.size
   go_wp2_with (at_builtin; refine wpList_append_kept _ rfl _ _ 22 rfl Bw 24 iv (.agg #[.int .i64 0, .string ⟨#[]⟩, .int .i64 0, .int .i64 0, .slice none 0 0]) 5 64 Tryz.underlying22 hvi hv0 hv1 hv2 rfl (by decide) _ path.length ncs.flatten rfl (HR.out.alloc _) ⟨w1.heap.size, 0, none⟩ 1 1 [.int .i64 t.id, .string t.nm, .int .i64 t.rep, .int .i64 t.kind, .slice a t.sub.length c] rfl rfl five_cells (by intro u hu; simp at hu; rcases hu with rfl | rfl | rfl | rfl | rfl <;> rfl) (by unfold maxLen; omega) (by omega) (by simp; omega) (by decide) ?_; intro v2 w2 hown2 hgrow2 hwh2; have HW : Hid (WP B Bw W t a c (.slice va path.length vc) path I s1 w2 v2) := WP.start hBw hI hbw HF1.out HB1.out HR.out HN1.out HN2.out HN4.out (HT.out (by simp)) hcap HL.out (fun k hk => (HP.out.block hk).2.1) hown2 hgrow2 hwh2; clear hown2 hgrow2 hwh2 p0 p1 p2 p3 p4; obtain ⟨a2, c2, e2⟩ := HW.out.row.shape; rw [show (path ++ [t]).length = path.length + 1 by simp] at e2; subst e2; obtain ⟨⟨p0, p1, p2, p3, p4⟩, _⟩ := row_five HW.out.box)
   clear HR HN1 HN2 HN4 HT HF1 HB1
   have hlen2 : (path ++ [t]).length + n ≤ 1100000 := by simp; omega
   have HS : Hid (wkL st s1 (path ++ [t]) (t.sub.take 0) = (true, s1)) := by
    show _ = _
    rw [List.take_zero, wkL]
   go_loopw [21] (fun x wr => ∃ (i : Nat) (s' : S), i ≤ t.sub.length ∧ x = .int .i64 i ∧ Hid (μ s' + cntL (t.sub.drop i) ≤ M) ∧ Hid (wkL st s1 (path ++ [t]) (t.sub.take i) = (true, s')) ∧ Hid (WP B Bw W t a c (.slice va path.length vc) path I s' wr (.slice a2 (path.length + 1) c2))) (fun x _ => t.sub.length - (intOf x).toNat)
   case atStart => exact ⟨0, s1, Nat.zero_le _, rfl, HM, HS, HW⟩
   case round =>
    clear HS HW p0 p1 p2 p3 p4
    obtain ⟨i, s', hik, rfl, HMi, HS, HW⟩ := hrel
    obtain ⟨⟨p0, p1, p2, p3, p4⟩, _⟩ := row_five HW.out.box
    by_cases hlt : i < t.sub.length
    · have HLr : Hid (LiesN wr (fun b => b < B) a t.sub) := HL.out.stay (fun _ h _ => h) (fun b h _ => HW.out.fr.below.block b h)
      obtain ⟨b, o, a1, c1, rfl, d0, d1, d2, d3, d4, hl1, hc1⟩ := HLr.out.at2 i hlt
      have HWA : Hid _ := HW.out.alloc hBw hI hbw (.cells #[.int .i64 t.sub[i].id, .string t.sub[i].nm, .int .i64 t.sub[i].rep, .int .i64 t.sub[i].kind, .slice a1 t.sub[i].sub.length c1] 24)
      obtain ⟨b3, s3, hr3⟩ : ∃ b3 s3, wkT st s' (path ++ [t]) t.sub[i] = (b3, s3) := ⟨_, _, rfl⟩
      have hmi := HMi.out
      rw [cntL_drop t.sub i hlt] at hmi
      have hmr := wkT_more st μ hμ t.sub[i] s' (path ++ [t])
      rw [hr3] at hmr
      simp only at hmr
      have HM3 : Hid (μ s3 + cntL (t.sub.drop (i + 1)) ≤ M) := (by show _ ≤ _; omega)
      have HC := HIH.out i hlt s' (path ++ [t]) a1 c1 (.slice a2 (path.length + 1) c2) _ (HQ.out i hlt) (by omega) hlen2 HWA.out.inv HWA.out.row (hl1.keep ((Below.refl _ _).alloc (Nat.le_refl _) _)) hc1 (by have := HW.out.fr.below.size; simp; omega)
      rw [hr3] at HC
      have HC : Hid _ := HC
      have HS3 : Hid (wkL st s1 (path ++ [t]) (t.sub.take (i + 1)) = (b3, s3)) := (wkL_take st s1 (path ++ [t]) t.sub i hlt s' HS.out).trans hr3
      clear hr3 hl1 hc1 hmi hmr
      go_wp2_with fail
      refine Calls.mono HC.out ?_
      clear HC
      rintro e w3 ⟨rfl, hT, hF, hfr, hpr⟩
      have HF : Hid _ := hF
      have HT : Hid _ := hT
      have HFr : Hid _ := hfr
      have HPr : Hid _ := hpr
      clear hT hF hfr hpr
      cases b3 with
      | true =>
       have HW3 : Hid _ := HWA.out.next hbw HFr.out HPr.out (HT.out (by simp))
       go_wp2
       go_roundw
       case rel => exact ⟨i + 1, s3, by omega, by go_num, HM3, HS3, HW3⟩
       case measure => simp [intOf]; omega
      | false =>
       have HEnd : Hid (wkT st s path t = (false, s3)) := (HE2.out.trans (wkL_stop st s1 (path ++ [t]) t.sub (i + 1) (by rw [HS3.out]))).trans HS3.out
       have HWl : Hid (WP B Bw W t (some ⟨b, o, none⟩) c (.slice va path.length vc) path (fun _ _ => True) s3 w3 (.slice a2 (path.length + 1) c2)) := WP.next (s := s') hbw (HWA.out.weak) HFr.out HPr.out trivial
       go_wp2
       go_ret
       rw [HEnd.out]
       exact ⟨rfl, fun h => by simp at h, fun _ => HF.out (by simp), HWl.out.fr, HWl.out.old⟩
    · obtain rfl : i = t.sub.length := by omega
      go_wp2
      go_ret
      have HS2 := HS.out
      rw [List.take_length] at HS2
      rw [HE2.out, HS2]
      exact ⟨rfl, fun _ => HW.out.inv, fun h => by simp at h, HW.out.fr, HW.out.old⟩
set_option maxRecDepth 100000 in
set_option maxHeartbeats 1600000 in
theorem wkL_any {S : Type} (st : S → List Tr → Tr → Bool × S) (I J : S → World → Prop) (Q : List Tr → Tr → Prop) (μ : S → Nat) (M : Nat) (g0 : Nat) (B Bw : Nat) (hBw : B ≤ Bw)
    (hI : ∀ s W w' r, I s W → W.grownBy w' r → (∀ k, r = some k → Bw ≤ k ∧ IsNB W k) → I s w')
    (hQ : ∀ path t, Q path t → ∀ j (hj : j < t.sub.length), Q (path ++ [t]) t.sub[j]) (hμ : ∀ s path t, μ (st s path t).2 ≤ μ s + 1)
    (HV : Hid (∀ s path t a c v W, Q path t → μ s + 1 ≤ M → I s W → PathR W B Bw v path → LiesN W (fun b => b < B) a t.sub → t.sub.length ≤ c → t.Sm → Bw ≤ W.heap.size → Calls Tryz.prog 38 #[nodeV t a c, v, .pointer (some ⟨g0, 0, none⟩)] W fun e w' => e = .returned (.bool (st s path t).1) ∧ ((st s path t).1 = true → I (st s path t).2 w') ∧ ((st s path t).1 = false → J (st s path t).2 w') ∧ VFr B Bw W w')) :
    ∀ (n : Nat) (t : Tr), Tr.Dp n t → t.Sm → ∀ (s : S) (path : List Tr) (a : Option Addr) (c : Nat) (v : Value) (W : World), Q path t → μ s + t.cnt ≤ M → path.length + n ≤ 1100000 → I s W → PathR W B Bw v path → LiesN W (fun b => b < B) a t.sub → t.sub.length ≤ c → Bw ≤ W.heap.size →
    Calls Tryz.prog 37 #[nodeV t a c, v, .func (.func 38) #[] #[.pointer (some ⟨g0, 0, none⟩)]] W fun e w' => e = .returned (.bool (wkT st s path t).1) ∧ ((wkT st s path t).1 = true → I (wkT st s path t).2 w') ∧ ((wkT st s path t).1 = false → J (wkT st s path t).2 w') ∧ WFr B Bw v W w' ∧ PathR w' B Bw v path
 | 0, t, h => absurd h.pos (Nat.lt_irrefl _)
 | n + 1, t, hdp => fun hsm s path a c v W hq hm hlen hi hp hl hcap hbw => by
  obtain ⟨iv, hvi, hv0, hv1, hv2⟩ := info_parts Tryz.infoN
  have HL : Hid (LiesN W (fun b => b < B) a t.sub) := hl
  have hsl := hsm.len
  have HP : Hid (PathR W B Bw v path) := hp
  have HI : Hid (I s W) := hi
  obtain ⟨va, vc, rfl⟩ := hp.shape
  have HIH : Hid (∀ j (hj : j < t.sub.length) (s : S) (path : List Tr) (a : Option Addr) (c : Nat) (v : Value) (W : World), Q path t.sub[j] → μ s + t.sub[j].cnt ≤ M → path.length + n ≤ 1100000 → I s W → PathR W B Bw v path → LiesN W (fun b => b < B) a t.sub[j].sub → t.sub[j].sub.length ≤ c → Bw ≤ W.heap.size → Calls Tryz.prog 37 #[nodeV t.sub[j] a c, v, .func (.func 38) #[] #[.pointer (some ⟨g0, 0, none⟩)]] W fun e w' => e = .returned (.bool (wkT st s path t.sub[j]).1) ∧ ((wkT st s path t.sub[j]).1 = true → I (wkT st s path t.sub[j]).2 w') ∧ ((wkT st s path t.sub[j]).1 = false → J (wkT st s path t.sub[j]).2 w') ∧ WFr B Bw v W w' ∧ PathR w' B Bw v path) := fun j hj => wkL_any st I J Q μ M g0 B Bw hBw hI hQ hμ HV n t.sub[j] (hdp.at_ j hj) (hsm.at_ j hj)
  have HEq := wkT_eq st s path t
  obtain ⟨b1, s1, hst⟩ : ∃ b1 s1, st s path t = (b1, s1) := ⟨_, _, rfl⟩
  rw [hst] at HEq
  have hw1 := wk_box hBw hI t a c hi hp hl hbw
  have hcnt := t.cnt_eq
  have HQ : Hid (∀ j (hj : j < t.sub.length), Q (path ++ [t]) t.sub[j]) := hQ path t hq
  have HC := HV.out s path t a c (.slice va path.length vc) _ hq (by omega) hw1.1 hw1.2.1 hw1.2.2.1 hcap hsm hw1.2.2.2
  rw [hst] at HC
  have HC : Hid _ := HC
  have HEq : Hid _ := HEq
  have hm1 : μ s1 + cntL t.sub ≤ M := by have h := hμ s path t; rw [hst] at h; simp only at h; omega
  have HM : Hid (μ s1 + cntL t.sub ≤ M) := hm1
  have hst : Hid _ := hst
  clear hm1 hcnt hm hq
  clear hl hsm hp hi hw1
  unfold nodeV
  go_enter Tryz.func37, Tryz.ntmps37
  go_wp2_with fail
  refine Calls.mono HC.out ?_
  clear HC
  rintro e w1 ⟨rfl, hiT, hiF, hf1⟩
  have HJ : Hid _ := hiF
  have HT : Hid _ := hiT
  have HF1 : Hid (VFr B Bw W w1) := ((VFr.refl B Bw W).alloc (by omega) _).trans hf1
  have HB1 : Hid (w1.heap[W.heap.size]? = some (.cells #[.int .i64 t.id, .string t.nm, .int .i64 t.rep, .int .i64 t.kind, .slice a t.sub.length c] 24 (0, 0))) := (hf1.rows W.heap.size hbw (by simp) ⟨_, _, heap_alloc_new W _⟩).trans (heap_alloc_new W _)
  clear hiT hiF hf1
  obtain ⟨⟨p0, p1, p2, p3, p4⟩, _⟩ := row_five HB1.out
  cases b1 with
  | false =>
   have HE2 : Hid (wkT st s path t = (false, s1)) := (by show _ = _; simpa using HEq.out)
   go_wp2
   go_ret
   rw [HE2.out]
   exact ⟨rfl, fun h => by simp at h, fun _ => HJ.out (by simp), ⟨HF1.out.below, fun k h1 h2 h3 _ => HF1.out.rows k h1 h2 h3⟩, HP.out.vfr HF1.out⟩
  | true =>
   have HE2 : Hid (wkT st s path t = wkL st s1 (path ++ [t]) t.sub) := (by show _ = _; simpa using HEq.out)
   obtain ⟨ncs, hn1, hn2, hn3, hn4⟩ := HP.out.vfr HF1.out
   have HN4 : Hid _ := hn4
   have HN2 : Hid _ := hn2
   have HN1 : Hid _ := hn1
   have HR : Hid (w1.ownsRow Bw 24 5 (.slice va path.length vc) path.length ncs.flatten) := hn3
   clear hn1 hn2 hn3 hn4
   have hs1 := HF1.out.below.size
   go_wp2_with (at_builtin; refine wpList_append_kept _ rfl _ _ 22 rfl Bw 24 iv (.agg #[.int .i64 0, .string ⟨#[]⟩, .int .i64 0, .int .i64 0, .slice none 0 0]) 5 64 Tryz.underlying22 hvi hv0 hv1 hv2 rfl (by decide) _ path.length ncs.flatten rfl (HR.out.alloc _) ⟨w1.heap.size, 0, none⟩ 1 1 [.int .i64 t.id, .string t.nm, .int .i64 t.rep, .int .i64 t.kind, .slice a t.sub.length c] rfl rfl five_cells (by intro u hu; simp at hu; rcases hu with rfl | rfl | rfl | rfl | rfl <;> rfl) (by unfold maxLen; omega) (by omega) (by simp; omega) (by decide) ?_; intro v2 w2 hown2 hgrow2 hwh2; have HW : Hid (WP B Bw W t a c (.slice va path.length vc) path I s1 w2 v2) := WP.start hBw hI hbw HF1.out HB1.out HR.out HN1.out HN2.out HN4.out (HT.out (by simp)) hcap HL.out (fun k hk => (HP.out.block hk).2.1) hown2 hgrow2 hwh2; clear hown2 hgrow2 hwh2 p0 p1 p2 p3 p4; obtain ⟨a2, c2, e2⟩ := HW.out.row.shape; rw [show (path ++ [t]).length = path.length + 1 by simp] at e2; subst e2; obtain ⟨⟨p0, p1, p2, p3, p4⟩, _⟩ := row_five HW.out.box)
   clear HR HN1 HN2 HN4 HT HF1 HB1
   have hlen2 : (path ++ [t]).length + n ≤ 1100000 := by simp; omega
   have HS : Hid (wkL st s1 (path ++ [t]) (t.sub.take 0) = (true, s1)) := by
    show _ = _
    rw [List.take_zero, wkL]
   go_loopw [21] (fun x wr => ∃ (i : Nat) (s' : S), i ≤ t.sub.length ∧ x = .int .i64 i ∧ Hid (μ s' + cntL (t.sub.drop i) ≤ M) ∧ Hid (wkL st s1 (path ++ [t]) (t.sub.take i) = (true, s')) ∧ Hid (WP B Bw W t a c (.slice va path.length vc) path I s' wr (.slice a2 (path.length + 1) c2))) (fun x _ => t.sub.length - (intOf x).toNat)
   case atStart => exact ⟨0, s1, Nat.zero_le _, rfl, HM, HS, HW⟩
   case round =>
    clear HS HW p0 p1 p2 p3 p4
    obtain ⟨i, s', hik, rfl, HMi, HS, HW⟩ := hrel
    obtain ⟨⟨p0, p1, p2, p3, p4⟩, _⟩ := row_five HW.out.box
    by_cases hlt : i < t.sub.length
    · have HLr : Hid (LiesN wr (fun b => b < B) a t.sub) := HL.out.stay (fun _ h _ => h) (fun b h _ => HW.out.fr.below.block b h)
      obtain ⟨b, o, a1, c1, rfl, d0, d1, d2, d3, d4, hl1, hc1⟩ := HLr.out.at2 i hlt
      have HWA : Hid _ := HW.out.alloc hBw hI hbw (.cells #[.int .i64 t.sub[i].id, .string t.sub[i].nm, .int .i64 t.sub[i].rep, .int .i64 t.sub[i].kind, .slice a1 t.sub[i].sub.length c1] 24)
      obtain ⟨b3, s3, hr3⟩ : ∃ b3 s3, wkT st s' (path ++ [t]) t.sub[i] = (b3, s3) := ⟨_, _, rfl⟩
      have hmi := HMi.out
      rw [cntL_drop t.sub i hlt] at hmi
      have hmr := wkT_more st μ hμ t.sub[i] s' (path ++ [t])
      rw [hr3] at hmr
      simp only at hmr
      have HM3 : Hid (μ s3 + cntL (t.sub.drop (i + 1)) ≤ M) := (by show _ ≤ _; omega)
      have HC := HIH.out i hlt s' (path ++ [t]) a1 c1 (.slice a2 (path.length + 1) c2) _ (HQ.out i hlt) (by omega) hlen2 HWA.out.inv HWA.out.row (hl1.keep ((Below.refl _ _).alloc (Nat.le_refl _) _)) hc1 (by have := HW.out.fr.below.size; simp; omega)
      rw [hr3] at HC
      have HC : Hid _ := HC
      have HS3 : Hid (wkL st s1 (path ++ [t]) (t.sub.take (i + 1)) = (b3, s3)) := (wkL_take st s1 (path ++ [t]) t.sub i hlt s' HS.out).trans hr3
      clear hr3 hl1 hc1 hmi hmr
      go_wp2_with fail
      refine Calls.mono HC.out ?_
      clear HC
      rintro e w3 ⟨rfl, hT, hF, hfr, hpr⟩
      have HF : Hid _ := hF
      have HT : Hid _ := hT
      have HFr : Hid _ := hfr
      have HPr : Hid _ := hpr
      clear hT hF hfr hpr
      cases b3 with
      | true =>
       have HW3 : Hid _ := HWA.out.next hbw HFr.out HPr.out (HT.out (by simp))
       go_wp2
       go_roundw
       case rel => exact ⟨i + 1, s3, by omega, by go_num, HM3, HS3, HW3⟩
       case measure => simp [intOf]; omega
      | false =>
       have HEnd : Hid (wkT st s path t = (false, s3)) := (HE2.out.trans (wkL_stop st s1 (path ++ [t]) t.sub (i + 1) (by rw [HS3.out]))).trans HS3.out
       have HWl : Hid (WP B Bw W t (some ⟨b, o, none⟩) c (.slice va path.length vc) path (fun _ _ => True) s3 w3 (.slice a2 (path.length + 1) c2)) := WP.next (s := s') hbw (HWA.out.weak) HFr.out HPr.out trivial
       go_wp2
       go_ret
       rw [HEnd.out]
       exact ⟨rfl, fun h => by simp at h, fun _ => HF.out (by simp), HWl.out.fr, HWl.out.old⟩
    · obtain rfl : i = t.sub.length := by omega
      go_wp2
      go_ret
      have HS2 := HS.out
      rw [List.take_length] at HS2
      rw [HE2.out, HS2]
      exact ⟨rfl, fun _ => HW.out.inv, fun h => by simp at h, HW.out.fr, HW.out.old⟩
end Go.Proofs.YteonbmaokphleaaGreatDoor
