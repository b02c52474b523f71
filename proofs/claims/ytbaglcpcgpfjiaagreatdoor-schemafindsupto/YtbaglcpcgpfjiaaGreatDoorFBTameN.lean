/-
  The reference's Flat, and the law's tame: of which schemas something is said.
  The walk through a schema, with one visitor: it answers what the list's walk answers, if the visitor does.
-/
import Derived.Test.YtbaglcpcgpfjiaaGreatDoorFFlatN
import Derived.Test.YtbaglcpcgpfjiaaGreatDoorFBWalkT
namespace Go.Proofs.YtbaglcpcgpfjiaaGreatDoor
open Go.RowKit
/-- All nodes, the root first. -/
def fl (t : Tr) : List Pc := flT [] t 1 (-1)
theorem pnc_at : ∀ (ps : List Pn) (i k : Nat), k < 7 → (ps.flatMap pnc)[i * 7 + k]? = (ps[i]?).bind fun p => (pnc p)[k]?
  | [], i, k, _ => by simp
  | p :: ps, i, k, hk => by
    have hl : (pnc p).length = 7 := rfl
    rw [List.flatMap_cons]
    cases i with
    | zero => rw [List.getElem?_append_left (by omega)]; simp
    | succ i =>
      rw [List.getElem?_append_right (by omega), show (i + 1) * 7 + k - (pnc p).length = i * 7 + k by omega, pnc_at ps i k hk]
      simp
/-- What lies in a row of places. -/
theorem pn_cell {w : World} {B e : Nat} {a : Option Addr} {c : Nat} {ps : List Pn} (h : w.ownsRow B e 7 (.slice a ps.length c) ps.length (ps.flatMap pnc)) (i : Nat) (hi : i < ps.length) : ∃ g, a = some ⟨g, 0, none⟩ ∧ ∀ k u, k < 7 → (pnc ps[i])[k]? = some u → w.cell? ⟨g, i * 7 + k, none⟩ = some u := by
  rcases h.2 with ⟨_, h0⟩ | ⟨g, cap, cur, hv, _⟩
  · exact absurd hi (by omega)
  · have hv' := hv
    injection hv' with ha _ _
    refine ⟨g, ha, fun k u hk hu => ?_⟩
    have h1 := h.cells (g := g) (by rw [ha]; rfl) (i * 7 + k) u (by rw [pnc_at ps i k hk, List.getElem?_eq_getElem hi]; exact hu)
    rw [addr_plus, Nat.zero_add] at h1
    exact h1
/-- How many bytes the names are, together. -/
def nmS (l : List Pc) : Nat := (l.map fun p => p.t.nm.size).sum
theorem nmS_snoc (l : List Pc) (p : Pc) : nmS (l ++ [p]) = nmS l + p.t.nm.size := by simp [nmS]
theorem Tr.Sm.all {t : Tr} (h : t.Sm) : ∀ u ∈ t.sub, u.Sm := fun u hu => by
  obtain ⟨j, hj, rfl⟩ := List.getElem_of_mem hu
  exact h.at_ j hj
mutual
theorem flT_sm : ∀ (t : Tr) (acc : List Pc) (deep : Nat) (around : Int), t.Sm → (∀ p ∈ acc, p.t.Sm) → ∀ p ∈ flT acc t deep around, p.t.Sm
  | .node id nm rep kind sub, acc, deep, around, ht, h => by
    rw [flT]
    split
    · exact h
    · refine flL_sm sub _ _ _ (fun u hu => ht.all u hu) (fun p hp => ?_)
      rcases List.mem_append.1 hp with hp | hp
      · exact h p hp
      · rw [List.mem_singleton.1 hp]; exact ht
theorem flL_sm : ∀ (ts : List Tr) (acc : List Pc) (deep : Nat) (around : Int), (∀ u ∈ ts, u.Sm) → (∀ p ∈ acc, p.t.Sm) → ∀ p ∈ flL acc ts deep around, p.t.Sm
  | [], acc, deep, around, _, h => by rw [flL]; exact h
  | t :: ts, acc, deep, around, ht, h => by
    rw [flL]
    exact flL_sm ts _ _ _ (fun u hu => ht u (by simp [hu])) (flT_sm t _ _ _ (ht t (by simp)) h)
end
set_option maxRecDepth 100000 in
set_option maxHeartbeats 800000 in
theorem flatF_any (t : Tr) (hsm : t.Sm) (P : Nat → Prop) (a : Option Addr) (c : Nat) (W : World) (hl : LiesN W P a t.sub) :
    Calls Tryz.prog 17 #[nodeV t a c] W fun e w' => (∃ (ps : List Pn) (la : Option Addr) (lc : Nat), e = .returned (.slice la ps.length lc) ∧ ps.map Pn.core = fl t ∧ w'.ownsRow W.heap.size 49 7 (.slice la ps.length lc) ps.length (ps.flatMap pnc)) ∧ Below W.heap.size W w' := by
  have hb0 : ∀ ob : Obj, Below W.heap.size W (W.alloc ob) := fun ob => (Below.refl _ _).alloc (Nat.le_refl _) ob
  have HC : Hid (∀ ob : Obj, Calls Tryz.prog 30 #[.slice none 0 0, nodeV t a c, .int .i64 ((1 : Nat) : Int), .int .i64 (-1)] (W.alloc ob) fun e w' => RetFl (W.alloc ob).heap.size (W.alloc ob) (.slice none 0 0) (flT ([] : List Pc) t 1 (-1)) e w') := fun ob =>
    flat_any (W.alloc ob).heap.size (SizeOf.sizeOf t + 1) t (Nat.lt_succ_self _) hsm (.slice none 0 0) [] 1 (-1) a c (W.alloc ob) ((hl.keep (hb0 ob)).stay (fun _ _ h => h) (fun _ _ _ => rfl)) (World.ownsRow_nil _ _ _ _) (Nat.le_refl _) (by simp) (by omega)
  have H1 : Hid (∀ ob : Obj, Below W.heap.size W (W.alloc ob)) := hb0
  clear hl hb0
  unfold nodeV at *
  go_enter Tryz.func17, Tryz.ntmps17
  go_wp2_with fail
  refine Calls.mono (HC.out _) ?_
  rintro e w1 ⟨l', ps, rfl, hc, hF⟩
  obtain ⟨la, lc, rfl⟩ := pn_shape hF.row
  have HCo : Hid (ps.map Pn.core = fl t) := hc
  have HRw := hF.row
  have HBl := hF.below (qs := []) (World.ownsRow_nil _ _ _ _) (Nat.le_refl _)
  have HB : Hid (Below W.heap.size W w1) := (H1.out _).trans (HBl.mono (by simp))
  have HRw2 : Hid (w1.ownsRow W.heap.size 49 7 (.slice la ps.length lc) ps.length (ps.flatMap pnc)) := by
    refine ⟨HRw.1, ?_⟩
    rcases HRw.2 with h | ⟨g, cap, cur, h1, h2, h3⟩
    · exact .inl h
    · exact .inr ⟨g, cap, cur, h1, by simp at h2; omega, h3⟩
  clear hc hF HRw HBl
  go_wp2
  go_ret
  exact ⟨⟨ps, la, lc, rfl, HCo.out, HRw2.out⟩, HB.out⟩
set_option maxRecDepth 100000 in
set_option maxHeartbeats 1600000 in
theorem tame_any (t : Tr) (hsm : t.Sm) (P : Nat → Prop) (a : Option Addr) (c : Nat) (W : World) (hl : LiesN W P a t.sub) :
    Calls Tryz.prog 5 #[nodeV t a c] W fun e w' => e = .returned (.bool (decide ((fl t).length ≤ 200 ∧ nmS (fl t) ≤ 4000))) ∧ Below W.heap.size W w' := by
  have H1 : Hid (∀ ob : Obj, Below W.heap.size W (W.alloc ob)) := fun ob => (Below.refl _ _).alloc (Nat.le_refl _) ob
  have HC : Hid (∀ ob : Obj, Calls Tryz.prog 17 #[nodeV t a c] (W.alloc ob) fun e w' => (∃ (ps : List Pn) (la : Option Addr) (lc : Nat), e = .returned (.slice la ps.length lc) ∧ ps.map Pn.core = fl t ∧ w'.ownsRow (W.alloc ob).heap.size 49 7 (.slice la ps.length lc) ps.length (ps.flatMap pnc)) ∧ Below (W.alloc ob).heap.size (W.alloc ob) w') := fun ob => flatF_any t hsm P a c (W.alloc ob) (hl.keep (H1.out ob))
  have HIn : Hid (∀ p ∈ fl t, p.t.Sm) := flT_sm t [] 1 (-1) hsm (fun p hp => by simp at hp)
  have HLn : Hid ((fl t).length ≤ 2001) := flT_len t [] 1 (-1) (by simp)
  clear hl hsm
  unfold nodeV at *
  go_enter Tryz.func5, Tryz.ntmps5
  go_wp2_with fail
  refine Calls.mono (HC.out _) ?_
  rintro e w1 ⟨⟨ps, la, lc, rfl, hco, hrow⟩, hb⟩
  have HCo : Hid (ps.map Pn.core = fl t) := hco
  have HR : Hid _ := hrow
  have HB : Hid (Below W.heap.size W w1) := (H1.out _).trans (hb.mono (by simp))
  have HPL : Hid (ps.length = (fl t).length) := by show _ = _; rw [← hco, List.length_map]
  have hpl : ps.length ≤ 2001 := by rw [HPL.out]; exact HLn.out
  clear hco hrow hb HC
  go_wp2_with fail
  go_loopw [4, 5] (fun y x wr => ∃ i m : Nat, i ≤ ps.length ∧ x = .int .i64 i ∧ y = .int .i64 (m : Nat) ∧ m ≤ 2098200576 ∧ Hid (m ≤ i * 1048576) ∧ Hid (m = nmS ((fl t).take i)) ∧ wr = w1) (fun _ x _ => ps.length - (intOf x).toNat)
  case atStart => exact ⟨0, 0, Nat.zero_le _, rfl, rfl, Nat.zero_le _, Nat.zero_le _, rfl, rfl⟩
  case round =>
    obtain ⟨i, m, hik, rfl, rfl, hm, HMI, HM, rfl⟩ := hrel
    by_cases hlt : i < ps.length
    · obtain ⟨g, rfl, hc⟩ := pn_cell HR.out i hlt
      have hc1 := hc 1 _ (by omega) rfl
      have hfi : i < (fl t).length := by rw [← HPL.out]; exact hlt
      have HE : Hid ((fl t)[i].t = ps[i].t) := by
        show _ = _
        have h : (fl t)[i] = ps[i].core := by
          have := HCo.out
          simp only [← this, List.getElem_map]
        rw [h]
        rfl
      have hsz : ps[i].t.nm.size ≤ 1048576 := by
        have h := (HIn.out _ (List.getElem_mem hfi)).nm
        rw [HE.out] at h
        exact h
      have HN : Hid (m + ps[i].t.nm.size = nmS ((fl t).take (i + 1))) := by
        show _ = _
        rw [List.take_succ_eq_append_getElem hfi, nmS_snoc, HM.out, HE.out]
      clear hc
      generalize ps[i].t.nm = s at *
      have HMM : Hid (m + s.size ≤ (i + 1) * 1048576) := by show _ ≤ _; have := HMI.out; omega
      have hnum : m + s.size ≤ 2098200576 := by have := HMM.out; omega
      go_wp2
      go_roundw
      case rel => exact ⟨i + 1, m + s.size, by omega, by go_num, by go_num, hnum, HMM, HN, by first | rfl | trivial⟩
      case measure => simp [intOf]; omega
    · obtain rfl : i = ps.length := by omega
      have HM2 : Hid (m = nmS (fl t)) := by
        show _ = _
        rw [HM.out, HPL.out, List.take_length]
      by_cases h1 : ps.length ≤ 200
      · have q1 : decide ((ps.length : Int) ≤ 200) = true := by simp; omega
        go_wp2
        go_ret
        refine ⟨ret_b ?_, HB.out⟩
        have h2 := HM2.out
        have h3 := HPL.out
        first | (rw [h2, Bool.eq_iff_iff, decide_eq_true_iff, decide_eq_true_iff]; omega) | (rw [eq_comm, decide_eq_false_iff_not]; omega)
      · have q1 : decide ((ps.length : Int) ≤ 200) = false := by simp; omega
        go_wp2
        go_ret
        refine ⟨ret_b ?_, HB.out⟩
        have h2 := HM2.out
        have h3 := HPL.out
        first | (rw [h2, Bool.eq_iff_iff, decide_eq_true_iff, decide_eq_true_iff]; omega) | (rw [eq_comm, decide_eq_false_iff_not]; omega)
end Go.Proofs.YtbaglcpcgpfjiaaGreatDoor

namespace Go.Proofs.YtbaglcpcgpfjiaaGreatDoor
open Go.RowKit
set_option maxRecDepth 100000 in
set_option maxHeartbeats 1600000 in
theorem wkU_any {S : Type} (st : S → List Tr → Tr → Bool × S) (I J : S → World → Prop) (Q : List Tr → Tr → Prop) (μ : S → Nat) (M : Nat) (g0 : Nat) (B Bw : Nat) (hBw : B ≤ Bw)
    (hI : ∀ s W w' r, I s W → W.grownBy w' r → (∀ k, r = some k → Bw ≤ k ∧ IsNB W k) → I s w')
    (hQ : ∀ path t, Q path t → ∀ j (hj : j < t.sub.length), Q (path ++ [t]) t.sub[j]) (hμ : ∀ s path t, μ (st s path t).2 ≤ μ s + 1)
    (HV : Hid (∀ s path t a c v W, Q path t → μ s + 1 ≤ M → I s W → PathR W B Bw v path → LiesN W (fun b => b < B) a t.sub → t.sub.length ≤ c → t.Sm → Bw ≤ W.heap.size → Calls Tryz.prog 24 #[nodeV t a c, v, .pointer (some ⟨g0, 0, none⟩)] W fun e w' => e = .returned (.bool (st s path t).1) ∧ ((st s path t).1 = true → I (st s path t).2 w') ∧ ((st s path t).1 = false → J (st s path t).2 w') ∧ VFr B Bw W w')) :
    ∀ (n : Nat) (t : Tr), Tr.Dp n t → t.Sm → ∀ (s : S) (path : List Tr) (a : Option Addr) (c : Nat) (v : Value) (W : World), Q path t → μ s + t.cnt ≤ M → path.length + n ≤ 1100000 → I s W → PathR W B Bw v path → LiesN W (fun b => b < B) a t.sub → t.sub.length ≤ c → Bw ≤ W.heap.size →
    Calls Tryz.prog 20 #[nodeV t a c, v, .func (.func 24) #[] #[.pointer (some ⟨g0, 0, none⟩)]] W fun e w' => e = .returned (.bool (wkT st s path t).1) ∧ ((wkT st s path t).1 = true → I (wkT st s path t).2 w') ∧ ((wkT st s path t).1 = false → J (wkT st s path t).2 w') ∧ WFr B Bw v W w' ∧ PathR w' B Bw v path
  | 0, t, h => absurd h.pos (Nat.lt_irrefl _)
  | n + 1, t, hdp => fun hsm s path a c v W hq hm hlen hi hp hl hcap hbw => by
    obtain ⟨iv, hvi, hv0, hv1, hv2⟩ := info_parts Tryz.infoN
    have HL : Hid (LiesN W (fun b => b < B) a t.sub) := hl
    have hsl := hsm.len
    have HP : Hid (PathR W B Bw v path) := hp
    have HI : Hid (I s W) := hi
    obtain ⟨va, vc, rfl⟩ := hp.shape
    have HIH : Hid (∀ j (hj : j < t.sub.length) (s : S) (path : List Tr) (a : Option Addr) (c : Nat) (v : Value) (W : World), Q path t.sub[j] → μ s + t.sub[j].cnt ≤ M → path.length + n ≤ 1100000 → I s W → PathR W B Bw v path → LiesN W (fun b => b < B) a t.sub[j].sub → t.sub[j].sub.length ≤ c → Bw ≤ W.heap.size → Calls Tryz.prog 20 #[nodeV t.sub[j] a c, v, .func (.func 24) #[] #[.pointer (some ⟨g0, 0, none⟩)]] W fun e w' => e = .returned (.bool (wkT st s path t.sub[j]).1) ∧ ((wkT st s path t.sub[j]).1 = true → I (wkT st s path t.sub[j]).2 w') ∧ ((wkT st s path t.sub[j]).1 = false → J (wkT st s path t.sub[j]).2 w') ∧ WFr B Bw v W w' ∧ PathR w' B Bw v path) := fun j hj => wkU_any st I J Q μ M g0 B Bw hBw hI hQ hμ HV n t.sub[j] (hdp.at_ j hj) (hsm.at_ j hj)
    have HEq := wkT_eq st s path t
    obtain ⟨b1, s1, hst⟩ : ∃ b1 s1, st s path t = (b1, s1) := ⟨_, _, rfl⟩
    rw [hst] at HEq
    -- the box
    have hw1 := wk_box hBw hI t a c hi hp hl hbw
    have hcnt := t.cnt_eq
    have HQ : Hid (∀ j (hj : j < t.sub.length), Q (path ++ [t]) t.sub[j]) := hQ path t hq
    have HC := HV.out s path t a c (.slice va path.length vc) _ hq (by omega) hw1.1 hw1.2.1 hw1.2.2.1 hcap hsm hw1.2.2.2
    rw [hst] at HC
    have HC : Hid _ := HC
    have HEq : Hid _ := HEq
    have hm1 : μ s1 + cntL t.sub ≤ M := by have h := hμ s path t; rw [hst] at h; simp only at h; omega
    have HM : Hid (μ s1 + cntL t.sub ≤ M) := hm1
    have hst : Hid _ := hst
    clear hm1 hcnt hm hq
    clear hl hsm hp hi hw1
    unfold nodeV
    go_enter Tryz.func20, Tryz.ntmps20
    go_wp2_with fail
    refine Calls.mono HC.out ?_
    clear HC
    rintro e w1 ⟨rfl, hiT, hiF, hf1⟩
    have HJ : Hid _ := hiF
    have HT : Hid _ := hiT
    have HF1 : Hid (VFr B Bw W w1) := ((VFr.refl B Bw W).alloc (by omega) _).trans hf1
    have HB1 : Hid (w1.heap[W.heap.size]? = some (.cells #[.int .i64 t.id, .string t.nm, .int .i64 t.rep, .int .i64 t.kind, .slice a t.sub.length c] 24 (0, 0))) := (hf1.rows W.heap.size hbw (by simp) ⟨_, _, heap_alloc_new W _⟩).trans (heap_alloc_new W _)
    clear hiT hiF hf1
    obtain ⟨⟨p0, p1, p2, p3, p4⟩, _⟩ := row_five HB1.out
    cases b1 with
    | false =>
      have HE2 : Hid (wkT st s path t = (false, s1)) := (by show _ = _; simpa using HEq.out)
      go_wp2
      go_ret
      rw [HE2.out]
      exact ⟨rfl, fun h => by simp at h, fun _ => HJ.out (by simp), ⟨HF1.out.below, fun k h1 h2 h3 _ => HF1.out.rows k h1 h2 h3⟩, HP.out.vfr HF1.out⟩
    | true =>
      have HE2 : Hid (wkT st s path t = wkL st s1 (path ++ [t]) t.sub) := (by show _ = _; simpa using HEq.out)
      obtain ⟨ncs, hn1, hn2, hn3, hn4⟩ := HP.out.vfr HF1.out
      have HN4 : Hid _ := hn4
      have HN2 : Hid _ := hn2
      have HN1 : Hid _ := hn1
      have HR : Hid (w1.ownsRow Bw 24 5 (.slice va path.length vc) path.length ncs.flatten) := hn3
      clear hn1 hn2 hn3 hn4
      have hs1 := HF1.out.below.size
      go_wp2_with (at_builtin; refine wpList_append_kept _ rfl _ _ 22 rfl Bw 24 iv (.agg #[.int .i64 0, .string ⟨#[]⟩, .int .i64 0, .int .i64 0, .slice none 0 0]) 5 64 Tryz.underlying22 hvi hv0 hv1 hv2 rfl (by decide) _ path.length ncs.flatten rfl (HR.out.alloc _) ⟨w1.heap.size, 0, none⟩ 1 1 [.int .i64 t.id, .string t.nm, .int .i64 t.rep, .int .i64 t.kind, .slice a t.sub.length c] rfl rfl five_cells (by intro u hu; simp at hu; rcases hu with rfl | rfl | rfl | rfl | rfl <;> rfl) (by unfold maxLen; omega) (by omega) (by simp; omega) (by decide) ?_; intro v2 w2 hown2 hgrow2 hwh2; have HW : Hid (WP B Bw W t a c (.slice va path.length vc) path I s1 w2 v2) := WP.start hBw hI hbw HF1.out HB1.out HR.out HN1.out HN2.out HN4.out (HT.out (by simp)) hcap HL.out (fun k hk => (HP.out.block hk).2.1) hown2 hgrow2 hwh2; clear hown2 hgrow2 hwh2 p0 p1 p2 p3 p4; obtain ⟨a2, c2, e2⟩ := HW.out.row.shape; rw [show (path ++ [t]).length = path.length + 1 by simp] at e2; subst e2; obtain ⟨⟨p0, p1, p2, p3, p4⟩, _⟩ := row_five HW.out.box)
      clear HR HN1 HN2 HN4 HT HF1 HB1
      have hlen2 : (path ++ [t]).length + n ≤ 1100000 := by simp; omega
      have HS : Hid (wkL st s1 (path ++ [t]) (t.sub.take 0) = (true, s1)) := by
        show _ = _
        rw [List.take_zero, wkL]
      go_loopw [21] (fun x wr => ∃ (i : Nat) (s' : S), i ≤ t.sub.length ∧ x = .int .i64 i ∧ Hid (μ s' + cntL (t.sub.drop i) ≤ M) ∧ Hid (wkL st s1 (path ++ [t]) (t.sub.take i) = (true, s')) ∧ Hid (WP B Bw W t a c (.slice va path.length vc) path I s' wr (.slice a2 (path.length + 1) c2))) (fun x _ => t.sub.length - (intOf x).toNat)
      case atStart => exact ⟨0, s1, Nat.zero_le _, rfl, HM, HS, HW⟩
      case round =>
        clear HS HW p0 p1 p2 p3 p4
        obtain ⟨i, s', hik, rfl, HMi, HS, HW⟩ := hrel
        obtain ⟨⟨p0, p1, p2, p3, p4⟩, _⟩ := row_five HW.out.box
        by_cases hlt : i < t.sub.length
        · have HLr : Hid (LiesN wr (fun b => b < B) a t.sub) := HL.out.stay (fun _ h _ => h) (fun b h _ => HW.out.fr.below.block b h)
          obtain ⟨b, o, a1, c1, rfl, d0, d1, d2, d3, d4, hl1, hc1⟩ := HLr.out.at2 i hlt
          have HWA : Hid _ := HW.out.alloc hBw hI hbw (.cells #[.int .i64 t.sub[i].id, .string t.sub[i].nm, .int .i64 t.sub[i].rep, .int .i64 t.sub[i].kind, .slice a1 t.sub[i].sub.length c1] 24)
          obtain ⟨b3, s3, hr3⟩ : ∃ b3 s3, wkT st s' (path ++ [t]) t.sub[i] = (b3, s3) := ⟨_, _, rfl⟩
          have hmi := HMi.out
          rw [cntL_drop t.sub i hlt] at hmi
          have hmr := wkT_more st μ hμ t.sub[i] s' (path ++ [t])
          rw [hr3] at hmr
          simp only at hmr
          have HM3 : Hid (μ s3 + cntL (t.sub.drop (i + 1)) ≤ M) := (by show _ ≤ _; omega)
          have HC := HIH.out i hlt s' (path ++ [t]) a1 c1 (.slice a2 (path.length + 1) c2) _ (HQ.out i hlt) (by omega) hlen2 HWA.out.inv HWA.out.row (hl1.keep ((Below.refl _ _).alloc (Nat.le_refl _) _)) hc1 (by have := HW.out.fr.below.size; simp; omega)
          rw [hr3] at HC
          have HC : Hid _ := HC
          have HS3 : Hid (wkL st s1 (path ++ [t]) (t.sub.take (i + 1)) = (b3, s3)) := (wkL_take st s1 (path ++ [t]) t.sub i hlt s' HS.out).trans hr3
          clear hr3 hl1 hc1 hmi hmr
          go_wp2_with fail
          refine Calls.mono HC.out ?_
          clear HC
          rintro e w3 ⟨rfl, hT, hF, hfr, hpr⟩
          have HF : Hid _ := hF
          have HT : Hid _ := hT
          have HFr : Hid _ := hfr
          have HPr : Hid _ := hpr
          clear hT hF hfr hpr
          cases b3 with
          | true =>
            have HW3 : Hid _ := HWA.out.next hbw HFr.out HPr.out (HT.out (by simp))
            go_wp2
            go_roundw
            case rel => exact ⟨i + 1, s3, by omega, by go_num, HM3, HS3, HW3⟩
            case measure => simp [intOf]; omega
          | false =>
            have HEnd : Hid (wkT st s path t = (false, s3)) := (HE2.out.trans (wkL_stop st s1 (path ++ [t]) t.sub (i + 1) (by rw [HS3.out]))).trans HS3.out
            have HWl : Hid (WP B Bw W t (some ⟨b, o, none⟩) c (.slice va path.length vc) path (fun _ _ => True) s3 w3 (.slice a2 (path.length + 1) c2)) := WP.next (s := s') hbw (HWA.out.weak) HFr.out HPr.out trivial
            go_wp2
            go_ret
            rw [HEnd.out]
            exact ⟨rfl, fun h => by simp at h, fun _ => HF.out (by simp), HWl.out.fr, HWl.out.old⟩
        · obtain rfl : i = t.sub.length := by omega
          go_wp2
          go_ret
          have HS2 := HS.out
          rw [List.take_length] at HS2
          rw [HE2.out, HS2]
          exact ⟨rfl, fun _ => HW.out.inv, fun h => by simp at h, HW.out.fr, HW.out.old⟩
end Go.Proofs.YtbaglcpcgpfjiaaGreatDoor
