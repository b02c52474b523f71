/-
  The walk through a schema, with one visitor: it answers what the list's walk answers, if the visitor does.
  The walk through a schema, with one visitor: it answers what the list's walk answers, if the visitor does.
-/
import Derived.Test.YtmfijliladancaaGreatDoorXBWalkT
namespace Go.Proofs.YtmfijliladancaaGreatDoor
open Go.RowKit
set_option maxRecDepth 100000 in
set_option maxHeartbeats 1600000 in
theorem wkI_any {S : Type} (st : S → List Tr → Tr → Bool × S) (I J : S → World → Prop) (Q : List Tr → Tr → Prop) (μ : S → Nat) (M : Nat) (g0 : Nat) (B Bw : Nat) (hBw : B ≤ Bw)
    (hI : ∀ s W w' r, I s W → W.grownBy w' r → (∀ k, r = some k → Bw ≤ k ∧ IsNB W k) → I s w')
    (hQ : ∀ path t, Q path t → ∀ j (hj : j < t.sub.length), Q (path ++ [t]) t.sub[j]) (hμ : ∀ s path t, μ (st s path t).2 ≤ μ s + 1)
    (HV : Hid (∀ s path t a c v W, Q path t → μ s + 1 ≤ M → I s W → PathR W B Bw v path → LiesN W (fun b => b < B) a t.sub → t.sub.length ≤ c → t.Sm → Bw ≤ W.heap.size → Calls Tryz.prog 49 #[nodeV t a c, v, .pointer (some ⟨g0, 0, none⟩)] W fun e w' => e = .returned (.bool (st s path t).1) ∧ ((st s path t).1 = true → I (st s path t).2 w') ∧ ((st s path t).1 = false → J (st s path t).2 w') ∧ VFr B Bw W w')) :
    ∀ (n : Nat) (t : Tr), Tr.Dp n t → t.Sm → ∀ (s : S) (path : List Tr) (a : Option Addr) (c : Nat) (v : Value) (W : World), Q path t → μ s + t.cnt ≤ M → path.length + n ≤ 1100000 → I s W → PathR W B Bw v path → LiesN W (fun b => b < B) a t.sub → t.sub.length ≤ c → Bw ≤ W.heap.size →
    Calls Tryz.prog 40 #[nodeV t a c, v, .func (.func 49) #[] #[.pointer (some ⟨g0, 0, none⟩)]] W fun e w' => e = .returned (.bool (wkT st s path t).1) ∧ ((wkT st s path t).1 = true → I (wkT st s path t).2 w') ∧ ((wkT st s path t).1 = false → J (wkT st s path t).2 w') ∧ WFr B Bw v W w' ∧ PathR w' B Bw v path
  | 0, t, h => absurd h.pos (Nat.lt_irrefl _)
  | n + 1, t, hdp => fun hsm s path a c v W hq hm hlen hi hp hl hcap hbw => by
    obtain ⟨iv, hvi, hv0, hv1, hv2⟩ := info_parts Tryz.infoN
    have HL : Hid (LiesN W (fun b => b < B) a t.sub) := hl
    have hsl := hsm.len
    have HP : Hid (PathR W B Bw v path) := hp
    have HI : Hid (I s W) := hi
    obtain ⟨va, vc, rfl⟩ := hp.shape
    have HIH : Hid (∀ j (hj : j < t.sub.length) (s : S) (path : List Tr) (a : Option Addr) (c : Nat) (v : Value) (W : World), Q path t.sub[j] → μ s + t.sub[j].cnt ≤ M → path.length + n ≤ 1100000 → I s W → PathR W B Bw v path → LiesN W (fun b => b < B) a t.sub[j].sub → t.sub[j].sub.length ≤ c → Bw ≤ W.heap.size → Calls Tryz.prog 40 #[nodeV t.sub[j] a c, v, .func (.func 49) #[] #[.pointer (some ⟨g0, 0, none⟩)]] W fun e w' => e = .returned (.bool (wkT st s path t.sub[j]).1) ∧ ((wkT st s path t.sub[j]).1 = true → I (wkT st s path t.sub[j]).2 w') ∧ ((wkT st s path t.sub[j]).1 = false → J (wkT st s path t.sub[j]).2 w') ∧ WFr B Bw v W w' ∧ PathR w' B Bw v path) := fun j hj => wkI_any st I J Q μ M g0 B Bw hBw hI hQ hμ HV n t.sub[j] (hdp.at_ j hj) (hsm.at_ j hj)
    have HEq := wkT_eq st s path t
    obtain ⟨b1, s1, hst⟩ : ∃ b1 s1, st s path t = (b1, s1) := ⟨_, _, rfl⟩
    rw [hst] at HEq
    -- the box
    have hw1 := wk_box hBw hI t a c hi hp hl hbw
    have hcnt := t.cnt_eq
    have HQ : Hid (∀ j (hj : j < t.sub.length), Q (path ++ [t]) t.sub[j]) := hQ path t hq
    have HC := HV.out s path t a c (.slice va path.length vc) _ hq (by omega) hw1.1 hw1.2.1 hw1.2.2.1 hcap hsm hw1.2.2.2
    rw [hst] at HC
    have HC : Hid _ := HC
    have HEq : Hid _ := HEq
    have hm1 : μ s1 + cntL t.sub ≤ M := by have h := hμ s path t; rw [hst] at h; simp only at h; omega
    have HM : Hid (μ s1 + cntL t.sub ≤ M) := hm1
    have hst : Hid _ := hst
    clear hm1 hcnt hm hq
    clear hl hsm hp hi hw1
    unfold nodeV
    go_enter Tryz.func40, Tryz.ntmps40
    go_wp2_with fail
    refine Calls.mono HC.out ?_
    clear HC
    rintro e w1 ⟨rfl, hiT, hiF, hf1⟩
    have HJ : Hid _ := hiF
    have HT : Hid _ := hiT
    have HF1 : Hid (VFr B Bw W w1) := ((VFr.refl B Bw W).alloc (by omega) _).trans hf1
    have HB1 : Hid (w1.heap[W.heap.size]? = some (.cells #[.int .i64 t.id, .string t.nm, .int .i64 t.rep, .int .i64 t.kind, .slice a t.sub.length c] 24 (0, 0))) := (hf1.rows W.heap.size hbw (by simp) ⟨_, _, heap_alloc_new W _⟩).trans (heap_alloc_new W _)
    clear hiT hiF hf1
    obtain ⟨⟨p0, p1, p2, p3, p4⟩, _⟩ := row_five HB1.out
    cases b1 with
    | false =>
      have HE2 : Hid (wkT st s path t = (false, s1)) := (by show _ = _; simpa using HEq.out)
      go_wp2
      go_ret
      rw [HE2.out]
      exact ⟨rfl, fun h => by simp at h, fun _ => HJ.out (by simp), ⟨HF1.out.below, fun k h1 h2 h3 _ => HF1.out.rows k h1 h2 h3⟩, HP.out.vfr HF1.out⟩
    | true =>
      have HE2 : Hid (wkT st s path t = wkL st s1 (path ++ [t]) t.sub) := (by show _ = _; simpa using HEq.out)
      obtain ⟨ncs, hn1, hn2, hn3, hn4⟩ := HP.out.vfr HF1.out
      have HN4 : Hid _ := hn4
      have HN2 : Hid _ := hn2
      have HN1 : Hid _ := hn1
      have HR : Hid (w1.ownsRow Bw 24 5 (.slice va path.length vc) path.length ncs.flatten) := hn3
      clear hn1 hn2 hn3 hn4
      have hs1 := HF1.out.below.size
      go_wp2_with (at_builtin; refine wpList_append_kept _ rfl _ _ 22 rfl Bw 24 iv (.agg #[.int .i64 0, .string ⟨#[]⟩, .int .i64 0, .int .i64 0, .slice none 0 0]) 5 64 Tryz.underlying22 hvi hv0 hv1 hv2 rfl (by decide) _ path.length ncs.flatten rfl (HR.out.alloc _) ⟨w1.heap.size, 0, none⟩ 1 1 [.int .i64 t.id, .string t.nm, .int .i64 t.rep, .int .i64 t.kind, .slice a t.sub.length c] rfl rfl five_cells (by intro u hu; simp at hu; rcases hu with rfl | rfl | rfl | rfl | rfl <;> rfl) (by unfold maxLen; omega) (by omega) (by simp; omega) (by decide) ?_; intro v2 w2 hown2 hgrow2 hwh2; have HW : Hid (WP B Bw W t a c (.slice va path.length vc) path I s1 w2 v2) := WP.start hBw hI hbw HF1.out HB1.out HR.out HN1.out HN2.out HN4.out (HT.out (by simp)) hcap HL.out (fun k hk => (HP.out.block hk).2.1) hown2 hgrow2 hwh2; clear hown2 hgrow2 hwh2 p0 p1 p2 p3 p4; obtain ⟨a2, c2, e2⟩ := HW.out.row.shape; rw [show (path ++ [t]).length = path.length + 1 by simp] at e2; subst e2; obtain ⟨⟨p0, p1, p2, p3, p4⟩, _⟩ := row_five HW.out.box)
      clear HR HN1 HN2 HN4 HT HF1 HB1
      have hlen2 : (path ++ [t]).length + n ≤ 1100000 := by simp; omega
      have HS : Hid (wkL st s1 (path ++ [t]) (t.sub.take 0) = (true, s1)) := by
        show _ = _
        rw [List.take_zero, wkL]
      go_loopw [21] (fun x wr => ∃ (i : Nat) (s' : S), i ≤ t.sub.length ∧ x = .int .i64 i ∧ Hid (μ s' + cntL (t.sub.drop i) ≤ M) ∧ Hid (wkL st s1 (path ++ [t]) (t.sub.take i) = (true, s')) ∧ Hid (WP B Bw W t a c (.slice va path.length vc) path I s' wr (.slice a2 (path.length + 1) c2))) (fun x _ => t.sub.length - (intOf x).toNat)
      case atStart => exact ⟨0, s1, Nat.zero_le _, rfl, HM, HS, HW⟩
      case round =>
        clear HS HW p0 p1 p2 p3 p4
        obtain ⟨i, s', hik, rfl, HMi, HS, HW⟩ := hrel
        obtain ⟨⟨p0, p1, p2, p3, p4⟩, _⟩ := row_five HW.out.box
        by_cases hlt : i < t.sub.length
        · have HLr : Hid (LiesN wr (fun b => b < B) a t.sub) := HL.out.stay (fun _ h _ => h) (fun b h _ => HW.out.fr.below.block b h)
          obtain ⟨b, o, a1, c1, rfl, d0, d1, d2, d3, d4, hl1, hc1⟩ := HLr.out.at2 i hlt
          have HWA : Hid _ := HW.out.alloc hBw hI hbw (.cells #[.int .i64 t.sub[i].id, .string t.sub[i].nm, .int .i64 t.sub[i].rep, .int .i64 t.sub[i].kind, .slice a1 t.sub[i].sub.length c1] 24)
          obtain ⟨b3, s3, hr3⟩ : ∃ b3 s3, wkT st s' (path ++ [t]) t.sub[i] = (b3, s3) := ⟨_, _, rfl⟩
          have hmi := HMi.out
          rw [cntL_drop t.sub i hlt] at hmi
          have hmr := wkT_more st μ hμ t.sub[i] s' (path ++ [t])
          rw [hr3] at hmr
          simp only at hmr
          have HM3 : Hid (μ s3 + cntL (t.sub.drop (i + 1)) ≤ M) := (by show _ ≤ _; omega)
          have HC := HIH.out i hlt s' (path ++ [t]) a1 c1 (.slice a2 (path.length + 1) c2) _ (HQ.out i hlt) (by omega) hlen2 HWA.out.inv HWA.out.row (hl1.keep ((Below.refl _ _).alloc (Nat.le_refl _) _)) hc1 (by have := HW.out.fr.below.size; simp; omega)
          rw [hr3] at HC
          have HC : Hid _ := HC
          have HS3 : Hid (wkL st s1 (path ++ [t]) (t.sub.take (i + 1)) = (b3, s3)) := (wkL_take st s1 (path ++ [t]) t.sub i hlt s' HS.out).trans hr3
          clear hr3 hl1 hc1 hmi hmr
          go_wp2_with fail
          refine Calls.mono HC.out ?_
          clear HC
          rintro e w3 ⟨rfl, hT, hF, hfr, hpr⟩
          have HF : Hid _ := hF
          have HT : Hid _ := hT
          have HFr : Hid _ := hfr
          have HPr : Hid _ := hpr
          clear hT hF hfr hpr
          cases b3 with
          | true =>
            have HW3 : Hid _ := HWA.out.next hbw HFr.out HPr.out (HT.out (by simp))
            go_wp2
            go_roundw
            case rel => exact ⟨i + 1, s3, by omega, by go_num, HM3, HS3, HW3⟩
            case measure => simp [intOf]; omega
          | false =>
            have HEnd : Hid (wkT st s path t = (false, s3)) := (HE2.out.trans (wkL_stop st s1 (path ++ [t]) t.sub (i + 1) (by rw [HS3.out]))).trans HS3.out
            have HWl : Hid (WP B Bw W t (some ⟨b, o, none⟩) c (.slice va path.length vc) path (fun _ _ => True) s3 w3 (.slice a2 (path.length + 1) c2)) := WP.next (s := s') hbw (HWA.out.weak) HFr.out HPr.out trivial
            go_wp2
            go_ret
            rw [HEnd.out]
            exact ⟨rfl, fun h => by simp at h, fun _ => HF.out (by simp), HWl.out.fr, HWl.out.old⟩
        · obtain rfl : i = t.sub.length := by omega
          go_wp2
          go_ret
          have HS2 := HS.out
          rw [List.take_length] at HS2
          rw [HE2.out, HS2]
          exact ⟨rfl, fun _ => HW.out.inv, fun h => by simp at h, HW.out.fr, HW.out.old⟩
end Go.Proofs.YtmfijliladancaaGreatDoor

namespace Go.Proofs.YtmfijliladancaaGreatDoor
open Go.RowKit
set_option maxRecDepth 100000 in
set_option maxHeartbeats 1600000 in
theorem wkB_any {S : Type} (st : S → List Tr → Tr → Bool × S) (I J : S → World → Prop) (Q : List Tr → Tr → Prop) (μ : S → Nat) (M : Nat) (g0 : Nat) (B Bw : Nat) (hBw : B ≤ Bw)
    (hI : ∀ s W w' r, I s W → W.grownBy w' r → (∀ k, r = some k → Bw ≤ k ∧ IsNB W k) → I s w')
    (hQ : ∀ path t, Q path t → ∀ j (hj : j < t.sub.length), Q (path ++ [t]) t.sub[j]) (hμ : ∀ s path t, μ (st s path t).2 ≤ μ s + 1)
    (HV : Hid (∀ s path t a c v W, Q path t → μ s + 1 ≤ M → I s W → PathR W B Bw v path → LiesN W (fun b => b < B) a t.sub → t.sub.length ≤ c → t.Sm → Bw ≤ W.heap.size → Calls Tryz.prog 41 #[nodeV t a c, v, .pointer (some ⟨g0, 0, none⟩)] W fun e w' => e = .returned (.bool (st s path t).1) ∧ ((st s path t).1 = true → I (st s path t).2 w') ∧ ((st s path t).1 = false → J (st s path t).2 w') ∧ VFr B Bw W w')) :
    ∀ (n : Nat) (t : Tr), Tr.Dp n t → t.Sm → ∀ (s : S) (path : List Tr) (a : Option Addr) (c : Nat) (v : Value) (W : World), Q path t → μ s + t.cnt ≤ M → path.length + n ≤ 1100000 → I s W → PathR W B Bw v path → LiesN W (fun b => b < B) a t.sub → t.sub.length ≤ c → Bw ≤ W.heap.size →
    Calls Tryz.prog 40 #[nodeV t a c, v, .func (.func 41) #[] #[.pointer (some ⟨g0, 0, none⟩)]] W fun e w' => e = .returned (.bool (wkT st s path t).1) ∧ ((wkT st s path t).1 = true → I (wkT st s path t).2 w') ∧ ((wkT st s path t).1 = false → J (wkT st s path t).2 w') ∧ WFr B Bw v W w' ∧ PathR w' B Bw v path
  | 0, t, h => absurd h.pos (Nat.lt_irrefl _)
  | n + 1, t, hdp => fun hsm s path a c v W hq hm hlen hi hp hl hcap hbw => by
    obtain ⟨iv, hvi, hv0, hv1, hv2⟩ := info_parts Tryz.infoN
    have HL : Hid (LiesN W (fun b => b < B) a t.sub) := hl
    have hsl := hsm.len
    have HP : Hid (PathR W B Bw v path) := hp
    have HI : Hid (I s W) := hi
    obtain ⟨va, vc, rfl⟩ := hp.shape
    have HIH : Hid (∀ j (hj : j < t.sub.length) (s : S) (path : List Tr) (a : Option Addr) (c : Nat) (v : Value) (W : World), Q path t.sub[j] → μ s + t.sub[j].cnt ≤ M → path.length + n ≤ 1100000 → I s W → PathR W B Bw v path → LiesN W (fun b => b < B) a t.sub[j].sub → t.sub[j].sub.length ≤ c → Bw ≤ W.heap.size → Calls Tryz.prog 40 #[nodeV t.sub[j] a c, v, .func (.func 41) #[] #[.pointer (some ⟨g0, 0, none⟩)]] W fun e w' => e = .returned (.bool (wkT st s path t.sub[j]).1) ∧ ((wkT st s path t.sub[j]).1 = true → I (wkT st s path t.sub[j]).2 w') ∧ ((wkT st s path t.sub[j]).1 = false → J (wkT st s path t.sub[j]).2 w') ∧ WFr B Bw v W w' ∧ PathR w' B Bw v path) := fun j hj => wkB_any st I J Q μ M g0 B Bw hBw hI hQ hμ HV n t.sub[j] (hdp.at_ j hj) (hsm.at_ j hj)
    have HEq := wkT_eq st s path t
    obtain ⟨b1, s1, hst⟩ : ∃ b1 s1, st s path t = (b1, s1) := ⟨_, _, rfl⟩
    rw [hst] at HEq
    -- the box
    have hw1 := wk_box hBw hI t a c hi hp hl hbw
    have hcnt := t.cnt_eq
    have HQ : Hid (∀ j (hj : j < t.sub.length), Q (path ++ [t]) t.sub[j]) := hQ path t hq
    have HC := HV.out s path t a c (.slice va path.length vc) _ hq (by omega) hw1.1 hw1.2.1 hw1.2.2.1 hcap hsm hw1.2.2.2
    rw [hst] at HC
    have HC : Hid _ := HC
    have HEq : Hid _ := HEq
    have hm1 : μ s1 + cntL t.sub ≤ M := by have h := hμ s path t; rw [hst] at h; simp only at h; omega
    have HM : Hid (μ s1 + cntL t.sub ≤ M) := hm1
    have hst : Hid _ := hst
    clear hm1 hcnt hm hq
    clear hl hsm hp hi hw1
    unfold nodeV
    go_enter Tryz.func40, Tryz.ntmps40
    go_wp2_with fail
    refine Calls.mono HC.out ?_
    clear HC
    rintro e w1 ⟨rfl, hiT, hiF, hf1⟩
    have HJ : Hid _ := hiF
    have HT : Hid _ := hiT
    have HF1 : Hid (VFr B Bw W w1) := ((VFr.refl B Bw W).alloc (by omega) _).trans hf1
    have HB1 : Hid (w1.heap[W.heap.size]? = some (.cells #[.int .i64 t.id, .string t.nm, .int .i64 t.rep, .int .i64 t.kind, .slice a t.sub.length c] 24 (0, 0))) := (hf1.rows W.heap.size hbw (by simp) ⟨_, _, heap_alloc_new W _⟩).trans (heap_alloc_new W _)
    clear hiT hiF hf1
    obtain ⟨⟨p0, p1, p2, p3, p4⟩, _⟩ := row_five HB1.out
    cases b1 with
    | false =>
      have HE2 : Hid (wkT st s path t = (false, s1)) := (by show _ = _; simpa using HEq.out)
      go_wp2
      go_ret
      rw [HE2.out]
      exact ⟨rfl, fun h => by simp at h, fun _ => HJ.out (by simp), ⟨HF1.out.below, fun k h1 h2 h3 _ => HF1.out.rows k h1 h2 h3⟩, HP.out.vfr HF1.out⟩
    | true =>
      have HE2 : Hid (wkT st s path t = wkL st s1 (path ++ [t]) t.sub) := (by show _ = _; simpa using HEq.out)
      obtain ⟨ncs, hn1, hn2, hn3, hn4⟩ := HP.out.vfr HF1.out
      have HN4 : Hid _ := hn4
      have HN2 : Hid _ := hn2
      have HN1 : Hid _ := hn1
      have HR : Hid (w1.ownsRow Bw 24 5 (.slice va path.length vc) path.length ncs.flatten) := hn3
      clear hn1 hn2 hn3 hn4
      have hs1 := HF1.out.below.size
      go_wp2_with (at_builtin; refine wpList_append_kept _ rfl _ _ 22 rfl Bw 24 iv (.agg #[.int .i64 0, .string ⟨#[]⟩, .int .i64 0, .int .i64 0, .slice none 0 0]) 5 64 Tryz.underlying22 hvi hv0 hv1 hv2 rfl (by decide) _ path.length ncs.flatten rfl (HR.out.alloc _) ⟨w1.heap.size, 0, none⟩ 1 1 [.int .i64 t.id, .string t.nm, .int .i64 t.rep, .int .i64 t.kind, .slice a t.sub.length c] rfl rfl five_cells (by intro u hu; simp at hu; rcases hu with rfl | rfl | rfl | rfl | rfl <;> rfl) (by unfold maxLen; omega) (by omega) (by simp; omega) (by decide) ?_; intro v2 w2 hown2 hgrow2 hwh2; have HW : Hid (WP B Bw W t a c (.slice va path.length vc) path I s1 w2 v2) := WP.start hBw hI hbw HF1.out HB1.out HR.out HN1.out HN2.out HN4.out (HT.out (by simp)) hcap HL.out (fun k hk => (HP.out.block hk).2.1) hown2 hgrow2 hwh2; clear hown2 hgrow2 hwh2 p0 p1 p2 p3 p4; obtain ⟨a2, c2, e2⟩ := HW.out.row.shape; rw [show (path ++ [t]).length = path.length + 1 by simp] at e2; subst e2; obtain ⟨⟨p0, p1, p2, p3, p4⟩, _⟩ := row_five HW.out.box)
      clear HR HN1 HN2 HN4 HT HF1 HB1
      have hlen2 : (path ++ [t]).length + n ≤ 1100000 := by simp; omega
      have HS : Hid (wkL st s1 (path ++ [t]) (t.sub.take 0) = (true, s1)) := by
        show _ = _
        rw [List.take_zero, wkL]
      go_loopw [21] (fun x wr => ∃ (i : Nat) (s' : S), i ≤ t.sub.length ∧ x = .int .i64 i ∧ Hid (μ s' + cntL (t.sub.drop i) ≤ M) ∧ Hid (wkL st s1 (path ++ [t]) (t.sub.take i) = (true, s')) ∧ Hid (WP B Bw W t a c (.slice va path.length vc) path I s' wr (.slice a2 (path.length + 1) c2))) (fun x _ => t.sub.length - (intOf x).toNat)
      case atStart => exact ⟨0, s1, Nat.zero_le _, rfl, HM, HS, HW⟩
      case round =>
        clear HS HW p0 p1 p2 p3 p4
        obtain ⟨i, s', hik, rfl, HMi, HS, HW⟩ := hrel
        obtain ⟨⟨p0, p1, p2, p3, p4⟩, _⟩ := row_five HW.out.box
        by_cases hlt : i < t.sub.length
        · have HLr : Hid (LiesN wr (fun b => b < B) a t.sub) := HL.out.stay (fun _ h _ => h) (fun b h _ => HW.out.fr.below.block b h)
          obtain ⟨b, o, a1, c1, rfl, d0, d1, d2, d3, d4, hl1, hc1⟩ := HLr.out.at2 i hlt
          have HWA : Hid _ := HW.out.alloc hBw hI hbw (.cells #[.int .i64 t.sub[i].id, .string t.sub[i].nm, .int .i64 t.sub[i].rep, .int .i64 t.sub[i].kind, .slice a1 t.sub[i].sub.length c1] 24)
          obtain ⟨b3, s3, hr3⟩ : ∃ b3 s3, wkT st s' (path ++ [t]) t.sub[i] = (b3, s3) := ⟨_, _, rfl⟩
          have hmi := HMi.out
          rw [cntL_drop t.sub i hlt] at hmi
          have hmr := wkT_more st μ hμ t.sub[i] s' (path ++ [t])
          rw [hr3] at hmr
          simp only at hmr
          have HM3 : Hid (μ s3 + cntL (t.sub.drop (i + 1)) ≤ M) := (by show _ ≤ _; omega)
          have HC := HIH.out i hlt s' (path ++ [t]) a1 c1 (.slice a2 (path.length + 1) c2) _ (HQ.out i hlt) (by omega) hlen2 HWA.out.inv HWA.out.row (hl1.keep ((Below.refl _ _).alloc (Nat.le_refl _) _)) hc1 (by have := HW.out.fr.below.size; simp; omega)
          rw [hr3] at HC
          have HC : Hid _ := HC
          have HS3 : Hid (wkL st s1 (path ++ [t]) (t.sub.take (i + 1)) = (b3, s3)) := (wkL_take st s1 (path ++ [t]) t.sub i hlt s' HS.out).trans hr3
          clear hr3 hl1 hc1 hmi hmr
          go_wp2_with fail
          refine Calls.mono HC.out ?_
          clear HC
          rintro e w3 ⟨rfl, hT, hF, hfr, hpr⟩
          have HF : Hid _ := hF
          have HT : Hid _ := hT
          have HFr : Hid _ := hfr
          have HPr : Hid _ := hpr
          clear hT hF hfr hpr
          cases b3 with
          | true =>
            have HW3 : Hid _ := HWA.out.next hbw HFr.out HPr.out (HT.out (by simp))
            go_wp2
            go_roundw
            case rel => exact ⟨i + 1, s3, by omega, by go_num, HM3, HS3, HW3⟩
            case measure => simp [intOf]; omega
          | false =>
            have HEnd : Hid (wkT st s path t = (false, s3)) := (HE2.out.trans (wkL_stop st s1 (path ++ [t]) t.sub (i + 1) (by rw [HS3.out]))).trans HS3.out
            have HWl : Hid (WP B Bw W t (some ⟨b, o, none⟩) c (.slice va path.length vc) path (fun _ _ => True) s3 w3 (.slice a2 (path.length + 1) c2)) := WP.next (s := s') hbw (HWA.out.weak) HFr.out HPr.out trivial
            go_wp2
            go_ret
            rw [HEnd.out]
            exact ⟨rfl, fun h => by simp at h, fun _ => HF.out (by simp), HWl.out.fr, HWl.out.old⟩
        · obtain rfl : i = t.sub.length := by omega
          go_wp2
          go_ret
          have HS2 := HS.out
          rw [List.take_length] at HS2
          rw [HE2.out, HS2]
          exact ⟨rfl, fun _ => HW.out.inv, fun h => by simp at h, HW.out.fr, HW.out.old⟩
end Go.Proofs.YtmfijliladancaaGreatDoor
