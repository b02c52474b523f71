/-
  The reference's flat list, told where its places' nodes lie.
-/
import Derived.Test.YtbaglcpcgpfjiaaGreatDoorFBTameN
namespace Go.Proofs.YtbaglcpcgpfjiaaGreatDoor
open Go.RowKit
/-- A place's nodes lie in blocks that were there. -/
def PnL (W0 : World) (Q : Nat → Prop) (p : Pn) : Prop := LiesN W0 Q p.a p.t.sub ∧ p.t.sub.length ≤ p.c
def RetFlL (B : Nat) (W0 : World) (Q : Nat → Prop) (W : World) (l : Value) (want : List Pc) (e : Ending) (w' : World) : Prop :=
  ∃ l' ps, e = .returned l' ∧ ps.map Pn.core = want ∧ FR B W l w' l' ps ∧ ∀ p ∈ ps, PnL W0 Q p
set_option maxRecDepth 100000 in
set_option maxHeartbeats 1600000 in
theorem flat_anyL (B : Nat) (W0 : World) (Q : Nat → Prop) (hQ : ∀ b, Q b → b < B) : ∀ (n : Nat) (t : Tr), SizeOf.sizeOf t < n → t.Sm → ∀ (l : Value) (ps : List Pn) (deep : Nat) (around : Int) (a : Option Addr) (c : Nat) (W : World), Below B W0 W → t.sub.length ≤ c → (∀ p ∈ ps, PnL W0 Q p) → LiesN W Q a t.sub → W.ownsRow B 49 7 l ps.length (ps.flatMap pnc) → B ≤ W.heap.size → ps.length ≤ 2001 → deep ≤ 101 →
    Calls Tryz.prog 30 #[l, nodeV t a c, .int .i64 (deep : Nat), .int .i64 around] W fun e w' => RetFlL B W0 Q W l (flT (ps.map Pn.core) t deep around) e w'
  | 0, t, h => absurd h (Nat.not_lt_zero _)
  | n + 1, t, hsz => fun hsm l ps deep around a c W hb0 hcap hk hl hrow hB hps hdeep => by
    obtain ⟨iv, hvi, hv0, hv1, hv2⟩ := info_parts Tryz.infoP
    have HL : Hid (LiesN W Q a t.sub) := hl
    have hlen := hsm.len
    have HK : Hid (∀ p ∈ ps, PnL W0 Q p) := hk
    have HB0 : Hid (Below B W0 W) := hb0
    have HKt : Hid (PnL W0 Q ⟨t, a, c, deep, around⟩) := ⟨hl.stay (fun _ h _ => h) (fun b h _ => (hb0.block b (hQ b h)).symm), hcap⟩
    clear hk hb0 hcap
    have HR : Hid (W.ownsRow B 49 7 l ps.length (ps.flatMap pnc)) := hrow
    obtain ⟨la, lc, rfl⟩ := pn_shape hrow
    have HIH : Hid (∀ j (hj : j < t.sub.length) (l : Value) (ps : List Pn) (a : Option Addr) (c : Nat) (W : World) (d : Nat) (r : Int), Below B W0 W → t.sub[j].sub.length ≤ c → (∀ p ∈ ps, PnL W0 Q p) → LiesN W Q a t.sub[j].sub → W.ownsRow B 49 7 l ps.length (ps.flatMap pnc) → B ≤ W.heap.size → ps.length ≤ 2001 → d ≤ 101 → Calls Tryz.prog 30 #[l, nodeV t.sub[j] a c, .int .i64 (d : Nat), .int .i64 r] W fun e w' => RetFlL B W0 Q W l (flT (ps.map Pn.core) t.sub[j] d r) e w') := fun j hj l ps a c W d r k1 k2 k3 h1 h2 h3 h4 h5 => flat_anyL B W0 Q hQ n t.sub[j] (by have := t.sub_size j hj; omega) (hsm.at_ j hj) l ps d r a c W k1 k2 k3 h1 h2 h3 h4 h5
    have HEq := flT_eq (ps.map Pn.core) t deep around
    rw [List.length_map] at HEq
    clear hl hsm hsz hrow
    unfold nodeV
    by_cases hstop : 2000 < ps.length ∨ 100 < deep
    · rw [if_pos hstop] at HEq
      have HQ : Hid _ := HEq
      have hcase : decide ((2000 : Int) < (ps.length : Int)) = true ∨ (decide ((2000 : Int) < (ps.length : Int)) = false ∧ decide ((100 : Int) < (deep : Int)) = true) := by
        by_cases h : 2000 < ps.length
        · left; simp; omega
        · right; exact ⟨by simp; omega, by simp; omega⟩
      clear hstop HEq
      rcases hcase with q1 | ⟨q1, q2⟩
      all_goals
        go_enter Tryz.func30, Tryz.ntmps30
        go_wp2
        go_ret
        exact ⟨_, ps, rfl, HQ.out.symm, (FR.refl HR.out).alloc _, HK.out⟩
    · rw [if_neg hstop] at HEq
      have HQ : Hid _ := HEq
      have q1 : decide ((2000 : Int) < (ps.length : Int)) = false := by simp; omega
      have q2 : decide ((100 : Int) < (deep : Int)) = false := by simp; omega
      have q1' : ¬ 2000 < ps.length := by omega
      have q2' : ¬ 100 < deep := by omega
      clear hstop HEq
      obtain ⟨d1, HD⟩ : ∃ d1, Hid (d1 = deep + 1) := ⟨_, rfl⟩
      have hdi : (deep : Int) + 1 = (d1 : Int) := by rw [HD.out]; omega
      have hd101 : d1 ≤ 101 := by rw [HD.out]; omega
      have H7 : Hid (∀ j u, (pnc ⟨t, a, c, deep, around⟩)[j]? = some u → ((W.alloc (.cells #[.int .i64 t.id, .string t.nm, .int .i64 t.rep, .int .i64 t.kind, .slice a t.sub.length c] 24)).alloc (.cells #[.int .i64 t.id, .string t.nm, .int .i64 t.rep, .int .i64 t.kind, .slice a t.sub.length c, .int .i64 (deep : Nat), .int .i64 around] 49)).cell? ((⟨W.heap.size + 1, 0, none⟩ : Addr).add j) = some u) := fun j u h => by
        have := seven_cells (w := W.alloc (.cells #[.int .i64 t.id, .string t.nm, .int .i64 t.rep, .int .i64 t.kind, .slice a t.sub.length c] 24)) (T := 49) j u h
        rwa [show (W.alloc (.cells #[.int .i64 t.id, .string t.nm, .int .i64 t.rep, .int .i64 t.kind, .slice a t.sub.length c] 24)).heap.size = W.heap.size + 1 by simp] at this
      have HBox : Hid ((W.alloc (.cells #[.int .i64 t.id, .string t.nm, .int .i64 t.rep, .int .i64 t.kind, .slice a t.sub.length c] 24)).heap[W.heap.size]? = some (.cells #[.int .i64 t.id, .string t.nm, .int .i64 t.rep, .int .i64 t.kind, .slice a t.sub.length c] 24 (0, 0))) := heap_alloc_new W _
      go_enter Tryz.func30, Tryz.ntmps30
      go_wp2_with (at_builtin; refine wpList_append_where _ rfl _ _ 46 rfl B 49 iv (.agg #[.int .i64 0, .string ⟨#[]⟩, .int .i64 0, .int .i64 0, .slice none 0 0, .int .i64 0, .int .i64 0]) 7 80 Tryz.underlying46 hvi hv0 hv1 hv2 rfl (by decide) _ ps.length (ps.flatMap pnc) rfl ((HR.out.alloc _).alloc _) ⟨W.heap.size + 1, 0, none⟩ 1 1 (pnc ⟨t, a, c, deep, around⟩) rfl rfl H7.out (by intro u hu; simp [pnc] at hu; rcases hu with rfl | rfl | rfl | rfl | rfl | rfl | rfl <;> rfl) (by unfold maxLen; omega) (by omega) (by simp; omega) (by decide) ?_; intro l1 w1 hown1 hgrow1 hwh1)
      have HF1 : Hid (FR B W (.slice la ps.length lc) w1 l1 (ps ++ [⟨t, a, c, deep, around⟩])) := ((FR.refl HR.out).alloc _).push (p := ⟨t, a, c, deep, around⟩) hown1 hgrow1 hwh1
      have HB1 : Hid (w1.heap[W.heap.size]? = some (.cells #[.int .i64 t.id, .string t.nm, .int .i64 t.rep, .int .i64 t.kind, .slice a t.sub.length c] 24 (0, 0))) := by
        show _ = _
        exact (hgrow1.block W.heap.size (by simp; omega) (pn_apart (HR.out.alloc _) HBox.out)).trans (blk_alloc HBox.out)
      have HC1 : Hid ((ps ++ [⟨t, a, c, deep, around⟩] : List Pn).map Pn.core = flL (ps.map Pn.core ++ [⟨t, deep, around⟩]) (t.sub.take 0) d1 ps.length) := by
        show _ = _
        rw [List.take_zero, flL, List.map_append]
        rfl
      clear hown1 hgrow1 hwh1 H7 HBox
      go_loopw [0, 10] (fun lv x wr => ∃ (i : Nat) (qs : List Pn), i ≤ t.sub.length ∧ x = .int .i64 i ∧ Hid (qs.map Pn.core = flL (ps.map Pn.core ++ [⟨t, deep, around⟩]) (t.sub.take i) d1 ps.length) ∧ Hid (FR B W (.slice la ps.length lc) wr lv qs) ∧ Hid (∀ p ∈ qs, PnL W0 Q p) ∧ Hid (wr.heap[W.heap.size]? = some (.cells #[.int .i64 t.id, .string t.nm, .int .i64 t.rep, .int .i64 t.kind, .slice a t.sub.length c] 24 (0, 0)))) (fun _ x _ => t.sub.length - (intOf x).toNat)
      case atStart => exact ⟨0, _, Nat.zero_le _, rfl, HC1, HF1, fun p hp => (List.mem_append.1 hp).elim (HK.out p) (fun h => by obtain rfl := List.mem_singleton.1 h; exact HKt.out), HB1⟩
      case round =>
        clear HC1 HF1 HB1
        obtain ⟨i, qs, hik, rfl, HC, HF, HKq, HB⟩ := hrel
        obtain ⟨⟨p0, p1, p2, p3, p4⟩, _⟩ := row_five HB.out
        obtain ⟨ka, kc, rfl⟩ := pn_shape HF.out.row
        have hgs := HF.out.grown.size
        by_cases hlt : i < t.sub.length
        · have HLr : Hid (LiesN wr Q a t.sub) := HL.out.stay (fun _ h _ => h) (fun b h _ => (HF.out.below HR.out hB).block b (hQ b h))
          obtain ⟨b, o, a1, c1, rfl, d0, e1, d2, d3, d4, hl1, hc1⟩ := HLr.out.at2 i hlt
          have HC2 : Hid _ := HIH.out i hlt (.slice ka qs.length kc) qs a1 c1 wr d1 (ps.length : Int) (HB0.out.trans (HF.out.below HR.out hB)) hc1 HKq.out hl1 HF.out.row (by omega) (by
            have h := congrArg List.length HC.out
            rw [List.length_map] at h
            rw [h]
            exact flL_len _ _ _ _ (by rw [List.length_append, List.length_map]; simp; omega)) hd101
          clear hl1 hc1
          go_wp2_with fail
          refine Calls.mono HC2.out ?_
          clear HC2
          rintro e w2 ⟨l2, ps2, rfl, hcore, hF2, hk2⟩
          have HK2 : Hid (∀ p ∈ ps2, PnL W0 Q p) := hk2
          have HN : Hid (ps2.map Pn.core = flL (ps.map Pn.core ++ [⟨t, deep, around⟩]) (t.sub.take (i + 1)) d1 ps.length) := by
            show _ = _
            rw [hcore, HC.out, ← flL_take t.sub i hlt]
          have HF3 : Hid _ := HF.out.trans hF2
          have HB3 : Hid (w2.heap[W.heap.size]? = some (.cells #[.int .i64 t.id, .string t.nm, .int .i64 t.rep, .int .i64 t.kind, .slice (some ⟨b, o, none⟩) t.sub.length c] 24 (0, 0))) := by
            show _ = _
            rw [hF2.grown.block W.heap.size (lt_of_block HB.out) (pn_apart HF.out.row HB.out)]
            exact HB.out
          clear hcore hF2 hk2
          go_wp2
          go_roundw
          case rel => exact ⟨i + 1, ps2, by omega, by go_num, HN, HF3, HK2, HB3⟩
          case measure => simp [intOf]; omega
        · obtain rfl : i = t.sub.length := by omega
          have HN : Hid (qs.map Pn.core = flT (ps.map Pn.core) t deep around) := by
            show _ = _
            rw [HC.out, List.take_length, HQ.out, HD.out]
          go_wp2
          go_ret
          exact ⟨_, qs, rfl, HN.out, HF.out, HKq.out⟩
set_option maxRecDepth 100000 in
set_option maxHeartbeats 1600000 in
theorem flatF_anyL (t : Tr) (hsm : t.Sm) (P : Nat → Prop) (a : Option Addr) (c : Nat) (W : World) (hl : LiesN W P a t.sub) (hcap : t.sub.length ≤ c) :
    Calls Tryz.prog 17 #[nodeV t a c] W fun e w' => (∃ (ps : List Pn) (la : Option Addr) (lc : Nat), e = .returned (.slice la ps.length lc) ∧ ps.map Pn.core = fl t ∧ w'.ownsRow W.heap.size 49 7 (.slice la ps.length lc) ps.length (ps.flatMap pnc) ∧ ∀ p ∈ ps, LiesN w' (fun b => P b ∧ b < W.heap.size) p.a p.t.sub ∧ p.t.sub.length ≤ p.c) ∧ Below W.heap.size W w' := by
  have hb0 : ∀ ob : Obj, Below W.heap.size W (W.alloc ob) := fun ob => (Below.refl _ _).alloc (Nat.le_refl _) ob
  have HC : Hid (∀ ob : Obj, Calls Tryz.prog 30 #[.slice none 0 0, nodeV t a c, .int .i64 ((1 : Nat) : Int), .int .i64 (-1)] (W.alloc ob) fun e w' => RetFlL (W.alloc ob).heap.size (W.alloc ob) (fun b => P b ∧ b < W.heap.size) (W.alloc ob) (.slice none 0 0) (flT ([] : List Pc) t 1 (-1)) e w') := fun ob =>
    flat_anyL (W.alloc ob).heap.size (W.alloc ob) (fun b => P b ∧ b < W.heap.size) (fun b h => by simp; omega) (SizeOf.sizeOf t + 1) t (Nat.lt_succ_self _) hsm (.slice none 0 0) [] 1 (-1) a c (W.alloc ob) (Below.refl _ _) hcap (fun p hp => by simp at hp) (hl.stay (fun _ hp h => ⟨hp, h⟩) (fun b _ h => (hb0 ob).block b h)) (World.ownsRow_nil _ _ _ _) (Nat.le_refl _) (by simp) (by omega)
  have H1 : Hid (∀ ob : Obj, Below W.heap.size W (W.alloc ob)) := hb0
  clear hl hb0
  unfold nodeV at *
  go_enter Tryz.func17, Tryz.ntmps17
  go_wp2_with fail
  refine Calls.mono (HC.out _) ?_
  rintro e w1 ⟨l', ps, rfl, hc, hF, hk⟩
  obtain ⟨la, lc, rfl⟩ := pn_shape hF.row
  have HCo : Hid (ps.map Pn.core = fl t) := hc
  have HRw := hF.row
  have HBl := hF.below (qs := []) (World.ownsRow_nil _ _ _ _) (Nat.le_refl _)
  have HKp : Hid (∀ p ∈ ps, LiesN w1 (fun b => P b ∧ b < W.heap.size) p.a p.t.sub ∧ p.t.sub.length ≤ p.c) := fun p hp => ⟨(hk p hp).1.stay (fun _ h _ => h) (fun b h _ => HBl.block b (by simp; omega)), (hk p hp).2⟩
  have HB : Hid (Below W.heap.size W w1) := (H1.out _).trans (HBl.mono (by simp))
  have HRw2 : Hid (w1.ownsRow W.heap.size 49 7 (.slice la ps.length lc) ps.length (ps.flatMap pnc)) := by
    refine ⟨HRw.1, ?_⟩
    rcases HRw.2 with h | ⟨g, cap, cur, h1, h2, h3⟩
    · exact .inl h
    · exact .inr ⟨g, cap, cur, h1, by simp at h2; omega, h3⟩
  clear hc hF HRw HBl hk
  go_wp2
  go_ret
  exact ⟨⟨ps, la, lc, rfl, HCo.out, HRw2.out, HKp.out⟩, HB.out⟩
end Go.Proofs.YtbaglcpcgpfjiaaGreatDoor
