/-
  The reference's flat list, told where its places' nodes lie.
  Words of a schema's text: which bytes they are of; where one ends.
-/
import Derived.Test.YtnfjpngmadoflaaGreatDoorNBFlatN
import Derived.Test.YtnfjpngmadoflaaGreatDoorNBInB
namespace Go.Proofs.YtnfjpngmadoflaaGreatDoor
open Go.RowKit
/-- A place's nodes lie in blocks that were there. -/
def PnL (W0 : World) (Q : Nat → Prop) (p : Pn) : Prop := LiesN W0 Q p.a p.t.sub ∧ p.t.sub.length ≤ p.c
def RetFlL (B : Nat) (W0 : World) (Q : Nat → Prop) (W : World) (l : Value) (want : List Pc) (e : Ending) (w' : World) : Prop :=
  ∃ l' ps, e = .returned l' ∧ ps.map Pn.core = want ∧ FR B W l w' l' ps ∧ ∀ p ∈ ps, PnL W0 Q p
set_option maxRecDepth 100000 in
set_option maxHeartbeats 1600000 in
theorem flat_anyL (B : Nat) (W0 : World) (Q : Nat → Prop) (hQ : ∀ b, Q b → b < B) : ∀ (n : Nat) (t : Tr), SizeOf.sizeOf t < n → t.Sm → ∀ (l : Value) (ps : List Pn) (deep : Nat) (around : Int) (a : Option Addr) (c : Nat) (W : World), Below B W0 W → t.sub.length ≤ c → (∀ p ∈ ps, PnL W0 Q p) → LiesN W Q a t.sub → W.ownsRow B 48 7 l ps.length (ps.flatMap pnc) → B ≤ W.heap.size → ps.length ≤ 2001 → deep ≤ 101 →
    Calls Tryz.prog 31 #[l, nodeV t a c, .int .i64 (deep : Nat), .int .i64 around] W fun e w' => RetFlL B W0 Q W l (flT (ps.map Pn.core) t deep around) e w'
  | 0, t, h => absurd h (Nat.not_lt_zero _)
  | n + 1, t, hsz => fun hsm l ps deep around a c W hb0 hcap hk hl hrow hB hps hdeep => by
    obtain ⟨iv, hvi, hv0, hv1, hv2⟩ := info_parts Tryz.infoP
    have HL : Hid (LiesN W Q a t.sub) := hl
    have hlen := hsm.len
    have HK : Hid (∀ p ∈ ps, PnL W0 Q p) := hk
    have HB0 : Hid (Below B W0 W) := hb0
    have HKt : Hid (PnL W0 Q ⟨t, a, c, deep, around⟩) := ⟨hl.stay (fun _ h _ => h) (fun b h _ => (hb0.block b (hQ b h)).symm), hcap⟩
    clear hk hb0 hcap
    have HR : Hid (W.ownsRow B 48 7 l ps.length (ps.flatMap pnc)) := hrow
    obtain ⟨la, lc, rfl⟩ := pn_shape hrow
    have HIH : Hid (∀ j (hj : j < t.sub.length) (l : Value) (ps : List Pn) (a : Option Addr) (c : Nat) (W : World) (d : Nat) (r : Int), Below B W0 W → t.sub[j].sub.length ≤ c → (∀ p ∈ ps, PnL W0 Q p) → LiesN W Q a t.sub[j].sub → W.ownsRow B 48 7 l ps.length (ps.flatMap pnc) → B ≤ W.heap.size → ps.length ≤ 2001 → d ≤ 101 → Calls Tryz.prog 31 #[l, nodeV t.sub[j] a c, .int .i64 (d : Nat), .int .i64 r] W fun e w' => RetFlL B W0 Q W l (flT (ps.map Pn.core) t.sub[j] d r) e w') := fun j hj l ps a c W d r k1 k2 k3 h1 h2 h3 h4 h5 => flat_anyL B W0 Q hQ n t.sub[j] (by have := t.sub_size j hj; omega) (hsm.at_ j hj) l ps d r a c W k1 k2 k3 h1 h2 h3 h4 h5
    have HEq := flT_eq (ps.map Pn.core) t deep around
    rw [List.length_map] at HEq
    clear hl hsm hsz hrow
    unfold nodeV
    by_cases hstop : 2000 < ps.length ∨ 100 < deep
    · rw [if_pos hstop] at HEq
      have HQ : Hid _ := HEq
      have hcase : decide ((2000 : Int) < (ps.length : Int)) = true ∨ (decide ((2000 : Int) < (ps.length : Int)) = false ∧ decide ((100 : Int) < (deep : Int)) = true) := by
        by_cases h : 2000 < ps.length
        · left; simp; omega
        · right; exact ⟨by simp; omega, by simp; omega⟩
      clear hstop HEq
      rcases hcase with q1 | ⟨q1, q2⟩
      all_goals
        go_enter Tryz.func31, Tryz.ntmps31
        go_wp2
        go_ret
        exact ⟨_, ps, rfl, HQ.out.symm, (FR.refl HR.out).alloc _, HK.out⟩
    · rw [if_neg hstop] at HEq
      have HQ : Hid _ := HEq
      have q1 : decide ((2000 : Int) < (ps.length : Int)) = false := by simp; omega
      have q2 : decide ((100 : Int) < (deep : Int)) = false := by simp; omega
      have q1' : ¬ 2000 < ps.length := by omega
      have q2' : ¬ 100 < deep := by omega
      clear hstop HEq
      obtain ⟨d1, HD⟩ : ∃ d1, Hid (d1 = deep + 1) := ⟨_, rfl⟩
      have hdi : (deep : Int) + 1 = (d1 : Int) := by rw [HD.out]; omega
      have hd101 : d1 ≤ 101 := by rw [HD.out]; omega
      have H7 : Hid (∀ j u, (pnc ⟨t, a, c, deep, around⟩)[j]? = some u → ((W.alloc (.cells #[.int .i64 t.id, .string t.nm, .int .i64 t.rep, .int .i64 t.kind, .slice a t.sub.length c] 24)).alloc (.cells #[.int .i64 t.id, .string t.nm, .int .i64 t.rep, .int .i64 t.kind, .slice a t.sub.length c, .int .i64 (deep : Nat), .int .i64 around] 48)).cell? ((⟨W.heap.size + 1, 0, none⟩ : Addr).add j) = some u) := fun j u h => by
        have := seven_cells (w := W.alloc (.cells #[.int .i64 t.id, .string t.nm, .int .i64 t.rep, .int .i64 t.kind, .slice a t.sub.length c] 24)) (T := 48) j u h
        rwa [show (W.alloc (.cells #[.int .i64 t.id, .string t.nm, .int .i64 t.rep, .int .i64 t.kind, .slice a t.sub.length c] 24)).heap.size = W.heap.size + 1 by simp] at this
      have HBox : Hid ((W.alloc (.cells #[.int .i64 t.id, .string t.nm, .int .i64 t.rep, .int .i64 t.kind, .slice a t.sub.length c] 24)).heap[W.heap.size]? = some (.cells #[.int .i64 t.id, .string t.nm, .int .i64 t.rep, .int .i64 t.kind, .slice a t.sub.length c] 24 (0, 0))) := heap_alloc_new W _
      go_enter Tryz.func31, Tryz.ntmps31
      go_wp2_with (at_builtin; refine wpList_append_where _ rfl _ _ 45 rfl B 48 iv (.agg #[.int .i64 0, .string ⟨#[]⟩, .int .i64 0, .int .i64 0, .slice none 0 0, .int .i64 0, .int .i64 0]) 7 80 Tryz.underlying45 hvi hv0 hv1 hv2 rfl (by decide) _ ps.length (ps.flatMap pnc) rfl ((HR.out.alloc _).alloc _) ⟨W.heap.size + 1, 0, none⟩ 1 1 (pnc ⟨t, a, c, deep, around⟩) rfl rfl H7.out (by intro u hu; simp [pnc] at hu; rcases hu with rfl | rfl | rfl | rfl | rfl | rfl | rfl <;> rfl) (by unfold maxLen; omega) (by omega) (by simp; omega) (by decide) ?_; intro l1 w1 hown1 hgrow1 hwh1)
      have HF1 : Hid (FR B W (.slice la ps.length lc) w1 l1 (ps ++ [⟨t, a, c, deep, around⟩])) := ((FR.refl HR.out).alloc _).push (p := ⟨t, a, c, deep, around⟩) hown1 hgrow1 hwh1
      have HB1 : Hid (w1.heap[W.heap.size]? = some (.cells #[.int .i64 t.id, .string t.nm, .int .i64 t.rep, .int .i64 t.kind, .slice a t.sub.length c] 24 (0, 0))) := by
        show _ = _
        exact (hgrow1.block W.heap.size (by simp; omega) (pn_apart (HR.out.alloc _) HBox.out)).trans (blk_alloc HBox.out)
      have HC1 : Hid ((ps ++ [⟨t, a, c, deep, around⟩] : List Pn).map Pn.core = flL (ps.map Pn.core ++ [⟨t, deep, around⟩]) (t.sub.take 0) d1 ps.length) := by
        show _ = _
        rw [List.take_zero, flL, List.map_append]
        rfl
      clear hown1 hgrow1 hwh1 H7 HBox
      go_loopw [0, 10] (fun lv x wr => ∃ (i : Nat) (qs : List Pn), i ≤ t.sub.length ∧ x = .int .i64 i ∧ Hid (qs.map Pn.core = flL (ps.map Pn.core ++ [⟨t, deep, around⟩]) (t.sub.take i) d1 ps.length) ∧ Hid (FR B W (.slice la ps.length lc) wr lv qs) ∧ Hid (∀ p ∈ qs, PnL W0 Q p) ∧ Hid (wr.heap[W.heap.size]? = some (.cells #[.int .i64 t.id, .string t.nm, .int .i64 t.rep, .int .i64 t.kind, .slice a t.sub.length c] 24 (0, 0)))) (fun _ x _ => t.sub.length - (intOf x).toNat)
      case atStart => exact ⟨0, _, Nat.zero_le _, rfl, HC1, HF1, fun p hp => (List.mem_append.1 hp).elim (HK.out p) (fun h => by obtain rfl := List.mem_singleton.1 h; exact HKt.out), HB1⟩
      case round =>
        clear HC1 HF1 HB1
        obtain ⟨i, qs, hik, rfl, HC, HF, HKq, HB⟩ := hrel
        obtain ⟨⟨p0, p1, p2, p3, p4⟩, _⟩ := row_five HB.out
        obtain ⟨ka, kc, rfl⟩ := pn_shape HF.out.row
        have hgs := HF.out.grown.size
        by_cases hlt : i < t.sub.length
        · have HLr : Hid (LiesN wr Q a t.sub) := HL.out.stay (fun _ h _ => h) (fun b h _ => (HF.out.below HR.out hB).block b (hQ b h))
          obtain ⟨b, o, a1, c1, rfl, d0, e1, d2, d3, d4, hl1, hc1⟩ := HLr.out.at2 i hlt
          have HC2 : Hid _ := HIH.out i hlt (.slice ka qs.length kc) qs a1 c1 wr d1 (ps.length : Int) (HB0.out.trans (HF.out.below HR.out hB)) hc1 HKq.out hl1 HF.out.row (by omega) (by
            have h := congrArg List.length HC.out
            rw [List.length_map] at h
            rw [h]
            exact flL_len _ _ _ _ (by rw [List.length_append, List.length_map]; simp; omega)) hd101
          clear hl1 hc1
          go_wp2_with fail
          refine Calls.mono HC2.out ?_
          clear HC2
          rintro e w2 ⟨l2, ps2, rfl, hcore, hF2, hk2⟩
          have HK2 : Hid (∀ p ∈ ps2, PnL W0 Q p) := hk2
          have HN : Hid (ps2.map Pn.core = flL (ps.map Pn.core ++ [⟨t, deep, around⟩]) (t.sub.take (i + 1)) d1 ps.length) := by
            show _ = _
            rw [hcore, HC.out, ← flL_take t.sub i hlt]
          have HF3 : Hid _ := HF.out.trans hF2
          have HB3 : Hid (w2.heap[W.heap.size]? = some (.cells #[.int .i64 t.id, .string t.nm, .int .i64 t.rep, .int .i64 t.kind, .slice (some ⟨b, o, none⟩) t.sub.length c] 24 (0, 0))) := by
            show _ = _
            rw [hF2.grown.block W.heap.size (lt_of_block HB.out) (pn_apart HF.out.row HB.out)]
            exact HB.out
          clear hcore hF2 hk2
          go_wp2
          go_roundw
          case rel => exact ⟨i + 1, ps2, by omega, by go_num, HN, HF3, HK2, HB3⟩
          case measure => simp [intOf]; omega
        · obtain rfl : i = t.sub.length := by omega
          have HN : Hid (qs.map Pn.core = flT (ps.map Pn.core) t deep around) := by
            show _ = _
            rw [HC.out, List.take_length, HQ.out, HD.out]
          go_wp2
          go_ret
          exact ⟨_, qs, rfl, HN.out, HF.out, HKq.out⟩
set_option maxRecDepth 100000 in
set_option maxHeartbeats 1600000 in
theorem flatF_anyL (t : Tr) (hsm : t.Sm) (P : Nat → Prop) (a : Option Addr) (c : Nat) (W : World) (hl : LiesN W P a t.sub) (hcap : t.sub.length ≤ c) :
    Calls Tryz.prog 14 #[nodeV t a c] W fun e w' => (∃ (ps : List Pn) (la : Option Addr) (lc : Nat), e = .returned (.slice la ps.length lc) ∧ ps.map Pn.core = fl t ∧ w'.ownsRow W.heap.size 48 7 (.slice la ps.length lc) ps.length (ps.flatMap pnc) ∧ ∀ p ∈ ps, LiesN w' (fun b => P b ∧ b < W.heap.size) p.a p.t.sub ∧ p.t.sub.length ≤ p.c) ∧ Below W.heap.size W w' := by
  have hb0 : ∀ ob : Obj, Below W.heap.size W (W.alloc ob) := fun ob => (Below.refl _ _).alloc (Nat.le_refl _) ob
  have HC : Hid (∀ ob : Obj, Calls Tryz.prog 31 #[.slice none 0 0, nodeV t a c, .int .i64 ((1 : Nat) : Int), .int .i64 (-1)] (W.alloc ob) fun e w' => RetFlL (W.alloc ob).heap.size (W.alloc ob) (fun b => P b ∧ b < W.heap.size) (W.alloc ob) (.slice none 0 0) (flT ([] : List Pc) t 1 (-1)) e w') := fun ob =>
    flat_anyL (W.alloc ob).heap.size (W.alloc ob) (fun b => P b ∧ b < W.heap.size) (fun b h => by simp; omega) (SizeOf.sizeOf t + 1) t (Nat.lt_succ_self _) hsm (.slice none 0 0) [] 1 (-1) a c (W.alloc ob) (Below.refl _ _) hcap (fun p hp => by simp at hp) (hl.stay (fun _ hp h => ⟨hp, h⟩) (fun b _ h => (hb0 ob).block b h)) (World.ownsRow_nil _ _ _ _) (Nat.le_refl _) (by simp) (by omega)
  have H1 : Hid (∀ ob : Obj, Below W.heap.size W (W.alloc ob)) := hb0
  clear hl hb0
  unfold nodeV at *
  go_enter Tryz.func14, Tryz.ntmps14
  go_wp2_with fail
  refine Calls.mono (HC.out _) ?_
  rintro e w1 ⟨l', ps, rfl, hc, hF, hk⟩
  obtain ⟨la, lc, rfl⟩ := pn_shape hF.row
  have HCo : Hid (ps.map Pn.core = fl t) := hc
  have HRw := hF.row
  have HBl := hF.below (qs := []) (World.ownsRow_nil _ _ _ _) (Nat.le_refl _)
  have HKp : Hid (∀ p ∈ ps, LiesN w1 (fun b => P b ∧ b < W.heap.size) p.a p.t.sub ∧ p.t.sub.length ≤ p.c) := fun p hp => ⟨(hk p hp).1.stay (fun _ h _ => h) (fun b h _ => HBl.block b (by simp; omega)), (hk p hp).2⟩
  have HB : Hid (Below W.heap.size W w1) := (H1.out _).trans (HBl.mono (by simp))
  have HRw2 : Hid (w1.ownsRow W.heap.size 48 7 (.slice la ps.length lc) ps.length (ps.flatMap pnc)) := by
    refine ⟨HRw.1, ?_⟩
    rcases HRw.2 with h | ⟨g, cap, cur, h1, h2, h3⟩
    · exact .inl h
    · exact .inr ⟨g, cap, cur, h1, by simp at h2; omega, h3⟩
  clear hc hF HRw HBl hk
  go_wp2
  go_ret
  exact ⟨⟨ps, la, lc, rfl, HCo.out, HRw2.out, HKp.out⟩, HB.out⟩
end Go.Proofs.YtnfjpngmadoflaaGreatDoor

namespace Go.Proofs.YtnfjpngmadoflaaGreatDoor
open Go.RowKit
def isSm (b : UInt8) : Bool := decide (97 ≤ b.toNat ∧ b.toNat ≤ 122)
def isBg (b : UInt8) : Bool := decide (65 ≤ b.toNat ∧ b.toNat ≤ 90)
def isLt (b : UInt8) : Bool := isSm b || isBg b
def isDg (b : UInt8) : Bool := decide (48 ≤ b.toNat ∧ b.toNat ≤ 57)
def isBl (b : UInt8) : Bool := decide (b.toNat = 32 ∨ b.toNat = 10)
set_option maxRecDepth 100000 in
set_option maxHeartbeats 1600000 in
theorem isLetter_any (b : UInt8) (W : World) : Calls Tryz.prog 66 #[.int .u8 b.toNat] W fun e w' => e = .returned (.bool (isLt b)) ∧ w' = W := by
  obtain ⟨c, HC⟩ : ∃ c, Hid (isSm b = c) := ⟨_, rfl⟩
  cases c
  · by_cases h1 : 65 ≤ b.toNat
    all_goals
      by_cases h2 : b.toNat ≤ 90
      all_goals
        have HE : Hid (isLt b = isBg b) := (by show _ = _; rw [isLt, HC.out]; rfl)
        have HG : Hid (isBg b = decide (65 ≤ b.toNat ∧ b.toNat ≤ 90)) := rfl
        go_enter Tryz.func66, Tryz.ntmps66
        go_wp2_with fail
        refine (isSmall_any b W).mono ?_
        rw [show decide (97 ≤ b.toNat ∧ b.toNat ≤ 122) = false from HC.out]
        rintro e w1 ⟨rfl, hw⟩
        obtain rfl := hw.symm
        go_wp2
        all_goals go_ret
        all_goals (rw [HE.out, HG.out]; simp [h1, h2]; try omega)
  · have HE : Hid (isLt b = true) := (by show _ = _; rw [isLt, HC.out]; rfl)
    go_enter Tryz.func66, Tryz.ntmps66
    go_wp2_with fail
    refine (isSmall_any b W).mono ?_
    rw [show decide (97 ≤ b.toNat ∧ b.toNat ≤ 122) = true from HC.out]
    rintro e w1 ⟨rfl, hw⟩
    obtain rfl := hw.symm
    go_wp2
    go_ret
    exact ⟨by rw [HE.out]; rfl, rfl⟩
set_option maxRecDepth 100000 in
set_option maxHeartbeats 1600000 in
theorem isDigit_any (b : UInt8) (W : World) : Calls Tryz.prog 67 #[.int .u8 b.toNat] W fun e w' => e = .returned (.bool (isDg b)) ∧ w' = W := by
  by_cases h1 : 48 ≤ b.toNat
  all_goals
    by_cases h2 : b.toNat ≤ 57
    all_goals
      have HG : Hid (isDg b = decide (48 ≤ b.toNat ∧ b.toNat ≤ 57)) := rfl
      go_enter Tryz.func67, Tryz.ntmps67
      go_wp2
      all_goals go_ret
      all_goals (rw [HG.out]; simp [h1, h2]; try omega)
set_option maxRecDepth 100000 in
set_option maxHeartbeats 1600000 in
theorem isBlank_any (b : UInt8) (W : World) : Calls Tryz.prog 53 #[.int .u8 b.toNat] W fun e w' => e = .returned (.bool (isBl b)) ∧ w' = W := by
  have HG : Hid (isBl b = decide (b.toNat = 32 ∨ b.toNat = 10)) := rfl
  by_cases h1 : b.toNat = 32
  · go_enter Tryz.func53, Tryz.ntmps53
    go_wp2
    all_goals go_ret
    all_goals (rw [HG.out]; simp [h1])
  · have q1 : ((b.toNat : Int) == 32) = false := by simp; omega
    go_enter Tryz.func53, Tryz.ntmps53
    go_wp2
    all_goals go_ret
    all_goals (rw [HG.out]; simp [h1]; rw [Bool.eq_iff_iff]; simp; omega)
/-- A list's next element is none of these. -/
def Stop (p : UInt8 → Bool) (r : List UInt8) : Prop := ∀ c t, r = c :: t → p c = false
/-- A word, with what stands behind it. -/
def IsTok (w rest : List UInt8) : Prop :=
  (w = [] ∧ rest = []) ∨ ∃ c t, w = c :: t ∧ ((isLt c = true ∧ (∀ x ∈ t, isLt x = true) ∧ Stop isLt rest) ∨ (c.toNat = 35 ∧ (∀ x ∈ t, isDg x = true) ∧ Stop isDg rest) ∨ (isLt c = false ∧ c.toNat ≠ 35 ∧ t = []))
theorem at_mid {s : ByteArray} {pre m rest : List UInt8} (hs : s.data.toList = pre ++ (m ++ rest)) {i : Nat} (hi : i < m.length) : ∃ h : pre.length + i < s.size, s[pre.length + i] = m[i] := by
  have hl : s.data.toList.length = s.size := by simp
  have h : pre.length + i < s.size := by rw [← hl, hs]; simp; omega
  refine ⟨h, ?_⟩
  have e : s[pre.length + i] = s.data.toList[pre.length + i]'(by rw [hl]; exact h) := rfl
  rw [e]
  simp only [hs]
  rw [List.getElem_append_right (by omega), List.getElem_append_left (by omega)]
  congr 1
  omega
theorem sz_mid {s : ByteArray} {pre m rest : List UInt8} (hs : s.data.toList = pre ++ (m ++ rest)) : s.size = pre.length + m.length + rest.length := by
  have hl : s.data.toList.length = s.size := by simp
  rw [← hl, hs]; simp; omega
set_option maxRecDepth 100000 in
theorem goesNot_any (b : UInt8) (W : World) : Calls Tryz.prog 65 #[.int .u8 b.toNat] W fun e w' => e = .returned (.bool false) ∧ w' = W := by
  go_enter Tryz.func65, Tryz.ntmps65
  go_wp2
  go_ret
  exact ⟨rfl, rfl⟩
set_option maxRecDepth 100000 in
set_option maxHeartbeats 3200000 in
theorem wordEnd_lt (s : ByteArray) (p n : Nat) (hm : s.size ≤ 100000) (hp : p < s.size) (hn : p < n) (hns : n ≤ s.size) (hc : isLt s[p] = true) (ht : ∀ k (h : k < s.size), p < k → k < n → isLt s[k] = true) (hr : ∀ h : n < s.size, isLt s[n] = false) (W : World) :
    Calls Tryz.prog 54 #[.string s, .int .i64 (p : Nat)] W fun e w' => e = .returned (.int .i64 (n : Nat)) ∧ w' = W := by
  have q0 : ((p : Int) == (s.size : Int)) = false := by simp; omega
  have HT : Hid _ := ht
  have HR : Hid _ := hr
  clear ht hr
  go_enter Tryz.func54, Tryz.ntmps54
  go_wp2_with fail
  refine (isLetter_any s[p] W).mono ?_
  rw [hc]
  rintro e w1 ⟨rfl, hw⟩
  obtain rfl := hw.symm
  go_wp2_with fail
  go_loop [6] (fun x => ∃ k : Nat, p < k ∧ k ≤ n ∧ x = .int .i64 k) (fun x => n - (intOf x).toNat)
  case atStart => exact ⟨p + 1, by omega, by omega, by go_num⟩
  case round =>
    obtain ⟨k, hk, hkn, rfl⟩ := hrel
    by_cases hlt : k < n
    · have hks : k < s.size := by omega
      have HB : Hid (isLt s[k] = true) := HT.out k hks hk hlt
      go_wp2_with fail
      refine (isLetter_any s[k] W).mono ?_
      rw [HB.out]
      rintro e w1 ⟨rfl, hw⟩
      obtain rfl := hw.symm
      go_wp2
      go_round
      case rel => exact ⟨k + 1, by omega, by omega, by go_num⟩
      case measure => simp [intOf]; omega
    · obtain rfl : k = n := by omega
      clear hlt hkn
      by_cases hks : k < s.size
      · have HB : Hid (isLt s[k] = false) := HR.out hks
        have q7 : decide ((k : Int) < (s.size : Int)) = true := by rw [decide_eq_true_iff]; omega
        go_wp2_with fail
        refine (isLetter_any s[k] W).mono ?_
        rw [HB.out]
        rintro e w1 ⟨rfl, hw⟩
        obtain rfl := hw.symm
        go_wp2
        go_ret
        exact ⟨rfl, rfl⟩
      · have q7 : decide ((k : Int) < (s.size : Int)) = false := by rw [decide_eq_false_iff_not]; omega
        go_wp2
        go_ret
        exact ⟨rfl, rfl⟩
set_option maxRecDepth 100000 in
set_option maxHeartbeats 3200000 in
theorem wordEnd_dg (s : ByteArray) (p n : Nat) (hm : s.size ≤ 100000) (hp : p < s.size) (hn : p < n) (hns : n ≤ s.size) (hc : isLt s[p] = false) (hc2 : s[p].toNat = 35) (ht : ∀ k (h : k < s.size), p < k → k < n → isDg s[k] = true) (hr : ∀ h : n < s.size, isDg s[n] = false) (W : World) :
    Calls Tryz.prog 54 #[.string s, .int .i64 (p : Nat)] W fun e w' => e = .returned (.int .i64 (n : Nat)) ∧ w' = W := by
  have q0 : ((p : Int) == (s.size : Int)) = false := by simp; omega
  have HT : Hid _ := ht
  have HR : Hid _ := hr
  clear ht hr
  have q3 : ((s[p].toNat : Int) == 35) = true := beq_iff_eq.2 (by omega)
  have HC2 : Hid _ := hc2
  clear hc2
  go_enter Tryz.func54, Tryz.ntmps54
  go_wp2_with fail
  refine (isLetter_any s[p] W).mono ?_
  rw [hc]
  rintro e w1 ⟨rfl, hw⟩
  obtain rfl := hw.symm
  go_wp2_with fail
  go_loop [6] (fun x => ∃ k : Nat, p < k ∧ k ≤ n ∧ x = .int .i64 k) (fun x => n - (intOf x).toNat)
  case atStart => exact ⟨p + 1, by omega, by omega, by go_num⟩
  case round =>
    obtain ⟨k, hk, hkn, rfl⟩ := hrel
    by_cases hlt : k < n
    · have hks : k < s.size := by omega
      have HB : Hid (isDg s[k] = true) := HT.out k hks hk hlt
      go_wp2_with fail
      refine (isDigit_any s[k] W).mono ?_
      rw [HB.out]
      rintro e w1 ⟨rfl, hw⟩
      obtain rfl := hw.symm
      go_wp2
      go_round
      case rel => exact ⟨k + 1, by omega, by omega, by go_num⟩
      case measure => simp [intOf]; omega
    · obtain rfl : k = n := by omega
      clear hlt hkn
      by_cases hks : k < s.size
      · have HB : Hid (isDg s[k] = false) := HR.out hks
        have q7 : decide ((k : Int) < (s.size : Int)) = true := by rw [decide_eq_true_iff]; omega
        go_wp2_with fail
        refine (isDigit_any s[k] W).mono ?_
        rw [HB.out]
        rintro e w1 ⟨rfl, hw⟩
        obtain rfl := hw.symm
        go_wp2
        go_ret
        exact ⟨rfl, rfl⟩
      · have q7 : decide ((k : Int) < (s.size : Int)) = false := by rw [decide_eq_false_iff_not]; omega
        go_wp2
        go_ret
        exact ⟨rfl, rfl⟩
set_option maxRecDepth 100000 in
set_option maxHeartbeats 3200000 in
theorem wordEnd_one (s : ByteArray) (p : Nat) (hm : s.size ≤ 100000) (hp : p < s.size) (hc : isLt s[p] = false) (hc2 : s[p].toNat ≠ 35) (W : World) :
    Calls Tryz.prog 54 #[.string s, .int .i64 (p : Nat)] W fun e w' => e = .returned (.int .i64 (p + 1 : Nat)) ∧ w' = W := by
  have q0 : ((p : Int) == (s.size : Int)) = false := by simp; omega
  have q3 : ((s[p].toNat : Int) == 35) = false := beq_eq_false_iff_ne.2 (by omega)
  clear hc2
  go_enter Tryz.func54, Tryz.ntmps54
  go_wp2_with fail
  refine (isLetter_any s[p] W).mono ?_
  rw [hc]
  rintro e w1 ⟨rfl, hw⟩
  obtain rfl := hw.symm
  go_wp2_with fail
  go_loop [6] (fun x => ∃ k : Nat, k = p + 1 ∧ x = .int .i64 k) (fun _ => 0)
  case atStart => exact ⟨p + 1, rfl, by go_num⟩
  case round =>
    obtain ⟨k, hk, rfl⟩ := hrel
    have HK : Hid _ := hk
    clear hk
    by_cases hks : k < s.size
    · have q7 : decide ((k : Int) < (s.size : Int)) = true := by rw [decide_eq_true_iff]; omega
      go_wp2_with fail
      refine (goesNot_any s[k] W).mono ?_
      rintro e w1 ⟨rfl, hw⟩
      obtain rfl := hw.symm
      go_wp2
      go_ret
      have hk := HK.out
      subst hk
      exact ⟨rfl, rfl⟩
    · have q7 : decide ((k : Int) < (s.size : Int)) = false := by rw [decide_eq_false_iff_not]; omega
      go_wp2
      go_ret
      have hk := HK.out
      subst hk
      exact ⟨rfl, rfl⟩
set_option maxRecDepth 100000 in
theorem wordEnd_end (s : ByteArray) (W : World) :
    Calls Tryz.prog 54 #[.string s, .int .i64 (s.size : Nat)] W fun e w' => e = .returned (.int .i64 (s.size : Nat)) ∧ w' = W := by
  go_enter Tryz.func54, Tryz.ntmps54
  go_wp2
  go_ret
  exact ⟨rfl, rfl⟩
end Go.Proofs.YtnfjpngmadoflaaGreatDoor
