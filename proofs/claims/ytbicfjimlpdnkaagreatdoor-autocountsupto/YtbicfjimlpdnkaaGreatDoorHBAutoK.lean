/-
  slices.Concat of ints: some, and one more.
  auto.listsAround: exact.
  auto.listsAround, walked.
  auto.Build of a right schema.
-/
import Derived.Test.YtbicfjimlpdnkaaGreatDoorHBSFlI
import Derived.Lib.AppendZeros
import Derived.LoopN
import Derived.Test.YtbicfjimlpdnkaaGreatDoorHBLfM
import Derived.Deep.Slices
import Derived.Test.YtbicfjimlpdnkaaGreatDoorHBIds
namespace Go.Proofs.YtbicfjimlpdnkaaGreatDoor
open Go.RowKit
theorem below_ownI {B : Nat} {w wr w1 : World} {v : Value} {e s n : Nat} {xs : List Value} (hb : Below B w wr) (hB : B ≤ w.heap.size) (hown : wr.ownsRow B e s v n xs) (hg : wr.grownBy w1 v.ownBlock) : Below B w w1 :=
  hb.grown hg (by have := hb.size; omega) (fun k hk => (own_block hown hk).1)
set_option maxRecDepth 100000 in
set_option maxHeartbeats 1600000 in
theorem growI_any (n : Nat) (m : Int) (hm : m = (n : Nat)) (h0 : 0 < n) (h1 : n ≤ 1200000) (W : World) :
    Calls Tryz.prog (76) #[.slice none 0 0, .int .i64 m] W fun e w' => (∃ cap, e = .returned (.slice (some ⟨W.heap.size, 0, none⟩) 0 cap) ∧ w'.ownsRow W.heap.size 3 1 (.slice (some ⟨W.heap.size, 0, none⟩) 0 cap) 0 []) ∧ Below W.heap.size W w' := by
  subst hm
  obtain ⟨iv, hvi, hv0, hv1, hv2⟩ := info_parts Tryz.infoI
  have HR : Hid _ := Lib.run_append_nil_zeros (P := Tryz.prog) W 36 3 36 3 iv _ .i64 .i64 Tryz.underlying36 Tryz.underlying3 hvi hv0 n h0 (by omega) (by omega) (by rw [hv2]; omega)
  have hge := grownCap_ge W n 0 3
  have HO : Hid ((W.drew.alloc (.cells (Builtin.zeroCells (Value.int .i64 0).cells n ++ Builtin.zeroCells (Value.int .i64 0).cells (grownCap W n 0 3 - n)) 3)).ownsRow W.heap.size 3 1 (.slice (some ⟨W.heap.size, 0, none⟩) 0 (grownCap W n 0 3)) 0 []) := by
    refine ⟨rfl, .inr ⟨W.heap.size, _, _, rfl, Nat.le_refl _, heap_alloc_new W.drew _, Nat.zero_le _, grownCap_le_maxLen W n 0 _ (by unfold maxLen; omega), ?_, by simp⟩⟩
    rw [Array.size_append, size_zeroCells, size_zeroCells]
    show n * 1 + (grownCap W n 0 3 - n) * 1 = grownCap W n 0 3 * 1
    omega
  clear hvi hv0 hv1 hv2
  go_enter Tryz.func76, Tryz.ntmps76
  go_wp2_with (at_builtin; refine Lib.wpList_append_run _ rfl _ _ 36 3 rfl _ _ rfl rfl _ _ HR.out ?_)
  go_ret
  exact ⟨⟨_, rfl, HO.out⟩, ((Below.refl _ _).alloc (Nat.le_refl _) _).drew⟩
set_option maxRecDepth 100000 in
set_option maxHeartbeats 3200000 in
theorem concatI_any (W : World) (sb k c g2 : Nat) (pa : Option Addr) (xs : List Int) (y : Int) (h0 : W.cell? ⟨sb, 0, none⟩ = some (.slice pa k c)) (h1 : W.cell? ⟨sb, 1, none⟩ = some (.slice (some ⟨g2, 0, none⟩) 1 1))
    (hx : xs.length = k) (hxs : Lies W pa (i64s xs)) (hys : W.cell? ⟨g2, 0, none⟩ = some (.int .i64 y)) (hk : k ≤ 1000) :
    Calls Tryz.prog (43) #[.slice (some ⟨sb, 0, none⟩) 2 2] W fun e w' => (∃ v, e = .returned v ∧ w'.ownsRow W.heap.size 3 1 v (k + 1) (i64s (xs ++ [y]))) ∧ Below W.heap.size W w' := by
  obtain ⟨iv, hvi, hv0, hv1, hv2⟩ := info_parts Tryz.infoI
  have HX : Hid (Lies W pa (i64s xs)) := hxs
  have HY : Hid (W.cell? ⟨g2, 0, none⟩ = some (.int .i64 y)) := hys
  have H0 : Hid _ := h0
  have H1 : Hid _ := h1
  have HG : Hid _ := growI_any (k + 1) ((k : Int) + 1) (by omega) (by omega) (by omega) W
  have HE : Hid (i64s (xs ++ [y]) = i64s xs ++ [.int .i64 y]) := (by show _ = _; simp [i64s])
  clear hxs hys
  go_enter Tryz.func43, Tryz.ntmps43
  go_wp2
  refine wp_loop_rounds 3 ?_
  rw [rounds_succ]
  go_wp2
  rw [rounds_succ]
  go_wp2
  rw [rounds_succ]
  go_wp2_with fail
  refine Calls.mono HG.out ?_
  rintro e w1 ⟨⟨cap, rfl, hown1⟩, hb1⟩
  have HO1 : Hid (w1.ownsRow W.heap.size 3 1 (.slice (some ⟨W.heap.size, 0, none⟩) 0 cap) 0 []) := hown1
  have HB1 : Hid (Below W.heap.size W w1) := hb1
  have k0 := (hb1.cell (World.block_lt_of_cell? W _ h0)).trans h0
  clear hown1 h0 h1 HG
  go_wp2
  refine wp_loop_rounds 3 ?_
  rw [rounds_succ]
  go_wp2_with (at_builtin; refine wpList_append_any _ rfl _ _ 36 rfl W.heap.size 3 iv (.int .i64 0) 1 8 Tryz.underlying36 hvi hv0 hv1 hv2 rfl (by decide) (.slice (some ⟨W.heap.size, 0, none⟩) 0 cap) 0 [] rfl HO1.out pa k c (i64s xs) rfl (by rw [i64s_len]; omega) (news_i (HX.out.keep HB1.out)) (one_i _) (by unfold maxLen; omega) (by omega) HB1.out.size ?_; intro v2 w2 hown2 hgrow2 _; have hb2 : Below W.heap.size W w2 := below_ownI HB1.out (Nat.le_refl _) HO1.out hgrow2; have k1 := (hb2.cell (World.block_lt_of_cell? W _ H1.out)).trans H1.out)
  have HO2 : Hid (w2.ownsRow W.heap.size 3 1 v2 k (i64s xs)) := (by show World.ownsRow _ _ _ _ _ _ _; simpa using hown2)
  have HB2 : Hid (Below W.heap.size W w2) := hb2
  clear hown2 hgrow2 hb2
  rw [rounds_succ]
  go_wp2_with (at_builtin; refine wpList_append_own _ rfl _ _ 36 rfl W.heap.size 3 iv (.int .i64 0) 1 8 Tryz.underlying36 hvi hv0 hv1 hv2 rfl (by decide) _ k (i64s xs) rfl HO2.out ⟨g2, 0, none⟩ 1 1 [.int .i64 y] rfl rfl (fun j u hu => (by obtain ⟨hj, rfl⟩ := List.getElem?_eq_some_iff.1 hu; have : j = 0 := (by simp at hj; omega); subst this; exact (HB2.out.cell (World.block_lt_of_cell? W _ HY.out)).trans HY.out)) (by intro u hu; simp at hu; subst hu; rfl) (by unfold maxLen; omega) (by omega) HB2.out.size ?_; intro v3 w3 hown3 hgrow3 _)
  have HB3 : Hid (Below W.heap.size W w3) := below_ownI HB2.out (Nat.le_refl _) HO2.out hgrow3
  have HO3 : Hid (w3.ownsRow W.heap.size 3 1 v3 (k + 1) (i64s xs ++ [.int .i64 y])) := hown3
  clear hown3 hgrow3
  rw [rounds_succ]
  go_wp2
  go_ret
  exact ⟨⟨_, rfl, by rw [HE.out]; exact HO3.out⟩, HB3.out⟩
end Go.Proofs.YtbicfjimlpdnkaaGreatDoor

namespace Go.Proofs.YtbicfjimlpdnkaaGreatDoor
open Go.RowKit
/-- Ints that lie in a block of ints. -/
def LiI (w : World) (pa : Option Addr) (xs : List Int) : Prop := Lies w pa (i64s xs) ∧ ∀ p, pa = some p → ∃ cs z, w.heap[p.block]? = some (.cells cs 3 z)
theorem LiI.keep {w w' : World} {pa : Option Addr} {xs : List Int} (h : LiI w pa xs) (hb : Below w.heap.size w w') : LiI w' pa xs :=
  ⟨h.1.keep hb, fun p hp => by obtain ⟨cs, z, hc⟩ := h.2 p hp; exact ⟨cs, z, blk_keep hb hc⟩⟩
theorem LiI.grown {w w' : World} {pa : Option Addr} {xs : List Int} {N n : Nat} {v : Value} {rs : List Value} (h : LiI w pa xs) (ho : w.ownsRow N 36 1 v n rs) (hg : w.grownBy w' v.ownBlock) : LiI w' pa xs := by
  have hk : ∀ p, pa = some p → w'.heap[p.block]? = w.heap[p.block]? := fun p hp => by
    obtain ⟨cs, z, hc⟩ := h.2 p hp
    exact hg.block _ (lt_of_block hc) (own_type ho hc (by decide))
  refine ⟨fun j hj => ?_, fun p hp => by obtain ⟨cs, z, hc⟩ := h.2 p hp; exact ⟨cs, z, (hk p hp).trans hc⟩⟩
  obtain ⟨b, o, rfl, hc⟩ := h.1 j hj
  refine ⟨b, o, rfl, ?_⟩
  have e := hk _ rfl
  simp only [World.cell?] at hc ⊢
  rw [e]
  exact hc
theorem LiI.own {w : World} {N n : Nat} {v : Value} {xs : List Int} (h : w.ownsRow N 3 1 v n (i64s xs)) : ∃ a c, v = .slice a xs.length c ∧ LiI w a xs := by
  obtain ⟨a, c, hv, hl⟩ := lies_own h
  refine ⟨a, c, by rw [i64s_len] at hv; exact hv, hl, fun p hp => ?_⟩
  subst hp
  have hb : v.ownBlock = some p.block := by rw [hv]; rfl
  obtain ⟨_, _, cs, hc⟩ := own_block h hb
  exact ⟨cs, _, hc⟩
/-- A slice of lists. -/
def LstR (w : World) (la : Option Addr) (L : List (List Int)) : Prop := ∀ j (h : j < L.length), ∃ b o pa pc, la = some ⟨b, o, none⟩ ∧ w.cell? ⟨b, o + j, none⟩ = some (.slice pa L[j].length pc) ∧ LiI w pa L[j] ∧ L[j].length ≤ 1000
theorem LstR.lies {w : World} {la : Option Addr} {L : List (List Int)} (h : LstR w la L) : LiesLL w la L := fun j hj => by
  obtain ⟨b, o, pa, pc, e, hc, hl, hm⟩ := h j hj
  exact ⟨b, o, pa, pc, e, hc, hl.1, hm⟩
/-- A row of the call's own that holds lists. -/
def RowO (N : Nat) (w : World) (lv : Value) (L : List (List Int)) (svs : List Value) : Prop := w.ownsRow N 36 1 lv L.length svs ∧ svs.length = L.length ∧ ∀ j (h : j < L.length), ∃ pa pc, svs[j]? = some (.slice pa L[j].length pc) ∧ LiI w pa L[j] ∧ L[j].length ≤ 1000
theorem RowO.keep {N : Nat} {w w' : World} {lv : Value} {L : List (List Int)} {svs : List Value} (h : RowO N w lv L svs) (hb : Below w.heap.size w w') : RowO N w' lv L svs :=
  ⟨ow_kept h.1 hb, h.2.1, fun j hj => by obtain ⟨pa, pc, e, hl, hm⟩ := h.2.2 j hj; exact ⟨pa, pc, e, hl.keep hb, hm⟩⟩
theorem RowO.rl {N : Nat} {w : World} {lv : Value} {L : List (List Int)} {svs : List Value} (h : RowO N w lv L svs) : ∃ a c, lv = .slice a L.length c ∧ LstR w a L := by
  obtain ⟨a, c, hv, hl⟩ := lies_own h.1
  rw [h.2.1] at hv
  refine ⟨a, c, hv, fun j hj => ?_⟩
  obtain ⟨pa, pc, e, hi, hm⟩ := h.2.2 j hj
  have hj2 : j < svs.length := by rw [h.2.1]; exact hj
  obtain ⟨b, o, ea, hc⟩ := hl j hj2
  rw [List.getElem?_eq_getElem hj2] at e
  injection e with e
  rw [e] at hc
  exact ⟨b, o, pa, pc, ea, hc, hi, hm⟩
/-- What such a slice holds, as a list. -/
theorem LstR.news {w : World} {la : Option Addr} {L : List (List Int)} (h : LstR w la L) : ∃ svs : List Value, svs.length = L.length ∧ (∀ j u, svs[j]? = some u → ∃ a, la = some a ∧ w.cell? (a.add j) = some u) ∧ (∀ u ∈ svs, u.oneCell' = true) ∧ ∀ j (h : j < L.length), ∃ pa pc, svs[j]? = some (.slice pa L[j].length pc) ∧ LiI w pa L[j] ∧ L[j].length ≤ 1000 := by
  have each : ∀ i, i < L.length → ∃ u : Value, ∀ h : i < L.length, ∃ b o pa pc, la = some ⟨b, o, none⟩ ∧ w.cell? ⟨b, o + i, none⟩ = some u ∧ u = .slice pa L[i].length pc ∧ LiI w pa L[i] ∧ L[i].length ≤ 1000 := fun i hi => by
    obtain ⟨b, o, pa, pc, e, hc, hl, hm⟩ := h i hi
    exact ⟨_, fun _ => ⟨b, o, pa, pc, e, hc, rfl, hl, hm⟩⟩
  have : Inhabited Value := ⟨.nilIface⟩
  obtain ⟨f, hf⟩ := Deep.choose_lt each
  refine ⟨(List.range L.length).map f, by simp, fun j u hu => ?_, fun u hu => ?_, fun j hj => ?_⟩
  · obtain ⟨hj, rfl⟩ := List.getElem?_eq_some_iff.1 hu
    have hj' : j < L.length := by simpa using hj
    obtain ⟨b, o, pa, pc, e, hc, _⟩ := hf j hj' hj'
    exact ⟨_, e, by rw [addr_add]; simpa using hc⟩
  · obtain ⟨i, hi, rfl⟩ := List.mem_map.1 hu
    have hi' : i < L.length := by simpa using hi
    obtain ⟨b, o, pa, pc, _, _, e, _⟩ := hf i hi' hi'
    rw [e]; rfl
  · obtain ⟨b, o, pa, pc, _, _, e, hl, hm⟩ := hf j hj hj
    exact ⟨pa, pc, by simp [hj, e], hl, hm⟩
theorem RowO.push {N : Nat} {w w' : World} {lv v' : Value} {L L2 : List (List Int)} {svs svs2 : List Value} (h : RowO N w lv L svs) (hl2 : svs2.length = L2.length) (h2 : ∀ j (h : j < L2.length), ∃ pa pc, svs2[j]? = some (.slice pa L2[j].length pc) ∧ LiI w pa L2[j] ∧ L2[j].length ≤ 1000)
    (ho : w'.ownsRow N 36 1 v' (L.length + L2.length) (svs ++ svs2)) (hg : w.grownBy w' lv.ownBlock) : RowO N w' v' (L ++ L2) (svs ++ svs2) := by
  refine ⟨by rw [List.length_append]; exact ho, by simp [h.2.1, hl2], fun j hj => ?_⟩
  by_cases hlt : j < L.length
  · obtain ⟨pa, pc, e, hi, hm⟩ := h.2.2 j hlt
    rw [List.getElem_append_left hlt]
    exact ⟨pa, pc, by rw [List.getElem?_append_left (by rw [h.2.1]; exact hlt)]; exact e, hi.grown h.1 hg, hm⟩
  · have hj2 : j - L.length < L2.length := by simp at hj; omega
    obtain ⟨pa, pc, e, hi, hm⟩ := h2 (j - L.length) hj2
    rw [List.getElem_append_right (by omega)]
    exact ⟨pa, pc, by rw [List.getElem?_append_right (by rw [h.2.1]; omega), h.2.1]; exact e, hi.grown h.1 hg, hm⟩
end Go.Proofs.YtbicfjimlpdnkaaGreatDoor

namespace Go.Proofs.YtbicfjimlpdnkaaGreatDoor
open Go.RowKit
theorem Tryz.infoIs : (Tryz.prog.info? 36).map (fun i => (i.zero, i.size, i.bytes)) = some (some (.slice none 0 0), 1, 24) := by kernel_rfl
theorem sub_cnt (t : Tr) (j : Nat) (hj : j < t.sub.length) : t.sub[j].cnt + 1 ≤ t.cnt := by
  rw [Tr.cnt_eq t]
  have h : ∀ (ts : List Tr) (j : Nat) (hj : j < ts.length), ts[j].cnt ≤ cntL ts := fun ts => by
    induction ts with
    | nil => intro j hj; simp at hj
    | cons x xs ih =>
      intro j hj
      rw [cntL]
      cases j with
      | zero => simp
      | succ j => have := ih j (by simpa using hj); simp; omega
  have := h t.sub j hj
  omega
theorem cntL_take (ts : List Tr) (i : Nat) : cntL (ts.take i) ≤ cntL ts := by
  induction ts generalizing i with
  | nil => simp
  | cons x xs ih =>
    cases i with
    | zero => simp [cntL]
    | succ i => have := ih i; simp [cntL]; omega
theorem LstR.one {w : World} {g : Nat} {pa : Option Addr} {pc : Nat} {ab : List Int} (h : w.heap[g]? = some (.cells #[.slice pa ab.length pc] 36 (0, 0))) (hi : LiI w pa ab) (hl : ab.length ≤ 1000) : LstR w (some ⟨g, 0, none⟩) [ab] := fun j hj => by
  obtain rfl : j = 0 := by simpa using hj
  exact ⟨g, 0, pa, pc, rfl, by simp [World.cell?, h], hi, hl⟩
set_option maxRecDepth 100000 in
set_option maxHeartbeats 6400000 in
theorem listsAround_any : ∀ (n : Nat) (t : Tr), SizeOf.sizeOf t < n → t.Sm → ∀ (ab : List Int), ab.length + t.cnt ≤ 1000 → ∀ (pa : Option Addr) (pc : Nat) (a : Option Addr) (c : Nat) (P : Nat → Prop) (W : World), LiesN W P a t.sub → LiI W pa ab →
    Calls Tryz.prog 24 #[nodeV t a c, .slice pa ab.length pc] W fun e w' => (∃ la lc, e = .returned (.slice la (lsT ab t).length lc) ∧ LstR w' la (lsT ab t)) ∧ Below W.heap.size W w'
  | 0, t, h => absurd h (Nat.not_lt_zero _)
  | n + 1, t, hsz => fun hsm ab hab pa pc a c P W hl hli => by
    obtain ⟨iv, hvi, hv0, hv1, hv2⟩ := info_parts Tryz.infoIs
    have HL : Hid (∀ X, Below W.heap.size W X → LiesN X P a t.sub) := fun X hX => hl.keep hX
    have HLi : Hid (LiI W pa ab) := hli
    have hlen := hsm.len
    have HIH : Hid (∀ j (hj : j < t.sub.length) (ab' : List Int), ab'.length + t.sub[j].cnt ≤ 1000 → ∀ (pa' : Option Addr) (pc' : Nat) (a' : Option Addr) (c' : Nat) (X : World), LiesN X P a' t.sub[j].sub → LiI X pa' ab' → Calls Tryz.prog 24 #[nodeV t.sub[j] a' c', .slice pa' ab'.length pc'] X fun e w' => (∃ la lc, e = .returned (.slice la (lsT ab' t.sub[j]).length lc) ∧ LstR w' la (lsT ab' t.sub[j])) ∧ Below X.heap.size X w') := fun j hj ab' hab' pa' pc' a' c' X h1 h2 => listsAround_any n t.sub[j] (by have := t.sub_size j hj; omega) (hsm.at_ j hj) ab' hab' pa' pc' a' c' P X h1 h2
    have HEq : Hid _ := lsT_eq ab t
    obtain ⟨ab', HAB⟩ : ∃ x, Hid ((if t.rep = 3 then ab ++ [t.id] else ab) = x) := ⟨_, rfl⟩
    rw [HAB.out] at HEq
    have hab1 : ab'.length ≤ ab.length + 1 := by rw [← HAB.out]; split <;> simp
    have hcn := Tr.cnt_eq t
    clear hl hli hsm hsz
    obtain ⟨w0, HW0, HX, HB0⟩ := one_box W #[.int .i64 t.id, .string t.nm, .int .i64 t.rep, .int .i64 t.kind, .slice a t.sub.length c] 24
    unfold nodeV
    obtain ⟨⟨p0, p1, p2, p3, p4⟩, _⟩ := row_five HX.out
    go_enter Tryz.func24, Tryz.ntmps24
    go_upto_if 10 with fail
    rw [HW0.out]
    go_cut [1] (fun x wx => ∃ pa' pc', x = .slice pa' ab'.length pc' ∧ Hid (LiI wx pa' ab') ∧ Hid (wx.heap[W.heap.size]? = some (.cells #[.int .i64 t.id, .string t.nm, .int .i64 t.rep, .int .i64 t.kind, .slice a t.sub.length c] 24 (0, 0))) ∧ Hid (Below W.heap.size W wx))
    case first =>
      rcases Decidable.em (t.rep = 3) with h3 | h3
      · have q : (t.rep == 3) = true := by simp [h3]
        have HA2 : Hid (ab ++ [t.id] = ab') := (by show _ = _; rw [← HAB.out, if_pos h3])
        clear h3
        obtain ⟨wz, HWz, HZ1, HZ2, HBz⟩ := two_boxesS w0 #[.int .i64 t.id] #[.slice pa ab.length pc, .slice (some ⟨w0.heap.size, 0, none⟩) 1 1] 3 36
        have HBW : Hid (Below W.heap.size W wz) := HB0.out.trans (HBz.out.mono HB0.out.size)
        have HCc : Hid _ := concatI_any wz (w0.heap.size + 1) ab.length pc w0.heap.size pa ab t.id (by simp [World.cell?, HZ2.out]) (by simp [World.cell?, HZ2.out]) rfl (HLi.out.1.keep HBW.out) (by simp [World.cell?, HZ1.out]) (by omega)
        go_wp2_with fail
        rw [HWz.out]
        refine Calls.mono HCc.out ?_
        rintro e w1 ⟨⟨v, rfl, hown⟩, hb1⟩
        obtain ⟨a1, c1, rfl, hli1⟩ := LiI.own hown
        go_wp2
        go_meet
        refine ⟨a1, c1, by rw [← HA2.out]; simp, by rw [HA2.out] at hli1; exact hli1, blk_keep hb1 (blk_keep HBz.out HX.out), HBW.out.trans (hb1.mono HBW.out.size)⟩
      · have q : (t.rep == 3) = false := by simp [h3]
        have HA2 : Hid (ab = ab') := (by show _ = _; rw [← HAB.out, if_neg h3])
        clear h3
        go_wp2
        go_meet
        exact ⟨pa, pc, by rw [HA2.out], by rw [← HA2.out]; exact HLi.out.keep HB0.out, HX.out, HB0.out⟩
    case rest =>
      obtain ⟨pa', pc', rfl, HLi2, HBx, HBw⟩ := hcut
      rename World => w1
      clear HX HB0 HW0 p0 p1 p2 p3 p4 HLi
      obtain ⟨⟨p0, p1, p2, p3, p4⟩, _⟩ := row_five HBx.out
      rcases Decidable.em (t.kind = 0) with h0 | h0
      · have q : (t.kind != 0) = false := by simp [h0]
        have HT : Hid (lsT ab t = lsL ab' t.sub) := (by show _ = _; rw [HEq.out, if_pos h0])
        clear h0
        go_wp2
        go_loopw [5, 25] (fun y x wr => ∃ i : Nat, i ≤ t.sub.length ∧ x = .int .i64 i ∧ (∃ svs, Hid (RowO w1.heap.size wr y (lsL ab' (t.sub.take i)) svs)) ∧ Hid (Below w1.heap.size w1 wr)) (fun _ x _ => t.sub.length - (intOf x).toNat)
        case atStart => exact ⟨0, Nat.zero_le _, rfl, ⟨[], ⟨World.ownsRow_nil _ _ _ _, rfl, fun j hj => absurd hj (by simp [lsL])⟩⟩, Below.refl _ _⟩
        case round =>
          obtain ⟨i, hik, rfl, ⟨svs, HR⟩, HBr⟩ := hrel
          obtain ⟨la, lc, hy, _⟩ := HR.out.rl
          subst hy
          have HBW : Hid (Below W.heap.size W wr) := HBw.out.trans (HBr.out.mono HBw.out.size)
          by_cases hlt : i < t.sub.length
          · obtain ⟨b, o, a1, c1, ea, d0, d1, d2, d3, d4, hl1⟩ := (HL.out wr HBW.out).at_ i hlt
            subst ea
            have hci := sub_cnt t i hlt
            have HC : Hid _ := HIH.out i hlt ab' (by omega) pa' pc' a1 c1
            have HL1 : Hid (LiesN wr P a1 t.sub[i].sub) := hl1
            clear hl1
            have HTk : Hid _ := lsL_take ab' t.sub i hlt
            have hls := lsT_len ab' t.sub[i]
            have hlk := lsL_len ab' (t.sub.take i)
            have hck := cntL_take t.sub i
            have HB2 : Hid (∀ ob, Below wr.heap.size wr (wr.alloc ob)) := fun ob => (Below.refl _ _).alloc (Nat.le_refl _) ob
            have HLi3 : Hid (LiI wr pa' ab') := HLi2.out.keep HBr.out
            go_wp2_with fail
            refine Calls.mono (HC.out _ (HL1.out.keep (HB2.out _)) (HLi3.out.keep (HB2.out _))) ?_
            rintro e wq ⟨⟨la2, lc2, rfl, hlst⟩, hbq⟩
            have HBq : Hid (Below wr.heap.size wr wq) := (HB2.out _).trans (hbq.mono (HB2.out _).size)
            obtain ⟨svs2, hs1, hs2, hs3, hs4⟩ := hlst.news
            have HS1 : Hid _ := hs1
            have HS2 : Hid _ := hs2
            have HS3 : Hid _ := hs3
            have HS4 : Hid _ := hs4
            have HRq : Hid (RowO w1.heap.size wq (.slice la (lsL ab' (t.sub.take i)).length lc) (lsL ab' (t.sub.take i)) svs) := HR.out.keep HBq.out
            have HBq2 : Hid (Below w1.heap.size w1 wq) := HBr.out.trans (HBq.out.mono HBr.out.size)
            clear hlst hbq hs1 hs2 hs3 hs4 HC HL1 d0 d1 d2 d3 d4
            go_wp2_with (at_builtin; (refine wpList_append_any _ rfl _ _ 44 rfl w1.heap.size 36 iv (.slice none 0 0) 1 24 Tryz.underlying44 hvi hv0 hv1 hv2 rfl (by decide) _ _ svs rfl HRq.out.1 la2 _ lc2 svs2 rfl (by rw [HS1.out, Nat.mul_one]) HS2.out HS3.out (by unfold maxLen; omega) (by omega) HBq2.out.size ?_); intro v3 w3 hown3 hg3 _)
            have HR3 : Hid (RowO w1.heap.size w3 v3 (lsL ab' (t.sub.take (i + 1))) (svs ++ svs2)) := (by
              have h := HRq.out.push HS1.out HS4.out hown3 hg3
              rw [← HTk.out] at h
              exact h)
            have HB3 : Hid (Below w1.heap.size w1 w3) := below_ownI HBq2.out (Nat.le_refl _) HRq.out.1 hg3
            clear hown3 hg3
            go_wp2
            go_roundw
            case rel => exact ⟨i + 1, by omega, by go_num, ⟨_, HR3⟩, HB3⟩
            case measure => simp [intOf]; omega
          · obtain rfl : i = t.sub.length := by omega
            have HRl : Hid (∃ a c, Value.slice la (lsL ab' (t.sub.take t.sub.length)).length lc = .slice a (lsT ab t).length c ∧ LstR wr a (lsT ab t)) := (by
              have h := HR.out.rl
              show ∃ _, _
              rw [HT.out]
              rw [List.take_length] at h ⊢
              exact h)
            go_wp2
            go_ret
            obtain ⟨la2, lc2, e2, hrl2⟩ := HRl.out
            exact ⟨⟨la2, lc2, congrArg Ending.returned e2, hrl2⟩, HBW.out⟩
      · have q : (t.kind != 0) = true := by simp [h0]
        have HT : Hid (lsT ab t = [ab']) := (by show _ = _; rw [HEq.out, if_neg h0])
        clear h0
        go_wp2
        go_ret
        have hbz : Below w1.heap.size w1 (w1.alloc (.cells #[.slice pa' ab'.length pc'] 36)) := (Below.refl _ _).alloc (Nat.le_refl _) _
        refine ⟨⟨some ⟨w1.heap.size, 0, none⟩, 1, by rw [HT.out]; rfl, ?_⟩, HBw.out.trans (hbz.mono HBw.out.size)⟩
        rw [HT.out]
        exact LstR.one (heap_alloc_new w1 _) (HLi2.out.keep hbz) (by omega)
end Go.Proofs.YtbicfjimlpdnkaaGreatDoor

namespace Go.Proofs.YtbicfjimlpdnkaaGreatDoor
open Go.RowKit
/-- A cell of a block of another type is set. -/
theorem LiI.set {w : World} {pa : Option Addr} {xs : List Int} {g j : Nat} {cs : Array Value} {T : TypeId} {z : Nat × Nat} {x : Value} (h : LiI w pa xs) (hg : w.heap[g]? = some (.cells cs T z)) (hT : T ≠ 3) : LiI (w.setCell ⟨g, j, none⟩ x) pa xs := by
  have hk : ∀ p, pa = some p → (w.setCell ⟨g, j, none⟩ x).heap[p.block]? = w.heap[p.block]? := fun p hp => by
    obtain ⟨cs', z', hc⟩ := h.2 p hp
    refine Below.heap_setCell _ _ _ _ fun e => ?_
    have e2 : p.block = g := e
    rw [e2, hg] at hc
    injection hc with hc
    injection hc with _ hc _
    exact hT hc
  refine ⟨fun j hj => ?_, fun p hp => by obtain ⟨cs, z, hc⟩ := h.2 p hp; exact ⟨cs, z, (hk p hp).trans hc⟩⟩
  obtain ⟨b, o, rfl, hc⟩ := h.1 j hj
  refine ⟨b, o, rfl, ?_⟩
  have e := hk _ rfl
  simp only [World.cell?] at hc ⊢
  rw [e]
  exact hc
theorem RowO.set {N : Nat} {w : World} {lv : Value} {L : List (List Int)} {svs : List Value} {g j : Nat} {cs : Array Value} {T : TypeId} {z : Nat × Nat} {x : Value} (h : RowO N w lv L svs) (hg : w.heap[g]? = some (.cells cs T z)) (hT : T ≠ 3) (hT2 : T ≠ 36) : RowO N (w.setCell ⟨g, j, none⟩ x) lv L svs := by
  refine ⟨own_same h.1 fun k hk => ?_, h.2.1, fun j hj => by obtain ⟨pa, pc, e, hl, hm⟩ := h.2.2 j hj; exact ⟨pa, pc, e, hl.set hg hT, hm⟩⟩
  refine Below.heap_setCell _ _ _ _ fun e => ?_
  have e2 : k = g := e
  subst e2
  exact own_type h.1 hg (Ne.symm hT2) hk.symm
mutual
theorem lsT_mem (ab : List Int) : ∀ (t : Tr) (l : List Int), l ∈ lsT ab t → l.length ≤ ab.length + t.cnt
  | .node id nm rep kind sub, l, h => by
    rw [lsT] at h
    rw [Tr.cnt]
    have e : (if rep = 3 then ab ++ [id] else ab).length ≤ ab.length + 1 := by split <;> simp
    split at h
    · have := lsL_mem _ sub l h
      omega
    · simp only [List.mem_singleton] at h
      rw [h]
      omega
theorem lsL_mem (ab : List Int) : ∀ (ts : List Tr) (l : List Int), l ∈ lsL ab ts → l.length ≤ ab.length + cntL ts
  | [], l, h => by simp [lsL] at h
  | t :: ts, l, h => by
    rw [lsL, List.mem_append] at h
    rw [cntL]
    rcases h with h | h
    · have := lsT_mem ab t l h; omega
    · have := lsL_mem ab ts l h; omega
end
/-- What Build's loop holds. -/
structure BuI (w2 : World) (L : List (List Int)) (wr : World) (i : Nat) (l : Value) (svs : List Value) : Prop where
  box : wr.heap[w2.heap.size]? = some (.cells #[l] 46 (0, 0))
  row : RowO (w2.heap.size + 1) wr l ((List.range i).map (nxtR L)) svs
  old : Below w2.heap.size w2 wr
theorem BuI.box3 {w2 : World} {L : List (List Int)} {wr w1 w3 : World} {i : Nat} {l : Value} {svs : List Value} {ob : Obj} (h : BuI w2 L wr i l svs) (hb : Below wr.heap.size wr w1) (hg : (w1.alloc ob).grownBy w3 l.ownBlock) : w3.heap[w2.heap.size]? = some (.cells #[l] 46 (0, 0)) := by
  have hba : Below w1.heap.size w1 (w1.alloc ob) := (Below.refl _ _).alloc (Nat.le_refl _) ob
  have hbb : Below wr.heap.size wr (w1.alloc ob) := hb.trans (hba.mono hb.size)
  have hlt := lt_of_block h.box
  have hsz := hbb.size
  rw [hg.block _ (by omega) (fun e => by have := (own_block h.row.1 e.symm).1; omega)]
  exact blk_keep hbb h.box
theorem BuI.push {w2 : World} {L : List (List Int)} {wr w1 w3 : World} {i pc : Nat} {l l' : Value} {pa : Option Addr} {svs : List Value} {ob : Obj} (h : BuI w2 L wr i l svs) (hb : Below wr.heap.size wr w1) (hi : LiI w1 pa (nxtR L i)) (hm : (nxtR L i).length ≤ 1000)
    (hown : w3.ownsRow (w2.heap.size + 1) 36 1 l' (i + 1) (svs ++ [.slice pa (nxtR L i).length pc])) (hg : (w1.alloc ob).grownBy w3 l.ownBlock) : BuI w2 L (w3.setCell ⟨w2.heap.size, 0, none⟩ l') (i + 1) l' (svs ++ [.slice pa (nxtR L i).length pc]) := by
  have hba : Below w1.heap.size w1 (w1.alloc ob) := (Below.refl _ _).alloc (Nat.le_refl _) ob
  have hbb : Below wr.heap.size wr (w1.alloc ob) := hb.trans (hba.mono hb.size)
  have hlt := lt_of_block h.box
  have hsz := hbb.size
  have hbox := h.box3 hb hg
  have hro := (h.row.keep hbb).push (L2 := [nxtR L i]) (svs2 := [.slice pa (nxtR L i).length pc]) rfl (fun j hj => by
    obtain rfl : j = 0 := by simpa using hj
    exact ⟨pa, pc, rfl, hi.keep hba, hm⟩) (by simpa using hown) hg
  have e : (List.range (i + 1)).map (nxtR L) = (List.range i).map (nxtR L) ++ [nxtR L i] := by rw [List.range_succ, List.map_append]; rfl
  refine ⟨?_, ?_, ?_⟩
  · rw [row_setC hbox]; rfl
  · rw [e]; exact hro.set hbox (by decide) (by decide)
  · have h1 : Below w2.heap.size w2 w3 := (h.old.trans (hbb.mono h.old.size)).grown hg (by have := h.old.size; omega) (fun k hk => by have := (own_block h.row.1 hk).1; omega)
    exact h1.setCell (Nat.le_refl _) _
set_option maxRecDepth 100000 in
set_option maxHeartbeats 6400000 in
theorem build_right (t : Tr) (n : Nat) (hd : t.Dp n) (hn : n ≤ 1100000) (hs : t.Sm) (hr : vldN t = 0) (hcnt : t.cnt ≤ 900) (a : Option Addr) (c : Nat) (P : Nat → Prop) (W : World) (hl : LiesN W P a t.sub) (hcap : t.sub.length ≤ c) (eb es en : TypeId × Value)
    (hgb : W.cell? ⟨0, 0, none⟩ = some (.iface eb.1 eb.2)) (hgs : W.cell? ⟨1, 0, none⟩ = some (.iface es.1 es.2)) (hgn : W.cell? ⟨2, 0, none⟩ = some (.iface en.1 en.2)) :
    Calls Tryz.prog 12 #[nodeV t a c] W fun e w' => (∃ la lc, e = .returned (.tuple #[.agg #[.slice la (lsT [] t).length lc], .nilIface]) ∧ LstR w' la ((List.range (lsT [] t).length).map (nxtR (lsT [] t)))) ∧ Below W.heap.size W w' := by
  obtain ⟨iv, hvi, hv0, hv1, hv2⟩ := info_parts Tryz.infoIs
  obtain ⟨w0, HW0, HX, HM, HB⟩ := two_boxesS W #[.int .i64 t.id, .string t.nm, .int .i64 t.rep, .int .i64 t.kind, .slice a t.sub.length c] #[.slice none 0 0] 24 46
  have hb := HB.out
  have HV := valid_any t n hd hn hs a c P w0 (hl.keep hb) hcap eb es en ((hb.cell (World.block_lt_of_cell? W _ hgb)).trans hgb) ((hb.cell (World.block_lt_of_cell? W _ hgs)).trans hgs) ((hb.cell (World.block_lt_of_cell? W _ hgn)).trans hgn)
  rw [vldV_nil hr] at HV
  have HV : Hid _ := HV
  have HL : Hid (LiesN W P a t.sub) := hl
  have HSm : Hid t.Sm := hs
  clear hl hd hs hb hgb hgs hgn hr
  go_enter Tryz.func12, Tryz.ntmps12
  go_wp2_with fail
  rw [HW0.out]
  refine Calls.mono HV.out ?_
  rintro e w1 ⟨rfl, hb1⟩
  have HB1 : Hid (Below W.heap.size W w1) := HB.out.trans (hb1.mono HB.out.size)
  have HX1 : Hid (w1.heap[W.heap.size]? = some (.cells #[.int .i64 t.id, .string t.nm, .int .i64 t.rep, .int .i64 t.kind, .slice a t.sub.length c] 24 (0, 0))) := blk_keep hb1 HX.out
  have HM1 : Hid (w1.heap[W.heap.size + 1]? = some (.cells #[.slice none 0 0] 46 (0, 0))) := blk_keep hb1 HM.out
  clear hb1 HV
  have m0 : w1.cell? ⟨W.heap.size + 1, 0, none⟩ = some (.slice none 0 0) := by simp [World.cell?, HM1.out]
  obtain ⟨⟨p0, p1, p2, p3, p4⟩, _⟩ := row_five HX1.out
  have HC : Hid _ := listsAround_any (SizeOf.sizeOf t + 1) t (Nat.lt_succ_self _) HSm.out [] (by simp; omega) none 0 a c P w1 (HL.out.keep HB1.out) ⟨fun j hj => absurd hj (by simp [i64s]), fun p hp => by simp at hp⟩
  go_wp2_with fail
  refine Calls.mono HC.out ?_
  rintro e w2 ⟨⟨la, lc, rfl, hlst⟩, hb2⟩
  have HLs : Hid (LstR w2 la (lsT [] t)) := hlst
  have HB2 : Hid (Below W.heap.size W w2) := HB1.out.trans (hb2.mono HB1.out.size)
  have HM2 : Hid (w2.heap[W.heap.size + 1]? = some (.cells #[.slice none 0 0] 46 (0, 0))) := blk_keep hb2 HM1.out
  clear hlst hb2 HC
  have hll : (lsT [] t).length ≤ 1000 := by have := lsT_len [] t; omega
  have HMem : Hid (∀ k, k < (lsT [] t).length → (nxtR (lsT [] t) k).length ≤ 1000) := fun k hk => (by
    have h := lsT_mem [] t (lsT [] t)[k] (List.getElem_mem hk)
    have e : (lsT [] t).getD k [] = (lsT [] t)[k] := by simp [List.getD, hk]
    rw [nxtR_len, e]
    simp at h
    omega)
  clear HX1 HM1 p0 p1 p2 p3 p4 m0 hn
  obtain ⟨L, HLe⟩ := hid_name (lsT [] t)
  rw [HLe.out] at HLs HMem hll ⊢
  go_wp2_with fail
  go_loopw [18] (fun x wr => ∃ (i : Nat) (l : Value) (svs : List Value), i ≤ L.length ∧ x = .int .i64 i ∧ Hid (BuI w2 L wr i l svs)) (fun x _ => L.length - (intOf x).toNat)
  case atStart => exact ⟨0, _, [], Nat.zero_le _, rfl, ⟨heap_alloc_new w2 _, ⟨World.ownsRow_nil _ _ _ _, rfl, fun j hj => absurd hj (by simp)⟩, (Below.refl _ _).alloc (Nat.le_refl _) _⟩⟩
  case round =>
    obtain ⟨i, l, svs, hik, rfl, HO⟩ := hrel
    obtain ⟨la1, lc1, hl1, HLst⟩ := HO.out.row.rl
    simp only [List.length_map, List.length_range] at hl1
    subst hl1
    obtain ⟨m1, m2⟩ := row_one HO.out.box
    have HMr : Hid (wr.heap[W.heap.size + 1]? = some (.cells #[.slice none 0 0] 46 (0, 0))) := blk_keep HO.out.old HM2.out
    have HBW : Hid (Below W.heap.size W wr) := HB2.out.trans (HO.out.old.mono HB2.out.size)
    by_cases hlt : i < L.length
    · have HC : Hid _ := nextOf_any la lc L i hlt hll
      have HC2 : Hid _ := HC.out wr.drew (HLs.out.lies.keep HO.out.old.drew)
      have HRow : Hid (wr.ownsRow (w2.heap.size + 1) 36 1 (.slice la1 i lc1) i svs) := (by have h := HO.out.row.1; rw [List.length_map, List.length_range] at h; exact h)
      clear HLst
      go_wp2_with fail
      go_region_law (first
        | (refine step_own_where _ rfl _ _ 44 rfl (w2.heap.size + 1) 36 iv (.slice none 0 0) 1 24 Tryz.underlying44 hvi hv0 hv1 hv2 rfl (by decide) _ i svs rfl ((ow_kept HRow.out hb1).alloc _) ⟨w1.heap.size, 0, none⟩ 1 1 [.slice a2 (nxtR L i).length c2] rfl rfl (cell_one_new _ _ _) (by intro u hu; simp at hu; subst hu; rfl) (by unfold maxLen; omega) (by omega) (by have := hb1.size; have := lt_of_block HO.out.box; simp; omega) (by decide) ?_; intro l' w3 hown3 hgrow3 hwh; obtain ⟨a9, c9, rfl⟩ := own_slC hown3; obtain ⟨y1, y2⟩ := row_one (HO.out.box3 hb1 hgrow3); have HOn : Hid _ := HO.out.push hb1 HL2.out (HMem.out i hlt) hown3 hgrow3)
        | (go_simp; refine Calls.mono HC2.out ?_; rintro e w1 ⟨⟨v2, rfl, hown2⟩, hb2⟩; obtain ⟨a2, c2, rfl, hl2⟩ := LiI.own hown2; have HL2 : Hid _ := hl2; clear hl2 hown2; have hb1 : Below wr.heap.size wr w1 := (Below.refl _ _).drew.trans hb2; have hs1 : w2.heap.size < w1.heap.size := (by have := hb1.size; have := lt_of_block HO.out.box; omega); have r4' := (hb1.cell (World.block_lt_of_cell? wr _ m1)).trans m1; have r5' : ∀ ob : Obj, (w1.alloc ob).cell? ⟨w2.heap.size, 0, none⟩ = some (.slice la1 i lc1) := fun ob => (((Below.refl w1.heap.size w1).alloc (Nat.le_refl _) ob).cell hs1).trans r4'))
      all_goals
        go_wp2
        go_roundw
        case rel => exact ⟨i + 1, _, _, by omega, by go_num, HOn⟩
        case measure => simp [intOf]; omega
    · obtain rfl : i = L.length := by omega
      obtain ⟨q1, q2⟩ := row_one HMr.out
      go_wp2
      refine bodyPost_ret (v := .tuple #[.agg #[.slice la1 L.length lc1], .nilIface]) (results_cS Tryz.results12 _ _ (W.heap.size + 1) 46 #[.slice la1 L.length lc1] (0, 0) _ .nilIface rfl rfl (row_setOne HMr.out) Tryz.underlying46 rfl (by kernel_rfl)) rfl ?_
      rw [HLe.out]
      have hro := HO.out.row.set (g := W.heap.size + 1) (j := 0) (x := .slice la1 L.length lc1) HMr.out (by decide) (by decide)
      obtain ⟨a8, c8, e8, hls⟩ := hro.rl
      have e9 : a8 = la1 := (by injection e8 with h; exact h.symm)
      rw [e9] at hls
      exact ⟨⟨la1, lc1, rfl, hls⟩, HBW.out.setCell (by simp) _⟩
end Go.Proofs.YtbicfjimlpdnkaaGreatDoor
