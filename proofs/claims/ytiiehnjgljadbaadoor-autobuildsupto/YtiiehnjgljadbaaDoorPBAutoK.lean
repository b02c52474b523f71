/-
  slices.Concat of ints: some, and one more.
  auto.listsAround: exact.
-/
import Derived.Test.YtiiehnjgljadbaaDoorPAutoN
import Derived.Lib.AppendZeros
import Derived.LoopN
import Derived.Test.YtiiehnjgljadbaaDoorPBLfM
import Derived.Test.YtiiehnjgljadbaaDoorPBAutoC
import Derived.Deep.Slices
namespace Go.Proofs.YtiiehnjgljadbaaDoor
open Go.RowKit
theorem below_ownI {B : Nat} {w wr w1 : World} {v : Value} {e s n : Nat} {xs : List Value} (hb : Below B w wr) (hB : B ≤ w.heap.size) (hown : wr.ownsRow B e s v n xs) (hg : wr.grownBy w1 v.ownBlock) : Below B w w1 :=
  hb.grown hg (by have := hb.size; omega) (fun k hk => (own_block hown hk).1)
set_option maxRecDepth 100000 in
set_option maxHeartbeats 1600000 in
theorem growI_any (n : Nat) (m : Int) (hm : m = (n : Nat)) (h0 : 0 < n) (h1 : n ≤ 1200000) (W : World) :
    Calls Tryd.prog (45) #[.slice none 0 0, .int .i64 m] W fun e w' => (∃ cap, e = .returned (.slice (some ⟨W.heap.size, 0, none⟩) 0 cap) ∧ w'.ownsRow W.heap.size 3 1 (.slice (some ⟨W.heap.size, 0, none⟩) 0 cap) 0 []) ∧ Below W.heap.size W w' := by
  subst hm
  obtain ⟨iv, hvi, hv0, hv1, hv2⟩ := info_parts Tryd.infoI
  have HR : Hid _ := Lib.run_append_nil_zeros (P := Tryd.prog) W 39 3 39 3 iv _ .i64 .i64 Tryd.underlying39 Tryd.underlying3 hvi hv0 n h0 (by omega) (by omega) (by rw [hv2]; omega)
  have hge := grownCap_ge W n 0 3
  have HO : Hid ((W.drew.alloc (.cells (Builtin.zeroCells (Value.int .i64 0).cells n ++ Builtin.zeroCells (Value.int .i64 0).cells (grownCap W n 0 3 - n)) 3)).ownsRow W.heap.size 3 1 (.slice (some ⟨W.heap.size, 0, none⟩) 0 (grownCap W n 0 3)) 0 []) := by
    refine ⟨rfl, .inr ⟨W.heap.size, _, _, rfl, Nat.le_refl _, heap_alloc_new W.drew _, Nat.zero_le _, grownCap_le_maxLen W n 0 _ (by unfold maxLen; omega), ?_, by simp⟩⟩
    rw [Array.size_append, size_zeroCells, size_zeroCells]
    show n * 1 + (grownCap W n 0 3 - n) * 1 = grownCap W n 0 3 * 1
    omega
  clear hvi hv0 hv1 hv2
  go_enter Tryd.func45, Tryd.ntmps45
  go_wp2_with (at_builtin; refine Lib.wpList_append_run _ rfl _ _ 39 3 rfl _ _ rfl rfl _ _ HR.out ?_)
  go_ret
  exact ⟨⟨_, rfl, HO.out⟩, ((Below.refl _ _).alloc (Nat.le_refl _) _).drew⟩
set_option maxRecDepth 100000 in
set_option maxHeartbeats 3200000 in
theorem concatI_any (W : World) (sb k c g2 : Nat) (pa : Option Addr) (xs : List Int) (y : Int) (h0 : W.cell? ⟨sb, 0, none⟩ = some (.slice pa k c)) (h1 : W.cell? ⟨sb, 1, none⟩ = some (.slice (some ⟨g2, 0, none⟩) 1 1))
    (hx : xs.length = k) (hxs : Lies W pa (i64s xs)) (hys : W.cell? ⟨g2, 0, none⟩ = some (.int .i64 y)) (hk : k ≤ 1000) :
    Calls Tryd.prog (27) #[.slice (some ⟨sb, 0, none⟩) 2 2] W fun e w' => (∃ v, e = .returned v ∧ w'.ownsRow W.heap.size 3 1 v (k + 1) (i64s (xs ++ [y]))) ∧ Below W.heap.size W w' := by
  obtain ⟨iv, hvi, hv0, hv1, hv2⟩ := info_parts Tryd.infoI
  have HX : Hid (Lies W pa (i64s xs)) := hxs
  have HY : Hid (W.cell? ⟨g2, 0, none⟩ = some (.int .i64 y)) := hys
  have H0 : Hid _ := h0
  have H1 : Hid _ := h1
  have HG : Hid _ := growI_any (k + 1) ((k : Int) + 1) (by omega) (by omega) (by omega) W
  have HE : Hid (i64s (xs ++ [y]) = i64s xs ++ [.int .i64 y]) := (by show _ = _; simp [i64s])
  clear hxs hys
  go_enter Tryd.func27, Tryd.ntmps27
  go_wp2
  refine wp_loop_rounds 3 ?_
  rw [rounds_succ]
  go_wp2
  rw [rounds_succ]
  go_wp2
  rw [rounds_succ]
  go_wp2_with fail
  refine Calls.mono HG.out ?_
  rintro e w1 ⟨⟨cap, rfl, hown1⟩, hb1⟩
  have HO1 : Hid (w1.ownsRow W.heap.size 3 1 (.slice (some ⟨W.heap.size, 0, none⟩) 0 cap) 0 []) := hown1
  have HB1 : Hid (Below W.heap.size W w1) := hb1
  have k0 := (hb1.cell (World.block_lt_of_cell? W _ h0)).trans h0
  clear hown1 h0 h1 HG
  go_wp2
  refine wp_loop_rounds 3 ?_
  rw [rounds_succ]
  go_wp2_with (at_builtin; refine wpList_append_any _ rfl _ _ 39 rfl W.heap.size 3 iv (.int .i64 0) 1 8 Tryd.underlying39 hvi hv0 hv1 hv2 rfl (by decide) (.slice (some ⟨W.heap.size, 0, none⟩) 0 cap) 0 [] rfl HO1.out pa k c (i64s xs) rfl (by rw [i64s_len]; omega) (news_i (HX.out.keep HB1.out)) (one_i _) (by unfold maxLen; omega) (by omega) HB1.out.size ?_; intro v2 w2 hown2 hgrow2 _; have hb2 : Below W.heap.size W w2 := below_ownI HB1.out (Nat.le_refl _) HO1.out hgrow2; have k1 := (hb2.cell (World.block_lt_of_cell? W _ H1.out)).trans H1.out)
  have HO2 : Hid (w2.ownsRow W.heap.size 3 1 v2 k (i64s xs)) := (by show World.ownsRow _ _ _ _ _ _ _; simpa using hown2)
  have HB2 : Hid (Below W.heap.size W w2) := hb2
  clear hown2 hgrow2 hb2
  rw [rounds_succ]
  go_wp2_with (at_builtin; refine wpList_append_own _ rfl _ _ 39 rfl W.heap.size 3 iv (.int .i64 0) 1 8 Tryd.underlying39 hvi hv0 hv1 hv2 rfl (by decide) _ k (i64s xs) rfl HO2.out ⟨g2, 0, none⟩ 1 1 [.int .i64 y] rfl rfl (fun j u hu => (by obtain ⟨hj, rfl⟩ := List.getElem?_eq_some_iff.1 hu; have : j = 0 := (by simp at hj; omega); subst this; exact (HB2.out.cell (World.block_lt_of_cell? W _ HY.out)).trans HY.out)) (by intro u hu; simp at hu; subst hu; rfl) (by unfold maxLen; omega) (by omega) HB2.out.size ?_; intro v3 w3 hown3 hgrow3 _)
  have HB3 : Hid (Below W.heap.size W w3) := below_ownI HB2.out (Nat.le_refl _) HO2.out hgrow3
  have HO3 : Hid (w3.ownsRow W.heap.size 3 1 v3 (k + 1) (i64s xs ++ [.int .i64 y])) := hown3
  clear hown3 hgrow3
  rw [rounds_succ]
  go_wp2
  go_ret
  exact ⟨⟨_, rfl, by rw [HE.out]; exact HO3.out⟩, HB3.out⟩
end Go.Proofs.YtiiehnjgljadbaaDoor

namespace Go.Proofs.YtiiehnjgljadbaaDoor
open Go.RowKit
/-- Ints that lie in a block of ints. -/
def LiI (w : World) (pa : Option Addr) (xs : List Int) : Prop := Lies w pa (i64s xs) ∧ ∀ p, pa = some p → ∃ cs z, w.heap[p.block]? = some (.cells cs 3 z)
theorem LiI.keep {w w' : World} {pa : Option Addr} {xs : List Int} (h : LiI w pa xs) (hb : Below w.heap.size w w') : LiI w' pa xs :=
  ⟨h.1.keep hb, fun p hp => by obtain ⟨cs, z, hc⟩ := h.2 p hp; exact ⟨cs, z, blk_keep hb hc⟩⟩
theorem LiI.grown {w w' : World} {pa : Option Addr} {xs : List Int} {N n : Nat} {v : Value} {rs : List Value} (h : LiI w pa xs) (ho : w.ownsRow N 39 1 v n rs) (hg : w.grownBy w' v.ownBlock) : LiI w' pa xs := by
  have hk : ∀ p, pa = some p → w'.heap[p.block]? = w.heap[p.block]? := fun p hp => by
    obtain ⟨cs, z, hc⟩ := h.2 p hp
    exact hg.block _ (lt_of_block hc) (own_type ho hc (by decide))
  refine ⟨fun j hj => ?_, fun p hp => by obtain ⟨cs, z, hc⟩ := h.2 p hp; exact ⟨cs, z, (hk p hp).trans hc⟩⟩
  obtain ⟨b, o, rfl, hc⟩ := h.1 j hj
  refine ⟨b, o, rfl, ?_⟩
  have e := hk _ rfl
  simp only [World.cell?] at hc ⊢
  rw [e]
  exact hc
theorem LiI.own {w : World} {N n : Nat} {v : Value} {xs : List Int} (h : w.ownsRow N 3 1 v n (i64s xs)) : ∃ a c, v = .slice a xs.length c ∧ LiI w a xs := by
  obtain ⟨a, c, hv, hl⟩ := lies_own h
  refine ⟨a, c, by rw [i64s_len] at hv; exact hv, hl, fun p hp => ?_⟩
  subst hp
  have hb : v.ownBlock = some p.block := by rw [hv]; rfl
  obtain ⟨_, _, cs, hc⟩ := own_block h hb
  exact ⟨cs, _, hc⟩
/-- A slice of lists. -/
def LstR (w : World) (la : Option Addr) (L : List (List Int)) : Prop := ∀ j (h : j < L.length), ∃ b o pa pc, la = some ⟨b, o, none⟩ ∧ w.cell? ⟨b, o + j, none⟩ = some (.slice pa L[j].length pc) ∧ LiI w pa L[j] ∧ L[j].length ≤ 1000
theorem LstR.lies {w : World} {la : Option Addr} {L : List (List Int)} (h : LstR w la L) : LiesLL w la L := fun j hj => by
  obtain ⟨b, o, pa, pc, e, hc, hl, hm⟩ := h j hj
  exact ⟨b, o, pa, pc, e, hc, hl.1, hm⟩
/-- A row of the call's own that holds lists. -/
def RowO (N : Nat) (w : World) (lv : Value) (L : List (List Int)) (svs : List Value) : Prop := w.ownsRow N 39 1 lv L.length svs ∧ svs.length = L.length ∧ ∀ j (h : j < L.length), ∃ pa pc, svs[j]? = some (.slice pa L[j].length pc) ∧ LiI w pa L[j] ∧ L[j].length ≤ 1000
theorem RowO.keep {N : Nat} {w w' : World} {lv : Value} {L : List (List Int)} {svs : List Value} (h : RowO N w lv L svs) (hb : Below w.heap.size w w') : RowO N w' lv L svs :=
  ⟨ow_kept h.1 hb, h.2.1, fun j hj => by obtain ⟨pa, pc, e, hl, hm⟩ := h.2.2 j hj; exact ⟨pa, pc, e, hl.keep hb, hm⟩⟩
theorem RowO.rl {N : Nat} {w : World} {lv : Value} {L : List (List Int)} {svs : List Value} (h : RowO N w lv L svs) : ∃ a c, lv = .slice a L.length c ∧ LstR w a L := by
  obtain ⟨a, c, hv, hl⟩ := lies_own h.1
  rw [h.2.1] at hv
  refine ⟨a, c, hv, fun j hj => ?_⟩
  obtain ⟨pa, pc, e, hi, hm⟩ := h.2.2 j hj
  have hj2 : j < svs.length := by rw [h.2.1]; exact hj
  obtain ⟨b, o, ea, hc⟩ := hl j hj2
  rw [List.getElem?_eq_getElem hj2] at e
  injection e with e
  rw [e] at hc
  exact ⟨b, o, pa, pc, ea, hc, hi, hm⟩
/-- What such a slice holds, as a list. -/
theorem LstR.news {w : World} {la : Option Addr} {L : List (List Int)} (h : LstR w la L) : ∃ svs : List Value, svs.length = L.length ∧ (∀ j u, svs[j]? = some u → ∃ a, la = some a ∧ w.cell? (a.add j) = some u) ∧ (∀ u ∈ svs, u.oneCell' = true) ∧ ∀ j (h : j < L.length), ∃ pa pc, svs[j]? = some (.slice pa L[j].length pc) ∧ LiI w pa L[j] ∧ L[j].length ≤ 1000 := by
  have each : ∀ i, i < L.length → ∃ u : Value, ∀ h : i < L.length, ∃ b o pa pc, la = some ⟨b, o, none⟩ ∧ w.cell? ⟨b, o + i, none⟩ = some u ∧ u = .slice pa L[i].length pc ∧ LiI w pa L[i] ∧ L[i].length ≤ 1000 := fun i hi => by
    obtain ⟨b, o, pa, pc, e, hc, hl, hm⟩ := h i hi
    exact ⟨_, fun _ => ⟨b, o, pa, pc, e, hc, rfl, hl, hm⟩⟩
  have : Inhabited Value := ⟨.nilIface⟩
  obtain ⟨f, hf⟩ := Deep.choose_lt each
  refine ⟨(List.range L.length).map f, by simp, fun j u hu => ?_, fun u hu => ?_, fun j hj => ?_⟩
  · obtain ⟨hj, rfl⟩ := List.getElem?_eq_some_iff.1 hu
    have hj' : j < L.length := by simpa using hj
    obtain ⟨b, o, pa, pc, e, hc, _⟩ := hf j hj' hj'
    exact ⟨_, e, by rw [addr_add]; simpa using hc⟩
  · obtain ⟨i, hi, rfl⟩ := List.mem_map.1 hu
    have hi' : i < L.length := by simpa using hi
    obtain ⟨b, o, pa, pc, _, _, e, _⟩ := hf i hi' hi'
    rw [e]; rfl
  · obtain ⟨b, o, pa, pc, _, _, e, hl, hm⟩ := hf j hj hj
    exact ⟨pa, pc, by simp [hj, e], hl, hm⟩
theorem RowO.push {N : Nat} {w w' : World} {lv v' : Value} {L L2 : List (List Int)} {svs svs2 : List Value} (h : RowO N w lv L svs) (hl2 : svs2.length = L2.length) (h2 : ∀ j (h : j < L2.length), ∃ pa pc, svs2[j]? = some (.slice pa L2[j].length pc) ∧ LiI w pa L2[j] ∧ L2[j].length ≤ 1000)
    (ho : w'.ownsRow N 39 1 v' (L.length + L2.length) (svs ++ svs2)) (hg : w.grownBy w' lv.ownBlock) : RowO N w' v' (L ++ L2) (svs ++ svs2) := by
  refine ⟨by rw [List.length_append]; exact ho, by simp [h.2.1, hl2], fun j hj => ?_⟩
  by_cases hlt : j < L.length
  · obtain ⟨pa, pc, e, hi, hm⟩ := h.2.2 j hlt
    rw [List.getElem_append_left hlt]
    exact ⟨pa, pc, by rw [List.getElem?_append_left (by rw [h.2.1]; exact hlt)]; exact e, hi.grown h.1 hg, hm⟩
  · have hj2 : j - L.length < L2.length := by simp at hj; omega
    obtain ⟨pa, pc, e, hi, hm⟩ := h2 (j - L.length) hj2
    rw [List.getElem_append_right (by omega)]
    exact ⟨pa, pc, by rw [List.getElem?_append_right (by rw [h.2.1]; omega), h.2.1]; exact e, hi.grown h.1 hg, hm⟩
end Go.Proofs.YtiiehnjgljadbaaDoor
