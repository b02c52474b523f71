/-
  schema.idsAreRight: exact.
  schema.Valid: exact: which error, or none.
-/
import Derived.Test.YtbicfjimlpdnkaaGreatDoorHBWalkT
import Derived.Maps.Own
import Derived.Maps.OwnOps
import Derived.Maps.OwnSet
import Derived.Maps.Views
namespace Go.Proofs.YtbicfjimlpdnkaaGreatDoor
open Go.RowKit Go.Maps
theorem Tryz.lawI : Keyed Tryz.prog 3 := int_keyed Tryz.underlying3
set_option maxRecDepth 100000 in
theorem Tryz.zeroU (w : World) : (zeroValue 142).run Tryz.prog w = .ok (.agg #[]) w := by kernel_rfl
def ilit (i : Int) : Lit := .int .i64 i
/-- The set that holds these numbers. -/
def idS (acc : List Int) : DataW Unit := setOf (.agg []) (acc.map ilit)
theorem idS_snoc (acc : List Int) (i : Int) : idS (acc ++ [i]) = (idS acc).put (ilit i) (.agg []) := by
  unfold idS
  rw [List.map_append, List.map_cons, List.map_nil, setOf_snoc]
theorem idS_has (acc : List Int) (i : Int) : Maps.has (idS acc) (ilit i) = acc.contains i := by
  unfold idS
  rw [has_setOf _ _ _ (fun x hx => by obtain ⟨j, _, rfl⟩ := List.mem_map.1 hx; trivial)]
  induction acc with
  | nil => rfl
  | cons x xs ih =>
    rw [List.map_cons, List.any_cons, ih, List.contains_cons]
    congr 1
    show decide (_ ∧ _) = _
    by_cases h : i = x
    · subst h; simp
    · have h' : ¬ x = i := fun e => h e.symm
      simp [h, h']
/-- A map that holds these numbers. -/
def SetI (mb : Nat) (acc : List Int) (W : World) : Prop := acc.length ≤ 1000000 ∧ W.ownsMap Tryz.prog 3 (unitElem (H := Unit)) mb acc.length (idS acc)
set_option maxRecDepth 100000 in
set_option maxHeartbeats 1600000 in
theorem has_any (mb : Nat) (acc : List Int) (i : Int) (hi : -9223372036854775808 ≤ i ∧ i ≤ 9223372036854775807) (W : World) (h : SetI mb acc W) :
    Calls Tryz.prog (74) #[.map (some mb), .int .i64 i] W fun e w' => e = .returned (.bool (acc.contains i)) ∧ Below W.heap.size W w' := by
  have HO : Hid _ := h.2
  have HK : Hid _ := keyOf_int_mk Tryz.underlying3 (WalkArith.wf_i64 hi)
  have HE : Hid (Maps.has (idS acc) (.int .i64 i) = acc.contains i) := idS_has acc i
  clear h
  go_enter Tryz.func74, Tryz.ntmps74
  go_wp2_with (at_lookup; refine wpList_lookup_own_unit _ rfl _ _ 125 rfl 3 142 Tryz.lawI Tryz.underlying125 (Tryz.zeroU _) mb acc.length (idS acc) rfl HO.out _ _ rfl HK.out ?_)
  go_ret
  exact ⟨by rw [← HE.out]; rfl, (Below.refl _ _).alloc (Nat.le_refl _) _⟩
set_option maxRecDepth 100000 in
set_option maxHeartbeats 1600000 in
theorem add_any (mb : Nat) (acc : List Int) (i : Int) (hi : -9223372036854775808 ≤ i ∧ i ≤ 9223372036854775807) (hn : acc.length < 1000000) (W : World) (h : SetI mb acc W) :
    Calls Tryz.prog (75) #[.map (some mb), .int .i64 i] W fun e w' => e = .returned (.tuple #[]) ∧ SetI mb (acc ++ [i]) w' ∧ W.grownBy w' (some mb) := by
  have HO : Hid _ := h.2
  have HK : Hid _ := keyOf_int_mk Tryz.underlying3 (WalkArith.wf_i64 hi)
  clear h
  go_enter Tryz.func75, Tryz.ntmps75
  go_wp2_with (at_mapUpdate; refine wpList_mapUpdate_own _ rfl _ _ _ 125 rfl 3 142 Tryz.lawI Tryz.underlying125 _ mb acc.length (idS acc) rfl HO.out (by unfold maxLen; omega) _ _ _ rfl rfl HK.out (.agg []) [] unitElem_mk ?_; intro w1 hown1 hgrow1)
  have HN : Hid (SetI mb (acc ++ [i]) w1) := ⟨by simp; omega, by rw [idS_snoc, List.length_append]; exact hown1⟩
  have HG : Hid _ := hgrow1
  clear hown1 hgrow1
  go_end0
  exact ⟨rfl, HN.out, HG.out⟩
/-- Unlike numbers from 1 up to one are no more than it. -/
theorem unlike_len : ∀ (n : Nat) (l : List Int), l.Nodup → (∀ x ∈ l, 1 ≤ x ∧ x ≤ n) → l.length ≤ n
  | 0, l, _, hb => by
    cases l with
    | nil => simp
    | cons x xs => have := hb x (by simp); omega
  | n + 1, l, hn, hb => by
    by_cases h : ((n + 1 : Nat) : Int) ∈ l
    · have h1 := unlike_len n (l.erase ((n + 1 : Nat) : Int)) (hn.erase _) (fun x hx => by
        have h2 := (hn.mem_erase_iff).1 hx
        have h3 := hb x h2.2
        have h4 := h2.1
        omega)
      rw [List.length_erase_of_mem h] at h1
      omega
    · have h1 := unlike_len n l hn (fun x hx => by
        have h3 := hb x hx
        have h4 : x ≠ ((n + 1 : Nat) : Int) := fun e => h (e ▸ hx)
        omega)
      omega
def stI (acc : List Int) (path : List Tr) (t : Tr) : Bool × List Int := if path.length = 0 then (true, acc) else (!(acc.contains t.id) && decide (1 ≤ t.id ∧ t.id ≤ 1000), acc ++ [t.id])
/-- What the visitor holds. -/
structure IdI (g mb : Nat) (acc : List Int) (W : World) : Prop where
  cell : W.heap[g]? = some (.cells #[.map (some mb)] 125 (0, 0))
  set : SetI mb acc W
  unlike : acc.Nodup
  bound : ∀ x ∈ acc, 1 ≤ x ∧ x ≤ 1000
theorem IdI.len {g mb : Nat} {acc : List Int} {W : World} (h : IdI g mb acc W) : acc.length ≤ 1000 := unlike_len 1000 acc h.unlike h.bound
theorem SetI.keep {mb : Nat} {acc : List Int} {W w' : World} (h : SetI mb acc W) (hb : Below W.heap.size W w') : SetI mb acc w' := by
  obtain ⟨h1, es, clock, h2, h3⟩ := h
  exact ⟨h1, es, clock, (hb.block mb (lt_of_block h2)).trans h2, h3⟩
set_option maxRecDepth 100000 in
set_option maxHeartbeats 1600000 in
theorem ids1_any (g mb B Bw : Nat) (hg : g < Bw) (hmb : mb < Bw) (hmB : B ≤ mb) (acc : List Int) (path : List Tr) (t : Tr) (a : Option Addr) (c : Nat) (v : Value) (W : World) (hs : t.Sm) (hi : IdI g mb acc W) (hp : PathR W B Bw v path) (hbw : Bw ≤ W.heap.size) :
    Calls Tryz.prog 73 #[nodeV t a c, v, .pointer (some ⟨g, 0, none⟩)] W fun e w' => e = .returned (.bool (stI acc path t).1) ∧ ((stI acc path t).1 = true → IdI g mb (stI acc path t).2 w') ∧ ((stI acc path t).1 = false → True) ∧ VFr B Bw W w' := by
  obtain ⟨va, vc, rfl⟩ := hp.shape
  have hid := hs.id_
  have HI : Hid _ := hi
  have hb1 : Below W.heap.size W (W.alloc (.cells #[.int .i64 t.id, .string t.nm, .int .i64 t.rep, .int .i64 t.kind, .slice a t.sub.length c] 24)) := (Below.refl _ _).alloc (Nat.le_refl _) _
  have HB1 : Hid _ := hb1
  by_cases h0 : path.length = 0
  · have HE : Hid (stI acc path t = (true, acc)) := if_pos h0
    have q : ((path.length : Int) == 0) = true := by simp [h0]
    clear hp hi hs hb1
    go_enter Tryz.func73, Tryz.ntmps73
    go_wp2
    go_ret
    rw [HE.out]
    exact ⟨rfl, fun _ => ⟨blk_keep HB1.out HI.out.cell, HI.out.set.keep HB1.out, HI.out.unlike, HI.out.bound⟩, fun h => by simp at h, VFr.of_below HB1.out (by omega)⟩
  · have HE : Hid (stI acc path t = (!(acc.contains t.id) && decide (1 ≤ t.id ∧ t.id ≤ 1000), acc ++ [t.id])) := if_neg h0
    have q : ((path.length : Int) == 0) = false := by rw [beq_eq_false_iff_ne]; omega
    obtain ⟨c0, f0⟩ := row_one (blk_keep hb1 hi.cell)
    have HC : Hid _ := has_any mb acc t.id hid _ (hi.set.keep hb1)
    clear hp hi hs hb1
    go_enter Tryz.func73, Tryz.ntmps73
    go_wp2_with fail
    refine Calls.mono HC.out ?_
    rintro e w1 ⟨rfl, hb2⟩
    have HB2 : Hid (Below W.heap.size W w1) := HB1.out.trans (hb2.mono HB1.out.size)
    have HX : Hid (w1.heap[W.heap.size]? = some (.cells #[.int .i64 t.id, .string t.nm, .int .i64 t.rep, .int .i64 t.kind, .slice a t.sub.length c] 24 (0, 0))) := blk_keep hb2 (heap_alloc_new W _)
    clear hb2 c0 f0
    obtain ⟨c0, f0⟩ := row_one (blk_keep HB2.out HI.out.cell)
    obtain ⟨⟨p0, p1, p2, p3, p4⟩, _⟩ := row_five HX.out
    have HA : Hid _ := add_any mb acc t.id hid (by have := HI.out.len; omega) w1 (HI.out.set.keep HB2.out)
    go_wp2_with fail
    refine Calls.mono HA.out ?_
    rintro e w2 ⟨rfl, hset, hg2⟩
    have hlt : W.heap.size < w1.heap.size := lt_of_block HX.out
    have HX2 : Hid (w2.heap[W.heap.size]? = some (.cells #[.int .i64 t.id, .string t.nm, .int .i64 t.rep, .int .i64 t.kind, .slice a t.sub.length c] 24 (0, 0))) := (hg2.block W.heap.size hlt (by simp; omega)).trans HX.out
    have HG2 : Hid (w2.heap[g]? = some (.cells #[.map (some mb)] 125 (0, 0))) := (hg2.block g (by omega) (by
      simp
      rintro rfl
      obtain ⟨_, es, clock, h2, _⟩ := HI.out.set
      rw [HI.out.cell] at h2
      cases h2)).trans (blk_keep HB2.out HI.out.cell)
    have HS2 : Hid _ := hset
    have HV : Hid (VFr B Bw W w2) := (VFr.of_below HB2.out (by omega)).trans ⟨⟨hg2.os, hg2.tape, hg2.output, hg2.size, fun k hk => hg2.block k (by omega) (by simp; omega)⟩, fun k h1 h2 h3 => hg2.block k h2 (by simp; omega)⟩
    clear hset hg2 c0 f0 p0 p1 p2 p3 p4 hlt
    obtain ⟨⟨p0, p1, p2, p3, p4⟩, _⟩ := row_five HX2.out
    cases hc : acc.contains t.id with
    | true =>
      have HF : Hid (stI acc path t = (false, acc ++ [t.id])) := (by show _ = _; rw [HE.out, hc]; rfl)
      have hm : t.id ∈ acc := List.contains_iff_mem.1 hc
      go_wp2
      go_ret
      rw [HF.out]
      exact ⟨rfl, fun h => by simp at h, fun _ => trivial, HV.out⟩
    | false =>
      have HNin : Hid (t.id ∉ acc) := (by
        intro hm
        have := List.contains_iff_mem.2 hm
        rw [hc] at this
        cases this)
      by_cases h1 : 1 ≤ t.id
      · have q1 : decide (1 ≤ t.id) = true := by simp [h1]
        by_cases h2 : t.id ≤ 1000
        · have q2 : decide (t.id ≤ 1000) = true := by simp [h2]
          have HF : Hid (stI acc path t = (true, acc ++ [t.id])) := (by show _ = _; rw [HE.out, hc]; simp [h1, h2])
          have HNew : Hid (IdI g mb (acc ++ [t.id]) w2) := ⟨HG2.out, HS2.out, List.nodup_append.2 ⟨HI.out.unlike, by simp, fun x hx y hy => by simp at hy; subst hy; exact fun e => HNin.out (e ▸ hx)⟩, fun x hx => by
            rcases List.mem_append.1 hx with hx | hx
            · exact HI.out.bound x hx
            · rw [List.mem_singleton.1 hx]; exact ⟨h1, h2⟩⟩
          clear hc
          go_wp2
          all_goals first | (exfalso; omega) | (go_ret; rw [HF.out]; exact ⟨by first | rfl | simp [h1] | simp [h1, h2], fun _ => HNew.out, fun h => by simp at h, HV.out⟩)
        · have q2 : decide (t.id ≤ 1000) = false := by simp [h2]
          have HF : Hid (stI acc path t = (false, acc ++ [t.id])) := (by show _ = _; rw [HE.out, hc]; simp [h2])
          clear hc
          go_wp2
          all_goals first | (exfalso; omega) | (go_ret; rw [HF.out]; exact ⟨by first | rfl | simp [h1] | simp [h1, h2], fun h => by simp at h, fun _ => trivial, HV.out⟩)
      · have q1 : decide (1 ≤ t.id) = false := by simp [h1]
        have HF : Hid (stI acc path t = (false, acc ++ [t.id])) := (by show _ = _; rw [HE.out, hc]; simp [h1])
        clear hc
        go_wp2
        all_goals first | (exfalso; omega) | (go_ret; rw [HF.out]; exact ⟨by first | rfl | simp [h1] | simp [h1, h2], fun h => by simp at h, fun _ => trivial, HV.out⟩)
def idsT (t : Tr) : Bool := (wkT stI [] [] t).1
set_option maxRecDepth 100000 in
set_option maxHeartbeats 1600000 in
theorem ids_any (t : Tr) (n : Nat) (hd : t.Dp n) (hn : n ≤ 1100000) (hs : t.Sm) (a : Option Addr) (c : Nat) (P : Nat → Prop) (W : World) (hl : LiesN W P a t.sub) (hcap : t.sub.length ≤ c) :
    Calls Tryz.prog 42 #[nodeV t a c] W fun e w' => e = .returned (.bool (idsT t)) ∧ Below W.heap.size W w' := by
  have hmm := @run_makeMap Tryz.prog
  have hb : Below W.heap.size W (((W.alloc (.cells #[.int .i64 t.id, .string t.nm, .int .i64 t.rep, .int .i64 t.kind, .slice a t.sub.length c] 24)).alloc (.map #[] 0)).alloc (.cells #[.map (some (W.heap.size + 1))] 125)) := (((Below.refl _ _).alloc (Nat.le_refl _) _).alloc (by simp) _).alloc (by simp; omega) _
  have hset : SetI (W.heap.size + 1) [] (((W.alloc (.cells #[.int .i64 t.id, .string t.nm, .int .i64 t.rep, .int .i64 t.kind, .slice a t.sub.length c] 24)).alloc (.map #[] 0)).alloc (.cells #[.map (some (W.heap.size + 1))] 125)) := ⟨by simp, by
    have h := World.ownsMap_made (W.alloc (.cells #[.int .i64 t.id, .string t.nm, .int .i64 t.rep, .int .i64 t.kind, .slice a t.sub.length c] 24)) Tryz.prog 3 (unitElem (H := Unit))
    rw [show (W.alloc (.cells #[.int .i64 t.id, .string t.nm, .int .i64 t.rep, .int .i64 t.kind, .slice a t.sub.length c] 24)).heap.size = W.heap.size + 1 by simp] at h
    exact h.alloc _⟩
  have hcell : (((W.alloc (.cells #[.int .i64 t.id, .string t.nm, .int .i64 t.rep, .int .i64 t.kind, .slice a t.sub.length c] 24)).alloc (.map #[] 0)).alloc (.cells #[.map (some (W.heap.size + 1))] 125)).heap[W.heap.size + 2]? = some (.cells #[.map (some (W.heap.size + 1))] 125 (0, 0)) := by
    have h := heap_alloc_new ((W.alloc (.cells #[.int .i64 t.id, .string t.nm, .int .i64 t.rep, .int .i64 t.kind, .slice a t.sub.length c] 24)).alloc (.map #[] 0)) (.cells #[.map (some (W.heap.size + 1))] 125)
    rwa [show ((W.alloc (.cells #[.int .i64 t.id, .string t.nm, .int .i64 t.rep, .int .i64 t.kind, .slice a t.sub.length c] 24)).alloc (.map #[] 0)).heap.size = W.heap.size + 2 by simp] at h
  have HC : Hid _ := wkI_any stI (IdI (W.heap.size + 2) (W.heap.size + 1)) (fun _ _ => True) (fun _ _ => True) (fun _ => 0) t.cnt (W.heap.size + 2) W.heap.size (W.heap.size + 3) (by omega)
    (fun s W' w' r hi hg hr => by
      obtain ⟨h1, ⟨h2, es, clock, h3, h4⟩, h5, h6⟩ := hi
      exact ⟨(hg.block _ (lt_of_block h1) (fun e => by have := (hr _ e.symm).1; omega)).trans h1, ⟨h2, es, clock, (hg.block _ (lt_of_block h3) (fun e => by have := (hr _ e.symm).1; omega)).trans h3, h4⟩, h5, h6⟩)
    (fun _ _ _ _ _ => trivial) (fun _ _ _ => Nat.zero_le _)
    (fun s path t a c v W' _ _ h1 h2 h3 hcap h4 h5 => ids1_any (W.heap.size + 2) (W.heap.size + 1) W.heap.size (W.heap.size + 3) (by omega) (by omega) (by omega) s path t a c v W' h4 h1 h2 h5)
    n t hd hs [] [] a c (.slice none 0 0) _ trivial (by simp) (by simp; omega)
    ⟨hcell, hset, by simp, fun x hx => by simp at hx⟩ (PathR.nil _ _ _) (hl.stay (fun b _ h => h) (fun b _ h => hb.block b h)) hcap (by simp)
  have HB : Hid _ := hb
  clear hl hd hs hb hset hcell
  go_enter Tryz.func42, Tryz.ntmps42
  go_wp2_with fail
  refine Calls.mono HC.out ?_
  rintro e w1 ⟨rfl, _, _, hf, _⟩
  have HF : Hid _ := hf.below
  clear hf
  go_wp2
  go_ret
  exact ⟨rfl, HB.out.trans HF.out⟩
end Go.Proofs.YtbicfjimlpdnkaaGreatDoor

namespace Go.Proofs.YtbicfjimlpdnkaaGreatDoor
open Go.RowKit
/-- A schema's error: 0: none; 1: bound, 2: shape, 4: name (places of the listed errors). -/
def vldN (t : Tr) : Nat := if inB t = false then 1 else if isRootB t = false ∨ shpT t = false then 2 else if nmsT t = false ∨ idsT t = false then 4 else 0
/-- .. as a value. -/
def vldV (eb es en : Value) (t : Tr) : Value := if inB t = false then eb else if isRootB t = false ∨ shpT t = false then es else if nmsT t = false ∨ idsT t = false then en else .nilIface
set_option maxRecDepth 100000 in
set_option maxHeartbeats 1600000 in
theorem valid_any (t : Tr) (n : Nat) (hd : t.Dp n) (hn : n ≤ 1100000) (hs : t.Sm) (a : Option Addr) (c : Nat) (P : Nat → Prop) (W : World) (hl : LiesN W P a t.sub) (hcap : t.sub.length ≤ c) (eb es en : TypeId × Value)
    (hgb : W.cell? ⟨0, 0, none⟩ = some (.iface eb.1 eb.2)) (hgs : W.cell? ⟨1, 0, none⟩ = some (.iface es.1 es.2)) (hgn : W.cell? ⟨2, 0, none⟩ = some (.iface en.1 en.2)) :
    Calls Tryz.prog 23 #[nodeV t a c] W fun e w' => e = .returned (vldV (.iface eb.1 eb.2) (.iface es.1 es.2) (.iface en.1 en.2) t) ∧ Below W.heap.size W w' := by
  have hb : Below W.heap.size W (W.alloc (.cells #[.int .i64 t.id, .string t.nm, .int .i64 t.rep, .int .i64 t.kind, .slice a t.sub.length c] 24)) := (Below.refl _ _).alloc (Nat.le_refl _) _
  have HX : Hid ((W.alloc (.cells #[.int .i64 t.id, .string t.nm, .int .i64 t.rep, .int .i64 t.kind, .slice a t.sub.length c] 24)).heap[W.heap.size]? = some (.cells #[.int .i64 t.id, .string t.nm, .int .i64 t.rep, .int .i64 t.kind, .slice a t.sub.length c] 24 (0, 0))) := heap_alloc_new W _
  have HL : Hid (LiesN W P a t.sub) := hl
  have HGb : Hid _ := hgb
  have HGs : Hid _ := hgs
  have HGn : Hid _ := hgn
  have HD : Hid _ := hd
  have HSm : Hid _ := hs
  have HB : Hid _ := hb
  obtain ⟨b1, H1⟩ : ∃ b1, Hid (inB t = b1) := ⟨_, rfl⟩
  obtain ⟨b2, H2⟩ : ∃ b2, Hid (isRootB t = b2) := ⟨_, rfl⟩
  obtain ⟨b3, H3⟩ : ∃ b3, Hid (shpT t = b3) := ⟨_, rfl⟩
  obtain ⟨b4, H4⟩ : ∃ b4, Hid (nmsT t = b4) := ⟨_, rfl⟩
  obtain ⟨b5, H5⟩ : ∃ b5, Hid (idsT t = b5) := ⟨_, rfl⟩
  clear hl hd hs hb hgb hgs hgn
  go_enter Tryz.func23, Tryz.ntmps23
  go_wp2_with fail
  refine (inBounds_any t n HD.out hn HSm.out a c P _ (HL.out.keep HB.out) hcap).mono ?_
  rw [H1.out]
  rintro e w1 ⟨rfl, hb1⟩
  have HB1 : Hid (Below W.heap.size W w1) := HB.out.trans (hb1.mono HB.out.size)
  have HX1 : Hid (w1.heap[W.heap.size]? = some (.cells #[.int .i64 t.id, .string t.nm, .int .i64 t.rep, .int .i64 t.kind, .slice a t.sub.length c] 24 (0, 0))) := blk_keep hb1 HX.out
  clear hb1
  cases b1 with
  | false =>
    have hgb := (HB1.out.cell (World.block_lt_of_cell? W _ HGb.out)).trans HGb.out
    go_wp2
    go_ret
    exact ⟨by rw [vldV, if_pos H1.out]; rfl, HB1.out⟩
  | true =>
    obtain ⟨⟨p0, p1, p2, p3, p4⟩, _⟩ := row_five HX1.out
    go_wp2_with fail
    refine (isRoot_any t a c _).mono ?_
    rw [H2.out]
    rintro e w2 ⟨rfl, hb2⟩
    have HB2 : Hid (Below W.heap.size W w2) := HB1.out.trans (hb2.mono HB1.out.size)
    have HX2 : Hid (w2.heap[W.heap.size]? = some (.cells #[.int .i64 t.id, .string t.nm, .int .i64 t.rep, .int .i64 t.kind, .slice a t.sub.length c] 24 (0, 0))) := blk_keep hb2 HX1.out
    clear hb2 p0 p1 p2 p3 p4
    obtain ⟨⟨p0, p1, p2, p3, p4⟩, _⟩ := row_five HX2.out
    cases b2 with
    | false =>
      have hgs := (HB2.out.cell (World.block_lt_of_cell? W _ HGs.out)).trans HGs.out
      go_wp2
      go_ret
      exact ⟨by rw [vldV, if_neg (by rw [H1.out]; simp), if_pos (.inl H2.out)]; rfl, HB2.out⟩
    | true =>
      go_wp2_with fail
      refine (shapes_any t n HD.out hn HSm.out a c P _ (HL.out.keep HB2.out) hcap).mono ?_
      rw [H3.out]
      rintro e w3 ⟨rfl, hb3⟩
      have HB3 : Hid (Below W.heap.size W w3) := HB2.out.trans (hb3.mono HB2.out.size)
      have HX3 : Hid (w3.heap[W.heap.size]? = some (.cells #[.int .i64 t.id, .string t.nm, .int .i64 t.rep, .int .i64 t.kind, .slice a t.sub.length c] 24 (0, 0))) := blk_keep hb3 HX2.out
      clear hb3 p0 p1 p2 p3 p4
      obtain ⟨⟨p0, p1, p2, p3, p4⟩, _⟩ := row_five HX3.out
      cases b3 with
      | false =>
        have hgs := (HB3.out.cell (World.block_lt_of_cell? W _ HGs.out)).trans HGs.out
        go_wp2
        go_ret
        exact ⟨by rw [vldV, if_neg (by rw [H1.out]; simp), if_pos (.inr H3.out)]; rfl, HB3.out⟩
      | true =>
        go_wp2_with fail
        refine (names_any t n HD.out hn HSm.out a c P _ (HL.out.keep HB3.out) hcap).mono ?_
        rw [H4.out]
        rintro e w4 ⟨rfl, hb4⟩
        have HB4 : Hid (Below W.heap.size W w4) := HB3.out.trans (hb4.mono HB3.out.size)
        have HX4 : Hid (w4.heap[W.heap.size]? = some (.cells #[.int .i64 t.id, .string t.nm, .int .i64 t.rep, .int .i64 t.kind, .slice a t.sub.length c] 24 (0, 0))) := blk_keep hb4 HX3.out
        clear hb4 p0 p1 p2 p3 p4
        obtain ⟨⟨p0, p1, p2, p3, p4⟩, _⟩ := row_five HX4.out
        cases b4 with
        | false =>
          have hgn := (HB4.out.cell (World.block_lt_of_cell? W _ HGn.out)).trans HGn.out
          go_wp2
          go_ret
          exact ⟨by rw [vldV, if_neg (by rw [H1.out]; simp), if_neg (by rw [H2.out, H3.out]; simp), if_pos (.inl H4.out)]; rfl, HB4.out⟩
        | true =>
          go_wp2_with fail
          refine (ids_any t n HD.out hn HSm.out a c P _ (HL.out.keep HB4.out) hcap).mono ?_
          rw [H5.out]
          rintro e w5 ⟨rfl, hb5⟩
          have HB5 : Hid (Below W.heap.size W w5) := HB4.out.trans (hb5.mono HB4.out.size)
          clear hb5 p0 p1 p2 p3 p4
          cases b5 with
          | false =>
            have hgn := (HB5.out.cell (World.block_lt_of_cell? W _ HGn.out)).trans HGn.out
            go_wp2
            go_ret
            exact ⟨by rw [vldV, if_neg (by rw [H1.out]; simp), if_neg (by rw [H2.out, H3.out]; simp), if_pos (.inr H5.out)]; rfl, HB5.out⟩
          | true =>
            go_wp2
            go_ret
            exact ⟨by rw [vldV, if_neg (by rw [H1.out]; simp), if_neg (by rw [H2.out, H3.out]; simp), if_neg (by rw [H4.out, H5.out]; simp)]; rfl, HB5.out⟩
theorem vldV_nil {eb es en : Value} {t : Tr} (hr : vldN t = 0) : vldV eb es en t = .nilIface := by
  unfold vldN at hr
  unfold vldV
  split at hr
  · omega
  · rename_i h1
    rw [if_neg h1]
    split at hr
    · omega
    · rename_i h2
      rw [if_neg h2]
      split at hr
      · omega
      · rename_i h3
        rw [if_neg h3]
end Go.Proofs.YtbicfjimlpdnkaaGreatDoor
