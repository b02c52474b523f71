/-
  schema.idsAreRight: exact.
  schema.Valid: exact: which error, or none.
  A schema's error by its flat list, and by walks through it: the same; the words, without the program.
  Boxes, frames and names that the walks of stage 4's laws share.
  A schema under a projection: the two ways to tell what stays: the words, without the program.
  A right schema: no number twice, each node has a leaf in it.
-/
import Derived.Test.YtdpedailookcjaaDoorSBWkI
import Derived.Maps.Own
import Derived.Maps.OwnOps
import Derived.Maps.OwnSet
import Derived.Maps.Views
import Derived.Test.YtdpedailookcjaaDoorSBOwnN
import Derived.Test.YtdpedailookcjaaDoorSOwn
import Derived.BigQuiet
namespace Go.Proofs.YtdpedailookcjaaDoor
open Go.RowKit Go.Maps
theorem Tryd.lawI : Keyed Tryd.prog 3 := int_keyed Tryd.underlying3
set_option maxRecDepth 100000 in
theorem Tryd.zeroU (w : World) : (zeroValue 119).run Tryd.prog w = .ok (.agg #[]) w := by kernel_rfl
def ilit (i : Int) : Lit := .int .i64 i
/-- The set that holds these numbers. -/
def idS (acc : List Int) : DataW Unit := setOf (.agg []) (acc.map ilit)
theorem idS_snoc (acc : List Int) (i : Int) : idS (acc ++ [i]) = (idS acc).put (ilit i) (.agg []) := by
  unfold idS
  rw [List.map_append, List.map_cons, List.map_nil, setOf_snoc]
theorem idS_has (acc : List Int) (i : Int) : Maps.has (idS acc) (ilit i) = acc.contains i := by
  unfold idS
  rw [has_setOf _ _ _ (fun x hx => by obtain ⟨j, _, rfl⟩ := List.mem_map.1 hx; trivial)]
  induction acc with
  | nil => rfl
  | cons x xs ih =>
    rw [List.map_cons, List.any_cons, ih, List.contains_cons]
    congr 1
    show decide (_ ∧ _) = _
    by_cases h : i = x
    · subst h; simp
    · have h' : ¬ x = i := fun e => h e.symm
      simp [h, h']
/-- A map that holds these numbers. -/
def SetI (mb : Nat) (acc : List Int) (W : World) : Prop := acc.length ≤ 1000000 ∧ W.ownsMap Tryd.prog 3 (unitElem (H := Unit)) mb acc.length (idS acc)
set_option maxRecDepth 100000 in
set_option maxHeartbeats 1600000 in
theorem has_any (mb : Nat) (acc : List Int) (i : Int) (hi : -9223372036854775808 ≤ i ∧ i ≤ 9223372036854775807) (W : World) (h : SetI mb acc W) :
    Calls Tryd.prog (81) #[.map (some mb), .int .i64 i] W fun e w' => e = .returned (.bool (acc.contains i)) ∧ Below W.heap.size W w' := by
  have HO : Hid _ := h.2
  have HK : Hid _ := keyOf_int_mk Tryd.underlying3 (WalkArith.wf_i64 hi)
  have HE : Hid (Maps.has (idS acc) (.int .i64 i) = acc.contains i) := idS_has acc i
  clear h
  go_enter Tryd.func81, Tryd.ntmps81
  go_wp2_with (at_lookup; refine wpList_lookup_own_unit _ rfl _ _ 114 rfl 3 119 Tryd.lawI Tryd.underlying114 (Tryd.zeroU _) mb acc.length (idS acc) rfl HO.out _ _ rfl HK.out ?_)
  go_ret
  exact ⟨by rw [← HE.out]; rfl, (Below.refl _ _).alloc (Nat.le_refl _) _⟩
set_option maxRecDepth 100000 in
set_option maxHeartbeats 1600000 in
theorem add_any (mb : Nat) (acc : List Int) (i : Int) (hi : -9223372036854775808 ≤ i ∧ i ≤ 9223372036854775807) (hn : acc.length < 1000000) (W : World) (h : SetI mb acc W) :
    Calls Tryd.prog (82) #[.map (some mb), .int .i64 i] W fun e w' => e = .returned (.tuple #[]) ∧ SetI mb (acc ++ [i]) w' ∧ W.grownBy w' (some mb) := by
  have HO : Hid _ := h.2
  have HK : Hid _ := keyOf_int_mk Tryd.underlying3 (WalkArith.wf_i64 hi)
  clear h
  go_enter Tryd.func82, Tryd.ntmps82
  go_wp2_with (at_mapUpdate; refine wpList_mapUpdate_own _ rfl _ _ _ 114 rfl 3 119 Tryd.lawI Tryd.underlying114 _ mb acc.length (idS acc) rfl HO.out (by unfold maxLen; omega) _ _ _ rfl rfl HK.out (.agg []) [] unitElem_mk ?_; intro w1 hown1 hgrow1)
  have HN : Hid (SetI mb (acc ++ [i]) w1) := ⟨by simp; omega, by rw [idS_snoc, List.length_append]; exact hown1⟩
  have HG : Hid _ := hgrow1
  clear hown1 hgrow1
  go_end0
  exact ⟨rfl, HN.out, HG.out⟩
/-- Unlike numbers from 1 up to one are no more than it. -/
theorem unlike_len : ∀ (n : Nat) (l : List Int), l.Nodup → (∀ x ∈ l, 1 ≤ x ∧ x ≤ n) → l.length ≤ n
  | 0, l, _, hb => by
    cases l with
    | nil => simp
    | cons x xs => have := hb x (by simp); omega
  | n + 1, l, hn, hb => by
    by_cases h : ((n + 1 : Nat) : Int) ∈ l
    · have h1 := unlike_len n (l.erase ((n + 1 : Nat) : Int)) (hn.erase _) (fun x hx => by
        have h2 := (hn.mem_erase_iff).1 hx
        have h3 := hb x h2.2
        have h4 := h2.1
        omega)
      rw [List.length_erase_of_mem h] at h1
      omega
    · have h1 := unlike_len n l hn (fun x hx => by
        have h3 := hb x hx
        have h4 : x ≠ ((n + 1 : Nat) : Int) := fun e => h (e ▸ hx)
        omega)
      omega
def stI (acc : List Int) (path : List Tr) (t : Tr) : Bool × List Int := if path.length = 0 then (true, acc) else (!(acc.contains t.id) && decide (1 ≤ t.id ∧ t.id ≤ 1000), acc ++ [t.id])
/-- What the visitor holds. -/
structure IdI (g mb : Nat) (acc : List Int) (W : World) : Prop where
  cell : W.heap[g]? = some (.cells #[.map (some mb)] 114 (0, 0))
  set : SetI mb acc W
  unlike : acc.Nodup
  bound : ∀ x ∈ acc, 1 ≤ x ∧ x ≤ 1000
theorem IdI.len {g mb : Nat} {acc : List Int} {W : World} (h : IdI g mb acc W) : acc.length ≤ 1000 := unlike_len 1000 acc h.unlike h.bound
theorem SetI.keep {mb : Nat} {acc : List Int} {W w' : World} (h : SetI mb acc W) (hb : Below W.heap.size W w') : SetI mb acc w' := by
  obtain ⟨h1, es, clock, h2, h3⟩ := h
  exact ⟨h1, es, clock, (hb.block mb (lt_of_block h2)).trans h2, h3⟩
set_option maxRecDepth 100000 in
set_option maxHeartbeats 1600000 in
theorem ids1_any (g mb B Bw : Nat) (hg : g < Bw) (hmb : mb < Bw) (hmB : B ≤ mb) (acc : List Int) (path : List Tr) (t : Tr) (a : Option Addr) (c : Nat) (v : Value) (W : World) (hs : t.Sm) (hi : IdI g mb acc W) (hp : PathR W B Bw v path) (hbw : Bw ≤ W.heap.size) :
    Calls Tryd.prog 80 #[nodeV t a c, v, .pointer (some ⟨g, 0, none⟩)] W fun e w' => e = .returned (.bool (stI acc path t).1) ∧ ((stI acc path t).1 = true → IdI g mb (stI acc path t).2 w') ∧ ((stI acc path t).1 = false → True) ∧ VFr B Bw W w' := by
  obtain ⟨va, vc, rfl⟩ := hp.shape
  have hid := hs.id_
  have HI : Hid _ := hi
  have hb1 : Below W.heap.size W (W.alloc (.cells #[.int .i64 t.id, .string t.nm, .int .i64 t.rep, .int .i64 t.kind, .slice a t.sub.length c] 24)) := (Below.refl _ _).alloc (Nat.le_refl _) _
  have HB1 : Hid _ := hb1
  by_cases h0 : path.length = 0
  · have HE : Hid (stI acc path t = (true, acc)) := if_pos h0
    have q : ((path.length : Int) == 0) = true := by simp [h0]
    clear hp hi hs hb1
    go_enter Tryd.func80, Tryd.ntmps80
    go_wp2
    go_ret
    rw [HE.out]
    exact ⟨rfl, fun _ => ⟨blk_keep HB1.out HI.out.cell, HI.out.set.keep HB1.out, HI.out.unlike, HI.out.bound⟩, fun h => by simp at h, VFr.of_below HB1.out (by omega)⟩
  · have HE : Hid (stI acc path t = (!(acc.contains t.id) && decide (1 ≤ t.id ∧ t.id ≤ 1000), acc ++ [t.id])) := if_neg h0
    have q : ((path.length : Int) == 0) = false := by rw [beq_eq_false_iff_ne]; omega
    obtain ⟨c0, f0⟩ := row_one (blk_keep hb1 hi.cell)
    have HC : Hid _ := has_any mb acc t.id hid _ (hi.set.keep hb1)
    clear hp hi hs hb1
    go_enter Tryd.func80, Tryd.ntmps80
    go_wp2_with fail
    refine Calls.mono HC.out ?_
    rintro e w1 ⟨rfl, hb2⟩
    have HB2 : Hid (Below W.heap.size W w1) := HB1.out.trans (hb2.mono HB1.out.size)
    have HX : Hid (w1.heap[W.heap.size]? = some (.cells #[.int .i64 t.id, .string t.nm, .int .i64 t.rep, .int .i64 t.kind, .slice a t.sub.length c] 24 (0, 0))) := blk_keep hb2 (heap_alloc_new W _)
    clear hb2 c0 f0
    obtain ⟨c0, f0⟩ := row_one (blk_keep HB2.out HI.out.cell)
    obtain ⟨⟨p0, p1, p2, p3, p4⟩, _⟩ := row_five HX.out
    have HA : Hid _ := add_any mb acc t.id hid (by have := HI.out.len; omega) w1 (HI.out.set.keep HB2.out)
    go_wp2_with fail
    refine Calls.mono HA.out ?_
    rintro e w2 ⟨rfl, hset, hg2⟩
    have hlt : W.heap.size < w1.heap.size := lt_of_block HX.out
    have HX2 : Hid (w2.heap[W.heap.size]? = some (.cells #[.int .i64 t.id, .string t.nm, .int .i64 t.rep, .int .i64 t.kind, .slice a t.sub.length c] 24 (0, 0))) := (hg2.block W.heap.size hlt (by simp; omega)).trans HX.out
    have HG2 : Hid (w2.heap[g]? = some (.cells #[.map (some mb)] 114 (0, 0))) := (hg2.block g (by omega) (by
      simp
      rintro rfl
      obtain ⟨_, es, clock, h2, _⟩ := HI.out.set
      rw [HI.out.cell] at h2
      cases h2)).trans (blk_keep HB2.out HI.out.cell)
    have HS2 : Hid _ := hset
    have HV : Hid (VFr B Bw W w2) := (VFr.of_below HB2.out (by omega)).trans ⟨⟨hg2.os, hg2.tape, hg2.output, hg2.size, fun k hk => hg2.block k (by omega) (by simp; omega)⟩, fun k h1 h2 h3 => hg2.block k h2 (by simp; omega)⟩
    clear hset hg2 c0 f0 p0 p1 p2 p3 p4 hlt
    obtain ⟨⟨p0, p1, p2, p3, p4⟩, _⟩ := row_five HX2.out
    cases hc : acc.contains t.id with
    | true =>
      have HF : Hid (stI acc path t = (false, acc ++ [t.id])) := (by show _ = _; rw [HE.out, hc]; rfl)
      have hm : t.id ∈ acc := List.contains_iff_mem.1 hc
      go_wp2
      go_ret
      rw [HF.out]
      exact ⟨rfl, fun h => by simp at h, fun _ => trivial, HV.out⟩
    | false =>
      have HNin : Hid (t.id ∉ acc) := (by
        intro hm
        have := List.contains_iff_mem.2 hm
        rw [hc] at this
        cases this)
      by_cases h1 : 1 ≤ t.id
      · have q1 : decide (1 ≤ t.id) = true := by simp [h1]
        by_cases h2 : t.id ≤ 1000
        · have q2 : decide (t.id ≤ 1000) = true := by simp [h2]
          have HF : Hid (stI acc path t = (true, acc ++ [t.id])) := (by show _ = _; rw [HE.out, hc]; simp [h1, h2])
          have HNew : Hid (IdI g mb (acc ++ [t.id]) w2) := ⟨HG2.out, HS2.out, List.nodup_append.2 ⟨HI.out.unlike, by simp, fun x hx y hy => by simp at hy; subst hy; exact fun e => HNin.out (e ▸ hx)⟩, fun x hx => by
            rcases List.mem_append.1 hx with hx | hx
            · exact HI.out.bound x hx
            · rw [List.mem_singleton.1 hx]; exact ⟨h1, h2⟩⟩
          clear hc
          go_wp2
          all_goals first | (exfalso; omega) | (go_ret; rw [HF.out]; exact ⟨by first | rfl | simp [h1] | simp [h1, h2], fun _ => HNew.out, fun h => by simp at h, HV.out⟩)
        · have q2 : decide (t.id ≤ 1000) = false := by simp [h2]
          have HF : Hid (stI acc path t = (false, acc ++ [t.id])) := (by show _ = _; rw [HE.out, hc]; simp [h2])
          clear hc
          go_wp2
          all_goals first | (exfalso; omega) | (go_ret; rw [HF.out]; exact ⟨by first | rfl | simp [h1] | simp [h1, h2], fun h => by simp at h, fun _ => trivial, HV.out⟩)
      · have q1 : decide (1 ≤ t.id) = false := by simp [h1]
        have HF : Hid (stI acc path t = (false, acc ++ [t.id])) := (by show _ = _; rw [HE.out, hc]; simp [h1])
        clear hc
        go_wp2
        all_goals first | (exfalso; omega) | (go_ret; rw [HF.out]; exact ⟨by first | rfl | simp [h1] | simp [h1, h2], fun h => by simp at h, fun _ => trivial, HV.out⟩)
def idsT (t : Tr) : Bool := (wkT stI [] [] t).1
set_option maxRecDepth 100000 in
set_option maxHeartbeats 1600000 in
theorem ids_any (t : Tr) (n : Nat) (hd : t.Dp n) (hn : n ≤ 1100000) (hs : t.Sm) (a : Option Addr) (c : Nat) (P : Nat → Prop) (W : World) (hl : LiesN W P a t.sub) (hcap : t.sub.length ≤ c) :
    Calls Tryd.prog 58 #[nodeV t a c] W fun e w' => e = .returned (.bool (idsT t)) ∧ Below W.heap.size W w' := by
  have hmm := @run_makeMap Tryd.prog
  have hb : Below W.heap.size W (((W.alloc (.cells #[.int .i64 t.id, .string t.nm, .int .i64 t.rep, .int .i64 t.kind, .slice a t.sub.length c] 24)).alloc (.map #[] 0)).alloc (.cells #[.map (some (W.heap.size + 1))] 114)) := (((Below.refl _ _).alloc (Nat.le_refl _) _).alloc (by simp) _).alloc (by simp; omega) _
  have hset : SetI (W.heap.size + 1) [] (((W.alloc (.cells #[.int .i64 t.id, .string t.nm, .int .i64 t.rep, .int .i64 t.kind, .slice a t.sub.length c] 24)).alloc (.map #[] 0)).alloc (.cells #[.map (some (W.heap.size + 1))] 114)) := ⟨by simp, by
    have h := World.ownsMap_made (W.alloc (.cells #[.int .i64 t.id, .string t.nm, .int .i64 t.rep, .int .i64 t.kind, .slice a t.sub.length c] 24)) Tryd.prog 3 (unitElem (H := Unit))
    rw [show (W.alloc (.cells #[.int .i64 t.id, .string t.nm, .int .i64 t.rep, .int .i64 t.kind, .slice a t.sub.length c] 24)).heap.size = W.heap.size + 1 by simp] at h
    exact h.alloc _⟩
  have hcell : (((W.alloc (.cells #[.int .i64 t.id, .string t.nm, .int .i64 t.rep, .int .i64 t.kind, .slice a t.sub.length c] 24)).alloc (.map #[] 0)).alloc (.cells #[.map (some (W.heap.size + 1))] 114)).heap[W.heap.size + 2]? = some (.cells #[.map (some (W.heap.size + 1))] 114 (0, 0)) := by
    have h := heap_alloc_new ((W.alloc (.cells #[.int .i64 t.id, .string t.nm, .int .i64 t.rep, .int .i64 t.kind, .slice a t.sub.length c] 24)).alloc (.map #[] 0)) (.cells #[.map (some (W.heap.size + 1))] 114)
    rwa [show ((W.alloc (.cells #[.int .i64 t.id, .string t.nm, .int .i64 t.rep, .int .i64 t.kind, .slice a t.sub.length c] 24)).alloc (.map #[] 0)).heap.size = W.heap.size + 2 by simp] at h
  have HC : Hid _ := wkI_any stI (IdI (W.heap.size + 2) (W.heap.size + 1)) (fun _ _ => True) (fun _ _ => True) (fun _ => 0) t.cnt (W.heap.size + 2) W.heap.size (W.heap.size + 3) (by omega)
    (fun s W' w' r hi hg hr => by
      obtain ⟨h1, ⟨h2, es, clock, h3, h4⟩, h5, h6⟩ := hi
      exact ⟨(hg.block _ (lt_of_block h1) (fun e => by have := (hr _ e.symm).1; omega)).trans h1, ⟨h2, es, clock, (hg.block _ (lt_of_block h3) (fun e => by have := (hr _ e.symm).1; omega)).trans h3, h4⟩, h5, h6⟩)
    (fun _ _ _ _ _ => trivial) (fun _ _ _ => Nat.zero_le _)
    (fun s path t a c v W' _ _ h1 h2 h3 hcap h4 h5 => ids1_any (W.heap.size + 2) (W.heap.size + 1) W.heap.size (W.heap.size + 3) (by omega) (by omega) (by omega) s path t a c v W' h4 h1 h2 h5)
    n t hd hs [] [] a c (.slice none 0 0) _ trivial (by simp) (by simp; omega)
    ⟨hcell, hset, by simp, fun x hx => by simp at hx⟩ (PathR.nil _ _ _) (hl.stay (fun b _ h => h) (fun b _ h => hb.block b h)) hcap (by simp)
  have HB : Hid _ := hb
  clear hl hd hs hb hset hcell
  go_enter Tryd.func58, Tryd.ntmps58
  go_wp2_with fail
  refine Calls.mono HC.out ?_
  rintro e w1 ⟨rfl, _, _, hf, _⟩
  have HF : Hid _ := hf.below
  clear hf
  go_wp2
  go_ret
  exact ⟨rfl, HB.out.trans HF.out⟩
end Go.Proofs.YtdpedailookcjaaDoor

namespace Go.Proofs.YtdpedailookcjaaDoor
open Go.RowKit
/-- A schema's error: 0: none; 1: bound, 2: shape, 4: name (places of the listed errors). -/
def vldN (t : Tr) : Nat := if inB t = false then 1 else if isRootB t = false ∨ shpT t = false then 2 else if nmsT t = false ∨ idsT t = false then 4 else 0
/-- .. as a value. -/
def vldV (eb es en : Value) (t : Tr) : Value := if inB t = false then eb else if isRootB t = false ∨ shpT t = false then es else if nmsT t = false ∨ idsT t = false then en else .nilIface
set_option maxRecDepth 100000 in
set_option maxHeartbeats 1600000 in
theorem valid_any (t : Tr) (n : Nat) (hd : t.Dp n) (hn : n ≤ 1100000) (hs : t.Sm) (a : Option Addr) (c : Nat) (P : Nat → Prop) (W : World) (hl : LiesN W P a t.sub) (hcap : t.sub.length ≤ c) (eb es en : TypeId × Value)
    (hgb : W.cell? ⟨0, 0, none⟩ = some (.iface eb.1 eb.2)) (hgs : W.cell? ⟨2, 0, none⟩ = some (.iface es.1 es.2)) (hgn : W.cell? ⟨4, 0, none⟩ = some (.iface en.1 en.2)) :
    Calls Tryd.prog 36 #[nodeV t a c] W fun e w' => e = .returned (vldV (.iface eb.1 eb.2) (.iface es.1 es.2) (.iface en.1 en.2) t) ∧ Below W.heap.size W w' := by
  have hb : Below W.heap.size W (W.alloc (.cells #[.int .i64 t.id, .string t.nm, .int .i64 t.rep, .int .i64 t.kind, .slice a t.sub.length c] 24)) := (Below.refl _ _).alloc (Nat.le_refl _) _
  have HX : Hid ((W.alloc (.cells #[.int .i64 t.id, .string t.nm, .int .i64 t.rep, .int .i64 t.kind, .slice a t.sub.length c] 24)).heap[W.heap.size]? = some (.cells #[.int .i64 t.id, .string t.nm, .int .i64 t.rep, .int .i64 t.kind, .slice a t.sub.length c] 24 (0, 0))) := heap_alloc_new W _
  have HL : Hid (LiesN W P a t.sub) := hl
  have HGb : Hid _ := hgb
  have HGs : Hid _ := hgs
  have HGn : Hid _ := hgn
  have HD : Hid _ := hd
  have HSm : Hid _ := hs
  have HB : Hid _ := hb
  obtain ⟨b1, H1⟩ : ∃ b1, Hid (inB t = b1) := ⟨_, rfl⟩
  obtain ⟨b2, H2⟩ : ∃ b2, Hid (isRootB t = b2) := ⟨_, rfl⟩
  obtain ⟨b3, H3⟩ : ∃ b3, Hid (shpT t = b3) := ⟨_, rfl⟩
  obtain ⟨b4, H4⟩ : ∃ b4, Hid (nmsT t = b4) := ⟨_, rfl⟩
  obtain ⟨b5, H5⟩ : ∃ b5, Hid (idsT t = b5) := ⟨_, rfl⟩
  clear hl hd hs hb hgb hgs hgn
  go_enter Tryd.func36, Tryd.ntmps36
  go_wp2_with fail
  refine (inBounds_any t n HD.out hn HSm.out a c P _ (HL.out.keep HB.out) hcap).mono ?_
  rw [H1.out]
  rintro e w1 ⟨rfl, hb1⟩
  have HB1 : Hid (Below W.heap.size W w1) := HB.out.trans (hb1.mono HB.out.size)
  have HX1 : Hid (w1.heap[W.heap.size]? = some (.cells #[.int .i64 t.id, .string t.nm, .int .i64 t.rep, .int .i64 t.kind, .slice a t.sub.length c] 24 (0, 0))) := blk_keep hb1 HX.out
  clear hb1
  cases b1 with
  | false =>
    have hgb := (HB1.out.cell (World.block_lt_of_cell? W _ HGb.out)).trans HGb.out
    go_wp2
    go_ret
    exact ⟨by rw [vldV, if_pos H1.out]; rfl, HB1.out⟩
  | true =>
    obtain ⟨⟨p0, p1, p2, p3, p4⟩, _⟩ := row_five HX1.out
    go_wp2_with fail
    refine (isRoot_any t a c _).mono ?_
    rw [H2.out]
    rintro e w2 ⟨rfl, hb2⟩
    have HB2 : Hid (Below W.heap.size W w2) := HB1.out.trans (hb2.mono HB1.out.size)
    have HX2 : Hid (w2.heap[W.heap.size]? = some (.cells #[.int .i64 t.id, .string t.nm, .int .i64 t.rep, .int .i64 t.kind, .slice a t.sub.length c] 24 (0, 0))) := blk_keep hb2 HX1.out
    clear hb2 p0 p1 p2 p3 p4
    obtain ⟨⟨p0, p1, p2, p3, p4⟩, _⟩ := row_five HX2.out
    cases b2 with
    | false =>
      have hgs := (HB2.out.cell (World.block_lt_of_cell? W _ HGs.out)).trans HGs.out
      go_wp2
      go_ret
      exact ⟨by rw [vldV, if_neg (by rw [H1.out]; simp), if_pos (.inl H2.out)]; rfl, HB2.out⟩
    | true =>
      go_wp2_with fail
      refine (shapes_any t n HD.out hn HSm.out a c P _ (HL.out.keep HB2.out) hcap).mono ?_
      rw [H3.out]
      rintro e w3 ⟨rfl, hb3⟩
      have HB3 : Hid (Below W.heap.size W w3) := HB2.out.trans (hb3.mono HB2.out.size)
      have HX3 : Hid (w3.heap[W.heap.size]? = some (.cells #[.int .i64 t.id, .string t.nm, .int .i64 t.rep, .int .i64 t.kind, .slice a t.sub.length c] 24 (0, 0))) := blk_keep hb3 HX2.out
      clear hb3 p0 p1 p2 p3 p4
      obtain ⟨⟨p0, p1, p2, p3, p4⟩, _⟩ := row_five HX3.out
      cases b3 with
      | false =>
        have hgs := (HB3.out.cell (World.block_lt_of_cell? W _ HGs.out)).trans HGs.out
        go_wp2
        go_ret
        exact ⟨by rw [vldV, if_neg (by rw [H1.out]; simp), if_pos (.inr H3.out)]; rfl, HB3.out⟩
      | true =>
        go_wp2_with fail
        refine (names_any t n HD.out hn HSm.out a c P _ (HL.out.keep HB3.out) hcap).mono ?_
        rw [H4.out]
        rintro e w4 ⟨rfl, hb4⟩
        have HB4 : Hid (Below W.heap.size W w4) := HB3.out.trans (hb4.mono HB3.out.size)
        have HX4 : Hid (w4.heap[W.heap.size]? = some (.cells #[.int .i64 t.id, .string t.nm, .int .i64 t.rep, .int .i64 t.kind, .slice a t.sub.length c] 24 (0, 0))) := blk_keep hb4 HX3.out
        clear hb4 p0 p1 p2 p3 p4
        obtain ⟨⟨p0, p1, p2, p3, p4⟩, _⟩ := row_five HX4.out
        cases b4 with
        | false =>
          have hgn := (HB4.out.cell (World.block_lt_of_cell? W _ HGn.out)).trans HGn.out
          go_wp2
          go_ret
          exact ⟨by rw [vldV, if_neg (by rw [H1.out]; simp), if_neg (by rw [H2.out, H3.out]; simp), if_pos (.inl H4.out)]; rfl, HB4.out⟩
        | true =>
          go_wp2_with fail
          refine (ids_any t n HD.out hn HSm.out a c P _ (HL.out.keep HB4.out) hcap).mono ?_
          rw [H5.out]
          rintro e w5 ⟨rfl, hb5⟩
          have HB5 : Hid (Below W.heap.size W w5) := HB4.out.trans (hb5.mono HB4.out.size)
          clear hb5 p0 p1 p2 p3 p4
          cases b5 with
          | false =>
            have hgn := (HB5.out.cell (World.block_lt_of_cell? W _ HGn.out)).trans HGn.out
            go_wp2
            go_ret
            exact ⟨by rw [vldV, if_neg (by rw [H1.out]; simp), if_neg (by rw [H2.out, H3.out]; simp), if_pos (.inr H5.out)]; rfl, HB5.out⟩
          | true =>
            go_wp2
            go_ret
            exact ⟨by rw [vldV, if_neg (by rw [H1.out]; simp), if_neg (by rw [H2.out, H3.out]; simp), if_neg (by rw [H4.out, H5.out]; simp)]; rfl, HB5.out⟩
theorem vldV_nil {eb es en : Value} {t : Tr} (hr : vldN t = 0) : vldV eb es en t = .nilIface := by
  unfold vldN at hr
  unfold vldV
  split at hr
  · omega
  · rename_i h1
    rw [if_neg h1]
    split at hr
    · omega
    · rename_i h2
      rw [if_neg h2]
      split at hr
      · omega
      · rename_i h3
        rw [if_neg h3]
end Go.Proofs.YtdpedailookcjaaDoor

namespace Go.Proofs.YtdpedailookcjaaDoor
open Go.RowKit
section
variable {α : Type} (ok : α → Bool) (bad : α → α → Bool)
/-- Each element is right, and goes with all ahead of it. -/
def chq (ahead : List α) : List α → Bool
  | [] => true
  | p :: ps => ok p && !(ahead.any fun q => bad q p) && chq (ahead ++ [p]) ps
theorem chq_iff : ∀ (l ahead : List α), chq ok bad ahead l = true ↔ (∀ p ∈ l, ok p = true) ∧ l.Pairwise (fun a b => bad a b = false) ∧ ∀ a ∈ ahead, ∀ b ∈ l, bad a b = false
  | [], ahead => by simp [chq]
  | p :: ps, ahead => by
    rw [chq, Bool.and_eq_true, Bool.and_eq_true, chq_iff ps, Bool.not_eq_true', List.any_eq_false, List.pairwise_cons]
    constructor
    · rintro ⟨⟨h1, h2⟩, h3, h4, h5⟩
      refine ⟨fun x hx => ?_, ⟨fun b hb => h5 p (by simp) b hb, h4⟩, fun a ha b hb => ?_⟩
      · rcases List.mem_cons.1 hx with rfl | hx
        · exact h1
        · exact h3 x hx
      · rcases List.mem_cons.1 hb with rfl | hb
        · simpa using h2 a ha
        · exact h5 a (by simp [ha]) b hb
    · rintro ⟨h1, ⟨h2, h3⟩, h4⟩
      refine ⟨⟨h1 p (by simp), fun a ha => by simp [h4 a ha p (by simp)]⟩, fun x hx => h1 x (by simp [hx]), h3, fun a ha b hb => ?_⟩
      rcases List.mem_append.1 ha with ha | ha
      · exact h4 a ha b (by simp [hb])
      · rw [List.mem_singleton.1 ha]; exact h2 b hb
end
mutual
/-- The nodes of a tree, in order. -/
def ndT : Tr → List Tr
  | .node id nm rep kind sub => .node id nm rep kind sub :: ndL sub
def ndL : List Tr → List Tr
  | [] => []
  | t :: ts => ndT t ++ ndL ts
end
theorem ndT_eq (t : Tr) : ndT t = t :: ndL t.sub := by
  cases t with
  | node id nm rep kind sub => rw [ndT]; rfl
mutual
/-- The flat list, whole. -/
def preT (base : Nat) : Tr → Nat → Int → List Pc
  | .node id nm rep kind sub, d, ar => ⟨.node id nm rep kind sub, d, ar⟩ :: preL (base + 1) sub (d + 1) base
def preL (base : Nat) : List Tr → Nat → Int → List Pc
  | [], _, _ => []
  | t :: ts, d, ar => preT base t d ar ++ preL (base + t.cnt) ts d ar
end
theorem preT_eq (base : Nat) (t : Tr) (d : Nat) (ar : Int) : preT base t d ar = ⟨t, d, ar⟩ :: preL (base + 1) t.sub (d + 1) base := by
  cases t with
  | node id nm rep kind sub => rw [preT]; rfl
mutual
theorem preT_map : ∀ (t : Tr) (base d : Nat) (ar : Int), (preT base t d ar).map Pc.t = ndT t
  | .node id nm rep kind sub, base, d, ar => by rw [preT, ndT, List.map_cons, preL_map sub]
theorem preL_map : ∀ (ts : List Tr) (base d : Nat) (ar : Int), (preL base ts d ar).map Pc.t = ndL ts
  | [], base, d, ar => by rw [preL, ndL]; rfl
  | t :: ts, base, d, ar => by rw [preL, ndL, List.map_append, preT_map t, preL_map ts]
end
mutual
theorem ndT_len : ∀ t : Tr, (ndT t).length = t.cnt
  | .node id nm rep kind sub => by rw [ndT, Tr.cnt, List.length_cons, ndL_len sub]; omega
theorem ndL_len : ∀ ts : List Tr, (ndL ts).length = cntL ts
  | [] => by rw [ndL, cntL]; rfl
  | t :: ts => by rw [ndL, cntL, List.length_append, ndT_len t, ndL_len ts]
end
theorem preT_len (t : Tr) (base d : Nat) (ar : Int) : (preT base t d ar).length = t.cnt := by rw [← ndT_len t, ← preT_map t base d ar, List.length_map]
theorem preL_len (ts : List Tr) (base d : Nat) (ar : Int) : (preL base ts d ar).length = cntL ts := by rw [← ndL_len ts, ← preL_map ts base d ar, List.length_map]
mutual
/-- A tree of few nodes that is not deep is flat whole. -/
theorem flT_pre : ∀ (t : Tr) (acc : List Pc) (d : Nat) (ar : Int) (k : Nat), acc.length + t.cnt ≤ 2000 → t.Dp k → d + k ≤ 101 → flT acc t d ar = acc ++ preT acc.length t d ar
  | .node id nm rep kind sub, acc, d, ar, k, h1, h2, h3 => by
    rw [Tr.cnt] at h1
    have hk := h2.pos
    obtain ⟨k, rfl⟩ : ∃ j, k = j + 1 := ⟨k - 1, by omega⟩
    have ih := flL_pre sub (acc ++ [⟨.node id nm rep kind sub, d, ar⟩]) (d + 1) acc.length k (by simp; omega) (fun j hj => h2.at_ j hj) (by omega)
    rw [flT, if_neg (by omega), ih, preT]
    simp
theorem flL_pre : ∀ (ts : List Tr) (acc : List Pc) (d : Nat) (ar : Int) (k : Nat), acc.length + cntL ts ≤ 2000 → (∀ j (h : j < ts.length), ts[j].Dp k) → d + k ≤ 101 → flL acc ts d ar = acc ++ preL acc.length ts d ar
  | [], acc, d, ar, k, h1, h2, h3 => by rw [flL, preL, List.append_nil]
  | t :: ts, acc, d, ar, k, h1, h2, h3 => by
    rw [cntL] at h1
    have ht : t.Dp k := h2 0 (by simp)
    rw [flL, flT_pre t acc d ar k (by omega) ht h3, flL_pre ts _ d ar k (by rw [List.length_append, preT_len]; omega) (fun j hj => h2 (j + 1) (by simp; omega)) h3, preL, List.length_append, preT_len, List.append_assoc]
end
mutual
theorem preT_deep : ∀ (t : Tr) (base d : Nat) (ar : Int) (k : Nat), t.Dp k → ∀ p ∈ preT base t d ar, p.deep < d + k
  | .node id nm rep kind sub, base, d, ar, k, h, p, hp => by
    have hk := h.pos
    obtain ⟨k, rfl⟩ : ∃ j, k = j + 1 := ⟨k - 1, by omega⟩
    rw [preT] at hp
    rcases List.mem_cons.1 hp with rfl | hp
    · show ((d : Nat) : Int) < _; omega
    · have := preL_deep sub (base + 1) (d + 1) base k (fun j hj => h.at_ j hj) p hp
      omega
theorem preL_deep : ∀ (ts : List Tr) (base d : Nat) (ar : Int) (k : Nat), (∀ j (h : j < ts.length), ts[j].Dp k) → ∀ p ∈ preL base ts d ar, p.deep < d + k
  | [], base, d, ar, k, h, p, hp => by rw [preL] at hp; simp at hp
  | t :: ts, base, d, ar, k, h, p, hp => by
    rw [preL] at hp
    rcases List.mem_append.1 hp with hp | hp
    · exact preT_deep t base d ar k (h 0 (by simp)) p hp
    · exact preL_deep ts _ d ar k (fun j hj => h (j + 1) (by simp; omega)) p hp
end
mutual
theorem dpB : ∀ (t : Tr) (m : Nat) (path : List Tr), (wkT stB m path t).1 = true → (wkT stB m path t).2 = m + t.cnt ∧ m + t.cnt ≤ 40 ∧ t.Dp (6 - path.length)
  | .node id nm rep kind sub, m, path => by
    rw [wkT, Tr.cnt]
    intro h
    by_cases hs : (stB m path (.node id nm rep kind sub)).1 = true
    · rw [if_pos hs] at h ⊢
      have h1 : m + 1 ≤ 40 ∧ path.length < 6 := by simpa [stB] using hs
      have h2 := dpBL sub (stB m path (.node id nm rep kind sub)).2 (path ++ [.node id nm rep kind sub]) h
      have e : (stB m path (.node id nm rep kind sub)).2 = m + 1 := rfl
      rw [e] at h2 ⊢
      refine ⟨by omega, by omega, ?_⟩
      have hd : 6 - path.length = (6 - (path ++ [Tr.node id nm rep kind sub]).length) + 1 := by simp; omega
      rw [hd]
      exact .mk _ id nm rep kind sub h2.2.2
    · rw [if_neg hs] at h
      exact absurd h hs
theorem dpBL : ∀ (ts : List Tr) (m : Nat) (path : List Tr), (wkL stB m path ts).1 = true → (wkL stB m path ts).2 = m + cntL ts ∧ (m ≤ 40 → m + cntL ts ≤ 40) ∧ ∀ j (h : j < ts.length), ts[j].Dp (6 - path.length)
  | [], m, path => by
    rw [wkL, cntL]
    exact fun _ => ⟨by simp, fun h => h, fun j h => absurd h (by simp)⟩
  | t :: ts, m, path => by
    rw [wkL, cntL]
    intro h
    by_cases hs : (wkT stB m path t).1 = true
    · rw [if_pos hs] at h ⊢
      have h1 := dpB t m path hs
      have h2 := dpBL ts _ path h
      rw [h1.1] at h2 ⊢
      refine ⟨by omega, fun _ => by have := h2.2.1 h1.2.1; omega, fun j hj => ?_⟩
      cases j with
      | zero => exact h1.2.2
      | succ j => exact h2.2.2 j (by simpa using hj)
    · rw [if_neg hs] at h
      exact absurd h hs
end
mutual
theorem flT_ext : ∀ (t : Tr) (acc : List Pc) (d : Nat) (ar : Int), ∃ E, flT acc t d ar = acc ++ E
  | .node id nm rep kind sub, acc, d, ar => by
    rw [flT]
    split
    · exact ⟨[], by simp⟩
    · obtain ⟨E, h⟩ := flL_ext sub (acc ++ [⟨.node id nm rep kind sub, d, ar⟩]) (d + 1) acc.length
      exact ⟨⟨.node id nm rep kind sub, d, ar⟩ :: E, by rw [h]; simp⟩
theorem flL_ext : ∀ (ts : List Tr) (acc : List Pc) (d : Nat) (ar : Int), ∃ E, flL acc ts d ar = acc ++ E
  | [], acc, d, ar => ⟨[], by rw [flL]; simp⟩
  | t :: ts, acc, d, ar => by
    obtain ⟨E, h⟩ := flT_ext t acc d ar
    obtain ⟨E2, h2⟩ := flL_ext ts (acc ++ E) d ar
    exact ⟨E ++ E2, by rw [flL, h, h2, List.append_assoc]⟩
end
mutual
/-- Where the flat list is in its bounds the walk is. -/
theorem flT_in : ∀ (t : Tr) (acc : List Pc) (d : Nat) (ar : Int) (path : List Tr), path.length + 1 = d → d ≤ 7 → (flT acc t d ar).length ≤ 40 → (∀ p ∈ flT acc t d ar, p.deep ≤ 6) → wkT stB acc.length path t = (true, (flT acc t d ar).length)
  | .node id nm rep kind sub, acc, d, ar, path, hp, hd, hl, hall => by
    have hal : acc.length ≤ 40 := by
      obtain ⟨E, h⟩ := flT_ext (.node id nm rep kind sub) acc d ar
      rw [h, List.length_append] at hl
      omega
    rw [flT, if_neg (by omega)] at hl hall
    rw [flT, if_neg (by omega)]
    obtain ⟨E, h⟩ := flL_ext sub (acc ++ [⟨.node id nm rep kind sub, d, ar⟩]) (d + 1) acc.length
    have hd6 : ((d : Nat) : Int) ≤ 6 := hall ⟨.node id nm rep kind sub, d, ar⟩ (by rw [h]; simp)
    have hl2 : acc.length + 1 ≤ 40 := by
      rw [h] at hl
      simp at hl
      omega
    have hs : stB acc.length path (.node id nm rep kind sub) = (true, acc.length + 1) := by
      simp [stB, hl2]
      omega
    have ih := flL_in sub (acc ++ [⟨.node id nm rep kind sub, d, ar⟩]) (d + 1) acc.length (path ++ [.node id nm rep kind sub]) (by simp; omega) (by omega) hl hall
    rw [wkT, hs, if_pos rfl, ← ih]
    congr 1
    simp
theorem flL_in : ∀ (ts : List Tr) (acc : List Pc) (d : Nat) (ar : Int) (path : List Tr), path.length + 1 = d → d ≤ 7 → (flL acc ts d ar).length ≤ 40 → (∀ p ∈ flL acc ts d ar, p.deep ≤ 6) → wkL stB acc.length path ts = (true, (flL acc ts d ar).length)
  | [], acc, d, ar, path, hp, hd, hl, hall => by rw [wkL, flL]
  | t :: ts, acc, d, ar, path, hp, hd, hl, hall => by
    rw [flL] at hl hall
    obtain ⟨E, h⟩ := flL_ext ts (flT acc t d ar) d ar
    have h1 := flT_in t acc d ar path hp hd (by rw [h, List.length_append] at hl; omega) (fun p hp => hall p (by rw [h]; simp [hp]))
    have h2 := flL_in ts (flT acc t d ar) d ar path hp hd hl hall
    rw [wkL, h1, if_pos rfl, flL]
    exact h2
end
/-- In its bounds: by the flat list, and by the walk. -/
theorem inB_fl (t : Tr) : inB t = true ↔ (fl t).length ≤ 40 ∧ ∀ p ∈ fl t, p.deep ≤ 6 := by
  constructor
  · intro h
    obtain ⟨h1, h2, h3⟩ := dpB t 0 [] h
    have e : fl t = preT 0 t 1 (-1) := by
      have := flT_pre t [] 1 (-1) 6 (by simp; omega) h3 (by omega)
      simpa [fl] using this
    rw [e]
    refine ⟨by rw [preT_len]; omega, fun p hp => ?_⟩
    have := preT_deep t 0 1 (-1) 6 h3 p hp
    omega
  · rintro ⟨h1, h2⟩
    have := flT_in t [] 1 (-1) [] rfl (by omega) h1 h2
    show (wkT stB 0 [] t).1 = true
    have e : wkT stB 0 [] t = (true, (flT [] t 1 (-1)).length) := this
    rw [e]
theorem fl_pre (t : Tr) (h : inB t = true) : fl t = ⟨t, 1, -1⟩ :: preL 1 t.sub 2 0 := by
  obtain ⟨h1, h2, h3⟩ := dpB t 0 [] h
  have := flT_pre t [] 1 (-1) 6 (by simp; omega) h3 (by omega)
  rw [preT_eq] at this
  simpa [fl] using this
section
variable (f : Tr → Bool)
mutual
theorem wk_all : ∀ (t : Tr) (path : List Tr), (wkT (fun (_ : Unit) (_ : List Tr) x => (f x, ())) () path t).1 = (ndT t).all f
  | .node id nm rep kind sub, path => by
    rw [wkT, ndT, List.all_cons]
    cases h : f (.node id nm rep kind sub) with
    | true => simp [wkL_all sub]
    | false => simp
theorem wkL_all : ∀ (ts : List Tr) (path : List Tr), (wkL (fun (_ : Unit) (_ : List Tr) x => (f x, ())) () path ts).1 = (ndL ts).all f
  | [], path => by rw [wkL, ndL]; rfl
  | t :: ts, path => by
    rw [wkL, ndL, List.all_append, ← wk_all t path, ← wkL_all ts path]
    cases h : (wkT (fun (_ : Unit) (_ : List Tr) x => (f x, ())) () path t).1 with
    | true => simp
    | false => simp [h]
end
end
theorem shp_all (t : Tr) : shpT t = (shpOk t && (ndL t.sub).all shpOk) := by
  have h := wk_all shpOk t []
  rw [ndT_eq, List.all_cons] at h
  exact h
/-- Numbers. -/
def idOkP (p : Pc) : Bool := decide (1 ≤ p.t.id ∧ p.t.id ≤ 1000)
def idBadP (a b : Pc) : Bool := decide (a.t.id = b.t.id)
def idOkT (x : Tr) : Bool := decide (1 ≤ x.id ∧ x.id ≤ 1000)
def idEqT (a b : Tr) : Bool := decide (a.id = b.id)
mutual
theorem idW : ∀ (t : Tr) (ahead path : List Tr), 0 < path.length → (wkT stI (ahead.map Tr.id) path t).1 = chq idOkT idEqT ahead (ndT t) ∧ ((wkT stI (ahead.map Tr.id) path t).1 = true → (wkT stI (ahead.map Tr.id) path t).2 = (ahead ++ ndT t).map Tr.id)
  | .node id nm rep kind sub, ahead, path, hp => by
    have hs : stI (ahead.map Tr.id) path (.node id nm rep kind sub) = (idOkT (.node id nm rep kind sub) && !(ahead.any fun q => idEqT q (.node id nm rep kind sub)), (ahead ++ [Tr.node id nm rep kind sub]).map Tr.id) := by
      rw [stI, if_neg (by omega)]
      have e : (ahead.map Tr.id).contains (Tr.node id nm rep kind sub).id = ahead.any fun q => idEqT q (.node id nm rep kind sub) := by
        rw [Bool.eq_iff_iff, List.contains_iff_mem, List.any_eq_true, List.mem_map]
        simp [idEqT]
      rw [e, Bool.and_comm]
      simp [idOkT]
    have ih := idWL sub (ahead ++ [.node id nm rep kind sub]) (path ++ [.node id nm rep kind sub]) (by simp)
    rw [wkT, ndT, chq, hs]
    cases h : (idOkT (.node id nm rep kind sub) && !(ahead.any fun q => idEqT q (.node id nm rep kind sub))) with
    | true =>
      simp only [if_true, Bool.true_and]
      exact ⟨ih.1, fun h => by rw [ih.2 h]; simp⟩
    | false =>
      simp
theorem idWL : ∀ (ts ahead path : List Tr), 0 < path.length → (wkL stI (ahead.map Tr.id) path ts).1 = chq idOkT idEqT ahead (ndL ts) ∧ ((wkL stI (ahead.map Tr.id) path ts).1 = true → (wkL stI (ahead.map Tr.id) path ts).2 = (ahead ++ ndL ts).map Tr.id)
  | [], ahead, path, hp => by rw [wkL, ndL, chq]; simp
  | t :: ts, ahead, path, hp => by
    have h1 := idW t ahead path hp
    have happ : ∀ (l m ah : List Tr), chq idOkT idEqT ah (l ++ m) = (chq idOkT idEqT ah l && chq idOkT idEqT (ah ++ l) m) := by
      intro l
      induction l with
      | nil => intro m ah; simp [chq]
      | cons x l ihl =>
        intro m ah
        rw [List.cons_append, chq, chq, ihl m (ah ++ [x])]
        simp [Bool.and_assoc]
    rw [wkL, ndL, happ, ← h1.1]
    cases h : (wkT stI (ahead.map Tr.id) path t).1 with
    | true =>
      have h2 := idWL ts (ahead ++ ndT t) path hp
      rw [if_pos rfl, h1.2 h, Bool.true_and]
      exact ⟨h2.1, fun h => by rw [h2.2 h]; simp⟩
    | false =>
      rw [if_neg (by simp)]
      simp [h]
end
theorem ids_fl (t : Tr) : idsT t = chq idOkP idBadP [] (preL 1 t.sub 2 0) := by
  have h1 : idsT t = chq idOkT idEqT [] (ndL t.sub) := by
    have h := (idWL t.sub [] ([] ++ [t]) (by simp)).1
    unfold idsT
    rw [wkT_eq]
    have e : stI [] [] t = (true, []) := by simp [stI]
    rw [e, if_pos rfl]
    exact h
  rw [h1, ← preL_map t.sub 1 2 0]
  have hm : ∀ (l ahead : List Pc), chq idOkT idEqT (ahead.map Pc.t) (l.map Pc.t) = chq idOkP idBadP ahead l := by
    intro l
    induction l with
    | nil => intro ahead; rfl
    | cons p l ih =>
      intro ahead
      rw [List.map_cons, chq, chq, ← ih (ahead ++ [p])]
      simp [idOkT, idOkP, idEqT, idBadP, List.any_map, Function.comp_def]
  exact hm _ []
end Go.Proofs.YtdpedailookcjaaDoor

namespace Go.Proofs.YtdpedailookcjaaDoor
open Go.RowKit
/-- What the reader's calls keep: all but the reader itself. -/
structure RFr (r : Nat) (W w' : World) : Prop where
  os : w'.os = W.os
  tape : w'.tape = W.tape
  output : w'.output = W.output
  size : W.heap.size ≤ w'.heap.size
  keep : ∀ k, k < W.heap.size → k ≠ r → w'.heap[k]? = W.heap[k]?
theorem RFr.refl (r : Nat) (W : World) : RFr r W W := ⟨rfl, rfl, rfl, Nat.le_refl _, fun _ _ _ => rfl⟩
theorem RFr.trans {r : Nat} {W w1 w2 : World} (h : RFr r W w1) (h2 : RFr r w1 w2) : RFr r W w2 :=
  ⟨h2.os.trans h.os, h2.tape.trans h.tape, h2.output.trans h.output, Nat.le_trans h.size h2.size, fun k hk hne => by rw [h2.keep k (Nat.lt_of_lt_of_le hk h.size) hne, h.keep k hk hne]⟩
theorem RFr.of_below {r : Nat} {W w' : World} (hb : Below W.heap.size W w') : RFr r W w' := ⟨hb.os, hb.tape, hb.output, hb.size, fun k hk _ => hb.block k hk⟩
theorem RFr.below {r B : Nat} {W w' : World} (h : RFr r W w') (hB : B ≤ W.heap.size) (hr : B ≤ r) : Below B W w' := ⟨h.os, h.tape, h.output, h.size, fun k hk => h.keep k (by omega) (by omega)⟩
theorem RFr.set {r j : Nat} {W w' : World} {v : Value} (h : RFr r W w') : RFr r W (w'.setCell ⟨r, j, none⟩ v) := ⟨h.os, h.tape, h.output, by simpa using h.size, fun k hk hne => (Below.heap_setCell w' ⟨r, j, none⟩ v k hne).trans (h.keep k hk hne)⟩
theorem RFr.box {r k : Nat} {W w' : World} {o : Obj} (h : RFr r W w') (hk : W.heap[k]? = some o) (hne : k ≠ r) : w'.heap[k]? = some o := (h.keep k (lt_of_block hk) hne).trans hk
theorem two_boxesS (W : World) (c1 c2 : Array Value) (t1 t2 : TypeId) : ∃ w0, Hid ((W.alloc (.cells c1 t1)).alloc (.cells c2 t2) = w0) ∧ Hid (w0.heap[W.heap.size]? = some (.cells c1 t1 (0, 0))) ∧ Hid (w0.heap[W.heap.size + 1]? = some (.cells c2 t2 (0, 0))) ∧ Hid (Below W.heap.size W w0) := by
  refine ⟨_, rfl, blk_alloc (heap_alloc_new W _), ?_, ((Below.refl _ _).alloc (Nat.le_refl _) _).alloc (by simp) _⟩
  have h := heap_alloc_new (W.alloc (.cells c1 t1)) (.cells c2 t2)
  rw [show (W.alloc (.cells c1 t1)).heap.size = W.heap.size + 1 by simp] at h
  exact h
theorem one_box (W : World) (c1 : Array Value) (t1 : TypeId) : ∃ w0, Hid (W.alloc (.cells c1 t1) = w0) ∧ Hid (w0.heap[W.heap.size]? = some (.cells c1 t1 (0, 0))) ∧ Hid (Below W.heap.size W w0) := ⟨_, rfl, heap_alloc_new W _, (Below.refl _ _).alloc (Nat.le_refl _) _⟩
theorem hid_name {α : Type} (x : α) : ∃ y, Hid (x = y) := ⟨x, rfl⟩
theorem three_boxesS (W : World) (c1 c2 c3 : Array Value) (t1 t2 t3 : TypeId) : ∃ w0, Hid (((W.alloc (.cells c1 t1)).alloc (.cells c2 t2)).alloc (.cells c3 t3) = w0) ∧ Hid (w0.heap[W.heap.size]? = some (.cells c1 t1 (0, 0))) ∧ Hid (w0.heap[W.heap.size + 1]? = some (.cells c2 t2 (0, 0))) ∧ Hid (w0.heap[W.heap.size + 1 + 1]? = some (.cells c3 t3 (0, 0))) ∧ Hid (Below W.heap.size W w0) ∧ Hid (w0.heap.size = W.heap.size + 3) := by
  obtain ⟨w1, H1, H2, H3, H4⟩ := two_boxesS W c1 c2 t1 t2
  have hs : w1.heap.size = W.heap.size + 1 + 1 := by rw [← H1.out]; simp
  refine ⟨w1.alloc (.cells c3 t3), by show _ = _; rw [H1.out], blk_alloc H2.out, blk_alloc H3.out, ?_, H4.out.alloc H4.out.size _, by show _ = _; simp [hs]⟩
  have h := heap_alloc_new w1 (.cells c3 t3)
  rw [hs] at h
  exact h
/-- A right schema: all its parts. -/
theorem right_parts {t : Tr} (h : vldN t = 0) : inB t = true ∧ isRootB t = true ∧ shpT t = true ∧ nmsT t = true ∧ idsT t = true := by
  unfold vldN at h
  split at h
  · omega
  · rename_i h1
    split at h
    · omega
    · rename_i h2
      split at h
      · omega
      · rename_i h3
        simp only [not_or, Bool.not_eq_false] at h1 h2 h3
        exact ⟨h1, h2.1, h2.2, h3.1, h3.2⟩
/-- The three errors that Valid tells, in a world. -/
structure Er3 (W : World) (eb es en : TypeId × Value) : Prop where
  b : W.cell? ⟨0, 0, none⟩ = some (.iface eb.1 eb.2)
  s : W.cell? ⟨2, 0, none⟩ = some (.iface es.1 es.2)
  n : W.cell? ⟨4, 0, none⟩ = some (.iface en.1 en.2)
theorem Er3.keep {W w' : World} {eb es en : TypeId × Value} (h : Er3 W eb es en) (hb : Below W.heap.size W w') : Er3 w' eb es en :=
  ⟨(hb.cell (World.block_lt_of_cell? W _ h.b)).trans h.b, (hb.cell (World.block_lt_of_cell? W _ h.s)).trans h.s, (hb.cell (World.block_lt_of_cell? W _ h.n)).trans h.n⟩
end Go.Proofs.YtdpedailookcjaaDoor

namespace Go.Proofs.YtdpedailookcjaaDoor
open Go.RowKit
theorem ndL_mem : ∀ (ts : List Tr) (x : Tr), x ∈ ndL ts ↔ ∃ t ∈ ts, x ∈ ndT t
  | [], x => by simp [ndL]
  | t :: ts, x => by
    rw [ndL, List.mem_append, ndL_mem ts x]
    simp
theorem nd_sub {t c x : Tr} (hc : c ∈ t.sub) (hx : x ∈ ndT c) : x ∈ ndT t := by
  rw [ndT_eq]
  exact List.mem_cons_of_mem _ ((ndL_mem _ _).2 ⟨c, hc, hx⟩)
/-- No number twice. -/
def IdU (t : Tr) : Prop := ((ndT t).map Tr.id).Nodup
theorem IdU.sub {t c : Tr} (h : IdU t) (hc : c ∈ t.sub) : IdU c := by
  unfold IdU at h ⊢
  rw [ndT_eq, List.map_cons, List.nodup_cons] at h
  have : ∀ (ts : List Tr), c ∈ ts → ((ndL ts).map Tr.id).Nodup → ((ndT c).map Tr.id).Nodup := fun ts => by
    induction ts with
    | nil => simp
    | cons x xs ih =>
      intro hm hn
      rw [ndL, List.map_append, List.nodup_append] at hn
      rcases List.mem_cons.1 hm with rfl | hm
      · exact hn.1
      · exact ih hm hn.2.1
  exact this _ hc h.2
/-- Two nodes of a list that have a node in common are one. -/
theorem IdU.apart {t c c' x : Tr} (h : IdU t) (hc : c ∈ t.sub) (hc' : c' ∈ t.sub) (hx : x ∈ ndT c) (hx' : x ∈ ndT c') : c = c' := by
  unfold IdU at h
  rw [ndT_eq, List.map_cons, List.nodup_cons] at h
  have : ∀ (ts : List Tr), c ∈ ts → c' ∈ ts → ((ndL ts).map Tr.id).Nodup → c = c' := fun ts => by
    induction ts with
    | nil => simp
    | cons y ys ih =>
      intro hm hm' hn
      rw [ndL, List.map_append, List.nodup_append] at hn
      rcases List.mem_cons.1 hm with e1 | hm1
      · rcases List.mem_cons.1 hm' with e2 | hm2
        · rw [e1, e2]
        · rw [e1] at hx
          exact absurd rfl (hn.2.2 x.id (List.mem_map_of_mem hx) x.id (List.mem_map_of_mem ((ndL_mem _ _).2 ⟨c', hm2, hx'⟩)))
      · rcases List.mem_cons.1 hm' with e2 | hm2
        · rw [e2] at hx'
          exact absurd rfl (hn.2.2 x.id (List.mem_map_of_mem hx') x.id (List.mem_map_of_mem ((ndL_mem _ _).2 ⟨c, hm1, hx⟩)))
        · exact ih hm1 hm2 hn.2.1
  exact this _ hc hc' h.2
end Go.Proofs.YtdpedailookcjaaDoor

namespace Go.Proofs.YtdpedailookcjaaDoor
open Go.RowKit
theorem right_idU {t : Tr} (hr : isRootB t = true) (hI : idsT t = true) : IdU t := by
  have hid : t.id = 0 := (of_decide_eq_true hr).1
  rw [ids_fl, chq_iff] at hI
  obtain ⟨hok, hpw, _⟩ := hI
  have hm := preL_map t.sub 1 2 0
  unfold IdU
  rw [ndT_eq, List.map_cons, List.nodup_cons, ← hm]
  constructor
  · intro h
    obtain ⟨x, hx, e⟩ := List.mem_map.1 h
    obtain ⟨p, hp, rfl⟩ := List.mem_map.1 hx
    have := hok p hp
    rw [idOkP, decide_eq_true_iff] at this
    omega
  · rw [List.map_map, List.nodup_iff_pairwise_ne, List.pairwise_map]
    refine hpw.imp ?_
    intro a b h
    rw [idBadP, decide_eq_false_iff_not] at h
    exact h
end Go.Proofs.YtdpedailookcjaaDoor
