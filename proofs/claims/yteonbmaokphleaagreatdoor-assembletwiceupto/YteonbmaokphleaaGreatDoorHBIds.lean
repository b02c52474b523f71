/-
  schema.idsAreRight: exact.
  schema.Valid: exact: which error, or none.
  A schema's error by its flat list, and by walks through it: the same; the words, without the program.
  Boxes, frames and names that the walks of stage 4's laws share.
  A walk that looks for a number, and one that tells the leaves' numbers: the words, without the program.
  A schema under a projection: the two ways to tell what stays: the words, without the program.
  A right schema: no number twice, each node has a leaf in it.
  A node with those in it that have some of the leaves: its own words.
  A projection's own leaves, and the projection of a projection: the words, without the program.
  The nodes of a projection; what is asked for in it.
-/
import Derived.Test.YteonbmaokphleaaGreatDoorHBWalkP
import Derived.Test.YteonbmaokphleaaGreatDoorHBInB
import Derived.Maps.Own
import Derived.Maps.OwnOps
import Derived.Maps.OwnSet
import Derived.Maps.Views
import Derived.Test.YteonbmaokphleaaGreatDoorHBOwnN
import Derived.Test.YteonbmaokphleaaGreatDoorHOwn
import Derived.BigQuiet
namespace Go.Proofs.YteonbmaokphleaaGreatDoor
open Go.RowKit Go.Maps
theorem Tryz.lawI : Keyed Tryz.prog 3 := int_keyed Tryz.underlying3
set_option maxRecDepth 100000 in
theorem Tryz.zeroU (w : World) : (zeroValue 143).run Tryz.prog w = .ok (.agg #[]) w := by kernel_rfl
def ilit (i : Int) : Lit := .int .i64 i
def idS (acc : List Int) : DataW Unit := setOf (.agg []) (acc.map ilit)
theorem idS_snoc (acc : List Int) (i : Int) : idS (acc ++ [i]) = (idS acc).put (ilit i) (.agg []) := by
 unfold idS
 rw [List.map_append, List.map_cons, List.map_nil, setOf_snoc]
theorem idS_has (acc : List Int) (i : Int) : Maps.has (idS acc) (ilit i) = acc.contains i := by
 unfold idS
 rw [has_setOf _ _ _ (fun x hx => by obtain ⟨j, _, rfl⟩ := List.mem_map.1 hx; trivial)]
 induction acc with
 | nil => rfl
 | cons x xs ih =>
  rw [List.map_cons, List.any_cons, ih, List.contains_cons]
  congr 1
  show decide (_ ∧ _) = _
  by_cases h : i = x
  · subst h; simp
  · have h' : ¬ x = i := fun e => h e.symm
    simp [h, h']
def SetI (mb : Nat) (acc : List Int) (W : World) : Prop := acc.length ≤ 1000000 ∧ W.ownsMap Tryz.prog 3 (unitElem (H := Unit)) mb acc.length (idS acc)
set_option maxRecDepth 100000 in
set_option maxHeartbeats 1600000 in
theorem has_any (mb : Nat) (acc : List Int) (i : Int) (hi : -9223372036854775808 ≤ i ∧ i ≤ 9223372036854775807) (W : World) (h : SetI mb acc W) :
    Calls Tryz.prog (56) #[.map (some mb), .int .i64 i] W fun e w' => e = .returned (.bool (acc.contains i)) ∧ Below W.heap.size W w' := by
 have HO : Hid _ := h.2
 have HK : Hid _ := keyOf_int_mk Tryz.underlying3 (WalkArith.wf_i64 hi)
 have HE : Hid (Maps.has (idS acc) (.int .i64 i) = acc.contains i) := idS_has acc i
 clear h
 go_enter Tryz.func56, Tryz.ntmps56
 go_wp2_with (at_lookup; refine wpList_lookup_own_unit _ rfl _ _ 116 rfl 3 143 Tryz.lawI Tryz.underlying116 (Tryz.zeroU _) mb acc.length (idS acc) rfl HO.out _ _ rfl HK.out ?_)
 go_ret
 exact ⟨by rw [← HE.out]; rfl, (Below.refl _ _).alloc (Nat.le_refl _) _⟩
set_option maxRecDepth 100000 in
set_option maxHeartbeats 1600000 in
theorem add_any (mb : Nat) (acc : List Int) (i : Int) (hi : -9223372036854775808 ≤ i ∧ i ≤ 9223372036854775807) (hn : acc.length < 1000000) (W : World) (h : SetI mb acc W) :
    Calls Tryz.prog (57) #[.map (some mb), .int .i64 i] W fun e w' => e = .returned (.tuple #[]) ∧ SetI mb (acc ++ [i]) w' ∧ W.grownBy w' (some mb) := by
 have HO : Hid _ := h.2
 have HK : Hid _ := keyOf_int_mk Tryz.underlying3 (WalkArith.wf_i64 hi)
 clear h
 go_enter Tryz.func57, Tryz.ntmps57
 go_wp2_with (at_mapUpdate; refine wpList_mapUpdate_own _ rfl _ _ _ 116 rfl 3 143 Tryz.lawI Tryz.underlying116 _ mb acc.length (idS acc) rfl HO.out (by unfold maxLen; omega) _ _ _ rfl rfl HK.out (.agg []) [] unitElem_mk ?_; intro w1 hown1 hgrow1)
 have HN : Hid (SetI mb (acc ++ [i]) w1) := ⟨by simp; omega, by rw [idS_snoc, List.length_append]; exact hown1⟩
 have HG : Hid _ := hgrow1
 clear hown1 hgrow1
 go_end0
 exact ⟨rfl, HN.out, HG.out⟩
theorem unlike_len : ∀ (n : Nat) (l : List Int), l.Nodup → (∀ x ∈ l, 1 ≤ x ∧ x ≤ n) → l.length ≤ n
 | 0, l, _, hb => by
  cases l with
  | nil => simp
  | cons x xs => have := hb x (by simp); omega
 | n + 1, l, hn, hb => by
  by_cases h : ((n + 1 : Nat) : Int) ∈ l
  · have h1 := unlike_len n (l.erase ((n + 1 : Nat) : Int)) (hn.erase _) (fun x hx => by
      have h2 := (hn.mem_erase_iff).1 hx
      have h3 := hb x h2.2
      have h4 := h2.1
      omega)
    rw [List.length_erase_of_mem h] at h1
    omega
  · have h1 := unlike_len n l hn (fun x hx => by
      have h3 := hb x hx
      have h4 : x ≠ ((n + 1 : Nat) : Int) := fun e => h (e ▸ hx)
      omega)
    omega
def stI (acc : List Int) (path : List Tr) (t : Tr) : Bool × List Int := if path.length = 0 then (true, acc) else (!(acc.contains t.id) && decide (1 ≤ t.id ∧ t.id ≤ 1000), acc ++ [t.id])
structure IdI (g mb : Nat) (acc : List Int) (W : World) : Prop where
 cell : W.heap[g]? = some (.cells #[.map (some mb)] 116 (0, 0))
 set : SetI mb acc W
 unlike : acc.Nodup
 bound : ∀ x ∈ acc, 1 ≤ x ∧ x ≤ 1000
theorem IdI.len {g mb : Nat} {acc : List Int} {W : World} (h : IdI g mb acc W) : acc.length ≤ 1000 := unlike_len 1000 acc h.unlike h.bound
theorem SetI.keep {mb : Nat} {acc : List Int} {W w' : World} (h : SetI mb acc W) (hb : Below W.heap.size W w') : SetI mb acc w' := by
 obtain ⟨h1, es, clock, h2, h3⟩ := h
 exact ⟨h1, es, clock, (hb.block mb (lt_of_block h2)).trans h2, h3⟩
set_option maxRecDepth 100000 in
set_option maxHeartbeats 1600000 in
theorem ids1_any (g mb B Bw : Nat) (hg : g < Bw) (hmb : mb < Bw) (hmB : B ≤ mb) (acc : List Int) (path : List Tr) (t : Tr) (a : Option Addr) (c : Nat) (v : Value) (W : World) (hs : t.Sm) (hi : IdI g mb acc W) (hp : PathR W B Bw v path) (hbw : Bw ≤ W.heap.size) :
    Calls Tryz.prog 101 #[nodeV t a c, v, .pointer (some ⟨g, 0, none⟩)] W fun e w' => e = .returned (.bool (stI acc path t).1) ∧ ((stI acc path t).1 = true → IdI g mb (stI acc path t).2 w') ∧ ((stI acc path t).1 = false → True) ∧ VFr B Bw W w' := by
 obtain ⟨va, vc, rfl⟩ := hp.shape
 have hid := hs.id_
 have HI : Hid _ := hi
 have hb1 : Below W.heap.size W (W.alloc (.cells #[.int .i64 t.id, .string t.nm, .int .i64 t.rep, .int .i64 t.kind, .slice a t.sub.length c] 24)) := (Below.refl _ _).alloc (Nat.le_refl _) _
 have HB1 : Hid _ := hb1
 by_cases h0 : path.length = 0
 · have HE : Hid (stI acc path t = (true, acc)) := if_pos h0
   have q : ((path.length : Int) == 0) = true := by simp [h0]
   clear hp hi hs hb1
   go_enter Tryz.func101, Tryz.ntmps101
   go_wp2
   go_ret
   rw [HE.out]
   exact ⟨rfl, fun _ => ⟨blk_keep HB1.out HI.out.cell, HI.out.set.keep HB1.out, HI.out.unlike, HI.out.bound⟩, fun h => by simp at h, VFr.of_below HB1.out (by omega)⟩
 · have HE : Hid (stI acc path t = (!(acc.contains t.id) && decide (1 ≤ t.id ∧ t.id ≤ 1000), acc ++ [t.id])) := if_neg h0
   have q : ((path.length : Int) == 0) = false := by rw [beq_eq_false_iff_ne]; omega
   obtain ⟨c0, f0⟩ := row_one (blk_keep hb1 hi.cell)
   have HC : Hid _ := has_any mb acc t.id hid _ (hi.set.keep hb1)
   clear hp hi hs hb1
   go_enter Tryz.func101, Tryz.ntmps101
   go_wp2_with fail
   refine Calls.mono HC.out ?_
   rintro e w1 ⟨rfl, hb2⟩
   have HB2 : Hid (Below W.heap.size W w1) := HB1.out.trans (hb2.mono HB1.out.size)
   have HX : Hid (w1.heap[W.heap.size]? = some (.cells #[.int .i64 t.id, .string t.nm, .int .i64 t.rep, .int .i64 t.kind, .slice a t.sub.length c] 24 (0, 0))) := blk_keep hb2 (heap_alloc_new W _)
   clear hb2 c0 f0
   obtain ⟨c0, f0⟩ := row_one (blk_keep HB2.out HI.out.cell)
   obtain ⟨⟨p0, p1, p2, p3, p4⟩, _⟩ := row_five HX.out
   have HA : Hid _ := add_any mb acc t.id hid (by have := HI.out.len; omega) w1 (HI.out.set.keep HB2.out)
   go_wp2_with fail
   refine Calls.mono HA.out ?_
   rintro e w2 ⟨rfl, hset, hg2⟩
   have hlt : W.heap.size < w1.heap.size := lt_of_block HX.out
   have HX2 : Hid (w2.heap[W.heap.size]? = some (.cells #[.int .i64 t.id, .string t.nm, .int .i64 t.rep, .int .i64 t.kind, .slice a t.sub.length c] 24 (0, 0))) := (hg2.block W.heap.size hlt (by simp; omega)).trans HX.out
   have HG2 : Hid (w2.heap[g]? = some (.cells #[.map (some mb)] 116 (0, 0))) := (hg2.block g (by omega) (by
    simp
    rintro rfl
    obtain ⟨_, es, clock, h2, _⟩ := HI.out.set
    rw [HI.out.cell] at h2
    cases h2)).trans (blk_keep HB2.out HI.out.cell)
   have HS2 : Hid _ := hset
   have HV : Hid (VFr B Bw W w2) := (VFr.of_below HB2.out (by omega)).trans ⟨⟨hg2.os, hg2.tape, hg2.output, hg2.size, fun k hk => hg2.block k (by omega) (by simp; omega)⟩, fun k h1 h2 h3 => hg2.block k h2 (by simp; omega)⟩
   clear hset hg2 c0 f0 p0 p1 p2 p3 p4 hlt
   obtain ⟨⟨p0, p1, p2, p3, p4⟩, _⟩ := row_five HX2.out
   cases hc : acc.contains t.id with
   | true =>
    have HF : Hid (stI acc path t = (false, acc ++ [t.id])) := (by show _ = _; rw [HE.out, hc]; rfl)
    have hm : t.id ∈ acc := List.contains_iff_mem.1 hc
    go_wp2
    go_ret
    rw [HF.out]
    exact ⟨rfl, fun h => by simp at h, fun _ => trivial, HV.out⟩
   | false =>
    have HNin : Hid (t.id ∉ acc) := (by
     intro hm
     have := List.contains_iff_mem.2 hm
     rw [hc] at this
     cases this)
    by_cases h1 : 1 ≤ t.id
    · have q1 : decide (1 ≤ t.id) = true := by simp [h1]
      by_cases h2 : t.id ≤ 1000
      · have q2 : decide (t.id ≤ 1000) = true := by simp [h2]
        have HF : Hid (stI acc path t = (true, acc ++ [t.id])) := (by show _ = _; rw [HE.out, hc]; simp [h1, h2])
        have HNew : Hid (IdI g mb (acc ++ [t.id]) w2) := ⟨HG2.out, HS2.out, List.nodup_append.2 ⟨HI.out.unlike, by simp, fun x hx y hy => by simp at hy; subst hy; exact fun e => HNin.out (e ▸ hx)⟩, fun x hx => by
         rcases List.mem_append.1 hx with hx | hx
         · exact HI.out.bound x hx
         · rw [List.mem_singleton.1 hx]; exact ⟨h1, h2⟩⟩
        clear hc
        go_wp2
        all_goals first | (exfalso; omega) | (go_ret; rw [HF.out]; exact ⟨by first | rfl | simp [h1] | simp [h1, h2], fun _ => HNew.out, fun h => by simp at h, HV.out⟩)
      · have q2 : decide (t.id ≤ 1000) = false := by simp [h2]
        have HF : Hid (stI acc path t = (false, acc ++ [t.id])) := (by show _ = _; rw [HE.out, hc]; simp [h2])
        clear hc
        go_wp2
        all_goals first | (exfalso; omega) | (go_ret; rw [HF.out]; exact ⟨by first | rfl | simp [h1] | simp [h1, h2], fun h => by simp at h, fun _ => trivial, HV.out⟩)
    · have q1 : decide (1 ≤ t.id) = false := by simp [h1]
      have HF : Hid (stI acc path t = (false, acc ++ [t.id])) := (by show _ = _; rw [HE.out, hc]; simp [h1])
      clear hc
      go_wp2
      all_goals first | (exfalso; omega) | (go_ret; rw [HF.out]; exact ⟨by first | rfl | simp [h1] | simp [h1, h2], fun h => by simp at h, fun _ => trivial, HV.out⟩)
def idsT (t : Tr) : Bool := (wkT stI [] [] t).1
set_option maxRecDepth 100000 in
set_option maxHeartbeats 1600000 in
theorem ids_any (t : Tr) (n : Nat) (hd : t.Dp n) (hn : n ≤ 1100000) (hs : t.Sm) (a : Option Addr) (c : Nat) (P : Nat → Prop) (W : World) (hl : LiesN W P a t.sub) (hcap : t.sub.length ≤ c) :
    Calls Tryz.prog 66 #[nodeV t a c] W fun e w' => e = .returned (.bool (idsT t)) ∧ Below W.heap.size W w' := by
 have hmm := @run_makeMap Tryz.prog
 have hb : Below W.heap.size W (((W.alloc (.cells #[.int .i64 t.id, .string t.nm, .int .i64 t.rep, .int .i64 t.kind, .slice a t.sub.length c] 24)).alloc (.map #[] 0)).alloc (.cells #[.map (some (W.heap.size + 1))] 116)) := (((Below.refl _ _).alloc (Nat.le_refl _) _).alloc (by simp) _).alloc (by simp; omega) _
 have hset : SetI (W.heap.size + 1) [] (((W.alloc (.cells #[.int .i64 t.id, .string t.nm, .int .i64 t.rep, .int .i64 t.kind, .slice a t.sub.length c] 24)).alloc (.map #[] 0)).alloc (.cells #[.map (some (W.heap.size + 1))] 116)) := ⟨by simp, by
  have h := World.ownsMap_made (W.alloc (.cells #[.int .i64 t.id, .string t.nm, .int .i64 t.rep, .int .i64 t.kind, .slice a t.sub.length c] 24)) Tryz.prog 3 (unitElem (H := Unit))
  rw [show (W.alloc (.cells #[.int .i64 t.id, .string t.nm, .int .i64 t.rep, .int .i64 t.kind, .slice a t.sub.length c] 24)).heap.size = W.heap.size + 1 by simp] at h
  exact h.alloc _⟩
 have hcell : (((W.alloc (.cells #[.int .i64 t.id, .string t.nm, .int .i64 t.rep, .int .i64 t.kind, .slice a t.sub.length c] 24)).alloc (.map #[] 0)).alloc (.cells #[.map (some (W.heap.size + 1))] 116)).heap[W.heap.size + 2]? = some (.cells #[.map (some (W.heap.size + 1))] 116 (0, 0)) := by
  have h := heap_alloc_new ((W.alloc (.cells #[.int .i64 t.id, .string t.nm, .int .i64 t.rep, .int .i64 t.kind, .slice a t.sub.length c] 24)).alloc (.map #[] 0)) (.cells #[.map (some (W.heap.size + 1))] 116)
  rwa [show ((W.alloc (.cells #[.int .i64 t.id, .string t.nm, .int .i64 t.rep, .int .i64 t.kind, .slice a t.sub.length c] 24)).alloc (.map #[] 0)).heap.size = W.heap.size + 2 by simp] at h
 have HC : Hid _ := wkI_any stI (IdI (W.heap.size + 2) (W.heap.size + 1)) (fun _ _ => True) (fun _ _ => True) (fun _ => 0) t.cnt (W.heap.size + 2) W.heap.size (W.heap.size + 3) (by omega)
  (fun s W' w' r hi hg hr => by
   obtain ⟨h1, ⟨h2, es, clock, h3, h4⟩, h5, h6⟩ := hi
   exact ⟨(hg.block _ (lt_of_block h1) (fun e => by have := (hr _ e.symm).1; omega)).trans h1, ⟨h2, es, clock, (hg.block _ (lt_of_block h3) (fun e => by have := (hr _ e.symm).1; omega)).trans h3, h4⟩, h5, h6⟩)
  (fun _ _ _ _ _ => trivial) (fun _ _ _ => Nat.zero_le _)
  (fun s path t a c v W' _ _ h1 h2 h3 hcap h4 h5 => ids1_any (W.heap.size + 2) (W.heap.size + 1) W.heap.size (W.heap.size + 3) (by omega) (by omega) (by omega) s path t a c v W' h4 h1 h2 h5)
  n t hd hs [] [] a c (.slice none 0 0) _ trivial (by simp) (by simp; omega)
  ⟨hcell, hset, by simp, fun x hx => by simp at hx⟩ (PathR.nil _ _ _) (hl.stay (fun b _ h => h) (fun b _ h => hb.block b h)) hcap (by simp)
 have HB : Hid _ := hb
 clear hl hd hs hb hset hcell
 go_enter Tryz.func66, Tryz.ntmps66
 go_wp2_with fail
 refine Calls.mono HC.out ?_
 rintro e w1 ⟨rfl, _, _, hf, _⟩
 have HF : Hid _ := hf.below
 clear hf
 go_wp2
 go_ret
 exact ⟨rfl, HB.out.trans HF.out⟩
end Go.Proofs.YteonbmaokphleaaGreatDoor
namespace Go.Proofs.YteonbmaokphleaaGreatDoor
open Go.RowKit
def vldN (t : Tr) : Nat := if inB t = false then 1 else if isRootB t = false ∨ shpT t = false then 2 else if nmsT t = false ∨ idsT t = false then 4 else 0
def vldV (eb es en : Value) (t : Tr) : Value := if inB t = false then eb else if isRootB t = false ∨ shpT t = false then es else if nmsT t = false ∨ idsT t = false then en else .nilIface
set_option maxRecDepth 100000 in
set_option maxHeartbeats 1600000 in
theorem valid_any (t : Tr) (n : Nat) (hd : t.Dp n) (hn : n ≤ 1100000) (hs : t.Sm) (a : Option Addr) (c : Nat) (P : Nat → Prop) (W : World) (hl : LiesN W P a t.sub) (hcap : t.sub.length ≤ c) (eb es en : TypeId × Value)
    (hgb : W.cell? ⟨0, 0, none⟩ = some (.iface eb.1 eb.2)) (hgs : W.cell? ⟨1, 0, none⟩ = some (.iface es.1 es.2)) (hgn : W.cell? ⟨5, 0, none⟩ = some (.iface en.1 en.2)) :
    Calls Tryz.prog 36 #[nodeV t a c] W fun e w' => e = .returned (vldV (.iface eb.1 eb.2) (.iface es.1 es.2) (.iface en.1 en.2) t) ∧ Below W.heap.size W w' := by
 have hb : Below W.heap.size W (W.alloc (.cells #[.int .i64 t.id, .string t.nm, .int .i64 t.rep, .int .i64 t.kind, .slice a t.sub.length c] 24)) := (Below.refl _ _).alloc (Nat.le_refl _) _
 have HX : Hid ((W.alloc (.cells #[.int .i64 t.id, .string t.nm, .int .i64 t.rep, .int .i64 t.kind, .slice a t.sub.length c] 24)).heap[W.heap.size]? = some (.cells #[.int .i64 t.id, .string t.nm, .int .i64 t.rep, .int .i64 t.kind, .slice a t.sub.length c] 24 (0, 0))) := heap_alloc_new W _
 have HL : Hid (LiesN W P a t.sub) := hl
 have HGb : Hid _ := hgb
 have HGs : Hid _ := hgs
 have HGn : Hid _ := hgn
 have HD : Hid _ := hd
 have HSm : Hid _ := hs
 have HB : Hid _ := hb
 obtain ⟨b1, H1⟩ : ∃ b1, Hid (inB t = b1) := ⟨_, rfl⟩
 obtain ⟨b2, H2⟩ : ∃ b2, Hid (isRootB t = b2) := ⟨_, rfl⟩
 obtain ⟨b3, H3⟩ : ∃ b3, Hid (shpT t = b3) := ⟨_, rfl⟩
 obtain ⟨b4, H4⟩ : ∃ b4, Hid (nmsT t = b4) := ⟨_, rfl⟩
 obtain ⟨b5, H5⟩ : ∃ b5, Hid (idsT t = b5) := ⟨_, rfl⟩
 clear hl hd hs hb hgb hgs hgn
 go_enter Tryz.func36, Tryz.ntmps36
 go_wp2_with fail
 refine (inBounds_any t n HD.out hn HSm.out a c P _ (HL.out.keep HB.out) hcap).mono ?_
 rw [H1.out]
 rintro e w1 ⟨rfl, hb1⟩
 have HB1 : Hid (Below W.heap.size W w1) := HB.out.trans (hb1.mono HB.out.size)
 have HX1 : Hid (w1.heap[W.heap.size]? = some (.cells #[.int .i64 t.id, .string t.nm, .int .i64 t.rep, .int .i64 t.kind, .slice a t.sub.length c] 24 (0, 0))) := blk_keep hb1 HX.out
 clear hb1
 cases b1 with
 | false =>
  have hgb := (HB1.out.cell (World.block_lt_of_cell? W _ HGb.out)).trans HGb.out
  go_wp2
  go_ret
  exact ⟨by rw [vldV, if_pos H1.out]; rfl, HB1.out⟩
 | true =>
  obtain ⟨⟨p0, p1, p2, p3, p4⟩, _⟩ := row_five HX1.out
  go_wp2_with fail
  refine (isRoot_any t a c _).mono ?_
  rw [H2.out]
  rintro e w2 ⟨rfl, hb2⟩
  have HB2 : Hid (Below W.heap.size W w2) := HB1.out.trans (hb2.mono HB1.out.size)
  have HX2 : Hid (w2.heap[W.heap.size]? = some (.cells #[.int .i64 t.id, .string t.nm, .int .i64 t.rep, .int .i64 t.kind, .slice a t.sub.length c] 24 (0, 0))) := blk_keep hb2 HX1.out
  clear hb2 p0 p1 p2 p3 p4
  obtain ⟨⟨p0, p1, p2, p3, p4⟩, _⟩ := row_five HX2.out
  cases b2 with
  | false =>
   have hgs := (HB2.out.cell (World.block_lt_of_cell? W _ HGs.out)).trans HGs.out
   go_wp2
   go_ret
   exact ⟨by rw [vldV, if_neg (by rw [H1.out]; simp), if_pos (.inl H2.out)]; rfl, HB2.out⟩
  | true =>
   go_wp2_with fail
   refine (shapes_any t n HD.out hn HSm.out a c P _ (HL.out.keep HB2.out) hcap).mono ?_
   rw [H3.out]
   rintro e w3 ⟨rfl, hb3⟩
   have HB3 : Hid (Below W.heap.size W w3) := HB2.out.trans (hb3.mono HB2.out.size)
   have HX3 : Hid (w3.heap[W.heap.size]? = some (.cells #[.int .i64 t.id, .string t.nm, .int .i64 t.rep, .int .i64 t.kind, .slice a t.sub.length c] 24 (0, 0))) := blk_keep hb3 HX2.out
   clear hb3 p0 p1 p2 p3 p4
   obtain ⟨⟨p0, p1, p2, p3, p4⟩, _⟩ := row_five HX3.out
   cases b3 with
   | false =>
    have hgs := (HB3.out.cell (World.block_lt_of_cell? W _ HGs.out)).trans HGs.out
    go_wp2
    go_ret
    exact ⟨by rw [vldV, if_neg (by rw [H1.out]; simp), if_pos (.inr H3.out)]; rfl, HB3.out⟩
   | true =>
    go_wp2_with fail
    refine (names_any t n HD.out hn HSm.out a c P _ (HL.out.keep HB3.out) hcap).mono ?_
    rw [H4.out]
    rintro e w4 ⟨rfl, hb4⟩
    have HB4 : Hid (Below W.heap.size W w4) := HB3.out.trans (hb4.mono HB3.out.size)
    have HX4 : Hid (w4.heap[W.heap.size]? = some (.cells #[.int .i64 t.id, .string t.nm, .int .i64 t.rep, .int .i64 t.kind, .slice a t.sub.length c] 24 (0, 0))) := blk_keep hb4 HX3.out
    clear hb4 p0 p1 p2 p3 p4
    obtain ⟨⟨p0, p1, p2, p3, p4⟩, _⟩ := row_five HX4.out
    cases b4 with
    | false =>
     have hgn := (HB4.out.cell (World.block_lt_of_cell? W _ HGn.out)).trans HGn.out
     go_wp2
     go_ret
     exact ⟨by rw [vldV, if_neg (by rw [H1.out]; simp), if_neg (by rw [H2.out, H3.out]; simp), if_pos (.inl H4.out)]; rfl, HB4.out⟩
    | true =>
     go_wp2_with fail
     refine (ids_any t n HD.out hn HSm.out a c P _ (HL.out.keep HB4.out) hcap).mono ?_
     rw [H5.out]
     rintro e w5 ⟨rfl, hb5⟩
     have HB5 : Hid (Below W.heap.size W w5) := HB4.out.trans (hb5.mono HB4.out.size)
     clear hb5 p0 p1 p2 p3 p4
     cases b5 with
     | false =>
      have hgn := (HB5.out.cell (World.block_lt_of_cell? W _ HGn.out)).trans HGn.out
      go_wp2
      go_ret
      exact ⟨by rw [vldV, if_neg (by rw [H1.out]; simp), if_neg (by rw [H2.out, H3.out]; simp), if_pos (.inr H5.out)]; rfl, HB5.out⟩
     | true =>
      go_wp2
      go_ret
      exact ⟨by rw [vldV, if_neg (by rw [H1.out]; simp), if_neg (by rw [H2.out, H3.out]; simp), if_neg (by rw [H4.out, H5.out]; simp)]; rfl, HB5.out⟩
theorem vldV_nil {eb es en : Value} {t : Tr} (hr : vldN t = 0) : vldV eb es en t = .nilIface := by
 unfold vldN at hr
 unfold vldV
 split at hr
 · omega
 · rename_i h1
   rw [if_neg h1]
   split at hr
   · omega
   · rename_i h2
     rw [if_neg h2]
     split at hr
     · omega
     · rename_i h3
       rw [if_neg h3]
section
variable {α : Type} (ok : α → Bool) (bad : α → α → Bool)
def chq (ahead : List α) : List α → Bool
 | [] => true
 | p :: ps => ok p && !(ahead.any fun q => bad q p) && chq (ahead ++ [p]) ps
theorem chq_iff : ∀ (l ahead : List α), chq ok bad ahead l = true ↔ (∀ p ∈ l, ok p = true) ∧ l.Pairwise (fun a b => bad a b = false) ∧ ∀ a ∈ ahead, ∀ b ∈ l, bad a b = false
 | [], ahead => by simp [chq]
 | p :: ps, ahead => by
  rw [chq, Bool.and_eq_true, Bool.and_eq_true, chq_iff ps, Bool.not_eq_true', List.any_eq_false, List.pairwise_cons]
  constructor
  · rintro ⟨⟨h1, h2⟩, h3, h4, h5⟩
    refine ⟨fun x hx => ?_, ⟨fun b hb => h5 p (by simp) b hb, h4⟩, fun a ha b hb => ?_⟩
    · rcases List.mem_cons.1 hx with rfl | hx
      · exact h1
      · exact h3 x hx
    · rcases List.mem_cons.1 hb with rfl | hb
      · simpa using h2 a ha
      · exact h5 a (by simp [ha]) b hb
  · rintro ⟨h1, ⟨h2, h3⟩, h4⟩
    refine ⟨⟨h1 p (by simp), fun a ha => by simp [h4 a ha p (by simp)]⟩, fun x hx => h1 x (by simp [hx]), h3, fun a ha b hb => ?_⟩
    rcases List.mem_append.1 ha with ha | ha
    · exact h4 a ha b (by simp [hb])
    · rw [List.mem_singleton.1 ha]; exact h2 b hb
end
mutual
def ndT : Tr → List Tr
 | .node id nm rep kind sub => .node id nm rep kind sub :: ndL sub
def ndL : List Tr → List Tr
 | [] => []
 | t :: ts => ndT t ++ ndL ts
end
theorem ndT_eq (t : Tr) : ndT t = t :: ndL t.sub := by
 cases t with
 | node id nm rep kind sub => rw [ndT]; rfl
mutual
def preT (base : Nat) : Tr → Nat → Int → List Pc
 | .node id nm rep kind sub, d, ar => ⟨.node id nm rep kind sub, d, ar⟩ :: preL (base + 1) sub (d + 1) base
def preL (base : Nat) : List Tr → Nat → Int → List Pc
 | [], _, _ => []
 | t :: ts, d, ar => preT base t d ar ++ preL (base + t.cnt) ts d ar
end
mutual
theorem preT_map : ∀ (t : Tr) (base d : Nat) (ar : Int), (preT base t d ar).map Pc.t = ndT t
 | .node id nm rep kind sub, base, d, ar => by rw [preT, ndT, List.map_cons, preL_map sub]
theorem preL_map : ∀ (ts : List Tr) (base d : Nat) (ar : Int), (preL base ts d ar).map Pc.t = ndL ts
 | [], base, d, ar => by rw [preL, ndL]; rfl
 | t :: ts, base, d, ar => by rw [preL, ndL, List.map_append, preT_map t, preL_map ts]
end
mutual
theorem ndT_len : ∀ t : Tr, (ndT t).length = t.cnt
 | .node id nm rep kind sub => by rw [ndT, Tr.cnt, List.length_cons, ndL_len sub]; omega
theorem ndL_len : ∀ ts : List Tr, (ndL ts).length = cntL ts
 | [] => by rw [ndL, cntL]; rfl
 | t :: ts => by rw [ndL, cntL, List.length_append, ndT_len t, ndL_len ts]
end
theorem preT_len (t : Tr) (base d : Nat) (ar : Int) : (preT base t d ar).length = t.cnt := by rw [← ndT_len t, ← preT_map t base d ar, List.length_map]
mutual
theorem flT_pre : ∀ (t : Tr) (acc : List Pc) (d : Nat) (ar : Int) (k : Nat), acc.length + t.cnt ≤ 2000 → t.Dp k → d + k ≤ 101 → flT acc t d ar = acc ++ preT acc.length t d ar
 | .node id nm rep kind sub, acc, d, ar, k, h1, h2, h3 => by
  rw [Tr.cnt] at h1
  have hk := h2.pos
  obtain ⟨k, rfl⟩ : ∃ j, k = j + 1 := ⟨k - 1, by omega⟩
  have ih := flL_pre sub (acc ++ [⟨.node id nm rep kind sub, d, ar⟩]) (d + 1) acc.length k (by simp; omega) (fun j hj => h2.at_ j hj) (by omega)
  rw [flT, if_neg (by omega), ih, preT]
  simp
theorem flL_pre : ∀ (ts : List Tr) (acc : List Pc) (d : Nat) (ar : Int) (k : Nat), acc.length + cntL ts ≤ 2000 → (∀ j (h : j < ts.length), ts[j].Dp k) → d + k ≤ 101 → flL acc ts d ar = acc ++ preL acc.length ts d ar
 | [], acc, d, ar, k, h1, h2, h3 => by rw [flL, preL, List.append_nil]
 | t :: ts, acc, d, ar, k, h1, h2, h3 => by
  rw [cntL] at h1
  have ht : t.Dp k := h2 0 (by simp)
  rw [flL, flT_pre t acc d ar k (by omega) ht h3, flL_pre ts _ d ar k (by rw [List.length_append, preT_len]; omega) (fun j hj => h2 (j + 1) (by simp; omega)) h3, preL, List.length_append, preT_len, List.append_assoc]
end
mutual
theorem preT_deep : ∀ (t : Tr) (base d : Nat) (ar : Int) (k : Nat), t.Dp k → ∀ p ∈ preT base t d ar, p.deep < d + k
 | .node id nm rep kind sub, base, d, ar, k, h, p, hp => by
  have hk := h.pos
  obtain ⟨k, rfl⟩ : ∃ j, k = j + 1 := ⟨k - 1, by omega⟩
  rw [preT] at hp
  rcases List.mem_cons.1 hp with rfl | hp
  · show ((d : Nat) : Int) < _; omega
  · have := preL_deep sub (base + 1) (d + 1) base k (fun j hj => h.at_ j hj) p hp
    omega
theorem preL_deep : ∀ (ts : List Tr) (base d : Nat) (ar : Int) (k : Nat), (∀ j (h : j < ts.length), ts[j].Dp k) → ∀ p ∈ preL base ts d ar, p.deep < d + k
 | [], base, d, ar, k, h, p, hp => by rw [preL] at hp; simp at hp
 | t :: ts, base, d, ar, k, h, p, hp => by
  rw [preL] at hp
  rcases List.mem_append.1 hp with hp | hp
  · exact preT_deep t base d ar k (h 0 (by simp)) p hp
  · exact preL_deep ts _ d ar k (fun j hj => h (j + 1) (by simp; omega)) p hp
end
mutual
theorem dpB : ∀ (t : Tr) (m : Nat) (path : List Tr), (wkT stB m path t).1 = true → (wkT stB m path t).2 = m + t.cnt ∧ m + t.cnt ≤ 40 ∧ t.Dp (6 - path.length)
 | .node id nm rep kind sub, m, path => by
  rw [wkT, Tr.cnt]
  intro h
  by_cases hs : (stB m path (.node id nm rep kind sub)).1 = true
  · rw [if_pos hs] at h ⊢
    have h1 : m + 1 ≤ 40 ∧ path.length < 6 := by simpa [stB] using hs
    have h2 := dpBL sub (stB m path (.node id nm rep kind sub)).2 (path ++ [.node id nm rep kind sub]) h
    have e : (stB m path (.node id nm rep kind sub)).2 = m + 1 := rfl
    rw [e] at h2 ⊢
    refine ⟨by omega, by omega, ?_⟩
    have hd : 6 - path.length = (6 - (path ++ [Tr.node id nm rep kind sub]).length) + 1 := by simp; omega
    rw [hd]
    exact .mk _ id nm rep kind sub h2.2.2
  · rw [if_neg hs] at h
    exact absurd h hs
theorem dpBL : ∀ (ts : List Tr) (m : Nat) (path : List Tr), (wkL stB m path ts).1 = true → (wkL stB m path ts).2 = m + cntL ts ∧ (m ≤ 40 → m + cntL ts ≤ 40) ∧ ∀ j (h : j < ts.length), ts[j].Dp (6 - path.length)
 | [], m, path => by
  rw [wkL, cntL]
  exact fun _ => ⟨by simp, fun h => h, fun j h => absurd h (by simp)⟩
 | t :: ts, m, path => by
  rw [wkL, cntL]
  intro h
  by_cases hs : (wkT stB m path t).1 = true
  · rw [if_pos hs] at h ⊢
    have h1 := dpB t m path hs
    have h2 := dpBL ts _ path h
    rw [h1.1] at h2 ⊢
    refine ⟨by omega, fun _ => by have := h2.2.1 h1.2.1; omega, fun j hj => ?_⟩
    cases j with
    | zero => exact h1.2.2
    | succ j => exact h2.2.2 j (by simpa using hj)
  · rw [if_neg hs] at h
    exact absurd h hs
end
mutual
theorem flT_ext : ∀ (t : Tr) (acc : List Pc) (d : Nat) (ar : Int), ∃ E, flT acc t d ar = acc ++ E
 | .node id nm rep kind sub, acc, d, ar => by
  rw [flT]
  split
  · exact ⟨[], by simp⟩
  · obtain ⟨E, h⟩ := flL_ext sub (acc ++ [⟨.node id nm rep kind sub, d, ar⟩]) (d + 1) acc.length
    exact ⟨⟨.node id nm rep kind sub, d, ar⟩ :: E, by rw [h]; simp⟩
theorem flL_ext : ∀ (ts : List Tr) (acc : List Pc) (d : Nat) (ar : Int), ∃ E, flL acc ts d ar = acc ++ E
 | [], acc, d, ar => ⟨[], by rw [flL]; simp⟩
 | t :: ts, acc, d, ar => by
  obtain ⟨E, h⟩ := flT_ext t acc d ar
  obtain ⟨E2, h2⟩ := flL_ext ts (acc ++ E) d ar
  exact ⟨E ++ E2, by rw [flL, h, h2, List.append_assoc]⟩
end
mutual
theorem flT_in : ∀ (t : Tr) (acc : List Pc) (d : Nat) (ar : Int) (path : List Tr), path.length + 1 = d → d ≤ 7 → (flT acc t d ar).length ≤ 40 → (∀ p ∈ flT acc t d ar, p.deep ≤ 6) → wkT stB acc.length path t = (true, (flT acc t d ar).length)
 | .node id nm rep kind sub, acc, d, ar, path, hp, hd, hl, hall => by
  have hal : acc.length ≤ 40 := by
   obtain ⟨E, h⟩ := flT_ext (.node id nm rep kind sub) acc d ar
   rw [h, List.length_append] at hl
   omega
  rw [flT, if_neg (by omega)] at hl hall
  rw [flT, if_neg (by omega)]
  obtain ⟨E, h⟩ := flL_ext sub (acc ++ [⟨.node id nm rep kind sub, d, ar⟩]) (d + 1) acc.length
  have hd6 : ((d : Nat) : Int) ≤ 6 := hall ⟨.node id nm rep kind sub, d, ar⟩ (by rw [h]; simp)
  have hl2 : acc.length + 1 ≤ 40 := by
   rw [h] at hl
   simp at hl
   omega
  have hs : stB acc.length path (.node id nm rep kind sub) = (true, acc.length + 1) := by
   simp [stB, hl2]
   omega
  have ih := flL_in sub (acc ++ [⟨.node id nm rep kind sub, d, ar⟩]) (d + 1) acc.length (path ++ [.node id nm rep kind sub]) (by simp; omega) (by omega) hl hall
  rw [wkT, hs, if_pos rfl, ← ih]
  congr 1
  simp
theorem flL_in : ∀ (ts : List Tr) (acc : List Pc) (d : Nat) (ar : Int) (path : List Tr), path.length + 1 = d → d ≤ 7 → (flL acc ts d ar).length ≤ 40 → (∀ p ∈ flL acc ts d ar, p.deep ≤ 6) → wkL stB acc.length path ts = (true, (flL acc ts d ar).length)
 | [], acc, d, ar, path, hp, hd, hl, hall => by rw [wkL, flL]
 | t :: ts, acc, d, ar, path, hp, hd, hl, hall => by
  rw [flL] at hl hall
  obtain ⟨E, h⟩ := flL_ext ts (flT acc t d ar) d ar
  have h1 := flT_in t acc d ar path hp hd (by rw [h, List.length_append] at hl; omega) (fun p hp => hall p (by rw [h]; simp [hp]))
  have h2 := flL_in ts (flT acc t d ar) d ar path hp hd hl hall
  rw [wkL, h1, if_pos rfl, flL]
  exact h2
end
theorem inB_fl (t : Tr) : inB t = true ↔ (fl t).length ≤ 40 ∧ ∀ p ∈ fl t, p.deep ≤ 6 := by
 constructor
 · intro h
   obtain ⟨h1, h2, h3⟩ := dpB t 0 [] h
   have e : fl t = preT 0 t 1 (-1) := by
    have := flT_pre t [] 1 (-1) 6 (by simp; omega) h3 (by omega)
    simpa [fl] using this
   rw [e]
   refine ⟨by rw [preT_len]; omega, fun p hp => ?_⟩
   have := preT_deep t 0 1 (-1) 6 h3 p hp
   omega
 · rintro ⟨h1, h2⟩
   have := flT_in t [] 1 (-1) [] rfl (by omega) h1 h2
   show (wkT stB 0 [] t).1 = true
   have e : wkT stB 0 [] t = (true, (flT [] t 1 (-1)).length) := this
   rw [e]
section
variable (f : Tr → Bool)
mutual
theorem wk_all : ∀ (t : Tr) (path : List Tr), (wkT (fun (_ : Unit) (_ : List Tr) x => (f x, ())) () path t).1 = (ndT t).all f
 | .node id nm rep kind sub, path => by
  rw [wkT, ndT, List.all_cons]
  cases h : f (.node id nm rep kind sub) with
  | true => simp [wkL_all sub]
  | false => simp
theorem wkL_all : ∀ (ts : List Tr) (path : List Tr), (wkL (fun (_ : Unit) (_ : List Tr) x => (f x, ())) () path ts).1 = (ndL ts).all f
 | [], path => by rw [wkL, ndL]; rfl
 | t :: ts, path => by
  rw [wkL, ndL, List.all_append, ← wk_all t path, ← wkL_all ts path]
  cases h : (wkT (fun (_ : Unit) (_ : List Tr) x => (f x, ())) () path t).1 with
  | true => simp
  | false => simp [h]
end
end
theorem shp_all (t : Tr) : shpT t = (shpOk t && (ndL t.sub).all shpOk) := by
 have h := wk_all shpOk t []
 rw [ndT_eq, List.all_cons] at h
 exact h
theorem nms_all (t : Tr) : nmsT t = (nmsL [] t.sub && (ndL t.sub).all fun x => nmsL [] x.sub) := by
 have h := wk_all (fun x => nmsL [] x.sub) t []
 rw [ndT_eq, List.all_cons] at h
 exact h
def nmEq (a b : Tr) : Bool := a.nm.toList == b.nm.toList
theorem nmsL_chk : ∀ (ts ahead : List Tr), nmsL ahead ts = chq (fun x => nameOk x.nm) nmEq ahead ts
 | [], _ => rfl
 | t :: ts, ahead => by rw [nmsL, chq, nmsL_chk ts]; rfl
def idOkP (p : Pc) : Bool := decide (1 ≤ p.t.id ∧ p.t.id ≤ 1000)
def idBadP (a b : Pc) : Bool := decide (a.t.id = b.t.id)
def idOkT (x : Tr) : Bool := decide (1 ≤ x.id ∧ x.id ≤ 1000)
def idEqT (a b : Tr) : Bool := decide (a.id = b.id)
mutual
theorem idW : ∀ (t : Tr) (ahead path : List Tr), 0 < path.length → (wkT stI (ahead.map Tr.id) path t).1 = chq idOkT idEqT ahead (ndT t) ∧ ((wkT stI (ahead.map Tr.id) path t).1 = true → (wkT stI (ahead.map Tr.id) path t).2 = (ahead ++ ndT t).map Tr.id)
 | .node id nm rep kind sub, ahead, path, hp => by
  have hs : stI (ahead.map Tr.id) path (.node id nm rep kind sub) = (idOkT (.node id nm rep kind sub) && !(ahead.any fun q => idEqT q (.node id nm rep kind sub)), (ahead ++ [Tr.node id nm rep kind sub]).map Tr.id) := by
   rw [stI, if_neg (by omega)]
   have e : (ahead.map Tr.id).contains (Tr.node id nm rep kind sub).id = ahead.any fun q => idEqT q (.node id nm rep kind sub) := by
    rw [Bool.eq_iff_iff, List.contains_iff_mem, List.any_eq_true, List.mem_map]
    simp [idEqT]
   rw [e, Bool.and_comm]
   simp [idOkT]
  have ih := idWL sub (ahead ++ [.node id nm rep kind sub]) (path ++ [.node id nm rep kind sub]) (by simp)
  rw [wkT, ndT, chq, hs]
  cases h : (idOkT (.node id nm rep kind sub) && !(ahead.any fun q => idEqT q (.node id nm rep kind sub))) with
  | true =>
   simp only [if_true, Bool.true_and]
   exact ⟨ih.1, fun h => by rw [ih.2 h]; simp⟩
  | false =>
   simp
theorem idWL : ∀ (ts ahead path : List Tr), 0 < path.length → (wkL stI (ahead.map Tr.id) path ts).1 = chq idOkT idEqT ahead (ndL ts) ∧ ((wkL stI (ahead.map Tr.id) path ts).1 = true → (wkL stI (ahead.map Tr.id) path ts).2 = (ahead ++ ndL ts).map Tr.id)
 | [], ahead, path, hp => by rw [wkL, ndL, chq]; simp
 | t :: ts, ahead, path, hp => by
  have h1 := idW t ahead path hp
  have happ : ∀ (l m ah : List Tr), chq idOkT idEqT ah (l ++ m) = (chq idOkT idEqT ah l && chq idOkT idEqT (ah ++ l) m) := by
   intro l
   induction l with
   | nil => intro m ah; simp [chq]
   | cons x l ihl =>
    intro m ah
    rw [List.cons_append, chq, chq, ihl m (ah ++ [x])]
    simp [Bool.and_assoc]
  rw [wkL, ndL, happ, ← h1.1]
  cases h : (wkT stI (ahead.map Tr.id) path t).1 with
  | true =>
   have h2 := idWL ts (ahead ++ ndT t) path hp
   rw [if_pos rfl, h1.2 h, Bool.true_and]
   exact ⟨h2.1, fun h => by rw [h2.2 h]; simp⟩
  | false =>
   rw [if_neg (by simp)]
   simp [h]
end
theorem ids_fl (t : Tr) : idsT t = chq idOkP idBadP [] (preL 1 t.sub 2 0) := by
 have h1 : idsT t = chq idOkT idEqT [] (ndL t.sub) := by
  have h := (idWL t.sub [] ([] ++ [t]) (by simp)).1
  unfold idsT
  rw [wkT_eq]
  have e : stI [] [] t = (true, []) := by simp [stI]
  rw [e, if_pos rfl]
  exact h
 rw [h1, ← preL_map t.sub 1 2 0]
 have hm : ∀ (l ahead : List Pc), chq idOkT idEqT (ahead.map Pc.t) (l.map Pc.t) = chq idOkP idBadP ahead l := by
  intro l
  induction l with
  | nil => intro ahead; rfl
  | cons p l ih =>
   intro ahead
   rw [List.map_cons, chq, chq, ← ih (ahead ++ [p])]
   simp [idOkT, idOkP, idEqT, idBadP, List.any_map, Function.comp_def]
 exact hm _ []
theorem below_dN {B : Nat} {a w : World} (h : Below B a w) (n : Nat) : Below B a (w.drewN n) := h.trans ⟨rfl, rfl, rfl, Nat.le_refl _, fun _ _ => rfl⟩
structure RFr (r : Nat) (W w' : World) : Prop where
 os : w'.os = W.os
 tape : w'.tape = W.tape
 output : w'.output = W.output
 size : W.heap.size ≤ w'.heap.size
 keep : ∀ k, k < W.heap.size → k ≠ r → w'.heap[k]? = W.heap[k]?
theorem RFr.refl (r : Nat) (W : World) : RFr r W W := ⟨rfl, rfl, rfl, Nat.le_refl _, fun _ _ _ => rfl⟩
theorem RFr.trans {r : Nat} {W w1 w2 : World} (h : RFr r W w1) (h2 : RFr r w1 w2) : RFr r W w2 :=
 ⟨h2.os.trans h.os, h2.tape.trans h.tape, h2.output.trans h.output, Nat.le_trans h.size h2.size, fun k hk hne => by rw [h2.keep k (Nat.lt_of_lt_of_le hk h.size) hne, h.keep k hk hne]⟩
theorem RFr.of_below {r : Nat} {W w' : World} (hb : Below W.heap.size W w') : RFr r W w' := ⟨hb.os, hb.tape, hb.output, hb.size, fun k hk _ => hb.block k hk⟩
theorem RFr.below {r B : Nat} {W w' : World} (h : RFr r W w') (hB : B ≤ W.heap.size) (hr : B ≤ r) : Below B W w' := ⟨h.os, h.tape, h.output, h.size, fun k hk => h.keep k (by omega) (by omega)⟩
theorem RFr.set {r j : Nat} {W w' : World} {v : Value} (h : RFr r W w') : RFr r W (w'.setCell ⟨r, j, none⟩ v) := ⟨h.os, h.tape, h.output, by simpa using h.size, fun k hk hne => (Below.heap_setCell w' ⟨r, j, none⟩ v k hne).trans (h.keep k hk hne)⟩
theorem RFr.box {r k : Nat} {W w' : World} {o : Obj} (h : RFr r W w') (hk : W.heap[k]? = some o) (hne : k ≠ r) : w'.heap[k]? = some o := (h.keep k (lt_of_block hk) hne).trans hk
theorem two_boxesS (W : World) (c1 c2 : Array Value) (t1 t2 : TypeId) : ∃ w0, Hid ((W.alloc (.cells c1 t1)).alloc (.cells c2 t2) = w0) ∧ Hid (w0.heap[W.heap.size]? = some (.cells c1 t1 (0, 0))) ∧ Hid (w0.heap[W.heap.size + 1]? = some (.cells c2 t2 (0, 0))) ∧ Hid (Below W.heap.size W w0) := by
 refine ⟨_, rfl, blk_alloc (heap_alloc_new W _), ?_, ((Below.refl _ _).alloc (Nat.le_refl _) _).alloc (by simp) _⟩
 have h := heap_alloc_new (W.alloc (.cells c1 t1)) (.cells c2 t2)
 rw [show (W.alloc (.cells c1 t1)).heap.size = W.heap.size + 1 by simp] at h
 exact h
theorem one_box (W : World) (c1 : Array Value) (t1 : TypeId) : ∃ w0, Hid (W.alloc (.cells c1 t1) = w0) ∧ Hid (w0.heap[W.heap.size]? = some (.cells c1 t1 (0, 0))) ∧ Hid (Below W.heap.size W w0) := ⟨_, rfl, heap_alloc_new W _, (Below.refl _ _).alloc (Nat.le_refl _) _⟩
theorem hid_name {α : Type} (x : α) : ∃ y, Hid (x = y) := ⟨x, rfl⟩
theorem results_cS {P : Program} {fn : Func} {p u : Tmp} {ty : TypeId} (h : fn.results = #[.cell p ty, .tmp u]) (tmps : Array Value) (w : World) (g : Nat) (t : TypeId) (cs : Array Value) (fr : Nat × Nat) (d : TypeDesc) (y : Value)
    (hp : tmps.getD p undef = .pointer (some ⟨g, 0, none⟩)) (hy : tmps.getD u undef = y) (hg : w.heap[g]? = some (.cells cs t fr))
    (hu : P.underlying ty = some d) (hd : (match d with | .struct _ | .array _ _ => true | _ => false) = true) (hi : (P.info? ty).map (·.size) = some cs.size) :
    (results fn tmps).run P w = .ok (.tuple #[.agg cs, y]) w := by
 have hp' : tmps[p]?.getD undef = .pointer (some ⟨g, 0, none⟩) := by simpa using hp
 have hy' : tmps[u]?.getD undef = y := by simpa using hy
 simp [results, h, hp', hy', asAddr, Result.andThen, run_loadVar_row w g t ty cs fr d hg hu hd hi]
theorem three_boxesS (W : World) (c1 c2 c3 : Array Value) (t1 t2 t3 : TypeId) : ∃ w0, Hid (((W.alloc (.cells c1 t1)).alloc (.cells c2 t2)).alloc (.cells c3 t3) = w0) ∧ Hid (w0.heap[W.heap.size]? = some (.cells c1 t1 (0, 0))) ∧ Hid (w0.heap[W.heap.size + 1]? = some (.cells c2 t2 (0, 0))) ∧ Hid (w0.heap[W.heap.size + 1 + 1]? = some (.cells c3 t3 (0, 0))) ∧ Hid (Below W.heap.size W w0) ∧ Hid (w0.heap.size = W.heap.size + 3) := by
 obtain ⟨w1, H1, H2, H3, H4⟩ := two_boxesS W c1 c2 t1 t2
 have hs : w1.heap.size = W.heap.size + 1 + 1 := by rw [← H1.out]; simp
 refine ⟨w1.alloc (.cells c3 t3), by show _ = _; rw [H1.out], blk_alloc H2.out, blk_alloc H3.out, ?_, H4.out.alloc H4.out.size _, by show _ = _; simp [hs]⟩
 have h := heap_alloc_new w1 (.cells c3 t3)
 rw [hs] at h
 exact h
theorem right_parts {t : Tr} (h : vldN t = 0) : inB t = true ∧ isRootB t = true ∧ shpT t = true ∧ nmsT t = true ∧ idsT t = true := by
 unfold vldN at h
 split at h
 · omega
 · rename_i h1
   split at h
   · omega
   · rename_i h2
     split at h
     · omega
     · rename_i h3
       simp only [not_or, Bool.not_eq_false] at h1 h2 h3
       exact ⟨h1, h2.1, h2.2, h3.1, h3.2⟩
structure Er3 (W : World) (eb es en : TypeId × Value) : Prop where
 b : W.cell? ⟨0, 0, none⟩ = some (.iface eb.1 eb.2)
 s : W.cell? ⟨1, 0, none⟩ = some (.iface es.1 es.2)
 n : W.cell? ⟨5, 0, none⟩ = some (.iface en.1 en.2)
theorem Er3.keep {W w' : World} {eb es en : TypeId × Value} (h : Er3 W eb es en) (hb : Below W.heap.size W w') : Er3 w' eb es en :=
 ⟨(hb.cell (World.block_lt_of_cell? W _ h.b)).trans h.b, (hb.cell (World.block_lt_of_cell? W _ h.s)).trans h.s, (hb.cell (World.block_lt_of_cell? W _ h.n)).trans h.n⟩
def lfI (ts : List Tr) : List Int := (ts.filter fun x => !(x.kind == 0)).map Tr.id
theorem lfI_app (xs ys : List Tr) : lfI (xs ++ ys) = lfI xs ++ lfI ys := by simp [lfI]
theorem lfI_one (t : Tr) : lfI [t] = if t.kind = 0 then [] else [t.id] := by
 by_cases h : t.kind = 0
 · simp [lfI, h]
 · simp [lfI, h]
theorem lfI_len (ts : List Tr) : (lfI ts).length ≤ ts.length := by
 unfold lfI
 rw [List.length_map]
 exact List.length_filter_le _ _
theorem fl_nd (t : Tr) (k : Nat) (hc : t.cnt ≤ 2000) (hd : t.Dp k) (hk : k ≤ 100) : (fl t).map Pc.t = ndT t := by
 have h := flT_pre t [] 1 (-1) k (by simpa using hc) hd (by omega)
 unfold fl
 rw [h]
 simp only [List.nil_append, List.length_nil]
 exact preT_map t 0 1 (-1)
theorem nd_in : ∀ (n : Nat) (t : Tr), SizeOf.sizeOf t < n → ∀ x ∈ ndT t, x.cnt ≤ t.cnt ∧ (∀ k, t.Dp k → x.Dp k) ∧ (t.Sm → x.Sm)
 | 0, t, h => absurd h (Nat.not_lt_zero _)
 | n + 1, t, hsz => fun x hx => by
  rw [ndT_eq] at hx
  rcases List.mem_cons.1 hx with rfl | hx
  · exact ⟨Nat.le_refl _, fun _ h => h, fun h => h⟩
  · have hm : ∀ (ts : List Tr), x ∈ ndL ts → ∃ y ∈ ts, x ∈ ndT y := fun ts => by
      induction ts with
      | nil => simp [ndL]
      | cons y ys ih =>
       rw [ndL, List.mem_append]
       rintro (h | h)
       · exact ⟨y, by simp, h⟩
       · obtain ⟨z, h1, h2⟩ := ih h
         exact ⟨z, by simp [h1], h2⟩
    obtain ⟨y, hy, hx⟩ := hm _ hx
    obtain ⟨j, hj, rfl⟩ := List.getElem_of_mem hy
    obtain ⟨h1, h2, h3⟩ := nd_in n t.sub[j] (by have := t.sub_size j hj; omega) x hx
    have hcn : t.sub[j].cnt + 1 ≤ t.cnt := by
     rw [Tr.cnt_eq t]
     have h : ∀ (ts : List Tr) (j : Nat) (hj : j < ts.length), ts[j].cnt ≤ cntL ts := fun ts => by
      induction ts with
      | nil => intro j hj; simp at hj
      | cons x xs ih =>
       intro j hj
       rw [cntL]
       cases j with
       | zero => simp
       | succ j => have := ih j (by simpa using hj); simp; omega
     have := h t.sub j hj
     omega
    refine ⟨by omega, fun k hk => ?_, fun h => h3 (h.at_ j hj)⟩
    cases k with
    | zero => exact absurd hk.pos (Nat.lt_irrefl _)
    | succ k => exact dp_up (h2 k (hk.at_ j hj))
where
 dp_up {x : Tr} {k : Nat} (h : x.Dp k) : x.Dp (k + 1) := by
  induction h with
  | mk n id nm rep kind sub h ih => exact .mk _ _ _ _ _ _ ih
mutual
def fpT (p : List Tr) : Tr → List (List Tr)
 | .node id nm rep kind sub => (p ++ [.node id nm rep kind sub]) :: fpL (p ++ [.node id nm rep kind sub]) sub
def fpL (p : List Tr) : List Tr → List (List Tr)
 | [] => []
 | t :: ts => fpT p t ++ fpL p ts
end
theorem fpT_eq (p : List Tr) (t : Tr) : fpT p t = (p ++ [t]) :: fpL (p ++ [t]) t.sub := by
 cases t with
 | node id nm rep kind sub => rw [fpT]; rfl
theorem fpL_mem (p : List Tr) : ∀ (ts : List Tr) (f : List Tr), f ∈ fpL p ts ↔ ∃ t ∈ ts, f ∈ fpT p t
 | [], f => by simp [fpL]
 | t :: ts, f => by
  rw [fpL, List.mem_append, fpL_mem p ts f]
  simp
theorem ndL_mem : ∀ (ts : List Tr) (x : Tr), x ∈ ndL ts ↔ ∃ t ∈ ts, x ∈ ndT t
 | [], x => by simp [ndL]
 | t :: ts, x => by
  rw [ndL, List.mem_append, ndL_mem ts x]
  simp
theorem nd_self (t : Tr) : t ∈ ndT t := by rw [ndT_eq]; simp
theorem nd_sub {t c x : Tr} (hc : c ∈ t.sub) (hx : x ∈ ndT c) : x ∈ ndT t := by
 rw [ndT_eq]
 exact List.mem_cons_of_mem _ ((ndL_mem _ _).2 ⟨c, hc, hx⟩)
theorem sub_lt {t c : Tr} (hc : c ∈ t.sub) : SizeOf.sizeOf c < SizeOf.sizeOf t := by
 obtain ⟨j, hj, rfl⟩ := List.getElem_of_mem hc
 exact t.sub_size j hj
theorem nd_trans : ∀ (n : Nat) (t : Tr), SizeOf.sizeOf t < n → ∀ y ∈ ndT t, ∀ x ∈ ndT y, x ∈ ndT t
 | 0, t, h => absurd h (Nat.not_lt_zero _)
 | n + 1, t, hsz => fun y hy x hx => by
  rw [ndT_eq] at hy
  rcases List.mem_cons.1 hy with rfl | hy
  · exact hx
  · obtain ⟨c, hc, hy⟩ := (ndL_mem _ _).1 hy
    exact nd_sub hc (nd_trans n c (by have := sub_lt hc; omega) y hy x hx)
theorem nd_size : ∀ (n : Nat) (t : Tr), SizeOf.sizeOf t < n → ∀ y ∈ ndT t, y = t ∨ SizeOf.sizeOf y < SizeOf.sizeOf t
 | 0, t, h => absurd h (Nat.not_lt_zero _)
 | n + 1, t, hsz => fun y hy => by
  rw [ndT_eq] at hy
  rcases List.mem_cons.1 hy with rfl | hy
  · exact .inl rfl
  · obtain ⟨c, hc, hy⟩ := (ndL_mem _ _).1 hy
    have h1 := sub_lt hc
    rcases nd_size n c (by omega) y hy with rfl | h2
    · exact .inr h1
    · exact .inr (by omega)
theorem fpT_ahead : ∀ (n : Nat) (t : Tr), SizeOf.sizeOf t < n → ∀ (p : List Tr) (f : List Tr), f ∈ fpT p t ↔ ∃ g ∈ fpT [] t, f = p ++ g
 | 0, t, h => absurd h (Nat.not_lt_zero _)
 | n + 1, t, hsz => fun p f => by
  rw [fpT_eq, fpT_eq]
  simp only [List.mem_cons, List.nil_append, fpL_mem]
  constructor
  · rintro (rfl | ⟨c, hc, hf⟩)
    · exact ⟨[t], .inl rfl, rfl⟩
    · obtain ⟨g, hg, rfl⟩ := (fpT_ahead n c (by have := sub_lt hc; omega) _ f).1 hf
      exact ⟨[t] ++ g, .inr ⟨c, hc, (fpT_ahead n c (by have := sub_lt hc; omega) _ _).2 ⟨g, hg, rfl⟩⟩, by simp⟩
  · rintro ⟨g, rfl | ⟨c, hc, hg⟩, rfl⟩
    · exact .inl rfl
    · obtain ⟨g', hg', rfl⟩ := (fpT_ahead n c (by have := sub_lt hc; omega) _ g).1 hg
      exact .inr ⟨c, hc, (fpT_ahead n c (by have := sub_lt hc; omega) _ _).2 ⟨g', hg', by simp⟩⟩
theorem fp_chain : ∀ (n : Nat) (t : Tr), SizeOf.sizeOf t < n → ∀ f ∈ fpT [] t, (∀ y ∈ f, y ∈ ndT t) ∧ (∀ y ∈ f, ∀ z ∈ f, z ∈ ndT y ∨ y ∈ ndT z) ∧ ∃ m ∈ f, ∀ y ∈ f, m ∈ ndT y
 | 0, t, h => absurd h (Nat.not_lt_zero _)
 | n + 1, t, hsz => fun f hf => by
  rw [fpT_eq] at hf
  simp only [List.mem_cons, List.nil_append, fpL_mem] at hf
  rcases hf with rfl | ⟨c, hc, hf⟩
  · simp only [List.mem_singleton]
    exact ⟨fun y h => by rw [h]; exact nd_self t, fun y h z h' => by rw [h, h']; exact .inl (nd_self t), t, rfl, fun y h => by rw [h]; exact nd_self t⟩
  · have hlt : SizeOf.sizeOf c < n := by have := sub_lt hc; omega
    obtain ⟨g, hg, rfl⟩ := (fpT_ahead n c hlt _ f).1 hf
    obtain ⟨h1, h2, m, hm, h3⟩ := fp_chain n c hlt g hg
    refine ⟨fun y hy => ?_, fun y hy z hz => ?_, m, by simp [hm], fun y hy => ?_⟩
    · rcases List.mem_cons.1 hy with rfl | hy
      · exact nd_self _
      · exact nd_sub hc (h1 y hy)
    · rcases List.mem_cons.1 hy with rfl | hy1
      · rcases List.mem_cons.1 hz with rfl | hz1
        · exact .inl (nd_self _)
        · exact .inl (nd_sub hc (h1 z hz1))
      · rcases List.mem_cons.1 hz with rfl | hz1
        · exact .inr (nd_sub hc (h1 y hy1))
        · exact h2 y hy1 z hz1
    · rcases List.mem_cons.1 hy with rfl | hy
      · exact nd_sub hc (h1 m hm)
      · exact h3 y hy
def IdU (t : Tr) : Prop := ((ndT t).map Tr.id).Nodup
theorem IdU.eq {t x y : Tr} (h : IdU t) (hx : x ∈ ndT t) (hy : y ∈ ndT t) (e : x.id = y.id) : x = y := by
 obtain ⟨i, hi, rfl⟩ := List.getElem_of_mem hx
 obtain ⟨j, hj, rfl⟩ := List.getElem_of_mem hy
 have hij : i = j := by
  unfold IdU at h
  rw [List.nodup_iff_pairwise_ne, List.pairwise_iff_getElem] at h
  rcases Nat.lt_trichotomy i j with hlt | he | hlt
  · have h2 := h i j (by rw [List.length_map]; exact hi) (by rw [List.length_map]; exact hj) hlt
    rw [List.getElem_map, List.getElem_map] at h2
    exact absurd e h2
  · exact he
  · have h2 := h j i (by rw [List.length_map]; exact hj) (by rw [List.length_map]; exact hi) hlt
    rw [List.getElem_map, List.getElem_map] at h2
    exact absurd e.symm h2
 subst hij
 rfl
theorem IdU.sub {t c : Tr} (h : IdU t) (hc : c ∈ t.sub) : IdU c := by
 unfold IdU at h ⊢
 rw [ndT_eq, List.map_cons, List.nodup_cons] at h
 have : ∀ (ts : List Tr), c ∈ ts → ((ndL ts).map Tr.id).Nodup → ((ndT c).map Tr.id).Nodup := fun ts => by
  induction ts with
  | nil => simp
  | cons x xs ih =>
   intro hm hn
   rw [ndL, List.map_append, List.nodup_append] at hn
   rcases List.mem_cons.1 hm with rfl | hm
   · exact hn.1
   · exact ih hm hn.2.1
 exact this _ hc h.2
theorem IdU.apart {t c c' x : Tr} (h : IdU t) (hc : c ∈ t.sub) (hc' : c' ∈ t.sub) (hx : x ∈ ndT c) (hx' : x ∈ ndT c') : c = c' := by
 unfold IdU at h
 rw [ndT_eq, List.map_cons, List.nodup_cons] at h
 have : ∀ (ts : List Tr), c ∈ ts → c' ∈ ts → ((ndL ts).map Tr.id).Nodup → c = c' := fun ts => by
  induction ts with
  | nil => simp
  | cons y ys ih =>
   intro hm hm' hn
   rw [ndL, List.map_append, List.nodup_append] at hn
   rcases List.mem_cons.1 hm with e1 | hm1
   · rcases List.mem_cons.1 hm' with e2 | hm2
     · rw [e1, e2]
     · rw [e1] at hx
       exact absurd rfl (hn.2.2 x.id (List.mem_map_of_mem hx) x.id (List.mem_map_of_mem ((ndL_mem _ _).2 ⟨c', hm2, hx'⟩)))
   · rcases List.mem_cons.1 hm' with e2 | hm2
     · rw [e2] at hx'
       exact absurd rfl (hn.2.2 x.id (List.mem_map_of_mem hx') x.id (List.mem_map_of_mem ((ndL_mem _ _).2 ⟨c, hm1, hx⟩)))
     · exact ih hm1 hm2 hn.2.1
 exact this _ hc hc' h.2
theorem fp_all : ∀ (n : Nat) (t : Tr), SizeOf.sizeOf t < n → IdU t → ∀ m ∈ ndT t, ∃ f ∈ fpT [] t, ∀ y ∈ ndT t, m ∈ ndT y → y ∈ f
 | 0, t, h => absurd h (Nat.not_lt_zero _)
 | n + 1, t, hsz => fun hu m hm => by
  rw [ndT_eq] at hm
  rcases List.mem_cons.1 hm with rfl | hm
  · refine ⟨[m], by rw [fpT_eq]; simp, fun y hy hmy => ?_⟩
    rcases nd_size _ m (Nat.lt_succ_self _) y hy with rfl | h1
    · simp
    · rcases nd_size _ y (Nat.lt_succ_self _) m hmy with rfl | h2
      · simp
      · omega
  · obtain ⟨c, hc, hmc⟩ := (ndL_mem _ _).1 hm
    have hlt : SizeOf.sizeOf c < n := by have := sub_lt hc; omega
    obtain ⟨f, hf, hall⟩ := fp_all n c hlt (hu.sub hc) m hmc
    refine ⟨[t] ++ f, ?_, fun y hy hmy => ?_⟩
    · rw [fpT_eq]
      simp only [List.nil_append, List.mem_cons, fpL_mem]
      exact .inr ⟨c, hc, (fpT_ahead n c hlt _ _).2 ⟨f, hf, rfl⟩⟩
    · rw [ndT_eq] at hy
      rcases List.mem_cons.1 hy with rfl | hy
      · simp
      · obtain ⟨c', hc', hyc⟩ := (ndL_mem _ _).1 hy
        have e := hu.apart hc hc' hmc (nd_trans _ c' (Nat.lt_succ_self _) y hyc m hmy)
        subst e
        exact List.mem_append_right _ (hall y hyc hmy)
def onF (q : List Int) (f : List Tr) : List Int := if f.any (fun y => q.contains y.id) then f.map Tr.id else []
def stayI (q : List Int) (t : Tr) : List Int := (fpT [] t).flatMap (onF q)
def HasLf (t : Tr) : Prop := ∀ y ∈ ndT t, ∃ l ∈ ndT y, l.kind ≠ 0
def askL (q : List Int) (t : Tr) : List Int := q.flatMap fun i => match (ndT t).find? (fun y => y.id == i) with | some x => lfI (ndT x) | none => []
theorem lfI_mem {ts : List Tr} {i : Int} : i ∈ lfI ts ↔ ∃ l ∈ ts, l.kind ≠ 0 ∧ l.id = i := by
 unfold lfI
 simp [List.mem_map, List.mem_filter]
 constructor
 · rintro ⟨l, ⟨h1, h2⟩, h3⟩; exact ⟨l, h1, h2, h3⟩
 · rintro ⟨l, h1, h2, h3⟩; exact ⟨l, ⟨h1, h2⟩, h3⟩
theorem askL_mem {q : List Int} {t : Tr} {i : Int} (hu : IdU t) : i ∈ askL q t ↔ ∃ z ∈ ndT t, z.id ∈ q ∧ ∃ l ∈ ndT z, l.kind ≠ 0 ∧ l.id = i := by
 unfold askL
 rw [List.mem_flatMap]
 constructor
 · rintro ⟨k, hk, hi⟩
   cases hf : (ndT t).find? (fun y => y.id == k) with
   | none => rw [hf] at hi; simp at hi
   | some x =>
    rw [hf] at hi
    have hx := List.mem_of_find?_eq_some hf
    have hk2 : x.id = k := by have := List.find?_some hf; simpa using this
    exact ⟨x, hx, by rw [hk2]; exact hk, lfI_mem.1 hi⟩
 · rintro ⟨z, hz, hq, hl⟩
   refine ⟨z.id, hq, ?_⟩
   cases hf : (ndT t).find? (fun y => y.id == z.id) with
   | none =>
    rw [List.find?_eq_none] at hf
    have := hf z hz
    simp at this
   | some x =>
    have hx := List.mem_of_find?_eq_some hf
    have hk2 : x.id = z.id := by have := List.find?_some hf; simpa using this
    rw [hu.eq hx hz hk2]
    exact lfI_mem.2 hl
theorem stay_iff {q : List Int} {t : Tr} (hu : IdU t) (hlf : HasLf t) (y : Tr) (hy : y ∈ ndT t) : y.id ∈ stayI q t ↔ ∃ l ∈ lfI (ndT y), l ∈ askL q t := by
 unfold stayI
 rw [List.mem_flatMap]
 constructor
 · rintro ⟨f, hf, hm⟩
   unfold onF at hm
   split at hm
   · rename_i hany
     obtain ⟨h1, h2, m, hmf, h3⟩ := fp_chain _ t (Nat.lt_succ_self _) f hf
     obtain ⟨y', hy', e⟩ := List.mem_map.1 hm
     obtain rfl := hu.eq (h1 y' hy') hy e
     obtain ⟨z, hz, hzq⟩ := List.any_eq_true.1 hany
     have hzq2 : z.id ∈ q := by simpa using hzq
     rcases h2 y' hy' z hz with h | h
     · obtain ⟨l, hl, hk⟩ := hlf z (h1 z hz)
       exact ⟨l.id, lfI_mem.2 ⟨l, nd_trans _ y' (Nat.lt_succ_self _) z h l hl, hk, rfl⟩, (askL_mem hu).2 ⟨z, h1 z hz, hzq2, l, hl, hk, rfl⟩⟩
     · obtain ⟨l, hl, hk⟩ := hlf y' hy
       exact ⟨l.id, lfI_mem.2 ⟨l, hl, hk, rfl⟩, (askL_mem hu).2 ⟨z, h1 z hz, hzq2, l, nd_trans _ z (Nat.lt_succ_self _) y' h l hl, hk, rfl⟩⟩
   · simp at hm
 · rintro ⟨i, hi, hq⟩
   obtain ⟨l, hl, hk, rfl⟩ := lfI_mem.1 hi
   obtain ⟨z, hz, hzq, l', hl', hk', e⟩ := (askL_mem hu).1 hq
   have hlt : l ∈ ndT t := nd_trans _ t (Nat.lt_succ_self _) y hy l hl
   have hlt' : l' ∈ ndT t := nd_trans _ t (Nat.lt_succ_self _) z hz l' hl'
   obtain rfl := hu.eq hlt' hlt e
   obtain ⟨f, hf, hall⟩ := fp_all _ t (Nat.lt_succ_self _) hu l' hlt
   refine ⟨f, hf, ?_⟩
   unfold onF
   rw [if_pos (List.any_eq_true.2 ⟨z, hall z hz hl', by simpa using hzq⟩)]
   exact List.mem_map_of_mem (hall y hy hl)
mutual
def kpT (K : Int → Bool) : Tr → Tr
 | .node id nm rep kind sub => .node id nm rep kind (kpL K sub)
def kpL (K : Int → Bool) : List Tr → List Tr
 | [] => []
 | t :: ts => if K t.id = true then kpT K t :: kpL K ts else kpL K ts
end
mutual
def rkT (L : List Int) : Tr → Tr
 | .node id nm rep kind sub => .node id nm rep kind (rkL L sub)
def rkL (L : List Int) : List Tr → List Tr
 | [] => []
 | t :: ts => if (lfI (ndT t)).any (fun i => L.contains i) = true then rkT L t :: rkL L ts else rkL L ts
end
theorem kp_rk {q : List Int} {r : Tr} (hu : IdU r) (hlf : HasLf r) : ∀ (n : Nat) (t : Tr), SizeOf.sizeOf t < n → (∀ x ∈ ndT t, x ∈ ndT r) → kpT (fun i => (stayI q r).contains i) t = rkT (askL q r) t
 | 0, t, h => absurd h (Nat.not_lt_zero _)
 | n + 1, .node id nm rep kind sub, hsz => fun hin => by
  rw [kpT, rkT]
  congr 1
  have h : ∀ (ts : List Tr), (∀ c ∈ ts, c ∈ sub) → kpL (fun i => (stayI q r).contains i) ts = rkL (askL q r) ts := fun ts => by
   induction ts with
   | nil => intro _; rw [kpL, rkL]
   | cons c cs ih =>
    intro hcs
    have hc : c ∈ (Tr.node id nm rep kind sub).sub := hcs c (by simp)
    have hcr : c ∈ ndT r := hin c (nd_sub hc (nd_self c))
    have hlt : SizeOf.sizeOf c < n := by have := sub_lt hc; omega
    have e : ((stayI q r).contains c.id = true) ↔ ((lfI (ndT c)).any (fun i => (askL q r).contains i) = true) := by
     have h1 := stay_iff (q := q) hu hlf c hcr
     simpa [List.any_eq_true] using h1
    rw [kpL, rkL, ih (fun c' h => hcs c' (by simp [h])), kp_rk hu hlf n c hlt (fun x hx => hin x (nd_sub hc hx))]
    simp only [e]
  exact h sub (fun c h => h)
theorem right_idU {t : Tr} (hr : isRootB t = true) (hI : idsT t = true) : IdU t := by
 have hid : t.id = 0 := (of_decide_eq_true hr).1
 rw [ids_fl, chq_iff] at hI
 obtain ⟨hok, hpw, _⟩ := hI
 have hm := preL_map t.sub 1 2 0
 unfold IdU
 rw [ndT_eq, List.map_cons, List.nodup_cons, ← hm]
 constructor
 · intro h
   obtain ⟨x, hx, e⟩ := List.mem_map.1 h
   obtain ⟨p, hp, rfl⟩ := List.mem_map.1 hx
   have := hok p hp
   rw [idOkP, decide_eq_true_iff] at this
   omega
 · rw [List.map_map, List.nodup_iff_pairwise_ne, List.pairwise_map]
   refine hpw.imp ?_
   intro a b h
   rw [idBadP, decide_eq_false_iff_not] at h
   exact h
theorem right_hasLf {t : Tr} (hs : shpT t = true) : HasLf t := by
 rw [shp_all, Bool.and_eq_true] at hs
 have hall : ∀ y ∈ ndT t, shpOk y = true := fun y hy => by
  rw [ndT_eq] at hy
  rcases List.mem_cons.1 hy with rfl | hy
  · exact hs.1
  · exact List.all_eq_true.1 hs.2 y hy
 have h : ∀ (n : Nat) (y : Tr), SizeOf.sizeOf y < n → y ∈ ndT t → ∃ l ∈ ndT y, l.kind ≠ 0 := fun n => by
  induction n with
  | zero => intro y h; exact absurd h (Nat.not_lt_zero _)
  | succ n ih =>
   intro y hsz hy
   by_cases hk : y.kind = 0
   · have h1 := hall y hy
     have h2 : 0 < y.sub.length := by
      unfold shpOk at h1
      simp [hk] at h1
      first | omega | (have := h1; simp at this; omega)
     have hc : y.sub[0] ∈ y.sub := List.getElem_mem h2
     obtain ⟨l, hl, hlk⟩ := ih y.sub[0] (by have := sub_lt hc; omega) (nd_trans _ t (Nat.lt_succ_self _) y hy _ (nd_sub hc (nd_self _)))
     exact ⟨l, nd_sub hc hl, hlk⟩
   · exact ⟨y, nd_self y, hk⟩
 exact fun y hy => h _ y (Nat.lt_succ_self _) hy
theorem rkT_id (L : List Int) (t : Tr) : (rkT L t).id = t.id ∧ (rkT L t).nm = t.nm ∧ (rkT L t).rep = t.rep ∧ (rkT L t).kind = t.kind ∧ (rkT L t).sub = rkL L t.sub := by
 cases t with
 | node id nm rep kind sub => rw [rkT]; exact ⟨rfl, rfl, rfl, rfl, rfl⟩
theorem rkL_app (L : List Int) : ∀ (xs ys : List Tr), rkL L (xs ++ ys) = rkL L xs ++ rkL L ys
 | [], ys => by simp [rkL]
 | x :: xs, ys => by
  rw [List.cons_append, rkL, rkL, rkL_app L xs ys]
  split <;> simp
theorem rkL_take (L : List Int) (ts : List Tr) (i : Nat) (h : i < ts.length) : rkL L (ts.take (i + 1)) = rkL L (ts.take i) ++ (if (lfI (ndT ts[i])).any (fun i => L.contains i) = true then [rkT L ts[i]] else []) := by
 rw [List.take_succ_eq_append_getElem h, rkL_app, rkL, rkL]
theorem rkL_len (L : List Int) : ∀ (ts : List Tr), (rkL L ts).length ≤ ts.length
 | [] => by simp [rkL]
 | t :: ts => by
  have := rkL_len L ts
  rw [rkL]
  split <;> simp <;> omega
def LfOk (t : Tr) : Prop := ∀ y ∈ ndT t, y.kind ≠ 0 → y.sub = []
theorem LfOk.sub {t c : Tr} (h : LfOk t) (hc : c ∈ t.sub) : LfOk c := fun y hy hk => h y (nd_sub hc hy) hk
theorem lfI_nd (t : Tr) : lfI (ndT t) = (if t.kind = 0 then [] else [t.id]) ++ lfI (ndL t.sub) := by
 rw [ndT_eq, show t :: ndL t.sub = [t] ++ ndL t.sub from rfl, lfI_app, lfI_one]
def kept (L : List Int) (y : Tr) : Bool := (lfI (ndT y)).any (fun i => L.contains i)
theorem kept_in {L : List Int} {y c : Tr} (h : y ∈ ndT c) (hk : kept L y = true) : kept L c = true := by
 obtain ⟨i, hi, hc⟩ := List.any_eq_true.1 hk
 obtain ⟨l, hl, hlk, hli⟩ := lfI_mem.1 hi
 exact List.any_eq_true.2 ⟨i, lfI_mem.2 ⟨l, nd_trans _ c (Nat.lt_succ_self _) y h l hl, hlk, hli⟩, hc⟩
theorem rkL_cons (L : List Int) (c : Tr) (ts : List Tr) : rkL L (c :: ts) = if kept L c = true then rkT L c :: rkL L ts else rkL L ts := by
 rw [rkL]
 rfl
theorem rkL_filter (L : List Int) : ∀ (ts : List Tr), rkL L ts = (ts.filter (kept L)).map (rkT L)
 | [] => by simp [rkL]
 | c :: ts => by
  rw [rkL_cons, rkL_filter L ts]
  cases h : kept L c with
  | true => rw [if_pos rfl, List.filter_cons_of_pos h, List.map_cons]
  | false => rw [if_neg (by simp), List.filter_cons_of_neg (by rw [h]; simp)]
theorem rk_nd (L : List Int) : ∀ (n : Nat) (ts : List Tr), SizeOf.sizeOf ts < n → ndL (rkL L ts) = ((ndL ts).filter (kept L)).map (rkT L)
 | 0, ts, h => absurd h (Nat.not_lt_zero _)
 | n + 1, [], hsz => by simp [rkL, ndL]
 | n + 1, .node id nm rep kind sub :: ts, hsz => by
  have ih := rk_nd L n ts (by simp at hsz; omega)
  have ih2 := rk_nd L n sub (by simp at hsz; omega)
  have hT : ndT (.node id nm rep kind sub) = .node id nm rep kind sub :: ndL sub := ndT_eq _
  rw [ndL, List.filter_append, List.map_append, ← ih, rkL_cons]
  cases h : kept L (.node id nm rep kind sub) with
  | true =>
   rw [if_pos rfl, ndL, hT, List.filter_cons_of_pos h, List.map_cons, ← ih2]
   rw [ndT_eq, (rkT_id L (.node id nm rep kind sub)).2.2.2.2]
   rfl
  | false =>
   rw [if_neg (by simp)]
   have hn : (ndT (.node id nm rep kind sub)).filter (kept L) = [] := by
    rw [List.filter_eq_nil_iff]
    intro y hy hk
    rw [kept_in hy hk] at h
    cases h
   rw [hn]
   rfl
theorem rk_ndT (L : List Int) (t : Tr) : ndT (rkT L t) = rkT L t :: ((ndL t.sub).filter (kept L)).map (rkT L) := by
 rw [ndT_eq, (rkT_id L t).2.2.2.2, rk_nd L _ t.sub (Nat.lt_succ_self _)]
theorem rk_ids (L : List Int) (t : Tr) : (ndT (rkT L t)).map Tr.id = t.id :: ((ndL t.sub).filter (kept L)).map Tr.id := by
 rw [rk_ndT, List.map_cons, (rkT_id L t).1, List.map_map]
 congr 1
 exact List.map_congr_left fun y _ => (rkT_id L y).1
theorem rk_idU {L : List Int} {t : Tr} (h : IdU t) : IdU (rkT L t) := by
 unfold IdU at h ⊢
 rw [rk_ids]
 rw [ndT_eq, List.map_cons] at h
 exact List.Nodup.sublist (List.Sublist.cons_cons _ (List.Sublist.map _ List.filter_sublist)) h
end Go.Proofs.YteonbmaokphleaaGreatDoor
