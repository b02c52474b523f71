/-
  schema.pathTo, of whatever nodes around, none too.
  schema.idsOf, schema.staying: the numbers of all nodes; of those that stay.
  schema.staying: the numbers of the nodes that stay.
-/
import Derived.Test.YteonbmaokphleaaGreatDoorHPathTo
import Derived.Test.YteonbmaokphleaaGreatDoorHAppAny
import Derived.Test.YteonbmaokphleaaGreatDoorHBIds
import Derived.Test.YteonbmaokphleaaGreatDoorHBWalkP
import Derived.Deep.Cut
namespace Go.Proofs.YteonbmaokphleaaGreatDoor
open Go.RowKit
theorem LiesN.rowX {W : World} {P : Nat → Prop} {pa : Option Addr} {ts : List Tr} (h : LiesN W P pa ts) : ∃ ncs : List (List Value), ncs.length = ts.length ∧ (∀ x ∈ ncs, x.length = 5) ∧ (∀ j u, ncs.flatten[j]? = some u → ∃ a, pa = some a ∧ W.cell? (a.add j) = some u) ∧ (∀ j (h : j < ts.length) (h' : j < ncs.length), NodeC W P ts[j] ncs[j]) := by
 cases ts with
 | nil => exact ⟨[], rfl, fun x hx => by simp at hx, fun j u hu => by simp at hu, fun j h => absurd h (by simp)⟩
 | cons t ts =>
  obtain ⟨F, h1, h2⟩ := h
  obtain ⟨b, o, _, _, _, _, _, e, _⟩ := h1 0 (by simp)
  subst e
  obtain ⟨ncs, q1, q2, q3, q4⟩ := LiesN.row ⟨F, h1, h2⟩
  exact ⟨ncs, q1, q2, fun j u hu => ⟨_, rfl, q3 j u hu⟩, q4⟩
set_option maxRecDepth 100000 in
set_option maxHeartbeats 1600000 in
theorem concatX_any (W : World) (sb k c g2 : Nat) (ad : Option Addr) (xs ys : List Value) (h0 : W.cell? ⟨sb, 0, none⟩ = some (.slice ad k c)) (h1 : W.cell? ⟨sb, 1, none⟩ = some (.slice (some ⟨g2, 0, none⟩) 1 1))
    (hx : xs.length = k * 5) (hy : ys.length = 5) (hxs : ∀ j u, xs[j]? = some u → ∃ a, ad = some a ∧ W.cell? (a.add j) = some u) (hys : ∀ j u, ys[j]? = some u → W.cell? ((⟨g2, 0, none⟩ : Addr).add j) = some u)
    (ox : ∀ u ∈ xs, u.oneCell' = true) (oy : ∀ u ∈ ys, u.oneCell' = true) (hk : k ≤ 1100000) :
    Calls Tryz.prog (102) #[.slice (some ⟨sb, 0, none⟩) 2 2] W fun e w' => (∃ v, e = .returned v ∧ w'.ownsRow W.heap.size 24 5 v (k + 1) (xs ++ ys)) ∧ Below W.heap.size W w' := by
 obtain ⟨iv, hvi, hv0, hv1, hv2⟩ := info_parts Tryz.infoN
 have HX : Hid _ := hxs
 have HY : Hid _ := hys
 have H0 : Hid _ := h0
 have H1 : Hid _ := h1
 have HG : Hid _ := grow_any (k + 1) ((k : Int) + 1) (by omega) (by omega) (by omega) W
 clear hxs hys
 go_enter Tryz.func102, Tryz.ntmps102
 go_wp2
 refine wp_loop_rounds 3 ?_
 rw [rounds_succ]
 go_wp2
 rw [rounds_succ]
 go_wp2
 rw [rounds_succ]
 go_wp2_with fail
 refine Calls.mono HG.out ?_
 rintro e w1 ⟨⟨cap, rfl, hown1⟩, hb1⟩
 have HO1 : Hid (w1.ownsRow W.heap.size 24 5 (.slice (some ⟨W.heap.size, 0, none⟩) 0 cap) 0 []) := hown1
 have HB1 : Hid _ := hb1
 have k0 := (hb1.cell (World.block_lt_of_cell? W _ h0)).trans h0
 clear hown1 h0 h1 HG
 go_wp2
 refine wp_loop_rounds 3 ?_
 rw [rounds_succ]
 go_wp2_with (at_builtin; refine wpList_append_any _ rfl _ _ 22 rfl W.heap.size 24 iv (.agg #[.int .i64 0, .string ⟨#[]⟩, .int .i64 0, .int .i64 0, .slice none 0 0]) 5 64 Tryz.underlying22 hvi hv0 hv1 hv2 rfl (by decide) _ 0 [] rfl HO1.out ad k c xs rfl hx (fun j u hu => (by obtain ⟨a, e, h⟩ := HX.out j u hu; exact ⟨a, e, (HB1.out.cell (World.block_lt_of_cell? W _ h)).trans h⟩)) ox (by unfold maxLen; omega) (by omega) HB1.out.size ?_; intro v2 w2 hown2 hgrow2 _; have hb2 : Below W.heap.size W w2 := below_own HB1.out (Nat.le_refl _) HO1.out hgrow2; have k1 := (hb2.cell (World.block_lt_of_cell? W _ H1.out)).trans H1.out)
 have HO2 : Hid (w2.ownsRow W.heap.size 24 5 v2 k xs) := (by show World.ownsRow _ _ _ _ _ _ _; simpa using hown2)
 have HB2 : Hid _ := hb2
 clear hown2 hgrow2 hb2
 rw [rounds_succ]
 go_wp2_with (at_builtin; refine wpList_append_own _ rfl _ _ 22 rfl W.heap.size 24 iv (.agg #[.int .i64 0, .string ⟨#[]⟩, .int .i64 0, .int .i64 0, .slice none 0 0]) 5 64 Tryz.underlying22 hvi hv0 hv1 hv2 rfl (by decide) _ k xs rfl HO2.out ⟨g2, 0, none⟩ 1 1 ys rfl hy (fun j u hu => (HB2.out.cell (World.block_lt_of_cell? W _ (HY.out j u hu))).trans (HY.out j u hu)) oy (by unfold maxLen; omega) (by omega) HB2.out.size ?_; intro v3 w3 hown3 hgrow3 _)
 have HB3 : Hid (Below W.heap.size W w3) := below_own HB2.out (Nat.le_refl _) HO2.out hgrow3
 have HO3 : Hid (w3.ownsRow W.heap.size 24 5 v3 (k + 1) (xs ++ ys)) := hown3
 clear hown3 hgrow3
 rw [rounds_succ]
 go_wp2
 go_ret
 exact ⟨⟨_, rfl, HO3.out⟩, HB3.out⟩
set_option maxRecDepth 100000 in
set_option maxHeartbeats 1600000 in
theorem pathToX_any (t : Tr) (a : Option Addr) (c : Nat) (hc : t.sub.length ≤ c) (path : List Tr) (pa : Option Addr) (vc : Nat) (hn : path.length ≤ 1100000) (P : Nat → Prop) (W : World) (hl : LiesN W P a t.sub) (hp : LiesN W P pa path) :
    Calls Tryz.prog 67 #[nodeV t a c, .slice pa path.length vc] W fun e w' => (∃ a' c', e = .returned (.slice a' (path.length + 1) c') ∧ LiesN w' (fun b => P b ∨ W.heap.size ≤ b) a' (path ++ [t])) ∧ Below W.heap.size W w' := by
 obtain ⟨ncs, hn1, hn2, hn3, hn4⟩ := hp.rowX
 have hb3 : Below W.heap.size W (((W.alloc (.cells #[.int .i64 t.id, .string t.nm, .int .i64 t.rep, .int .i64 t.kind, .slice a t.sub.length c] 24)).alloc (.cells #[.int .i64 t.id, .string t.nm, .int .i64 t.rep, .int .i64 t.kind, .slice a t.sub.length c] 24)).alloc (.cells #[.slice pa path.length vc, .slice (some ⟨W.heap.size + 1, 0, none⟩) 1 1] 22)) := (((Below.refl _ _).alloc (Nat.le_refl _) _).alloc (by simp) _).alloc (by simp; omega) _
 have hfl : ncs.flatten.length = path.length * 5 := by rw [flat5_len ncs hn2, hn1]
 have HC : Hid _ := concatX_any (((W.alloc (.cells #[.int .i64 t.id, .string t.nm, .int .i64 t.rep, .int .i64 t.kind, .slice a t.sub.length c] 24)).alloc (.cells #[.int .i64 t.id, .string t.nm, .int .i64 t.rep, .int .i64 t.kind, .slice a t.sub.length c] 24)).alloc (.cells #[.slice pa path.length vc, .slice (some ⟨W.heap.size + 1, 0, none⟩) 1 1] 22)) (W.heap.size + 2) path.length vc (W.heap.size + 1) pa ncs.flatten [.int .i64 t.id, .string t.nm, .int .i64 t.rep, .int .i64 t.kind, .slice a t.sub.length c]
  (cell_alloc_at rfl (by simp)) (cell_alloc_at rfl (by simp)) hfl rfl
  (fun j u hu => (by obtain ⟨a, e, h⟩ := hn3 j u hu; exact ⟨a, e, (hb3.cell (World.block_lt_of_cell? W _ h)).trans h⟩))
  (fun j u hu => by
   have h5 := five_cells (w := W.alloc (.cells #[.int .i64 t.id, .string t.nm, .int .i64 t.rep, .int .i64 t.kind, .slice a t.sub.length c] 24)) (T := 24) j u hu
   rw [show (W.alloc (.cells #[.int .i64 t.id, .string t.nm, .int .i64 t.rep, .int .i64 t.kind, .slice a t.sub.length c] 24)).heap.size = W.heap.size + 1 by simp] at h5
   exact (((Below.refl _ _).alloc (Nat.le_refl _) _).cell (World.block_lt_of_cell? _ _ h5)).trans h5)
  (fun u hu => by
   obtain ⟨x, hx, hux⟩ := List.mem_flatten.1 hu
   obtain ⟨j, hj, rfl⟩ := List.getElem_of_mem hx
   exact (hn4 j (by omega) hj).ones u hux)
  (node_ones _ _ _ _ _ _ _) hn
 have HB : Hid _ := hb3
 have HE : Hid (∀ w' v, Below W.heap.size W w' → w'.ownsRow (W.heap.size + 3) 24 5 v (path.length + 1) (ncs.flatten ++ [.int .i64 t.id, .string t.nm, .int .i64 t.rep, .int .i64 t.kind, .slice a t.sub.length c]) → ∃ a' c', v = .slice a' (path.length + 1) c' ∧ LiesN w' (fun b => P b ∨ W.heap.size ≤ b) a' (path ++ [t])) := fun w' v hbw hown => by
  obtain ⟨a', c', h1, _, h3⟩ := lies_of_row (P := fun b => P b ∨ W.heap.size ≤ b) (ts := path ++ [t]) (ncs := ncs ++ [[.int .i64 t.id, .string t.nm, .int .i64 t.rep, .int .i64 t.kind, .slice a t.sub.length c]]) (n := path.length + 1) (by simp) (by simpa using hown) (by simp [hn1]) (fun x hx => by
   rcases List.mem_append.1 hx with hx | hx
   · exact hn2 x hx
   · rw [List.mem_singleton.1 hx]; rfl) (fun j hj hj' => by
   by_cases h : j < path.length
   · rw [List.getElem_append_left h, List.getElem_append_left (by omega)]
     exact (hn4 j h (by omega)).stay (fun _ h _ => .inl h) (fun b _ h => hbw.block b h)
   · have hj2 : j = path.length := by simp at hj; omega
     subst hj2
     rw [List.getElem_append_right (by omega), List.getElem_append_right (by omega)]
     simp only [hn1, Nat.sub_self, List.getElem_cons_zero]
     exact NodeC.join c hc (hl.stay (fun _ h _ => .inl h) (fun b _ h => hbw.block b h))) (fun k hk => .inr (by have := (own_block hown hk).1; omega))
  exact ⟨a', c', by simpa using h1, h3⟩
 clear hl hp hn1 hn2 hn3 hn4 hb3 hfl
 go_enter Tryz.func67, Tryz.ntmps67
 go_wp2_with fail
 refine Calls.mono HC.out ?_
 rintro e w1 ⟨⟨v, rfl, hown⟩, hb1⟩
 have HB1 : Hid (Below W.heap.size W w1) := HB.out.trans (hb1.mono HB.out.size)
 have HO : Hid _ := HE.out w1 v HB1.out (by simpa using hown)
 clear hown hb1 HC HE
 obtain ⟨a', c', rfl, hl'⟩ := HO.out
 have HL' : Hid _ := hl'
 clear hl' HO
 go_wp2
 go_ret
 exact ⟨⟨a', c', rfl, HL'.out⟩, HB1.out⟩
end Go.Proofs.YteonbmaokphleaaGreatDoor
namespace Go.Proofs.YteonbmaokphleaaGreatDoor
open Go.RowKit Go.Maps
def stN (s : List Int) (_ : List Tr) (t : Tr) : Bool × List Int := (true, s ++ [t.id])
mutual
theorem wkN_T : ∀ (t : Tr) (s : List Int) (path : List Tr), wkT stN s path t = (true, s ++ (ndT t).map Tr.id)
 | .node i nm rep kind sub, s, path => by
  rw [wkT, stN, if_pos rfl, wkN_L sub, ndT_eq]
  simp [Tr.sub]
theorem wkN_L : ∀ (ts : List Tr) (s : List Int) (path : List Tr), wkL stN s path ts = (true, s ++ (ndL ts).map Tr.id)
 | [], s, path => by simp [wkL, ndL]
 | t :: ts, s, path => by
  rw [wkL, ndL, wkN_T t s path, if_pos rfl, wkN_L ts]
  simp
end
structure NumI (g mb : Nat) (acc : List Int) (W : World) : Prop where
 cell : W.heap[g]? = some (.cells #[.map (some mb)] 116 (0, 0))
 set : SetI mb acc W
theorem SetI.blk {mb : Nat} {acc : List Int} {W w' : World} (h : SetI mb acc W) (hb : w'.heap[mb]? = W.heap[mb]?) : SetI mb acc w' := by
 obtain ⟨h1, es, clock, h2, h3⟩ := h
 exact ⟨h1, es, clock, hb.trans h2, h3⟩
theorem SetI.lt {mb : Nat} {acc : List Int} {W : World} (h : SetI mb acc W) : mb < W.heap.size := by
 obtain ⟨h1, es, clock, h2, h3⟩ := h
 exact lt_of_block h2
theorem SetI.ne {mb g : Nat} {acc : List Int} {W : World} {cs : Array Value} {e : TypeId} {z : Nat × Nat} (h : SetI mb acc W) (hg : W.heap[g]? = some (.cells cs e z)) : g ≠ mb := by
 rintro rfl
 obtain ⟨_, es, clock, h2, _⟩ := h
 rw [hg] at h2
 cases h2
set_option maxRecDepth 100000 in
set_option maxHeartbeats 1600000 in
theorem idsOf1_any (g mb B Bw : Nat) (hg : g < Bw) (hmb : mb < Bw) (hmB : B ≤ mb) (acc : List Int) (hacc : acc.length < 1000000) (path : List Tr) (t : Tr) (a : Option Addr) (c : Nat) (v : Value) (W : World) (hs : t.Sm) (hi : NumI g mb acc W) (hp : PathR W B Bw v path) (hbw : Bw ≤ W.heap.size) :
    Calls Tryz.prog 84 #[nodeV t a c, v, .pointer (some ⟨g, 0, none⟩)] W fun e w' => e = .returned (.bool (stN acc path t).1) ∧ ((stN acc path t).1 = true → NumI g mb (stN acc path t).2 w') ∧ ((stN acc path t).1 = false → True) ∧ VFr B Bw W w' := by
 obtain ⟨va, vc, rfl⟩ := hp.shape
 have hid := hs.id_
 obtain ⟨w0, HW0, HX, HB0⟩ := one_box W #[.int .i64 t.id, .string t.nm, .int .i64 t.rep, .int .i64 t.kind, .slice a t.sub.length c] 24
 have HI : Hid (NumI g mb acc w0) := ⟨blk_keep HB0.out hi.cell, hi.set.keep HB0.out⟩
 have HA : Hid _ := add_any mb acc t.id hid hacc w0 HI.out.set
 obtain ⟨c0, f0⟩ := row_one HI.out.cell
 obtain ⟨⟨p0, p1, p2, p3, p4⟩, _⟩ := row_five HX.out
 have hsz := HB0.out.size
 clear hp hi hs
 unfold nodeV
 go_enter Tryz.func84, Tryz.ntmps84
 go_upto_region 1 with fail
 rw [HW0.out]
 go_wp2_with fail
 refine Calls.mono HA.out ?_
 rintro e w2 ⟨rfl, hset, hg2⟩
 have HG2 : Hid (NumI g mb (acc ++ [t.id]) w2) := ⟨(hg2.block g (by omega) (by simp; exact HI.out.set.ne HI.out.cell)).trans HI.out.cell, hset⟩
 have HV : Hid (VFr B Bw W w2) := (VFr.of_below HB0.out (by omega)).trans ⟨⟨hg2.os, hg2.tape, hg2.output, hg2.size, fun k hk => hg2.block k (by omega) (by simp; omega)⟩, fun k h1 h2 h3 => hg2.block k h2 (by simp; omega)⟩
 clear hset hg2 c0 f0 p0 p1 p2 p3 p4
 go_wp2
 go_ret
 exact ⟨rfl, fun _ => HG2.out, fun h => by simp [stN] at h, HV.out⟩
set_option maxRecDepth 100000 in
set_option maxHeartbeats 1600000 in
theorem idsOf_any (t : Tr) (n : Nat) (hd : t.Dp n) (hn : n ≤ 1100000) (hs : t.Sm) (hc : t.cnt ≤ 1000) (a : Option Addr) (c : Nat) (P : Nat → Prop) (W : World) (hl : LiesN W P a t.sub) (hcap : t.sub.length ≤ c) :
    Calls Tryz.prog 55 #[nodeV t a c] W fun e w' => (∃ mb, e = .returned (.map (some mb)) ∧ SetI mb ((ndT t).map Tr.id) w' ∧ W.heap.size ≤ mb) ∧ Below W.heap.size W w' := by
 have hmm := @run_makeMap Tryz.prog
 have hb : Below W.heap.size W (((W.alloc (.cells #[.int .i64 t.id, .string t.nm, .int .i64 t.rep, .int .i64 t.kind, .slice a t.sub.length c] 24)).alloc (.map #[] 0)).alloc (.cells #[.map (some (W.heap.size + 1))] 116)) := (((Below.refl _ _).alloc (Nat.le_refl _) _).alloc (by simp) _).alloc (by simp; omega) _
 have hset : SetI (W.heap.size + 1) [] (((W.alloc (.cells #[.int .i64 t.id, .string t.nm, .int .i64 t.rep, .int .i64 t.kind, .slice a t.sub.length c] 24)).alloc (.map #[] 0)).alloc (.cells #[.map (some (W.heap.size + 1))] 116)) := ⟨by simp, by
  have h := World.ownsMap_made (W.alloc (.cells #[.int .i64 t.id, .string t.nm, .int .i64 t.rep, .int .i64 t.kind, .slice a t.sub.length c] 24)) Tryz.prog 3 (unitElem (H := Unit))
  rw [show (W.alloc (.cells #[.int .i64 t.id, .string t.nm, .int .i64 t.rep, .int .i64 t.kind, .slice a t.sub.length c] 24)).heap.size = W.heap.size + 1 by simp] at h
  exact h.alloc _⟩
 have hcell : (((W.alloc (.cells #[.int .i64 t.id, .string t.nm, .int .i64 t.rep, .int .i64 t.kind, .slice a t.sub.length c] 24)).alloc (.map #[] 0)).alloc (.cells #[.map (some (W.heap.size + 1))] 116)).heap[W.heap.size + 2]? = some (.cells #[.map (some (W.heap.size + 1))] 116 (0, 0)) := by
  have h := heap_alloc_new ((W.alloc (.cells #[.int .i64 t.id, .string t.nm, .int .i64 t.rep, .int .i64 t.kind, .slice a t.sub.length c] 24)).alloc (.map #[] 0)) (.cells #[.map (some (W.heap.size + 1))] 116)
  rwa [show ((W.alloc (.cells #[.int .i64 t.id, .string t.nm, .int .i64 t.rep, .int .i64 t.kind, .slice a t.sub.length c] 24)).alloc (.map #[] 0)).heap.size = W.heap.size + 2 by simp] at h
 have HC : Hid _ := wkN_any stN (NumI (W.heap.size + 2) (W.heap.size + 1)) (fun _ _ => True) (fun _ _ => True) (fun s => s.length) 1000 (W.heap.size + 2) W.heap.size (W.heap.size + 3) (by omega)
  (fun s W' w' r hi hg hr => ⟨(hg.block _ (lt_of_block hi.cell) (fun e => by have := (hr _ e.symm).1; omega)).trans hi.cell, hi.set.blk (hg.block _ hi.set.lt (fun e => by have := (hr _ e.symm).1; omega))⟩)
  (fun _ _ _ _ _ => trivial) (fun s path t => by simp [stN])
  (fun s path t a c v W' _ hm h1 h2 h3 hcap h4 h5 => idsOf1_any (W.heap.size + 2) (W.heap.size + 1) W.heap.size (W.heap.size + 3) (by omega) (by omega) (by omega) s (by omega) path t a c v W' h4 h1 h2 h5)
  n t hd hs [] [] a c (.slice none 0 0) _ trivial (by simpa using hc) (by simp; omega)
  ⟨hcell, hset⟩ (PathR.nil _ _ _) (hl.stay (fun b _ h => h) (fun b _ h => hb.block b h)) hcap (by simp)
 have HB : Hid _ := hb
 clear hl hd hs hb hset hcell
 unfold nodeV at *
 go_enter Tryz.func55, Tryz.ntmps55
 go_wp2_with fail
 refine Calls.mono HC.out ?_
 rintro e w1 ⟨rfl, hi, _, hf, _⟩
 rw [wkN_T] at hi
 have hi2 := hi rfl
 rw [List.nil_append] at hi2
 have HF : Hid (Below W.heap.size W w1) := HB.out.trans hf.below
 have HS : Hid (SetI (W.heap.size + 1) ((ndT t).map Tr.id) w1) := hi2.set
 obtain ⟨c0, _⟩ := row_one hi2.cell
 clear hf hi hi2
 go_wp2
 go_ret
 exact ⟨⟨_, rfl, HS.out, by omega⟩, HF.out⟩
def stYp (q : List Int) (s : Nat × List Int) (path : List Tr) (t : Tr) : Bool × (Nat × List Int) := (true, (s.1 + 1, s.2 ++ onF q (path ++ [t])))
mutual
theorem wkYp_T (q : List Int) : ∀ (t : Tr) (s : Nat × List Int) (path : List Tr), (wkT (stYp q) s path t).1 = true ∧ (wkT (stYp q) s path t).2.2 = s.2 ++ (fpT path t).flatMap (onF q)
 | .node i nm rep kind sub, s, path => by
  rw [wkT, fpT, if_pos (show (stYp q s path (.node i nm rep kind sub)).1 = true from rfl)]
  have h := wkYp_L q sub (stYp q s path (.node i nm rep kind sub)).2 (path ++ [.node i nm rep kind sub])
  exact ⟨h.1, by rw [h.2]; simp [stYp]⟩
theorem wkYp_L (q : List Int) : ∀ (ts : List Tr) (s : Nat × List Int) (path : List Tr), (wkL (stYp q) s path ts).1 = true ∧ (wkL (stYp q) s path ts).2.2 = s.2 ++ (fpL path ts).flatMap (onF q)
 | [], s, path => by simp [wkL, fpL]
 | t :: ts, s, path => by
  have h1 := wkYp_T q t s path
  have h2 := wkYp_L q ts (wkT (stYp q) s path t).2 path
  rw [wkL, fpL, if_pos h1.1]
  exact ⟨h2.1, by rw [h2.2, h1.2]; simp⟩
end
theorem grown_trans {w w1 w2 : World} {r : Nat} (h1 : w.grownBy w1 (some r)) (h2 : w1.grownBy w2 (some r)) : w.grownBy w2 (some r) :=
 ⟨h2.os.trans h1.os, h2.tape.trans h1.tape, h2.output.trans h1.output, Nat.le_trans h1.size h2.size, fun k hk hne => (h2.block k (Nat.lt_of_lt_of_le hk h1.size) hne).trans (h1.block k hk hne)⟩
set_option maxRecDepth 100000 in
set_option maxHeartbeats 1600000 in
theorem isAsked_any (qb : Nat) (q : List Int) (g : Nat) (y : Tr) (a : Option Addr) (c : Nat) (hid : -9223372036854775808 ≤ y.id ∧ y.id ≤ 9223372036854775807) (W : World) (hg : W.heap[g]? = some (.cells #[.map (some qb)] 116 (0, 0))) (hs : SetI qb q W) :
    Calls Tryz.prog 87 #[.agg #[.int .i64 y.id, .string y.nm, .int .i64 y.rep, .int .i64 y.kind, .slice a y.sub.length c], .pointer (some ⟨g, 0, none⟩)] W fun e w' => e = .returned (.bool (q.contains y.id)) ∧ Below W.heap.size W w' := by
 obtain ⟨w0, HW0, HX, HB⟩ := one_box W #[.int .i64 y.id, .string y.nm, .int .i64 y.rep, .int .i64 y.kind, .slice a y.sub.length c] 24
 have HC : Hid _ := has_any qb q y.id hid w0 (hs.keep HB.out)
 obtain ⟨bb, HBb⟩ := hid_name (q.contains y.id)
 rw [HBb.out] at HC
 obtain ⟨c0, _⟩ := row_one (blk_keep HB.out hg)
 obtain ⟨⟨p0, p1, p2, p3, p4⟩, _⟩ := row_five HX.out
 clear hg hs
 go_enter Tryz.func87, Tryz.ntmps87
 go_upto_region 1 with fail
 rw [HW0.out]
 go_wp2_with fail
 refine Calls.mono HC.out ?_
 rintro e w1 ⟨rfl, hb1⟩
 have HB1 : Hid (Below W.heap.size W w1) := HB.out.trans (hb1.mono HB.out.size)
 clear hb1
 go_wp2
 go_ret
 exact ⟨by rw [HBb.out]; rfl, HB1.out⟩
set_option maxRecDepth 100000 in
set_option maxHeartbeats 1600000 in
theorem idxY_any (qb : Nat) (q : List Int) (g : Nat) (P : Nat → Prop) (a : Option Addr) (c : Nat) (ts : List Tr) (hn : ts.length ≤ 1048576) (hsm : ∀ y ∈ ts, y.Sm) (W : World) (hg : W.heap[g]? = some (.cells #[.map (some qb)] 116 (0, 0))) (hs : SetI qb q W) (hl : LiesN W P a ts) :
    Calls Tryz.prog (71) #[.slice a ts.length c, .func (.func 87) #[] #[.pointer (some ⟨g, 0, none⟩)]] W fun e w' => (∃ r, e = .returned (.int .i64 r) ∧ Idx (fun t => q.contains t.id) ts r) ∧ Below W.heap.size W w' := by
 have HL : Hid (LiesN W P a ts) := hl
 have HG : Hid (W.heap[g]? = some (.cells #[.map (some qb)] 116 (0, 0))) := hg
 have HS : Hid (SetI qb q W) := hs
 have HSm : Hid (∀ y ∈ ts, y.Sm) := hsm
 clear hl hg hs hsm
 go_enter Tryz.func71, Tryz.ntmps71
 go_wp2
 go_loopw [8] (fun x wr => ∃ i : Nat, i ≤ ts.length ∧ x = .int .i64 i ∧ Hid (∀ j (h : j < ts.length), j < i → (q.contains ts[j].id) = false) ∧ Below W.heap.size W wr) (fun x _ => ts.length - (intOf x).toNat)
 case atStart => exact ⟨0, Nat.zero_le _, rfl, fun j _ h => absurd h (Nat.not_lt_zero _), Below.refl _ _⟩
 case round =>
  obtain ⟨i, hi, rfl, HA, hb⟩ := hrel
  have HB : Hid _ := hb
  by_cases hlt : i < ts.length
  · obtain ⟨b, o, a1, c1, rfl, d0, d1, d2, d3, d4, hl1⟩ := (HL.out.keep hb).at_ i hlt
    clear hl1
    have HC : Hid _ := isAsked_any qb q g ts[i] a1 c1 (HSm.out _ (List.getElem_mem hlt)).id_ wr (blk_keep hb HG.out) (HS.out.keep hb)
    clear hb
    go_wp2_with fail
    refine Calls.mono HC.out ?_
    rintro e w1 ⟨rfl, hb1⟩
    have HB1 : Hid (Below W.heap.size W w1) := HB.out.trans (hb1.mono HB.out.size)
    clear hb1
    cases hq : (q.contains ts[i].id) with
    | true =>
     have HQ : Hid _ := hq
     clear hq
     go_wp2
     go_ret
     exact ⟨⟨(i : Int), rfl, .inr ⟨i, hlt, rfl, HQ.out, fun j h => HA.out j (by omega) h⟩⟩, HB1.out⟩
    | false =>
     have HN : Hid (∀ j (h : j < ts.length), j < i + 1 → (q.contains ts[j].id) = false) := fun j h hj => by
      by_cases e : j = i
      · subst e; exact hq
      · exact HA.out j h (by omega)
     clear hq
     go_wp2
     go_roundw
     case rel => exact ⟨i + 1, by omega, by go_num, HN, HB1⟩
     case measure => simp [intOf]; omega
  · obtain rfl : i = ts.length := by omega
    go_wp2
    go_ret
    exact ⟨⟨-1, rfl, .inl ⟨rfl, fun j h => HA.out j h h⟩⟩, hb⟩
set_option maxRecDepth 100000 in
set_option maxHeartbeats 1600000 in
theorem containsY_any (qb : Nat) (q : List Int) (g : Nat) (P : Nat → Prop) (a : Option Addr) (k c : Nat) (ts : List Tr) (hn : ts.length ≤ 1048576) (hk : k = ts.length) (hsm : ∀ y ∈ ts, y.Sm) (W : World) (hg : W.heap[g]? = some (.cells #[.map (some qb)] 116 (0, 0))) (hs : SetI qb q W) (hl : LiesN W P a ts) :
    Calls Tryz.prog (86) #[.slice a k c, .func (.func 87) #[] #[.pointer (some ⟨g, 0, none⟩)]] W fun e w' => e = .returned (.bool (ts.any fun t => q.contains t.id)) ∧ Below W.heap.size W w' := by
 subst hk
 have HC : Hid _ := idxY_any qb q g P a c ts hn hsm W hg hs hl
 clear hg hl hs hsm
 go_enter Tryz.func86, Tryz.ntmps86
 go_wp2_with fail
 refine Calls.mono HC.out ?_
 rintro e w1 ⟨⟨r, rfl, hr⟩, hb⟩
 have HR : Hid _ := hr.any
 have HB : Hid _ := hb
 clear hr hb
 go_wp2
 go_ret
 exact ⟨by rw [← HR.out]; rfl, HB.out⟩
structure YI (g0 qb : Nat) (q : List Int) (g1 mb : Nat) (s : Nat × List Int) (W : World) : Prop where
 c0 : W.heap[g0]? = some (.cells #[.map (some qb)] 116 (0, 0))
 asked : SetI qb q W
 c1 : W.heap[g1]? = some (.cells #[.map (some mb)] 116 (0, 0))
 set : SetI mb s.2 W
 len : s.2.length ≤ 1001 * s.1
 ne : qb ≠ mb
theorem YI.stay {g0 qb : Nat} {q : List Int} {g1 mb : Nat} {s : Nat × List Int} {W w' : World} (h : YI g0 qb q g1 mb s W) (h0 : w'.heap[g0]? = W.heap[g0]?) (h1 : w'.heap[qb]? = W.heap[qb]?) (h2 : w'.heap[g1]? = W.heap[g1]?) (h3 : w'.heap[mb]? = W.heap[mb]?) : YI g0 qb q g1 mb s w' :=
 ⟨h0.trans h.c0, h.asked.blk h1, h2.trans h.c1, h.set.blk h3, h.len, h.ne⟩
set_option maxRecDepth 100000 in
set_option maxHeartbeats 3200000 in
theorem staying1_any (g0 qb : Nat) (q : List Int) (g1 mb B Bw : Nat) (hg0 : g0 < Bw) (hg1 : g1 < Bw) (hqb : qb < Bw) (hmb : mb < Bw) (hmB : B ≤ mb) (s : Nat × List Int) (hs1 : s.1 ≤ 900) (path : List Tr) (t : Tr) (hps : ∀ y ∈ path ++ [t], y.Sm) (hpl : path.length ≤ 1000) (a : Option Addr) (c : Nat) (v : Value) (W : World) (hi : YI g0 qb q g1 mb s W) (hp : PathR W B Bw v path) (hl : LiesN W (fun b => b < B) a t.sub) (hcap : t.sub.length ≤ c) (hbw : Bw ≤ W.heap.size) :
    Calls Tryz.prog 85 #[nodeV t a c, v, .pointer (some ⟨g0, 0, none⟩), .pointer (some ⟨g1, 0, none⟩)] W fun e w' => e = .returned (.bool (stYp q s path t).1) ∧ ((stYp q s path t).1 = true → YI g0 qb q g1 mb (stYp q s path t).2 w') ∧ ((stYp q s path t).1 = false → True) ∧ VFr B Bw W w' := by
 obtain ⟨ncs, hn1, hn2, hn3, hn4⟩ := hp
 obtain ⟨pa, vc, rfl, _, hpl2⟩ := lies_of_row (P := fun b => b ≠ mb) (ts := path) rfl hn3 hn1 hn2 (fun j hj hj' => (hn4 j hj hj').stay (fun b h _ => by omega) (fun _ _ _ => rfl)) (fun k hk => by have := (own_block hn3 hk).1; omega)
 obtain ⟨w0, HW0, HX, HB0⟩ := one_box W #[.int .i64 t.id, .string t.nm, .int .i64 t.rep, .int .i64 t.kind, .slice a t.sub.length c] 24
 have hsz0 := HB0.out.size
 have HP : Hid _ := pathToX_any t a c hcap path pa vc (by omega) (fun b => b ≠ mb) w0 (hl.stay (fun b h _ => by omega) (fun b _ h => HB0.out.block b h)) (hpl2.keep HB0.out)
 have HI : Hid (YI g0 qb q g1 mb s W) := hi
 have HPs : Hid (∀ y ∈ path ++ [t], y.Sm) := hps
 have hlen := hi.len
 obtain ⟨⟨p0, p1, p2, p3, p4⟩, _⟩ := row_five HX.out
 clear hn1 hn2 hn3 hn4 hl hi hps hpl2
 unfold nodeV at *
 go_enter Tryz.func85, Tryz.ntmps85
 go_upto_region 1 with fail
 rw [HW0.out]
 go_wp2_with fail
 refine Calls.mono HP.out ?_
 rintro e w1 ⟨⟨a', c', rfl, hl1⟩, hb1⟩
 have HB1 : Hid (Below W.heap.size W w1) := HB0.out.trans (hb1.mono HB0.out.size)
 have hsz1 := HB1.out.size
 have HL1 : Hid (LiesN w1 (fun b => b ≠ mb) a' (path ++ [t])) := hl1.stay (fun b h _ => h.elim (fun h => h) (fun h => by omega)) (fun _ _ _ => rfl)
 have HI1 : Hid (YI g0 qb q g1 mb s w1) := HI.out.stay (HB1.out.block _ (by omega)) (HB1.out.block _ (by omega)) (HB1.out.block _ (by omega)) (HB1.out.block _ (by omega))
 have HC : Hid _ := containsY_any qb q g0 _ a' (path.length + 1) c' (path ++ [t]) (by simp; omega) (by simp) HPs.out w1 HI1.out.c0 HI1.out.asked HL1.out
 clear hl1 hb1 HP p0 p1 p2 p3 p4
 obtain ⟨fs, HFs⟩ := hid_name (path ++ [t])
 have hfl : fs.length = path.length + 1 := by rw [← HFs.out]; simp
 rw [HFs.out] at HC HL1 HPs
 go_wp2_with fail
 refine Calls.mono HC.out ?_
 rintro e w2 ⟨rfl, hb2⟩
 have HB2 : Hid (Below W.heap.size W w2) := HB1.out.trans (hb2.mono HB1.out.size)
 have hsz2 := HB2.out.size
 have HI2 : Hid (YI g0 qb q g1 mb s w2) := HI.out.stay (HB2.out.block _ (by omega)) (HB2.out.block _ (by omega)) (HB2.out.block _ (by omega)) (HB2.out.block _ (by omega))
 have HL2 : Hid (LiesN w2 (fun b => b ≠ mb) a' fs) := HL1.out.keep hb2
 clear hb2 HC
 cases hany : (fs.any fun t => q.contains t.id) with
 | false =>
  have HE : Hid (stYp q s path t = (true, (s.1 + 1, s.2))) := (by
   show _ = _
   rw [stYp, HFs.out, onF, hany]
   simp)
  clear hany
  go_wp2
  go_ret
  rw [HE.out]
  exact ⟨rfl, fun _ => ⟨HI2.out.c0, HI2.out.asked, HI2.out.c1, HI2.out.set, by show s.2.length ≤ 1001 * (s.1 + 1); omega, HI2.out.ne⟩, fun h => by simp at h, VFr.of_below HB2.out (by omega)⟩
 | true =>
  have HE : Hid (stYp q s path t = (true, (s.1 + 1, s.2 ++ fs.map Tr.id))) := (by
   show _ = _
   rw [stYp, HFs.out, onF, hany]
   simp)
  clear hany
  have hgm := HI2.out.set.ne HI2.out.c1
  have hgm0 := HI2.out.set.ne HI2.out.c0
  have hqm := HI2.out.ne
  go_wp2_with fail
  go_loopw [18] (fun x wr => ∃ i : Nat, i ≤ fs.length ∧ x = .int .i64 i ∧ Hid (SetI mb (s.2 ++ (fs.take i).map Tr.id) wr) ∧ Hid (w2.grownBy wr (some mb))) (fun x _ => fs.length - (intOf x).toNat)
  case atStart => exact ⟨0, Nat.zero_le _, rfl, by rw [List.take_zero, List.map_nil, List.append_nil]; exact HI2.out.set, ⟨rfl, rfl, rfl, Nat.le_refl _, fun _ _ _ => rfl⟩⟩
  case round =>
   obtain ⟨i, hik, rfl, HSt, HGr⟩ := hrel
   have hgs := HGr.out.size
   by_cases hlt : i < fs.length
   · obtain ⟨b, o, a1, c1, rfl, d0, d1, d2, d3, d4, hl1⟩ := (HL2.out.stay (W' := wr) (fun _ h _ => h) (fun b h hlt => HGr.out.block b hlt (by simpa using h))).at_ i hlt
     clear hl1
     obtain ⟨w3, HW3, HZ, HB3⟩ := one_box wr #[.int .i64 fs[i].id, .string fs[i].nm, .int .i64 fs[i].rep, .int .i64 fs[i].kind, .slice a1 fs[i].sub.length c1] 24
     have HG3 : Hid (w2.grownBy w3 (some mb)) := grown_trans HGr.out ⟨HB3.out.os, HB3.out.tape, HB3.out.output, HB3.out.size, fun k hk _ => HB3.out.block k hk⟩
     have HC3 : Hid (w3.heap[g1]? = some (.cells #[.map (some mb)] 116 (0, 0))) := (HG3.out.block g1 (by omega) (by simpa using hgm)).trans HI2.out.c1
     have HA : Hid _ := add_any mb (s.2 ++ (fs.take i).map Tr.id) fs[i].id (HPs.out _ (List.getElem_mem hlt)).id_ (by simp; omega) w3 (HSt.out.keep HB3.out)
     have HTk : Hid (s.2 ++ (fs.take (i + 1)).map Tr.id = s.2 ++ (fs.take i).map Tr.id ++ [fs[i].id]) := (by show _ = _; rw [List.take_succ_eq_append_getElem hlt, List.map_append]; simp)
     obtain ⟨m0, _⟩ := row_one HC3.out
     obtain ⟨⟨z0, z1, z2, z3, z4⟩, _⟩ := row_five HZ.out
     go_upto_region 6 with fail
     rw [HW3.out]
     go_wp2_with fail
     refine Calls.mono HA.out ?_
     rintro e w4 ⟨rfl, hset, hg4⟩
     have HS4 : Hid (SetI mb (s.2 ++ (fs.take (i + 1)).map Tr.id) w4) := (by show SetI _ _ _; rw [HTk.out]; exact hset)
     have HG4 : Hid (w2.grownBy w4 (some mb)) := grown_trans HG3.out hg4
     clear hset hg4
     go_wp2
     go_roundw
     case rel => exact ⟨i + 1, by omega, by go_num, HS4, HG4⟩
     case measure => simp [intOf]; omega
   · obtain rfl : i = fs.length := by omega
     have HS9 : Hid (SetI mb (s.2 ++ fs.map Tr.id) wr) := (by have h := HSt.out; rw [List.take_length] at h; exact h)
     have HV : Hid (VFr B Bw W wr) := (VFr.of_below HB2.out (by omega)).trans ⟨⟨HGr.out.os, HGr.out.tape, HGr.out.output, HGr.out.size, fun k hk => HGr.out.block k (by omega) (by simp; omega)⟩, fun k h1 h2 h3 => HGr.out.block k h2 (by simp; omega)⟩
     go_wp2
     go_ret
     rw [HE.out]
     refine ⟨rfl, fun _ => ⟨(HGr.out.block g0 (by omega) (by simpa using hgm0)).trans HI2.out.c0, HI2.out.asked.blk (HGr.out.block qb (by omega) (by simpa using hqm)), (HGr.out.block g1 (by omega) (by simpa using hgm)).trans HI2.out.c1, HS9.out, ?_, hqm⟩, fun h => by simp at h, HV.out⟩
     show (s.2 ++ fs.map Tr.id).length ≤ 1001 * (s.1 + 1)
     simp
     omega
end Go.Proofs.YteonbmaokphleaaGreatDoor
