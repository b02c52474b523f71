/-
  slices.Grow and slices.Concat of nodes; schema.pathTo.
-/
import Derived.Test.YteonbmaokphleaaGreatDoorHBIds
import Derived.Lib.AppendZeros
import Derived.LoopN
namespace Go.Proofs.YteonbmaokphleaaGreatDoor
open Go.RowKit
theorem below_own {B : Nat} {w wr w1 : World} {v : Value} {e s n : Nat} {xs : List Value} (hb : Below B w wr) (hB : B ≤ w.heap.size) (hown : wr.ownsRow B e s v n xs) (hg : wr.grownBy w1 v.ownBlock) : Below B w w1 :=
 hb.grown hg (by have := hb.size; omega) (fun k hk => (own_block hown hk).1)
set_option maxRecDepth 100000 in
set_option maxHeartbeats 1600000 in
theorem grow_any (n : Nat) (m : Int) (hm : m = (n : Nat)) (h0 : 0 < n) (h1 : n ≤ 1200000) (W : World) :
    Calls Tryz.prog (126) #[.slice none 0 0, .int .i64 m] W fun e w' => (∃ cap, e = .returned (.slice (some ⟨W.heap.size, 0, none⟩) 0 cap) ∧ w'.ownsRow W.heap.size 24 5 (.slice (some ⟨W.heap.size, 0, none⟩) 0 cap) 0 []) ∧ Below W.heap.size W w' := by
 subst hm
 obtain ⟨iv, hvi, hv0, hv1, hv2⟩ := info_parts Tryz.infoN
 have HR : Hid _ := Lib.run_append_nil_zeros (P := Tryz.prog) W 22 3 22 24 iv _ .i64 .i64 Tryz.underlying22 Tryz.underlying3 hvi hv0 n h0 (by omega) (by omega) (by rw [hv2]; omega)
 have hge := grownCap_ge W n 0 24
 have HO : Hid ((W.drew.alloc (.cells (Builtin.zeroCells (Value.agg #[.int .i64 0, .string ⟨#[]⟩, .int .i64 0, .int .i64 0, .slice none 0 0]).cells n ++ Builtin.zeroCells (Value.agg #[.int .i64 0, .string ⟨#[]⟩, .int .i64 0, .int .i64 0, .slice none 0 0]).cells (grownCap W n 0 24 - n)) 24)).ownsRow W.heap.size 24 5 (.slice (some ⟨W.heap.size, 0, none⟩) 0 (grownCap W n 0 24)) 0 []) := by
  refine ⟨rfl, .inr ⟨W.heap.size, _, _, rfl, Nat.le_refl _, heap_alloc_new W.drew _, Nat.zero_le _, grownCap_le_maxLen W n 0 _ (by unfold maxLen; omega), ?_, by simp⟩⟩
  rw [Array.size_append, size_zeroCells, size_zeroCells]
  show n * 5 + (grownCap W n 0 24 - n) * 5 = grownCap W n 0 24 * 5
  omega
 clear hvi hv0 hv1 hv2
 go_enter Tryz.func126, Tryz.ntmps126
 go_wp2_with (at_builtin; refine Lib.wpList_append_run _ rfl _ _ 22 3 rfl _ _ rfl rfl _ _ HR.out ?_)
 go_ret
 exact ⟨⟨_, rfl, HO.out⟩, ((Below.refl _ _).alloc (Nat.le_refl _) _).drew⟩
theorem node_ones (x0 x2 x3 : Int) (x1 : ByteArray) (a : Option Addr) (n c : Nat) : ∀ u ∈ ([.int .i64 x0, .string x1, .int .i64 x2, .int .i64 x3, .slice a n c] : List Value), u.oneCell' = true := by
 intro u hu
 simp at hu
 rcases hu with rfl | rfl | rfl | rfl | rfl <;> rfl
set_option maxRecDepth 100000 in
set_option maxHeartbeats 1600000 in
theorem concat_any (W : World) (sb g o k c g2 : Nat) (xs ys : List Value) (h0 : W.cell? ⟨sb, 0, none⟩ = some (.slice (some ⟨g, o, none⟩) k c)) (h1 : W.cell? ⟨sb, 1, none⟩ = some (.slice (some ⟨g2, 0, none⟩) 1 1))
    (hx : xs.length = k * 5) (hy : ys.length = 5) (hxs : ∀ j u, xs[j]? = some u → W.cell? ((⟨g, o, none⟩ : Addr).add j) = some u) (hys : ∀ j u, ys[j]? = some u → W.cell? ((⟨g2, 0, none⟩ : Addr).add j) = some u)
    (ox : ∀ u ∈ xs, u.oneCell' = true) (oy : ∀ u ∈ ys, u.oneCell' = true) (hk : k ≤ 1100000) :
    Calls Tryz.prog (102) #[.slice (some ⟨sb, 0, none⟩) 2 2] W fun e w' => (∃ v, e = .returned v ∧ w'.ownsRow W.heap.size 24 5 v (k + 1) (xs ++ ys)) ∧ Below W.heap.size W w' := by
 obtain ⟨iv, hvi, hv0, hv1, hv2⟩ := info_parts Tryz.infoN
 have HX : Hid _ := hxs
 have HY : Hid _ := hys
 have H0 : Hid _ := h0
 have H1 : Hid _ := h1
 have HG : Hid _ := grow_any (k + 1) ((k : Int) + 1) (by omega) (by omega) (by omega) W
 clear hxs hys
 go_enter Tryz.func102, Tryz.ntmps102
 go_wp2
 refine wp_loop_rounds 3 ?_
 rw [rounds_succ]
 go_wp2
 rw [rounds_succ]
 go_wp2
 rw [rounds_succ]
 go_wp2_with fail
 refine Calls.mono HG.out ?_
 rintro e w1 ⟨⟨cap, rfl, hown1⟩, hb1⟩
 have HO1 : Hid (w1.ownsRow W.heap.size 24 5 (.slice (some ⟨W.heap.size, 0, none⟩) 0 cap) 0 []) := hown1
 have HB1 : Hid _ := hb1
 have k0 := (hb1.cell (World.block_lt_of_cell? W _ h0)).trans h0
 clear hown1 h0 h1 HG
 go_wp2
 refine wp_loop_rounds 3 ?_
 rw [rounds_succ]
 go_wp2_with (at_builtin; refine wpList_append_own _ rfl _ _ 22 rfl W.heap.size 24 iv (.agg #[.int .i64 0, .string ⟨#[]⟩, .int .i64 0, .int .i64 0, .slice none 0 0]) 5 64 Tryz.underlying22 hvi hv0 hv1 hv2 rfl (by decide) _ 0 [] rfl HO1.out ⟨g, o, none⟩ k c xs rfl hx (fun j u hu => (HB1.out.cell (World.block_lt_of_cell? W _ (HX.out j u hu))).trans (HX.out j u hu)) ox (by unfold maxLen; omega) (by omega) HB1.out.size ?_; intro v2 w2 hown2 hgrow2 _; have hb2 : Below W.heap.size W w2 := below_own HB1.out (Nat.le_refl _) HO1.out hgrow2; have k1 := (hb2.cell (World.block_lt_of_cell? W _ H1.out)).trans H1.out)
 have HO2 : Hid (w2.ownsRow W.heap.size 24 5 v2 k xs) := (by show World.ownsRow _ _ _ _ _ _ _; simpa using hown2)
 have HB2 : Hid _ := hb2
 clear hown2 hgrow2 hb2
 rw [rounds_succ]
 go_wp2_with (at_builtin; refine wpList_append_own _ rfl _ _ 22 rfl W.heap.size 24 iv (.agg #[.int .i64 0, .string ⟨#[]⟩, .int .i64 0, .int .i64 0, .slice none 0 0]) 5 64 Tryz.underlying22 hvi hv0 hv1 hv2 rfl (by decide) _ k xs rfl HO2.out ⟨g2, 0, none⟩ 1 1 ys rfl hy (fun j u hu => (HB2.out.cell (World.block_lt_of_cell? W _ (HY.out j u hu))).trans (HY.out j u hu)) oy (by unfold maxLen; omega) (by omega) HB2.out.size ?_; intro v3 w3 hown3 hgrow3 _)
 have HB3 : Hid (Below W.heap.size W w3) := below_own HB2.out (Nat.le_refl _) HO2.out hgrow3
 have HO3 : Hid (w3.ownsRow W.heap.size 24 5 v3 (k + 1) (xs ++ ys)) := hown3
 clear hown3 hgrow3
 rw [rounds_succ]
 go_wp2
 go_ret
 exact ⟨⟨_, rfl, HO3.out⟩, HB3.out⟩
theorem LiesN.row {W : World} {P : Nat → Prop} {b o : Nat} {ts : List Tr} (h : LiesN W P (some ⟨b, o, none⟩) ts) : ∃ ncs : List (List Value), ncs.length = ts.length ∧ (∀ x ∈ ncs, x.length = 5) ∧ (∀ j u, ncs.flatten[j]? = some u → W.cell? ((⟨b, o, none⟩ : Addr).add j) = some u) ∧ (∀ j (h : j < ts.length) (h' : j < ncs.length), NodeC W P ts[j] ncs[j]) := by
 obtain ⟨F, h1, h2⟩ := h
 refine ⟨(List.range ts.length).map F, by simp, fun x hx => ?_, fun j u hu => ?_, fun j hj hj' => ?_⟩
 · obtain ⟨i, hi, rfl⟩ := List.mem_map.1 hx
   exact (h2 i (by simpa using hi)).five
 · have h5 : ∀ x ∈ (List.range ts.length).map F, x.length = 5 := fun x hx => by
     obtain ⟨i, hi, rfl⟩ := List.mem_map.1 hx
     exact (h2 i (by simpa using hi)).five
   have e : j = j / 5 * 5 + j % 5 := by omega
   rw [e, flat5 _ h5 (j / 5) (j % 5) (by omega)] at hu
   by_cases hlt : j / 5 < ts.length
   · rw [List.getElem?_map, List.getElem?_range hlt] at hu
     simp only [Option.map_some, Option.bind_some] at hu
     obtain ⟨b', o', x0, x1, x2, x3, x4, ea, _, ecs, c0, c1, c2, c3, c4⟩ := h1 (j / 5) hlt
     injection ea with ea
     injection ea with eb eo _
     subst eb eo
     rw [ecs] at hu
     rw [addr_plus]
     have hm : j % 5 = 0 ∨ j % 5 = 1 ∨ j % 5 = 2 ∨ j % 5 = 3 ∨ j % 5 = 4 := by omega
     rcases hm with hm | hm | hm | hm | hm
     all_goals
      rw [hm] at hu e
      simp at hu
      subst hu
     · rw [show o + j = o + j / 5 * 5 by omega]; exact c0
     · rw [show o + j = o + j / 5 * 5 + 1 by omega]; exact c1
     · rw [show o + j = o + j / 5 * 5 + 2 by omega]; exact c2
     · rw [show o + j = o + j / 5 * 5 + 3 by omega]; exact c3
     · rw [show o + j = o + j / 5 * 5 + 4 by omega]; exact c4
   · rw [List.getElem?_map, List.getElem?_eq_none (by simp; omega)] at hu
     simp at hu
 · rw [List.getElem_map, List.getElem_range]
   exact h2 j hj
theorem lies_of_row {W : World} {P : Nat → Prop} {base n : Nat} {v : Value} {ts : List Tr} {ncs : List (List Value)} (hn : n = ts.length) (h : W.ownsRow base 24 5 v n ncs.flatten) (hl : ncs.length = ts.length) (h5 : ∀ x ∈ ncs, x.length = 5) (hc : ∀ j (h : j < ts.length) (h' : j < ncs.length), NodeC W P ts[j] ncs[j]) (hP : ∀ k, v.ownBlock = some k → P k) :
    ∃ a c, v = .slice a ts.length c ∧ ts.length ≤ c ∧ LiesN W P a ts := by
 subst hn
 rcases h.2 with ⟨rfl, h0⟩ | ⟨g, cap, cur, rfl, hbg, hg, hnc, rest⟩
 · refine ⟨none, 0, by rw [h0], by omega, fun _ => [], fun j hj => absurd hj (by omega), fun j hj => absurd hj (by omega)⟩
 · refine ⟨_, cap, rfl, hnc, fun j => ncs.getD j [], fun j hj => ?_, fun j hj => ?_⟩
   · have hjn : j < ncs.length := by omega
     have e : ncs.getD j [] = ncs[j] := by simp [List.getD, hjn]
     show NodeAt W P _ j (ncs.getD j [])
     rw [e]
     have h5j := h5 ncs[j] (List.getElem_mem hjn)
     have hcc : ∀ k u, ncs[j][k]? = some u → k < 5 → W.cell? ⟨g, j * 5 + k, none⟩ = some u := fun k u hu hk => by
      have h1 := h.cells (g := g) rfl (j * 5 + k) u (by rw [flat5 ncs h5 j k hk, List.getElem?_eq_getElem hjn]; exact hu)
      rw [addr_plus, Nat.zero_add] at h1
      exact h1
     generalize ncs[j] = cs at *
     match cs, h5j with
     | [x0, x1, x2, x3, x4], _ =>
      have c0 := hcc 0 x0 rfl (by omega)
      have c1 := hcc 1 x1 rfl (by omega)
      have c2 := hcc 2 x2 rfl (by omega)
      have c3 := hcc 3 x3 rfl (by omega)
      have c4 := hcc 4 x4 rfl (by omega)
      exact ⟨g, 0, x0, x1, x2, x3, x4, rfl, hP g rfl, rfl, by simpa using c0, by simpa using c1, by simpa using c2, by simpa using c3, by simpa using c4⟩
   · have hjn : j < ncs.length := by omega
     have e : ncs.getD j [] = ncs[j] := by simp [List.getD, hjn]
     show NodeC W P ts[j] (ncs.getD j [])
     rw [e]
     exact hc j hj hjn
theorem NodeC.ones {W : World} {P : Nat → Prop} {t : Tr} {cs : List Value} (h : NodeC W P t cs) : ∀ u ∈ cs, u.oneCell' = true := by
 obtain ⟨a, c, rfl, _⟩ := h.split
 exact node_ones _ _ _ _ _ _ _
set_option maxRecDepth 100000 in
set_option maxHeartbeats 1600000 in
theorem pathTo_any (t : Tr) (a : Option Addr) (c : Nat) (hc : t.sub.length ≤ c) (path : List Tr) (b o vc : Nat) (hn : path.length ≤ 1100000) (P : Nat → Prop) (W : World) (hl : LiesN W P a t.sub) (hp : LiesN W P (some ⟨b, o, none⟩) path) :
    Calls Tryz.prog 67 #[nodeV t a c, .slice (some ⟨b, o, none⟩) path.length vc] W fun e w' => (∃ a' c', e = .returned (.slice a' (path.length + 1) c') ∧ LiesN w' (fun b => P b ∨ W.heap.size ≤ b) a' (path ++ [t])) ∧ Below W.heap.size W w' := by
 obtain ⟨ncs, hn1, hn2, hn3, hn4⟩ := hp.row
 have hb3 : Below W.heap.size W (((W.alloc (.cells #[.int .i64 t.id, .string t.nm, .int .i64 t.rep, .int .i64 t.kind, .slice a t.sub.length c] 24)).alloc (.cells #[.int .i64 t.id, .string t.nm, .int .i64 t.rep, .int .i64 t.kind, .slice a t.sub.length c] 24)).alloc (.cells #[.slice (some ⟨b, o, none⟩) path.length vc, .slice (some ⟨W.heap.size + 1, 0, none⟩) 1 1] 22)) := (((Below.refl _ _).alloc (Nat.le_refl _) _).alloc (by simp) _).alloc (by simp; omega) _
 have hfl : ncs.flatten.length = path.length * 5 := by rw [flat5_len ncs hn2, hn1]
 have HC : Hid _ := concat_any (((W.alloc (.cells #[.int .i64 t.id, .string t.nm, .int .i64 t.rep, .int .i64 t.kind, .slice a t.sub.length c] 24)).alloc (.cells #[.int .i64 t.id, .string t.nm, .int .i64 t.rep, .int .i64 t.kind, .slice a t.sub.length c] 24)).alloc (.cells #[.slice (some ⟨b, o, none⟩) path.length vc, .slice (some ⟨W.heap.size + 1, 0, none⟩) 1 1] 22)) (W.heap.size + 2) b o path.length vc (W.heap.size + 1) ncs.flatten [.int .i64 t.id, .string t.nm, .int .i64 t.rep, .int .i64 t.kind, .slice a t.sub.length c]
  (cell_alloc_at rfl (by simp)) (cell_alloc_at rfl (by simp)) hfl rfl
  (fun j u hu => (hb3.cell (World.block_lt_of_cell? W _ (hn3 j u hu))).trans (hn3 j u hu))
  (fun j u hu => by
   have h5 := five_cells (w := W.alloc (.cells #[.int .i64 t.id, .string t.nm, .int .i64 t.rep, .int .i64 t.kind, .slice a t.sub.length c] 24)) (T := 24) j u hu
   rw [show (W.alloc (.cells #[.int .i64 t.id, .string t.nm, .int .i64 t.rep, .int .i64 t.kind, .slice a t.sub.length c] 24)).heap.size = W.heap.size + 1 by simp] at h5
   exact (((Below.refl _ _).alloc (Nat.le_refl _) _).cell (World.block_lt_of_cell? _ _ h5)).trans h5)
  (fun u hu => by
   obtain ⟨x, hx, hux⟩ := List.mem_flatten.1 hu
   obtain ⟨j, hj, rfl⟩ := List.getElem_of_mem hx
   exact (hn4 j (by omega) hj).ones u hux)
  (node_ones _ _ _ _ _ _ _) hn
 have HB : Hid _ := hb3
 have HE : Hid (∀ w' v, Below W.heap.size W w' → w'.ownsRow (W.heap.size + 3) 24 5 v (path.length + 1) (ncs.flatten ++ [.int .i64 t.id, .string t.nm, .int .i64 t.rep, .int .i64 t.kind, .slice a t.sub.length c]) → ∃ a' c', v = .slice a' (path.length + 1) c' ∧ LiesN w' (fun b => P b ∨ W.heap.size ≤ b) a' (path ++ [t])) := fun w' v hbw hown => by
  obtain ⟨a', c', h1, _, h3⟩ := lies_of_row (P := fun b => P b ∨ W.heap.size ≤ b) (ts := path ++ [t]) (ncs := ncs ++ [[.int .i64 t.id, .string t.nm, .int .i64 t.rep, .int .i64 t.kind, .slice a t.sub.length c]]) (n := path.length + 1) (by simp) (by simpa using hown) (by simp [hn1]) (fun x hx => by
   rcases List.mem_append.1 hx with hx | hx
   · exact hn2 x hx
   · rw [List.mem_singleton.1 hx]; rfl) (fun j hj hj' => by
   by_cases h : j < path.length
   · rw [List.getElem_append_left h, List.getElem_append_left (by omega)]
     exact (hn4 j h (by omega)).stay (fun _ h _ => .inl h) (fun b _ h => hbw.block b h)
   · have hj2 : j = path.length := by simp at hj; omega
     subst hj2
     rw [List.getElem_append_right (by omega), List.getElem_append_right (by omega)]
     simp only [hn1, Nat.sub_self, List.getElem_cons_zero]
     exact NodeC.join c hc (hl.stay (fun _ h _ => .inl h) (fun b _ h => hbw.block b h))) (fun k hk => .inr (by have := (own_block hown hk).1; omega))
  exact ⟨a', c', by simpa using h1, h3⟩
 clear hl hp hn1 hn2 hn3 hn4 hb3 hfl
 go_enter Tryz.func67, Tryz.ntmps67
 go_wp2_with fail
 refine Calls.mono HC.out ?_
 rintro e w1 ⟨⟨v, rfl, hown⟩, hb1⟩
 have HB1 : Hid (Below W.heap.size W w1) := HB.out.trans (hb1.mono HB.out.size)
 have HO : Hid _ := HE.out w1 v HB1.out (by simpa using hown)
 clear hown hb1 HC HE
 obtain ⟨a', c', rfl, hl'⟩ := HO.out
 have HL' : Hid _ := hl'
 clear hl' HO
 go_wp2
 go_ret
 exact ⟨⟨a', c', rfl, HL'.out⟩, HB1.out⟩
end Go.Proofs.YteonbmaokphleaaGreatDoor
