/-
  schema.pathTo, of whatever nodes around, none too.
-/
import Derived.Test.YteonbmaokphleaaGreatDoorHPathTo
import Derived.Test.YteonbmaokphleaaGreatDoorHAppAny
namespace Go.Proofs.YteonbmaokphleaaGreatDoor
open Go.RowKit
theorem LiesN.rowX {W : World} {P : Nat → Prop} {pa : Option Addr} {ts : List Tr} (h : LiesN W P pa ts) : ∃ ncs : List (List Value), ncs.length = ts.length ∧ (∀ x ∈ ncs, x.length = 5) ∧ (∀ j u, ncs.flatten[j]? = some u → ∃ a, pa = some a ∧ W.cell? (a.add j) = some u) ∧ (∀ j (h : j < ts.length) (h' : j < ncs.length), NodeC W P ts[j] ncs[j]) := by
 cases ts with
 | nil => exact ⟨[], rfl, fun x hx => by simp at hx, fun j u hu => by simp at hu, fun j h => absurd h (by simp)⟩
 | cons t ts =>
  obtain ⟨F, h1, h2⟩ := h
  obtain ⟨b, o, _, _, _, _, _, e, _⟩ := h1 0 (by simp)
  subst e
  obtain ⟨ncs, q1, q2, q3, q4⟩ := LiesN.row ⟨F, h1, h2⟩
  exact ⟨ncs, q1, q2, fun j u hu => ⟨_, rfl, q3 j u hu⟩, q4⟩
set_option maxRecDepth 100000 in
set_option maxHeartbeats 1600000 in
theorem concatX_any (W : World) (sb k c g2 : Nat) (ad : Option Addr) (xs ys : List Value) (h0 : W.cell? ⟨sb, 0, none⟩ = some (.slice ad k c)) (h1 : W.cell? ⟨sb, 1, none⟩ = some (.slice (some ⟨g2, 0, none⟩) 1 1))
    (hx : xs.length = k * 5) (hy : ys.length = 5) (hxs : ∀ j u, xs[j]? = some u → ∃ a, ad = some a ∧ W.cell? (a.add j) = some u) (hys : ∀ j u, ys[j]? = some u → W.cell? ((⟨g2, 0, none⟩ : Addr).add j) = some u)
    (ox : ∀ u ∈ xs, u.oneCell' = true) (oy : ∀ u ∈ ys, u.oneCell' = true) (hk : k ≤ 1100000) :
    Calls Tryz.prog (102) #[.slice (some ⟨sb, 0, none⟩) 2 2] W fun e w' => (∃ v, e = .returned v ∧ w'.ownsRow W.heap.size 24 5 v (k + 1) (xs ++ ys)) ∧ Below W.heap.size W w' := by
 obtain ⟨iv, hvi, hv0, hv1, hv2⟩ := info_parts Tryz.infoN
 have HX : Hid _ := hxs
 have HY : Hid _ := hys
 have H0 : Hid _ := h0
 have H1 : Hid _ := h1
 have HG : Hid _ := grow_any (k + 1) ((k : Int) + 1) (by omega) (by omega) (by omega) W
 clear hxs hys
 go_enter Tryz.func102, Tryz.ntmps102
 go_wp2
 refine wp_loop_rounds 3 ?_
 rw [rounds_succ]
 go_wp2
 rw [rounds_succ]
 go_wp2
 rw [rounds_succ]
 go_wp2_with fail
 refine Calls.mono HG.out ?_
 rintro e w1 ⟨⟨cap, rfl, hown1⟩, hb1⟩
 have HO1 : Hid (w1.ownsRow W.heap.size 24 5 (.slice (some ⟨W.heap.size, 0, none⟩) 0 cap) 0 []) := hown1
 have HB1 : Hid _ := hb1
 have k0 := (hb1.cell (World.block_lt_of_cell? W _ h0)).trans h0
 clear hown1 h0 h1 HG
 go_wp2
 refine wp_loop_rounds 3 ?_
 rw [rounds_succ]
 go_wp2_with (at_builtin; refine wpList_append_any _ rfl _ _ 22 rfl W.heap.size 24 iv (.agg #[.int .i64 0, .string ⟨#[]⟩, .int .i64 0, .int .i64 0, .slice none 0 0]) 5 64 Tryz.underlying22 hvi hv0 hv1 hv2 rfl (by decide) _ 0 [] rfl HO1.out ad k c xs rfl hx (fun j u hu => (by obtain ⟨a, e, h⟩ := HX.out j u hu; exact ⟨a, e, (HB1.out.cell (World.block_lt_of_cell? W _ h)).trans h⟩)) ox (by unfold maxLen; omega) (by omega) HB1.out.size ?_; intro v2 w2 hown2 hgrow2 _; have hb2 : Below W.heap.size W w2 := below_own HB1.out (Nat.le_refl _) HO1.out hgrow2; have k1 := (hb2.cell (World.block_lt_of_cell? W _ H1.out)).trans H1.out)
 have HO2 : Hid (w2.ownsRow W.heap.size 24 5 v2 k xs) := (by show World.ownsRow _ _ _ _ _ _ _; simpa using hown2)
 have HB2 : Hid _ := hb2
 clear hown2 hgrow2 hb2
 rw [rounds_succ]
 go_wp2_with (at_builtin; refine wpList_append_own _ rfl _ _ 22 rfl W.heap.size 24 iv (.agg #[.int .i64 0, .string ⟨#[]⟩, .int .i64 0, .int .i64 0, .slice none 0 0]) 5 64 Tryz.underlying22 hvi hv0 hv1 hv2 rfl (by decide) _ k xs rfl HO2.out ⟨g2, 0, none⟩ 1 1 ys rfl hy (fun j u hu => (HB2.out.cell (World.block_lt_of_cell? W _ (HY.out j u hu))).trans (HY.out j u hu)) oy (by unfold maxLen; omega) (by omega) HB2.out.size ?_; intro v3 w3 hown3 hgrow3 _)
 have HB3 : Hid (Below W.heap.size W w3) := below_own HB2.out (Nat.le_refl _) HO2.out hgrow3
 have HO3 : Hid (w3.ownsRow W.heap.size 24 5 v3 (k + 1) (xs ++ ys)) := hown3
 clear hown3 hgrow3
 rw [rounds_succ]
 go_wp2
 go_ret
 exact ⟨⟨_, rfl, HO3.out⟩, HB3.out⟩
set_option maxRecDepth 100000 in
set_option maxHeartbeats 1600000 in
theorem pathToX_any (t : Tr) (a : Option Addr) (c : Nat) (hc : t.sub.length ≤ c) (path : List Tr) (pa : Option Addr) (vc : Nat) (hn : path.length ≤ 1100000) (P : Nat → Prop) (W : World) (hl : LiesN W P a t.sub) (hp : LiesN W P pa path) :
    Calls Tryz.prog 67 #[nodeV t a c, .slice pa path.length vc] W fun e w' => (∃ a' c', e = .returned (.slice a' (path.length + 1) c') ∧ LiesN w' (fun b => P b ∨ W.heap.size ≤ b) a' (path ++ [t])) ∧ Below W.heap.size W w' := by
 obtain ⟨ncs, hn1, hn2, hn3, hn4⟩ := hp.rowX
 have hb3 : Below W.heap.size W (((W.alloc (.cells #[.int .i64 t.id, .string t.nm, .int .i64 t.rep, .int .i64 t.kind, .slice a t.sub.length c] 24)).alloc (.cells #[.int .i64 t.id, .string t.nm, .int .i64 t.rep, .int .i64 t.kind, .slice a t.sub.length c] 24)).alloc (.cells #[.slice pa path.length vc, .slice (some ⟨W.heap.size + 1, 0, none⟩) 1 1] 22)) := (((Below.refl _ _).alloc (Nat.le_refl _) _).alloc (by simp) _).alloc (by simp; omega) _
 have hfl : ncs.flatten.length = path.length * 5 := by rw [flat5_len ncs hn2, hn1]
 have HC : Hid _ := concatX_any (((W.alloc (.cells #[.int .i64 t.id, .string t.nm, .int .i64 t.rep, .int .i64 t.kind, .slice a t.sub.length c] 24)).alloc (.cells #[.int .i64 t.id, .string t.nm, .int .i64 t.rep, .int .i64 t.kind, .slice a t.sub.length c] 24)).alloc (.cells #[.slice pa path.length vc, .slice (some ⟨W.heap.size + 1, 0, none⟩) 1 1] 22)) (W.heap.size + 2) path.length vc (W.heap.size + 1) pa ncs.flatten [.int .i64 t.id, .string t.nm, .int .i64 t.rep, .int .i64 t.kind, .slice a t.sub.length c]
  (cell_alloc_at rfl (by simp)) (cell_alloc_at rfl (by simp)) hfl rfl
  (fun j u hu => (by obtain ⟨a, e, h⟩ := hn3 j u hu; exact ⟨a, e, (hb3.cell (World.block_lt_of_cell? W _ h)).trans h⟩))
  (fun j u hu => by
   have h5 := five_cells (w := W.alloc (.cells #[.int .i64 t.id, .string t.nm, .int .i64 t.rep, .int .i64 t.kind, .slice a t.sub.length c] 24)) (T := 24) j u hu
   rw [show (W.alloc (.cells #[.int .i64 t.id, .string t.nm, .int .i64 t.rep, .int .i64 t.kind, .slice a t.sub.length c] 24)).heap.size = W.heap.size + 1 by simp] at h5
   exact (((Below.refl _ _).alloc (Nat.le_refl _) _).cell (World.block_lt_of_cell? _ _ h5)).trans h5)
  (fun u hu => by
   obtain ⟨x, hx, hux⟩ := List.mem_flatten.1 hu
   obtain ⟨j, hj, rfl⟩ := List.getElem_of_mem hx
   exact (hn4 j (by omega) hj).ones u hux)
  (node_ones _ _ _ _ _ _ _) hn
 have HB : Hid _ := hb3
 have HE : Hid (∀ w' v, Below W.heap.size W w' → w'.ownsRow (W.heap.size + 3) 24 5 v (path.length + 1) (ncs.flatten ++ [.int .i64 t.id, .string t.nm, .int .i64 t.rep, .int .i64 t.kind, .slice a t.sub.length c]) → ∃ a' c', v = .slice a' (path.length + 1) c' ∧ LiesN w' (fun b => P b ∨ W.heap.size ≤ b) a' (path ++ [t])) := fun w' v hbw hown => by
  obtain ⟨a', c', h1, _, h3⟩ := lies_of_row (P := fun b => P b ∨ W.heap.size ≤ b) (ts := path ++ [t]) (ncs := ncs ++ [[.int .i64 t.id, .string t.nm, .int .i64 t.rep, .int .i64 t.kind, .slice a t.sub.length c]]) (n := path.length + 1) (by simp) (by simpa using hown) (by simp [hn1]) (fun x hx => by
   rcases List.mem_append.1 hx with hx | hx
   · exact hn2 x hx
   · rw [List.mem_singleton.1 hx]; rfl) (fun j hj hj' => by
   by_cases h : j < path.length
   · rw [List.getElem_append_left h, List.getElem_append_left (by omega)]
     exact (hn4 j h (by omega)).stay (fun _ h _ => .inl h) (fun b _ h => hbw.block b h)
   · have hj2 : j = path.length := by simp at hj; omega
     subst hj2
     rw [List.getElem_append_right (by omega), List.getElem_append_right (by omega)]
     simp only [hn1, Nat.sub_self, List.getElem_cons_zero]
     exact NodeC.join c hc (hl.stay (fun _ h _ => .inl h) (fun b _ h => hbw.block b h))) (fun k hk => .inr (by have := (own_block hown hk).1; omega))
  exact ⟨a', c', by simpa using h1, h3⟩
 clear hl hp hn1 hn2 hn3 hn4 hb3 hfl
 go_enter Tryz.func67, Tryz.ntmps67
 go_wp2_with fail
 refine Calls.mono HC.out ?_
 rintro e w1 ⟨⟨v, rfl, hown⟩, hb1⟩
 have HB1 : Hid (Below W.heap.size W w1) := HB.out.trans (hb1.mono HB.out.size)
 have HO : Hid _ := HE.out w1 v HB1.out (by simpa using hown)
 clear hown hb1 HC HE
 obtain ⟨a', c', rfl, hl'⟩ := HO.out
 have HL' : Hid _ := hl'
 clear hl' HO
 go_wp2
 go_ret
 exact ⟨⟨a', c', rfl, HL'.out⟩, HB1.out⟩
end Go.Proofs.YteonbmaokphleaaGreatDoor
