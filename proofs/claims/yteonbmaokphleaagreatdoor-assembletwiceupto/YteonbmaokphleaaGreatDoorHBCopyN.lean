/-
  schema.copyOf: a node with lists of its own.
  schema.copyOf, of those that a set has.
  A projection, as the program and the reference make it, is the same.
-/
import Derived.Test.YteonbmaokphleaaGreatDoorHBOwnN
import Derived.Test.YteonbmaokphleaaGreatDoorHBIds
import Derived.RegionTactic
import Derived.Deep.QuietTactic
import Derived.BigQuiet
import Derived.Deep.Cut
namespace Go.Proofs.YteonbmaokphleaaGreatDoor
open Go.RowKit
structure CI (W : World) (t : Tr) (a : Option Addr) (c : Nat) (wr : World) (us : List Tr) (l : Value) (ncs : List (List Value)) : Prop where
 box : wr.heap[W.heap.size]? = some (.cells #[.int .i64 t.id, .string t.nm, .int .i64 t.rep, .int .i64 t.kind, .slice a t.sub.length c] 24 (0, 0))
 res : wr.heap[W.heap.size + 1]? = some (.cells #[.int .i64 0, .string ⟨#[]⟩, .int .i64 0, .int .i64 0, .slice none 0 0] 24 (0, 0))
 len : ncs.length = us.length
 five : ∀ x ∈ ncs, x.length = 5
 row : wr.ownsRow (W.heap.size + 2) 24 5 l us.length ncs.flatten
 each : ∀ j (h : j < ncs.length) (h' : j < us.length), NodeC wr (fun b => W.heap.size + 2 ≤ b ∧ l.ownBlock ≠ some b) us[j] ncs[j]
 old : Below W.heap.size W wr
 big : W.heap.size + 2 ≤ wr.heap.size
theorem CI.shape {W : World} {t : Tr} {a : Option Addr} {c : Nat} {wr : World} {us : List Tr} {l : Value} {ncs : List (List Value)} (h : CI W t a c wr us l ncs) : ∃ a' c', l = .slice a' us.length c' ∧ us.length ≤ c' := by
 rcases h.row.2 with ⟨h0, h1⟩ | ⟨g, cap, cur, h0, _, _, hnc, _⟩
 · exact ⟨none, 0, by rw [h0, h1], by omega⟩
 · exact ⟨_, cap, h0, hnc⟩
theorem CI.lies {W : World} {t : Tr} {a : Option Addr} {c : Nat} {wr : World} {us : List Tr} {a' : Option Addr} {c' : Nat} {ncs : List (List Value)} (h : CI W t a c wr us (.slice a' us.length c') ncs) : LiesN wr (fun b => W.heap.size + 2 ≤ b) a' us := by
 refine ⟨fun j => ncs.getD j [], fun j hj => ?_, fun j hj => ?_⟩
 · have hjn : j < ncs.length := by rw [h.len]; exact hj
   have e : ncs.getD j [] = ncs[j] := by simp [List.getD, hjn]
   show NodeAt wr _ a' j (ncs.getD j [])
   rw [e]
   have h5 := h.five ncs[j] (List.getElem_mem hjn)
   rcases h.row.2 with ⟨_, h0⟩ | ⟨g, cap, cur, hv, hbg, _⟩
   · exact absurd hj (by omega)
   · have hv' := hv
     injection hv' with ha _ _
     subst ha
     have hc : ∀ k u, ncs[j][k]? = some u → k < 5 → wr.cell? ⟨g, j * 5 + k, none⟩ = some u := fun k u hu hk => by
      have h1 := h.row.cells (g := g) rfl (j * 5 + k) u (by rw [flat5 ncs h.five j k hk, List.getElem?_eq_getElem hjn]; exact hu)
      rw [addr_plus, Nat.zero_add] at h1
      exact h1
     generalize ncs[j] = cs at *
     match cs, h5 with
     | [x0, x1, x2, x3, x4], _ =>
      have c0 := hc 0 x0 rfl (by omega)
      have c1 := hc 1 x1 rfl (by omega)
      have c2 := hc 2 x2 rfl (by omega)
      have c3 := hc 3 x3 rfl (by omega)
      have c4 := hc 4 x4 rfl (by omega)
      exact ⟨g, 0, x0, x1, x2, x3, x4, rfl, by omega, rfl, by simpa using c0, by simpa using c1, by simpa using c2, by simpa using c3, by simpa using c4⟩
 · have hjn : j < ncs.length := by rw [h.len]; exact hj
   have e : ncs.getD j [] = ncs[j] := by simp [List.getD, hjn]
   show NodeC wr _ us[j] (ncs.getD j [])
   rw [e]
   exact (h.each j hjn hj).stay (fun b hP _ => hP.1) (fun _ _ _ => rfl)
theorem CI.keep {W : World} {t : Tr} {a : Option Addr} {c : Nat} {wr w1 : World} {us : List Tr} {l : Value} {ncs : List (List Value)} (h : CI W t a c wr us l ncs) (hb : Below wr.heap.size wr w1) : CI W t a c w1 us l ncs :=
 ⟨blk_keep hb h.box, blk_keep hb h.res, h.len, h.five, ow_kept h.row hb, fun j hj hj' => (h.each j hj hj').stay (fun _ h _ => h) (fun b _ hl => hb.block b hl), h.old.trans (hb.mono h.old.size), Nat.le_trans h.big hb.size⟩
theorem CI.apart {W : World} {t : Tr} {a : Option Addr} {c : Nat} {wr : World} {us : List Tr} {l : Value} {ncs : List (List Value)} (h : CI W t a c wr us l ncs) {k : Nat} (hk : k < W.heap.size + 2) : some k ≠ l.ownBlock := by
 rcases h.row.2 with ⟨rfl, _⟩ | ⟨g, cap, cur, rfl, hg, _⟩
 · simp [Value.ownBlock]
 · simp [Value.ownBlock]; omega
theorem CI.push {W : World} {t : Tr} {a : Option Addr} {c : Nat} {wr w1 w2 : World} {us : List Tr} {u : Tr} {l l' : Value} {ncs : List (List Value)} {a1 : Option Addr} {c1 : Nat} (h : CI W t a c wr us l ncs) (hb : Below wr.heap.size wr w1) (hc1 : u.sub.length ≤ c1) (hn : LiesN w1 (fun b => wr.heap.size ≤ b) a1 u.sub) {ob : Obj}
    (hown : w2.ownsRow (W.heap.size + 2) 24 5 l' (us.length + 1) (ncs.flatten ++ [.int .i64 u.id, .string u.nm, .int .i64 u.rep, .int .i64 u.kind, .slice a1 u.sub.length c1])) (hg : (w1.alloc ob).grownBy w2 l.ownBlock) (hw : l'.ownBlock = l.ownBlock ∧ l.ownBlock ≠ none ∨ l'.ownBlock = some (w1.alloc ob).heap.size) :
    CI W t a c w2 (us ++ [u]) l' (ncs ++ [[.int .i64 u.id, .string u.nm, .int .i64 u.rep, .int .i64 u.kind, .slice a1 u.sub.length c1]]) := by
 have hbig := h.big
 have hbs := hb.size
 have hgs := hg.size
 simp only [World.size_alloc] at hgs
 have hlb : ∀ k, l.ownBlock = some k → k < wr.heap.size := fun k hk => (h.row.lt k hk).2
 have three : ∀ k, k < W.heap.size + 2 → w2.heap[k]? = wr.heap[k]? := fun k hk => by
  rw [hg.block k (by simp; omega) (h.apart hk), heap_alloc_old w1 ob (by omega), hb.block k (by omega)]
 have b1 : Below W.heap.size W w2 := ((h.old.trans (hb.mono h.old.size)).alloc (h.old.trans (hb.mono h.old.size)).size ob).grown hg (by have := h.old.size; simp; omega) (fun k hk => by have := (h.row.lt k hk).1; omega)
 refine ⟨(three _ (by omega)).trans h.box, (three _ (by omega)).trans h.res, by rw [List.length_append, List.length_append, h.len]; rfl, fun x hx => ?_, ?_, fun j hj hj' => ?_, b1, by omega⟩
 · rcases List.mem_append.1 hx with hx | hx
   · exact h.five x hx
   · rw [List.mem_singleton.1 hx]; rfl
 · rw [List.flatten_append, List.length_append]
   simpa using hown
 · by_cases hjl : j < ncs.length
   · rw [List.getElem_append_left hjl, List.getElem_append_left (by rw [← h.len]; exact hjl)]
     refine (h.each j hjl (by rw [← h.len]; exact hjl)).stay (fun b hP hlt => ⟨hP.1, ?_⟩) (fun b hP hlt => ?_)
     · rw [hg.block b (by simp; omega) (fun e => hP.2 e.symm), heap_alloc_old w1 ob (show b < w1.heap.size by omega), hb.block b hlt]
     · rcases hw with ⟨e, _⟩ | e
       · rw [e]; exact hP.2
       · rw [e]; simp; omega
   · have hje : j = ncs.length := by rw [List.length_append] at hj; simp at hj; omega
     have hju : j = us.length := by rw [hje, h.len]
     have ee : (ncs ++ [[.int .i64 u.id, .string u.nm, .int .i64 u.rep, .int .i64 u.kind, .slice a1 u.sub.length c1]])[j] = [.int .i64 u.id, .string u.nm, .int .i64 u.rep, .int .i64 u.kind, .slice a1 u.sub.length c1] := by
      rw [List.getElem_append_right (by omega)]
      simp
     have eu : (us ++ [u])[j] = u := by
      rw [List.getElem_append_right (by omega)]
      simp
     rw [ee, eu]
     refine NodeC.join c1 hc1 (hn.stay (fun b hP hlt => ⟨by omega, ?_⟩) (fun b hP hlt => ?_))
     · rcases hw with ⟨e, hne⟩ | e
       · rw [e]
         intro e2
         have := hlb b e2
         omega
       · rw [e]; simp; omega
     · rw [hg.block b (by simp; omega) (fun e => by have := hlb b e.symm; omega), heap_alloc_old w1 ob hlt]
end Go.Proofs.YteonbmaokphleaaGreatDoor
namespace Go.Proofs.YteonbmaokphleaaGreatDoor
open Go.RowKit Go.Maps
theorem kpT_id (K : Int → Bool) (t : Tr) : (kpT K t).id = t.id ∧ (kpT K t).nm = t.nm ∧ (kpT K t).rep = t.rep ∧ (kpT K t).kind = t.kind ∧ (kpT K t).sub = kpL K t.sub := by
 cases t with
 | node id nm rep kind sub => rw [kpT]; exact ⟨rfl, rfl, rfl, rfl, rfl⟩
theorem kpL_app (K : Int → Bool) : ∀ (xs ys : List Tr), kpL K (xs ++ ys) = kpL K xs ++ kpL K ys
 | [], ys => by simp [kpL]
 | x :: xs, ys => by
  rw [List.cons_append, kpL, kpL, kpL_app K xs ys]
  split <;> simp
theorem kpL_take (K : Int → Bool) (ts : List Tr) (i : Nat) (h : i < ts.length) : kpL K (ts.take (i + 1)) = kpL K (ts.take i) ++ (if K ts[i].id = true then [kpT K ts[i]] else []) := by
 rw [List.take_succ_eq_append_getElem h, kpL_app, kpL, kpL]
theorem kpL_len (K : Int → Bool) : ∀ (ts : List Tr), (kpL K ts).length ≤ ts.length
 | [] => by simp [kpL]
 | t :: ts => by
  have := kpL_len K ts
  rw [kpL]
  split <;> simp <;> omega
set_option maxRecDepth 100000 in
set_option maxHeartbeats 3200000 in
theorem copyHas_any (mb : Nat) (q : List Int) : ∀ (n : Nat) (t : Tr), SizeOf.sizeOf t < n → t.Sm → ∀ (P : Nat → Prop) (a : Option Addr) (c : Nat) (W : World), LiesN W P a t.sub → SetI mb q W →
    Calls Tryz.prog 58 #[nodeV t a c, .func (.func (56)) #[.map (some mb)] #[]] W fun e w' => (∃ a' c', e = .returned (.agg #[.int .i64 t.id, .string t.nm, .int .i64 t.rep, .int .i64 t.kind, .slice a' (kpL (fun i => q.contains i) t.sub).length c']) ∧ LiesN w' (fun b => W.heap.size ≤ b) a' (kpL (fun i => q.contains i) t.sub) ∧ (kpL (fun i => q.contains i) t.sub).length ≤ c') ∧ Below W.heap.size W w'
 | 0, t, h => absurd h (Nat.not_lt_zero _)
 | n + 1, t, hsz => fun hsm P a c W hl hset => by
  obtain ⟨iv, hvi, hv0, hv1, hv2⟩ := info_parts Tryz.infoN
  have HL : Hid (LiesN W P a t.sub) := hl
  have HSet : Hid (SetI mb q W) := hset
  have hlen := hsm.len
  have HIdS : Hid (∀ j (hj : j < t.sub.length), -9223372036854775808 ≤ t.sub[j].id ∧ t.sub[j].id ≤ 9223372036854775807) := fun j hj => (hsm.at_ j hj).id_
  obtain ⟨K, HK⟩ := hid_name (fun i => q.contains i : Int → Bool)
  have HIH : Hid (∀ j (hj : j < t.sub.length) (P : Nat → Prop) (a : Option Addr) (c : Nat) (W : World), LiesN W P a t.sub[j].sub → SetI mb q W → Calls Tryz.prog 58 #[nodeV t.sub[j] a c, .func (.func (56)) #[.map (some mb)] #[]] W fun e w' => (∃ a' c', e = .returned (.agg #[.int .i64 t.sub[j].id, .string t.sub[j].nm, .int .i64 t.sub[j].rep, .int .i64 t.sub[j].kind, .slice a' (kpL K t.sub[j].sub).length c']) ∧ LiesN w' (fun b => W.heap.size ≤ b) a' (kpL K t.sub[j].sub) ∧ (kpL K t.sub[j].sub).length ≤ c') ∧ Below W.heap.size W w') := fun j hj P a c W hl hs => (by rw [← HK.out]; exact copyHas_any mb q n t.sub[j] (by have := t.sub_size j hj; omega) (hsm.at_ j hj) P a c W hl hs)
  have HKq : Hid (∀ i, q.contains i = K i) := fun i => (by rw [← HK.out])
  rw [HK.out]
  clear hl hsm hsz hset
  obtain ⟨w0, HW0, HX, HY, HB⟩ := two_boxesS W #[.int .i64 t.id, .string t.nm, .int .i64 t.rep, .int .i64 t.kind, .slice a t.sub.length c] #[.int .i64 0, .string ⟨#[]⟩, .int .i64 0, .int .i64 0, .slice none 0 0] 24 24
  have HS : Hid (CI W t a c w0 [] (.slice none 0 0) []) := ⟨HX.out, HY.out, rfl, fun x hx => by simp at hx, World.ownsRow_nil _ _ _ _, fun j h => absurd h (by simp), HB.out, by rw [← HW0.out]; simp⟩
  obtain ⟨⟨p0, p1, p2, p3, p4⟩, _⟩ := row_five HX.out
  unfold nodeV
  go_enter Tryz.func58, Tryz.ntmps58
  go_wp2_with fail
  rw [HW0.out]
  go_wp2_with fail
  go_loopw [5, 11] (fun l x wr => ∃ (i : Nat) (ncs : List (List Value)), i ≤ t.sub.length ∧ x = .int .i64 i ∧ Hid (CI W t a c wr (kpL K (t.sub.take i)) l ncs)) (fun _ x _ => t.sub.length - (intOf x).toNat)
  case atStart => exact ⟨0, [], Nat.zero_le _, rfl, by rw [List.take_zero, kpL]; exact HS.out⟩
  case round =>
   clear HS p0 p1 p2 p3 p4
   obtain ⟨i, ncs, hik, rfl, HO⟩ := hrel
   have hb := HO.out.old
   have hkl := kpL_len K (t.sub.take i)
   have hkl2 : (kpL K (t.sub.take i)).length ≤ 1048576 := by simp at hkl; omega
   obtain ⟨la, lc, hlv, hlc⟩ := HO.out.shape
   subst hlv
   by_cases hlt : i < t.sub.length
   · obtain ⟨b, o, a1, c1, rfl, d0, d1, d2, d3, d4, hl1⟩ := (HL.out.keep hb).at_ i hlt
     obtain ⟨w1, HW1, HZ, HBz⟩ := one_box wr #[.int .i64 t.sub[i].id, .string t.sub[i].nm, .int .i64 t.sub[i].rep, .int .i64 t.sub[i].kind, .slice a1 t.sub[i].sub.length c1] 24
     have HB1 : Hid (Below W.heap.size W w1) := hb.trans (HBz.out.mono hb.size)
     have HF2 : Hid _ := has_any mb q t.sub[i].id (HIdS.out i hlt) w1 (HSet.out.keep HB1.out)
     rw [HKq.out] at HF2
     have HLw : Hid (∀ X, Below w1.heap.size w1 X → LiesN X P a1 t.sub[i].sub) := fun X hX => (hl1.keep HBz.out).keep hX
     obtain ⟨⟨z0, z1, z2, z3, z4⟩, _⟩ := row_five HZ.out
     have HTk : Hid _ := kpL_take K t.sub i hlt
     clear hl1
     go_upto_region 5 with fail
     rw [HW1.out]
     go_wp2_with fail
     refine Calls.mono HF2.out ?_
     rintro e w2 ⟨rfl, hb2⟩
     have HB2 : Hid (Below w1.heap.size w1 w2) := hb2
     have HBW2 : Hid (Below W.heap.size W w2) := HB1.out.trans (hb2.mono HB1.out.size)
     have HBr2 : Hid (Below wr.heap.size wr w2) := HBz.out.trans (hb2.mono HBz.out.size)
     have HZ2 : Hid (w2.heap[wr.heap.size]? = some (.cells #[.int .i64 t.sub[i].id, .string t.sub[i].nm, .int .i64 t.sub[i].rep, .int .i64 t.sub[i].kind, .slice a1 t.sub[i].sub.length c1] 24 (0, 0))) := blk_keep hb2 HZ.out
     clear hb2 z0 z1 z2 z3 z4
     obtain ⟨⟨z0, z1, z2, z3, z4⟩, _⟩ := row_five HZ2.out
     cases hKi : K t.sub[i].id with
     | false =>
      have HOn : Hid (CI W t (some ⟨b, o, none⟩) c w2 (kpL K (t.sub.take (i + 1))) (.slice la (kpL K (t.sub.take i)).length lc) ncs) := (by
       show CI _ _ _ _ _ _ _ _
       have e : kpL K (t.sub.take (i + 1)) = kpL K (t.sub.take i) := by rw [HTk.out, hKi]; simp
       rw [e]
       exact HO.out.keep HBr2.out)
      clear hKi
      go_wp2
      go_roundw
      case rel => exact ⟨i + 1, _, by omega, by go_num, HOn⟩
      case measure => simp [intOf]; omega
     | true =>
      have HC : Hid _ := HIH.out i hlt P a1 c1 w2 (HLw.out w2 HB2.out) (HSet.out.keep HBW2.out)
      have HTk2 : Hid (kpL K (t.sub.take (i + 1)) = kpL K (t.sub.take i) ++ [kpT K t.sub[i]]) := (by show _ = _; rw [HTk.out, hKi]; simp)
      clear hKi
      go_wp2_with fail
      refine Calls.mono HC.out ?_
      rintro e w3 ⟨⟨a2, c2, rfl, hl2, hc2⟩, hb2⟩
      have HL2 : Hid (LiesN w3 (fun b => wr.heap.size ≤ b) a2 (kpL K t.sub[i].sub)) := hl2.stay (fun b h _ => Nat.le_trans HBr2.out.size h) (fun _ _ _ => rfl)
      have HB3 : Hid (Below wr.heap.size wr w3) := HBr2.out.trans (hb2.mono HBr2.out.size)
      have HRow : Hid (wr.ownsRow (W.heap.size + 2) 24 5 (.slice la (kpL K (t.sub.take i)).length lc) (kpL K (t.sub.take i)).length ncs.flatten) := HO.out.row
      clear hl2 hb2
      have hbig := HO.out.big
      have hs3 := HB3.out.size
      go_wp2_with (at_builtin; refine wpList_append_where _ rfl _ _ 22 rfl (W.heap.size + 2) 24 iv (.agg #[.int .i64 0, .string ⟨#[]⟩, .int .i64 0, .int .i64 0, .slice none 0 0]) 5 64 Tryz.underlying22 hvi hv0 hv1 hv2 rfl (by decide) _ (kpL K (t.sub.take i)).length ncs.flatten rfl ((ow_kept HRow.out HB3.out).alloc _) ⟨w3.heap.size, 0, none⟩ 1 1 [.int .i64 t.sub[i].id, .string t.sub[i].nm, .int .i64 t.sub[i].rep, .int .i64 t.sub[i].kind, .slice a2 (kpL K t.sub[i].sub).length c2] rfl rfl five_cells (by intro u hu; simp at hu; rcases hu with rfl | rfl | rfl | rfl | rfl <;> rfl) (by unfold maxLen; omega) (by omega) (by simp; omega) (by decide) ?_; intro l' w4 hown3 hgrow3 hwh)
      have HOn : Hid (CI W t (some ⟨b, o, none⟩) c w4 (kpL K (t.sub.take (i + 1))) l' (ncs ++ [[.int .i64 t.sub[i].id, .string t.sub[i].nm, .int .i64 t.sub[i].rep, .int .i64 t.sub[i].kind, .slice a2 (kpL K t.sub[i].sub).length c2]])) := (by
       show CI _ _ _ _ _ _ _ _
       rw [HTk2.out]
       obtain ⟨k1, k2, k3, k4, k5⟩ := kpT_id K t.sub[i]
       have h := HO.out.push (u := kpT K t.sub[i]) HB3.out (a1 := a2) (c1 := c2) (by rw [k5]; exact hc2) (by rw [k5]; exact HL2.out) (l' := l') (ob := .cells #[.int .i64 t.sub[i].id, .string t.sub[i].nm, .int .i64 t.sub[i].rep, .int .i64 t.sub[i].kind, .slice a2 (kpL K t.sub[i].sub).length c2] 24) (by rw [k1, k2, k3, k4, k5]; exact hown3) hgrow3 hwh
       rw [k1, k2, k3, k4, k5] at h
       exact h)
      clear hown3 hgrow3 hwh
      go_wp2
      go_roundw
      case rel => exact ⟨i + 1, _, by omega, by go_num, HOn⟩
      case measure => simp [intOf]; omega
   · obtain rfl : i = t.sub.length := by omega
     obtain ⟨⟨s0, s1, s2, s3, s4⟩, t0, t1, t2, t3, t4⟩ := row_five HO.out.res
     obtain ⟨⟨p0, p1, p2, p3, p4⟩, f0, f1, f2, f3, f4⟩ := row_five HO.out.box
     have HO2 := HO.out
     rw [List.take_length] at HO2 hlc hkl2 ⊢
     obtain ⟨us, HUs⟩ := hid_name (kpL K t.sub)
     rw [HUs.out] at HO2 hlc hkl2 ⊢
     have HLs : Hid (LiesN wr (fun b => W.heap.size + 2 ≤ b) la us) := HO2.lies
     have hrow0 := row_setC (j := 4) (v := .slice la us.length lc) HO.out.box
     obtain ⟨wq, HWq⟩ := hid_name (wr.setCell ⟨W.heap.size, 4, none⟩ (.slice la us.length lc))
     have hres : wq.heap[W.heap.size + 1]? = some (.cells #[.int .i64 0, .string ⟨#[]⟩, .int .i64 0, .int .i64 0, .slice none 0 0] 24 (0, 0)) := by rw [← HWq.out, Below.heap_setCell _ _ _ _ (by simp)]; exact HO.out.res
     rw [HWq.out] at hrow0
     have HBq : Hid (Below W.heap.size W wq) := (by rw [← HWq.out]; exact hb.setCell (Nat.le_refl _) _)
     have HLq : Hid (LiesN wq (fun b => W.heap.size + 2 ≤ b) la us) := HLs.out.stay (fun _ h _ => h) (fun b h _ => by rw [← HWq.out, Below.heap_setCell _ _ _ _ (show b ≠ W.heap.size by omega)])
     have hrow1 : wq.heap[W.heap.size]? = some (.cells #[.int .i64 t.id, .string t.nm, .int .i64 t.rep, .int .i64 t.kind, .slice la us.length lc] 24 (0, 0)) := by simpa using hrow0
     obtain ⟨⟨x0, x1, x2, x3, x4⟩, _⟩ := row_five hrow1
     obtain ⟨⟨y0, y1, y2, y3, y4⟩, g0, g1, g2, g3, g4⟩ := row_five hres
     have HRw : Hid _ := row_setC (j := 4) (v := .slice la us.length lc) (row_setC (j := 3) (v := .int .i64 t.kind) (row_setC (j := 2) (v := .int .i64 t.rep) (row_setC (j := 1) (v := .string t.nm) (row_setC (j := 0) (v := .int .i64 t.id) hres))))
     clear hrow0 hres HO2 s0 s1 s2 s3 s4 t0 t1 t2 t3 t4
     go_upto_region 9 with fail
     rw [HWq.out]
     clear p0 p1 p2 p3 p4 f0 f1 f2 f3 f4
     go_wp2
     refine bodyPost_ret (v := .agg #[.int .i64 t.id, .string t.nm, .int .i64 t.rep, .int .i64 t.kind, .slice la us.length lc]) (results_cell_row Tryz.results58 _ _ (W.heap.size + 1) 24 #[.int .i64 t.id, .string t.nm, .int .i64 t.rep, .int .i64 t.kind, .slice la us.length lc] (0, 0) _ rfl HRw.out Tryz.underlying24 rfl (by kernel_rfl)) rfl ⟨⟨la, lc, by rw [HUs.out], ?_, by rw [HUs.out]; exact hlc⟩, ?_⟩
     · rw [HUs.out]
       exact HLq.out.stay (fun b h _ => by omega) (fun b h _ => by
        have h2 : b ≠ W.heap.size + 1 := by omega
        rw [Below.heap_setCell _ _ _ _ h2, Below.heap_setCell _ _ _ _ h2, Below.heap_setCell _ _ _ _ h2, Below.heap_setCell _ _ _ _ h2, Below.heap_setCell _ _ _ _ h2])
     · exact ((((HBq.out.setCell (by simp) _).setCell (by simp) _).setCell (by simp) _).setCell (by simp) _).setCell (by simp) _
end Go.Proofs.YteonbmaokphleaaGreatDoor
namespace Go.Proofs.YteonbmaokphleaaGreatDoor
open Go.RowKit
theorem rk_empty {L : List Int} {t : Tr} (hk : t.kind = 0) : (∀ i ∈ L, ∃ l ∈ ndT t, l.kind ≠ 0 ∧ l.id = i) → (rkL L t.sub = [] ↔ L = []) := fun hL => by
 have hmem : ∀ (ts : List Tr), rkL L ts = [] ↔ ∀ c ∈ ts, (lfI (ndT c)).any (fun i => L.contains i) = false := fun ts => by
  induction ts with
  | nil => simp [rkL]
  | cons c cs ih =>
   rw [rkL]
   cases h : (lfI (ndT c)).any (fun i => L.contains i) with
   | true =>
    rw [if_pos rfl]
    constructor
    · intro h1
      cases h1
    · intro h1
      have h2 := h1 c (by simp)
      rw [h] at h2
      cases h2
   | false =>
    rw [if_neg (by simp), ih]
    constructor
    · intro h1 c' hc'
      rcases List.mem_cons.1 hc' with rfl | h2
      · exact h
      · exact h1 c' h2
    · intro h1 c' hc'
      exact h1 c' (List.mem_cons_of_mem _ hc')
 rw [hmem]
 constructor
 · intro h
   cases L with
   | nil => rfl
   | cons i L' =>
    exfalso
    obtain ⟨l, hl, hlk, hli⟩ := hL i (by simp)
    rw [ndT_eq] at hl
    rcases List.mem_cons.1 hl with rfl | hl
    · exact hlk hk
    · obtain ⟨c, hc, hlc⟩ := (ndL_mem _ _).1 hl
      have h2 := h c hc
      rw [List.any_eq_false] at h2
      have h3 := h2 i (lfI_mem.2 ⟨l, hlc, hlk, hli⟩)
      simp at h3
 · rintro rfl c hc
   simp
theorem both_right {t : Tr} (hv : vldN t = 0) (ids : List Int) : kpL (fun i => (stayI ids t).contains i) t.sub = rkL (askL ids t) t.sub ∧ (rkL (askL ids t) t.sub = [] ↔ askL ids t = []) := by
 obtain ⟨r1, r2, r3, r4, r5⟩ := right_parts hv
 have hk0 : t.kind = 0 := (of_decide_eq_true r2).2.2.2
 have hu := right_idU r2 r5
 have hlf := right_hasLf r3
 have h := kp_rk (q := ids) hu hlf (SizeOf.sizeOf t + 1) t (Nat.lt_succ_self _) (fun x h => h)
 have h1 := (kpT_id (fun i => (stayI ids t).contains i) t).2.2.2.2
 have h2 := (rkT_id (askL ids t) t).2.2.2.2
 refine ⟨by rw [← h1, h, h2], rk_empty hk0 fun i hi => ?_⟩
 obtain ⟨z, hz, _, l, hl, hlk, hli⟩ := (askL_mem hu).1 hi
 exact ⟨l, nd_trans _ t (Nat.lt_succ_self _) z hz l hl, hlk, hli⟩
end Go.Proofs.YteonbmaokphleaaGreatDoor
