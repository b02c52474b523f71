/-
  shred.stepsTo: the steps to a leaf.
-/
import Derived.Test.YtdpedailookcjaaDoorSBWriter
namespace Go.Proofs.YtdpedailookcjaaDoor
open Go.RowKit
theorem Tryd.infoSt : (Tryd.prog.info? 104).map (fun i => (i.zero, i.size, i.bytes)) = some (some (.agg #[.int .i64 0, .int .i64 0, .int .i64 0, .int .i64 0]), 4, 32) := by kernel_rfl
set_option maxRecDepth 100000 in
set_option maxHeartbeats 1600000 in
theorem idEq_any (id : Int) (s : ByteArray) (g : Nat) (y0 y2 y3 : Int) (a : Option Addr) (n c : Nat) (W : World) (hg : W.heap[g]? = some (.cells #[.int .i64 id] 3 (0, 0))) :
    Calls Tryd.prog 64 #[.agg #[.int .i64 y0, .string s, .int .i64 y2, .int .i64 y3, .slice a n c], .pointer (some ⟨g, 0, none⟩)] W fun e w' => e = .returned (.bool (y0 == id)) ∧ Below W.heap.size W w' := by
  have HB : Hid (Below W.heap.size W (W.alloc (.cells #[.int .i64 y0, .string s, .int .i64 y2, .int .i64 y3, .slice a n c] 24))) := (Below.refl _ _).alloc (Nat.le_refl _) _
  obtain ⟨p0, _⟩ := row_one (blk_alloc (o' := .cells #[.int .i64 y0, .string s, .int .i64 y2, .int .i64 y3, .slice a n c] 24) hg)
  clear hg
  go_enter Tryd.func64, Tryd.ntmps64
  go_wp2
  go_ret
  exact ⟨rfl, HB.out⟩
set_option maxRecDepth 100000 in
set_option maxHeartbeats 1600000 in
/-- slices.IndexFunc over nodes: the first with that number. -/
theorem idxS_any (id : Int) (g : Nat) (P : Nat → Prop) (a : Option Addr) (c : Nat) (ts : List Tr) (hn : ts.length ≤ 1048576) (W : World) (hg : W.heap[g]? = some (.cells #[.int .i64 id] 3 (0, 0))) (hl : LiesN W P a ts) :
    Calls Tryd.prog (63) #[.slice a ts.length c, .func (.func 64) #[] #[.pointer (some ⟨g, 0, none⟩)]] W fun e w' => (∃ r, e = .returned (.int .i64 r) ∧ Idx (fun t => t.id == id) ts r) ∧ Below W.heap.size W w' := by
  have HL : Hid (LiesN W P a ts) := hl
  have HG : Hid (W.heap[g]? = some (.cells #[.int .i64 id] 3 (0, 0))) := hg
  clear hl hg
  go_enter Tryd.func63, Tryd.ntmps63
  go_wp2
  go_loopw [8] (fun x wr => ∃ i : Nat, i ≤ ts.length ∧ x = .int .i64 i ∧ Hid (∀ j (h : j < ts.length), j < i → (ts[j].id == id) = false) ∧ Below W.heap.size W wr) (fun x _ => ts.length - (intOf x).toNat)
  case atStart => exact ⟨0, Nat.zero_le _, rfl, fun j _ h => absurd h (Nat.not_lt_zero _), Below.refl _ _⟩
  case round =>
    obtain ⟨i, hi, rfl, HA, hb⟩ := hrel
    have HB : Hid _ := hb
    by_cases hlt : i < ts.length
    · obtain ⟨b, o, a1, c1, rfl, d0, d1, d2, d3, d4, hl1⟩ := (HL.out.keep hb).at_ i hlt
      clear hl1
      have HGr : Hid (wr.heap[g]? = some (.cells #[.int .i64 id] 3 (0, 0))) := blk_keep hb HG.out
      clear hb
      go_wp2_with fail
      refine (idEq_any id ts[i].nm g _ _ _ a1 _ c1 wr HGr.out).mono ?_
      rintro e w1 ⟨rfl, hb1⟩
      have HB1 : Hid (Below W.heap.size W w1) := HB.out.trans (hb1.mono HB.out.size)
      clear hb1
      cases hq : (ts[i].id == id) with
      | true =>
        have HQ : Hid _ := hq
        clear hq
        go_wp2
        go_ret
        exact ⟨⟨(i : Int), rfl, .inr ⟨i, hlt, rfl, HQ.out, fun j h => HA.out j (by omega) h⟩⟩, HB1.out⟩
      | false =>
        have HN : Hid (∀ j (h : j < ts.length), j < i + 1 → (ts[j].id == id) = false) := fun j h hj => by
          by_cases e : j = i
          · subst e; exact hq
          · exact HA.out j h (by omega)
        clear hq
        go_wp2
        go_roundw
        case rel => exact ⟨i + 1, by omega, by go_num, HN, HB1⟩
        case measure => simp [intOf]; omega
    · obtain rfl : i = ts.length := by omega
      go_wp2
      go_ret
      exact ⟨⟨-1, rfl, .inl ⟨rfl, fun j h => HA.out j h h⟩⟩, hb⟩
/-- The steps from a node along numbers. -/
inductive StPath : Tr → List Int → Nat → Nat → List Stp → Prop where
  | nil (t : Tr) (df ls : Nat) : StPath t [] df ls []
  | cons (t : Tr) (id : Int) (rest : List Int) (df ls : Nat) (i : Nat) (hi : i < t.sub.length) (hid : t.sub[i].id = id) (first : ∀ j (h : j < i), t.sub[j].id ≠ id) (sts : List Stp) (more : StPath t.sub[i] rest (if t.sub[i].rep = 1 then df else df + 1) (if t.sub[i].rep = 3 then ls + 1 else ls) sts) :
      StPath t (id :: rest) df ls (⟨i, t.sub[i].rep, df, if t.sub[i].rep = 3 then ls + 1 else ls⟩ :: sts)
/-- What stepsTo's loop keeps. -/
structure SpI (W : World) (N B : Nat) (sts : List Stp) (ids : List Int) (i : Nat) (tc : Tr) (ac : Option Addr) (cc df ls : Nat) (sv : Value) (done rest : List Stp) (wr : World) : Prop where
  all : sts = done ++ rest
  len : done.length = i
  path : StPath tc (ids.drop i) df ls rest
  row : wr.ownsRow N 104 4 sv done.length (done.flatMap stC)
  lies : LiesN wr (fun b => b < B) ac tc.sub
  sm : tc.Sm
  box : wr.heap[W.heap.size + 1 + 1]? = some (.cells #[.int .i64 tc.id, .string tc.nm, .int .i64 tc.rep, .int .i64 tc.kind, .slice ac tc.sub.length cc] 24 (0, 0))
  below : Below W.heap.size W wr
  big : W.heap.size + 3 ≤ wr.heap.size
  small : df ≤ i ∧ ls ≤ i
theorem four_cells {w : World} {x y z u : Value} {T : TypeId} : ∀ j v, [x, y, z, u][j]? = some v → (w.alloc (.cells #[x, y, z, u] T)).cell? ((⟨w.heap.size, 0, none⟩ : Addr).add j) = some v := fun j v h => by
  rw [addr_plus, Nat.zero_add]
  refine cell_alloc_at ?_ rfl
  simpa using h
/-- A world in which one block is another one. -/
structure OneNew (bx : Nat) (o : Obj) (w1 w2 : World) : Prop where
  os : w2.os = w1.os
  tape : w2.tape = w1.tape
  output : w2.output = w1.output
  size : w2.heap.size = w1.heap.size
  new : w2.heap[bx]? = some o
  old : ∀ k, k ≠ bx → w2.heap[k]? = w1.heap[k]?
theorem OneNew.set {w1 w2 : World} {bx j : Nat} {cs : Array Value} {T : TypeId} (h : OneNew bx (.cells cs T (0, 0)) w1 w2) (y : Value) : OneNew bx (.cells (cs.setIfInBounds j y) T (0, 0)) w1 (w2.setCell ⟨bx, j, none⟩ y) :=
  ⟨h.os, h.tape, h.output, by rw [World.size_setCell]; exact h.size, row_setC h.new, fun k hk => (Below.heap_setCell _ ⟨bx, j, none⟩ _ _ hk).trans (h.old k hk)⟩
/-- A node's box that is set anew. -/
theorem set_box {w1 : World} {bx : Nat} {x0 x1 x2 x3 x4 : Value} {T : TypeId} (h : w1.heap[bx]? = some (.cells #[x0, x1, x2, x3, x4] T (0, 0))) (y0 y1 y2 y3 y4 : Value) :
    OneNew bx (.cells #[y0, y1, y2, y3, y4] T (0, 0)) w1 (((((w1.setCell ⟨bx, 0, none⟩ y0).setCell ⟨bx, 1, none⟩ y1).setCell ⟨bx, 2, none⟩ y2).setCell ⟨bx, 3, none⟩ y3).setCell ⟨bx, 4, none⟩ y4) := by
  have h0 : OneNew bx (.cells #[x0, x1, x2, x3, x4] T (0, 0)) w1 w1 := ⟨rfl, rfl, rfl, rfl, h, fun _ _ => rfl⟩
  have h5 := ((((h0.set (j := 0) y0).set (j := 1) y1).set (j := 2) y2).set (j := 3) y3).set (j := 4) y4
  simpa using h5
theorem SpI.next {W : World} {sts : List Stp} {ids : List Int} {i : Nat} {tc : Tr} {ac : Option Addr} {cc df ls : Nat} {sv : Value} {done rest : List Stp} {wr w1 w2 w3 : World} {x : Tr} {a1 : Option Addr} {c1 : Nat} {ob : Obj} {sv2 : Value} {st : Stp} {df' ls' : Nat} (h : SpI W (W.heap.size + 3) W.heap.size sts ids i tc ac cc df ls sv done (st :: rest) wr) (hb : Below wr.heap.size wr w1)
    (h2 : OneNew (W.heap.size + 1 + 1) (.cells #[.int .i64 x.id, .string x.nm, .int .i64 x.rep, .int .i64 x.kind, .slice a1 x.sub.length c1] 24 (0, 0)) w1 w2) (hl : LiesN w1 (fun b => b < W.heap.size) a1 x.sub) (hx : x.Sm) (hp : StPath x (ids.drop (i + 1)) df' ls' rest) (hs : df' ≤ i + 1 ∧ ls' ≤ i + 1)
    (hown : w3.ownsRow (W.heap.size + 3) 104 4 sv2 (done.length + 1) (done.flatMap stC ++ stC st)) (hg : (w2.alloc ob).grownBy w3 sv.ownBlock) :
    w3.heap[W.heap.size + 1 + 1]? = some (.cells #[.int .i64 x.id, .string x.nm, .int .i64 x.rep, .int .i64 x.kind, .slice a1 x.sub.length c1] 24 (0, 0)) ∧ SpI W (W.heap.size + 3) W.heap.size sts ids (i + 1) x a1 c1 df' ls' sv2 (done ++ [st]) rest w3 := by
  have hbig := h.big
  have hbs := hb.size
  have hsz := h2.size
  have hsv : ∀ k, sv.ownBlock = some k → W.heap.size + 3 ≤ k := fun k hk => (own_block h.row hk).1
  have hgs := hg.size
  simp only [World.size_alloc] at hgs
  have e3 : ∀ k, k < W.heap.size + 3 → w3.heap[k]? = w2.heap[k]? := fun k hk => by
    rw [hg.block k (by simp; omega) (fun e => by have := hsv k e.symm; omega), heap_alloc_old _ ob (by omega)]
  have hbox : w3.heap[W.heap.size + 1 + 1]? = some (.cells #[.int .i64 x.id, .string x.nm, .int .i64 x.rep, .int .i64 x.kind, .slice a1 x.sub.length c1] 24 (0, 0)) := (e3 _ (by omega)).trans h2.new
  have h1 := h.below.trans (hb.mono h.below.size)
  have hbl : Below W.heap.size W w3 := ⟨(hg.os.trans h2.os).trans h1.os, (hg.tape.trans h2.tape).trans h1.tape, (hg.output.trans h2.output).trans h1.output, by have := h1.size; omega, fun k hk => by rw [e3 k (by omega), h2.old k (by omega), h1.block k hk]⟩
  refine ⟨hbox, ⟨by rw [h.all]; simp, by rw [List.length_append, h.len]; rfl, hp, ?_, hl.stay (fun _ h _ => h) (fun b hb' _ => by rw [e3 b (by omega), h2.old b (by omega)]), hx, hbox, hbl, by omega, hs⟩⟩
  rw [List.length_append, List.flatMap_append]
  simpa using hown
set_option maxRecDepth 100000 in
set_option maxHeartbeats 1600000 in
theorem stepsTo_any (t : Tr) (hsm : t.Sm) (a : Option Addr) (c : Nat) (lid lkind lmr lmd : Int) (ids : List Int) (hids : ids.length ≤ 1000) (pa : Option Addr) (pc : Nat) (sts : List Stp) (W : World) (hl : LiesN W (fun b => b < W.heap.size) a t.sub) (hp : Lies W pa (i64s ids)) (hst : StPath t ids 0 0 sts) :
    Calls Tryd.prog 42 #[nodeV t a c, .agg #[.int .i64 lid, .int .i64 lkind, .int .i64 lmr, .int .i64 lmd, .slice pa ids.length pc]] W fun e w' => (∃ sv, e = .returned sv ∧ w'.ownsRow W.heap.size 104 4 sv sts.length (sts.flatMap stC)) ∧ Below W.heap.size W w' := by
  obtain ⟨iv, hvi, hv0, hv1, hv2⟩ := info_parts Tryd.infoSt
  have hb3 : Below W.heap.size W (((W.alloc (.cells #[.int .i64 t.id, .string t.nm, .int .i64 t.rep, .int .i64 t.kind, .slice a t.sub.length c] 24)).alloc (.cells #[.int .i64 lid, .int .i64 lkind, .int .i64 lmr, .int .i64 lmd, .slice pa ids.length pc] 45)).alloc (.cells #[.int .i64 t.id, .string t.nm, .int .i64 t.rep, .int .i64 t.kind, .slice a t.sub.length c] 24)) := (((Below.refl _ _).alloc (Nat.le_refl _) _).alloc (by simp) _).alloc (by simp; omega) _
  have HS : Hid (SpI W (W.heap.size + 3) W.heap.size sts ids 0 t a c 0 0 (.slice none 0 0) [] sts (((W.alloc (.cells #[.int .i64 t.id, .string t.nm, .int .i64 t.rep, .int .i64 t.kind, .slice a t.sub.length c] 24)).alloc (.cells #[.int .i64 lid, .int .i64 lkind, .int .i64 lmr, .int .i64 lmd, .slice pa ids.length pc] 45)).alloc (.cells #[.int .i64 t.id, .string t.nm, .int .i64 t.rep, .int .i64 t.kind, .slice a t.sub.length c] 24))) := ⟨rfl, rfl, hst, World.ownsRow_nil _ _ _ _, hl.stay (fun _ h _ => h) (fun b _ h => hb3.block b h), hsm, (by
    have h := heap_alloc_new ((W.alloc (.cells #[.int .i64 t.id, .string t.nm, .int .i64 t.rep, .int .i64 t.kind, .slice a t.sub.length c] 24)).alloc (.cells #[.int .i64 lid, .int .i64 lkind, .int .i64 lmr, .int .i64 lmd, .slice pa ids.length pc] 45)) (.cells #[.int .i64 t.id, .string t.nm, .int .i64 t.rep, .int .i64 t.kind, .slice a t.sub.length c] 24)
    rwa [show ((W.alloc (.cells #[.int .i64 t.id, .string t.nm, .int .i64 t.rep, .int .i64 t.kind, .slice a t.sub.length c] 24)).alloc (.cells #[.int .i64 lid, .int .i64 lkind, .int .i64 lmr, .int .i64 lmd, .slice pa ids.length pc] 45)).heap.size = W.heap.size + 1 + 1 by simp] at h), hb3, by simp, by simp⟩
  have HP : Hid (Lies W pa (i64s ids)) := hp
  clear hl hp hst hb3 hsm
  unfold nodeV
  go_enter Tryd.func42, Tryd.ntmps42
  go_wp2
  go_loopw [5, 7, 8, 16] (fun sv dv lv x wr => ∃ (i : Nat) (tc : Tr) (ac : Option Addr) (cc df ls : Nat) (done rest : List Stp), i ≤ ids.length ∧ x = .int .i64 i ∧ dv = .int .i64 df ∧ lv = .int .i64 ls ∧ Hid (SpI W (W.heap.size + 3) W.heap.size sts ids i tc ac cc df ls sv done rest wr)) (fun _ _ _ x _ => ids.length - (intOf x).toNat)
  case atStart => exact ⟨0, t, a, c, 0, 0, [], sts, Nat.zero_le _, rfl, rfl, rfl, HS⟩
  case round =>
    clear HS
    obtain ⟨i, tc, ac, cc, df, ls, done, rest, hi, rfl, rfl, rfl, HS⟩ := hrel
    have hsmall := HS.out.small
    have hbig := HS.out.big
    by_cases hlt : i < ids.length
    · have hpath := HS.out.path
      rw [List.drop_eq_getElem_cons hlt] at hpath
      obtain ⟨id, hid0⟩ : ∃ id, ids[i] = id := ⟨_, rfl⟩
      rw [hid0] at hpath
      cases hpath with
      | cons _ _ _ _ _ m hm hmid first sts' more =>
        obtain ⟨pb, po, rfl, hcell⟩ := (HP.out.keep HS.out.below) i (by simpa [i64s] using hlt)
        have hcell' : wr.cell? ⟨pb, po + i, none⟩ = some (.int .i64 id) := by rw [hcell]; simp [i64s, hid0]
        obtain ⟨⟨n0, n1, n2, n3, n4⟩, f0, f1, f2, f3, f4⟩ := row_five (blk_alloc (o' := .cells #[.int .i64 id] 3) HS.out.box)
        have hb1 : Below wr.heap.size wr (wr.alloc (.cells #[.int .i64 id] 3)) := (Below.refl _ _).alloc (Nat.le_refl _) _
        have HB1 : Hid _ := hb1
        have HX : Hid _ := idxS_any id wr.heap.size (fun b => b < W.heap.size) ac cc tc.sub HS.out.sm.len (wr.alloc (.cells #[.int .i64 id] 3)) (heap_alloc_new wr _) (HS.out.lies.keep hb1)
        have HM : Hid _ := more
        have HF : Hid (∀ r, Idx (fun t => t.id == id) tc.sub r → r = (m : Int)) := fun r hr => by
          rcases hr with ⟨_, h⟩ | ⟨j, hj, rfl, h1, h2⟩
          · have := h m hm
            simp [hmid] at this
          · have h3 : tc.sub[j].id = id := by simpa using h1
            have h4 : ¬ j < m := fun h => first j h h3
            have h5 : ¬ m < j := fun h => by have := h2 m h; simp [hmid] at this
            congr 1
            omega
        clear hb1 more first hcell hid0 hmid
        go_wp2_with fail
        refine Calls.mono HX.out ?_
        rintro e w1 ⟨⟨r, rfl, hr⟩, hb2⟩
        obtain rfl := HF.out r hr
        have HB2 : Hid (Below wr.heap.size wr w1) := HB1.out.trans (hb2.mono HB1.out.size)
        clear hr hb2 n0 n1 n2 n3 n4 f0 f1 f2 f3 f4 HX HF
        have HN : Hid (w1.heap[W.heap.size + 1 + 1]? = some (.cells #[.int .i64 tc.id, .string tc.nm, .int .i64 tc.rep, .int .i64 tc.kind, .slice ac tc.sub.length cc] 24 (0, 0))) := blk_keep HB2.out HS.out.box
        obtain ⟨⟨n0, n1, n2, n3, n4⟩, f0, f1, f2, f3, f4⟩ := row_five HN.out
        obtain ⟨b, o, a1, c1, ea, d0, d1, d2, d3, d4, hl1⟩ := (HS.out.lies.keep HB2.out).at_ m hm
        subst ea
        obtain ⟨x, hx⟩ : ∃ x, x = tc.sub[m] := ⟨_, rfl⟩
        rw [← hx] at d0 d1 d2 d3 d4
        have HL1 : Hid (LiesN w1 (fun b => b < W.heap.size) a1 x.sub) := (by rw [hx]; exact hl1)
        have HXm : Hid (x = tc.sub[m]) := hx
        have HM2 : Hid (StPath x (ids.drop (i + 1)) (if x.rep = 1 then df else df + 1) (if x.rep = 3 then ls + 1 else ls) sts') := (by rw [hx]; exact HM.out)
        have HXs : Hid x.Sm := (by rw [hx]; exact HS.out.sm.at_ m hm)
        clear hl1 hx HM
        have hdl : done.length ≤ 1000 := by rw [HS.out.len]; omega
        have HBx : Hid (OneNew (W.heap.size + 1 + 1) (.cells #[.int .i64 x.id, .string x.nm, .int .i64 x.rep, .int .i64 x.kind, .slice a1 x.sub.length c1] 24 (0, 0)) w1 (((((w1.setCell ⟨W.heap.size + 1 + 1, 0, none⟩ (.int .i64 x.id)).setCell ⟨W.heap.size + 1 + 1, 1, none⟩ (.string x.nm)).setCell ⟨W.heap.size + 1 + 1, 2, none⟩ (.int .i64 x.rep)).setCell ⟨W.heap.size + 1 + 1, 3, none⟩ (.int .i64 x.kind)).setCell ⟨W.heap.size + 1 + 1, 4, none⟩ (.slice a1 x.sub.length c1))) := set_box HN.out _ _ _ _ _
        have HRow : Hid ((((((w1.setCell ⟨W.heap.size + 1 + 1, 0, none⟩ (.int .i64 x.id)).setCell ⟨W.heap.size + 1 + 1, 1, none⟩ (.string x.nm)).setCell ⟨W.heap.size + 1 + 1, 2, none⟩ (.int .i64 x.rep)).setCell ⟨W.heap.size + 1 + 1, 3, none⟩ (.int .i64 x.kind)).setCell ⟨W.heap.size + 1 + 1, 4, none⟩ (.slice a1 x.sub.length c1)).ownsRow (W.heap.size + 3) 104 4 u5 done.length (done.flatMap stC)) := own_same (ow_kept HS.out.row HB2.out) fun k hk => by
          have h1 := (own_block HS.out.row hk).1
          have hne : k ≠ W.heap.size + 1 + 1 := by omega
          exact (HBx.out).old k hne
        by_cases h3 : x.rep = 3
        · have q3 : (x.rep == 3) = true := by simp [h3]
          have q1 : (x.rep == 1) = false := by rw [h3]; rfl
          have H3 : Hid (x.rep = 3) := h3
          clear h3
          have HSt : Hid (StPath x (ids.drop (i + 1)) (df + 1) (ls + 1) sts') := (by show StPath _ _ _ _ _; have h := HM2.out; simpa [H3.out] using h)
          have HS2 : Hid (SpI W (W.heap.size + 3) W.heap.size sts ids i tc (some ⟨b, o, none⟩) cc df ls u5 done (⟨m, x.rep, df, ls + 1⟩ :: sts') wr) := (by show SpI _ _ _ _ _ _ _ _ _ _ _ _ _ _ _; have h := HS.out; rw [← HXm.out] at h; simpa [H3.out] using h)
          go_wp2_with (at_builtin; refine wpList_append_own _ rfl _ _ 89 rfl (W.heap.size + 3) 104 iv (.agg #[.int .i64 0, .int .i64 0, .int .i64 0, .int .i64 0]) 4 32 Tryd.underlying89 hvi hv0 hv1 hv2 rfl (by decide) _ done.length (done.flatMap stC) rfl (HRow.out.alloc _) ⟨w1.heap.size, 0, none⟩ 1 1 [.int .i64 (m : Nat), .int .i64 x.rep, .int .i64 (df : Nat), .int .i64 ((ls : Int) + 1)] rfl rfl (by intro j v hv; have h := four_cells (w := (((((w1.setCell ⟨W.heap.size + 1 + 1, 0, none⟩ (.int .i64 x.id)).setCell ⟨W.heap.size + 1 + 1, 1, none⟩ (.string x.nm)).setCell ⟨W.heap.size + 1 + 1, 2, none⟩ (.int .i64 x.rep)).setCell ⟨W.heap.size + 1 + 1, 3, none⟩ (.int .i64 x.kind)).setCell ⟨W.heap.size + 1 + 1, 4, none⟩ (.slice a1 x.sub.length c1))) (T := 104) j v hv; simpa using h) (by intro u hu; simp at hu; rcases hu with rfl | rfl | rfl | rfl <;> rfl) (by unfold maxLen; omega) (by omega) (by have := HB2.out.size; simp; omega) ?_; intro sv2 w3 hown3 hgrow3 _; obtain ⟨k1, k2⟩ := HS2.out.next HB2.out HBx.out HL1.out HXs.out HSt.out (by omega) (by simpa [stC] using hown3) hgrow3; have HS3 : Hid (SpI W (W.heap.size + 3) W.heap.size sts ids (i + 1) x a1 c1 (df + 1) (ls + 1) sv2 (done ++ [⟨m, x.rep, df, ls + 1⟩]) sts' w3) := k2; clear hown3 hgrow3 k2 n0 n1 n2 n3 n4 f0 f1 f2 f3 f4; obtain ⟨⟨n0, n1, n2, n3, n4⟩, _⟩ := row_five k1; clear k1)
          go_roundw
          case rel => exact ⟨i + 1, x, a1, c1, _, _, _, _, by omega, by go_num, by go_num, by go_num, HS3⟩
          case measure => simp [intOf]; omega
        · by_cases h1 : x.rep = 1
          · have q3 : (x.rep == 3) = false := by simp [h3]
            have q1 : (x.rep == 1) = true := by simp [h1]
            have H3 : Hid (¬ x.rep = 3) := h3
            have H1 : Hid (x.rep = 1) := h1
            clear h1 h3
            have HSt : Hid (StPath x (ids.drop (i + 1)) (df) (ls) sts') := (by show StPath _ _ _ _ _; have h := HM2.out; simpa [H1.out] using h)
            have HS2 : Hid (SpI W (W.heap.size + 3) W.heap.size sts ids i tc (some ⟨b, o, none⟩) cc df ls u5 done (⟨m, x.rep, df, ls⟩ :: sts') wr) := (by show SpI _ _ _ _ _ _ _ _ _ _ _ _ _ _ _; have h := HS.out; rw [← HXm.out] at h; simpa [H1.out] using h)
            go_wp2_with (at_builtin; refine wpList_append_own _ rfl _ _ 89 rfl (W.heap.size + 3) 104 iv (.agg #[.int .i64 0, .int .i64 0, .int .i64 0, .int .i64 0]) 4 32 Tryd.underlying89 hvi hv0 hv1 hv2 rfl (by decide) _ done.length (done.flatMap stC) rfl (HRow.out.alloc _) ⟨w1.heap.size, 0, none⟩ 1 1 [.int .i64 (m : Nat), .int .i64 x.rep, .int .i64 (df : Nat), .int .i64 (ls : Nat)] rfl rfl (by intro j v hv; have h := four_cells (w := (((((w1.setCell ⟨W.heap.size + 1 + 1, 0, none⟩ (.int .i64 x.id)).setCell ⟨W.heap.size + 1 + 1, 1, none⟩ (.string x.nm)).setCell ⟨W.heap.size + 1 + 1, 2, none⟩ (.int .i64 x.rep)).setCell ⟨W.heap.size + 1 + 1, 3, none⟩ (.int .i64 x.kind)).setCell ⟨W.heap.size + 1 + 1, 4, none⟩ (.slice a1 x.sub.length c1))) (T := 104) j v hv; simpa using h) (by intro u hu; simp at hu; rcases hu with rfl | rfl | rfl | rfl <;> rfl) (by unfold maxLen; omega) (by omega) (by have := HB2.out.size; simp; omega) ?_; intro sv2 w3 hown3 hgrow3 _; obtain ⟨k1, k2⟩ := HS2.out.next HB2.out HBx.out HL1.out HXs.out HSt.out (by omega) (by simpa [stC] using hown3) hgrow3; have HS3 : Hid (SpI W (W.heap.size + 3) W.heap.size sts ids (i + 1) x a1 c1 (df) (ls) sv2 (done ++ [⟨m, x.rep, df, ls⟩]) sts' w3) := k2; clear hown3 hgrow3 k2 n0 n1 n2 n3 n4 f0 f1 f2 f3 f4; obtain ⟨⟨n0, n1, n2, n3, n4⟩, _⟩ := row_five k1; clear k1)
            go_roundw
            case rel => exact ⟨i + 1, x, a1, c1, _, _, _, _, by omega, by go_num, by go_num, by go_num, HS3⟩
            case measure => simp [intOf]; omega
          · have q3 : (x.rep == 3) = false := by simp [h3]
            have q1 : (x.rep == 1) = false := by simp [h1]
            have H3 : Hid (¬ x.rep = 3) := h3
            have H1 : Hid (¬ x.rep = 1) := h1
            clear h1 h3
            have HSt : Hid (StPath x (ids.drop (i + 1)) (df + 1) (ls) sts') := (by show StPath _ _ _ _ _; have h := HM2.out; simpa [H1.out, H3.out] using h)
            have HS2 : Hid (SpI W (W.heap.size + 3) W.heap.size sts ids i tc (some ⟨b, o, none⟩) cc df ls u5 done (⟨m, x.rep, df, ls⟩ :: sts') wr) := (by show SpI _ _ _ _ _ _ _ _ _ _ _ _ _ _ _; have h := HS.out; rw [← HXm.out] at h; simpa [H1.out, H3.out] using h)
            go_wp2_with (at_builtin; refine wpList_append_own _ rfl _ _ 89 rfl (W.heap.size + 3) 104 iv (.agg #[.int .i64 0, .int .i64 0, .int .i64 0, .int .i64 0]) 4 32 Tryd.underlying89 hvi hv0 hv1 hv2 rfl (by decide) _ done.length (done.flatMap stC) rfl (HRow.out.alloc _) ⟨w1.heap.size, 0, none⟩ 1 1 [.int .i64 (m : Nat), .int .i64 x.rep, .int .i64 (df : Nat), .int .i64 (ls : Nat)] rfl rfl (by intro j v hv; have h := four_cells (w := (((((w1.setCell ⟨W.heap.size + 1 + 1, 0, none⟩ (.int .i64 x.id)).setCell ⟨W.heap.size + 1 + 1, 1, none⟩ (.string x.nm)).setCell ⟨W.heap.size + 1 + 1, 2, none⟩ (.int .i64 x.rep)).setCell ⟨W.heap.size + 1 + 1, 3, none⟩ (.int .i64 x.kind)).setCell ⟨W.heap.size + 1 + 1, 4, none⟩ (.slice a1 x.sub.length c1))) (T := 104) j v hv; simpa using h) (by intro u hu; simp at hu; rcases hu with rfl | rfl | rfl | rfl <;> rfl) (by unfold maxLen; omega) (by omega) (by have := HB2.out.size; simp; omega) ?_; intro sv2 w3 hown3 hgrow3 _; obtain ⟨k1, k2⟩ := HS2.out.next HB2.out HBx.out HL1.out HXs.out HSt.out (by omega) (by simpa [stC] using hown3) hgrow3; have HS3 : Hid (SpI W (W.heap.size + 3) W.heap.size sts ids (i + 1) x a1 c1 (df + 1) (ls) sv2 (done ++ [⟨m, x.rep, df, ls⟩]) sts' w3) := k2; clear hown3 hgrow3 k2 n0 n1 n2 n3 n4 f0 f1 f2 f3 f4; obtain ⟨⟨n0, n1, n2, n3, n4⟩, _⟩ := row_five k1; clear k1)
            go_roundw
            case rel => exact ⟨i + 1, x, a1, c1, _, _, _, _, by omega, by go_num, by go_num, by go_num, HS3⟩
            case measure => simp [intOf]; omega
    · obtain rfl : i = ids.length := by omega
      have hpath := HS.out.path
      rw [List.drop_length] at hpath
      have HR : Hid (rest = []) := (by
        show _ = _
        cases hpath
        rfl)
      clear hpath
      go_wp2
      go_ret
      refine ⟨⟨_, rfl, ?_⟩, HS.out.below⟩
      have h := HS.out.row
      rw [HS.out.all, HR.out, List.append_nil]
      exact ⟨h.1, h.2.imp id (fun ⟨g, cap, cur, e1, e2, e3⟩ => ⟨g, cap, cur, e1, by omega, e3⟩)⟩
end Go.Proofs.YtdpedailookcjaaDoor
