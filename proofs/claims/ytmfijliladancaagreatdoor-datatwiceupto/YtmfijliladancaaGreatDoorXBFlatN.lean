/-
  The reference's flat: the nodes of a schema, one behind the other.
  The reference's Flat, and the law's tame: of which schemas something is said.
-/
import Derived.Test.YtmfijliladancaaGreatDoorXOwnN
namespace Go.Proofs.YtmfijliladancaaGreatDoor
open Go.RowKit
theorem Tryz.infoP : (Tryz.prog.info? 46).map (fun i => (i.zero, i.size, i.bytes)) = some (some (.agg #[.int .i64 0, .string ⟨#[]⟩, .int .i64 0, .int .i64 0, .slice none 0 0, .int .i64 0, .int .i64 0]), 7, 80) := by kernel_rfl
/-- A node at a place: how deep, around it, and where its nodes lie. -/
structure Pn where
  t : Tr
  a : Option Addr
  c : Nat
  deep : Int
  around : Int
/-- .. without the places in memory. -/
structure Pc where
  t : Tr
  deep : Int
  around : Int
def Pn.core (p : Pn) : Pc := ⟨p.t, p.deep, p.around⟩
def pnc (p : Pn) : List Value := [.int .i64 p.t.id, .string p.t.nm, .int .i64 p.t.rep, .int .i64 p.t.kind, .slice p.a p.t.sub.length p.c, .int .i64 p.deep, .int .i64 p.around]
mutual
def flT (acc : List Pc) : Tr → Nat → Int → List Pc
  | .node id nm rep kind sub, deep, around => if 2000 < acc.length ∨ 100 < deep then acc else flL (acc ++ [⟨.node id nm rep kind sub, deep, around⟩]) sub (deep + 1) acc.length
def flL (acc : List Pc) : List Tr → Nat → Int → List Pc
  | [], _, _ => acc
  | t :: ts, deep, around => flL (flT acc t deep around) ts deep around
end
theorem flT_eq (acc : List Pc) (t : Tr) (deep : Nat) (around : Int) : flT acc t deep around = if 2000 < acc.length ∨ 100 < deep then acc else flL (acc ++ [⟨t, deep, around⟩]) t.sub (deep + 1) acc.length := by
  cases t with
  | node id nm rep kind sub => rw [flT]; rfl
theorem flL_app : ∀ (xs ys : List Tr) (acc : List Pc) (deep : Nat) (around : Int), flL acc (xs ++ ys) deep around = flL (flL acc xs deep around) ys deep around
  | [], ys, acc, deep, around => by rw [List.nil_append, flL]
  | x :: xs, ys, acc, deep, around => by rw [List.cons_append, flL, flL, flL_app xs ys]
theorem flL_take (ts : List Tr) (i : Nat) (hi : i < ts.length) (acc : List Pc) (deep : Nat) (around : Int) : flL acc (ts.take (i + 1)) deep around = flT (flL acc (ts.take i) deep around) ts[i] deep around := by
  rw [List.take_succ_eq_append_getElem hi, flL_app, flL, flL]
theorem seven_cells {w : World} {x0 x1 x2 x3 x4 x5 x6 : Value} {T : TypeId} : ∀ j u, [x0, x1, x2, x3, x4, x5, x6][j]? = some u → (w.alloc (.cells #[x0, x1, x2, x3, x4, x5, x6] T)).cell? ((⟨w.heap.size, 0, none⟩ : Addr).add j) = some u := fun j u h => by
  rw [addr_plus, Nat.zero_add]
  refine cell_alloc_at ?_ rfl
  simpa using h
/-- What a call of flat leaves: the row l' that came of l. -/
structure FR (B : Nat) (W : World) (l : Value) (w' : World) (l' : Value) (ps : List Pn) : Prop where
  row : w'.ownsRow B 46 7 l' ps.length (ps.flatMap pnc)
  grown : W.grownBy w' l.ownBlock
  where_ : l'.ownBlock = l.ownBlock ∨ ∀ k, l'.ownBlock = some k → W.heap.size ≤ k
theorem FR.refl {B : Nat} {W : World} {l : Value} {ps : List Pn} (h : W.ownsRow B 46 7 l ps.length (ps.flatMap pnc)) : FR B W l W l ps := ⟨h, ⟨rfl, rfl, rfl, Nat.le_refl _, fun _ _ _ => rfl⟩, Or.inl rfl⟩
theorem FR.trans {B : Nat} {W w1 w2 : World} {l l1 l2 : Value} {ps qs : List Pn} (h : FR B W l w1 l1 ps) (h2 : FR B w1 l1 w2 l2 qs) : FR B W l w2 l2 qs := by
  refine ⟨h2.row, ⟨h2.grown.os.trans h.grown.os, h2.grown.tape.trans h.grown.tape, h2.grown.output.trans h.grown.output, Nat.le_trans h.grown.size h2.grown.size, fun k hk hne => ?_⟩, ?_⟩
  · have hs := h.grown.size
    rw [h2.grown.block k (by omega) (fun e => ?_), h.grown.block k hk hne]
    rcases h.where_ with e1 | e1
    · exact hne (e.trans e1)
    · have := e1 k e.symm; omega
  · have hs := h.grown.size
    rcases h2.where_ with e2 | e2
    · rcases h.where_ with e1 | e1
      · exact Or.inl (e2.trans e1)
      · exact Or.inr fun k hk => e1 k (e2 ▸ hk)
    · exact Or.inr fun k hk => by have := e2 k hk; omega
theorem grow_alloc {w w2 : World} {ob : Obj} {r : Option Nat} (hg : (w.alloc ob).grownBy w2 r) : w.grownBy w2 r :=
  ⟨hg.os, hg.tape, hg.output, by have := hg.size; simp at this; omega, fun k hk hne => by rw [hg.block k (by simp; omega) hne, heap_alloc_old w ob hk]⟩
theorem FR.alloc {B : Nat} {W w1 : World} {l l1 : Value} {ps : List Pn} (h : FR B W l w1 l1 ps) (ob : Obj) : FR B W l (w1.alloc ob) l1 ps :=
  h.trans ⟨h.row.alloc ob, ⟨rfl, rfl, rfl, by simp, fun k hk _ => heap_alloc_old w1 ob hk⟩, Or.inl rfl⟩
theorem FR.push {B : Nat} {W wr w2 : World} {l l1 l2 : Value} {ps : List Pn} {p : Pn} (h : FR B W l wr l1 ps) {ob : Obj} (hown : w2.ownsRow B 46 7 l2 (ps.length + 1) (ps.flatMap pnc ++ pnc p)) (hg : (wr.alloc ob).grownBy w2 l1.ownBlock) (hw : l2.ownBlock = l1.ownBlock ∧ l1.ownBlock ≠ none ∨ l2.ownBlock = some (wr.alloc ob).heap.size) : FR B W l w2 l2 (ps ++ [p]) := by
  refine h.trans (ps := ps) ⟨by rw [List.length_append, List.flatMap_append]; simpa using hown, grow_alloc hg, ?_⟩
  rcases hw with ⟨e, _⟩ | e
  · exact Or.inl e
  · right
    intro k hk
    rw [e] at hk
    simp at hk
    omega
mutual
theorem flT_len : ∀ (t : Tr) (acc : List Pc) (deep : Nat) (around : Int), acc.length ≤ 2001 → (flT acc t deep around).length ≤ 2001
  | .node id nm rep kind sub, acc, deep, around, h => by
    rw [flT]
    split
    · exact h
    · exact flL_len sub _ _ _ (by rw [List.length_append]; simp; omega)
theorem flL_len : ∀ (ts : List Tr) (acc : List Pc) (deep : Nat) (around : Int), acc.length ≤ 2001 → (flL acc ts deep around).length ≤ 2001
  | [], acc, deep, around, h => by rw [flL]; exact h
  | t :: ts, acc, deep, around, h => by rw [flL]; exact flL_len ts _ _ _ (flT_len t _ _ _ h)
end
theorem FR.below {B : Nat} {W w1 : World} {l l1 : Value} {ps qs : List Pn} (h : FR B W l w1 l1 ps) (h0 : W.ownsRow B 46 7 l qs.length (qs.flatMap pnc)) (hB : B ≤ W.heap.size) : Below B W w1 :=
  ⟨h.grown.os, h.grown.tape, h.grown.output, h.grown.size, fun k hk => h.grown.block k (by omega) (fun e => by have := (h0.lt k e.symm).1; omega)⟩
theorem pn_shape {w : World} {B e n : Nat} {v : Value} {xs : List Value} (h : w.ownsRow B e 7 v n xs) : ∃ a c, v = .slice a n c := by
  rcases h.2 with ⟨rfl, rfl⟩ | ⟨g, cap, cur, rfl, _⟩
  · exact ⟨none, 0, rfl⟩
  · exact ⟨_, cap, rfl⟩
theorem pn_apart {w : World} {B n g : Nat} {v : Value} {xs : List Value} {cs : Array Value} (h : w.ownsRow B 46 7 v n xs) (hg : w.heap[g]? = some (.cells cs 24 (0, 0))) : some g ≠ v.ownBlock := by
  rcases h.2 with ⟨rfl, _⟩ | ⟨k, cap, cur, rfl, _, hk, _⟩
  · simp [Value.ownBlock]
  · intro e
    simp [Value.ownBlock] at e
    subst e
    rw [hk] at hg
    injection hg with hg
    injection hg with _ hg _
    exact absurd hg (by decide)
def RetFl (B : Nat) (W : World) (l : Value) (want : List Pc) (e : Ending) (w' : World) : Prop :=
  ∃ l' ps, e = .returned l' ∧ ps.map Pn.core = want ∧ FR B W l w' l' ps
set_option maxRecDepth 100000 in
set_option maxHeartbeats 1600000 in
theorem flat_any (B : Nat) : ∀ (n : Nat) (t : Tr), SizeOf.sizeOf t < n → t.Sm → ∀ (l : Value) (ps : List Pn) (deep : Nat) (around : Int) (a : Option Addr) (c : Nat) (W : World), LiesN W (fun b => b < B) a t.sub → W.ownsRow B 46 7 l ps.length (ps.flatMap pnc) → B ≤ W.heap.size → ps.length ≤ 2001 → deep ≤ 101 →
    Calls Tryz.prog 21 #[l, nodeV t a c, .int .i64 (deep : Nat), .int .i64 around] W fun e w' => RetFl B W l (flT (ps.map Pn.core) t deep around) e w'
  | 0, t, h => absurd h (Nat.not_lt_zero _)
  | n + 1, t, hsz => fun hsm l ps deep around a c W hl hrow hB hps hdeep => by
    obtain ⟨iv, hvi, hv0, hv1, hv2⟩ := info_parts Tryz.infoP
    have HL : Hid (LiesN W (fun b => b < B) a t.sub) := hl
    have hlen := hsm.len
    have HR : Hid (W.ownsRow B 46 7 l ps.length (ps.flatMap pnc)) := hrow
    obtain ⟨la, lc, rfl⟩ := pn_shape hrow
    have HIH : Hid (∀ j (hj : j < t.sub.length) (l : Value) (ps : List Pn) (a : Option Addr) (c : Nat) (W : World) (d : Nat) (r : Int), LiesN W (fun b => b < B) a t.sub[j].sub → W.ownsRow B 46 7 l ps.length (ps.flatMap pnc) → B ≤ W.heap.size → ps.length ≤ 2001 → d ≤ 101 → Calls Tryz.prog 21 #[l, nodeV t.sub[j] a c, .int .i64 (d : Nat), .int .i64 r] W fun e w' => RetFl B W l (flT (ps.map Pn.core) t.sub[j] d r) e w') := fun j hj l ps a c W d r h1 h2 h3 h4 h5 => flat_any B n t.sub[j] (by have := t.sub_size j hj; omega) (hsm.at_ j hj) l ps d r a c W h1 h2 h3 h4 h5
    have HEq := flT_eq (ps.map Pn.core) t deep around
    rw [List.length_map] at HEq
    clear hl hsm hsz hrow
    unfold nodeV
    by_cases hstop : 2000 < ps.length ∨ 100 < deep
    · rw [if_pos hstop] at HEq
      have HQ : Hid _ := HEq
      have hcase : decide ((2000 : Int) < (ps.length : Int)) = true ∨ (decide ((2000 : Int) < (ps.length : Int)) = false ∧ decide ((100 : Int) < (deep : Int)) = true) := by
        by_cases h : 2000 < ps.length
        · left; simp; omega
        · right; exact ⟨by simp; omega, by simp; omega⟩
      clear hstop HEq
      rcases hcase with q1 | ⟨q1, q2⟩
      all_goals
        go_enter Tryz.func21, Tryz.ntmps21
        go_wp2
        go_ret
        exact ⟨_, ps, rfl, HQ.out.symm, (FR.refl HR.out).alloc _⟩
    · rw [if_neg hstop] at HEq
      have HQ : Hid _ := HEq
      have q1 : decide ((2000 : Int) < (ps.length : Int)) = false := by simp; omega
      have q2 : decide ((100 : Int) < (deep : Int)) = false := by simp; omega
      have q1' : ¬ 2000 < ps.length := by omega
      have q2' : ¬ 100 < deep := by omega
      clear hstop HEq
      obtain ⟨d1, HD⟩ : ∃ d1, Hid (d1 = deep + 1) := ⟨_, rfl⟩
      have hdi : (deep : Int) + 1 = (d1 : Int) := by rw [HD.out]; omega
      have hd101 : d1 ≤ 101 := by rw [HD.out]; omega
      have H7 : Hid (∀ j u, (pnc ⟨t, a, c, deep, around⟩)[j]? = some u → ((W.alloc (.cells #[.int .i64 t.id, .string t.nm, .int .i64 t.rep, .int .i64 t.kind, .slice a t.sub.length c] 24)).alloc (.cells #[.int .i64 t.id, .string t.nm, .int .i64 t.rep, .int .i64 t.kind, .slice a t.sub.length c, .int .i64 (deep : Nat), .int .i64 around] 46)).cell? ((⟨W.heap.size + 1, 0, none⟩ : Addr).add j) = some u) := fun j u h => by
        have := seven_cells (w := W.alloc (.cells #[.int .i64 t.id, .string t.nm, .int .i64 t.rep, .int .i64 t.kind, .slice a t.sub.length c] 24)) (T := 46) j u h
        rwa [show (W.alloc (.cells #[.int .i64 t.id, .string t.nm, .int .i64 t.rep, .int .i64 t.kind, .slice a t.sub.length c] 24)).heap.size = W.heap.size + 1 by simp] at this
      have HBox : Hid ((W.alloc (.cells #[.int .i64 t.id, .string t.nm, .int .i64 t.rep, .int .i64 t.kind, .slice a t.sub.length c] 24)).heap[W.heap.size]? = some (.cells #[.int .i64 t.id, .string t.nm, .int .i64 t.rep, .int .i64 t.kind, .slice a t.sub.length c] 24 (0, 0))) := heap_alloc_new W _
      go_enter Tryz.func21, Tryz.ntmps21
      go_wp2_with (at_builtin; refine wpList_append_where _ rfl _ _ 43 rfl B 46 iv (.agg #[.int .i64 0, .string ⟨#[]⟩, .int .i64 0, .int .i64 0, .slice none 0 0, .int .i64 0, .int .i64 0]) 7 80 Tryz.underlying43 hvi hv0 hv1 hv2 rfl (by decide) _ ps.length (ps.flatMap pnc) rfl ((HR.out.alloc _).alloc _) ⟨W.heap.size + 1, 0, none⟩ 1 1 (pnc ⟨t, a, c, deep, around⟩) rfl rfl H7.out (by intro u hu; simp [pnc] at hu; rcases hu with rfl | rfl | rfl | rfl | rfl | rfl | rfl <;> rfl) (by unfold maxLen; omega) (by omega) (by simp; omega) (by decide) ?_; intro l1 w1 hown1 hgrow1 hwh1)
      have HF1 : Hid (FR B W (.slice la ps.length lc) w1 l1 (ps ++ [⟨t, a, c, deep, around⟩])) := ((FR.refl HR.out).alloc _).push (p := ⟨t, a, c, deep, around⟩) hown1 hgrow1 hwh1
      have HB1 : Hid (w1.heap[W.heap.size]? = some (.cells #[.int .i64 t.id, .string t.nm, .int .i64 t.rep, .int .i64 t.kind, .slice a t.sub.length c] 24 (0, 0))) := by
        show _ = _
        exact (hgrow1.block W.heap.size (by simp; omega) (pn_apart (HR.out.alloc _) HBox.out)).trans (blk_alloc HBox.out)
      have HC1 : Hid ((ps ++ [⟨t, a, c, deep, around⟩] : List Pn).map Pn.core = flL (ps.map Pn.core ++ [⟨t, deep, around⟩]) (t.sub.take 0) d1 ps.length) := by
        show _ = _
        rw [List.take_zero, flL, List.map_append]
        rfl
      clear hown1 hgrow1 hwh1 H7 HBox
      go_loopw [0, 10] (fun lv x wr => ∃ (i : Nat) (qs : List Pn), i ≤ t.sub.length ∧ x = .int .i64 i ∧ Hid (qs.map Pn.core = flL (ps.map Pn.core ++ [⟨t, deep, around⟩]) (t.sub.take i) d1 ps.length) ∧ Hid (FR B W (.slice la ps.length lc) wr lv qs) ∧ Hid (wr.heap[W.heap.size]? = some (.cells #[.int .i64 t.id, .string t.nm, .int .i64 t.rep, .int .i64 t.kind, .slice a t.sub.length c] 24 (0, 0)))) (fun _ x _ => t.sub.length - (intOf x).toNat)
      case atStart => exact ⟨0, _, Nat.zero_le _, rfl, HC1, HF1, HB1⟩
      case round =>
        clear HC1 HF1 HB1
        obtain ⟨i, qs, hik, rfl, HC, HF, HB⟩ := hrel
        obtain ⟨⟨p0, p1, p2, p3, p4⟩, _⟩ := row_five HB.out
        obtain ⟨ka, kc, rfl⟩ := pn_shape HF.out.row
        have hgs := HF.out.grown.size
        by_cases hlt : i < t.sub.length
        · have HLr : Hid (LiesN wr (fun b => b < B) a t.sub) := HL.out.stay (fun _ h _ => h) (fun b h _ => (HF.out.below HR.out hB).block b h)
          obtain ⟨b, o, a1, c1, rfl, d0, e1, d2, d3, d4, hl1⟩ := HLr.out.at_ i hlt
          have HC2 : Hid _ := HIH.out i hlt (.slice ka qs.length kc) qs a1 c1 wr d1 (ps.length : Int) hl1 HF.out.row (by omega) (by
            have h := congrArg List.length HC.out
            rw [List.length_map] at h
            rw [h]
            exact flL_len _ _ _ _ (by rw [List.length_append, List.length_map]; simp; omega)) hd101
          clear hl1
          go_wp2_with fail
          refine Calls.mono HC2.out ?_
          clear HC2
          rintro e w2 ⟨l2, ps2, rfl, hcore, hF2⟩
          have HN : Hid (ps2.map Pn.core = flL (ps.map Pn.core ++ [⟨t, deep, around⟩]) (t.sub.take (i + 1)) d1 ps.length) := by
            show _ = _
            rw [hcore, HC.out, ← flL_take t.sub i hlt]
          have HF3 : Hid _ := HF.out.trans hF2
          have HB3 : Hid (w2.heap[W.heap.size]? = some (.cells #[.int .i64 t.id, .string t.nm, .int .i64 t.rep, .int .i64 t.kind, .slice (some ⟨b, o, none⟩) t.sub.length c] 24 (0, 0))) := by
            show _ = _
            rw [hF2.grown.block W.heap.size (lt_of_block HB.out) (pn_apart HF.out.row HB.out)]
            exact HB.out
          clear hcore hF2
          go_wp2
          go_roundw
          case rel => exact ⟨i + 1, ps2, by omega, by go_num, HN, HF3, HB3⟩
          case measure => simp [intOf]; omega
        · obtain rfl : i = t.sub.length := by omega
          have HN : Hid (qs.map Pn.core = flT (ps.map Pn.core) t deep around) := by
            show _ = _
            rw [HC.out, List.take_length, HQ.out, HD.out]
          go_wp2
          go_ret
          exact ⟨_, qs, rfl, HN.out, HF.out⟩
end Go.Proofs.YtmfijliladancaaGreatDoor

namespace Go.Proofs.YtmfijliladancaaGreatDoor
open Go.RowKit
/-- All nodes, the root first. -/
def fl (t : Tr) : List Pc := flT [] t 1 (-1)
theorem pnc_at : ∀ (ps : List Pn) (i k : Nat), k < 7 → (ps.flatMap pnc)[i * 7 + k]? = (ps[i]?).bind fun p => (pnc p)[k]?
  | [], i, k, _ => by simp
  | p :: ps, i, k, hk => by
    have hl : (pnc p).length = 7 := rfl
    rw [List.flatMap_cons]
    cases i with
    | zero => rw [List.getElem?_append_left (by omega)]; simp
    | succ i =>
      rw [List.getElem?_append_right (by omega), show (i + 1) * 7 + k - (pnc p).length = i * 7 + k by omega, pnc_at ps i k hk]
      simp
/-- What lies in a row of places. -/
theorem pn_cell {w : World} {B e : Nat} {a : Option Addr} {c : Nat} {ps : List Pn} (h : w.ownsRow B e 7 (.slice a ps.length c) ps.length (ps.flatMap pnc)) (i : Nat) (hi : i < ps.length) : ∃ g, a = some ⟨g, 0, none⟩ ∧ ∀ k u, k < 7 → (pnc ps[i])[k]? = some u → w.cell? ⟨g, i * 7 + k, none⟩ = some u := by
  rcases h.2 with ⟨_, h0⟩ | ⟨g, cap, cur, hv, _⟩
  · exact absurd hi (by omega)
  · have hv' := hv
    injection hv' with ha _ _
    refine ⟨g, ha, fun k u hk hu => ?_⟩
    have h1 := h.cells (g := g) (by rw [ha]; rfl) (i * 7 + k) u (by rw [pnc_at ps i k hk, List.getElem?_eq_getElem hi]; exact hu)
    rw [addr_plus, Nat.zero_add] at h1
    exact h1
/-- How many bytes the names are, together. -/
def nmS (l : List Pc) : Nat := (l.map fun p => p.t.nm.size).sum
theorem nmS_snoc (l : List Pc) (p : Pc) : nmS (l ++ [p]) = nmS l + p.t.nm.size := by simp [nmS]
theorem Tr.Sm.all {t : Tr} (h : t.Sm) : ∀ u ∈ t.sub, u.Sm := fun u hu => by
  obtain ⟨j, hj, rfl⟩ := List.getElem_of_mem hu
  exact h.at_ j hj
mutual
theorem flT_sm : ∀ (t : Tr) (acc : List Pc) (deep : Nat) (around : Int), t.Sm → (∀ p ∈ acc, p.t.Sm) → ∀ p ∈ flT acc t deep around, p.t.Sm
  | .node id nm rep kind sub, acc, deep, around, ht, h => by
    rw [flT]
    split
    · exact h
    · refine flL_sm sub _ _ _ (fun u hu => ht.all u hu) (fun p hp => ?_)
      rcases List.mem_append.1 hp with hp | hp
      · exact h p hp
      · rw [List.mem_singleton.1 hp]; exact ht
theorem flL_sm : ∀ (ts : List Tr) (acc : List Pc) (deep : Nat) (around : Int), (∀ u ∈ ts, u.Sm) → (∀ p ∈ acc, p.t.Sm) → ∀ p ∈ flL acc ts deep around, p.t.Sm
  | [], acc, deep, around, _, h => by rw [flL]; exact h
  | t :: ts, acc, deep, around, ht, h => by
    rw [flL]
    exact flL_sm ts _ _ _ (fun u hu => ht u (by simp [hu])) (flT_sm t _ _ _ (ht t (by simp)) h)
end
set_option maxRecDepth 100000 in
set_option maxHeartbeats 800000 in
theorem flatF_any (t : Tr) (hsm : t.Sm) (P : Nat → Prop) (a : Option Addr) (c : Nat) (W : World) (hl : LiesN W P a t.sub) :
    Calls Tryz.prog 12 #[nodeV t a c] W fun e w' => (∃ (ps : List Pn) (la : Option Addr) (lc : Nat), e = .returned (.slice la ps.length lc) ∧ ps.map Pn.core = fl t ∧ w'.ownsRow W.heap.size 46 7 (.slice la ps.length lc) ps.length (ps.flatMap pnc)) ∧ Below W.heap.size W w' := by
  have hb0 : ∀ ob : Obj, Below W.heap.size W (W.alloc ob) := fun ob => (Below.refl _ _).alloc (Nat.le_refl _) ob
  have HC : Hid (∀ ob : Obj, Calls Tryz.prog 21 #[.slice none 0 0, nodeV t a c, .int .i64 ((1 : Nat) : Int), .int .i64 (-1)] (W.alloc ob) fun e w' => RetFl (W.alloc ob).heap.size (W.alloc ob) (.slice none 0 0) (flT ([] : List Pc) t 1 (-1)) e w') := fun ob =>
    flat_any (W.alloc ob).heap.size (SizeOf.sizeOf t + 1) t (Nat.lt_succ_self _) hsm (.slice none 0 0) [] 1 (-1) a c (W.alloc ob) ((hl.keep (hb0 ob)).stay (fun _ _ h => h) (fun _ _ _ => rfl)) (World.ownsRow_nil _ _ _ _) (Nat.le_refl _) (by simp) (by omega)
  have H1 : Hid (∀ ob : Obj, Below W.heap.size W (W.alloc ob)) := hb0
  clear hl hb0
  unfold nodeV at *
  go_enter Tryz.func12, Tryz.ntmps12
  go_wp2_with fail
  refine Calls.mono (HC.out _) ?_
  rintro e w1 ⟨l', ps, rfl, hc, hF⟩
  obtain ⟨la, lc, rfl⟩ := pn_shape hF.row
  have HCo : Hid (ps.map Pn.core = fl t) := hc
  have HRw := hF.row
  have HBl := hF.below (qs := []) (World.ownsRow_nil _ _ _ _) (Nat.le_refl _)
  have HB : Hid (Below W.heap.size W w1) := (H1.out _).trans (HBl.mono (by simp))
  have HRw2 : Hid (w1.ownsRow W.heap.size 46 7 (.slice la ps.length lc) ps.length (ps.flatMap pnc)) := by
    refine ⟨HRw.1, ?_⟩
    rcases HRw.2 with h | ⟨g, cap, cur, h1, h2, h3⟩
    · exact .inl h
    · exact .inr ⟨g, cap, cur, h1, by simp at h2; omega, h3⟩
  clear hc hF HRw HBl
  go_wp2
  go_ret
  exact ⟨⟨ps, la, lc, rfl, HCo.out, HRw2.out⟩, HB.out⟩
set_option maxRecDepth 100000 in
set_option maxHeartbeats 1600000 in
theorem tame_any (t : Tr) (hsm : t.Sm) (P : Nat → Prop) (a : Option Addr) (c : Nat) (W : World) (hl : LiesN W P a t.sub) :
    Calls Tryz.prog 5 #[nodeV t a c] W fun e w' => e = .returned (.bool (decide ((fl t).length ≤ 200 ∧ nmS (fl t) ≤ 4000))) ∧ Below W.heap.size W w' := by
  have H1 : Hid (∀ ob : Obj, Below W.heap.size W (W.alloc ob)) := fun ob => (Below.refl _ _).alloc (Nat.le_refl _) ob
  have HC : Hid (∀ ob : Obj, Calls Tryz.prog 12 #[nodeV t a c] (W.alloc ob) fun e w' => (∃ (ps : List Pn) (la : Option Addr) (lc : Nat), e = .returned (.slice la ps.length lc) ∧ ps.map Pn.core = fl t ∧ w'.ownsRow (W.alloc ob).heap.size 46 7 (.slice la ps.length lc) ps.length (ps.flatMap pnc)) ∧ Below (W.alloc ob).heap.size (W.alloc ob) w') := fun ob => flatF_any t hsm P a c (W.alloc ob) (hl.keep (H1.out ob))
  have HIn : Hid (∀ p ∈ fl t, p.t.Sm) := flT_sm t [] 1 (-1) hsm (fun p hp => by simp at hp)
  have HLn : Hid ((fl t).length ≤ 2001) := flT_len t [] 1 (-1) (by simp)
  clear hl hsm
  unfold nodeV at *
  go_enter Tryz.func5, Tryz.ntmps5
  go_wp2_with fail
  refine Calls.mono (HC.out _) ?_
  rintro e w1 ⟨⟨ps, la, lc, rfl, hco, hrow⟩, hb⟩
  have HCo : Hid (ps.map Pn.core = fl t) := hco
  have HR : Hid _ := hrow
  have HB : Hid (Below W.heap.size W w1) := (H1.out _).trans (hb.mono (by simp))
  have HPL : Hid (ps.length = (fl t).length) := by show _ = _; rw [← hco, List.length_map]
  have hpl : ps.length ≤ 2001 := by rw [HPL.out]; exact HLn.out
  clear hco hrow hb HC
  go_wp2_with fail
  go_loopw [4, 5] (fun y x wr => ∃ i m : Nat, i ≤ ps.length ∧ x = .int .i64 i ∧ y = .int .i64 (m : Nat) ∧ m ≤ 2098200576 ∧ Hid (m ≤ i * 1048576) ∧ Hid (m = nmS ((fl t).take i)) ∧ wr = w1) (fun _ x _ => ps.length - (intOf x).toNat)
  case atStart => exact ⟨0, 0, Nat.zero_le _, rfl, rfl, Nat.zero_le _, Nat.zero_le _, rfl, rfl⟩
  case round =>
    obtain ⟨i, m, hik, rfl, rfl, hm, HMI, HM, rfl⟩ := hrel
    by_cases hlt : i < ps.length
    · obtain ⟨g, rfl, hc⟩ := pn_cell HR.out i hlt
      have hc1 := hc 1 _ (by omega) rfl
      have hfi : i < (fl t).length := by rw [← HPL.out]; exact hlt
      have HE : Hid ((fl t)[i].t = ps[i].t) := by
        show _ = _
        have h : (fl t)[i] = ps[i].core := by
          have := HCo.out
          simp only [← this, List.getElem_map]
        rw [h]
        rfl
      have hsz : ps[i].t.nm.size ≤ 1048576 := by
        have h := (HIn.out _ (List.getElem_mem hfi)).nm
        rw [HE.out] at h
        exact h
      have HN : Hid (m + ps[i].t.nm.size = nmS ((fl t).take (i + 1))) := by
        show _ = _
        rw [List.take_succ_eq_append_getElem hfi, nmS_snoc, HM.out, HE.out]
      clear hc
      generalize ps[i].t.nm = s at *
      have HMM : Hid (m + s.size ≤ (i + 1) * 1048576) := by show _ ≤ _; have := HMI.out; omega
      have hnum : m + s.size ≤ 2098200576 := by have := HMM.out; omega
      go_wp2
      go_roundw
      case rel => exact ⟨i + 1, m + s.size, by omega, by go_num, by go_num, hnum, HMM, HN, by first | rfl | trivial⟩
      case measure => simp [intOf]; omega
    · obtain rfl : i = ps.length := by omega
      have HM2 : Hid (m = nmS (fl t)) := by
        show _ = _
        rw [HM.out, HPL.out, List.take_length]
      by_cases h1 : ps.length ≤ 200
      · have q1 : decide ((ps.length : Int) ≤ 200) = true := by simp; omega
        go_wp2
        go_ret
        refine ⟨ret_b ?_, HB.out⟩
        have h2 := HM2.out
        have h3 := HPL.out
        first | (rw [h2, Bool.eq_iff_iff, decide_eq_true_iff, decide_eq_true_iff]; omega) | (rw [eq_comm, decide_eq_false_iff_not]; omega)
      · have q1 : decide ((ps.length : Int) ≤ 200) = false := by simp; omega
        go_wp2
        go_ret
        refine ⟨ret_b ?_, HB.out⟩
        have h2 := HM2.out
        have h3 := HPL.out
        first | (rw [h2, Bool.eq_iff_iff, decide_eq_true_iff, decide_eq_true_iff]; omega) | (rw [eq_comm, decide_eq_false_iff_not]; omega)
end Go.Proofs.YtmfijliladancaaGreatDoor
