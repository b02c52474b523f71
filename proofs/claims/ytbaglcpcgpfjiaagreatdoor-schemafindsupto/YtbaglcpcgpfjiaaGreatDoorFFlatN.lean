/-
  The reference's flat: the nodes of a schema, one behind the other.
-/
import Derived.Test.YtbaglcpcgpfjiaaGreatDoorFOwnN
namespace Go.Proofs.YtbaglcpcgpfjiaaGreatDoor
open Go.RowKit
theorem Tryz.infoP : (Tryz.prog.info? 49).map (fun i => (i.zero, i.size, i.bytes)) = some (some (.agg #[.int .i64 0, .string ⟨#[]⟩, .int .i64 0, .int .i64 0, .slice none 0 0, .int .i64 0, .int .i64 0]), 7, 80) := by kernel_rfl
/-- A node at a place: how deep, around it, and where its nodes lie. -/
structure Pn where
  t : Tr
  a : Option Addr
  c : Nat
  deep : Int
  around : Int
/-- .. without the places in memory. -/
structure Pc where
  t : Tr
  deep : Int
  around : Int
def Pn.core (p : Pn) : Pc := ⟨p.t, p.deep, p.around⟩
def pnc (p : Pn) : List Value := [.int .i64 p.t.id, .string p.t.nm, .int .i64 p.t.rep, .int .i64 p.t.kind, .slice p.a p.t.sub.length p.c, .int .i64 p.deep, .int .i64 p.around]
mutual
def flT (acc : List Pc) : Tr → Nat → Int → List Pc
  | .node id nm rep kind sub, deep, around => if 2000 < acc.length ∨ 100 < deep then acc else flL (acc ++ [⟨.node id nm rep kind sub, deep, around⟩]) sub (deep + 1) acc.length
def flL (acc : List Pc) : List Tr → Nat → Int → List Pc
  | [], _, _ => acc
  | t :: ts, deep, around => flL (flT acc t deep around) ts deep around
end
theorem flT_eq (acc : List Pc) (t : Tr) (deep : Nat) (around : Int) : flT acc t deep around = if 2000 < acc.length ∨ 100 < deep then acc else flL (acc ++ [⟨t, deep, around⟩]) t.sub (deep + 1) acc.length := by
  cases t with
  | node id nm rep kind sub => rw [flT]; rfl
theorem flL_app : ∀ (xs ys : List Tr) (acc : List Pc) (deep : Nat) (around : Int), flL acc (xs ++ ys) deep around = flL (flL acc xs deep around) ys deep around
  | [], ys, acc, deep, around => by rw [List.nil_append, flL]
  | x :: xs, ys, acc, deep, around => by rw [List.cons_append, flL, flL, flL_app xs ys]
theorem flL_take (ts : List Tr) (i : Nat) (hi : i < ts.length) (acc : List Pc) (deep : Nat) (around : Int) : flL acc (ts.take (i + 1)) deep around = flT (flL acc (ts.take i) deep around) ts[i] deep around := by
  rw [List.take_succ_eq_append_getElem hi, flL_app, flL, flL]
theorem seven_cells {w : World} {x0 x1 x2 x3 x4 x5 x6 : Value} {T : TypeId} : ∀ j u, [x0, x1, x2, x3, x4, x5, x6][j]? = some u → (w.alloc (.cells #[x0, x1, x2, x3, x4, x5, x6] T)).cell? ((⟨w.heap.size, 0, none⟩ : Addr).add j) = some u := fun j u h => by
  rw [addr_plus, Nat.zero_add]
  refine cell_alloc_at ?_ rfl
  simpa using h
/-- What a call of flat leaves: the row l' that came of l. -/
structure FR (B : Nat) (W : World) (l : Value) (w' : World) (l' : Value) (ps : List Pn) : Prop where
  row : w'.ownsRow B 49 7 l' ps.length (ps.flatMap pnc)
  grown : W.grownBy w' l.ownBlock
  where_ : l'.ownBlock = l.ownBlock ∨ ∀ k, l'.ownBlock = some k → W.heap.size ≤ k
theorem FR.refl {B : Nat} {W : World} {l : Value} {ps : List Pn} (h : W.ownsRow B 49 7 l ps.length (ps.flatMap pnc)) : FR B W l W l ps := ⟨h, ⟨rfl, rfl, rfl, Nat.le_refl _, fun _ _ _ => rfl⟩, Or.inl rfl⟩
theorem FR.trans {B : Nat} {W w1 w2 : World} {l l1 l2 : Value} {ps qs : List Pn} (h : FR B W l w1 l1 ps) (h2 : FR B w1 l1 w2 l2 qs) : FR B W l w2 l2 qs := by
  refine ⟨h2.row, ⟨h2.grown.os.trans h.grown.os, h2.grown.tape.trans h.grown.tape, h2.grown.output.trans h.grown.output, Nat.le_trans h.grown.size h2.grown.size, fun k hk hne => ?_⟩, ?_⟩
  · have hs := h.grown.size
    rw [h2.grown.block k (by omega) (fun e => ?_), h.grown.block k hk hne]
    rcases h.where_ with e1 | e1
    · exact hne (e.trans e1)
    · have := e1 k e.symm; omega
  · have hs := h.grown.size
    rcases h2.where_ with e2 | e2
    · rcases h.where_ with e1 | e1
      · exact Or.inl (e2.trans e1)
      · exact Or.inr fun k hk => e1 k (e2 ▸ hk)
    · exact Or.inr fun k hk => by have := e2 k hk; omega
theorem grow_alloc {w w2 : World} {ob : Obj} {r : Option Nat} (hg : (w.alloc ob).grownBy w2 r) : w.grownBy w2 r :=
  ⟨hg.os, hg.tape, hg.output, by have := hg.size; simp at this; omega, fun k hk hne => by rw [hg.block k (by simp; omega) hne, heap_alloc_old w ob hk]⟩
theorem FR.alloc {B : Nat} {W w1 : World} {l l1 : Value} {ps : List Pn} (h : FR B W l w1 l1 ps) (ob : Obj) : FR B W l (w1.alloc ob) l1 ps :=
  h.trans ⟨h.row.alloc ob, ⟨rfl, rfl, rfl, by simp, fun k hk _ => heap_alloc_old w1 ob hk⟩, Or.inl rfl⟩
theorem FR.push {B : Nat} {W wr w2 : World} {l l1 l2 : Value} {ps : List Pn} {p : Pn} (h : FR B W l wr l1 ps) {ob : Obj} (hown : w2.ownsRow B 49 7 l2 (ps.length + 1) (ps.flatMap pnc ++ pnc p)) (hg : (wr.alloc ob).grownBy w2 l1.ownBlock) (hw : l2.ownBlock = l1.ownBlock ∧ l1.ownBlock ≠ none ∨ l2.ownBlock = some (wr.alloc ob).heap.size) : FR B W l w2 l2 (ps ++ [p]) := by
  refine h.trans (ps := ps) ⟨by rw [List.length_append, List.flatMap_append]; simpa using hown, grow_alloc hg, ?_⟩
  rcases hw with ⟨e, _⟩ | e
  · exact Or.inl e
  · right
    intro k hk
    rw [e] at hk
    simp at hk
    omega
mutual
theorem flT_len : ∀ (t : Tr) (acc : List Pc) (deep : Nat) (around : Int), acc.length ≤ 2001 → (flT acc t deep around).length ≤ 2001
  | .node id nm rep kind sub, acc, deep, around, h => by
    rw [flT]
    split
    · exact h
    · exact flL_len sub _ _ _ (by rw [List.length_append]; simp; omega)
theorem flL_len : ∀ (ts : List Tr) (acc : List Pc) (deep : Nat) (around : Int), acc.length ≤ 2001 → (flL acc ts deep around).length ≤ 2001
  | [], acc, deep, around, h => by rw [flL]; exact h
  | t :: ts, acc, deep, around, h => by rw [flL]; exact flL_len ts _ _ _ (flT_len t _ _ _ h)
end
theorem FR.below {B : Nat} {W w1 : World} {l l1 : Value} {ps qs : List Pn} (h : FR B W l w1 l1 ps) (h0 : W.ownsRow B 49 7 l qs.length (qs.flatMap pnc)) (hB : B ≤ W.heap.size) : Below B W w1 :=
  ⟨h.grown.os, h.grown.tape, h.grown.output, h.grown.size, fun k hk => h.grown.block k (by omega) (fun e => by have := (h0.lt k e.symm).1; omega)⟩
theorem pnc_len (ps : List Pn) : (ps.flatMap pnc).length = ps.length * 7 := by
  induction ps with
  | nil => rfl
  | cons p ps ih => rw [List.flatMap_cons, List.length_append, ih]; simp [pnc]; omega
theorem pn_shape {w : World} {B e n : Nat} {v : Value} {xs : List Value} (h : w.ownsRow B e 7 v n xs) : ∃ a c, v = .slice a n c := by
  rcases h.2 with ⟨rfl, rfl⟩ | ⟨g, cap, cur, rfl, _⟩
  · exact ⟨none, 0, rfl⟩
  · exact ⟨_, cap, rfl⟩
theorem pn_apart {w : World} {B n g : Nat} {v : Value} {xs : List Value} {cs : Array Value} (h : w.ownsRow B 49 7 v n xs) (hg : w.heap[g]? = some (.cells cs 24 (0, 0))) : some g ≠ v.ownBlock := by
  rcases h.2 with ⟨rfl, _⟩ | ⟨k, cap, cur, rfl, _, hk, _⟩
  · simp [Value.ownBlock]
  · intro e
    simp [Value.ownBlock] at e
    subst e
    rw [hk] at hg
    injection hg with hg
    injection hg with _ hg _
    exact absurd hg (by decide)
def RetFl (B : Nat) (W : World) (l : Value) (want : List Pc) (e : Ending) (w' : World) : Prop :=
  ∃ l' ps, e = .returned l' ∧ ps.map Pn.core = want ∧ FR B W l w' l' ps
set_option maxRecDepth 100000 in
set_option maxHeartbeats 1600000 in
theorem flat_any (B : Nat) : ∀ (n : Nat) (t : Tr), SizeOf.sizeOf t < n → t.Sm → ∀ (l : Value) (ps : List Pn) (deep : Nat) (around : Int) (a : Option Addr) (c : Nat) (W : World), LiesN W (fun b => b < B) a t.sub → W.ownsRow B 49 7 l ps.length (ps.flatMap pnc) → B ≤ W.heap.size → ps.length ≤ 2001 → deep ≤ 101 →
    Calls Tryz.prog 30 #[l, nodeV t a c, .int .i64 (deep : Nat), .int .i64 around] W fun e w' => RetFl B W l (flT (ps.map Pn.core) t deep around) e w'
  | 0, t, h => absurd h (Nat.not_lt_zero _)
  | n + 1, t, hsz => fun hsm l ps deep around a c W hl hrow hB hps hdeep => by
    obtain ⟨iv, hvi, hv0, hv1, hv2⟩ := info_parts Tryz.infoP
    have HL : Hid (LiesN W (fun b => b < B) a t.sub) := hl
    have hlen := hsm.len
    have HR : Hid (W.ownsRow B 49 7 l ps.length (ps.flatMap pnc)) := hrow
    obtain ⟨la, lc, rfl⟩ := pn_shape hrow
    have HIH : Hid (∀ j (hj : j < t.sub.length) (l : Value) (ps : List Pn) (a : Option Addr) (c : Nat) (W : World) (d : Nat) (r : Int), LiesN W (fun b => b < B) a t.sub[j].sub → W.ownsRow B 49 7 l ps.length (ps.flatMap pnc) → B ≤ W.heap.size → ps.length ≤ 2001 → d ≤ 101 → Calls Tryz.prog 30 #[l, nodeV t.sub[j] a c, .int .i64 (d : Nat), .int .i64 r] W fun e w' => RetFl B W l (flT (ps.map Pn.core) t.sub[j] d r) e w') := fun j hj l ps a c W d r h1 h2 h3 h4 h5 => flat_any B n t.sub[j] (by have := t.sub_size j hj; omega) (hsm.at_ j hj) l ps d r a c W h1 h2 h3 h4 h5
    have HEq := flT_eq (ps.map Pn.core) t deep around
    rw [List.length_map] at HEq
    clear hl hsm hsz hrow
    unfold nodeV
    by_cases hstop : 2000 < ps.length ∨ 100 < deep
    · rw [if_pos hstop] at HEq
      have HQ : Hid _ := HEq
      have hcase : decide ((2000 : Int) < (ps.length : Int)) = true ∨ (decide ((2000 : Int) < (ps.length : Int)) = false ∧ decide ((100 : Int) < (deep : Int)) = true) := by
        by_cases h : 2000 < ps.length
        · left; simp; omega
        · right; exact ⟨by simp; omega, by simp; omega⟩
      clear hstop HEq
      rcases hcase with q1 | ⟨q1, q2⟩
      all_goals
        go_enter Tryz.func30, Tryz.ntmps30
        go_wp2
        go_ret
        exact ⟨_, ps, rfl, HQ.out.symm, (FR.refl HR.out).alloc _⟩
    · rw [if_neg hstop] at HEq
      have HQ : Hid _ := HEq
      have q1 : decide ((2000 : Int) < (ps.length : Int)) = false := by simp; omega
      have q2 : decide ((100 : Int) < (deep : Int)) = false := by simp; omega
      have q1' : ¬ 2000 < ps.length := by omega
      have q2' : ¬ 100 < deep := by omega
      clear hstop HEq
      obtain ⟨d1, HD⟩ : ∃ d1, Hid (d1 = deep + 1) := ⟨_, rfl⟩
      have hdi : (deep : Int) + 1 = (d1 : Int) := by rw [HD.out]; omega
      have hd101 : d1 ≤ 101 := by rw [HD.out]; omega
      have H7 : Hid (∀ j u, (pnc ⟨t, a, c, deep, around⟩)[j]? = some u → ((W.alloc (.cells #[.int .i64 t.id, .string t.nm, .int .i64 t.rep, .int .i64 t.kind, .slice a t.sub.length c] 24)).alloc (.cells #[.int .i64 t.id, .string t.nm, .int .i64 t.rep, .int .i64 t.kind, .slice a t.sub.length c, .int .i64 (deep : Nat), .int .i64 around] 49)).cell? ((⟨W.heap.size + 1, 0, none⟩ : Addr).add j) = some u) := fun j u h => by
        have := seven_cells (w := W.alloc (.cells #[.int .i64 t.id, .string t.nm, .int .i64 t.rep, .int .i64 t.kind, .slice a t.sub.length c] 24)) (T := 49) j u h
        rwa [show (W.alloc (.cells #[.int .i64 t.id, .string t.nm, .int .i64 t.rep, .int .i64 t.kind, .slice a t.sub.length c] 24)).heap.size = W.heap.size + 1 by simp] at this
      have HBox : Hid ((W.alloc (.cells #[.int .i64 t.id, .string t.nm, .int .i64 t.rep, .int .i64 t.kind, .slice a t.sub.length c] 24)).heap[W.heap.size]? = some (.cells #[.int .i64 t.id, .string t.nm, .int .i64 t.rep, .int .i64 t.kind, .slice a t.sub.length c] 24 (0, 0))) := heap_alloc_new W _
      go_enter Tryz.func30, Tryz.ntmps30
      go_wp2_with (at_builtin; refine wpList_append_where _ rfl _ _ 46 rfl B 49 iv (.agg #[.int .i64 0, .string ⟨#[]⟩, .int .i64 0, .int .i64 0, .slice none 0 0, .int .i64 0, .int .i64 0]) 7 80 Tryz.underlying46 hvi hv0 hv1 hv2 rfl (by decide) _ ps.length (ps.flatMap pnc) rfl ((HR.out.alloc _).alloc _) ⟨W.heap.size + 1, 0, none⟩ 1 1 (pnc ⟨t, a, c, deep, around⟩) rfl rfl H7.out (by intro u hu; simp [pnc] at hu; rcases hu with rfl | rfl | rfl | rfl | rfl | rfl | rfl <;> rfl) (by unfold maxLen; omega) (by omega) (by simp; omega) (by decide) ?_; intro l1 w1 hown1 hgrow1 hwh1)
      have HF1 : Hid (FR B W (.slice la ps.length lc) w1 l1 (ps ++ [⟨t, a, c, deep, around⟩])) := ((FR.refl HR.out).alloc _).push (p := ⟨t, a, c, deep, around⟩) hown1 hgrow1 hwh1
      have HB1 : Hid (w1.heap[W.heap.size]? = some (.cells #[.int .i64 t.id, .string t.nm, .int .i64 t.rep, .int .i64 t.kind, .slice a t.sub.length c] 24 (0, 0))) := by
        show _ = _
        exact (hgrow1.block W.heap.size (by simp; omega) (pn_apart (HR.out.alloc _) HBox.out)).trans (blk_alloc HBox.out)
      have HC1 : Hid ((ps ++ [⟨t, a, c, deep, around⟩] : List Pn).map Pn.core = flL (ps.map Pn.core ++ [⟨t, deep, around⟩]) (t.sub.take 0) d1 ps.length) := by
        show _ = _
        rw [List.take_zero, flL, List.map_append]
        rfl
      clear hown1 hgrow1 hwh1 H7 HBox
      go_loopw [0, 10] (fun lv x wr => ∃ (i : Nat) (qs : List Pn), i ≤ t.sub.length ∧ x = .int .i64 i ∧ Hid (qs.map Pn.core = flL (ps.map Pn.core ++ [⟨t, deep, around⟩]) (t.sub.take i) d1 ps.length) ∧ Hid (FR B W (.slice la ps.length lc) wr lv qs) ∧ Hid (wr.heap[W.heap.size]? = some (.cells #[.int .i64 t.id, .string t.nm, .int .i64 t.rep, .int .i64 t.kind, .slice a t.sub.length c] 24 (0, 0)))) (fun _ x _ => t.sub.length - (intOf x).toNat)
      case atStart => exact ⟨0, _, Nat.zero_le _, rfl, HC1, HF1, HB1⟩
      case round =>
        clear HC1 HF1 HB1
        obtain ⟨i, qs, hik, rfl, HC, HF, HB⟩ := hrel
        obtain ⟨⟨p0, p1, p2, p3, p4⟩, _⟩ := row_five HB.out
        obtain ⟨ka, kc, rfl⟩ := pn_shape HF.out.row
        have hgs := HF.out.grown.size
        by_cases hlt : i < t.sub.length
        · have HLr : Hid (LiesN wr (fun b => b < B) a t.sub) := HL.out.stay (fun _ h _ => h) (fun b h _ => (HF.out.below HR.out hB).block b h)
          obtain ⟨b, o, a1, c1, rfl, d0, e1, d2, d3, d4, hl1⟩ := HLr.out.at_ i hlt
          have HC2 : Hid _ := HIH.out i hlt (.slice ka qs.length kc) qs a1 c1 wr d1 (ps.length : Int) hl1 HF.out.row (by omega) (by
            have h := congrArg List.length HC.out
            rw [List.length_map] at h
            rw [h]
            exact flL_len _ _ _ _ (by rw [List.length_append, List.length_map]; simp; omega)) hd101
          clear hl1
          go_wp2_with fail
          refine Calls.mono HC2.out ?_
          clear HC2
          rintro e w2 ⟨l2, ps2, rfl, hcore, hF2⟩
          have HN : Hid (ps2.map Pn.core = flL (ps.map Pn.core ++ [⟨t, deep, around⟩]) (t.sub.take (i + 1)) d1 ps.length) := by
            show _ = _
            rw [hcore, HC.out, ← flL_take t.sub i hlt]
          have HF3 : Hid _ := HF.out.trans hF2
          have HB3 : Hid (w2.heap[W.heap.size]? = some (.cells #[.int .i64 t.id, .string t.nm, .int .i64 t.rep, .int .i64 t.kind, .slice (some ⟨b, o, none⟩) t.sub.length c] 24 (0, 0))) := by
            show _ = _
            rw [hF2.grown.block W.heap.size (lt_of_block HB.out) (pn_apart HF.out.row HB.out)]
            exact HB.out
          clear hcore hF2
          go_wp2
          go_roundw
          case rel => exact ⟨i + 1, ps2, by omega, by go_num, HN, HF3, HB3⟩
          case measure => simp [intOf]; omega
        · obtain rfl : i = t.sub.length := by omega
          have HN : Hid (qs.map Pn.core = flT (ps.map Pn.core) t deep around) := by
            show _ = _
            rw [HC.out, List.take_length, HQ.out, HD.out]
          go_wp2
          go_ret
          exact ⟨_, qs, rfl, HN.out, HF.out⟩
end Go.Proofs.YtbaglcpcgpfjiaaGreatDoor
