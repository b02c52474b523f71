/-
  The reference's Flat, and the law's tame: of which schemas something is said.
  A walk through a schema, told as lists: what it answers, what it keeps; the words, without the program.
-/
import Derived.Test.YtajaoglnembkpaaGreatDoorPFlatN
import Derived.Test.YtajaoglnembkpaaGreatDoorPOwnN
namespace Go.Proofs.YtajaoglnembkpaaGreatDoor
open Go.RowKit
/-- All nodes, the root first. -/
def fl (t : Tr) : List Pc := flT [] t 1 (-1)
theorem pnc_at : ∀ (ps : List Pn) (i k : Nat), k < 7 → (ps.flatMap pnc)[i * 7 + k]? = (ps[i]?).bind fun p => (pnc p)[k]?
  | [], i, k, _ => by simp
  | p :: ps, i, k, hk => by
    have hl : (pnc p).length = 7 := rfl
    rw [List.flatMap_cons]
    cases i with
    | zero => rw [List.getElem?_append_left (by omega)]; simp
    | succ i =>
      rw [List.getElem?_append_right (by omega), show (i + 1) * 7 + k - (pnc p).length = i * 7 + k by omega, pnc_at ps i k hk]
      simp
/-- What lies in a row of places. -/
theorem pn_cell {w : World} {B e : Nat} {a : Option Addr} {c : Nat} {ps : List Pn} (h : w.ownsRow B e 7 (.slice a ps.length c) ps.length (ps.flatMap pnc)) (i : Nat) (hi : i < ps.length) : ∃ g, a = some ⟨g, 0, none⟩ ∧ ∀ k u, k < 7 → (pnc ps[i])[k]? = some u → w.cell? ⟨g, i * 7 + k, none⟩ = some u := by
  rcases h.2 with ⟨_, h0⟩ | ⟨g, cap, cur, hv, _⟩
  · exact absurd hi (by omega)
  · have hv' := hv
    injection hv' with ha _ _
    refine ⟨g, ha, fun k u hk hu => ?_⟩
    have h1 := h.cells (g := g) (by rw [ha]; rfl) (i * 7 + k) u (by rw [pnc_at ps i k hk, List.getElem?_eq_getElem hi]; exact hu)
    rw [addr_plus, Nat.zero_add] at h1
    exact h1
/-- How many bytes the names are, together. -/
def nmS (l : List Pc) : Nat := (l.map fun p => p.t.nm.size).sum
theorem nmS_snoc (l : List Pc) (p : Pc) : nmS (l ++ [p]) = nmS l + p.t.nm.size := by simp [nmS]
theorem Tr.Sm.all {t : Tr} (h : t.Sm) : ∀ u ∈ t.sub, u.Sm := fun u hu => by
  obtain ⟨j, hj, rfl⟩ := List.getElem_of_mem hu
  exact h.at_ j hj
mutual
theorem flT_sm : ∀ (t : Tr) (acc : List Pc) (deep : Nat) (around : Int), t.Sm → (∀ p ∈ acc, p.t.Sm) → ∀ p ∈ flT acc t deep around, p.t.Sm
  | .node id nm rep kind sub, acc, deep, around, ht, h => by
    rw [flT]
    split
    · exact h
    · refine flL_sm sub _ _ _ (fun u hu => ht.all u hu) (fun p hp => ?_)
      rcases List.mem_append.1 hp with hp | hp
      · exact h p hp
      · rw [List.mem_singleton.1 hp]; exact ht
theorem flL_sm : ∀ (ts : List Tr) (acc : List Pc) (deep : Nat) (around : Int), (∀ u ∈ ts, u.Sm) → (∀ p ∈ acc, p.t.Sm) → ∀ p ∈ flL acc ts deep around, p.t.Sm
  | [], acc, deep, around, _, h => by rw [flL]; exact h
  | t :: ts, acc, deep, around, ht, h => by
    rw [flL]
    exact flL_sm ts _ _ _ (fun u hu => ht u (by simp [hu])) (flT_sm t _ _ _ (ht t (by simp)) h)
end
set_option maxRecDepth 100000 in
set_option maxHeartbeats 800000 in
theorem flatF_any (t : Tr) (hsm : t.Sm) (P : Nat → Prop) (a : Option Addr) (c : Nat) (W : World) (hl : LiesN W P a t.sub) :
    Calls Tryz.prog 14 #[nodeV t a c] W fun e w' => (∃ (ps : List Pn) (la : Option Addr) (lc : Nat), e = .returned (.slice la ps.length lc) ∧ ps.map Pn.core = fl t ∧ w'.ownsRow W.heap.size 49 7 (.slice la ps.length lc) ps.length (ps.flatMap pnc)) ∧ Below W.heap.size W w' := by
  have hb0 : ∀ ob : Obj, Below W.heap.size W (W.alloc ob) := fun ob => (Below.refl _ _).alloc (Nat.le_refl _) ob
  have HC : Hid (∀ ob : Obj, Calls Tryz.prog 25 #[.slice none 0 0, nodeV t a c, .int .i64 ((1 : Nat) : Int), .int .i64 (-1)] (W.alloc ob) fun e w' => RetFl (W.alloc ob).heap.size (W.alloc ob) (.slice none 0 0) (flT ([] : List Pc) t 1 (-1)) e w') := fun ob =>
    flat_any (W.alloc ob).heap.size (SizeOf.sizeOf t + 1) t (Nat.lt_succ_self _) hsm (.slice none 0 0) [] 1 (-1) a c (W.alloc ob) ((hl.keep (hb0 ob)).stay (fun _ _ h => h) (fun _ _ _ => rfl)) (World.ownsRow_nil _ _ _ _) (Nat.le_refl _) (by simp) (by omega)
  have H1 : Hid (∀ ob : Obj, Below W.heap.size W (W.alloc ob)) := hb0
  clear hl hb0
  unfold nodeV at *
  go_enter Tryz.func14, Tryz.ntmps14
  go_wp2_with fail
  refine Calls.mono (HC.out _) ?_
  rintro e w1 ⟨l', ps, rfl, hc, hF⟩
  obtain ⟨la, lc, rfl⟩ := pn_shape hF.row
  have HCo : Hid (ps.map Pn.core = fl t) := hc
  have HRw := hF.row
  have HBl := hF.below (qs := []) (World.ownsRow_nil _ _ _ _) (Nat.le_refl _)
  have HB : Hid (Below W.heap.size W w1) := (H1.out _).trans (HBl.mono (by simp))
  have HRw2 : Hid (w1.ownsRow W.heap.size 49 7 (.slice la ps.length lc) ps.length (ps.flatMap pnc)) := by
    refine ⟨HRw.1, ?_⟩
    rcases HRw.2 with h | ⟨g, cap, cur, h1, h2, h3⟩
    · exact .inl h
    · exact .inr ⟨g, cap, cur, h1, by simp at h2; omega, h3⟩
  clear hc hF HRw HBl
  go_wp2
  go_ret
  exact ⟨⟨ps, la, lc, rfl, HCo.out, HRw2.out⟩, HB.out⟩
set_option maxRecDepth 100000 in
set_option maxHeartbeats 1600000 in
theorem tame_any (t : Tr) (hsm : t.Sm) (P : Nat → Prop) (a : Option Addr) (c : Nat) (W : World) (hl : LiesN W P a t.sub) :
    Calls Tryz.prog 5 #[nodeV t a c] W fun e w' => e = .returned (.bool (decide ((fl t).length ≤ 200 ∧ nmS (fl t) ≤ 4000))) ∧ Below W.heap.size W w' := by
  have H1 : Hid (∀ ob : Obj, Below W.heap.size W (W.alloc ob)) := fun ob => (Below.refl _ _).alloc (Nat.le_refl _) ob
  have HC : Hid (∀ ob : Obj, Calls Tryz.prog 14 #[nodeV t a c] (W.alloc ob) fun e w' => (∃ (ps : List Pn) (la : Option Addr) (lc : Nat), e = .returned (.slice la ps.length lc) ∧ ps.map Pn.core = fl t ∧ w'.ownsRow (W.alloc ob).heap.size 49 7 (.slice la ps.length lc) ps.length (ps.flatMap pnc)) ∧ Below (W.alloc ob).heap.size (W.alloc ob) w') := fun ob => flatF_any t hsm P a c (W.alloc ob) (hl.keep (H1.out ob))
  have HIn : Hid (∀ p ∈ fl t, p.t.Sm) := flT_sm t [] 1 (-1) hsm (fun p hp => by simp at hp)
  have HLn : Hid ((fl t).length ≤ 2001) := flT_len t [] 1 (-1) (by simp)
  clear hl hsm
  unfold nodeV at *
  go_enter Tryz.func5, Tryz.ntmps5
  go_wp2_with fail
  refine Calls.mono (HC.out _) ?_
  rintro e w1 ⟨⟨ps, la, lc, rfl, hco, hrow⟩, hb⟩
  have HCo : Hid (ps.map Pn.core = fl t) := hco
  have HR : Hid _ := hrow
  have HB : Hid (Below W.heap.size W w1) := (H1.out _).trans (hb.mono (by simp))
  have HPL : Hid (ps.length = (fl t).length) := by show _ = _; rw [← hco, List.length_map]
  have hpl : ps.length ≤ 2001 := by rw [HPL.out]; exact HLn.out
  clear hco hrow hb HC
  go_wp2_with fail
  go_loopw [4, 5] (fun y x wr => ∃ i m : Nat, i ≤ ps.length ∧ x = .int .i64 i ∧ y = .int .i64 (m : Nat) ∧ m ≤ 2098200576 ∧ Hid (m ≤ i * 1048576) ∧ Hid (m = nmS ((fl t).take i)) ∧ wr = w1) (fun _ x _ => ps.length - (intOf x).toNat)
  case atStart => exact ⟨0, 0, Nat.zero_le _, rfl, rfl, Nat.zero_le _, Nat.zero_le _, rfl, rfl⟩
  case round =>
    obtain ⟨i, m, hik, rfl, rfl, hm, HMI, HM, rfl⟩ := hrel
    by_cases hlt : i < ps.length
    · obtain ⟨g, rfl, hc⟩ := pn_cell HR.out i hlt
      have hc1 := hc 1 _ (by omega) rfl
      have hfi : i < (fl t).length := by rw [← HPL.out]; exact hlt
      have HE : Hid ((fl t)[i].t = ps[i].t) := by
        show _ = _
        have h : (fl t)[i] = ps[i].core := by
          have := HCo.out
          simp only [← this, List.getElem_map]
        rw [h]
        rfl
      have hsz : ps[i].t.nm.size ≤ 1048576 := by
        have h := (HIn.out _ (List.getElem_mem hfi)).nm
        rw [HE.out] at h
        exact h
      have HN : Hid (m + ps[i].t.nm.size = nmS ((fl t).take (i + 1))) := by
        show _ = _
        rw [List.take_succ_eq_append_getElem hfi, nmS_snoc, HM.out, HE.out]
      clear hc
      generalize ps[i].t.nm = s at *
      have HMM : Hid (m + s.size ≤ (i + 1) * 1048576) := by show _ ≤ _; have := HMI.out; omega
      have hnum : m + s.size ≤ 2098200576 := by have := HMM.out; omega
      go_wp2
      go_roundw
      case rel => exact ⟨i + 1, m + s.size, by omega, by go_num, by go_num, hnum, HMM, HN, by first | rfl | trivial⟩
      case measure => simp [intOf]; omega
    · obtain rfl : i = ps.length := by omega
      have HM2 : Hid (m = nmS (fl t)) := by
        show _ = _
        rw [HM.out, HPL.out, List.take_length]
      by_cases h1 : ps.length ≤ 200
      · have q1 : decide ((ps.length : Int) ≤ 200) = true := by simp; omega
        go_wp2
        go_ret
        refine ⟨ret_b ?_, HB.out⟩
        have h2 := HM2.out
        have h3 := HPL.out
        first | (rw [h2, Bool.eq_iff_iff, decide_eq_true_iff, decide_eq_true_iff]; omega) | (rw [eq_comm, decide_eq_false_iff_not]; omega)
      · have q1 : decide ((ps.length : Int) ≤ 200) = false := by simp; omega
        go_wp2
        go_ret
        refine ⟨ret_b ?_, HB.out⟩
        have h2 := HM2.out
        have h3 := HPL.out
        first | (rw [h2, Bool.eq_iff_iff, decide_eq_true_iff, decide_eq_true_iff]; omega) | (rw [eq_comm, decide_eq_false_iff_not]; omega)
end Go.Proofs.YtajaoglnembkpaaGreatDoor

namespace Go.Proofs.YtajaoglnembkpaaGreatDoor
open Go.RowKit
mutual
/-- How many nodes. -/
def Tr.cnt : Tr → Nat
  | .node _ _ _ _ sub => 1 + cntL sub
def cntL : List Tr → Nat
  | [] => 0
  | t :: ts => t.cnt + cntL ts
end
theorem Tr.cnt_eq (t : Tr) : t.cnt = 1 + cntL t.sub := by
  cases t with
  | node id nm rep kind sub => rw [Tr.cnt]; rfl
theorem cntL_drop (ts : List Tr) (i : Nat) (h : i < ts.length) : cntL (ts.drop i) = ts[i].cnt + cntL (ts.drop (i + 1)) := by
  rw [List.drop_eq_getElem_cons h, cntL]
section
variable {S : Type} (st : S → List Tr → Tr → Bool × S)
mutual
/-- What a walk answers, and what its visitor holds behind it. -/
def wkT (s : S) (path : List Tr) : Tr → Bool × S
  | .node id nm rep kind sub => if (st s path (.node id nm rep kind sub)).1 = true then wkL (st s path (.node id nm rep kind sub)).2 (path ++ [.node id nm rep kind sub]) sub else st s path (.node id nm rep kind sub)
def wkL (s : S) (path : List Tr) : List Tr → Bool × S
  | [] => (true, s)
  | t :: ts => if (wkT s path t).1 = true then wkL (wkT s path t).2 path ts else wkT s path t
end
theorem wkT_eq (s : S) (path : List Tr) (t : Tr) : wkT st s path t = if (st s path t).1 = true then wkL st (st s path t).2 (path ++ [t]) t.sub else st s path t := by
  cases t with
  | node id nm rep kind sub => rw [wkT]; rfl
mutual
/-- What a step adds at most one to, a walk adds no more to than there are nodes. -/
theorem wkT_more (μ : S → Nat) (h : ∀ s path t, μ (st s path t).2 ≤ μ s + 1) : ∀ (t : Tr) (s : S) (path : List Tr), μ (wkT st s path t).2 ≤ μ s + t.cnt
  | .node id nm rep kind sub, s, path => by
    have h1 := h s path (.node id nm rep kind sub)
    rw [wkT, Tr.cnt]
    split
    · have h2 := wkL_more μ h sub (st s path (.node id nm rep kind sub)).2 (path ++ [.node id nm rep kind sub])
      omega
    · omega
theorem wkL_more (μ : S → Nat) (h : ∀ s path t, μ (st s path t).2 ≤ μ s + 1) : ∀ (ts : List Tr) (s : S) (path : List Tr), μ (wkL st s path ts).2 ≤ μ s + cntL ts
  | [], s, path => by rw [wkL, cntL]; exact Nat.le_refl _
  | t :: ts, s, path => by
    have h1 := wkT_more μ h t s path
    rw [wkL, cntL]
    split
    · have h2 := wkL_more μ h ts (wkT st s path t).2 path
      omega
    · omega
end
theorem wkL_app : ∀ (xs ys : List Tr) (s : S) (path : List Tr), wkL st s path (xs ++ ys) = if (wkL st s path xs).1 = true then wkL st (wkL st s path xs).2 path ys else wkL st s path xs
  | [], ys, s, path => by rw [List.nil_append, wkL]; rfl
  | x :: xs, ys, s, path => by
    rw [List.cons_append, wkL, wkL]
    by_cases h : (wkT st s path x).1 = true
    · rw [if_pos h, if_pos h, wkL_app xs ys]
    · rw [if_neg h, if_neg h, if_neg h]
theorem wkL_take (s : S) (path : List Tr) (ts : List Tr) (i : Nat) (hi : i < ts.length) (s1 : S) (h : wkL st s path (ts.take i) = (true, s1)) : wkL st s path (ts.take (i + 1)) = wkT st s1 path ts[i] := by
  rw [List.take_succ_eq_append_getElem hi, wkL_app, h]
  show (if true = true then _ else _) = _
  rw [if_pos rfl, wkL]
  by_cases h1 : (wkT st s1 path ts[i]).1 = true
  · rw [if_pos h1, wkL, ← h1]
  · rw [if_neg h1]
theorem wkL_stop (s : S) (path : List Tr) (ts : List Tr) (i : Nat) (h : (wkL st s path (ts.take i)).1 = false) : wkL st s path ts = wkL st s path (ts.take i) := by
  have e := wkL_app st (ts.take i) (ts.drop i) s path
  rw [List.take_append_drop, h] at e
  rw [e]
  rfl
end
def IsNB (W : World) (k : Nat) : Prop := ∃ cs z, W.heap[k]? = some (.cells cs 24 z)
/-- The nodes around one lie in a row of the walk's own. -/
def PathR (W : World) (B Bw : Nat) (v : Value) (path : List Tr) : Prop :=
  ∃ ncs : List (List Value), ncs.length = path.length ∧ (∀ x ∈ ncs, x.length = 5) ∧ W.ownsRow Bw 24 5 v path.length ncs.flatten ∧ ∀ j (h : j < path.length) (h' : j < ncs.length), NodeC W (fun b => b < B) path[j] ncs[j]
/-- What a visitor keeps. -/
structure VFr (B Bw : Nat) (W w' : World) : Prop where
  below : Below B W w'
  rows : ∀ k, Bw ≤ k → k < W.heap.size → IsNB W k → w'.heap[k]? = W.heap[k]?
/-- What a walk keeps. -/
structure WFr (B Bw : Nat) (v : Value) (W w' : World) : Prop where
  below : Below B W w'
  rows : ∀ k, Bw ≤ k → k < W.heap.size → IsNB W k → some k ≠ v.ownBlock → w'.heap[k]? = W.heap[k]?
theorem own_same {w w' : World} {base e size n : Nat} {v : Value} {xs : List Value} (h : w.ownsRow base e size v n xs) (hs : ∀ k, v.ownBlock = some k → w'.heap[k]? = w.heap[k]?) : w'.ownsRow base e size v n xs := by
  refine ⟨h.1, ?_⟩
  rcases h.2 with h0 | ⟨g, cap, cur, rfl, hbg, hg, rest⟩
  · exact .inl h0
  · exact .inr ⟨g, cap, cur, rfl, hbg, (hs g rfl).trans hg, rest⟩
theorem own_block {w : World} {base e size n : Nat} {v : Value} {xs : List Value} (h : w.ownsRow base e size v n xs) {k : Nat} (hk : v.ownBlock = some k) : base ≤ k ∧ k < w.heap.size ∧ ∃ cs, w.heap[k]? = some (.cells cs e (0, 0)) := by
  rcases h.2 with ⟨rfl, _⟩ | ⟨g, cap, cur, rfl, hbg, hg, rest⟩
  · simp [Value.ownBlock] at hk
  · simp only [Value.ownBlock, Option.some.injEq] at hk
    subst hk
    exact ⟨hbg, lt_of_block hg, cur, hg⟩
/-- A row's beginning is a row. -/
theorem own_begin {w : World} {base e size n m cap : Nat} {a : Option Addr} {xs ys : List Value} (hx : xs.length = n * size) (h : w.ownsRow base e size (.slice a (n + m) cap) (n + m) (xs ++ ys)) (hn : a ≠ none) : w.ownsRow base e size (.slice a n cap) n xs := by
  refine ⟨hx, ?_⟩
  rcases h.2 with ⟨h0, _⟩ | ⟨g, cap', cur, hv, hbg, hg, hnc, hcm, hcs, ht⟩
  · injection h0 with h0; exact absurd h0 hn
  · injection hv with ha _ hc
    subst ha
    subst hc
    refine .inr ⟨g, cap, cur, rfl, hbg, hg, by omega, hcm, hcs, ?_⟩
    have e : cur.toList.take (n * size) = (cur.toList.take ((n + m) * size)).take (n * size) := by
      rw [List.take_take, Nat.min_eq_left (Nat.mul_le_mul_right _ (by omega))]
    rw [e, ht, List.take_append_of_le_length (by omega), List.take_of_length_le (by omega)]
theorem PathR.nil (W : World) (B Bw : Nat) : PathR W B Bw (.slice none 0 0) [] := ⟨[], rfl, fun x hx => by simp at hx, World.ownsRow_nil _ _ _ _, fun j h => absurd h (by simp)⟩
theorem PathR.shape {W : World} {B Bw : Nat} {v : Value} {path : List Tr} (h : PathR W B Bw v path) : ∃ a c, v = .slice a path.length c := by
  obtain ⟨ncs, _, _, h, _⟩ := h
  rcases h.2 with ⟨rfl, h0⟩ | ⟨g, cap, cur, rfl, _⟩
  · exact ⟨none, 0, by rw [h0]⟩
  · exact ⟨_, cap, rfl⟩
theorem PathR.stay {W w' : World} {B Bw : Nat} {v : Value} {path : List Tr} (h : PathR W B Bw v path) (hb : Below B W w') (hs : ∀ k, v.ownBlock = some k → w'.heap[k]? = W.heap[k]?) : PathR w' B Bw v path := by
  obtain ⟨ncs, h1, h2, h3, h4⟩ := h
  exact ⟨ncs, h1, h2, own_same h3 hs, fun j hj hj' => (h4 j hj hj').stay (fun _ h _ => h) (fun b hb' _ => hb.block b hb')⟩
theorem PathR.block {W : World} {B Bw : Nat} {v : Value} {path : List Tr} (h : PathR W B Bw v path) {k : Nat} (hk : v.ownBlock = some k) : Bw ≤ k ∧ k < W.heap.size ∧ IsNB W k := by
  obtain ⟨ncs, _, _, h, _⟩ := h
  obtain ⟨h1, h2, cs, h3⟩ := own_block h hk
  exact ⟨h1, h2, cs, _, h3⟩
theorem PathR.vfr {W w' : World} {B Bw : Nat} {v : Value} {path : List Tr} (h : PathR W B Bw v path) (hv : VFr B Bw W w') : PathR w' B Bw v path := h.stay hv.below fun k hk => by
  obtain ⟨h1, h2, h3⟩ := h.block hk
  exact hv.rows k h1 h2 h3
theorem VFr.refl (B Bw : Nat) (W : World) : VFr B Bw W W := ⟨Below.refl _ _, fun _ _ _ _ => rfl⟩
theorem VFr.trans {B Bw : Nat} {W w1 w2 : World} (h : VFr B Bw W w1) (h2 : VFr B Bw w1 w2) : VFr B Bw W w2 := ⟨h.below.trans h2.below, fun k h1 h3 h4 => by
  have e := h.rows k h1 h3 h4
  obtain ⟨cs, z, hc⟩ := h4
  rw [h2.rows k h1 (Nat.lt_of_lt_of_le h3 h.below.size) ⟨cs, z, e.trans hc⟩, e]⟩
theorem VFr.of_below {B Bw : Nat} {W w' : World} (hb : Below W.heap.size W w') (hB : B ≤ W.heap.size) : VFr B Bw W w' := ⟨hb.mono hB, fun k _ h _ => hb.block k h⟩
theorem VFr.alloc {B Bw : Nat} {W w' : World} (h : VFr B Bw W w') (hB : B ≤ W.heap.size) (o : Obj) : VFr B Bw W (w'.alloc o) := h.trans (VFr.of_below ((Below.refl _ _).alloc (Nat.le_refl _) _) (Nat.le_trans hB h.below.size))
/-- A cell of the visitor's own is set. -/
theorem VFr.setG {B Bw g : Nat} {W w' : World} (h : VFr B Bw W w') (hB : B ≤ g) (hg : g < Bw) (x : Value) {o : Nat} : VFr B Bw W (w'.setCell ⟨g, o, none⟩ x) :=
  ⟨h.below.setCell hB _, fun k h1 h2 h3 => by rw [Below.heap_setCell _ _ _ _ (show k ≠ g by omega)]; exact h.rows k h1 h2 h3⟩
end Go.Proofs.YtajaoglnembkpaaGreatDoor
