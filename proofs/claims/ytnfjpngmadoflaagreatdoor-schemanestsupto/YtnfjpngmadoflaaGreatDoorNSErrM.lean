/-
  A schema's error by its flat list, and by walks through it: the same; the words, without the program.
-/
import Derived.Test.YtnfjpngmadoflaaGreatDoorNBFlatN
import Derived.Test.YtnfjpngmadoflaaGreatDoorNBIds
namespace Go.Proofs.YtnfjpngmadoflaaGreatDoor
open Go.RowKit
section
variable {α : Type} (ok : α → Bool) (bad : α → α → Bool)
/-- Each element is right, and goes with all ahead of it. -/
def chk (ahead : List α) : List α → Bool
  | [] => true
  | p :: ps => ok p && !(ahead.any fun q => bad q p) && chk (ahead ++ [p]) ps
theorem chk_iff : ∀ (l ahead : List α), chk ok bad ahead l = true ↔ (∀ p ∈ l, ok p = true) ∧ l.Pairwise (fun a b => bad a b = false) ∧ ∀ a ∈ ahead, ∀ b ∈ l, bad a b = false
  | [], ahead => by simp [chk]
  | p :: ps, ahead => by
    rw [chk, Bool.and_eq_true, Bool.and_eq_true, chk_iff ps, Bool.not_eq_true', List.any_eq_false, List.pairwise_cons]
    constructor
    · rintro ⟨⟨h1, h2⟩, h3, h4, h5⟩
      refine ⟨fun x hx => ?_, ⟨fun b hb => h5 p (by simp) b hb, h4⟩, fun a ha b hb => ?_⟩
      · rcases List.mem_cons.1 hx with rfl | hx
        · exact h1
        · exact h3 x hx
      · rcases List.mem_cons.1 hb with rfl | hb
        · simpa using h2 a ha
        · exact h5 a (by simp [ha]) b hb
    · rintro ⟨h1, ⟨h2, h3⟩, h4⟩
      refine ⟨⟨h1 p (by simp), fun a ha => by simp [h4 a ha p (by simp)]⟩, fun x hx => h1 x (by simp [hx]), h3, fun a ha b hb => ?_⟩
      rcases List.mem_append.1 ha with ha | ha
      · exact h4 a ha b (by simp [hb])
      · rw [List.mem_singleton.1 ha]; exact h2 b hb
end
mutual
/-- The nodes of a tree, in order. -/
def ndT : Tr → List Tr
  | .node id nm rep kind sub => .node id nm rep kind sub :: ndL sub
def ndL : List Tr → List Tr
  | [] => []
  | t :: ts => ndT t ++ ndL ts
end
theorem ndT_eq (t : Tr) : ndT t = t :: ndL t.sub := by
  cases t with
  | node id nm rep kind sub => rw [ndT]; rfl
mutual
/-- The flat list, whole. -/
def preT (base : Nat) : Tr → Nat → Int → List Pc
  | .node id nm rep kind sub, d, ar => ⟨.node id nm rep kind sub, d, ar⟩ :: preL (base + 1) sub (d + 1) base
def preL (base : Nat) : List Tr → Nat → Int → List Pc
  | [], _, _ => []
  | t :: ts, d, ar => preT base t d ar ++ preL (base + t.cnt) ts d ar
end
theorem preT_eq (base : Nat) (t : Tr) (d : Nat) (ar : Int) : preT base t d ar = ⟨t, d, ar⟩ :: preL (base + 1) t.sub (d + 1) base := by
  cases t with
  | node id nm rep kind sub => rw [preT]; rfl
mutual
theorem preT_map : ∀ (t : Tr) (base d : Nat) (ar : Int), (preT base t d ar).map Pc.t = ndT t
  | .node id nm rep kind sub, base, d, ar => by rw [preT, ndT, List.map_cons, preL_map sub]
theorem preL_map : ∀ (ts : List Tr) (base d : Nat) (ar : Int), (preL base ts d ar).map Pc.t = ndL ts
  | [], base, d, ar => by rw [preL, ndL]; rfl
  | t :: ts, base, d, ar => by rw [preL, ndL, List.map_append, preT_map t, preL_map ts]
end
mutual
theorem ndT_len : ∀ t : Tr, (ndT t).length = t.cnt
  | .node id nm rep kind sub => by rw [ndT, Tr.cnt, List.length_cons, ndL_len sub]; omega
theorem ndL_len : ∀ ts : List Tr, (ndL ts).length = cntL ts
  | [] => by rw [ndL, cntL]; rfl
  | t :: ts => by rw [ndL, cntL, List.length_append, ndT_len t, ndL_len ts]
end
theorem preT_len (t : Tr) (base d : Nat) (ar : Int) : (preT base t d ar).length = t.cnt := by rw [← ndT_len t, ← preT_map t base d ar, List.length_map]
theorem preL_len (ts : List Tr) (base d : Nat) (ar : Int) : (preL base ts d ar).length = cntL ts := by rw [← ndL_len ts, ← preL_map ts base d ar, List.length_map]
mutual
/-- A tree of few nodes that is not deep is flat whole. -/
theorem flT_pre : ∀ (t : Tr) (acc : List Pc) (d : Nat) (ar : Int) (k : Nat), acc.length + t.cnt ≤ 2000 → t.Dp k → d + k ≤ 101 → flT acc t d ar = acc ++ preT acc.length t d ar
  | .node id nm rep kind sub, acc, d, ar, k, h1, h2, h3 => by
    rw [Tr.cnt] at h1
    have hk := h2.pos
    obtain ⟨k, rfl⟩ : ∃ j, k = j + 1 := ⟨k - 1, by omega⟩
    have ih := flL_pre sub (acc ++ [⟨.node id nm rep kind sub, d, ar⟩]) (d + 1) acc.length k (by simp; omega) (fun j hj => h2.at_ j hj) (by omega)
    rw [flT, if_neg (by omega), ih, preT]
    simp
theorem flL_pre : ∀ (ts : List Tr) (acc : List Pc) (d : Nat) (ar : Int) (k : Nat), acc.length + cntL ts ≤ 2000 → (∀ j (h : j < ts.length), ts[j].Dp k) → d + k ≤ 101 → flL acc ts d ar = acc ++ preL acc.length ts d ar
  | [], acc, d, ar, k, h1, h2, h3 => by rw [flL, preL, List.append_nil]
  | t :: ts, acc, d, ar, k, h1, h2, h3 => by
    rw [cntL] at h1
    have ht : t.Dp k := h2 0 (by simp)
    rw [flL, flT_pre t acc d ar k (by omega) ht h3, flL_pre ts _ d ar k (by rw [List.length_append, preT_len]; omega) (fun j hj => h2 (j + 1) (by simp; omega)) h3, preL, List.length_append, preT_len, List.append_assoc]
end
mutual
theorem preT_deep : ∀ (t : Tr) (base d : Nat) (ar : Int) (k : Nat), t.Dp k → ∀ p ∈ preT base t d ar, p.deep < d + k
  | .node id nm rep kind sub, base, d, ar, k, h, p, hp => by
    have hk := h.pos
    obtain ⟨k, rfl⟩ : ∃ j, k = j + 1 := ⟨k - 1, by omega⟩
    rw [preT] at hp
    rcases List.mem_cons.1 hp with rfl | hp
    · show ((d : Nat) : Int) < _; omega
    · have := preL_deep sub (base + 1) (d + 1) base k (fun j hj => h.at_ j hj) p hp
      omega
theorem preL_deep : ∀ (ts : List Tr) (base d : Nat) (ar : Int) (k : Nat), (∀ j (h : j < ts.length), ts[j].Dp k) → ∀ p ∈ preL base ts d ar, p.deep < d + k
  | [], base, d, ar, k, h, p, hp => by rw [preL] at hp; simp at hp
  | t :: ts, base, d, ar, k, h, p, hp => by
    rw [preL] at hp
    rcases List.mem_append.1 hp with hp | hp
    · exact preT_deep t base d ar k (h 0 (by simp)) p hp
    · exact preL_deep ts _ d ar k (fun j hj => h (j + 1) (by simp; omega)) p hp
end
mutual
theorem dpB : ∀ (t : Tr) (m : Nat) (path : List Tr), (wkT stB m path t).1 = true → (wkT stB m path t).2 = m + t.cnt ∧ m + t.cnt ≤ 40 ∧ t.Dp (6 - path.length)
  | .node id nm rep kind sub, m, path => by
    rw [wkT, Tr.cnt]
    intro h
    by_cases hs : (stB m path (.node id nm rep kind sub)).1 = true
    · rw [if_pos hs] at h ⊢
      have h1 : m + 1 ≤ 40 ∧ path.length < 6 := by simpa [stB] using hs
      have h2 := dpBL sub (stB m path (.node id nm rep kind sub)).2 (path ++ [.node id nm rep kind sub]) h
      have e : (stB m path (.node id nm rep kind sub)).2 = m + 1 := rfl
      rw [e] at h2 ⊢
      refine ⟨by omega, by omega, ?_⟩
      have hd : 6 - path.length = (6 - (path ++ [Tr.node id nm rep kind sub]).length) + 1 := by simp; omega
      rw [hd]
      exact .mk _ id nm rep kind sub h2.2.2
    · rw [if_neg hs] at h
      exact absurd h hs
theorem dpBL : ∀ (ts : List Tr) (m : Nat) (path : List Tr), (wkL stB m path ts).1 = true → (wkL stB m path ts).2 = m + cntL ts ∧ (m ≤ 40 → m + cntL ts ≤ 40) ∧ ∀ j (h : j < ts.length), ts[j].Dp (6 - path.length)
  | [], m, path => by
    rw [wkL, cntL]
    exact fun _ => ⟨by simp, fun h => h, fun j h => absurd h (by simp)⟩
  | t :: ts, m, path => by
    rw [wkL, cntL]
    intro h
    by_cases hs : (wkT stB m path t).1 = true
    · rw [if_pos hs] at h ⊢
      have h1 := dpB t m path hs
      have h2 := dpBL ts _ path h
      rw [h1.1] at h2 ⊢
      refine ⟨by omega, fun _ => by have := h2.2.1 h1.2.1; omega, fun j hj => ?_⟩
      cases j with
      | zero => exact h1.2.2
      | succ j => exact h2.2.2 j (by simpa using hj)
    · rw [if_neg hs] at h
      exact absurd h hs
end
mutual
theorem flT_ext : ∀ (t : Tr) (acc : List Pc) (d : Nat) (ar : Int), ∃ E, flT acc t d ar = acc ++ E
  | .node id nm rep kind sub, acc, d, ar => by
    rw [flT]
    split
    · exact ⟨[], by simp⟩
    · obtain ⟨E, h⟩ := flL_ext sub (acc ++ [⟨.node id nm rep kind sub, d, ar⟩]) (d + 1) acc.length
      exact ⟨⟨.node id nm rep kind sub, d, ar⟩ :: E, by rw [h]; simp⟩
theorem flL_ext : ∀ (ts : List Tr) (acc : List Pc) (d : Nat) (ar : Int), ∃ E, flL acc ts d ar = acc ++ E
  | [], acc, d, ar => ⟨[], by rw [flL]; simp⟩
  | t :: ts, acc, d, ar => by
    obtain ⟨E, h⟩ := flT_ext t acc d ar
    obtain ⟨E2, h2⟩ := flL_ext ts (acc ++ E) d ar
    exact ⟨E ++ E2, by rw [flL, h, h2, List.append_assoc]⟩
end
mutual
/-- Where the flat list is in its bounds the walk is. -/
theorem flT_in : ∀ (t : Tr) (acc : List Pc) (d : Nat) (ar : Int) (path : List Tr), path.length + 1 = d → d ≤ 7 → (flT acc t d ar).length ≤ 40 → (∀ p ∈ flT acc t d ar, p.deep ≤ 6) → wkT stB acc.length path t = (true, (flT acc t d ar).length)
  | .node id nm rep kind sub, acc, d, ar, path, hp, hd, hl, hall => by
    have hal : acc.length ≤ 40 := by
      obtain ⟨E, h⟩ := flT_ext (.node id nm rep kind sub) acc d ar
      rw [h, List.length_append] at hl
      omega
    rw [flT, if_neg (by omega)] at hl hall
    rw [flT, if_neg (by omega)]
    obtain ⟨E, h⟩ := flL_ext sub (acc ++ [⟨.node id nm rep kind sub, d, ar⟩]) (d + 1) acc.length
    have hd6 : ((d : Nat) : Int) ≤ 6 := hall ⟨.node id nm rep kind sub, d, ar⟩ (by rw [h]; simp)
    have hl2 : acc.length + 1 ≤ 40 := by
      rw [h] at hl
      simp at hl
      omega
    have hs : stB acc.length path (.node id nm rep kind sub) = (true, acc.length + 1) := by
      simp [stB, hl2]
      omega
    have ih := flL_in sub (acc ++ [⟨.node id nm rep kind sub, d, ar⟩]) (d + 1) acc.length (path ++ [.node id nm rep kind sub]) (by simp; omega) (by omega) hl hall
    rw [wkT, hs, if_pos rfl, ← ih]
    congr 1
    simp
theorem flL_in : ∀ (ts : List Tr) (acc : List Pc) (d : Nat) (ar : Int) (path : List Tr), path.length + 1 = d → d ≤ 7 → (flL acc ts d ar).length ≤ 40 → (∀ p ∈ flL acc ts d ar, p.deep ≤ 6) → wkL stB acc.length path ts = (true, (flL acc ts d ar).length)
  | [], acc, d, ar, path, hp, hd, hl, hall => by rw [wkL, flL]
  | t :: ts, acc, d, ar, path, hp, hd, hl, hall => by
    rw [flL] at hl hall
    obtain ⟨E, h⟩ := flL_ext ts (flT acc t d ar) d ar
    have h1 := flT_in t acc d ar path hp hd (by rw [h, List.length_append] at hl; omega) (fun p hp => hall p (by rw [h]; simp [hp]))
    have h2 := flL_in ts (flT acc t d ar) d ar path hp hd hl hall
    rw [wkL, h1, if_pos rfl, flL]
    exact h2
end
/-- In its bounds: by the flat list, and by the walk. -/
theorem inB_fl (t : Tr) : inB t = true ↔ (fl t).length ≤ 40 ∧ ∀ p ∈ fl t, p.deep ≤ 6 := by
  constructor
  · intro h
    obtain ⟨h1, h2, h3⟩ := dpB t 0 [] h
    have e : fl t = preT 0 t 1 (-1) := by
      have := flT_pre t [] 1 (-1) 6 (by simp; omega) h3 (by omega)
      simpa [fl] using this
    rw [e]
    refine ⟨by rw [preT_len]; omega, fun p hp => ?_⟩
    have := preT_deep t 0 1 (-1) 6 h3 p hp
    omega
  · rintro ⟨h1, h2⟩
    have := flT_in t [] 1 (-1) [] rfl (by omega) h1 h2
    show (wkT stB 0 [] t).1 = true
    have e : wkT stB 0 [] t = (true, (flT [] t 1 (-1)).length) := this
    rw [e]
theorem fl_pre (t : Tr) (h : inB t = true) : fl t = ⟨t, 1, -1⟩ :: preL 1 t.sub 2 0 := by
  obtain ⟨h1, h2, h3⟩ := dpB t 0 [] h
  have := flT_pre t [] 1 (-1) 6 (by simp; omega) h3 (by omega)
  rw [preT_eq] at this
  simpa [fl] using this
section
variable (f : Tr → Bool)
mutual
theorem wk_all : ∀ (t : Tr) (path : List Tr), (wkT (fun (_ : Unit) (_ : List Tr) x => (f x, ())) () path t).1 = (ndT t).all f
  | .node id nm rep kind sub, path => by
    rw [wkT, ndT, List.all_cons]
    cases h : f (.node id nm rep kind sub) with
    | true => simp [wkL_all sub]
    | false => simp
theorem wkL_all : ∀ (ts : List Tr) (path : List Tr), (wkL (fun (_ : Unit) (_ : List Tr) x => (f x, ())) () path ts).1 = (ndL ts).all f
  | [], path => by rw [wkL, ndL]; rfl
  | t :: ts, path => by
    rw [wkL, ndL, List.all_append, ← wk_all t path, ← wkL_all ts path]
    cases h : (wkT (fun (_ : Unit) (_ : List Tr) x => (f x, ())) () path t).1 with
    | true => simp
    | false => simp [h]
end
end
theorem shp_all (t : Tr) : shpT t = (shpOk t && (ndL t.sub).all shpOk) := by
  have h := wk_all shpOk t []
  rw [ndT_eq, List.all_cons] at h
  exact h
theorem nms_all (t : Tr) : nmsT t = (nmsL [] t.sub && (ndL t.sub).all fun x => nmsL [] x.sub) := by
  have h := wk_all (fun x => nmsL [] x.sub) t []
  rw [ndT_eq, List.all_cons] at h
  exact h
/-- Names. -/
def nmEq (a b : Tr) : Bool := a.nm.toList == b.nm.toList
theorem nmsL_chk : ∀ (ts ahead : List Tr), nmsL ahead ts = chk (fun x => nameOk x.nm) nmEq ahead ts
  | [], _ => rfl
  | t :: ts, ahead => by rw [nmsL, chk, nmsL_chk ts]; rfl
def nmOkP (p : Pc) : Bool := nameOk p.t.nm
def nmBadP (a b : Pc) : Bool := decide (a.around = b.around) && nmEq a.t b.t
mutual
theorem preT_around : ∀ (t : Tr) (base d : Nat) (ar : Int) (p : Pc), p ∈ preT base t d ar → p = ⟨t, d, ar⟩ ∨ ((base : Int) ≤ p.around ∧ p.around < (base : Int) + t.cnt)
  | .node id nm rep kind sub, base, d, ar, p, hp => by
    rw [preT] at hp
    rw [Tr.cnt]
    rcases List.mem_cons.1 hp with rfl | hp
    · exact .inl rfl
    · right
      rcases preL_around sub (base + 1) (d + 1) base p hp with ⟨h, _⟩ | ⟨h1, h2⟩ <;> omega
theorem preL_around : ∀ (ts : List Tr) (base d : Nat) (ar : Int) (p : Pc), p ∈ preL base ts d ar → (p.around = ar ∧ p.t ∈ ts) ∨ ((base : Int) ≤ p.around ∧ p.around < (base : Int) + cntL ts)
  | [], base, d, ar, p, hp => by rw [preL] at hp; simp at hp
  | t :: ts, base, d, ar, p, hp => by
    rw [preL] at hp
    rw [cntL]
    rcases List.mem_append.1 hp with hp | hp
    · rcases preT_around t base d ar p hp with rfl | h
      · exact .inl ⟨rfl, by simp⟩
      · right; omega
    · rcases preL_around ts _ d ar p hp with ⟨h1, h2⟩ | h
      · exact .inl ⟨h1, by simp [h2]⟩
      · right; omega
end
theorem preL_mem : ∀ (ts : List Tr) (base d : Nat) (ar : Int) (x : Tr), x ∈ ts → (⟨x, d, ar⟩ : Pc) ∈ preL base ts d ar
  | [], base, d, ar, x, h => by simp at h
  | t :: ts, base, d, ar, x, h => by
    rw [preL]
    rcases List.mem_cons.1 h with rfl | h
    · rw [preT_eq]; simp
    · exact List.mem_append_right _ (preL_mem ts _ d ar x h)
theorem nmBad_of {a b : Pc} (h : a.around ≠ b.around) : nmBadP a b = false := by simp [nmBadP, h]
mutual
theorem pwT : ∀ (t : Tr) (base d : Nat) (ar : Int), ar < base → ((preT base t d ar).Pairwise (fun a b => nmBadP a b = false) ↔ ∀ x ∈ ndT t, x.sub.Pairwise (fun a b => nmEq a b = false))
  | .node id nm rep kind sub, base, d, ar, h => by
    rw [preT, ndT, List.pairwise_cons, pwL sub (base + 1) (d + 1) base (by omega)]
    constructor
    · rintro ⟨_, h2, h3⟩ x hx
      rcases List.mem_cons.1 hx with rfl | hx
      · exact h2
      · exact h3 x hx
    · intro h2
      refine ⟨fun q hq => nmBad_of ?_, h2 (.node id nm rep kind sub) (by simp), fun x hx => h2 x (by simp [hx])⟩
      show ar ≠ q.around
      rcases preL_around sub (base + 1) (d + 1) base q hq with ⟨h3, _⟩ | ⟨h3, _⟩ <;> omega
theorem pwL : ∀ (ts : List Tr) (base d : Nat) (ar : Int), ar < base → ((preL base ts d ar).Pairwise (fun a b => nmBadP a b = false) ↔ ts.Pairwise (fun a b => nmEq a b = false) ∧ ∀ x ∈ ndL ts, x.sub.Pairwise (fun a b => nmEq a b = false))
  | [], base, d, ar, h => by rw [preL, ndL]; simp
  | t :: ts, base, d, ar, h => by
    rw [preL, ndL, List.pairwise_append, pwT t base d ar h, pwL ts (base + t.cnt) d ar (by omega), List.pairwise_cons]
    constructor
    · rintro ⟨h1, ⟨h2, h3⟩, h4⟩
      refine ⟨⟨fun x hx => ?_, h2⟩, fun x hx => (List.mem_append.1 hx).elim (h1 x) (h3 x)⟩
      have := h4 ⟨t, d, ar⟩ (by rw [preT_eq]; simp) ⟨x, d, ar⟩ (preL_mem ts _ d ar x hx)
      simpa [nmBadP] using this
    · rintro ⟨⟨h1, h2⟩, h3⟩
      refine ⟨fun x hx => h3 x (List.mem_append_left _ hx), ⟨h2, fun x hx => h3 x (List.mem_append_right _ hx)⟩, fun p hp q hq => ?_⟩
      rcases preT_around t base d ar p hp with rfl | ⟨hp1, hp2⟩
      · rcases preL_around ts _ d ar q hq with ⟨_, hq2⟩ | ⟨hq1, hq2⟩
        · simp [nmBadP, h1 q.t hq2]
        · exact nmBad_of (by show ar ≠ q.around; omega)
      · rcases preL_around ts _ d ar q hq with ⟨hq1, hq2⟩ | ⟨hq1, hq2⟩ <;> exact nmBad_of (by omega)
end
theorem mem_nd_iff (g : Tr → Prop) (ts : List Tr) : (∀ x ∈ ts, g x) ∧ (∀ x ∈ ndL ts, ∀ y ∈ x.sub, g y) ↔ ∀ x ∈ ndL ts, g x := by
  suffices h : ∀ n, ∀ ts : List Tr, (∀ t ∈ ts, SizeOf.sizeOf t < n) → ((∀ x ∈ ts, g x) ∧ (∀ x ∈ ndL ts, ∀ y ∈ x.sub, g y) ↔ ∀ x ∈ ndL ts, g x) from h (SizeOf.sizeOf ts) ts fun t ht => List.sizeOf_lt_of_mem ht
  intro n
  induction n with
  | zero =>
    intro ts h
    cases ts with
    | nil => simp [ndL]
    | cons t ts => exact absurd (h t (by simp)) (Nat.not_lt_zero _)
  | succ n ih =>
    intro ts
    induction ts with
    | nil => intro _; simp [ndL]
    | cons t ts ih2 =>
      intro h
      have h1 := ih t.sub fun x hx => by
        obtain ⟨j, hj, rfl⟩ := List.getElem_of_mem hx
        have := t.sub_size j hj
        have := h t (by simp)
        omega
      have h2 := ih2 fun x hx => h x (by simp [hx])
      rw [ndL, ndT_eq]
      constructor
      · rintro ⟨h3, h4⟩ x hx
        rcases List.mem_append.1 hx with hx | hx
        · rcases List.mem_cons.1 hx with rfl | hx
          · exact h3 _ (by simp)
          · exact h1.1 ⟨h4 t (by simp), fun y hy => h4 y (by simp [hy])⟩ x hx
        · exact h2.1 ⟨fun y hy => h3 y (by simp [hy]), fun y hy => h4 y (by simp [hy])⟩ x hx
      · intro h3
        have h5 := h1.2 fun x hx => h3 x (by simp [hx])
        have h6 := h2.2 fun x hx => h3 x (by simp [hx])
        refine ⟨fun x hx => ?_, fun x hx => ?_⟩
        · rcases List.mem_cons.1 hx with rfl | hx
          · exact h3 _ (by simp)
          · exact h6.1 x hx
        · rcases List.mem_append.1 hx with hx | hx
          · rcases List.mem_cons.1 hx with rfl | hx
            · exact h5.1
            · exact h5.2 x hx
          · exact h6.2 x hx
/-- The names are right: by the flat list, and by the walk. -/
theorem nms_fl (t : Tr) : nmsT t = chk nmOkP nmBadP [] (preL 1 t.sub 2 0) := by
  rw [Bool.eq_iff_iff, nms_all, chk_iff, Bool.and_eq_true, List.all_eq_true]
  have hpw := pwL t.sub 1 2 0 (by omega)
  have hok : (∀ p ∈ preL 1 t.sub 2 0, nmOkP p = true) ↔ ∀ x ∈ ndL t.sub, nameOk x.nm = true := by
    rw [← preL_map t.sub 1 2 0]
    simp [nmOkP]
  have hnd := mem_nd_iff (fun x => nameOk x.nm = true) t.sub
  simp only [nmsL_chk, chk_iff]
  rw [hok, hpw]
  constructor
  · rintro ⟨⟨h1, h2, _⟩, h3⟩
    exact ⟨hnd.1 ⟨h1, fun x hx => (h3 x hx).1⟩, ⟨h2, fun x hx => (h3 x hx).2.1⟩, fun a ha => by simp at ha⟩
  · rintro ⟨h1, ⟨h2, h3⟩, _⟩
    have h4 := hnd.2 h1
    exact ⟨⟨h4.1, h2, fun a ha => by simp at ha⟩, fun x hx => ⟨h4.2 x hx, h3 x hx, fun a ha => by simp at ha⟩⟩
/-- Numbers. -/
def idOkP (p : Pc) : Bool := decide (1 ≤ p.t.id ∧ p.t.id ≤ 1000)
def idBadP (a b : Pc) : Bool := decide (a.t.id = b.t.id)
def idOkT (x : Tr) : Bool := decide (1 ≤ x.id ∧ x.id ≤ 1000)
def idEqT (a b : Tr) : Bool := decide (a.id = b.id)
mutual
theorem idW : ∀ (t : Tr) (ahead path : List Tr), 0 < path.length → (wkT stI (ahead.map Tr.id) path t).1 = chk idOkT idEqT ahead (ndT t) ∧ ((wkT stI (ahead.map Tr.id) path t).1 = true → (wkT stI (ahead.map Tr.id) path t).2 = (ahead ++ ndT t).map Tr.id)
  | .node id nm rep kind sub, ahead, path, hp => by
    have hs : stI (ahead.map Tr.id) path (.node id nm rep kind sub) = (idOkT (.node id nm rep kind sub) && !(ahead.any fun q => idEqT q (.node id nm rep kind sub)), (ahead ++ [Tr.node id nm rep kind sub]).map Tr.id) := by
      rw [stI, if_neg (by omega)]
      have e : (ahead.map Tr.id).contains (Tr.node id nm rep kind sub).id = ahead.any fun q => idEqT q (.node id nm rep kind sub) := by
        rw [Bool.eq_iff_iff, List.contains_iff_mem, List.any_eq_true, List.mem_map]
        simp [idEqT]
      rw [e, Bool.and_comm]
      simp [idOkT]
    have ih := idWL sub (ahead ++ [.node id nm rep kind sub]) (path ++ [.node id nm rep kind sub]) (by simp)
    rw [wkT, ndT, chk, hs]
    cases h : (idOkT (.node id nm rep kind sub) && !(ahead.any fun q => idEqT q (.node id nm rep kind sub))) with
    | true =>
      simp only [if_true, Bool.true_and]
      exact ⟨ih.1, fun h => by rw [ih.2 h]; simp⟩
    | false =>
      simp
theorem idWL : ∀ (ts ahead path : List Tr), 0 < path.length → (wkL stI (ahead.map Tr.id) path ts).1 = chk idOkT idEqT ahead (ndL ts) ∧ ((wkL stI (ahead.map Tr.id) path ts).1 = true → (wkL stI (ahead.map Tr.id) path ts).2 = (ahead ++ ndL ts).map Tr.id)
  | [], ahead, path, hp => by rw [wkL, ndL, chk]; simp
  | t :: ts, ahead, path, hp => by
    have h1 := idW t ahead path hp
    have happ : ∀ (l m ah : List Tr), chk idOkT idEqT ah (l ++ m) = (chk idOkT idEqT ah l && chk idOkT idEqT (ah ++ l) m) := by
      intro l
      induction l with
      | nil => intro m ah; simp [chk]
      | cons x l ihl =>
        intro m ah
        rw [List.cons_append, chk, chk, ihl m (ah ++ [x])]
        simp [Bool.and_assoc]
    rw [wkL, ndL, happ, ← h1.1]
    cases h : (wkT stI (ahead.map Tr.id) path t).1 with
    | true =>
      have h2 := idWL ts (ahead ++ ndT t) path hp
      rw [if_pos rfl, h1.2 h, Bool.true_and]
      exact ⟨h2.1, fun h => by rw [h2.2 h]; simp⟩
    | false =>
      rw [if_neg (by simp)]
      simp [h]
end
theorem ids_fl (t : Tr) : idsT t = chk idOkP idBadP [] (preL 1 t.sub 2 0) := by
  have h1 : idsT t = chk idOkT idEqT [] (ndL t.sub) := by
    have h := (idWL t.sub [] ([] ++ [t]) (by simp)).1
    unfold idsT
    rw [wkT_eq]
    have e : stI [] [] t = (true, []) := by simp [stI]
    rw [e, if_pos rfl]
    exact h
  rw [h1, ← preL_map t.sub 1 2 0]
  have hm : ∀ (l ahead : List Pc), chk idOkT idEqT (ahead.map Pc.t) (l.map Pc.t) = chk idOkP idBadP ahead l := by
    intro l
    induction l with
    | nil => intro ahead; rfl
    | cons p l ih =>
      intro ahead
      rw [List.map_cons, chk, chk, ← ih (ahead ++ [p])]
      simp [idOkT, idOkP, idEqT, idBadP, List.any_map, Function.comp_def]
  exact hm _ []
/-- A schema's error as the flat list tells it. -/
def rootOk (t : Tr) : Bool := decide (t.id = 0 ∧ t.nm.toList = [114, 111, 111, 116] ∧ t.rep = 1 ∧ t.kind = 0 ∧ 0 < t.sub.length)
def seN (t : Tr) : Nat := if 40 < (fl t).length then 2 else if ((fl t).all fun p => decide (p.deep ≤ 6)) = false then 2 else if rootOk t = false then 3 else if ((fl t).tail.all fun p => shpOk p.t) = false then 3 else if chk nmOkP nmBadP [] (fl t).tail = false then 5 else if chk idOkP idBadP [] (fl t).tail = false then 5 else 0
theorem root_shp (t : Tr) (h : rootOk t = true) : shpOk t = true ∧ isRootB t = true := by
  rw [rootOk, decide_eq_true_iff] at h
  obtain ⟨h1, h2, h3, h4, h5⟩ := h
  exact ⟨by simp [shpOk, h3, h4, h5], by rw [isRootB, decide_eq_true_iff]; exact ⟨h1, h2, h3, h4⟩⟩
theorem seN_eq (t : Tr) : seN t = if vldN t = 1 then 2 else if vldN t = 2 then 3 else if vldN t = 4 then 5 else 0 := by
  by_cases hB : inB t = true
  · have hf := (inB_fl t).1 hB
    have hall : ((fl t).all fun p => decide (p.deep ≤ 6)) = true := List.all_eq_true.2 fun p hp => by simpa using hf.2 p hp
    have hfp := fl_pre t hB
    unfold seN vldN
    rw [if_neg (by omega), hall, if_neg (by simp), hB, hfp, List.tail_cons, ← nms_fl, ← ids_fl]
    have hs : ((preL 1 t.sub 2 0).all fun p => shpOk p.t) = (ndL t.sub).all shpOk := by
      rw [← preL_map t.sub 1 2 0, List.all_map]
      rfl
    rw [hs, shp_all]
    cases hr : rootOk t with
    | true =>
      obtain ⟨h1, h2⟩ := root_shp t hr
      rw [h1, h2]
      cases (ndL t.sub).all shpOk <;> cases nmsT t <;> cases idsT t <;> simp
    | false =>
      have h3 : isRootB t = false ∨ shpOk t = false := by
        by_cases hi : isRootB t = true
        · right
          rw [isRootB, decide_eq_true_iff] at hi
          rw [rootOk, decide_eq_false_iff_not] at hr
          have h0 : ¬ 0 < t.sub.length := fun h => hr ⟨hi.1, hi.2.1, hi.2.2.1, hi.2.2.2, h⟩
          simp [shpOk, hi.2.2.2, h0]
        · left; simpa using hi
      rcases h3 with h3 | h3 <;> simp [h3]
  · have hB' : inB t = false := by simpa using hB
    have hf : ¬ ((fl t).length ≤ 40 ∧ ∀ p ∈ fl t, p.deep ≤ 6) := fun h => hB ((inB_fl t).2 h)
    have hv : vldN t = 1 := by unfold vldN; rw [if_pos hB']
    rw [hv, if_pos rfl]
    unfold seN
    by_cases h1 : 40 < (fl t).length
    · rw [if_pos h1]
    · rw [if_neg h1, if_pos]
      rw [List.all_eq_false]
      by_cases h2 : ∀ p ∈ fl t, p.deep ≤ 6
      · exact absurd ⟨by omega, h2⟩ hf
      · simp only [Classical.not_forall] at h2
        obtain ⟨p, hp, h3⟩ := h2
        exact ⟨p, hp, by simpa using h3⟩
end Go.Proofs.YtnfjpngmadoflaaGreatDoor
