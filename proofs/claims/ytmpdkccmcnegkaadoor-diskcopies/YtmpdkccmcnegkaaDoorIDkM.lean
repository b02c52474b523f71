/-
  A disk's files as a list that is sorted by their names; what the acts make of it.
-/
import Derived.Test.YtmpdkccmcnegkaaDoorIOwn
import Derived.Sort.KeysCollected
namespace Go.Proofs.YtmpdkccmcnegkaaDoor
abbrev Fl := ByteArray × ByteArray
abbrev bl (s : ByteArray) : List UInt8 := s.data.toList
theorem bl_inj {a b : ByteArray} (h : bl a = bl b) : a = b := by
  cases a with | mk a => cases b with | mk b => simpa [bl] using h
def Srt (fs : List Fl) : Prop := fs.Pairwise (fun p q => bl p.1 < bl q.1)
theorem bl_irr (a : List UInt8) : ¬ a < a := List.lt_irrefl a
theorem bl_trans {a b c : List UInt8} (h : a < b) (h' : b < c) : a < c := List.lt_trans h h'
theorem bl_tri {a b : List UInt8} (h : ¬ a < b) (hn : a ≠ b) : b < a := by
  rcases Decidable.em (b < a) with h2 | h2
  · exact h2
  · exact absurd (List.le_antisymm (List.not_lt.1 h2) (List.not_lt.1 h)) hn
theorem Srt.inj {fs : List Fl} (h : Srt fs) {p q : Fl} (hp : p ∈ fs) (hq : q ∈ fs) (e : p.1 = q.1) : p = q := by
  induction fs with
  | nil => exact absurd hp (by simp)
  | cons x xs ih =>
    obtain ⟨h1, h2⟩ := List.pairwise_cons.1 h
    rcases List.mem_cons.1 hp with rfl | hp'
    · rcases List.mem_cons.1 hq with rfl | hq'
      · rfl
      · exact absurd (h1 q hq') (by rw [e]; exact bl_irr _)
    · rcases List.mem_cons.1 hq with rfl | hq'
      · exact absurd (h1 p hp') (by rw [e]; exact bl_irr _)
      · exact ih h2 hp' hq'
theorem srt_ext : ∀ {a b : List Fl}, Srt a → Srt b → (∀ p, p ∈ a ↔ p ∈ b) → a = b
  | [], [], _, _, _ => rfl
  | [], b :: s, _, _, h => absurd ((h b).2 (by simp)) (by simp)
  | a :: r, [], _, _, h => absurd ((h a).1 (by simp)) (by simp)
  | a :: r, b :: s, h1, h2, h => by
    obtain ⟨a1, a2⟩ := List.pairwise_cons.1 h1
    obtain ⟨b1, b2⟩ := List.pairwise_cons.1 h2
    have hab : a = b := by
      rcases List.mem_cons.1 ((h a).1 (by simp)) with e | ha
      · exact e
      · rcases List.mem_cons.1 ((h b).2 (by simp)) with e | hb
        · exact e.symm
        · exact absurd (bl_trans (a1 b hb) (b1 a ha)) (bl_irr _)
    subst hab
    rw [srt_ext a2 b2 (fun p => ⟨fun hp => by
      rcases List.mem_cons.1 ((h p).1 (by simp [hp])) with e | hp'
      · subst e; exact absurd (a1 _ hp) (bl_irr _)
      · exact hp', fun hp => by
      rcases List.mem_cons.1 ((h p).2 (by simp [hp])) with e | hp'
      · subst e; exact absurd (b1 _ hp) (bl_irr _)
      · exact hp'⟩)]
def ahd (n : ByteArray) (p : Fl) : Bool := decide (bl p.1 < bl n)
def fIns (fs : List Fl) (n t : ByteArray) : List Fl := fs.takeWhile (ahd n) ++ (n, t) :: fs.dropWhile (ahd n)
def fDel (fs : List Fl) (n : ByteArray) : List Fl := fs.filter (fun p => decide (p.1 ≠ n))
def fSet (fs : List Fl) (n t : ByteArray) : List Fl := fs.map (fun p => if p.1 = n then (n, t) else p)
def fHas (fs : List Fl) (n : ByteArray) : Bool := fs.any (fun p => decide (p.1 = n))
def fUsed (fs : List Fl) : Nat := (fs.map (fun p => p.2.size)).sum
theorem fHas_iff {fs : List Fl} {n : ByteArray} : fHas fs n = true ↔ ∃ p ∈ fs, p.1 = n := by simp [fHas]
theorem fHas_no {fs : List Fl} {n : ByteArray} : fHas fs n = false ↔ ∀ p ∈ fs, p.1 ≠ n := by simp [fHas]
theorem mem_ins {fs : List Fl} {n t : ByteArray} {p : Fl} : p ∈ fIns fs n t ↔ p = (n, t) ∨ p ∈ fs := by
  unfold fIns
  rw [List.mem_append, List.mem_cons]
  have := List.takeWhile_append_dropWhile (p := ahd n) (l := fs)
  constructor
  · rintro (h | h | h)
    · exact .inr (by rw [← this]; exact List.mem_append_left _ h)
    · exact .inl h
    · exact .inr (by rw [← this]; exact List.mem_append_right _ h)
  · rintro (h | h)
    · exact .inr (.inl h)
    · rw [← this] at h
      rcases List.mem_append.1 h with h | h
      · exact .inl h
      · exact .inr (.inr h)
theorem take_ahd {n : ByteArray} : ∀ {fs : List Fl} {p : Fl}, p ∈ fs.takeWhile (ahd n) → bl p.1 < bl n
  | [], p, h => absurd h (by simp)
  | x :: xs, p, h => by
    rw [List.takeWhile_cons] at h
    by_cases e : ahd n x = true
    · rw [if_pos e] at h
      rcases List.mem_cons.1 h with rfl | h
      · simpa [ahd] using e
      · exact take_ahd h
    · rw [if_neg e] at h; exact absurd h (by simp)
theorem drop_ahd {n : ByteArray} : ∀ {fs : List Fl}, Srt fs → (∀ p ∈ fs, p.1 ≠ n) → ∀ {p : Fl}, p ∈ fs.dropWhile (ahd n) → bl n < bl p.1
  | [], _, _, p, h => absurd h (by simp)
  | x :: xs, hs, hn, p, h => by
    obtain ⟨h1, h2⟩ := List.pairwise_cons.1 hs
    rw [List.dropWhile_cons] at h
    by_cases e : ahd n x = true
    · rw [if_pos e] at h
      exact drop_ahd h2 (fun q hq => hn q (by simp [hq])) h
    · rw [if_neg e] at h
      have hx : bl n < bl x.1 := bl_tri (by simpa [ahd] using e) (fun e2 => hn x (by simp) (bl_inj e2))
      rcases List.mem_cons.1 h with rfl | h
      · exact hx
      · exact bl_trans hx (h1 p h)
theorem Srt.ins {fs : List Fl} (h : Srt fs) {n t : ByteArray} (hn : ∀ p ∈ fs, p.1 ≠ n) : Srt (fIns fs n t) := by
  have hw := List.takeWhile_append_dropWhile (p := ahd n) (l := fs)
  have h' := h
  rw [Srt, ← hw, List.pairwise_append] at h'
  unfold fIns Srt
  rw [List.pairwise_append, List.pairwise_cons]
  refine ⟨h'.1, ⟨fun q hq => drop_ahd h hn hq, h'.2.1⟩, fun p hp q hq => ?_⟩
  rcases List.mem_cons.1 hq with rfl | hq
  · exact take_ahd hp
  · exact h'.2.2 p hp q hq
theorem Srt.del {fs : List Fl} (h : Srt fs) (n : ByteArray) : Srt (fDel fs n) := h.filter _
theorem Srt.set {fs : List Fl} (h : Srt fs) (n t : ByteArray) : Srt (fSet fs n t) := by
  unfold fSet Srt
  rw [List.pairwise_map]
  have e : ∀ p : Fl, (if p.1 = n then (n, t) else p).1 = p.1 := fun p => by split <;> simp_all
  exact h.imp (fun {p q} hpq => by rw [e, e]; exact hpq)
theorem mem_del {fs : List Fl} {n : ByteArray} {p : Fl} : p ∈ fDel fs n ↔ p ∈ fs ∧ p.1 ≠ n := by simp [fDel]
theorem mem_set {fs : List Fl} {n t : ByteArray} {p : Fl} (hh : ∃ q ∈ fs, q.1 = n) : p ∈ fSet fs n t ↔ p = (n, t) ∨ (p ∈ fs ∧ p.1 ≠ n) := by
  unfold fSet
  rw [List.mem_map]
  constructor
  · rintro ⟨q, hq, rfl⟩
    by_cases e : q.1 = n
    · rw [if_pos e]; exact .inl rfl
    · rw [if_neg e]; exact .inr ⟨hq, e⟩
  · rintro (rfl | ⟨hp, e⟩)
    · obtain ⟨q, hq, rfl⟩ := hh
      exact ⟨q, hq, by rw [if_pos rfl]⟩
    · exact ⟨p, hp, by rw [if_neg e]⟩
theorem del_none {fs : List Fl} {n : ByteArray} (h : ∀ p ∈ fs, p.1 ≠ n) : fDel fs n = fs := List.filter_eq_self.2 (fun p hp => by simp [h p hp])
theorem names_set (fs : List Fl) (n t : ByteArray) : (fSet fs n t).map (·.1) = fs.map (·.1) := by
  unfold fSet
  rw [List.map_map]
  refine List.map_congr_left (fun p _ => ?_)
  simp only [Function.comp]
  split <;> simp_all
/-- Files by their places. -/
theorem Srt.at_ {fs : List Fl} (h : Srt fs) {i j : Nat} (hi : i < fs.length) (hj : j < fs.length) (e : fs[i].1 = fs[j].1) : i = j := by
  rcases Nat.lt_trichotomy i j with hl | hl | hl
  · have := List.pairwise_iff_getElem.1 h i j hi hj hl
    rw [e] at this; exact absurd this (bl_irr _)
  · exact hl
  · have := List.pairwise_iff_getElem.1 h j i hj hi hl
    rw [e] at this; exact absurd this (bl_irr _)
theorem cut_out {fs : List Fl} (h : Srt fs) {i : Nat} (hi : i < fs.length) : fs.take i ++ fs.drop (i + 1) = fDel fs fs[i].1 := by
  have hd : fs[i] :: fs.drop (i + 1) = fs.drop i := List.getElem_cons_drop hi
  have ht := List.take_append_drop i fs
  rw [← hd] at ht
  have h' : Srt (fs.take i ++ fs[i] :: fs.drop (i + 1)) := by rw [ht]; exact h
  have hp := List.pairwise_append.1 h'
  have hq := List.pairwise_cons.1 hp.2.1
  conv => rhs; unfold fDel
  have ev : ∀ l : List Fl, fs = l → List.filter (fun p => decide (p.1 ≠ fs[i].1)) fs = List.filter (fun p => decide (p.1 ≠ fs[i].1)) l := fun l e => by conv => lhs; arg 2; rw [e]
  rw [ev _ ht.symm, List.filter_append, List.filter_cons]
  rw [if_neg (by simp)]
  rw [List.filter_eq_self.2 (fun p hp' => by
      have := hp.2.2 p hp' fs[i] (List.Mem.head _)
      simp only [decide_eq_true_eq]
      intro e; rw [e] at this; exact bl_irr _ this),
    List.filter_eq_self.2 (fun p hp' => by
      have := hq.1 p hp'
      simp only [decide_eq_true_eq]
      intro e; rw [e] at this; exact bl_irr _ this)]
theorem texts_set {fs : List Fl} (h : Srt fs) {i : Nat} (hi : i < fs.length) (t : ByteArray) : (fs.map (·.2)).set i t = (fSet fs fs[i].1 t).map (·.2) := by
  apply List.ext_getElem
  · simp [fSet]
  · intro j h1 h2
    have hj : j < fs.length := by simpa using h1
    rw [List.getElem_set]
    simp only [fSet, List.getElem_map]
    by_cases e : i = j
    · subst e; simp
    · rw [if_neg e, if_neg (fun e2 => e (h.at_ hi hj e2.symm))]
/-- The names whole, sorted. -/
theorem Srt.sorted {fs : List Fl} (h : Srt fs) {ss : List (List UInt8)} (hp : ss.Perm (fs.map (fun p => bl p.1))) : ss.mergeSort (fun x y => decide (x ≤ y)) = fs.map (fun p => bl p.1) := by
  have tr : ∀ a b c : List UInt8, leB a b = true → leB b c = true → leB a c = true := fun a b c h1 h2 => by simp only [leB, decide_eq_true_eq] at *; exact List.le_trans h1 h2
  have tot : ∀ a b : List UInt8, (leB a b || leB b a) = true := fun a b => by simp only [leB, Bool.or_eq_true, decide_eq_true_eq]; exact List.le_total a b
  refine List.Perm.eq_of_pairwise (le := fun a b => leB a b = true) (fun a b _ _ h1 h2 => ?_) (List.pairwise_mergeSort tr tot ss) ?_ ((List.mergeSort_perm ss leB).trans hp)
  · simp only [leB, decide_eq_true_eq] at h1 h2
    exact List.le_antisymm h1 h2
  · rw [List.pairwise_map]
    exact h.imp (fun {p q} hpq => by simp only [leB, decide_eq_true_eq]; exact List.le_of_lt hpq)
/-- How many bytes the files have that a range has come by. -/
def fDone (fs : List Fl) (k : ByteArray → Bool) : Nat := fUsed (fs.filter (fun p => !k p.1))
theorem fDone_none (fs : List Fl) (k : ByteArray → Bool) (h : ∀ p ∈ fs, k p.1 = true) : fDone fs k = 0 := by
  unfold fDone
  rw [List.filter_eq_nil_iff.2 (fun p hp => by simp [h p hp])]
  rfl
theorem fDone_all (fs : List Fl) (k : ByteArray → Bool) (h : ∀ p ∈ fs, k p.1 = false) : fDone fs k = fUsed fs := by
  unfold fDone
  rw [List.filter_eq_self.2 (fun p hp => by simp [h p hp])]
theorem fDone_step {fs : List Fl} (hs : Srt fs) (k k' : ByteArray → Bool) {q : Fl} (hq : q ∈ fs) (h1 : k q.1 = true) (h2 : k' q.1 = false) (ho : ∀ n, n ≠ q.1 → k' n = k n) : fDone fs k' = fDone fs k + q.2.size := by
  induction fs with
  | nil => exact absurd hq (by simp)
  | cons x xs ih =>
    obtain ⟨p1, p2⟩ := List.pairwise_cons.1 hs
    rcases List.mem_cons.1 hq with rfl | hq'
    · have : ∀ p ∈ xs, k' p.1 = k p.1 := fun p hp => ho _ (fun e => by have := p1 p hp; rw [e] at this; exact bl_irr _ this)
      have e : xs.filter (fun p => !k' p.1) = xs.filter (fun p => !k p.1) := List.filter_congr (fun p hp => by rw [this p hp])
      simp [fDone, h1, h2, e, fUsed]
      omega
    · have hne : x.1 ≠ q.1 := fun e => by have := p1 q hq'; rw [e] at this; exact bl_irr _ this
      have := ih p2 hq'
      have e := ho _ hne
      cases hk : k x.1 <;> simp [fDone, e, hk, fUsed] at this ⊢ <;> omega
theorem fDone_le (fs : List Fl) (k : ByteArray → Bool) : fDone fs k ≤ fUsed fs := by
  induction fs with
  | nil => exact Nat.le_refl _
  | cons x xs ih => cases hk : k x.1 <;> simp [fDone, hk, fUsed] at ih ⊢ <;> omega
theorem used_ins (fs : List Fl) (n t : ByteArray) : fUsed (fIns fs n t) = fUsed fs + t.size := by
  have e := List.takeWhile_append_dropWhile (p := ahd n) (l := fs)
  have h : fUsed fs = fUsed (fs.takeWhile (ahd n) ++ fs.dropWhile (ahd n)) := by rw [e]
  rw [h]
  unfold fIns fUsed
  simp only [List.map_append, List.map_cons, List.sum_append, List.sum_cons]
  omega
theorem used_del {fs : List Fl} (hs : Srt fs) {q : Fl} (hq : q ∈ fs) : fUsed (fDel fs q.1) + q.2.size = fUsed fs := by
  have := fDone_step hs (fun n => decide (n = q.1)) (fun _ => false) hq (by simp) rfl (fun n hn => by simp [hn])
  rw [fDone_all fs _ (fun _ _ => rfl)] at this
  rw [this]
  have e : fDone fs (fun n => decide (n = q.1)) = fUsed (fDel fs q.1) := by
    unfold fDone fDel
    exact congrArg fUsed (List.filter_congr (fun p _ => by simp))
  rw [e]
theorem used_set {fs : List Fl} (hs : Srt fs) {q : Fl} (hq : q ∈ fs) (t : ByteArray) : fUsed (fSet fs q.1 t) + q.2.size = fUsed fs + t.size := by
  induction fs with
  | nil => exact absurd hq (by simp)
  | cons x xs ih =>
    obtain ⟨p1, p2⟩ := List.pairwise_cons.1 hs
    rcases List.mem_cons.1 hq with rfl | hq'
    · have e : xs.map (fun p => if p.1 = q.1 then (q.1, t) else p) = xs := by
        rw [show xs.map (fun p => if p.1 = q.1 then (q.1, t) else p) = xs.map id from List.map_congr_left (fun p hp => if_neg (fun e => by have := p1 p hp; rw [e] at this; exact bl_irr _ this)), List.map_id]
      simp only [fSet, List.map_cons, e, if_pos, fUsed, List.sum_cons]
      omega
    · have hne : x.1 ≠ q.1 := fun e => by have := p1 q hq'; rw [e] at this; exact bl_irr _ this
      have := ih p2 hq'
      simp only [fSet, List.map_cons, if_neg hne, fUsed, List.sum_cons] at this ⊢
      omega
theorem used_mem {fs : List Fl} {q : Fl} (hq : q ∈ fs) : q.2.size ≤ fUsed fs := by
  induction fs with
  | nil => exact absurd hq (by simp)
  | cons x xs ih =>
    rcases List.mem_cons.1 hq with rfl | hq'
    · simp [fUsed]
    · have := ih hq'; simp [fUsed] at this ⊢; omega
theorem len_ins (fs : List Fl) (n t : ByteArray) : (fIns fs n t).length = fs.length + 1 := by
  have e := List.takeWhile_append_dropWhile (p := ahd n) (l := fs)
  have h : fs.length = (fs.takeWhile (ahd n) ++ fs.dropWhile (ahd n)).length := by rw [e]
  rw [h]
  unfold fIns
  simp only [List.length_append, List.length_cons]
  omega
theorem len_set (fs : List Fl) (n t : ByteArray) : (fSet fs n t).length = fs.length := by simp [fSet]
theorem len_del (fs : List Fl) (n : ByteArray) : (fDel fs n).length ≤ fs.length := List.length_filter_le _ _
end Go.Proofs.YtmpdkccmcnegkaaDoor
