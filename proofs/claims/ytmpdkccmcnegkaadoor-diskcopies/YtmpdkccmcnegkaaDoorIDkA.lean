/-
  A disk in memory: its box, its map of files, each file's row; what stands where a call turns some blocks alone.
-/
import Derived.Test.YtmpdkccmcnegkaaDoorIDkM
import Derived.Test.YtmpdkccmcnegkaaDoorILaid8
import Derived.Test.YtmpdkccmcnegkaaDoorIAppAny
import Derived.Maps.Own
import Derived.Maps.OwnOps
import Derived.Maps.OwnSet
import Derived.Maps.Views
import Derived.Maps.RangeWalk
import Derived.Maps.Ext
import Derived.DeepKeys4
namespace Go.Proofs.YtmpdkccmcnegkaaDoor
open Go.RowKit Go.Maps
/-- All blocks are kept but those of S, and new ones. -/
structure Off (S : Nat → Prop) (w w' : World) : Prop where
  rest : Below 0 w w'
  keep : ∀ k, k < w.heap.size → ¬ S k → w'.heap[k]? = w.heap[k]?
theorem Off.refl (S : Nat → Prop) (w : World) : Off S w w := ⟨Below.refl _ _, fun _ _ _ => rfl⟩
theorem Off.size {S : Nat → Prop} {w w' : World} (h : Off S w w') : w.heap.size ≤ w'.heap.size := h.rest.size
theorem Off.trans {S S' : Nat → Prop} {w w1 w2 : World} (h : Off S w w1) (h' : Off S' w1 w2) (hs : ∀ k, k < w.heap.size → S' k → S k) : Off S w w2 :=
  ⟨h.rest.trans h'.rest, fun k hk hn => (h'.keep k (Nat.lt_of_lt_of_le hk h.size) (fun e => hn (hs k hk e))).trans (h.keep k hk hn)⟩
theorem Off.mono {S S' : Nat → Prop} {w w1 : World} (h : Off S w w1) (hs : ∀ k, k < w.heap.size → S k → S' k) : Off S' w w1 := ⟨h.rest, fun k hk hn => h.keep k hk (fun e => hn (hs k hk e))⟩
theorem Off.of_below {S : Nat → Prop} {w w' : World} (h : Below w.heap.size w w') : Off S w w' := ⟨h.mono (Nat.zero_le _), fun k hk _ => h.block k hk⟩
theorem Off.of_grown {S : Nat → Prop} {w w' : World} {r : Option Nat} (h : w.grownBy w' r) (hr : ∀ k, k < w.heap.size → r = some k → S k) : Off S w w' :=
  ⟨⟨h.os, h.tape, h.output, h.size, fun _ hk => absurd hk (Nat.not_lt_zero _)⟩, fun k hk hn => h.block k hk (fun e => hn (hr k hk e.symm))⟩
theorem Off.below {S : Nat → Prop} {w w' : World} (h : Off S w w') {B : Nat} (hB : B ≤ w.heap.size) (hs : ∀ k, S k → B ≤ k) : Below B w w' :=
  ⟨h.rest.os, h.rest.tape, h.rest.output, h.size, fun k hk => h.keep k (Nat.lt_of_lt_of_le hk hB) (fun e => absurd hk (Nat.not_lt.2 (hs k e)))⟩
theorem Off.set {S : Nat → Prop} {w w' : World} (h : Off S w w') {g j : Nat} (hg : S g ∨ w.heap.size ≤ g) (v : Value) : Off S w (w'.setCell ⟨g, j, none⟩ v) := by
  refine ⟨⟨h.rest.os, h.rest.tape, h.rest.output, by simpa using h.size, fun _ hk => absurd hk (Nat.not_lt_zero _)⟩, fun k hk hn => ?_⟩
  refine (Below.heap_setCell w' ⟨g, j, none⟩ v k (fun e => ?_)).trans (h.keep k hk hn)
  rcases hg with h1 | h1
  · exact hn (e ▸ h1)
  · simp at e; omega
theorem Off.alloc {S : Nat → Prop} {w w' : World} (h : Off S w w') (o : Obj) : Off S w (w'.alloc o) :=
  h.trans (Off.of_below (S := S) ((Below.refl _ _).alloc (Nat.le_refl _) o)) (fun _ _ h => h)
theorem Off.drew {S : Nat → Prop} {w w' : World} (h : Off S w w') : Off S w w'.drew := ⟨⟨h.rest.os, h.rest.tape, h.rest.output, h.rest.size, h.rest.block⟩, h.keep⟩
/-- What may turn, and all that is new. -/
def Gr (P : Nat → Prop) (W w' : World) (k : Nat) : Prop :=
  P k ∨ (W.heap.size ≤ k ∧ k < w'.heap.size)
theorem Off.blk {S : Nat → Prop} {w w' : World} (h : Off S w w') {k : Nat} {o : Obj} (hk : w.heap[k]? = some o) (hn : ¬ S k) : w'.heap[k]? = some o := (h.keep k (lt_of_block hk) hn).trans hk
/-- How a file's bytes are read: as the slice itself. -/
def RF (v : Value) : Option (DataW Value × List MemPlace) := match v with | .slice a n c => some (.held (.slice a n c), []) | _ => none
theorem RF_inv (v : Value) (y : DataW Value × List MemPlace) (h : RF v = some y) : ∃ x : Option Addr × Nat × Nat, v = .slice x.1 x.2.1 x.2.2 := by
  unfold RF at h
  split at h
  · exact ⟨(_, _, _), rfl⟩
  · cases h
abbrev kS (s : ByteArray) : Lit := .string (bl s)
theorem kS_key (s : ByteArray) : WideAt.IsKeyLit (kS s) := trivial
theorem kS_inj {a b : ByteArray} (h : kS a = kS b) : a = b := bl_inj (by simpa using h)
theorem kS_same (a b : ByteArray) : (kS a).sameKey (kS b) = decide (a = b) := by
  by_cases e : a = b
  · subst e; simp [WideAt.sameKey_self (kS_key a)]
  · rw [sameKey_ne (fun h => e (kS_inj h))]; simp [e]
theorem Tryd.lawK : Keyed Tryd.prog 9 := string_keyed Tryd.underlying9
theorem kS_of (s : ByteArray) (hs : s.size ≤ maxLen) : keyOf Tryd.prog 9 (.string s) = some (kS s) := WideMaps.keyOf_string_mk Tryd.underlying9 hs
/-- The files of a map. -/
structure FM (w : World) (P : Nat → Prop) (mb : Nat) (fs : List Fl) (D : DataW Value) (vf : ByteArray → Value) : Prop where
  map : ∃ n, w.ownsMap Tryd.prog 9 RF mb n D
  has : ∀ kl, Maps.has D kl = true ↔ ∃ p ∈ fs, kl = kS p.1
  at_ : ∀ p ∈ fs, ∀ z, D.atKey (kS p.1) z = .held (vf p.1)
  row : ∀ p ∈ fs, w.ownsRow 0 5 1 (vf p.1) (bl p.2).length (cellsOf (bl p.2))
  own : ∀ p ∈ fs, ∃ g, (vf p.1).ownBlock = some g ∧ P g
  apart : ∀ p ∈ fs, ∀ q ∈ fs, (vf p.1).ownBlock = (vf q.1).ownBlock → p.1 = q.1
  mbP : P mb
theorem own_lt {w : World} {base e size n g : Nat} {v : Value} {xs : List Value} (h : w.ownsRow base e size v n xs) (hg : v.ownBlock = some g) : g < w.heap.size := by
  rcases h.2 with ⟨rfl, _⟩ | ⟨g1, cap, cur, rfl, _, h1, _⟩
  · cases hg
  · simp [Value.ownBlock] at hg; subst hg; exact lt_of_block h1
theorem own_stay {w w' : World} {base e size n : Nat} {v : Value} {xs : List Value} (h : w.ownsRow base e size v n xs) (hk : ∀ g, v.ownBlock = some g → w'.heap[g]? = w.heap[g]?) : w'.ownsRow base e size v n xs := by
  refine ⟨h.1, ?_⟩
  rcases h.2 with hn | ⟨g, cap, cur, rfl, hb, hg, rest⟩
  · exact .inl hn
  · exact .inr ⟨g, cap, cur, rfl, hb, (hk g rfl).trans hg, rest⟩
theorem map_stay {w w' : World} {k : TypeId} {R : Value → Option (DataW Value × List MemPlace)} {b n : Nat} {D : DataW Value} (h : w.ownsMap Tryd.prog k R b n D) (hk : w'.heap[b]? = w.heap[b]?) : w'.ownsMap Tryd.prog k R b n D := by
  obtain ⟨es, cl, hb, r⟩ := h
  exact ⟨es, cl, hk.trans hb, r⟩
theorem FM.stay {w w' : World} {P P' : Nat → Prop} {mb : Nat} {fs : List Fl} {D : DataW Value} {vf : ByteArray → Value} (h : FM w P mb fs D vf) (hk : ∀ k, k < w.heap.size → P k → w'.heap[k]? = w.heap[k]?) (hP : ∀ k, P k → P' k) : FM w' P' mb fs D vf := by
  obtain ⟨n, hm⟩ := h.map
  refine ⟨⟨n, map_stay hm (hk mb hm.lt h.mbP)⟩, h.has, h.at_, fun p hp => own_stay (h.row p hp) (fun g hg => ?_), fun p hp => ?_, h.apart, hP _ h.mbP⟩
  · obtain ⟨g', e, hP'⟩ := h.own p hp
    rw [hg] at e; cases e
    exact hk g (own_lt (h.row p hp) hg) hP'
  · obtain ⟨g', e, hP'⟩ := h.own p hp
    exact ⟨g', e, hP _ hP'⟩
/-- The map's bound is how many entries it has. -/
theorem own_tight {w : World} {k : TypeId} {R : Value → Option (DataW Value × List MemPlace)} {b n : Nat} {D : DataW Value} (h : w.ownsMap Tryd.prog k R b n D) : w.ownsMap Tryd.prog k R b (Maps.size D) D := by
  obtain ⟨es, cl, hb, F, _, rfl⟩ := h
  exact ⟨es, cl, hb, F, by simp [Maps.size, length_sorted], rfl⟩
theorem FM.perm {w : World} {P : Nat → Prop} {mb : Nat} {fs : List Fl} {D : DataW Value} {vf : ByteArray → Value} (h : FM w P mb fs D vf) (hs : Srt fs) : (fs.map (fun p => bl p.1)).Perm (strKeys D) := by
  obtain ⟨n, hm⟩ := h.map
  obtain ⟨es, hD, hpw, _⟩ := hm.entries Tryd.lawK
  obtain ⟨es', hD', hko⟩ := hm.keysOf
  obtain rfl : es = es' := by rw [hD] at hD'; simpa using hD'
  subst hD
  refine perm_strKeys hpw (fun p hp => by obtain ⟨v, hv⟩ := hko p hp; obtain ⟨x, _, hx, _⟩ := Maps.keyOf_str Tryd.underlying9 hv; exact ⟨x, hx⟩) ?_ (fun x => ?_)
  · refine List.pairwise_map.2 (hs.imp (fun {p q} hpq e => by rw [e] at hpq; exact bl_irr _ hpq))
  · rw [h.has]
    simp only [List.mem_map]
    constructor
    · rintro ⟨p, hp, rfl⟩; exact ⟨p, hp, rfl⟩
    · rintro ⟨p, hp, e⟩; exact ⟨p, hp, by simpa [kS] using e.symm⟩
theorem FM.size {w : World} {P : Nat → Prop} {mb : Nat} {fs : List Fl} {D : DataW Value} {vf : ByteArray → Value} (h : FM w P mb fs D vf) (hs : Srt fs) : Maps.size D = fs.length := by
  have := (h.perm hs).length_eq
  obtain ⟨n, es, cl, hb, F, _, rfl⟩ := h.map
  simp [strKeys] at this
  simp [Maps.size]
  exact this.symm
theorem FM.hasB {w : World} {P : Nat → Prop} {mb : Nat} {fs : List Fl} {D : DataW Value} {vf : ByteArray → Value} (h : FM w P mb fs D vf) (n : ByteArray) : Maps.has D (kS n) = fHas fs n := by
  rw [Bool.eq_iff_iff, h.has, fHas_iff]
  constructor
  · rintro ⟨p, hp, e⟩; exact ⟨p, hp, (kS_inj e).symm⟩
  · rintro ⟨p, hp, rfl⟩; exact ⟨p, hp, rfl⟩
/-- No files. -/
theorem FM.empty {w : World} {P : Nat → Prop} {mb n : Nat} (h : w.ownsMap Tryd.prog 9 RF mb n (.map [])) (hP : P mb) (vf : ByteArray → Value) : FM w P mb [] (.map []) vf :=
  ⟨⟨n, h⟩, fun kl => by simp [Maps.has], fun p hp => absurd hp (by simp), fun p hp => absurd hp (by simp), fun p hp => absurd hp (by simp), fun p hp => absurd hp (by simp), hP⟩
/-- A file is gone. -/
theorem FM.del {w w' : World} {P : Nat → Prop} {mb n' : Nat} {fs : List Fl} {D : DataW Value} {vf : ByteArray → Value} (h : FM w P mb fs D vf) (nm : ByteArray) (hm : w'.ownsMap Tryd.prog 9 RF mb n' (D.del (kS nm))) (ht : w.mapTurned w' mb) : FM w' P mb (fDel fs nm) (D.del (kS nm)) vf := by
  have hg := ht.grown
  obtain ⟨es0, cl0, _, _, hb0, _⟩ := ht
  refine ⟨⟨n', hm⟩, fun kl => ?_, fun p hp z => ?_, fun p hp => ?_, fun p hp => h.own p (mem_del.1 hp).1, fun p hp q hq => h.apart p (mem_del.1 hp).1 q (mem_del.1 hq).1, h.mbP⟩
  · by_cases e : kl = kS nm
    · subst e
      rw [has_del_same]
      constructor
      · intro h; cases h
      · rintro ⟨p, hp, e⟩; exact absurd (kS_inj e).symm (mem_del.1 hp).2
    · rw [has_del_other e, h.has]
      constructor
      · rintro ⟨p, hp, rfl⟩; exact ⟨p, mem_del.2 ⟨hp, fun e2 => e (by rw [e2])⟩, rfl⟩
      · rintro ⟨p, hp, rfl⟩; exact ⟨p, (mem_del.1 hp).1, rfl⟩
  · rw [atKey_del_other (fun e => (mem_del.1 hp).2 (kS_inj e)), h.at_ p (mem_del.1 hp).1]
  · refine own_stay (h.row p (mem_del.1 hp).1) (fun g hg' => hg.block g (own_lt (h.row p (mem_del.1 hp).1) hg') (fun e => ?_))
    cases e
    rcases (h.row p (mem_del.1 hp).1).2 with ⟨e, _⟩ | ⟨g1, cap, cur, e, _, h1, _⟩
    · rw [e] at hg'; cases hg'
    · rw [e] at hg'; simp [Value.ownBlock] at hg'; subst hg'; rw [h1] at hb0; cases hb0
/-- A file is put in. -/
theorem FM.put {w w' : World} {P P' : Nat → Prop} {mb n' : Nat} {fs fs' : List Fl} {D : DataW Value} {vf : ByteArray → Value} (h : FM w P mb fs D vf) (nm tx : ByteArray) (v : Value)
    (hm : w'.ownsMap Tryd.prog 9 RF mb n' (D.put (kS nm) (.held v))) (hmem : ∀ p, p ∈ fs' ↔ p = (nm, tx) ∨ (p ∈ fs ∧ p.1 ≠ nm))
    (hk : ∀ p ∈ fs, p.1 ≠ nm → ∀ g, (vf p.1).ownBlock = some g → w'.heap[g]? = w.heap[g]?) (hrow : w'.ownsRow 0 5 1 v (bl tx).length (cellsOf (bl tx))) (hP : ∀ k, P k → P' k)
    (hown : ∃ g, v.ownBlock = some g ∧ P' g) (hap : ∀ p ∈ fs, p.1 ≠ nm → (vf p.1).ownBlock ≠ v.ownBlock) : FM w' P' mb fs' (D.put (kS nm) (.held v)) (fun s => if s = nm then v else vf s) := by
  obtain ⟨n0, hm0⟩ := h.map
  have hIs := hm0.isMap
  refine ⟨⟨n', hm⟩, fun kl => ?_, fun p hp z => ?_, fun p hp => ?_, fun p hp => ?_, fun p hp q hq e => ?_, hP _ h.mbP⟩
  · by_cases e : kl = kS nm
    · subst e
      rw [has_put_same hIs (kS_key nm)]
      exact ⟨fun _ => ⟨(nm, tx), (hmem _).2 (.inl rfl), rfl⟩, fun _ => rfl⟩
    · rw [has_put_other e, h.has]
      constructor
      · rintro ⟨p, hp, rfl⟩; exact ⟨p, (hmem _).2 (.inr ⟨hp, fun e2 => e (by rw [e2])⟩), rfl⟩
      · rintro ⟨p, hp, rfl⟩
        rcases (hmem p).1 hp with rfl | ⟨hp, _⟩
        · exact absurd rfl e
        · exact ⟨p, hp, rfl⟩
  · rcases (hmem p).1 hp with rfl | ⟨hp, hne⟩
    · rw [atKey_put_same hIs (kS_key nm), if_pos rfl]
    · rw [atKey_put_other (fun e => hne (kS_inj e)), h.at_ p hp, if_neg hne]
  · rcases (hmem p).1 hp with rfl | ⟨hp, hne⟩
    · rw [if_pos rfl]; exact hrow
    · rw [if_neg hne]; exact own_stay (h.row p hp) (hk p hp hne)
  · rcases (hmem p).1 hp with rfl | ⟨hp, hne⟩
    · rw [if_pos rfl]; exact hown
    · rw [if_neg hne]; obtain ⟨g, e, hg⟩ := h.own p hp; exact ⟨g, e, hP _ hg⟩
  · rcases (hmem p).1 hp with rfl | ⟨hp, hne⟩
    · rcases (hmem q).1 hq with rfl | ⟨hq, hne2⟩
      · rfl
      · rw [if_pos rfl, if_neg hne2] at e
        exact absurd e.symm (hap q hq hne2)
    · rcases (hmem q).1 hq with rfl | ⟨hq, hne2⟩
      · rw [if_pos rfl, if_neg hne] at e
        exact absurd e (hap p hp hne)
      · rw [if_neg hne, if_neg hne2] at e
        exact h.apart p hp q hq e
end Go.Proofs.YtmpdkccmcnegkaaDoor
