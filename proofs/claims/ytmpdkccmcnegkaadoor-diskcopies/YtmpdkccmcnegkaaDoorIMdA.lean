/-
  The law's model of a disk in memory: find, used, room.
-/
import Derived.Test.YtmpdkccmcnegkaaDoorIDkV
namespace Go.Proofs.YtmpdkccmcnegkaaDoor
open Go.RowKit Go.Maps
abbrev mdBox (na : Option Addr) (n nc : Nat) (ta : Option Addr) (tc : Nat) (q : Nat) (sh : Bool) (lm : Int) (dn : Nat) : Array Value := #[.slice na n nc, .slice ta n tc, .int .i64 q, .bool sh, .int .i64 lm, .int .i64 dn]
/-- The two rows of a model. -/
structure MdR (w : World) (P : Nat → Prop) (fs : List Fl) (na : Option Addr) (nc : Nat) (ta : Option Addr) (tc : Nat) : Prop where
  nr : w.ownsRow 0 9 1 (.slice na fs.length nc) fs.length (strC (fs.map (·.1)))
  tr : w.ownsRow 0 9 1 (.slice ta fs.length tc) fs.length (strC (fs.map (·.2)))
  no : ∀ a, na = some a → P a.block
  to_ : ∀ a, ta = some a → P a.block
  ne : ∀ a a', na = some a → ta = some a' → a.block ≠ a'.block
structure MdAt (w : World) (P : Nat → Prop) (b : Nat) (s : DkSt) : Prop where
  box : ∃ na nc ta tc lm, w.heap[b]? = some (.cells (mdBox na s.fs.length nc ta tc s.quota s.short lm s.done) 33 (0, 0)) ∧ (s.short = true → lm = s.left) ∧ (-(s.done : Int) ≤ lm ∧ lm ≤ 9223372036854775807) ∧ MdR w P s.fs na nc ta tc
  bP : P b
  lt : ∀ k, P k → k < w.heap.size
  ok : StOk s
theorem row6 {w : World} {g e : Nat} {x0 x1 x2 x3 x4 x5 : Value} (h : w.heap[g]? = some (.cells #[x0, x1, x2, x3, x4, x5] e (0, 0))) :
    (w.cell? ⟨g, 0, none⟩ = some x0 ∧ w.cell? ⟨g, 1, none⟩ = some x1 ∧ w.cell? ⟨g, 2, none⟩ = some x2 ∧ w.cell? ⟨g, 3, none⟩ = some x3 ∧ w.cell? ⟨g, 4, none⟩ = some x4 ∧ w.cell? ⟨g, 5, none⟩ = some x5) ∧ w.frozen? ⟨g, 0, none⟩ = false ∧ w.frozen? ⟨g, 1, none⟩ = false ∧ w.frozen? ⟨g, 2, none⟩ = false ∧ w.frozen? ⟨g, 3, none⟩ = false ∧ w.frozen? ⟨g, 4, none⟩ = false ∧ w.frozen? ⟨g, 5, none⟩ = false := by
  refine ⟨⟨cell_of_row w g 0 _ e _ h, cell_of_row w g 1 _ e _ h, cell_of_row w g 2 _ e _ h, cell_of_row w g 3 _ e _ h, cell_of_row w g 4 _ e _ h, cell_of_row w g 5 _ e _ h⟩, ?_⟩
  simp [World.frozen?, h]
theorem addrPl (b o j : Nat) : (⟨b, o, none⟩ : Addr).add j = ⟨b, o + j, none⟩ := by unfold Addr.add; split <;> simp_all
theorem row_at {w : World} {base e n c : Nat} {a : Option Addr} {ss : List ByteArray} (h : w.ownsRow base e 1 (.slice a n c) n (strC ss)) {j : Nat} (hj : j < ss.length) : ∃ g, a = some ⟨g, 0, none⟩ ∧ w.cell? ⟨g, j, none⟩ = some (.string ss[j]) := by
  rcases h.2 with ⟨e1, e2⟩ | ⟨g, cap, cur, e1, _, hg, _, _, _, htake⟩
  · have := h.1; simp at this; omega
  · injection e1 with e1 e2 e3
    subst e1
    refine ⟨g, rfl, ?_⟩
    have := h.cells (g := g) rfl j (.string ss[j]) (by simp [hj])
    rw [addrPl, Nat.zero_add] at this
    exact this
theorem row_len {w : World} {base e n : Nat} {v : Value} {ss : List ByteArray} (h : w.ownsRow base e 1 v n (strC ss)) : ss.length = n := by have := h.1; simpa using this
theorem MdR.stay {w w' : World} {P P' : Nat → Prop} {fs : List Fl} {na ta : Option Addr} {nc tc : Nat} (h : MdR w P fs na nc ta tc) (hk : ∀ k, k < w.heap.size → P k → w'.heap[k]? = w.heap[k]?) (hP : ∀ k, P k → P' k) : MdR w' P' fs na nc ta tc := by
  refine ⟨own_stay h.nr (fun g hg => hk g (own_lt h.nr hg) ?_), own_stay h.tr (fun g hg => hk g (own_lt h.tr hg) ?_), fun a e => hP _ (h.no a e), fun a e => hP _ (h.to_ a e), h.ne⟩
  · cases na with
    | none => cases hg
    | some a => simp [Value.ownBlock] at hg; subst hg; exact h.no a rfl
  · cases ta with
    | none => cases hg
    | some a => simp [Value.ownBlock] at hg; subst hg; exact h.to_ a rfl
theorem MdAt.off {w w' : World} {P Q : Nat → Prop} {b : Nat} {s : DkSt} (h : MdAt w Q b s) (ho : Off P w w') (hd : ∀ k, P k → Q k → False) : MdAt w' Q b s := by
  obtain ⟨na, nc, ta, tc, lm, hb, h2, h3, hr⟩ := h.box
  exact ⟨⟨na, nc, ta, tc, lm, ho.blk hb (fun hp => hd _ hp h.bP), h2, h3, hr.stay (fun k hk hq => ho.keep k hk (fun hp => hd k hp hq)) (fun _ hk => hk)⟩, h.bP, fun k hk => Nat.lt_of_lt_of_le (h.lt k hk) ho.size, h.ok⟩
theorem MdAt.below {w w' : World} {P : Nat → Prop} {b : Nat} {s : DkSt} (h : MdAt w P b s) (hb : Below w.heap.size w w') : MdAt w' P b s :=
  h.off (P := fun _ => False) (Off.of_below hb) (fun _ hp _ => hp)
theorem MdAt.gr {w : World} {P P' : Nat → Prop} {b : Nat} {s : DkSt} (h : MdAt w P b s) (hP : ∀ k, P k → P' k) (hl : ∀ k, P' k → k < w.heap.size) : MdAt w P' b s := by
  obtain ⟨na, nc, ta, tc, lm, hb, h2, h3, hr⟩ := h.box
  exact ⟨⟨na, nc, ta, tc, lm, hb, h2, h3, hr.stay (fun _ _ _ => rfl) hP⟩, hP _ h.bP, hl, h.ok⟩
/-- Where a name is. -/
def FIx (fs : List Fl) (n : ByteArray) (r : Int) : Prop := (r = -1 ∧ fHas fs n = false) ∨ ∃ (i : Nat) (h : i < fs.length), r = i ∧ fs[i].1 = n
set_option maxRecDepth 100000 in
set_option maxHeartbeats 1600000 in
theorem find_md (b : Nat) (P : Nat → Prop) (s : DkSt) (n : ByteArray) (W : World) (h : MdAt W P b s) :
    Calls Tryd.prog 13 #[.pointer (some ⟨b, 0, none⟩), .string n] W fun e w' => (∃ r, e = .returned (.int .i64 r) ∧ FIx s.fs n r) ∧ w' = W := by
  obtain ⟨na, nc, ta, tc, lm, hb, _, _, hr⟩ := h.box
  obtain ⟨⟨p0, p1, p2, p3, p4, p5⟩, _⟩ := row6 hb
  have HR : Hid _ := hr.nr
  have hlen := h.ok.len
  clear hb hr
  generalize s.fs = fs at HR hlen p0 ⊢
  go_enter Tryd.func13, Tryd.ntmps13
  go_wp2
  go_loop [5] (fun x => ∃ i : Nat, i ≤ fs.length ∧ x = .int .i64 i ∧ Hid (∀ j (h : j < fs.length), j < i → fs[j].1 ≠ n)) (fun x => fs.length - (intOf x).toNat)
  case atStart => exact ⟨0, Nat.zero_le _, rfl, fun j _ h => absurd h (Nat.not_lt_zero _)⟩
  case round =>
    obtain ⟨i, hi, rfl, HA⟩ := hrel
    by_cases hlt : i < fs.length
    · obtain ⟨g, rfl, hc⟩ := row_at HR.out (j := i) (by simpa using hlt)
      rw [List.getElem_map] at hc
      obtain ⟨x, HX⟩ := hid_nm fs[i].1
      rw [HX.out] at hc
      by_cases hxn : x = n
      · have HF : Hid (FIx fs n (i : Nat)) := .inr ⟨i, hlt, rfl, HX.out.trans hxn⟩
        subst hxn
        go_wp2
        go_ret
        exact ⟨⟨_, rfl, HF.out⟩, rfl⟩
      · have q1 : (x.toList == n.toList) = false := by
          rw [beq_eq_false_iff_ne]
          intro e
          rw [ByteArray.toList_eq, ByteArray.toList_eq] at e
          exact hxn (bl_inj e)
        have HN : Hid (∀ j (h : j < fs.length), j < i + 1 → fs[j].1 ≠ n) := fun j h hj => by
          by_cases e : j = i
          · subst e; rw [HX.out]; exact hxn
          · exact HA.out j h (by omega)
        clear hxn
        go_wp2
        go_round
        case rel => exact ⟨i + 1, by omega, by go_num, HN⟩
        case measure => simp [intOf]; omega
    · obtain rfl : i = fs.length := by omega
      have HF : Hid (FIx fs n (-1)) := .inl ⟨rfl, fHas_no.2 (fun p hp => by
        obtain ⟨j, hj, rfl⟩ := List.getElem_of_mem hp
        exact HA.out j hj hj)⟩
      go_wp2
      go_ret
      exact ⟨⟨_, rfl, HF.out⟩, rfl⟩
end Go.Proofs.YtmpdkccmcnegkaaDoor
