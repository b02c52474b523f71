/-
  The reference's UnlikeOf: the unlike values, in the order in which they come, and of each value its place.
-/
import Derived.Test.YtjcmnngaecoddaaGreatDoorPByFirst
import Derived.Test.YtjcmnngaecoddaaGreatDoorPBWordsMath
import Derived.Deep.QuietTactic
import Derived.BigQuiet
namespace Go.Proofs.YtjcmnngaecoddaaGreatDoor
open Go.RowKit
theorem own_two {w w' : World} {b1 b2 e1 e2 s1 s2 n m : Nat} {v u : Value} {xs ys : List Value} (h1 : w.ownsRow b1 e1 s1 v n xs) (h2 : w.ownsRow b2 e2 s2 u m ys) (hne : e1 ≠ e2) (hg : w.grownBy w' v.ownBlock) : w'.ownsRow b2 e2 s2 u m ys := by
  refine ⟨h2.1, ?_⟩
  rcases h2.2 with hn | ⟨k, cap, cur, rfl, hbk, hk, rest⟩
  · exact .inl hn
  · refine .inr ⟨k, cap, cur, rfl, hbk, (hg.block k (Array.getElem?_eq_some_iff.1 hk).1 (fun e => ?_)).trans hk, rest⟩
    rcases h1.2 with ⟨rfl, _⟩ | ⟨g1, _, cur1, rfl, _, hg1, _⟩
    · simp [Value.ownBlock] at e
    · simp [Value.ownBlock] at e
      subst e
      rw [hg1] at hk
      injection hk with hk
      injection hk with _ hk _
      exact hne hk
theorem dN {B : Nat} {a w : World} (h : Below B a w) (n : Nat) : Below B a (w.drewN n) := h.trans ⟨rfl, rfl, rfl, Nat.le_refl _, fun _ _ => rfl⟩
/-- Places, as cells. -/
def pcells (ps : List Nat) : List Value := ps.map fun p : Nat => .int .i64 (p : Int)
theorem pcells_snoc (ps : List Nat) (p : Nat) : pcells (ps ++ [p]) = pcells ps ++ [.int .i64 (p : Int)] := by simp [pcells]
theorem lies_row {w : World} {base e n : Nat} {a : Option Addr} {m c : Nat} {us : List Vl} (h : w.ownsRow base e 3 (.slice a m c) n (vcells us)) : LiesV w a us := by
  obtain ⟨a', c', e', hl⟩ := liesV_own h
  injection e' with e1 _ _
  subst e1
  exact hl
/-- What UnlikeOf's loop keeps. -/
structure UL (w : World) (o p : Value) (wr : World) (us : List Vl) (ps : List Nat) : Prop where
  row : wr.ownsRow w.heap.size 45 3 o us.length (vcells us)
  pl : wr.ownsRow w.heap.size 3 1 p ps.length (pcells ps)
  old : Below w.heap.size w wr
theorem UL.drewN {w : World} {o p : Value} {wr : World} {us : List Vl} {ps : List Nat} (h : UL w o p wr us ps) (n : Nat) : UL w o p (wr.drewN n) us ps := ⟨h.row, h.pl, dN h.old n⟩
/-- A value is put behind the unlike ones. -/
theorem UL.push {w : World} {o p o' : Value} {wr w1 : World} {ob : Obj} {us : List Vl} {ps : List Nat} {v : Vl} (h : UL w o p wr us ps) (hown : w1.ownsRow w.heap.size 45 3 o' (us.length + 1) (vcells us ++ [.int .i64 v.k, .int .i64 v.n, .string v.s])) (hg : (wr.alloc ob).grownBy w1 o.ownBlock) : UL w o' p w1 (us ++ [v]) ps :=
  ⟨by rw [vcells_snoc, List.length_append]; exact hown, own_two (h.row.alloc ob) (h.pl.alloc ob) (by decide) hg, (h.old.alloc h.old.size ob).grown hg (by have := h.old.size; simp; omega) (fun k hk => (h.row.lt k hk).1)⟩
/-- A place is put behind the others. -/
theorem UL.place {w : World} {o p p' : Value} {wr w1 : World} {ob : Obj} {us : List Vl} {ps : List Nat} {q : Nat} (h : UL w o p wr us ps) (hown : w1.ownsRow w.heap.size 3 1 p' (ps.length + 1) (pcells ps ++ [.int .i64 (q : Int)])) (hg : (wr.alloc ob).grownBy w1 p.ownBlock) : UL w o p' w1 us (ps ++ [q]) :=
  ⟨own_two (h.pl.alloc ob) (h.row.alloc ob) (by decide) hg, by rw [pcells_snoc, List.length_append]; exact hown, (h.old.alloc h.old.size ob).grown hg (by have := h.old.size; simp; omega) (fun k hk => (h.pl.lt k hk).1)⟩
def RetUL (vs : List Vl) (e : Ending) (w' : World) : Prop :=
  ∃ us ps a c a' c', Uq vs us ps ∧ e = .returned (.tuple #[.slice a us.length c, .slice a' ps.length c']) ∧ LiesV w' a us ∧ Lies w' a' (pcells ps)
set_option maxHeartbeats 3200000 in
set_option maxRecDepth 100000 in
theorem unlikeOf_any (a : Option Addr) (vs : List Vl) (c : Nat) (w : World) (hn : vs.length ≤ 20000) (hl : LiesV w a vs) :
    Calls Tryz.prog 84 #[.slice a vs.length c] w fun e w' => RetUL vs e w' ∧ Below w.heap.size w w' := by
  obtain ⟨i0, hi, hz0, hz1, hz2⟩ := info_parts Tryz.info3
  obtain ⟨iv, hvi, hv0, hv1, hv2⟩ := info_parts Tryz.infoV
  have HL : Hid (LiesV w a vs) := hl
  clear hl
  go_enter Tryz.func84, Tryz.ntmps84
  go_wp2
  go_loopw [4, 5, 6] (fun o p x wr => ∃ (i : Nat) (us : List Vl) (ps : List Nat), i ≤ vs.length ∧ x = .int .i64 i ∧ Hid (Uq (vs.take i) us ps) ∧ Hid (UL w o p wr us ps)) (fun _ _ x _ => vs.length - (intOf x).toNat)
  case atStart => exact ⟨0, [], [], Nat.zero_le _, rfl, Uq.nil, ⟨World.ownsRow_nil _ _ _ _, World.ownsRow_nil _ _ _ _, Below.refl _ _⟩⟩
  case round =>
    obtain ⟨i, us, ps, hik, rfl, HU, HB⟩ := hrel
    have hlen := HU.out.len
    rw [List.length_take, Nat.min_eq_left hik] at hlen
    obtain ⟨hpl, hul⟩ := hlen
    by_cases hlt : i < vs.length
    · obtain ⟨b, o, rfl, hc0, hc1, hc2⟩ := (HL.out.keep HB.out.old) i hlt
      have HC : Hid (∀ W, Below w.heap.size w W → W.cell? ⟨b, o + i * 3, none⟩ = some (.int .i64 vs[i].k) ∧ W.cell? ⟨b, o + i * 3 + 1, none⟩ = some (.int .i64 vs[i].n) ∧ W.cell? ⟨b, o + i * 3 + 2, none⟩ = some (.string vs[i].s)) := fun W hW => by
        obtain ⟨b', o', e, h⟩ := (HL.out.keep hW) i hlt
        have e := Option.some.inj e
        simp only [Addr.mk.injEq, and_true] at e
        rw [e.1, e.2]
        exact h
      have HT : Hid (vs.take (i + 1) = vs.take i ++ [vs[i]]) := List.take_succ_eq_append_getElem hlt
      generalize vs[i] = v at *
      obtain ⟨a2, c2, rfl, hl2⟩ := liesV_own HB.out.row
      clear hl2
      go_wp2
      clear hc0 hc1 hc2
      go_loopw [7] (fun y wr => ∃ k : Nat, k ≤ us.length ∧ y = .int .i64 k ∧ Hid (∀ j (h : j < us.length), j < k → us[j] ≠ v) ∧ Hid (UL w (.slice a2 us.length c2) _ wr us ps)) (fun y _ => us.length - (intOf y).toNat)
      case atStart => exact ⟨0, Nat.zero_le _, rfl, fun j _ h => absurd h (by omega), HB⟩
      case round =>
        clear HB
        obtain ⟨k, hk, rfl, HN, HB⟩ := hrel
        obtain ⟨d0, d1, d2⟩ := HC.out _ HB.out.old
        by_cases hkl : k < us.length
        · obtain ⟨b2, o2, rfl, e0, e1, e2⟩ := lies_row HB.out.row k hkl
          by_cases hv : us[k] = v
          · have HP : Hid (us[k]? = some v) := by show _ = _; rw [← hv]; exact List.getElem?_eq_getElem hkl
            rw [hv] at e0 e1 e2
            clear hv
            go_wp2
            go_quiet (fail)
            have HB2 : Hid _ := HB.out.drewN nq
            have hne : ((k : Int) == (us.length : Int)) = false := by simp; omega
            have hown := HB2.out.pl
            go_wp2_with (at_builtin; refine wpList_append_own _ rfl _ _ 22 rfl w.heap.size 3 i0 (.int .i64 0) 1 8 Tryz.underlying22 hi hz0 hz1 hz2 rfl (by decide) _ ps.length (pcells ps) rfl (hown.alloc _) ⟨_, 0, none⟩ 1 1 [.int .i64 (k : Int)] rfl rfl (cell_one_new _ _ _) (by intro u hu; simp at hu; subst hu; rfl) (by unfold maxLen; omega) (by omega) (by have := HB2.out.old.size; simp at this ⊢; omega) ?_; intro v' w1 hown' hgrow _; have HB3 : Hid _ := HB2.out.place hown' hgrow)
            go_roundw
            case rel =>
              refine ⟨i + 1, us, ps ++ [k], by omega, by go_num, ?_, HB3⟩
              show Uq _ _ _
              rw [HT.out]
              exact Uq.old HU.out HP.out
            case measure => simp [intOf]; omega
          · have HNV : Hid (us[k] ≠ v) := hv
            generalize hu : us[k] = u at e0 e1 e2 hv
            clear hu
            have hcs : (u.k ≠ v.k) ∨ (u.k = v.k ∧ u.n ≠ v.n) ∨ (u.k = v.k ∧ u.n = v.n ∧ u.s.toList ≠ v.s.toList) := by
              by_cases h1 : u.k = v.k
              · by_cases h2 : u.n = v.n
                · exact Or.inr (Or.inr ⟨h1, h2, fun h => hv (vl_ext h1 h2 (str_ext h))⟩)
                · exact Or.inr (Or.inl ⟨h1, h2⟩)
              · exact Or.inl h1
            clear hv
            rcases hcs with h1 | ⟨h1, h2⟩ | ⟨h1, h2, h3⟩
            all_goals
              go_wp2
              go_quiet (fail)
              go_wp2
              go_roundw
              case rel => exact ⟨k + 1, by omega, by go_num, fun j h hj => if e : j = k then (by subst e; exact HNV.out) else HN.out j h (by omega), HB.out.drewN _⟩
              case measure => simp [intOf]; omega
        · obtain rfl : k = us.length := by omega
          have HNM : Hid (v ∉ us) := fun hm => by
            obtain ⟨j, hj, e⟩ := List.getElem_of_mem hm
            exact HN.out j hj hj e
          go_wp2
          go_quiet (fail)
          have HB2 : Hid _ := HB.out.drewN nq
          go_wp2_with (first
            | (at_builtin; refine wpList_append_own _ rfl _ _ 25 rfl w.heap.size 45 iv (.agg #[.int .i64 0, .int .i64 0, .string ⟨#[]⟩]) 3 32 Tryz.underlying25 hvi hv0 hv1 hv2 rfl (by decide) _ us.length (vcells us) rfl (HB2.out.row.alloc _) ⟨_, 0, none⟩ 1 1 [.int .i64 v.k, .int .i64 v.n, .string v.s] rfl rfl three_cells (by intro u hu; simp at hu; rcases hu with rfl | rfl | rfl <;> rfl) (by unfold maxLen; omega) (by omega) (by have := HB2.out.old.size; simp at this ⊢; omega) ?_; intro v1 w1 hown1 hgrow1 _; have HB3 : Hid _ := HB2.out.push hown1 hgrow1)
            | (at_builtin; refine wpList_append_own _ rfl _ _ 22 rfl w.heap.size 3 i0 (.int .i64 0) 1 8 Tryz.underlying22 hi hz0 hz1 hz2 rfl (by decide) _ ps.length (pcells ps) rfl (HB3.out.pl.alloc _) ⟨_, 0, none⟩ 1 1 [.int .i64 (us.length : Int)] rfl rfl (cell_one_new _ _ _) (by intro u hu; simp at hu; subst hu; rfl) (by unfold maxLen; omega) (by omega) (by have := HB3.out.old.size; simp at this ⊢; omega) ?_; intro v' w2 hown' hgrow _; have HB4 : Hid _ := HB3.out.place hown' hgrow))
          go_roundw
          case rel =>
            refine ⟨i + 1, us ++ [v], ps ++ [us.length], by omega, by go_num, ?_, HB4⟩
            show Uq _ _ _
            rw [HT.out]
            exact Uq.new HU.out HNM.out
          case measure => simp [intOf]; omega
    · obtain rfl : i = vs.length := by omega
      have hu := HU.out
      rw [List.take_length] at hu
      have HU2 : Hid (Uq vs us ps) := hu
      obtain ⟨a2, c2, rfl, hl2⟩ := liesV_own HB.out.row
      obtain ⟨a3, c3, rfl, hl3⟩ := lies_own HB.out.pl
      have e : (pcells ps).length = ps.length := by simp [pcells]
      rw [e]
      have HLL : Hid (LiesV wr a2 us) := hl2
      have HLP : Hid (Lies wr a3 (pcells ps)) := hl3
      clear hu hl2 hl3 e
      go_wp2
      go_ret2
      exact ⟨⟨us, ps, a2, c2, a3, c3, HU2.out, rfl, HLL.out, HLP.out⟩, HB.out.old⟩
end Go.Proofs.YtjcmnngaecoddaaGreatDoor
