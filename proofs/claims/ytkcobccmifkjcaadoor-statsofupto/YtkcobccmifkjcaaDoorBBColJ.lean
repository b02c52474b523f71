/-
  Appending to nil whatever ints or values; OwnColumn.
  The reference's OwnColumn.
-/
import Derived.Test.YtkcobccmifkjcaaDoorBColI
namespace Go.Proofs.YtkcobccmifkjcaaDoor
open Go.RowKit
theorem own_fresh {w : World} {base e size n : Nat} {v : Value} {xs : List Value} (h : w.ownsRow base e size v n xs) {a : Option Addr} {m c : Nat} (hv : v = .slice a m c) : ∀ p, a = some p → base ≤ p.block := by
  rintro p rfl
  rcases h.2 with ⟨h1, _⟩ | ⟨g, cap, cur, h1, hb, _⟩
  · rw [h1] at hv; simp at hv
  · rw [h1] at hv
    simp only [Value.slice.injEq, Option.some.injEq] at hv
    rw [← hv.1]; exact hb
theorem own_capJ {w : World} {B e size n : Nat} {a : Option Addr} {m c : Nat} {xs : List Value} (h : w.ownsRow B e size (.slice a m c) n xs) : n ≤ c := by
  rcases h.2 with ⟨e, rfl⟩ | ⟨g, cap, cur, e, _, _, hc, _⟩
  · exact Nat.zero_le _
  · injection e with _ e1 e2; subst e2; exact hc
theorem cell_off {w : World} {g j b o : Nat} {v : Value} (h : b ≠ g) : (w.setCell ⟨g, j, none⟩ v).cell? ⟨b, o, none⟩ = w.cell? ⟨b, o, none⟩ := by
  simp only [World.cell?]
  rw [Below.heap_setCell w ⟨g, j, none⟩ v b h]
theorem Lies.off {w : World} {a : Option Addr} {cs : List Value} (h : Lies w a cs) {g j : Nat} {v : Value} (hf : ∀ p, a = some p → g < p.block) : Lies (w.setCell ⟨g, j, none⟩ v) a cs := fun i hi => by
  obtain ⟨b, o, rfl, hc⟩ := h i hi
  exact ⟨b, o, rfl, by rw [cell_off (by have := hf _ rfl; simp at this; omega)]; exact hc⟩
theorem LiesV.off {w : World} {a : Option Addr} {vs : List Vl} (h : LiesV w a vs) {g j : Nat} {v : Value} (hf : ∀ p, a = some p → g < p.block) : LiesV (w.setCell ⟨g, j, none⟩ v) a vs := fun i hi => by
  obtain ⟨b, o, rfl, h0, h1, h2⟩ := h i hi
  have hne : b ≠ g := by have := hf _ rfl; simp at this; omega
  exact ⟨b, o, rfl, by rw [cell_off hne]; exact h0, by rw [cell_off hne]; exact h1, by rw [cell_off hne]; exact h2⟩
/-- append(nil, ints...). -/
theorem wp_app0I {ops : Array Oper} {rest : List Oper} {o : Oper} {a : Act} {Q : Exit → Act → World → Prop} (w : World) (hgd : o.guard = none) (s x : Operand)
    (ho : o.op = .call { callee := .builtin .append, args := #[s, x], argTypes := #[22, 22] }) (hty : o.type = 22) (ad : Option Addr) (xs : List Int) (c : Nat)
    (hs : a.eval s = .slice none 0 0) (hx : a.eval x = .slice ad xs.length c) (hl : Lies w ad (i64s xs)) (hn : xs.length ≤ 20000)
    (h : ∀ a' c' w', Lies w' a' (i64s xs) → Below w.heap.size w w' → ((∀ p, a' = some p → w.heap.size ≤ p.block) ∧ xs.length ≤ c') → wpList Tryd.prog ops Q rest (a.put o.dst (.slice a' xs.length c')) w') : wpList Tryd.prog ops Q (o :: rest) a w := by
  obtain ⟨i0, hi, hz0, hz1, hz2⟩ := info_parts Tryd.info3
  cases ad with
  | none =>
    have h0 : xs.length = 0 := by
      by_cases h : 0 < xs.length
      · obtain ⟨b, o, e, _⟩ := hl 0 (by rw [i64s_len]; exact h)
        cases e
      · omega
    obtain rfl : xs = [] := List.eq_nil_of_length_eq_zero h0
    have hap : (Builtin.append_ #[22, 22] 22 #[.slice none 0 0, .slice none 0 c]).run Tryd.prog w = .ok (.slice none 0 0) w := by
      simp [Builtin.append_, run_underlying Tryd.underlying22, sizeOf, typeInfo, hi, Builtin.lenOf, Builtin.firstCells]
    exact Lib.wpList_append_run w hgd s x 22 22 ho _ _ hs hx _ _ (by rw [hty]; exact hap) (h none 0 w hl (Below.refl _ _) ⟨fun p hp => (by cases hp), Nat.le_refl _⟩)
  | some ad =>
    have hn' : ∀ j u, (i64s xs)[j]? = some u → w.cell? (ad.add j) = some u := fun j u hu => by
      obtain ⟨hj, rfl⟩ := List.getElem?_eq_some_iff.1 hu
      obtain ⟨b, o, e, hc⟩ := hl j hj
      obtain rfl := Option.some.inj e
      rw [addr_add]; exact hc
    refine wpList_append_own w hgd s x 22 ho w.heap.size 3 i0 (.int .i64 0) 1 8 Tryd.underlying22 hi hz0 hz1 hz2 rfl (by decide) (.slice none 0 0) 0 [] hs (World.ownsRow_nil w w.heap.size 3 1) ad xs.length c (i64s xs) hx (by rw [i64s_len, Nat.mul_one]) hn' (by intro u hu; obtain ⟨x, _, rfl⟩ := List.mem_map.1 hu; rfl) (by unfold maxLen; omega) (by omega) (Nat.le_refl _) ?_
    intro v' w1 hown hgrow _
    obtain ⟨a', c', hve, hl'⟩ := lies_own hown
    have hfr := own_fresh hown hve
    subst hve
    have hcp := own_capJ hown
    rw [Nat.zero_add] at hcp
    rw [List.nil_append] at hl'
    have h2 := h a' c' w1 hl' ((Below.refl _ _).grown hgrow (Nat.le_refl _) (fun k hk => by simp [Value.ownBlock] at hk)) ⟨hfr, hcp⟩
    rw [List.nil_append, i64s_len]
    exact h2
/-- append(nil, values...). -/
theorem wp_app0V {ops : Array Oper} {rest : List Oper} {o : Oper} {a : Act} {Q : Exit → Act → World → Prop} (w : World) (hgd : o.guard = none) (s x : Operand)
    (ho : o.op = .call { callee := .builtin .append, args := #[s, x], argTypes := #[25, 25] }) (hty : o.type = 25) (ad : Option Addr) (vs : List Vl) (c : Nat)
    (hs : a.eval s = .slice none 0 0) (hx : a.eval x = .slice ad vs.length c) (hl : LiesV w ad vs) (hn : vs.length ≤ 20000)
    (h : ∀ a' c' w', LiesV w' a' vs → Below w.heap.size w w' → ((∀ p, a' = some p → w.heap.size ≤ p.block) ∧ vs.length ≤ c') → wpList Tryd.prog ops Q rest (a.put o.dst (.slice a' vs.length c')) w') : wpList Tryd.prog ops Q (o :: rest) a w := by
  obtain ⟨i0, hi, hz0, hz1, hz2⟩ := info_parts Tryd.infoV
  cases ad with
  | none =>
    have h0 : vs.length = 0 := by
      by_cases h : 0 < vs.length
      · obtain ⟨b, o, e, _⟩ := hl 0 h
        cases e
      · omega
    obtain rfl : vs = [] := List.eq_nil_of_length_eq_zero h0
    have hap : (Builtin.append_ #[25, 25] 25 #[.slice none 0 0, .slice none 0 c]).run Tryd.prog w = .ok (.slice none 0 0) w := by
      simp [Builtin.append_, run_underlying Tryd.underlying25, sizeOf, typeInfo, hi, Builtin.lenOf, Builtin.firstCells]
    exact Lib.wpList_append_run w hgd s x 25 25 ho _ _ hs hx _ _ (by rw [hty]; exact hap) (h none 0 w hl (Below.refl _ _) ⟨fun p hp => (by cases hp), Nat.le_refl _⟩)
  | some ad =>
    have hn' : ∀ j u, (vcells vs)[j]? = some u → w.cell? (ad.add j) = some u := fun j u hu => by
      obtain ⟨i, r, hi, rfl, hr⟩ := vcells_cell vs j u hu
      obtain ⟨b, o, e, h0, h1, h2⟩ := hl i hi
      obtain rfl := Option.some.inj e
      rw [addr_up]
      rcases hr with ⟨rfl, rfl⟩ | ⟨rfl, rfl⟩ | ⟨rfl, rfl⟩
      · exact h0
      · rw [← Nat.add_assoc]; exact h1
      · rw [← Nat.add_assoc]; exact h2
    refine wpList_append_own w hgd s x 25 ho w.heap.size 34 i0 (.agg #[.int .i64 0, .int .i64 0, .string ⟨#[]⟩]) 3 32 Tryd.underlying25 hi hz0 hz1 hz2 rfl (by decide) (.slice none 0 0) 0 [] hs (World.ownsRow_nil w w.heap.size 34 3) ad vs.length c (vcells vs) hx (vcells_len vs) hn' (by intro u hu; obtain ⟨x, _, hx⟩ := List.mem_flatMap.1 hu; simp at hx; rcases hx with rfl | rfl | rfl <;> rfl) (by unfold maxLen; omega) (by omega) (Nat.le_refl _) ?_
    intro v' w1 hown hgrow _
    rw [List.nil_append] at hown
    obtain ⟨a', c', hve, hl'⟩ := liesV_own hown
    have hfr := own_fresh hown hve
    subst hve
    have hcp := own_capJ hown
    rw [Nat.zero_add] at hcp
    exact h a' c' w1 hl' ((Below.refl _ _).grown hgrow (Nat.le_refl _) (fun k hk => by simp [Value.ownBlock] at hk)) ⟨hfr, hcp⟩
end Go.Proofs.YtkcobccmifkjcaaDoor

namespace Go.Proofs.YtkcobccmifkjcaaDoor
open Go.RowKit
theorem row_fourA {w : World} {g e : Nat} {x0 x1 x2 x3 : Value} (h : w.heap[g]? = some (.cells #[x0, x1, x2, x3] e (0, 0))) :
    w.frozen? ⟨g, 0, none⟩ = false ∧ w.frozen? ⟨g, 1, none⟩ = false ∧ w.frozen? ⟨g, 2, none⟩ = false ∧ w.frozen? ⟨g, 3, none⟩ = false := by
  refine ⟨?_, ?_, ?_, ?_⟩ <;> simp [World.frozen?, h]
structure OCs (W : World) (id : Int) (rv dv vv x1 x2 x3 : Value) (wr : World) : Prop where
  p : wr.heap[W.heap.size]? = some (.cells #[.int .i64 id, rv, dv, vv] 27 (0, 0))
  z : wr.heap[W.heap.size + 1]? = some (.cells #[.int .i64 0, .slice none 0 0, .slice none 0 0, .slice none 0 0] 27 (0, 0))
  o : wr.heap[W.heap.size + 1 + 1]? = some (.cells #[.int .i64 id, x1, x2, x3] 27 (0, 0))
  old : Below W.heap.size W wr
theorem OCs.keep {W : World} {id : Int} {rv dv vv x1 x2 x3 : Value} {wr w' : World} (h : OCs W id rv dv vv x1 x2 x3 wr) (hb : Below wr.heap.size wr w') : OCs W id rv dv vv x1 x2 x3 w' :=
  ⟨blk_keep hb h.p, blk_keep hb h.z, blk_keep hb h.o, h.old.trans (hb.mono h.old.size)⟩
theorem OCs.s1 {W : World} {id : Int} {rv dv vv x1 x2 x3 : Value} {wr : World} (h : OCs W id rv dv vv x1 x2 x3 wr) (v : Value) : OCs W id rv dv vv v x2 x3 (wr.setCell ⟨W.heap.size + 1 + 1, 1, none⟩ v) :=
  ⟨blk_other h.p (by omega) v, blk_other h.z (by omega) v, row_setCell h.o v, h.old.setCell (by simp; omega) _⟩
theorem OCs.s2 {W : World} {id : Int} {rv dv vv x1 x2 x3 : Value} {wr : World} (h : OCs W id rv dv vv x1 x2 x3 wr) (v : Value) : OCs W id rv dv vv x1 v x3 (wr.setCell ⟨W.heap.size + 1 + 1, 2, none⟩ v) :=
  ⟨blk_other h.p (by omega) v, blk_other h.z (by omega) v, row_setCell h.o v, h.old.setCell (by simp; omega) _⟩
theorem OCs.s3 {W : World} {id : Int} {rv dv vv x1 x2 x3 : Value} {wr : World} (h : OCs W id rv dv vv x1 x2 x3 wr) (v : Value) : OCs W id rv dv vv x1 x2 v (wr.setCell ⟨W.heap.size + 1 + 1, 3, none⟩ v) :=
  ⟨blk_other h.p (by omega) v, blk_other h.z (by omega) v, row_setCell h.o v, h.old.setCell (by simp; omega) _⟩
set_option maxRecDepth 100000 in
set_option maxHeartbeats 3200000 in
theorem ownColumn_any (id : Int) (ra da va : Option Addr) (rc dc vc : Nat) (rs ds : List Int) (vs : List Vl) (W : World)
    (mr : rs.length ≤ 20000) (md : ds.length ≤ 20000) (mv : vs.length ≤ 20000) (hr : Lies W ra (i64s rs)) (hd : Lies W da (i64s ds)) (hv : LiesV W va vs) :
    Calls Tryd.prog 12 #[colV id ra rs.length rc da ds.length dc va vs.length vc] W fun e w' => (∃ ra' rc' da' dc' va' vc', e = .returned (colV id ra' rs.length rc' da' ds.length dc' va' vs.length vc') ∧ Lies w' ra' (i64s rs) ∧ Lies w' da' (i64s ds) ∧ LiesV w' va' vs ∧ (rs.length ≤ rc' ∧ ds.length ≤ dc' ∧ vs.length ≤ vc') ∧ (∀ p, ra' = some p → W.heap.size ≤ p.block) ∧ (∀ p, da' = some p → W.heap.size ≤ p.block) ∧ ∀ p, va' = some p → W.heap.size ≤ p.block) ∧ Below W.heap.size W w' := by
  have HO0 : Hid (OCs W id (.slice ra rs.length rc) (.slice da ds.length dc) (.slice va vs.length vc) (.slice none 0 0) (.slice none 0 0) (.slice none 0 0) (((W.alloc (.cells #[.int .i64 id, .slice ra rs.length rc, .slice da ds.length dc, .slice va vs.length vc] 27)).alloc (.cells #[.int .i64 0, .slice none 0 0, .slice none 0 0, .slice none 0 0] 27)).alloc (.cells #[.int .i64 id, .slice none 0 0, .slice none 0 0, .slice none 0 0] 27))) := (by
    refine ⟨blk_alloc (blk_alloc (heap_alloc_new W _)), blk_alloc ?_, ?_, (((Below.refl _ _).alloc (Nat.le_refl _) _).alloc (by simp) _).alloc (by simp; omega) _⟩
    · have h := heap_alloc_new (W.alloc (.cells #[.int .i64 id, .slice ra rs.length rc, .slice da ds.length dc, .slice va vs.length vc] 27)) (.cells #[.int .i64 0, .slice none 0 0, .slice none 0 0, .slice none 0 0] 27)
      rwa [show (W.alloc (.cells #[.int .i64 id, .slice ra rs.length rc, .slice da ds.length dc, .slice va vs.length vc] 27)).heap.size = W.heap.size + 1 by simp] at h
    · have h := heap_alloc_new ((W.alloc (.cells #[.int .i64 id, .slice ra rs.length rc, .slice da ds.length dc, .slice va vs.length vc] 27)).alloc (.cells #[.int .i64 0, .slice none 0 0, .slice none 0 0, .slice none 0 0] 27)) (.cells #[.int .i64 id, .slice none 0 0, .slice none 0 0, .slice none 0 0] 27)
      rwa [show ((W.alloc (.cells #[.int .i64 id, .slice ra rs.length rc, .slice da ds.length dc, .slice va vs.length vc] 27)).alloc (.cells #[.int .i64 0, .slice none 0 0, .slice none 0 0, .slice none 0 0] 27)).heap.size = W.heap.size + 1 + 1 by simp] at h)
  have HR : Hid (Lies W ra (i64s rs)) := hr
  have HD : Hid (Lies W da (i64s ds)) := hd
  have HV : Hid (LiesV W va vs) := hv
  clear hr hd hv
  unfold colV
  go_enter Tryd.func12, Tryd.ntmps12
  go_wp2_with (first | (at_builtin; refine wp_app0I _ rfl _ _ rfl rfl ra rs rc rfl rfl (HR.out.keep HO0.out.old) mr ?_; intro a1 c1 w1 hl1 hb1 hff1; have HCP1 : Hid _ := hff1.2; have hf1 := hff1.1; clear hff1; have HO1 : Hid _ := OCs.keep HO0.out hb1; have HL1 : Hid (Lies w1 a1 (i64s rs)) := hl1; have HF1 : Hid _ := hf1; have HBB1 : Hid _ := hb1; clear hl1 hb1 hf1; obtain ⟨x0, x1, x2, x3⟩ := row_four HO1.out.p; obtain ⟨y0, y1, y2, y3⟩ := row_four HO1.out.o; obtain ⟨z0, z1, z2, z3⟩ := row_fourA HO1.out.o; obtain ⟨m0, m1, m2, m3⟩ := row_fourA HO1.out.z; obtain ⟨e0, e1, e2, e3⟩ := row_four HO1.out.z) | (at_builtin; refine wp_app0I _ rfl _ _ rfl rfl da ds dc rfl rfl (HD.out.keep (OCs.s1 HO1.out _).old) md ?_; intro a2 c2 w2 hl2 hb2 hff2; have HCP2 : Hid _ := hff2.2; have hf2 := hff2.1; clear hff2; have HO2 : Hid _ := OCs.keep (OCs.s1 HO1.out _) hb2; have HL2 : Hid (Lies w2 a2 (i64s ds)) := hl2; have HF2 : Hid _ := hf2; have HBB2 : Hid _ := hb2; clear hl2 hb2 hf2; obtain ⟨x0, x1, x2, x3⟩ := row_four HO2.out.p; obtain ⟨y0, y1, y2, y3⟩ := row_four HO2.out.o; obtain ⟨z0, z1, z2, z3⟩ := row_fourA HO2.out.o; obtain ⟨m0, m1, m2, m3⟩ := row_fourA HO2.out.z; obtain ⟨e0, e1, e2, e3⟩ := row_four HO2.out.z) | (at_builtin; refine wp_app0V _ rfl _ _ rfl rfl va vs vc rfl rfl (HV.out.keep (OCs.s2 HO2.out _).old) mv ?_; intro a3 c3 w3 hl3 hb3 hff3; have HCP3 : Hid _ := hff3.2; have hf3 := hff3.1; clear hff3; have HO3 : Hid _ := OCs.keep (OCs.s2 HO2.out _) hb3; have HL3 : Hid (LiesV w3 a3 vs) := hl3; have HF3 : Hid _ := hf3; have HBB3 : Hid _ := hb3; clear hl3 hb3 hf3; obtain ⟨x0, x1, x2, x3⟩ := row_four HO3.out.p; obtain ⟨y0, y1, y2, y3⟩ := row_four HO3.out.o; obtain ⟨z0, z1, z2, z3⟩ := row_fourA HO3.out.o; obtain ⟨m0, m1, m2, m3⟩ := row_fourA HO3.out.z; obtain ⟨e0, e1, e2, e3⟩ := row_four HO3.out.z))
  have f1 : ∀ p, a1 = some p → W.heap.size + 1 + 1 < p.block := fun p hp => by have := HF1.out p hp; simp at this; omega
  have f2 : ∀ p, a2 = some p → W.heap.size + 1 + 1 < p.block := fun p hp => by have := HF2.out p hp; have h2 := lt_of_block (OCs.s1 HO1.out (.slice a1 rs.length c1)).o; omega
  have f3 : ∀ p, a3 = some p → W.heap.size + 1 + 1 < p.block := fun p hp => by have := HF3.out p hp; have h2 := lt_of_block (OCs.s2 HO2.out (.slice a2 ds.length c2)).o; omega
  have f1' : ∀ p, a1 = some p → W.heap.size + 1 < p.block := fun p hp => by have := f1 p hp; omega
  have f2' : ∀ p, a2 = some p → W.heap.size + 1 < p.block := fun p hp => by have := f2 p hp; omega
  have f3' : ∀ p, a3 = some p → W.heap.size + 1 < p.block := fun p hp => by have := f3 p hp; omega
  exact bodyPost_ret (v := .agg #[.int .i64 id, .slice a1 rs.length c1, .slice a2 ds.length c2, .slice a3 vs.length c3]) (results_cell_row Tryd.results12 _ _ (W.heap.size + 1) 27 #[.int .i64 id, .slice a1 rs.length c1, .slice a2 ds.length c2, .slice a3 vs.length c3] (0, 0) _ rfl (row_setCell (row_setCell (row_setCell (row_setCell (OCs.s3 HO3.out (.slice a3 vs.length c3)).z _) _) _) _) Tryd.underlying27 rfl (by kernel_rfl)) rfl ⟨⟨a1, c1, a2, c2, a3, c3, rfl,
    (((((((HL1.out.off f1).keep HBB2.out).off f1).keep HBB3.out).off f1).off f1').off f1').off f1' |>.off f1', (((((HL2.out.off f2).keep HBB3.out).off f2).off f2').off f2').off f2' |>.off f2', ((((HL3.out.off f3).off f3').off f3').off f3').off f3', ⟨HCP1.out, HCP2.out, HCP3.out⟩, fun p hp => by have := f1 p hp; omega, fun p hp => by have := f2 p hp; omega, fun p hp => by have := f3 p hp; omega⟩, ((((OCs.s3 HO3.out _).old.setCell (by simp) _).setCell (by simp) _).setCell (by simp) _).setCell (by simp) _⟩
end Go.Proofs.YtkcobccmifkjcaaDoor
