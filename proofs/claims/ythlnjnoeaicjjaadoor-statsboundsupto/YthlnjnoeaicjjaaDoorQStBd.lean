/-
  What is known of values bounds them: the mathematics of StatsBounds.
-/
import Derived.Test.YthlnjnoeaicjjaaDoorQBStMyB
import Derived.Test.YthlnjnoeaicjjaaDoorQBLess
import Derived.Test.YthlnjnoeaicjjaaDoorQBStEn
import Derived.Test.YthlnjnoeaicjjaaDoorQStOf
import Derived.Test.YthlnjnoeaicjjaaDoorQBStMg
namespace Go.Proofs.YthlnjnoeaicjjaaDoor
open Go.RowKit
theorem ofK_euB (c : Cl) : ∀ i, i ≤ c.vs.length → (ofK c i).e = (c.rs.length : Nat) ∧ (ofK c i).u = (c.rs.length : Int) - (c.vs.length : Nat)
  | 0, _ => ⟨rfl, rfl⟩
  | i + 1, hi => by rw [ofK_succ c hi]; exact ofK_euB c i (by omega)
theorem ofC_eu (c : Cl) : (ofC c).e = (c.rs.length : Nat) ∧ (ofC c).u = (c.rs.length : Int) - (c.vs.length : Nat) := by
  have h := ofK_euB c c.vs.length (Nat.le_refl _)
  have e : ofK c c.vs.length = ofC c := by unfold ofK ofC; rw [List.take_length]
  rwa [e] at h
theorem St.eq_of {s t : St} (h1 : s.e = t.e) (h2 : s.u = t.u) (h3 : s.h = t.h) (h4 : s.mn = t.mn) (h5 : s.mx = t.mx) : s = t := by
  cases s; cases t; simp_all
/-- Merged stats are those of what is joined. -/
theorem merge_of {k : Int} (a b c : Cl) (ha : ∀ y ∈ a.vs, Rv k y) (hb : ∀ y ∈ b.vs, Rv k y) (hr : c.rs = a.rs ++ b.rs) (hv : c.vs = a.vs ++ b.vs) : ofC c = (ofC a).merge (ofC b) ∧ St.unlike (ofC a) (ofC b) = false := by
  have hc : ∀ y ∈ c.vs, Rv k y := fun y hy => by
    rw [hv] at hy
    rcases List.mem_append.1 hy with h | h
    · exact ha y h
    · exact hb y h
  obtain ⟨c1, c2⟩ := ofC_eu c
  obtain ⟨a1, a2⟩ := ofC_eu a
  obtain ⟨b1, b2⟩ := ofC_eu b
  have he : (ofC c).e = (ofC a).e + (ofC b).e := by rw [c1, a1, b1, hr]; simp
  have hu : (ofC c).u = (ofC a).u + (ofC b).u := by rw [c2, a2, b2, hr, hv]; simp; omega
  rcases Nat.eq_zero_or_pos a.vs.length with za | za
  · have ea := ofC_none a za
    have hva : a.vs = [] := List.eq_nil_of_length_eq_zero za
    rcases Nat.eq_zero_or_pos b.vs.length with zb | zb
    · have eb := ofC_none b zb
      have ec := ofC_none c (by rw [hv]; simp [za, zb])
      refine ⟨?_, by rw [ea]; rfl⟩
      refine St.eq_of ?_ ?_ ?_ ?_ ?_
      · rw [he]; rw [ea, eb]; rfl
      · rw [hu]; rw [ea, eb]; rfl
      · rw [ea, eb, ec]; rfl
      · rw [ea, eb, ec]; rfl
      · rw [ea, eb, ec]; rfl
    · obtain ⟨hh, hends⟩ := ofC_ends b hb zb
      have hvc : c.vs = b.vs := by rw [hv, hva]; rfl
      obtain ⟨hh2, hends2⟩ := ofC_ends c hc (by rw [hvc]; exact zb)
      rw [hvc] at hends2
      obtain ⟨e1, e2⟩ := Ends.one hb hends2 hends
      have hm : (ofC a).merge (ofC b) = ⟨(ofC a).e + (ofC b).e, (ofC a).u + (ofC b).u, true, (ofC b).mn, (ofC b).mx⟩ := by
        unfold St.merge St.plus
        rw [hh]
        rw [show (ofC a).h = false by rw [ea]]
        rfl
      refine ⟨?_, by unfold St.unlike; rw [show (ofC a).h = false by rw [ea]]; rfl⟩
      rw [hm]
      exact St.eq_of he hu hh2 e1 e2
  · obtain ⟨ah, aend⟩ := ofC_ends a ha za
    obtain ⟨ch, cend⟩ := ofC_ends c hc (by rw [hv]; simp; omega)
    rcases Nat.eq_zero_or_pos b.vs.length with zb | zb
    · have eb := ofC_none b zb
      have hvb : b.vs = [] := List.eq_nil_of_length_eq_zero zb
      have hvc : c.vs = a.vs := by rw [hv, hvb]; simp
      rw [hvc] at cend
      obtain ⟨e1, e2⟩ := Ends.one ha cend aend
      have hm : (ofC a).merge (ofC b) = ⟨(ofC a).e + (ofC b).e, (ofC a).u + (ofC b).u, true, (ofC a).mn, (ofC a).mx⟩ := by
        unfold St.merge St.plus
        rw [ah]
        rw [show (ofC b).h = false by rw [eb]]
        rfl
      refine ⟨?_, by unfold St.unlike; rw [show (ofC b).h = false by rw [eb]]; simp⟩
      rw [hm]
      exact St.eq_of he hu ch e1 e2
    · obtain ⟨bh, bend⟩ := ofC_ends b hb zb
      have happ := aend.app ha hb bend
      rw [hv] at cend
      obtain ⟨e1, e2⟩ := Ends.one (fun y hy => by rw [← hv] at hy; exact hc y hy) cend happ
      have hm : (ofC a).merge (ofC b) = ⟨(ofC a).e + (ofC b).e, (ofC a).u + (ofC b).u, true, if lss (ofC b).mn (ofC a).mn then (ofC b).mn else (ofC a).mn, if lss (ofC a).mx (ofC b).mx then (ofC b).mx else (ofC a).mx⟩ := by
        unfold St.merge St.plus
        rw [ah, bh]
        simp [St.around]
      have k1 := okV_kind (ha _ aend.mi).1
      have k2 := okV_kind (hb _ bend.mi).1
      refine ⟨?_, by unfold St.unlike; rw [k1, k2]; simp⟩
      rw [hm]
      exact St.eq_of he hu ch e1 e2
/-- Where a value stands so, some may. -/
theorem may_true {k : Int} (i : Nat) (hi : i < 6) (s : St) (v x : Vl) (l : List Vl) (hl : ∀ y ∈ l, Rv k y) (hv : Rv k v) (he : Ends l s.mn s.mx) (hx : x ∈ l) (hst : stdB i x v = true) : mayB i s v = true := by
  have rm := hl _ he.mi
  have rx := hl _ he.xi
  have rr := hl _ hx
  have h1 := he.mb x hx
  have h2 := he.xb x hx
  have lt1 : lss x v = true → lss s.mn v = true := fun h => by
    cases hc : lss s.mn v
    · have := Rv.le hv rm rr hc h1
      rw [h] at this
      exact this.symm
    · rfl
  have lt2 : lss v x = true → lss v s.mx = true := fun h => by
    cases hc : lss v s.mx
    · have := Rv.le rr rx hv h2 hc
      rw [h] at this
      exact this.symm
    · rfl
  have le1 : lss v x = false → lss v s.mn = false := fun h => Rv.le rm rr hv h1 h
  have le2 : lss x v = false → lss s.mx v = false := fun h => Rv.le hv rr rx h h2
  have hir := hv.irr
  unfold mayB
  rcases (show i = 0 ∨ i = 1 ∨ i = 2 ∨ i = 3 ∨ i = 4 ∨ i = 5 by omega) with rfl | rfl | rfl | rfl | rfl | rfl
  all_goals
    simp only [stdB, hir] at hst ⊢
    revert hst lt1 lt2 le1 le2
    generalize lss x v = p
    generalize lss v x = q
    generalize lss s.mn v = a
    generalize lss v s.mn = b
    generalize lss s.mx v = c
    generalize lss v s.mx = d
    revert p q a b c d
    decide
end Go.Proofs.YthlnjnoeaicjjaaDoor
