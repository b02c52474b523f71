/-
  The reference's CutOf of whatever right datum.
-/
import Derived.Test.YteonbmaokphleaaGreatDoorHCfD
import Derived.Test.YteonbmaokphleaaGreatDoorHBPjP
namespace Go.Proofs.YteonbmaokphleaaGreatDoor
open Go.RowKit
theorem cutOf_any (L : List Int) : ∀ (n : Nat) (d : Dt), SizeOf.sizeOf d < n → ∀ (t : Tr) (one : Bool), IdU t → LfOk t → t.Sm → d.Sm → chk one t d = 0 → CfP (rkT L t) t one d
 | 0, d, h => absurd h (Nat.not_lt_zero _)
 | n + 1, d, hsz => fun t one hu hlf hts hds hck => by
  obtain ⟨k1, k2, k3, k4, k5⟩ := rkT_id L t
  have hps := rk_sm L _ t (Nat.lt_succ_self _) hts
  have hpz : t.kind ≠ 0 → (rkT L t).sub = [] := fun hk => by rw [k5, hlf t (nd_self t) hk, rkL]
  by_cases hn : d.no = true ∨ t.kind ≠ 0
  · exact cutOf_same _ t one d hds hpz hck hn
  · have hno : d.no = false := by
      cases h : d.no with
      | true => exact absurd (.inl h) hn
      | false => rfl
    have hk : t.kind = 0 := Classical.byContradiction fun h => hn (.inr h)
    by_cases h3 : t.rep = 3 ∧ one = false
    · obtain ⟨h3, rfl⟩ := h3
      have hl := chk_lst h3 hck
      refine cutOf_list _ t d hk h3 hno (by have := hl.1; omega) (fun j hj => ?_)
      exact cutOf_any L n d.l[j] (by have := d.l_size j hj; omega) t true hu hlf hts (hds.atL j hj) (hl.2 _ (List.getElem_mem hj))
    · obtain ⟨he, hc1⟩ := cf_group (p := rkT L t) hk hno h3 hck
      obtain ⟨_, _, hfl, h4⟩ := chk_grp hk hc1
      refine cutOf_group _ t one d hk hno h3 he hps.len hts.len (fun k hkk => ?_)
      obtain ⟨i, hi, ex, ei⟩ := rk_ix hu (List.getElem_mem hkk)
      have hi2 : i < d.f.length := by rw [hfl]; exact hi
      have hid : (rkT L t).sub[k].id = t.sub[i].id := by rw [ex, (rkT_id L t.sub[i]).1]
      refine ⟨i, hi, hi2, ei, fun i' hi' => ⟨fun h => ?_, fun h => by subst h; exact hid.symm⟩, ?_⟩
      · rw [hid] at h
        rcases Nat.lt_trichotomy i' i with h1 | h1 | h1
        · exact absurd h (hu.first i i' hi h1)
        · exact h1
        · exact absurd h.symm (hu.first i' i hi' h1)
      · rw [ex]
        have hm : t.sub[i] ∈ t.sub := List.getElem_mem hi
        exact cutOf_any L n d.f[i] (by have := d.f_size i hi2; omega) t.sub[i] false (hu.sub hm) (hlf.sub hm) (hts.at_ i hi) (hds.atF i hi2) (h4 i hi hi2)
theorem cutT_one {p t : Tr} {d : Dt} (h1 : t.rep = 1) (hno : d.no = false) : cutT p t d = cut1 p t d := by
 rw [cutT_eq, if_neg (by omega), if_neg (by rw [hno]; simp)]
end Go.Proofs.YteonbmaokphleaaGreatDoor
