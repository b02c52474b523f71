/-
  What SchemaNests' walk asks of a projection: the calls at a tree that is given by its parts.
-/
import Derived.Test.YtnfjpngmadoflaaGreatDoorNWPrj
import Derived.Test.YtnfjpngmadoflaaGreatDoorNBProF
import Derived.Test.YtnfjpngmadoflaaGreatDoorNProjL
import Derived.Test.YtnfjpngmadoflaaGreatDoorNBLeafOf
import Derived.Test.YtnfjpngmadoflaaGreatDoorNBLfM
namespace Go.Proofs.YtnfjpngmadoflaaGreatDoor
open Go.RowKit
theorem kept_root {t : Tr} {ids : List Int} (hu : IdU t) (h : askL ids t ≠ []) : kept (askL ids t) t = true := by
  obtain ⟨i, hi⟩ := List.exists_mem_of_ne_nil _ h
  obtain ⟨z, hz, _, l, hl, hlk, hli⟩ := (askL_mem hu).1 hi
  exact List.any_eq_true.2 ⟨i, lfI_mem.2 ⟨l, nd_trans _ t (Nat.lt_succ_self _) z hz l hl, hlk, hli⟩, List.contains_iff_mem.2 hi⟩
theorem sub_head {α : Type} {s : α} {rest l : List α} (h : List.Sublist (s :: rest) l) : 0 < l.length := by
  have := h.length_le
  simp at this
  omega
/-- A list that stands in another one, without the first of it that is not its own first. -/
theorem sub_next {α : Type} {s x : α} {rest l : List α} (h : List.Sublist (s :: rest) (x :: l)) (hne : x ≠ s) : List.Sublist (s :: rest) l := by
  cases h with
  | cons _ h => exact h
  | cons_cons _ h => exact absurd rfl hne
theorem ls_at {A B : List Lf} (hn : (A.map Lf.id).Nodup) {i k : Nat} (hs : List.Sublist (B.drop i) (A.drop k)) (hi : i < B.length) (hk : k < A.length) (e : A[k].id = B[i].id) : A[k] = B[i] := by
  have hm : B[i] ∈ A := by
    have h1 : B[i] ∈ B.drop i := by rw [List.drop_eq_getElem_cons hi]; exact List.mem_cons_self
    exact List.mem_of_mem_drop (hs.subset h1)
  obtain ⟨j, hj, ej⟩ := List.getElem_of_mem hm
  have hjk : j = k := by
    rw [List.nodup_iff_pairwise_ne, List.pairwise_iff_getElem] at hn
    rcases Nat.lt_trichotomy j k with h | h | h
    · have h2 := hn j k (by rw [List.length_map]; exact hj) (by rw [List.length_map]; exact hk) h
      rw [List.getElem_map, List.getElem_map, ej, e] at h2
      exact absurd rfl h2
    · exact h
    · have h2 := hn k j (by rw [List.length_map]; exact hk) (by rw [List.length_map]; exact hj) h
      rw [List.getElem_map, List.getElem_map, ej, e] at h2
      exact absurd rfl h2
  subst hjk
  exact ej
theorem vld_wrong {t : Tr} {eb es en : TypeId × Value} (h : vldN t ≠ 0) : ∃ ty ev, vldV (.iface eb.1 eb.2) (.iface es.1 es.2) (.iface en.1 en.2) t = .iface ty ev := by
  unfold vldN at h
  unfold vldV
  split
  · exact ⟨_, _, rfl⟩
  · rename_i h1
    rw [if_neg h1] at h
    split
    · exact ⟨_, _, rfl⟩
    · rename_i h2
      rw [if_neg h2] at h
      split
      · exact ⟨_, _, rfl⟩
      · rename_i h3
        rw [if_neg h3] at h
        exact absurd rfl h

theorem rkT_parts (L : List Int) (t : Tr) : rkT L t = .node t.id t.nm t.rep t.kind (rkL L t.sub) := by
  cases t with
  | node id nm rep kind sub => rw [rkT]; rfl
theorem parts_self (t : Tr) : Tr.node t.id t.nm t.rep t.kind t.sub = t := by cases t; rfl
theorem nst_leaves {i : Int} {nm : ByteArray} {r k : Int} {us : List Tr} (hd : (Tr.node i nm r k us).Dp 6) (hs : (Tr.node i nm r k us).Sm) (hv : vldN (.node i nm r k us) = 0) (hk : k = 0) (a : Option Addr) (c : Nat) (P : Nat → Prop) (X : World) (hl : LiesN X P a us) (hc : us.length ≤ c) {eb es en : TypeId × Value} (he : Er3 X eb es en) :
    Calls Tryz.prog 9 #[.agg #[.int .i64 i, .string nm, .int .i64 r, .int .i64 k, .slice a us.length c]] X fun e w' => (∃ lv, e = .returned (.tuple #[lv, .nilIface]) ∧ LvX 39 w' X.heap.size lv (lvL [] us)) ∧ Below X.heap.size X w' := by
  have h := leaves_right (.node i nm r k us) 6 hd (by omega) hs a c P X hl hc _ _ _ he.b he.s he.n hv
  rw [lvs_right (.node i nm r k us) hk] at h
  exact h
theorem nst_valid {i : Int} {nm : ByteArray} {r k : Int} {us : List Tr} (hd : (Tr.node i nm r k us).Dp 6) (hs : (Tr.node i nm r k us).Sm) (hv : vldN (.node i nm r k us) = 0) (a : Option Addr) (c : Nat) (P : Nat → Prop) (X : World) (hl : LiesN X P a us) (hc : us.length ≤ c) {eb es en : TypeId × Value} (he : Er3 X eb es en) :
    Calls Tryz.prog 10 #[.agg #[.int .i64 i, .string nm, .int .i64 r, .int .i64 k, .slice a us.length c]] X fun e w' => e = .returned .nilIface ∧ Below X.heap.size X w' := by
  have h := valid_any (.node i nm r k us) 6 hd (by omega) hs a c P X hl hc _ _ _ he.b he.s he.n
  rw [vldV_nil hv] at h
  exact h
theorem nst_own {i : Int} {nm : ByteArray} {r k : Int} {us : List Tr} (hs : (Tr.node i nm r k us).Sm) (a : Option Addr) (c : Nat) (P : Nat → Prop) (X : World) (hl : LiesN X P a us) :
    Calls Tryz.prog 7 #[.agg #[.int .i64 i, .string nm, .int .i64 r, .int .i64 k, .slice a us.length c]] X fun e w' => (∃ a c, e = .returned (.agg #[.int .i64 i, .string nm, .int .i64 r, .int .i64 k, .slice a us.length c]) ∧ LiesN w' (fun b => X.heap.size ≤ b) a us ∧ us.length ≤ c) ∧ Below X.heap.size X w' :=
  ownNode_any _ (.node i nm r k us) (Nat.lt_succ_self _) hs P a c X hl
theorem nst_same {i : Int} {nm : ByteArray} {r k : Int} {us : List Tr} (hs : (Tr.node i nm r k us).Sm) (a1 : Option Addr) (c1 : Nat) (a2 : Option Addr) (c2 : Nat) (P Q : Nat → Prop) (X : World) (h1 : LiesN X P a1 us) (h2 : LiesN X Q a2 us) (h3 : us.length ≤ c1) (h4 : us.length ≤ c2) :
    Calls Tryz.prog 11 #[.agg #[.int .i64 i, .string nm, .int .i64 r, .int .i64 k, .slice a1 us.length c1], .agg #[.int .i64 i, .string nm, .int .i64 r, .int .i64 k, .slice a2 us.length c2]] X fun e w' => e = .returned (.bool true) ∧ Below X.heap.size X w' :=
  sn_ok (SizeOf.sizeOf (Tr.node i nm r k us) + 1) _ (Nat.lt_succ_self _) hs (fun _ => True) (fun _ => True) a1 c1 a2 c2 X (h1.stay (fun _ _ _ => trivial) (fun _ _ _ => rfl)) (h2.stay (fun _ _ _ => trivial) (fun _ _ _ => rfl)) h3 h4
theorem nst_project {i : Int} {nm : ByteArray} {r k : Int} {us : List Tr} (hd : (Tr.node i nm r k us).Dp 6) (hs : (Tr.node i nm r k us).Sm) (hv : vldN (.node i nm r k us) = 0) (hcn : (Tr.node i nm r k us).cnt ≤ 800) (ids : List Int) (ia : Option Addr) (ic : Nat) (hil : ids.length ≤ 1000) (hix : ∀ x ∈ ids, -9223372036854775808 ≤ x ∧ x ≤ 9223372036854775807) (hin : ∀ x ∈ ids, x ∈ (ndT (.node i nm r k us)).map Tr.id) (hne : us ≠ []) (hkp : kpL (fun j => (stayI ids (.node i nm r k us)).contains j) us = us) (a : Option Addr) (c : Nat) (P : Nat → Prop) (X : World) (hl : LiesN X P a us) (hc : us.length ≤ c) (hli : Lies X ia (i64s ids)) {eb es en eo : TypeId × Value} (he : Er3 X eb es en) (hgo : X.cell? ⟨0, 0, none⟩ = some (.iface eo.1 eo.2)) :
    Calls Tryz.prog 6 #[.agg #[.int .i64 i, .string nm, .int .i64 r, .int .i64 k, .slice a us.length c], .slice ia ids.length ic] X fun e w' => (∃ a c, e = .returned (.tuple #[.agg #[.int .i64 i, .string nm, .int .i64 r, .int .i64 k, .slice a us.length c], .nilIface]) ∧ LiesN w' (fun b => X.heap.size ≤ b) a us ∧ us.length ≤ c) ∧ Below X.heap.size X w' := by
  have h := project_any (.node i nm r k us) 6 hd (by omega) hs hv hcn ids ia ic hil hix a c P X hl hc hli eb es en eo he hgo
  refine Calls.mono h ?_
  rintro e w' ⟨hp, hb⟩
  refine ⟨?_, hb⟩
  rcases hp with ⟨⟨j, q1, q2⟩, _⟩ | ⟨_, q, _⟩ | ⟨_, _, a2, c2, q1, q2, q3⟩
  · exact absurd (hin j q1) q2
  · exact absurd (hkp.symm.trans q) hne
  · change kpL _ us = us at hkp
    have e1 : (Tr.node i nm r k us).sub = us := rfl
    rw [e1, hkp] at q1 q2 q3
    exact ⟨a2, c2, q1, q2, q3⟩
end Go.Proofs.YtnfjpngmadoflaaGreatDoor
