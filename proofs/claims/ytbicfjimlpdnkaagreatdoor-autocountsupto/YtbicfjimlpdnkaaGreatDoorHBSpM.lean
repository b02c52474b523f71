/-
  The steps to a leaf, and the entries that a right record makes along them: the words, without the program.
  assemble: whatever right datum is put together.
  assemble: the root's records.
  assemble: a leaf's column is found by its number; branches with the blocks they lie in.
  assemble: the branch of a leaf.
  assemble: what branchOf's loop holds: fields, readers, in two rows of its own.
-/
import Derived.Test.YtbicfjimlpdnkaaGreatDoorHBChkD
import Derived.Test.YtbicfjimlpdnkaaGreatDoorHBWriter
import Derived.Test.YtbicfjimlpdnkaaGreatDoorHBColOf
import Derived.Test.YtbicfjimlpdnkaaGreatDoorHBAsH
import Derived.Test.YtbicfjimlpdnkaaGreatDoorHBWalkT
namespace Go.Proofs.YtbicfjimlpdnkaaGreatDoor
open Go.RowKit
/-- A way down from a node to a leaf in it. -/
def Chn : Tr → List Tr → Prop
  | t, [] => t.kind ≠ 0
  | t, x :: q => t.kind = 0 ∧ (∃ i, ∃ h : i < t.sub.length, t.sub[i] = x ∧ ∀ j (h' : j < i), (t.sub[j]'(Nat.lt_trans h' h)).id ≠ x.id) ∧ Chn x q
/-- The first node with a number. -/
def ixO (ts : List Tr) (id : Int) : Nat := ts.findIdx fun y => y.id == id
theorem ixO_at {ts : List Tr} {x : Tr} {i : Nat} (h : i < ts.length) (e : ts[i] = x) (hf : ∀ j (h' : j < i), (ts[j]'(Nat.lt_trans h' h)).id ≠ x.id) : ixO ts x.id = i := by
  unfold ixO
  rw [List.findIdx_eq h]
  refine ⟨by rw [e]; simp, fun j hj => ?_⟩
  have := hf j hj
  simp [this]
/-- The steps along a way. -/
def stq : Tr → List Tr → Nat → Nat → List Stp
  | _, [], _, _ => []
  | t, x :: q, df, ls => ⟨ixO t.sub x.id, x.rep, df, if x.rep = 3 then ls + 1 else ls⟩ :: stq x q (if x.rep = 1 then df else df + 1) (if x.rep = 3 then ls + 1 else ls)
theorem stq_path : ∀ (q : List Tr) (t : Tr) (df ls : Nat), Chn t q → StPath t (q.map Tr.id) df ls (stq t q df ls)
  | [], t, df, ls, _ => .nil t df ls
  | x :: q, t, df, ls, h => by
    obtain ⟨_, ⟨i, hi, e, hf⟩, hq⟩ := h
    rw [List.map_cons, stq, ixO_at hi e hf]
    subst e
    exact .cons t _ _ df ls i hi rfl hf _ (stq_path q _ _ _ hq)
theorem lvR_cq (x : Tr) (q : List Tr) : lvR (x :: q) = (if x.rep = 3 then 1 else 0) + lvR q := by
  unfold lvR
  by_cases h : x.rep = 3 <;> simp [h]; omega
theorem lvD_cq (x : Tr) (q : List Tr) : lvD (x :: q) = (if x.rep = 1 then 0 else 1) + lvD q := by
  unfold lvD
  by_cases h : x.rep = 1 <;> simp [h]; omega
theorem lvL_at : ∀ (ts : List Tr) (p : List Tr) (f : Lf), f ∈ lvL p ts → ∃ i, ∃ h : i < ts.length, f ∈ lvT p ts[i]
  | [], p, f, h => by simp [lvL] at h
  | t :: ts, p, f, h => by
    rw [lvL, List.mem_append] at h
    rcases h with h | h
    · exact ⟨0, by simp, h⟩
    · obtain ⟨i, hi, h⟩ := lvL_at ts p f h
      exact ⟨i + 1, by simp; omega, by simpa using h⟩
/-- No two of a node's nodes have one number. -/
theorem IdU.first {t : Tr} (h : IdU t) (i j : Nat) (hi : i < t.sub.length) (hj : j < i) : (t.sub[j]'(Nat.lt_trans hj hi)).id ≠ t.sub[i].id := by
  unfold IdU at h
  rw [ndT_eq, List.map_cons, List.nodup_cons] at h
  have hsub : ∀ ts : List Tr, List.Sublist ts (ndL ts) := fun ts => by
    induction ts with
    | nil => simp
    | cons x xs ih =>
      rw [ndL, ndT_eq, List.cons_append]
      exact (ih.trans (List.sublist_append_right _ _)).cons_cons x
  have hn : (t.sub.map Tr.id).Nodup := h.2.sublist ((hsub t.sub).map Tr.id)
  rw [List.nodup_iff_pairwise_ne, List.pairwise_iff_getElem] at hn
  have := hn j i (by simp; omega) (by simpa using hi) hj
  simpa using this
/-- A leaf of a tree: the way to it. -/
theorem lvT_chn : ∀ (n : Nat) (t : Tr), SizeOf.sizeOf t < n → ∀ (p : List Tr) (f : Lf), IdU t → (∀ y ∈ ndT t, y.kind ≠ 0 → y.sub = []) → f ∈ lvT p t →
    ∃ q z, Chn t q ∧ (t :: q).getLast? = some z ∧ f = ⟨z.id, z.kind, lvR (p ++ t :: q), lvD (p ++ t :: q), (p ++ t :: q).map Tr.id⟩
  | 0, t, h => absurd h (Nat.not_lt_zero _)
  | n + 1, .node id nm rep kind sub, hn => fun p f hu hk hf => by
    rw [lvT, List.mem_append] at hf
    by_cases h0 : kind = 0
    · rw [if_pos h0] at hf
      rcases hf with hf | hf
      · simp at hf
      · obtain ⟨i, hi, hf⟩ := lvL_at _ _ _ hf
        have hm : sub[i] ∈ (Tr.node id nm rep kind sub).sub := List.getElem_mem hi
        have hsz : SizeOf.sizeOf sub[i] < n := by
          have := List.sizeOf_lt_of_mem (List.getElem_mem (l := sub) (n := i) hi)
          simp only [Tr.node.sizeOf_spec] at hn
          omega
        obtain ⟨q, z, hc, hz, e⟩ := lvT_chn n sub[i] hsz _ f (hu.sub hm) (fun y hy => hk y (nd_sub hm hy)) hf
        refine ⟨sub[i] :: q, z, ⟨h0, ⟨i, hi, rfl, fun j hj => hu.first i j hi hj⟩, hc⟩, ?_, ?_⟩
        · rw [List.getLast?_cons_cons]; exact hz
        · rw [e]; simp
    · have hs : sub = [] := hk (.node id nm rep kind sub) (by rw [ndT]; exact List.mem_cons_self) h0
      subst hs
      rw [if_neg h0, lvL] at hf
      simp only [List.mem_singleton, List.not_mem_nil, or_false] at hf
      exact ⟨[], _, h0, rfl, by rw [hf, lfO]; rfl⟩
theorem right_lfs {t : Tr} (hs : shpT t = true) : ∀ y ∈ ndT t, y.kind ≠ 0 → y.sub = [] := fun y hy hk => by
  rw [shp_all, Bool.and_eq_true] at hs
  have h : shpOk y = true := by
    rw [ndT_eq] at hy
    rcases List.mem_cons.1 hy with rfl | hy
    · exact hs.1
    · exact List.all_eq_true.1 hs.2 y hy
  unfold shpOk at h
  rw [Bool.and_eq_true] at h
  have h2 := h.2
  have hs : ¬ 0 < y.sub.length := by
    intro hp
    simp [hk, hp] at h2
  exact List.eq_nil_of_length_eq_zero (by omega)
/-- A leaf of a right schema: the way to it from the root. -/
structure LfW (t : Tr) (f : Lf) (q : List Tr) (z : Tr) : Prop where
  way : Chn t q
  last : (t :: q).getLast? = some z
  ne : q ≠ []
  id : f.id = z.id
  kind : f.kind = z.kind
  mr : f.mr = lvR q
  md : f.md = lvD q
  path : f.path = q.map Tr.id
theorem right_way {t : Tr} (hr : isRootB t = true) (hs : shpT t = true) (hi : idsT t = true) (hk0 : t.kind = 0) (f : Lf) (hf : f ∈ lvsT t) : ∃ q z, LfW t f q z := by
  rw [lvs_right t hk0] at hf
  have hu := right_idU hr hi
  have hl := right_lfs hs
  obtain ⟨i, hi, hf⟩ := lvL_at _ _ _ hf
  have hm : t.sub[i] ∈ t.sub := List.getElem_mem hi
  obtain ⟨q, z, hc, hz, e⟩ := lvT_chn _ t.sub[i] (Nat.lt_succ_self _) [] f (hu.sub hm) (fun y hy => hl y (nd_sub hm hy)) hf
  rw [List.nil_append] at e
  exact ⟨t.sub[i] :: q, z, ⟨hk0, ⟨i, hi, rfl, fun j hj => hu.first i j hi hj⟩, hc⟩, by rw [List.getLast?_cons_cons]; exact hz, by simp, by rw [e], by rw [e], by rw [e], by rw [e], by rw [e]⟩
end Go.Proofs.YtbicfjimlpdnkaaGreatDoor

namespace Go.Proofs.YtbicfjimlpdnkaaGreatDoor
open Go.RowKit
theorem asub_cnt {t : Tr} (j : Nat) (h : j < t.sub.length) : t.sub[j].cnt < t.cnt := by
  have hm : ∀ (ts : List Tr) (i : Nat) (h : i < ts.length), ts[i].cnt ≤ cntL ts := fun ts => by
    induction ts with
    | nil => intro i h; simp at h
    | cons y ys ih =>
      intro i h
      rw [cntL]
      cases i with
      | zero => simp
      | succ i => have := ih i (by simpa using h); simp; omega
  have := hm t.sub j h
  rw [Tr.cnt_eq t]
  omega
theorem das_any : ∀ (n : Nat) (d : Dt), SizeOf.sizeOf d < n → ∀ (t : Tr) (df ls : Nat), t.Sm → (∀ y ∈ ndT t, 1 ≤ y.rep ∧ y.rep ≤ 3) → ls + t.cnt ≤ 1000 → (chk true t d = 0 → OneA t df ls d) ∧ (chk false t d = 0 → DatA t df ls d)
  | 0, d, h => absurd h (Nat.not_lt_zero _)
  | n + 1, d, hsz => fun t df ls hsm hrp hc => by
    have hf := d.f_size
    have hl := d.l_size
    have hlen := hsm.len
    have hat := hsm.at_
    have hr : 1 ≤ t.rep ∧ t.rep ≤ 3 := hrp t (by rw [ndT_eq]; exact List.mem_cons_self)
    have hone : ∀ y : Dt, SizeOf.sizeOf y < n + 1 → (∀ f, y = .mk false ⟨0, 0, ⟨#[]⟩⟩ [] f → f.length = t.sub.length → t.kind = 0 → (∀ j (h : j < t.sub.length) (h' : j < f.length), chk false t.sub[j] f[j] = 0) → OneA t df ls y) := fun y hy f e hfl hk each => by
      subst e
      have hf2 := Dt.f_size (.mk false ⟨0, 0, ⟨#[]⟩⟩ [] f)
      exact aone_group t df ls hk hlen f hfl each (fun j h h' => (das_any n f[j] (by have := hf2 j h'; simp only [Dt.f] at this; omega) t.sub[j] _ _ (hat j h) (fun y hy => hrp y (nd_sub (List.getElem_mem h) hy)) (by have := asub_cnt j h; have := (lsN_ge t ls).2; omega)).2 (each j h h'))
    refine ⟨fun hck => ?_, fun hck => ?_⟩
    · cases kd_of hck with
      | list l h1 h3 hl40 each => exact absurd h1 (by simp)
      | none h1 h2 => exact absurd h1 (by simp)
      | group f h1 hk hfl each => exact hone _ hsz f rfl hfl hk each
      | leaf v h1 hk hv ok => exact aone_leaf t df ls v hk
    · have hk := kd_of hck
      cases hk with
      | list l h1 h3 hl40 each =>
        rcases Nat.eq_zero_or_pos l.length with h0 | h0
        · have : l = [] := List.length_eq_zero_iff.1 h0
          subst this
          exact datum_no t df ls (by omega) (by omega) _ (by rw [decide_eq_true h3]; rfl)
        · exact datum_three t df ls l h3 hl40 h0 hck each (fun j h => (das_any n l[j] (by have := hl j h; simp only [Dt.l] at this; omega) t df ls hsm hrp hc).1 (each j h))
      | none h1 h2 => exact datum_no t df ls (by omega) (by omega) _ (by rw [decide_eq_false (by omega)]; rfl)
      | group f h1 hk hfl each =>
        have hO := hone _ hsz f rfl hfl hk each
        have h3 : t.rep ≠ 3 := fun e => h1 ⟨rfl, e⟩
        by_cases h : t.rep = 1
        · exact datum_one t df ls _ h rfl hO
        · exact datum_two t df ls _ (by omega) hck rfl hO
      | leaf v h1 hk hv ok =>
        have hO := aone_leaf t df ls v hk
        have h3 : t.rep ≠ 3 := fun e => h1 ⟨rfl, e⟩
        by_cases h : t.rep = 1
        · exact datum_one t df ls _ h rfl hO
        · exact datum_two t df ls _ (by omega) hck rfl hO
end Go.Proofs.YtbicfjimlpdnkaaGreatDoor

namespace Go.Proofs.YtbicfjimlpdnkaaGreatDoor
open Go.RowKit
set_option maxRecDepth 100000 in
set_option maxHeartbeats 6400000 in
theorem records_of (t : Tr) (h1 : t.rep = 1) (ds : List Dt) (hdl : ds.length ≤ 100000) (hck : ∀ j (h : j < ds.length), chk true t ds[j] = 0) (each : ∀ j (h : j < ds.length), OneA t 0 0 ds[j])
    (N b : Nat) (G : List Nat) (W : World) (hb : BrAt W b t 0 0 G) (hnd : G.Nodup) (hG : G.length ≤ 1000) (hR : RdAll W N G (enL t 0 0 0 ds)) :
    Calls Tryz.prog (36) #[.pointer (some ⟨b, 0, none⟩)] W fun e w' => ∃ al cl, e = .returned (.tuple #[.slice al ds.length cl, .nilIface]) ∧ LiesD w' (fun b => W.heap.size ≤ b) al ds ∧ AFr G W w' := by
  obtain ⟨iv, hvi, hv0, hv1, hv2⟩ := info_parts Tryz.infoD
  have hdN : dfN t 0 = 0 := by unfold dfN; rw [if_pos h1]
  have hlN : lsN t 0 = 0 := by unfold lsN; rw [if_neg (by omega)]
  have hlv := hb.len
  have hpos := hb.pos
  obtain ⟨Rm, rp, hR0, hRe, hRs, hRl, hRh, hRi⟩ := list_rem t 0 0 0 ds (List.replicate (lvC t) []) hck (by simp)
  have hz : zipA (enL t 0 0 0 ds) (List.replicate (lvC t) []) = enL t 0 0 0 ds := by
    have hl := enL_len ds t 0 0 0 hck
    have hg : ∀ (n : Nat) (c : List (List Ent)), c.length = n → zipA c (List.replicate n []) = c := fun n => by
      induction n with
      | zero => intro c h; rw [List.length_eq_zero_iff.1 h]; rfl
      | succ n ih =>
        intro c h
        cases c with
        | nil => simp at h
        | cons x c =>
          have := ih c (by simpa using h)
          unfold zipA at this ⊢
          rw [List.replicate_succ, List.zipWith_cons_cons, this, List.append_nil]
    exact hg _ _ hl
  rw [hz] at hR0
  rw [← hR0] at hR
  have hlt := hR.lt
  have hNb0 : ∀ g ∈ G, ¬ BrB W g := fun g hg => by
    obtain ⟨rem, h2⟩ := hR.mem g hg
    exact h2.noB
  have HNb : Hid (∀ k ∈ G, k < W.heap.size → ¬ BrB W k) := fun k hm _ => hNb0 k hm
  have HGz : Hid (∀ g ∈ G, g < W.heap.size) := fun g hg => (hlt g hg).2
  have HAg : Hid (AgI W G ds W 0 (.slice none 0 0) []) := .start ds (AFr.refl _ _) HGz.out
  have HSt : Hid (RdAll W N G (Rm 0)) := hR
  have HBr : Hid (BrAt W b t 0 0 G) := hb
  have HEach : Hid (∀ i (h : i < ds.length), ∀ (X : World), BrAt X b t 0 0 G → RdAll X N G (Rm i) → _) := fun i h X hX hRX => by
    rw [hRs i h] at hRX
    exact each i h N b G (rp i) (Rm (i + 1)) X hX hnd hG (by rw [hRl, hlv]) (by rw [hdN, hlN]; exact hRX) (fun es he => by
      rw [hlN]
      by_cases hi : i + 1 < ds.length
      · rw [hRh (i + 1) (by omega) hi es he]; omega
      · have e : i + 1 = ds.length := by omega
        rw [e, hRe] at he
        rw [List.eq_of_mem_replicate he]
        exact Int.le_refl _)
  have HMo : Hid (∀ i, i ≤ ds.length → ∀ (X : World), BrAt X b t 0 0 G → RdAll X N G (Rm i) → Calls Tryz.prog (61) #[.pointer (some ⟨b, 0, none⟩), .func (.func 62) #[] #[]] X fun e w' => e = .returned (.tuple #[.bool (decide (i < ds.length)), .nilIface]) ∧ Below X.heap.size X w') := fun i hi X hX hRX => by
    obtain ⟨fv, ra, rc, hcell, hra, _⟩ := hX.box
    obtain ⟨c0, c1, c2, c3, c4⟩ := row_fiveB hcell
    refine agreeE b G (decide (i < ds.length)) hpos hG ra rc X c4 hra (fun j h Y hY => ?_)
    have h1 := (hRX.below hY).2 j h (by rw [← hRX.1]; exact h)
    refine clE N G[j] _ _ ?_ Y h1
    have hm : (Rm i)[j]'(by rw [← hRX.1]; exact h) ∈ Rm i := List.getElem_mem _
    by_cases hi2 : i < ds.length
    · obtain ⟨x, r, e, _⟩ := hRi i hi2 _ hm
      rw [decide_eq_true hi2, e]
      simp
    · have e : i = ds.length := by omega
      have h5 : ∀ es ∈ Rm i, es = [] := by
        rw [e, hRe]
        exact fun es he => List.eq_of_mem_replicate he
      rw [decide_eq_false hi2, h5 _ hm]
      simp
  clear hnd hG hR hlt hb each hck hNb0 hR0 hRe hRs hRl hRh hRi hlv hz
  go_enter Tryz.func36, Tryz.ntmps36
  go_wp2_with fail
  go_loopw [4] (fun l wr => ∃ (i : Nat) (ncs : List (List Value)), i ≤ ds.length ∧ Hid (AgI W G ds wr i l ncs) ∧ Hid (RdAll wr N G (Rm i))) (fun l _ => ds.length - aLen l)
  case atStart => exact ⟨0, [], Nat.zero_le _, HAg, HSt⟩
  case round =>
    clear HAg HSt
    obtain ⟨i, ncs, hik, HD, HS⟩ := hrel
    have HC1 : Hid _ := HMo.out i hik wr (HBr.out.st HD.out.fr HNb.out) HS.out
    obtain ⟨a0, c0, rfl⟩ := HD.out.shape
    by_cases hlt : i < ds.length
    · rw [decide_eq_true hlt] at HC1
      go_wp2_with fail
      refine Calls.mono HC1.out ?_
      rintro e wa ⟨rfl, hba⟩
      have HBa : Hid (Below wr.heap.size wr wa) := hba
      clear hba HC1
      obtain ⟨y, HYn⟩ := hid_name ds[i]
      have HC2 : Hid _ := HEach.out i hlt wa (HBr.out.st (HD.out.fr.trans (AFr.of_below HBa.out)) HNb.out) (HS.out.below HBa.out)
      rw [HYn.out] at HC2
      go_wp2_with fail
      refine Calls.mono HC2.out ?_
      rintro e w3 ⟨al, cl, af, cf, rfl, hl3, hf3, hr3, hff3⟩
      obtain ⟨w4, HW4, HZ4, HB4⟩ := one_box w3 #[.bool y.no, .int .i64 y.v.k, .int .i64 y.v.n, .string y.v.s, .slice al y.l.length cl, .slice af y.f.length cf] 58
      have HF4 : Hid (AFr G wr w4) := (AFr.of_below HBa.out).trans (hff3.trans (AFr.of_below HB4.out))
      have hwa : wr.heap.size ≤ wa.heap.size := HBa.out.size
      have HL3 : Hid (LiesD w4 (fun b => wr.heap.size ≤ b) al y.l) := (hl3.stay (fun b h _ => Nat.le_trans hwa h) (fun _ _ _ => rfl)).keep HB4.out
      have HL4 : Hid (LiesD w4 (fun b => wr.heap.size ≤ b) af y.f) := (hf3.stay (fun b h _ => Nat.le_trans hwa h) (fun _ _ _ => rfl)).keep HB4.out
      have HS4 : Hid (RdAll w4 N G (Rm (i + 1))) := hr3.below HB4.out
      have HRow : Hid (w4.ownsRow W.heap.size 58 6 (.slice a0 i c0) i ncs.flatten) := row_af HD.out.row HF4.out HD.out.lt
      have hwsz : W.heap.size ≤ w4.heap.size := Nat.le_trans HD.out.fr.size HF4.out.size
      clear hl3 hf3 hr3 hff3 HC2
      go_upto_region 8 with fail
      rw [HW4.out]
      obtain ⟨z0, z1, z2, z3, z4, z5⟩ := row_six HZ4.out
      go_wp2_with (at_builtin; refine wpList_append_where _ rfl _ _ 25 rfl W.heap.size 58 iv (.agg #[.bool false, .int .i64 0, .int .i64 0, .string ⟨#[]⟩, .slice none 0 0, .slice none 0 0]) 6 88 Tryz.underlying25 hvi hv0 hv1 hv2 rfl (by decide) _ i ncs.flatten rfl (HRow.out.alloc _) ⟨_, 0, none⟩ 1 1 [.bool y.no, .int .i64 y.v.k, .int .i64 y.v.n, .string y.v.s, .slice al y.l.length cl, .slice af y.f.length cf] rfl rfl six_cells (by intro u hu; simp at hu; rcases hu with rfl | rfl | rfl | rfl | rfl | rfl <;> rfl) (by unfold maxLen; omega) (by omega) (by simp; omega) (by decide) ?_; intro l' w9 hown9 hgrow9 hwh; have HDn : Hid (AgI W G ds w9 (i + 1) l' (ncs ++ [[.bool ds[i].no, .int .i64 ds[i].v.k, .int .i64 ds[i].v.n, .string ds[i].v.s, .slice al ds[i].l.length cl, .slice af ds[i].f.length cf]])) := HD.out.push hlt HF4.out (by rw [HYn.out]; exact HL3.out) (by rw [HYn.out]; exact HL4.out) (by rw [HYn.out]; exact hown9) hgrow9 hwh; have HG9 : Hid (AFr G W w9 ∧ ∀ k, k < W.heap.size → w9.heap[k]? = w4.heap[k]?) := af_grow (HD.out.fr.trans HF4.out) hgrow9 (fun k hk => (HD.out.row.lt k hk).1); obtain ⟨a8, c8, rfl⟩ := HDn.out.shape)
      have HSn : Hid (RdAll w9 N G (Rm (i + 1))) := HS4.out.low W.heap.size HGz.out HG9.out.2
      go_roundw
      case rel => exact ⟨i + 1, _, hlt, HDn, HSn⟩
      case measure => simp only [aLen]; omega
    · obtain rfl : i = ds.length := by omega
      rw [decide_eq_false hlt] at HC1
      go_wp2_with fail
      refine Calls.mono HC1.out ?_
      rintro e wa ⟨rfl, hba⟩
      have HDa : Hid _ := HD.out.go (AFr.of_below hba)
      clear hba HC1
      go_wp2
      go_ret2
      exact ⟨a0, c0, rfl, HDa.out.lies, HDa.out.fr⟩
end Go.Proofs.YtbicfjimlpdnkaaGreatDoor

namespace Go.Proofs.YtbicfjimlpdnkaaGreatDoor
open Go.RowKit
set_option maxRecDepth 100000 in
set_option maxHeartbeats 1600000 in
theorem clC (k : Cl) (p : Nat) (nid : Int) (v : Bool) (hv : v = (k.id == nid)) (W : World) (hp : W.cell? ⟨p, 0, none⟩ = some (.int .i64 nid)) :
    Calls Tryz.prog (60) #[k.val, .pointer (some ⟨p, 0, none⟩)] W fun e w' => e = .returned (.bool v) ∧ Below W.heap.size W w' := by
  unfold Cl.val colV
  obtain ⟨w0, HW0, HX, HB⟩ := one_box W #[.int .i64 k.id, .slice k.ra k.rs.length k.rc, .slice k.da k.ds.length k.dc, .slice k.va k.vs.length k.vc] 42
  have c0 := cell_of_row w0 W.heap.size 0 _ _ _ HX.out
  have hp0 := (HB.out.cell (World.block_lt_of_cell? W _ hp)).trans hp
  obtain ⟨x, HXn⟩ := hid_name k.id
  rw [HXn.out] at hv c0 HX HW0 ⊢
  have q : (x == nid) = v := hv.symm
  clear hp hv
  go_enter Tryz.func60, Tryz.ntmps60
  go_upto_region 1 with fail
  rw [HW0.out]
  go_wp2
  go_ret
  exact ⟨rfl, HB.out⟩
set_option maxRecDepth 100000 in
set_option maxHeartbeats 3200000 in
theorem ixC (z : Nat) (nid : Int) (cs : List Cl) (hcs : cs.length ≤ 1000) (a : Option Addr) (c : Nat) (W : World) (hl : LiesC W a cs) (hp : W.cell? ⟨z, 0, none⟩ = some (.int .i64 nid)) (k : Nat) (hk : k < cs.length) (he : cs[k].id = nid) (hf : ∀ j (h : j < k), (cs[j]'(Nat.lt_trans h hk)).id ≠ nid) :
    Calls Tryz.prog (59) #[.slice a cs.length c, .func (.func 60) #[] #[.pointer (some ⟨z, 0, none⟩)]] W fun e w' => e = .returned (.int .i64 (k : Nat)) ∧ Below W.heap.size W w' := by
  have HL : Hid (LiesC W a cs) := hl
  have HP : Hid _ := hp
  have HE : Hid (∀ j (h : j < cs.length), j ≤ k → (cs[j].id == nid) = decide (j = k)) := fun j h hj => by
    by_cases e : j = k
    · subst e
      simp [he]
    · rw [decide_eq_false e, beq_eq_false_iff_ne]
      exact hf j (by omega)
  clear hl hp he hf
  go_enter Tryz.func59, Tryz.ntmps59
  go_wp2_with fail
  go_loopw [8] (fun x wr => ∃ i : Nat, i ≤ k ∧ x = .int .i64 i ∧ Hid (Below W.heap.size W wr)) (fun x _ => k - (intOf x).toNat)
  case atStart => exact ⟨0, Nat.zero_le _, rfl, Below.refl _ _⟩
  case round =>
    obtain ⟨i, hik, rfl, HB⟩ := hrel
    have hlt : i < cs.length := by omega
    obtain ⟨⟨bb, oo, ea, h0, h1, h2, h3⟩, hat⟩ := (HL.out.keep HB.out) i hlt
    subst ea
    have HC : Hid _ := clC cs[i] z nid (decide (i = k)) (HE.out i hlt hik).symm wr ((HB.out.cell (World.block_lt_of_cell? W _ HP.out)).trans HP.out)
    clear hat
    obtain ⟨x, HXn⟩ := hid_name cs[i]
    rw [HXn.out] at h0 h1 h2 h3 HC
    unfold Cl.val colV at HC
    have q0 : (0 : Int) ≤ (i : Int) := by omega
    have q1 : (i : Int) < (cs.length : Int) := by omega
    by_cases e : i = k
    · rw [decide_eq_true e] at HC
      subst e
      go_wp2_with fail
      refine Calls.mono HC.out ?_
      rintro e1 w1 ⟨rfl, hb1⟩
      have HB1 : Hid (Below W.heap.size W w1) := HB.out.trans (hb1.mono HB.out.size)
      clear hb1 HC h0 h1 h2 h3
      go_wp2
      go_ret
      exact ⟨rfl, HB1.out⟩
    · rw [decide_eq_false e] at HC
      go_wp2_with fail
      refine Calls.mono HC.out ?_
      rintro e1 w1 ⟨rfl, hb1⟩
      have HB1 : Hid (Below W.heap.size W w1) := HB.out.trans (hb1.mono HB.out.size)
      clear hb1 HC h0 h1 h2 h3
      go_wp2
      go_roundw
      case rel => exact ⟨i + 1, by omega, by go_num, HB1⟩
      case measure => simp [intOf]; omega
mutual
/-- The leaves' numbers. -/
def lvI : Tr → List Int
  | .node id _ _ kind sub => if kind = 0 then lvIL sub else [id]
def lvIL : List Tr → List Int
  | [] => []
  | t :: ts => lvI t ++ lvIL ts
end
theorem lvI_eq (t : Tr) : lvI t = if t.kind = 0 then lvIL t.sub else [t.id] := by
  cases t with
  | node id nm rep kind sub => rw [lvI]; rfl
theorem lvIL_app : ∀ a b : List Tr, lvIL (a ++ b) = lvIL a ++ lvIL b
  | [], b => by rw [List.nil_append, lvIL]; rfl
  | t :: a, b => by rw [List.cons_append, lvIL, lvIL, lvIL_app a b, List.append_assoc]
/-- A branch and the blocks it lies in. -/
inductive BrI (w : World) (P : Nat → Prop) : Nat → Tr → Nat → Nat → List Nat → Prop where
  | leaf (b : Nat) (t : Tr) (df ls g : Nat) (ra : Option Addr) (rc : Nat) (hk : t.kind ≠ 0) (hb : P b) (cell : w.heap[b]? = some (.cells #[.int .i64 t.rep, .int .i64 (df : Nat), .int .i64 (lsN t ls : Nat), .slice none 0 0, .slice ra 1 rc] 111 (0, 0))) (hr : Lies w ra (ptrs [g])) (hra : ∀ a o, ra = some ⟨a, o, none⟩ → P a) : BrI w P b t df ls [g]
  | group (b : Nat) (t : Tr) (df ls : Nat) (fa : Option Addr) (fc : Nat) (ra : Option Addr) (rc : Nat) (FB : Nat → Nat) (FG : Nat → List Nat) (G : List Nat) (hk : t.kind = 0) (h0 : 0 < t.sub.length) (hb : P b) (cell : w.heap[b]? = some (.cells #[.int .i64 t.rep, .int .i64 (df : Nat), .int .i64 (lsN t ls : Nat), .slice fa t.sub.length fc, .slice ra G.length rc] 111 (0, 0))) (hf : Lies w fa (ptrs ((List.range t.sub.length).map FB))) (hfa : ∀ a o, fa = some ⟨a, o, none⟩ → P a) (each : ∀ j (h : j < t.sub.length), BrI w P (FB j) t.sub[j] (dfN t df) (lsN t ls) (FG j)) (hr : Lies w ra (ptrs G)) (hra : ∀ a o, ra = some ⟨a, o, none⟩ → P a) (hG : G = (List.range t.sub.length).flatMap FG) : BrI w P b t df ls G
theorem BrI.at_ {w : World} {P : Nat → Prop} {b : Nat} {t : Tr} {df ls : Nat} {G : List Nat} (h : BrI w P b t df ls G) : BrAt w b t df ls G := by
  induction h with
  | leaf b t df ls g ra rc hk hb cell hr hra => exact .leaf b t df ls g ra rc hk cell hr
  | group b t df ls fa fc ra rc FB FG G hk h0 hb cell hf hfa each hr hra hG ih => exact .group b t df ls fa fc ra rc FB FG G hk h0 cell hf ih hr hG
theorem ptrs_pst {w w' : World} {P : Nat → Prop} {a : Option Addr} {G : List Nat} (h : Lies w a (ptrs G)) (hp : ∀ b o, a = some ⟨b, o, none⟩ → P b) (hs : ∀ k, P k → k < w.heap.size → w'.heap[k]? = w.heap[k]?) : Lies w' a (ptrs G) := fun j hj => by
  obtain ⟨b, o, e, hc⟩ := h j hj
  exact ⟨b, o, e, cell_stay hc (hs b (hp b o e) (World.block_lt_of_cell? w _ hc))⟩
theorem BrI.stay {w w' : World} {P Q : Nat → Prop} {b : Nat} {t : Tr} {df ls : Nat} {G : List Nat} (hQ : ∀ k, P k → k < w.heap.size → Q k) (hs : ∀ k, P k → k < w.heap.size → w'.heap[k]? = w.heap[k]?) (h : BrI w P b t df ls G) : BrI w' Q b t df ls G := by
  have hq : ∀ (a : Option Addr) (G : List Nat), 0 < (ptrs G).length → Lies w a (ptrs G) → (∀ b o, a = some ⟨b, o, none⟩ → P b) → ∀ b o, a = some ⟨b, o, none⟩ → Q b := fun a G h0 hl hp b o e => by
    obtain ⟨b1, o1, e1, hc⟩ := hl 0 h0
    have e2 := e.symm.trans e1
    injection e2 with e2
    injection e2 with e2 _ _
    exact hQ b (hp b o e) (by rw [e2]; exact World.block_lt_of_cell? w _ hc)
  induction h with
  | leaf b t df ls g ra rc hk hb cell hr hra => exact .leaf b t df ls g ra rc hk (hQ b hb (lt_of_block cell)) ((hs b hb (lt_of_block cell)).trans cell) (ptrs_pst hr hra hs) (hq ra [g] (by simp [ptrs]) hr hra)
  | group b t df ls fa fc ra rc FB FG G hk h0 hb cell hf hfa each hr hra hG ih =>
    refine .group b t df ls fa fc ra rc FB FG G hk h0 (hQ b hb (lt_of_block cell)) ((hs b hb (lt_of_block cell)).trans cell) (ptrs_pst hf hfa hs) (hq fa _ (by rw [ptrs_len]; simpa using h0) hf hfa) ih (ptrs_pst hr hra hs) (hq ra G ?_ hr hra) hG
    rw [ptrs_len]
    obtain ⟨tl, e⟩ := fl_split FG 0 t.sub.length h0
    have := (each 0 h0).at_.pos
    rw [hG, e]
    simp only [List.length_append]
    omega
theorem BrI.kept {w w' : World} {P : Nat → Prop} {b : Nat} {t : Tr} {df ls : Nat} {G : List Nat} (h : BrI w P b t df ls G) (hb : Below w.heap.size w w') : BrI w' P b t df ls G := h.stay (fun _ h _ => h) (fun k _ hk => hb.block k hk)
end Go.Proofs.YtbicfjimlpdnkaaGreatDoor

namespace Go.Proofs.YtbicfjimlpdnkaaGreatDoor
open Go.RowKit
/-- The column of a leaf's number, and the entries in it. -/
def ColFor (N : Nat) (cs : List Cl) (En : Int → List Ent) (x : Int) : Prop := ∃ k, ∃ h : k < cs.length, cs[k].id = x ∧ (∀ j (h' : j < k), (cs[j]'(Nat.lt_trans h' h)).id ≠ x) ∧ cs[k].rs = eR (En x) ∧ cs[k].ds = eD (En x) ∧ cs[k].vs = eV (En x) ∧ (En x).length ≤ 20000 ∧ cs[k].Lw N
/-- What branchOf promises. -/
def BoA (t : Tr) : Prop := ∀ (df ls N : Nat) (cs : List Cl) (En : Int → List Ent) (na : Option Addr) (nc : Nat) (a : Option Addr) (c : Nat) (W : World), df + t.cnt ≤ 1000 → ls + t.cnt ≤ 1000 → cs.length ≤ 1000 → LiesC W a cs → N ≤ W.heap.size → LiesN W (fun _ => True) na t.sub → (∀ x ∈ lvI t, ColFor N cs En x) →
  Calls Tryz.prog 35 #[nodeV t na nc, .int .i64 (df : Nat), .int .i64 (ls : Nat), .slice a cs.length c] W fun e w' => ∃ b G, e = .returned (.pointer (some ⟨b, 0, none⟩)) ∧ BrI w' (fun k => W.heap.size ≤ k) b t df ls G ∧ G.Nodup ∧ (∀ g ∈ G, W.heap.size ≤ g) ∧ RdAll w' N G ((lvI t).map En) ∧ Below W.heap.size W w'
set_option maxRecDepth 100000 in
set_option maxHeartbeats 3200000 in
theorem bo_leaf (t : Tr) (hk : t.kind ≠ 0) : BoA t := by
  intro df ls N cs En na nc a c W hdf hls hcs hlc hN hln hcf
  obtain ⟨k, hkl, hid, hfst, hrs, hds, hvs, hen, hlw⟩ := hcf t.id (by rw [lvI_eq, if_neg hk]; simp)
  have HLv : Hid (lvI t = [t.id]) := (by show lvI t = _; rw [lvI_eq, if_neg hk])
  have hct : 1 ≤ t.cnt := by rw [Tr.cnt_eq]; omega
  obtain ⟨w0, HW0, HP, HB⟩ := one_box W #[.int .i64 t.id, .string t.nm, .int .i64 t.rep, .int .i64 t.kind, .slice na t.sub.length nc] 24
  obtain ⟨w1, HW1, HX, HB1⟩ := one_box w0 #[.int .i64 t.rep, .int .i64 (df : Nat), .int .i64 (ls : Nat), .slice none 0 0, .slice none 0 0] 111
  have hs0 : W.heap.size < w0.heap.size := lt_of_block HP.out
  have HBb : Hid (Below W.heap.size W w1) := HB.out.trans (HB1.out.mono (by omega))
  have HPb : Hid _ := blk_keep HB1.out HP.out
  obtain ⟨b, HBn⟩ := hid_name w0.heap.size
  rw [HBn.out] at HX hs0
  obtain ⟨p, HPn⟩ := hid_name W.heap.size
  rw [HPn.out] at HP HPb hs0
  have HLC : Hid (LiesC W a cs) := hlc
  have HFs : Hid _ := hfst
  have HCk : Hid (cs[k].rs = eR (En t.id) ∧ cs[k].ds = eD (En t.id) ∧ cs[k].vs = eV (En t.id) ∧ (En t.id).length ≤ 20000 ∧ cs[k].Lw N) := ⟨hrs, hds, hvs, hen, hlw⟩
  have HId : Hid (cs[k].id = t.id) := hid
  have hkb : (t.kind != 0) = true := by rw [bne_iff_ne]; exact hk
  clear hlc hln hcf hrs hds hvs hen hlw hfst hid
  unfold nodeV
  obtain ⟨⟨n0, n1, n2, n3, n4⟩, _⟩ := row_five HP.out
  obtain ⟨⟨m0, m1, m2, m3, m4⟩, _⟩ := row_five HPb.out
  obtain ⟨⟨x0, x1, x2, x3, x4⟩, _, _, f2, _, _⟩ := row_five HX.out
  go_enter Tryz.func35, Tryz.ntmps35
  go_upto_region 1 with fail
  rw [HW0.out, HPn.out]
  go_upto_region 2 with fail
  rw [HW1.out, HBn.out]
  clear n0 n1 n2 n3 n4
  go_upto_if 22 with fail
  go_cut [] (fun wx => Hid (Below W.heap.size W wx) ∧ Hid (wx.heap[p]? = some (.cells #[.int .i64 t.id, .string t.nm, .int .i64 t.rep, .int .i64 t.kind, .slice na t.sub.length nc] 24 (0, 0))) ∧ Hid (wx.heap[b]? = some (.cells #[.int .i64 t.rep, .int .i64 (df : Nat), .int .i64 (lsN t ls : Nat), .slice none 0 0, .slice none 0 0] 111 (0, 0))))
  case first =>
    have HL : Hid (lsN t ls = if t.rep = 3 then ls + 1 else ls) := rfl
    by_cases h3 : t.rep = 3
    · have q3 : (t.rep == 3) = true := by rw [beq_iff_eq]; exact h3
      have HL2 : Hid (((lsN t ls : Nat) : Int) = (ls : Int) + 1) := (by show _ = _; rw [HL.out, if_pos h3]; omega)
      clear h3
      go_wp2
      go_meet
      exact ⟨HBb.out.setCell (by show W.heap.size ≤ b; have := HPn.out; omega) _, (Below.heap_setCell w1 ⟨b, 2, none⟩ _ p (by show p ≠ b; omega)).trans HPb.out, by rw [HL2.out]; exact row_setC HX.out⟩
    · have q3 : (t.rep == 3) = false := by rw [beq_eq_false_iff_ne]; exact h3
      have HL2 : Hid (lsN t ls = ls) := (by show _ = _; rw [HL.out, if_neg h3])
      clear h3
      go_wp2
      go_meet
      exact ⟨HBb.out, HPb.out, by rw [HL2.out]; exact HX.out⟩
  case rest =>
    obtain ⟨HB2, HP2, HX2⟩ := hcut
    rename World => w2
    clear m0 m1 m2 m3 m4 x0 x1 x2 x3 x4 f2
    obtain ⟨⟨m0, m1, m2, m3, m4⟩, _⟩ := row_five HP2.out
    go_upto_if 32 with fail
    go_cut [1] (fun x wx => x = .int .i64 (dfN t df : Nat) ∧ Hid (wx = w2))
    case first =>
      have HL : Hid (dfN t df = if t.rep = 1 then df else df + 1) := rfl
      by_cases h3 : t.rep = 1
      · have q3 : (t.rep != 1) = false := by rw [bne_eq_false_iff_eq]; exact h3
        have HL2 : Hid (dfN t df = df) := (by show _ = _; rw [HL.out, if_pos h3])
        clear h3
        go_wp2
        go_meet
        exact ⟨by rw [HL2.out], rfl⟩
      · have q3 : (t.rep != 1) = true := by rw [bne_iff_ne]; exact h3
        have HL2 : Hid (((dfN t df : Nat) : Int) = (df : Int) + 1) := (by show _ = _; rw [HL.out, if_neg h3]; omega)
        clear h3
        go_wp2
        go_meet
        exact ⟨by rw [HL2.out], rfl⟩
    case rest =>
      obtain ⟨rfl, HWc⟩ := hcut
      rename World => w3
      rw [HWc.out]
      have HC : Hid _ := ixC p t.id cs hcs a c w2 (HLC.out.keep HB2.out) m0 k hkl HId.out HFs.out
      go_wp2_with fail
      refine Calls.mono HC.out ?_
      rintro e w4 ⟨rfl, hb4⟩
      have HB4 : Hid (Below W.heap.size W w4) := HB2.out.trans (hb4.mono HB2.out.size)
      have HX4 : Hid _ := blk_keep hb4 HX2.out
      obtain ⟨⟨bb, oo, ea, h0, h1, h2, h3⟩, hat⟩ := (HLC.out.keep HB4.out) k hkl
      have HAt : Hid _ := hat
      subst ea
      obtain ⟨x, HXn⟩ := hid_name cs[k]
      rw [HXn.out] at h0 h1 h2 h3 HAt HCk
      obtain ⟨w5, HW5, HG, HB5⟩ := one_box w4 #[.int .i64 x.id, .slice x.ra x.rs.length x.rc, .slice x.da x.ds.length x.dc, .slice x.va x.vs.length x.vc, .int .i64 0, .int .i64 0] 115
      obtain ⟨w6, HW6, HA, HB6⟩ := one_box w5 #[.pointer (some ⟨w4.heap.size, 0, none⟩)] 113
      have q0 : (0 : Int) ≤ (k : Int) := by omega
      have q1 : (k : Int) < (cs.length : Int) := by omega
      have HX6 : Hid _ := blk_keep HB6.out (blk_keep HB5.out HX4.out)
      have y4 := (row_five HX6.out).1.2.2.2.2
      have yf := (row_five HX6.out).2.2.2.2.2
      rw [← HW6.out, ← HW5.out] at y4 yf
      clear HW5 HG HB5 HW6 HA HB6 HX6
      clear w6 w5
      have hb4s := HB4.out.size
      have hbl : b < w4.heap.size := lt_of_block HX4.out
      obtain ⟨w7, HW7⟩ := hid_name (w4.setCell ⟨b, 4, none⟩ (.slice (some ⟨w4.heap.size + 1, 0, none⟩) 1 1))
      have h7s : w7.heap.size = w4.heap.size := by rw [← HW7.out]; simp
      obtain ⟨w5, HW5, HG, HB5⟩ := one_box w7 #[.int .i64 x.id, .slice x.ra x.rs.length x.rc, .slice x.da x.ds.length x.dc, .slice x.va x.vs.length x.vc, .int .i64 0, .int .i64 0] 115
      obtain ⟨w6, HW6, HA, HB6⟩ := one_box w5 #[.pointer (some ⟨w4.heap.size, 0, none⟩)] 113
      have h5s : w5.heap.size = w4.heap.size + 1 := by rw [← HW5.out]; simp [h7s]
      rw [h7s] at HG HB5
      rw [h5s] at HA HB6
      have HX7 : Hid (w7.heap[b]? = some (.cells #[.int .i64 t.rep, .int .i64 (df : Nat), .int .i64 (lsN t ls : Nat), .slice none 0 0, .slice (some ⟨w4.heap.size + 1, 0, none⟩) 1 1] 111 (0, 0))) := (by show w7.heap[b]? = _; rw [← HW7.out]; exact row_setC HX4.out)
      have HB7 : Hid (Below W.heap.size W w7) := (by rw [← HW7.out]; exact HB4.out.setCell (by show W.heap.size ≤ b; have := HPn.out; omega) _)
      have HB9 : Hid (Below W.heap.size W w6) := HB7.out.trans ((HB5.out.mono (by omega)).trans (HB6.out.mono (by omega)))
      have st7 : ∀ k, k ≠ b → w7.heap[k]? = w4.heap[k]? := fun k hk => by rw [← HW7.out]; exact Below.heap_setCell w4 ⟨b, 4, none⟩ _ k hk
      have HFin : Hid (BrI w6 (fun k => W.heap.size ≤ k) b t df ls [w4.heap.size] ∧ RdAll w6 N [w4.heap.size] ((lvI t).map En)) := (by
        have hWp := HPn.out
        have hlow : ∀ k, k < N → w6.heap[k]? = w4.heap[k]? := fun k hk => by
          rw [HB6.out.block k (by omega), HB5.out.block k (by omega), st7 k (by omega)]
        have hkeep : ∀ k, k < w4.heap.size → w6.heap[k]? = w7.heap[k]? := fun k hk => by
          rw [HB6.out.block k (by omega), HB5.out.block k (by omega)]
        refine ⟨.leaf b t df ls w4.heap.size (some ⟨w4.heap.size + 1, 0, none⟩) 1 hk (by show W.heap.size ≤ b; omega) ((hkeep b hbl).trans HX7.out) ?_ (fun a o e => by injection e with e; injection e with e _ _; show W.heap.size ≤ a; omega), ⟨by rw [HLv.out]; rfl, fun j h1 h2 => ?_⟩⟩
        · intro j hj
          have hj0 : j = 0 := by rw [ptrs_len] at hj; simp at hj; omega
          subst hj0
          refine ⟨w4.heap.size + 1, 0, rfl, ?_⟩
          rw [ptrs_at _ 0 _ (by simp), List.getElem_cons_zero]
          exact (row_one HA.out).1
        · have hj0 : j = 0 := by simp at h1; omega
          subst hj0
          have e : ((lvI t).map En)[0] = En t.id := by simp [HLv.out]
          rw [e]
          obtain ⟨hrs, hds, hvs, hen, hlw⟩ := HCk.out
          exact ⟨x, [], ⟨(HB6.out.block _ (by simp)).trans HG.out, ⟨HAt.out.r.lw hlw.r hlow, HAt.out.d.lw hlw.d hlow, HAt.out.v.lw hlw.v hlow⟩, hrs, hds, hvs, hen, hlw, by simp; omega⟩⟩)
      clear hb4 hat HC m0 m1 m2 m3 m4 h5s h7s st7
      go_wp2
      rw [HW7.out, HW5.out, HW6.out]
      go_ret
      exact ⟨b, [w4.heap.size], rfl, HFin.out.1, by simp, fun g hg => by rw [List.mem_singleton] at hg; rw [hg]; exact hb4s, HFin.out.2, HB9.out⟩
end Go.Proofs.YtbicfjimlpdnkaaGreatDoor

namespace Go.Proofs.YtbicfjimlpdnkaaGreatDoor
open Go.RowKit
theorem ownB_type {w : World} {B e sz n k e2 : Nat} {v : Value} {xs : List Value} {cs : Array Value} {z : Nat × Nat} (hown : w.ownsRow B e sz v n xs) (h : w.heap[k]? = some (.cells cs e2 z)) (hne : e2 ≠ e) : v.ownBlock ≠ some k := fun e3 => by
  rcases hown.2 with ⟨rfl, _⟩ | ⟨g9, cap, cur, rfl, _, hg9, _⟩
  · simp [Value.ownBlock] at e3
  · simp [Value.ownBlock] at e3
    subst e3
    rw [hg9] at h
    injection h with h
    injection h with _ h _
    exact hne h.symm
theorem ownB_ne {w : World} {B e sz n B2 e2 sz2 n2 : Nat} {v v2 : Value} {xs xs2 : List Value} (h1 : w.ownsRow B e sz v n xs) (h2 : w.ownsRow B2 e2 sz2 v2 n2 xs2) (hne : e2 ≠ e) : ∀ k, v2.ownBlock = some k → v.ownBlock ≠ some k := fun k hk => by
  rcases h2.2 with ⟨rfl, _⟩ | ⟨g9, cap, cur, rfl, _, hg9, _⟩
  · simp [Value.ownBlock] at hk
  · simp [Value.ownBlock] at hk
    subst hk
    exact ownB_type h1 hg9 hne
theorem ownB_same {w w' : World} {B e sz n : Nat} {v : Value} {xs : List Value} (h : w.ownsRow B e sz v n xs) (hs : ∀ k, v.ownBlock = some k → w'.heap[k]? = w.heap[k]?) : w'.ownsRow B e sz v n xs := by
  refine ⟨h.1, ?_⟩
  rcases h.2 with hn | ⟨g, cap, cur, rfl, hbg, hg, rest⟩
  · exact .inl hn
  · exact .inr ⟨g, cap, cur, rfl, hbg, (hs g (by simp [Value.ownBlock])).trans hg, rest⟩
structure BoS (b df ls N : Nat) (t : Tr) (En : Int → List Ent) (w : World) (lf lr : Value) (FBs : List Nat) (FGs : List (List Nat)) (FR GR : List Nat) : Prop where
  rowF : w.ownsRow (b + 1) 88 1 lf FR.length (ptrs FR)
  rowR : w.ownsRow (b + 1) 113 1 lr GR.length (ptrs GR)
  len : FBs.length = FGs.length
  le : FBs.length ≤ t.sub.length
  each : ∀ j (h1 : j < FBs.length) (h2 : j < FGs.length) (h3 : j < t.sub.length), BrI w (fun k => b < k ∧ lf.ownBlock ≠ some k ∧ lr.ownBlock ≠ some k) FBs[j] t.sub[j] df ls FGs[j] ∧ RdAll w N FGs[j] ((lvI t.sub[j]).map En)
  nod : FGs.flatten.Nodup
  lt : ∀ g ∈ FGs.flatten, b < g ∧ g < w.heap.size
  nb : N ≤ b
theorem RdAll.typ {w : World} {N : Nat} {G : List Nat} {R : List (List Ent)} (h : RdAll w N G R) : ∀ g ∈ G, ∃ cs z, w.heap[g]? = some (.cells cs 115 z) := fun g hg => by
  obtain ⟨rem, c, done, h2⟩ := h.mem g hg
  exact ⟨_, _, h2.cell⟩
theorem BoS.all {b df ls N : Nat} {t : Tr} {En : Int → List Ent} {w : World} {lf lr : Value} {FBs : List Nat} {FGs : List (List Nat)} {FR GR : List Nat} (h : BoS b df ls N t En w lf lr FBs FGs FR GR) : ∀ g ∈ FGs.flatten, ∃ cs z, w.heap[g]? = some (.cells cs 115 z) := fun g hg => by
  obtain ⟨G, hG, hg⟩ := List.mem_flatten.1 hg
  obtain ⟨j, hj, rfl⟩ := List.getElem_of_mem hG
  exact ((h.each j (by rw [h.len]; exact hj) hj (by have := h.len; have := h.le; omega)).2).typ g hg
theorem BoS.start {b df ls N : Nat} {t : Tr} {En : Int → List Ent} {w : World} (hN : N ≤ b) : BoS b df ls N t En w (.slice none 0 0) (.slice none 0 0) [] [] [] [] :=
  ⟨World.ownsRow_nil _ _ _ _, World.ownsRow_nil _ _ _ _, rfl, Nat.zero_le _, fun j h => absurd h (by simp), by simp, fun g hg => by simp at hg, hN⟩
theorem BoS.call {b df ls N : Nat} {t : Tr} {En : Int → List Ent} {w w' : World} {lf lr : Value} {FBs : List Nat} {FGs : List (List Nat)} {FR GR : List Nat} (h : BoS b df ls N t En w lf lr FBs FGs FR GR) (hbw : b < w.heap.size) (hb : Below w.heap.size w w') (bn : Nat) (Gn : List Nat) (hi : FBs.length < t.sub.length) (hbr : BrI w' (fun k => w.heap.size ≤ k) bn t.sub[FBs.length] df ls Gn) (hnd : Gn.Nodup) (hg : ∀ g ∈ Gn, w.heap.size ≤ g) (hr : RdAll w' N Gn ((lvI t.sub[FBs.length]).map En)) : BoS b df ls N t En w' lf lr (FBs ++ [bn]) (FGs ++ [Gn]) FR GR := by
  have hF : ∀ k, lf.ownBlock = some k → b + 1 ≤ k ∧ k < w.heap.size := fun k hk => h.rowF.lt k hk
  have hR : ∀ k, lr.ownBlock = some k → b + 1 ≤ k ∧ k < w.heap.size := fun k hk => h.rowR.lt k hk
  refine ⟨ownB_same h.rowF (fun k hk => hb.block k (hF k hk).2), ownB_same h.rowR (fun k hk => hb.block k (hR k hk).2), by simp [h.len], by simp; omega, fun j h1 h2 h3 => ?_, ?_, fun g hm => ?_, h.nb⟩
  · by_cases hj : j < FBs.length
    · have hj2 : j < FGs.length := by rw [← h.len]; exact hj
      rw [List.getElem_append_left hj, List.getElem_append_left hj2]
      exact ⟨(h.each j hj hj2 h3).1.kept hb, (h.each j hj hj2 h3).2.below hb⟩
    · have e : j = FBs.length := by simp at h1; omega
      subst e
      have e2 : (FGs ++ [Gn])[FBs.length]'h2 = Gn := by rw [List.getElem_append_right (by rw [h.len]; exact Nat.le_refl _)]; simp
      have e1 : (FBs ++ [bn])[FBs.length]'h1 = bn := by rw [List.getElem_append_right (Nat.le_refl _)]; simp
      rw [e1, e2]
      exact ⟨hbr.stay (fun k hk _ => ⟨by omega, fun e => by have := (hF k e).2; omega, fun e => by have := (hR k e).2; omega⟩) (fun _ _ _ => rfl), hr⟩
  · rw [List.flatten_append, List.nodup_append]
    refine ⟨h.nod, by simpa using hnd, fun x hx y hy => ?_⟩
    have := (h.lt x hx).2
    have := hg y (by simpa using hy)
    omega
  · rw [List.flatten_append, List.mem_append] at hm
    rcases hm with hm | hm
    · have := h.lt g hm; have := hb.size; omega
    · have hm' : g ∈ Gn := by simpa using hm
      have := hg g hm'
      have := (hr.lt g hm').2
      omega
theorem BoS.turnF {b df ls N : Nat} {t : Tr} {En : Int → List Ent} {w w' : World} {lf lr lf' : Value} {FBs : List Nat} {FGs : List (List Nat)} {FR GR FR' : List Nat} (h : BoS b df ls N t En w lf lr FBs FGs FR GR) (hsz : w.heap.size ≤ w'.heap.size) (hk : ∀ k, k < w.heap.size → k ≠ b → lf.ownBlock ≠ some k → w'.heap[k]? = w.heap[k]?) (hw : lf'.ownBlock = lf.ownBlock ∨ ∃ k, lf'.ownBlock = some k ∧ w.heap.size ≤ k) (hrow : w'.ownsRow (b + 1) 88 1 lf' FR'.length (ptrs FR')) : BoS b df ls N t En w' lf' lr FBs FGs FR' GR := by
  have hF : ∀ k, lf.ownBlock = some k → b + 1 ≤ k ∧ k < w.heap.size := fun k hk => h.rowF.lt k hk
  have hR : ∀ k, lr.ownBlock = some k → b + 1 ≤ k ∧ k < w.heap.size := fun k hk => h.rowR.lt k hk
  refine ⟨hrow, ownB_same h.rowR (fun k hk2 => hk k (hR k hk2).2 (by have := (hR k hk2).1; omega) (ownB_ne h.rowF h.rowR (by decide) k hk2)), h.len, h.le, fun j h1 h2 h3 => ⟨(h.each j h1 h2 h3).1.stay (fun k hP hl => ⟨hP.1, ?_, hP.2.2⟩) (fun k hP hl => hk k hl (by have := hP.1; omega) hP.2.1), ⟨(h.each j h1 h2 h3).2.1, fun i h4 h5 => ((h.each j h1 h2 h3).2.2 i h4 h5).keep ?_ (fun a ha => hk a ?_ (by have := h.nb; omega) (fun e => by have := (hF a e).1; have := h.nb; omega))⟩⟩, h.nod, fun g hm => by have := h.lt g hm; omega, h.nb⟩
  · rcases hw with e | ⟨k', e, hge⟩
    · rw [e]; exact hP.2.1
    · rw [e]; simp; omega
  · have hm : FGs[j][i] ∈ FGs.flatten := List.mem_flatten.2 ⟨_, List.getElem_mem h2, List.getElem_mem h4⟩
    obtain ⟨cs, z, hc⟩ := h.all _ hm
    exact hk _ (h.lt _ hm).2 (by have := (h.lt _ hm).1; omega) (ownB_type h.rowF hc (by decide))
  · have hm : FGs[j][i] ∈ FGs.flatten := List.mem_flatten.2 ⟨_, List.getElem_mem h2, List.getElem_mem h4⟩
    have := h.lt _ hm
    have := h.nb
    omega
theorem BoS.turnR {b df ls N : Nat} {t : Tr} {En : Int → List Ent} {w w' : World} {lf lr lr' : Value} {FBs : List Nat} {FGs : List (List Nat)} {FR GR GR' : List Nat} (h : BoS b df ls N t En w lf lr FBs FGs FR GR) (hsz : w.heap.size ≤ w'.heap.size) (hk : ∀ k, k < w.heap.size → k ≠ b → lr.ownBlock ≠ some k → w'.heap[k]? = w.heap[k]?) (hw : lr'.ownBlock = lr.ownBlock ∨ ∃ k, lr'.ownBlock = some k ∧ w.heap.size ≤ k) (hrow : w'.ownsRow (b + 1) 113 1 lr' GR'.length (ptrs GR')) : BoS b df ls N t En w' lf lr' FBs FGs FR GR' := by
  have hF : ∀ k, lf.ownBlock = some k → b + 1 ≤ k ∧ k < w.heap.size := fun k hk => h.rowF.lt k hk
  have hR : ∀ k, lr.ownBlock = some k → b + 1 ≤ k ∧ k < w.heap.size := fun k hk => h.rowR.lt k hk
  refine ⟨ownB_same h.rowF (fun k hk2 => hk k (hF k hk2).2 (by have := (hF k hk2).1; omega) (ownB_ne h.rowR h.rowF (by decide) k hk2)), hrow, h.len, h.le, fun j h1 h2 h3 => ⟨(h.each j h1 h2 h3).1.stay (fun k hP hl => ⟨hP.1, hP.2.1, ?_⟩) (fun k hP hl => hk k hl (by have := hP.1; omega) hP.2.2), ⟨(h.each j h1 h2 h3).2.1, fun i h4 h5 => ((h.each j h1 h2 h3).2.2 i h4 h5).keep ?_ (fun a ha => hk a ?_ (by have := h.nb; omega) (fun e => by have := (hR a e).1; have := h.nb; omega))⟩⟩, h.nod, fun g hm => by have := h.lt g hm; omega, h.nb⟩
  · rcases hw with e | ⟨k', e, hge⟩
    · rw [e]; exact hP.2.2
    · rw [e]; simp; omega
  · have hm : FGs[j][i] ∈ FGs.flatten := List.mem_flatten.2 ⟨_, List.getElem_mem h2, List.getElem_mem h4⟩
    obtain ⟨cs, z, hc⟩ := h.all _ hm
    exact hk _ (h.lt _ hm).2 (by have := (h.lt _ hm).1; omega) (ownB_type h.rowR hc (by decide))
  · have hm : FGs[j][i] ∈ FGs.flatten := List.mem_flatten.2 ⟨_, List.getElem_mem h2, List.getElem_mem h4⟩
    have := h.lt _ hm
    have := h.nb
    omega
end Go.Proofs.YtbicfjimlpdnkaaGreatDoor
