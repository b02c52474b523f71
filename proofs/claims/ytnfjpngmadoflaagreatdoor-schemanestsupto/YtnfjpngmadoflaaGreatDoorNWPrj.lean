/-
  The walk of SchemaProjects.
-/
import Derived.Test.YtnfjpngmadoflaaGreatDoorNPjP
import Derived.Test.YtnfjpngmadoflaaGreatDoorNBProF
import Derived.Test.YtnfjpngmadoflaaGreatDoorNBSFlI
import Derived.Test.YtnfjpngmadoflaaGreatDoorNBSRight
namespace Go.Proofs.YtnfjpngmadoflaaGreatDoor
open Go.RowKit
theorem rk_sm (L : List Int) : ∀ (n : Nat) (t : Tr), SizeOf.sizeOf t < n → t.Sm → (rkT L t).Sm
  | 0, t, h => absurd h (Nat.not_lt_zero _)
  | n + 1, .node id nm rep kind sub, hsz => fun hs => by
    have hall : ∀ (ts : List Tr), (∀ c ∈ ts, c ∈ sub) → ∀ u ∈ rkL L ts, u.Sm := fun ts => by
      induction ts with
      | nil => intro _ u hu; simp [rkL] at hu
      | cons c cs ih =>
        intro hcs u hu
        have hc : c ∈ (Tr.node id nm rep kind sub).sub := hcs c (by simp)
        have hcS : c.Sm := by
          obtain ⟨j, hj, rfl⟩ := List.getElem_of_mem hc
          exact hs.at_ j hj
        have hlt : SizeOf.sizeOf c < n := by have := sub_lt hc; omega
        rw [rkL] at hu
        split at hu
        · rcases List.mem_cons.1 hu with rfl | hu
          · exact rk_sm L n c hlt hcS
          · exact ih (fun c' h => hcs c' (by simp [h])) u hu
        · exact ih (fun c' h => hcs c' (by simp [h])) u hu
    rw [rkT]
    refine .mk id nm rep kind _ hs.id_ hs.nm (Nat.le_trans (rkL_len L sub) hs.len) (fun j hj => hall sub (fun c h => h) _ (List.getElem_mem hj))
theorem rk_empty {L : List Int} {t : Tr} (hk : t.kind = 0) : (∀ i ∈ L, ∃ l ∈ ndT t, l.kind ≠ 0 ∧ l.id = i) → (rkL L t.sub = [] ↔ L = []) := fun hL => by
  have hmem : ∀ (ts : List Tr), rkL L ts = [] ↔ ∀ c ∈ ts, (lfI (ndT c)).any (fun i => L.contains i) = false := fun ts => by
    induction ts with
    | nil => simp [rkL]
    | cons c cs ih =>
      rw [rkL]
      cases h : (lfI (ndT c)).any (fun i => L.contains i) with
      | true =>
        rw [if_pos rfl]
        constructor
        · intro h1
          cases h1
        · intro h1
          have h2 := h1 c (by simp)
          rw [h] at h2
          cases h2
      | false =>
        rw [if_neg (by simp), ih]
        constructor
        · intro h1 c' hc'
          rcases List.mem_cons.1 hc' with rfl | h2
          · exact h
          · exact h1 c' h2
        · intro h1 c' hc'
          exact h1 c' (List.mem_cons_of_mem _ hc')
  rw [hmem]
  constructor
  · intro h
    cases L with
    | nil => rfl
    | cons i L' =>
      exfalso
      obtain ⟨l, hl, hlk, hli⟩ := hL i (by simp)
      rw [ndT_eq] at hl
      rcases List.mem_cons.1 hl with rfl | hl
      · exact hlk hk
      · obtain ⟨c, hc, hlc⟩ := (ndL_mem _ _).1 hl
        have h2 := h c hc
        rw [List.any_eq_false] at h2
        have h3 := h2 i (lfI_mem.2 ⟨l, hlc, hlk, hli⟩)
        simp at h3
  · rintro rfl c hc
    simp
set_option maxRecDepth 100000 in
theorem intsL_any (a : Option Addr) (c : Nat) (xs : List Int) (w : World) (hn : xs.length ≤ 20000) (h : Lies w a (i64s xs)) :
    Calls Tryz.prog 8 #[.slice a xs.length c] w fun e w' => (∃ a' c', e = .returned (.slice a' xs.length c') ∧ Lies w' a' (i64s xs)) ∧ Below w.heap.size w w' := by
  obtain ⟨iv, hvi, hv0, hv1, hv2⟩ := info_parts Tryz.infoI
  have HL : Hid (Lies w a (i64s xs)) := h
  clear h
  go_enter Tryz.func8, Tryz.ntmps8
  go_wp2_with (at_builtin; (refine wpList_append_any _ rfl _ _ 25 rfl w.heap.size 3 iv (.int .i64 0) 1 8 Tryz.underlying25 hvi hv0 hv1 hv2 rfl (by decide) (.slice none 0 0) 0 [] rfl (World.ownsRow_nil _ _ _ _) a _ c (i64s xs) rfl (by rw [i64s_len, Nat.mul_one]) (news_i HL.out) (one_i _) (by unfold maxLen; omega) (by omega) (Nat.le_refl _) ?_); intro l2 w4 hown4 hgr4 _; obtain ⟨a9, c9, e9, hl9⟩ := lies_own hown4; rw [List.nil_append, i64s_len] at e9; subst e9)
  have HE : Hid (Lies w4 a9 (i64s xs)) := (by show Lies _ _ _; rw [List.nil_append] at hl9; exact hl9)
  have HB : Hid (Below w.heap.size w w4) := (Below.refl _ _).grown hgr4 (Nat.le_refl _) (fun k hk => by simp [Value.ownBlock] at hk)
  clear hown4 hgr4 hl9
  go_wp2
  go_ret
  exact ⟨⟨a9, c9, rfl, HE.out⟩, HB.out⟩
set_option maxRecDepth 100000 in
set_option maxHeartbeats 3200000 in
theorem project_err (t : Tr) (n : Nat) (hd : t.Dp n) (hn : n ≤ 1100000) (hs : t.Sm) (ia : Option Addr) (il ic : Nat) (a : Option Addr) (c : Nat) (P : Nat → Prop) (W : World) (hl : LiesN W P a t.sub) (hcap : t.sub.length ≤ c) (eb es en : TypeId × Value) (he : Er3 W eb es en) (ty : TypeId) (v : Value) (hx : vldV (.iface eb.1 eb.2) (.iface es.1 es.2) (.iface en.1 en.2) t = .iface ty v) :
    Calls Tryz.prog 6 #[nodeV t a c, .slice ia il ic] W fun e w' => e = .returned (.tuple #[.agg #[.int .i64 0, .string ⟨#[]⟩, .int .i64 0, .int .i64 0, .slice none 0 0], .iface ty v]) ∧ Below W.heap.size W w' := by
  obtain ⟨w0, HW0, HX, HZ, HB⟩ := two_boxesS W #[.int .i64 t.id, .string t.nm, .int .i64 t.rep, .int .i64 t.kind, .slice a t.sub.length c] #[.int .i64 0, .string ⟨#[]⟩, .int .i64 0, .int .i64 0, .slice none 0 0] 24 24
  have he0 := he.keep HB.out
  have HV := valid_any t n hd hn hs a c P w0 (hl.keep HB.out) hcap eb es en he0.b he0.s he0.n
  rw [hx] at HV
  have HV : Hid _ := HV
  obtain ⟨⟨p0, p1, p2, p3, p4⟩, _⟩ := row_five HX.out
  clear hl hd hs he he0 hx
  unfold nodeV
  go_enter Tryz.func6, Tryz.ntmps6
  go_upto_region 1 with fail
  rw [HW0.out]
  go_wp2_with fail
  refine Calls.mono HV.out ?_
  rintro e w1 ⟨rfl, hb1⟩
  have HB1 : Hid (Below W.heap.size W w1) := HB.out.trans (hb1.mono HB.out.size)
  have HZ1 : Hid (w1.heap[W.heap.size + 1]? = some (.cells #[.int .i64 0, .string ⟨#[]⟩, .int .i64 0, .int .i64 0, .slice none 0 0] 24 (0, 0))) := blk_keep hb1 HZ.out
  clear hb1 HV p0 p1 p2 p3 p4
  obtain ⟨⟨z0, z1, z2, z3, z4⟩, f0, f1, f2, f3, f4⟩ := row_five HZ1.out
  have HRw : Hid _ := row_setC (j := 4) (v := .slice none 0 0) (row_setC (j := 3) (v := .int .i64 0) (row_setC (j := 2) (v := .int .i64 0) (row_setC (j := 1) (v := .string ⟨#[]⟩) (row_setC (j := 0) (v := .int .i64 0) HZ1.out))))
  go_wp2
  exact bodyPost_ret (v := .tuple #[.agg #[.int .i64 0, .string ⟨#[]⟩, .int .i64 0, .int .i64 0, .slice none 0 0], .iface ty v]) (results_cS Tryz.results6 _ _ (W.heap.size + 1) 24 #[.int .i64 0, .string ⟨#[]⟩, .int .i64 0, .int .i64 0, .slice none 0 0] (0, 0) _ (.iface ty v) rfl rfl HRw.out Tryz.underlying24 rfl (by kernel_rfl)) rfl ⟨rfl, ((((HB1.out.setCell (by simp) _).setCell (by simp) _).setCell (by simp) _).setCell (by simp) _).setCell (by simp) _⟩
/-- What both answer of a right schema: the same. -/
theorem both_right {t : Tr} (hv : vldN t = 0) (ids : List Int) : kpL (fun i => (stayI ids t).contains i) t.sub = rkL (askL ids t) t.sub ∧ (rkL (askL ids t) t.sub = [] ↔ askL ids t = []) := by
  obtain ⟨r1, r2, r3, r4, r5⟩ := right_parts hv
  have hk0 : t.kind = 0 := (of_decide_eq_true r2).2.2.2
  have hu := right_idU r2 r5
  have hlf := right_hasLf r3
  have h := kp_rk (q := ids) hu hlf (SizeOf.sizeOf t + 1) t (Nat.lt_succ_self _) (fun x h => h)
  have h1 := (kpT_id (fun i => (stayI ids t).contains i) t).2.2.2.2
  have h2 := (rkT_id (askL ids t) t).2.2.2.2
  refine ⟨by rw [← h1, h, h2], rk_empty hk0 fun i hi => ?_⟩
  obtain ⟨z, hz, _, l, hl, hlk, hli⟩ := (askL_mem hu).1 hi
  exact ⟨l, nd_trans _ t (Nat.lt_succ_self _) z hz l hl, hlk, hli⟩
end Go.Proofs.YtnfjpngmadoflaaGreatDoor
