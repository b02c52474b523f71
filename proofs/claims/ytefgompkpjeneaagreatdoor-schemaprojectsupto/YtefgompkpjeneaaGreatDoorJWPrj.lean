/-
  The walk of SchemaProjects.
-/
import Derived.Test.YtefgompkpjeneaaGreatDoorJPjP
import Derived.Test.YtefgompkpjeneaaGreatDoorJProF
import Derived.Test.YtefgompkpjeneaaGreatDoorJSErr2
import Derived.Test.YtefgompkpjeneaaGreatDoorJBSRight
namespace Go.Proofs.YtefgompkpjeneaaGreatDoor
open Go.RowKit
theorem rk_sm (L : List Int) : ∀ (n : Nat) (t : Tr), SizeOf.sizeOf t < n → t.Sm → (rkT L t).Sm
  | 0, t, h => absurd h (Nat.not_lt_zero _)
  | n + 1, .node id nm rep kind sub, hsz => fun hs => by
    have hall : ∀ (ts : List Tr), (∀ c ∈ ts, c ∈ sub) → ∀ u ∈ rkL L ts, u.Sm := fun ts => by
      induction ts with
      | nil => intro _ u hu; simp [rkL] at hu
      | cons c cs ih =>
        intro hcs u hu
        have hc : c ∈ (Tr.node id nm rep kind sub).sub := hcs c (by simp)
        have hcS : c.Sm := by
          obtain ⟨j, hj, rfl⟩ := List.getElem_of_mem hc
          exact hs.at_ j hj
        have hlt : SizeOf.sizeOf c < n := by have := sub_lt hc; omega
        rw [rkL] at hu
        split at hu
        · rcases List.mem_cons.1 hu with rfl | hu
          · exact rk_sm L n c hlt hcS
          · exact ih (fun c' h => hcs c' (by simp [h])) u hu
        · exact ih (fun c' h => hcs c' (by simp [h])) u hu
    rw [rkT]
    refine .mk id nm rep kind _ hs.id_ hs.nm (Nat.le_trans (rkL_len L sub) hs.len) (fun j hj => hall sub (fun c h => h) _ (List.getElem_mem hj))
theorem rk_empty {L : List Int} {t : Tr} (hk : t.kind = 0) : (∀ i ∈ L, ∃ l ∈ ndT t, l.kind ≠ 0 ∧ l.id = i) → (rkL L t.sub = [] ↔ L = []) := fun hL => by
  have hmem : ∀ (ts : List Tr), rkL L ts = [] ↔ ∀ c ∈ ts, (lfI (ndT c)).any (fun i => L.contains i) = false := fun ts => by
    induction ts with
    | nil => simp [rkL]
    | cons c cs ih =>
      rw [rkL]
      cases h : (lfI (ndT c)).any (fun i => L.contains i) with
      | true =>
        rw [if_pos rfl]
        constructor
        · intro h1
          cases h1
        · intro h1
          have h2 := h1 c (by simp)
          rw [h] at h2
          cases h2
      | false =>
        rw [if_neg (by simp), ih]
        constructor
        · intro h1 c' hc'
          rcases List.mem_cons.1 hc' with rfl | h2
          · exact h
          · exact h1 c' h2
        · intro h1 c' hc'
          exact h1 c' (List.mem_cons_of_mem _ hc')
  rw [hmem]
  constructor
  · intro h
    cases L with
    | nil => rfl
    | cons i L' =>
      exfalso
      obtain ⟨l, hl, hlk, hli⟩ := hL i (by simp)
      rw [ndT_eq] at hl
      rcases List.mem_cons.1 hl with rfl | hl
      · exact hlk hk
      · obtain ⟨c, hc, hlc⟩ := (ndL_mem _ _).1 hl
        have h2 := h c hc
        rw [List.any_eq_false] at h2
        have h3 := h2 i (lfI_mem.2 ⟨l, hlc, hlk, hli⟩)
        simp at h3
  · rintro rfl c hc
    simp
set_option maxRecDepth 100000 in
theorem intsL_any (a : Option Addr) (c : Nat) (xs : List Int) (w : World) (hn : xs.length ≤ 20000) (h : Lies w a (i64s xs)) :
    Calls Tryz.prog 10 #[.slice a xs.length c] w fun e w' => (∃ a' c', e = .returned (.slice a' xs.length c') ∧ Lies w' a' (i64s xs)) ∧ Below w.heap.size w w' := by
  obtain ⟨iv, hvi, hv0, hv1, hv2⟩ := info_parts Tryz.infoI
  have HL : Hid (Lies w a (i64s xs)) := h
  clear h
  go_enter Tryz.func10, Tryz.ntmps10
  go_wp2_with (at_builtin; (refine wpList_append_any _ rfl _ _ 25 rfl w.heap.size 3 iv (.int .i64 0) 1 8 Tryz.underlying25 hvi hv0 hv1 hv2 rfl (by decide) (.slice none 0 0) 0 [] rfl (World.ownsRow_nil _ _ _ _) a _ c (i64s xs) rfl (by rw [i64s_len, Nat.mul_one]) (news_i HL.out) (one_i _) (by unfold maxLen; omega) (by omega) (Nat.le_refl _) ?_); intro l2 w4 hown4 hgr4 _; obtain ⟨a9, c9, e9, hl9⟩ := lies_own hown4; rw [List.nil_append, i64s_len] at e9; subst e9)
  have HE : Hid (Lies w4 a9 (i64s xs)) := (by show Lies _ _ _; rw [List.nil_append] at hl9; exact hl9)
  have HB : Hid (Below w.heap.size w w4) := (Below.refl _ _).grown hgr4 (Nat.le_refl _) (fun k hk => by simp [Value.ownBlock] at hk)
  clear hown4 hgr4 hl9
  go_wp2
  go_ret
  exact ⟨⟨a9, c9, rfl, HE.out⟩, HB.out⟩
set_option maxRecDepth 100000 in
set_option maxHeartbeats 3200000 in
theorem project_err (t : Tr) (n : Nat) (hd : t.Dp n) (hn : n ≤ 1100000) (hs : t.Sm) (ia : Option Addr) (il ic : Nat) (a : Option Addr) (c : Nat) (P : Nat → Prop) (W : World) (hl : LiesN W P a t.sub) (hcap : t.sub.length ≤ c) (eb es en : TypeId × Value) (he : Er3 W eb es en) (ty : TypeId) (v : Value) (hx : vldV (.iface eb.1 eb.2) (.iface es.1 es.2) (.iface en.1 en.2) t = .iface ty v) :
    Calls Tryz.prog 8 #[nodeV t a c, .slice ia il ic] W fun e w' => e = .returned (.tuple #[.agg #[.int .i64 0, .string ⟨#[]⟩, .int .i64 0, .int .i64 0, .slice none 0 0], .iface ty v]) ∧ Below W.heap.size W w' := by
  obtain ⟨w0, HW0, HX, HZ, HB⟩ := two_boxesS W #[.int .i64 t.id, .string t.nm, .int .i64 t.rep, .int .i64 t.kind, .slice a t.sub.length c] #[.int .i64 0, .string ⟨#[]⟩, .int .i64 0, .int .i64 0, .slice none 0 0] 24 24
  have he0 := he.keep HB.out
  have HV := valid_any t n hd hn hs a c P w0 (hl.keep HB.out) hcap eb es en he0.b he0.s he0.n
  rw [hx] at HV
  have HV : Hid _ := HV
  obtain ⟨⟨p0, p1, p2, p3, p4⟩, _⟩ := row_five HX.out
  clear hl hd hs he he0 hx
  unfold nodeV
  go_enter Tryz.func8, Tryz.ntmps8
  go_upto_region 1 with fail
  rw [HW0.out]
  go_wp2_with fail
  refine Calls.mono HV.out ?_
  rintro e w1 ⟨rfl, hb1⟩
  have HB1 : Hid (Below W.heap.size W w1) := HB.out.trans (hb1.mono HB.out.size)
  have HZ1 : Hid (w1.heap[W.heap.size + 1]? = some (.cells #[.int .i64 0, .string ⟨#[]⟩, .int .i64 0, .int .i64 0, .slice none 0 0] 24 (0, 0))) := blk_keep hb1 HZ.out
  clear hb1 HV p0 p1 p2 p3 p4
  obtain ⟨⟨z0, z1, z2, z3, z4⟩, f0, f1, f2, f3, f4⟩ := row_five HZ1.out
  have HRw : Hid _ := row_setC (j := 4) (v := .slice none 0 0) (row_setC (j := 3) (v := .int .i64 0) (row_setC (j := 2) (v := .int .i64 0) (row_setC (j := 1) (v := .string ⟨#[]⟩) (row_setC (j := 0) (v := .int .i64 0) HZ1.out))))
  go_wp2
  exact bodyPost_ret (v := .tuple #[.agg #[.int .i64 0, .string ⟨#[]⟩, .int .i64 0, .int .i64 0, .slice none 0 0], .iface ty v]) (results_cS Tryz.results8 _ _ (W.heap.size + 1) 24 #[.int .i64 0, .string ⟨#[]⟩, .int .i64 0, .int .i64 0, .slice none 0 0] (0, 0) _ (.iface ty v) rfl rfl HRw.out Tryz.underlying24 rfl (by kernel_rfl)) rfl ⟨rfl, ((((HB1.out.setCell (by simp) _).setCell (by simp) _).setCell (by simp) _).setCell (by simp) _).setCell (by simp) _⟩
/-- What both answer of a right schema: the same. -/
theorem both_right {t : Tr} (hv : vldN t = 0) (ids : List Int) : kpL (fun i => (stayI ids t).contains i) t.sub = rkL (askL ids t) t.sub ∧ (rkL (askL ids t) t.sub = [] ↔ askL ids t = []) := by
  obtain ⟨r1, r2, r3, r4, r5⟩ := right_parts hv
  have hk0 : t.kind = 0 := (of_decide_eq_true r2).2.2.2
  have hu := right_idU r2 r5
  have hlf := right_hasLf r3
  have h := kp_rk (q := ids) hu hlf (SizeOf.sizeOf t + 1) t (Nat.lt_succ_self _) (fun x h => h)
  have h1 := (kpT_id (fun i => (stayI ids t).contains i) t).2.2.2.2
  have h2 := (rkT_id (askL ids t) t).2.2.2.2
  refine ⟨by rw [← h1, h, h2], rk_empty hk0 fun i hi => ?_⟩
  obtain ⟨z, hz, _, l, hl, hlk, hli⟩ := (askL_mem hu).1 hi
  exact ⟨l, nd_trans _ t (Nat.lt_succ_self _) z hz l hl, hlk, hli⟩
set_option maxRecDepth 100000 in
set_option maxHeartbeats 6400000 in
theorem schemaProjects_walk (t : Tr) (ids : List Int) (ia : Option Addr) (ic : Nat) (_ : ids.length ≤ maxLen) (hix : ∀ x ∈ ids, -9223372036854775808 ≤ x ∧ x ≤ 9223372036854775807) (a : Option Addr) (c : Nat) (P : Nat → Prop) (n : Nat) (hd : t.Dp n) (hn : n ≤ 1100000) (hs : t.Sm) (hcp : t.sub.length ≤ c) (W : World) (hl : LiesN W P a t.sub) (hli : Lies W ia (i64s ids)) (A : Nat → Addr) (hA : Errs W A) (htab : Lib.TabIs Tryz.prog W "internal/strconv.uint64pow10" .u64 Lib.pow10Tab) :
    Calls Tryz.prog 3 #[nodeV t a c, .slice ia ids.length ic] W fun e w' => e = .returned (.bool true) ∧ Below W.heap.size W w' := by
  obtain ⟨w0, HW0, HX, HB⟩ := one_box W #[.int .i64 t.id, .string t.nm, .int .i64 t.rep, .int .i64 t.kind, .slice a t.sub.length c] 24
  have HL : Hid (LiesN W P a t.sub) := hl
  have HLi : Hid (Lies W ia (i64s ids)) := hli
  have HIx : Hid (∀ x ∈ ids, -9223372036854775808 ≤ x ∧ x ≤ 9223372036854775807) := hix
  have HEr : Hid (∀ w, Below W.heap.size W w → Errs w A) := fun w hb => hA.keep hb
  have HTb : Hid (∀ w, Below W.heap.size W w → Lib.TabIs Tryz.prog w "internal/strconv.uint64pow10" .u64 Lib.pow10Tab) := fun w hb => tab_keep htab hb
  have HSm : Hid t.Sm := hs
  have HD : Hid (t.Dp n) := hd
  have HLf : Hid (Calls Tryz.prog 4 #[] w0 fun e w' => e = .returned (.bool true) ∧ Below w0.heap.size w0 w') := leaf_any w0 _ _ _ (HEr.out w0 HB.out).er3 (HTb.out w0 HB.out)
  clear hl hA htab hs hd hli hix
  unfold nodeV
  go_enter Tryz.func3, Tryz.ntmps3
  go_wp2_with fail
  rw [HW0.out]
  refine Calls.mono HLf.out ?_
  rintro e w1 ⟨rfl, hb1⟩
  have HB1 : Hid (Below W.heap.size W w1) := HB.out.trans (hb1.mono HB.out.size)
  have HX1 : Hid (w1.heap[W.heap.size]? = some (.cells #[.int .i64 t.id, .string t.nm, .int .i64 t.rep, .int .i64 t.kind, .slice a t.sub.length c] 24 (0, 0))) := blk_keep hb1 HX.out
  clear hb1 HLf
  obtain ⟨⟨p0, p1, p2, p3, p4⟩, _⟩ := row_five HX1.out
  go_wp2_with fail
  refine Calls.mono (tame_any t HSm.out P a c w1 (HL.out.keep HB1.out)) ?_
  rintro e w2 ⟨rfl, hb2⟩
  have HB2 : Hid (Below W.heap.size W w2) := HB1.out.trans (hb2.mono HB1.out.size)
  have HX2 : Hid (w2.heap[W.heap.size]? = some (.cells #[.int .i64 t.id, .string t.nm, .int .i64 t.rep, .int .i64 t.kind, .slice a t.sub.length c] 24 (0, 0))) := blk_keep hb2 HX1.out
  clear hb2 p0 p1 p2 p3 p4
  obtain ⟨⟨p0, p1, p2, p3, p4⟩, _⟩ := row_five HX2.out
  obtain ⟨tm, HTm⟩ := hid_name (decide ((fl t).length ≤ 200 ∧ nmS (fl t) ≤ 4000))
  rw [HTm.out]
  cases tm with
  | false =>
    go_wp2
    go_ret
    exact ⟨rfl, HB2.out⟩
  | true =>
    by_cases h60 : 60 < ids.length
    · have q6 : decide ((60 : Int) < (ids.length : Int)) = true := by simp; omega
      have q7 : decide (60 < ids.length) = true := by simp; omega
      go_wp2
      go_ret
      exact ⟨rfl, HB2.out⟩
    have q6 : decide ((60 : Int) < (ids.length : Int)) = false := by simp; omega
    have q7 : decide (60 < ids.length) = false := by simp; omega
    go_wp2_with fail
    refine Calls.mono (schemaError_any t HSm.out P a c w2 (HL.out.keep HB2.out)) ?_
    rintro e w3 ⟨rfl, hb3⟩
    obtain ⟨w5, HW5, HY, HB5'⟩ := one_box w3 #[.int .i64 0, .string ⟨#[]⟩, .int .i64 0, .int .i64 0, .slice none 0 0] 24
    have HB3 : Hid (Below W.heap.size W w3) := HB2.out.trans (hb3.mono HB2.out.size)
    have HB5 : Hid (Below W.heap.size W w5) := HB3.out.trans (HB5'.out.mono HB3.out.size)
    have HX5 : Hid (w5.heap[W.heap.size]? = some (.cells #[.int .i64 t.id, .string t.nm, .int .i64 t.rep, .int .i64 t.kind, .slice a t.sub.length c] 24 (0, 0))) := blk_keep HB5'.out (blk_keep hb3 HX2.out)
    have hw3 : W.heap.size < w3.heap.size := lt_of_block (blk_keep hb3 HX2.out)
    clear hb3 p0 p1 p2 p3 p4
    have HOw : Hid (∀ X, Below W.heap.size W X → Calls Tryz.prog 9 #[.agg #[.int .i64 t.id, .string t.nm, .int .i64 t.rep, .int .i64 t.kind, .slice a t.sub.length c]] X fun e w' => (∃ a' c', e = .returned (.agg #[.int .i64 t.id, .string t.nm, .int .i64 t.rep, .int .i64 t.kind, .slice a' t.sub.length c']) ∧ LiesN w' (fun b => X.heap.size ≤ b) a' t.sub ∧ t.sub.length ≤ c') ∧ Below X.heap.size X w') := fun X hX => ownNode_any _ t (Nat.lt_succ_self _) HSm.out P a c X (HL.out.keep hX)
    have HIo : Hid (∀ X, Below W.heap.size W X → Calls Tryz.prog 10 #[.slice ia ids.length ic] X fun e w' => (∃ a' c', e = .returned (.slice a' ids.length c') ∧ Lies w' a' (i64s ids)) ∧ Below X.heap.size X w') := fun X hX => intsL_any ia ic ids X (by omega) (HLi.out.keep hX)
    obtain ⟨⟨p0, p1, p2, p3, p4⟩, _⟩ := row_five HX5.out
    by_cases hv : vldN t = 0
    · obtain ⟨r1, r2, r3, r4, r5⟩ := right_parts hv
      have hdB := dpB t 0 [] r1
      have HSe : Hid (seN t = 0) := right_se hv
      have HBo : Hid _ := both_right hv ids
      have HPo : Hid _ := projectOf_any t 6 hdB.2.2 (by omega) HSm.out (by omega) ids ia ic (by omega) a c P w5 (HL.out.keep HB5.out) hcp (HLi.out.keep HB5.out)
      have HPr : Hid (∀ X a' c' ib ie, Below W.heap.size W X → LiesN X (fun b => W.heap.size ≤ b) a' t.sub → t.sub.length ≤ c' → Lies X ib (i64s ids) → Calls Tryz.prog 8 #[.agg #[.int .i64 t.id, .string t.nm, .int .i64 t.rep, .int .i64 t.kind, .slice a' t.sub.length c'], .slice ib ids.length ie] X fun e w' => PrR t ids (errV (A 5)) (errV (A 2)) X.heap.size e w' ∧ Below X.heap.size X w') := fun X a' c' ib ie hX hl hc hi => project_any t 6 hdB.2.2 (by omega) HSm.out hv (by omega) ids ib ie (by omega) HIx.out a' c' _ X hl hc hi _ (173, .pointer (some (A 2))) _ (173, .pointer (some (A 5))) (HEr.out X hX).er3 ((HEr.out X hX).at_ 5 (by omega)).var
      rw [HSe.out]
      clear hv r1 r2 r3 r4 r5 hdB
      unfold nodeV at HPo
      go_upto_region 7 with fail
      rw [HW5.out]
      go_wp2_with fail
      refine Calls.mono HPo.out ?_
      rintro e w6 ⟨hpo, hb6⟩
      have HB6 : Hid (Below W.heap.size W w6) := HB5.out.trans (hb6.mono HB5.out.size)
      have HX6 : Hid (w6.heap[W.heap.size]? = some (.cells #[.int .i64 t.id, .string t.nm, .int .i64 t.rep, .int .i64 t.kind, .slice a t.sub.length c] 24 (0, 0))) := blk_keep hb6 HX5.out
      have HY6 : Hid (w6.heap[w3.heap.size]? = some (.cells #[.int .i64 0, .string ⟨#[]⟩, .int .i64 0, .int .i64 0, .slice none 0 0] 24 (0, 0))) := blk_keep hb6 HY.out
      clear HPo p0 p1 p2 p3 p4
      rcases hpo with ⟨hno, rfl⟩ | ⟨hall, hemp, rfl⟩ | ⟨hall, hne, a', c', rfl, hl', hc'⟩
      · obtain ⟨w7, HW7⟩ := hid_name (((((w6.setCell ⟨w3.heap.size, 0, none⟩ (.int .i64 0)).setCell ⟨w3.heap.size, 1, none⟩ (.string ⟨#[]⟩)).setCell ⟨w3.heap.size, 2, none⟩ (.int .i64 0)).setCell ⟨w3.heap.size, 3, none⟩ (.int .i64 0)).setCell ⟨w3.heap.size, 4, none⟩ (.slice none 0 0))
        have HB7 : Hid (Below W.heap.size W w7) := (by rw [← HW7.out]; exact set5_below HB6.out HB3.out.size _ _ _ _ _)
        have HX7 : Hid (w7.heap[W.heap.size]? = some (.cells #[.int .i64 t.id, .string t.nm, .int .i64 t.rep, .int .i64 t.kind, .slice a t.sub.length c] 24 (0, 0))) := (by rw [← HW7.out]; exact (set5_off _ _ _ (by omega) _ _ _ _ _).trans HX6.out)
        have HY7 : Hid (w7.heap[w3.heap.size]? = some (.cells #[.int .i64 0, .string ⟨#[]⟩, .int .i64 0, .int .i64 0, .slice none 0 0] 24 (0, 0))) := (by rw [← HW7.out]; exact set5_row HY6.out _ _ _ _ _)
        obtain ⟨⟨z0, z1, z2, z3, z4⟩, f0, f1, f2, f3, f4⟩ := row_five HY6.out
        clear hb6
        go_upto_region 8 with fail
        rw [HW7.out]
        clear z0 z1 z2 z3 z4 f0 f1 f2 f3 f4
        obtain ⟨⟨p0, p1, p2, p3, p4⟩, _⟩ := row_five HX7.out
        go_wp2_with fail
        refine Calls.mono (HOw.out w7 HB7.out) ?_
        rintro e w8 ⟨⟨a8, c8, rfl, hl8, hc8⟩, hb8⟩
        have HB8 : Hid (Below W.heap.size W w8) := HB7.out.trans (hb8.mono HB7.out.size)
        clear p0 p1 p2 p3 p4
        go_wp2_with fail
        refine Calls.mono (HIo.out w8 HB8.out) ?_
        rintro e w9 ⟨⟨ib, ie, rfl, hli9⟩, hb9⟩
        have HB9 : Hid (Below W.heap.size W w9) := HB8.out.trans (hb9.mono HB8.out.size)
        have hb79 : Below w7.heap.size w7 w9 := hb8.trans (hb9.mono hb8.size)
        have HC9 : Hid _ := HPr.out w9 a8 c8 ib ie HB9.out ((hl8.stay (W' := w8) (fun b h _ => Nat.le_trans HB7.out.size h) (fun _ _ _ => rfl)).keep hb9) hc8 hli9
        clear hl8 hli9
        go_wp2_with fail
        refine Calls.mono HC9.out ?_
        rintro e w10 ⟨hpr, hb10⟩
        have hb710 : Below w7.heap.size w7 w10 := hb79.trans (hb10.mono hb79.size)
        have HB10 : Hid (Below W.heap.size W w10) := HB7.out.trans (hb710.mono HB7.out.size)
        have HY10 : Hid (w10.heap[w3.heap.size]? = some (.cells #[.int .i64 0, .string ⟨#[]⟩, .int .i64 0, .int .i64 0, .slice none 0 0] 24 (0, 0))) := blk_keep hb710 HY7.out
        clear HC9 hb8 hb9
        obtain rfl : e = .returned (.tuple #[.agg #[.int .i64 0, .string ⟨#[]⟩, .int .i64 0, .int .i64 0, .slice none 0 0], errV (A 5)]) := (by
          rcases hpr with ⟨_, h⟩ | ⟨h, _⟩ | ⟨h, _⟩
          · exact h
          · obtain ⟨i, h1, h2⟩ := hno
            exact absurd (h i h1) h2
          · obtain ⟨i, h1, h2⟩ := hno
            exact absurd (h i h1) h2)
        clear hpr
        obtain ⟨w11, HW11, HN11, HB11'⟩ := one_box w10 #[.int .i64 0, .string ⟨#[]⟩, .int .i64 0, .int .i64 0, .slice none 0 0] 24
        have HB11 : Hid (Below W.heap.size W w11) := HB10.out.trans (HB11'.out.mono HB10.out.size)
        have HY11 : Hid (w11.heap[w3.heap.size]? = some (.cells #[.int .i64 0, .string ⟨#[]⟩, .int .i64 0, .int .i64 0, .slice none 0 0] 24 (0, 0))) := blk_keep HB11'.out HY10.out
        have HIs : Hid (Calls Tryz.prog 11 #[.agg #[.int .i64 0, .string ⟨#[]⟩, .int .i64 0, .int .i64 0, .slice none 0 0], errV (A 5), .agg #[.int .i64 0, .string ⟨#[]⟩, .int .i64 0, .int .i64 0, .slice none 0 0], .int .i64 (6)] w11 fun e w' => e = .returned (.bool true) ∧ Below w11.heap.size w11 w') := isNode_err A 5 (by omega) 0 0 0 ⟨#[]⟩ none 0 0 w11 (HEr.out w11 HB11.out)
        obtain ⟨⟨p0, p1, p2, p3, p4⟩, _⟩ := row_five HN11.out
        obtain ⟨⟨q0, q1, q2, q3, q4⟩, _⟩ := row_five HY11.out
        clear hb79 hb10 hb710
        go_upto_region 9 with fail
        rw [HW11.out]
        go_wp2_with fail
        refine Calls.mono HIs.out ?_
        rintro e w12 ⟨rfl, hb12⟩
        have HB12 : Hid (Below W.heap.size W w12) := HB11.out.trans (hb12.mono HB11.out.size)
        clear hb12
        go_wp2
        go_ret
        exact ⟨rfl, HB12.out⟩
      · obtain ⟨w7, HW7⟩ := hid_name (((((w6.setCell ⟨w3.heap.size, 0, none⟩ (.int .i64 0)).setCell ⟨w3.heap.size, 1, none⟩ (.string ⟨#[]⟩)).setCell ⟨w3.heap.size, 2, none⟩ (.int .i64 0)).setCell ⟨w3.heap.size, 3, none⟩ (.int .i64 0)).setCell ⟨w3.heap.size, 4, none⟩ (.slice none 0 0))
        have HB7 : Hid (Below W.heap.size W w7) := (by rw [← HW7.out]; exact set5_below HB6.out HB3.out.size _ _ _ _ _)
        have HX7 : Hid (w7.heap[W.heap.size]? = some (.cells #[.int .i64 t.id, .string t.nm, .int .i64 t.rep, .int .i64 t.kind, .slice a t.sub.length c] 24 (0, 0))) := (by rw [← HW7.out]; exact (set5_off _ _ _ (by omega) _ _ _ _ _).trans HX6.out)
        have HY7 : Hid (w7.heap[w3.heap.size]? = some (.cells #[.int .i64 0, .string ⟨#[]⟩, .int .i64 0, .int .i64 0, .slice none 0 0] 24 (0, 0))) := (by rw [← HW7.out]; exact set5_row HY6.out _ _ _ _ _)
        obtain ⟨⟨z0, z1, z2, z3, z4⟩, f0, f1, f2, f3, f4⟩ := row_five HY6.out
        clear hb6
        go_upto_region 8 with fail
        rw [HW7.out]
        clear z0 z1 z2 z3 z4 f0 f1 f2 f3 f4
        obtain ⟨⟨p0, p1, p2, p3, p4⟩, _⟩ := row_five HX7.out
        go_wp2_with fail
        refine Calls.mono (HOw.out w7 HB7.out) ?_
        rintro e w8 ⟨⟨a8, c8, rfl, hl8, hc8⟩, hb8⟩
        have HB8 : Hid (Below W.heap.size W w8) := HB7.out.trans (hb8.mono HB7.out.size)
        clear p0 p1 p2 p3 p4
        go_wp2_with fail
        refine Calls.mono (HIo.out w8 HB8.out) ?_
        rintro e w9 ⟨⟨ib, ie, rfl, hli9⟩, hb9⟩
        have HB9 : Hid (Below W.heap.size W w9) := HB8.out.trans (hb9.mono HB8.out.size)
        have hb79 : Below w7.heap.size w7 w9 := hb8.trans (hb9.mono hb8.size)
        have HC9 : Hid _ := HPr.out w9 a8 c8 ib ie HB9.out ((hl8.stay (W' := w8) (fun b h _ => Nat.le_trans HB7.out.size h) (fun _ _ _ => rfl)).keep hb9) hc8 hli9
        clear hl8 hli9
        go_wp2_with fail
        refine Calls.mono HC9.out ?_
        rintro e w10 ⟨hpr, hb10⟩
        have hb710 : Below w7.heap.size w7 w10 := hb79.trans (hb10.mono hb79.size)
        have HB10 : Hid (Below W.heap.size W w10) := HB7.out.trans (hb710.mono HB7.out.size)
        have HY10 : Hid (w10.heap[w3.heap.size]? = some (.cells #[.int .i64 0, .string ⟨#[]⟩, .int .i64 0, .int .i64 0, .slice none 0 0] 24 (0, 0))) := blk_keep hb710 HY7.out
        clear HC9 hb8 hb9
        obtain rfl : e = .returned (.tuple #[.agg #[.int .i64 0, .string ⟨#[]⟩, .int .i64 0, .int .i64 0, .slice none 0 0], errV (A 2)]) := (by
          rcases hpr with ⟨⟨i, h1, h2⟩, _⟩ | ⟨_, _, h⟩ | ⟨_, h, _⟩
          · exact absurd (hall i h1) h2
          · exact h
          · exact absurd (HBo.out.1.trans (HBo.out.2.2 hemp)) h)
        clear hpr
        obtain ⟨w11, HW11, HN11, HB11'⟩ := one_box w10 #[.int .i64 0, .string ⟨#[]⟩, .int .i64 0, .int .i64 0, .slice none 0 0] 24
        have HB11 : Hid (Below W.heap.size W w11) := HB10.out.trans (HB11'.out.mono HB10.out.size)
        have HY11 : Hid (w11.heap[w3.heap.size]? = some (.cells #[.int .i64 0, .string ⟨#[]⟩, .int .i64 0, .int .i64 0, .slice none 0 0] 24 (0, 0))) := blk_keep HB11'.out HY10.out
        have HIs : Hid (Calls Tryz.prog 11 #[.agg #[.int .i64 0, .string ⟨#[]⟩, .int .i64 0, .int .i64 0, .slice none 0 0], errV (A 2), .agg #[.int .i64 0, .string ⟨#[]⟩, .int .i64 0, .int .i64 0, .slice none 0 0], .int .i64 (3)] w11 fun e w' => e = .returned (.bool true) ∧ Below w11.heap.size w11 w') := isNode_err A 2 (by omega) 0 0 0 ⟨#[]⟩ none 0 0 w11 (HEr.out w11 HB11.out)
        obtain ⟨⟨p0, p1, p2, p3, p4⟩, _⟩ := row_five HN11.out
        obtain ⟨⟨q0, q1, q2, q3, q4⟩, _⟩ := row_five HY11.out
        clear hb79 hb10 hb710
        go_upto_region 9 with fail
        rw [HW11.out]
        go_wp2_with fail
        refine Calls.mono HIs.out ?_
        rintro e w12 ⟨rfl, hb12⟩
        have HB12 : Hid (Below W.heap.size W w12) := HB11.out.trans (hb12.mono HB11.out.size)
        clear hb12
        go_wp2
        go_ret
        exact ⟨rfl, HB12.out⟩
      · obtain ⟨us, HUs⟩ := hid_name (rkL (askL ids t) t.sub)
        rw [HUs.out] at hl' hc' ⊢
        obtain ⟨w7, HW7⟩ := hid_name (((((w6.setCell ⟨w3.heap.size, 0, none⟩ (.int .i64 t.id)).setCell ⟨w3.heap.size, 1, none⟩ (.string t.nm)).setCell ⟨w3.heap.size, 2, none⟩ (.int .i64 t.rep)).setCell ⟨w3.heap.size, 3, none⟩ (.int .i64 t.kind)).setCell ⟨w3.heap.size, 4, none⟩ (.slice a' us.length c'))
        have HB7 : Hid (Below W.heap.size W w7) := (by rw [← HW7.out]; exact set5_below HB6.out HB3.out.size _ _ _ _ _)
        have HX7 : Hid (w7.heap[W.heap.size]? = some (.cells #[.int .i64 t.id, .string t.nm, .int .i64 t.rep, .int .i64 t.kind, .slice a t.sub.length c] 24 (0, 0))) := (by rw [← HW7.out]; exact (set5_off _ _ _ (by omega) _ _ _ _ _).trans HX6.out)
        have HY7 : Hid (w7.heap[w3.heap.size]? = some (.cells #[.int .i64 t.id, .string t.nm, .int .i64 t.rep, .int .i64 t.kind, .slice a' us.length c'] 24 (0, 0))) := (by rw [← HW7.out]; exact set5_row HY6.out _ _ _ _ _)
        obtain ⟨⟨z0, z1, z2, z3, z4⟩, f0, f1, f2, f3, f4⟩ := row_five HY6.out
        have HLw : Hid (LiesN w7 (fun b => w5.heap.size ≤ b ∧ b ≠ w3.heap.size) a' us) := LiesN.stay hl' (fun b h _ => ⟨h, by have := lt_of_block HY.out; omega⟩) (fun b h _ => by rw [← HW7.out]; exact set5_off _ _ _ (by have := lt_of_block HY.out; omega) _ _ _ _ _)
        clear hb6
        go_upto_region 8 with fail
        rw [HW7.out]
        clear z0 z1 z2 z3 z4 f0 f1 f2 f3 f4
        obtain ⟨⟨p0, p1, p2, p3, p4⟩, _⟩ := row_five HX7.out
        go_wp2_with fail
        refine Calls.mono (HOw.out w7 HB7.out) ?_
        rintro e w8 ⟨⟨a8, c8, rfl, hl8, hc8⟩, hb8⟩
        have HB8 : Hid (Below W.heap.size W w8) := HB7.out.trans (hb8.mono HB7.out.size)
        clear p0 p1 p2 p3 p4
        go_wp2_with fail
        refine Calls.mono (HIo.out w8 HB8.out) ?_
        rintro e w9 ⟨⟨ib, ie, rfl, hli9⟩, hb9⟩
        have HB9 : Hid (Below W.heap.size W w9) := HB8.out.trans (hb9.mono HB8.out.size)
        have hb79 : Below w7.heap.size w7 w9 := hb8.trans (hb9.mono hb8.size)
        have HC9 : Hid _ := HPr.out w9 a8 c8 ib ie HB9.out ((hl8.stay (W' := w8) (fun b h _ => Nat.le_trans HB7.out.size h) (fun _ _ _ => rfl)).keep hb9) hc8 hli9
        clear hl8 hli9
        go_wp2_with fail
        refine Calls.mono HC9.out ?_
        rintro e w10 ⟨hpr, hb10⟩
        have hb710 : Below w7.heap.size w7 w10 := hb79.trans (hb10.mono hb79.size)
        have HB10 : Hid (Below W.heap.size W w10) := HB7.out.trans (hb710.mono HB7.out.size)
        have HY10 : Hid (w10.heap[w3.heap.size]? = some (.cells #[.int .i64 t.id, .string t.nm, .int .i64 t.rep, .int .i64 t.kind, .slice a' us.length c'] 24 (0, 0))) := blk_keep hb710 HY7.out
        clear HC9 hb8 hb9
        obtain ⟨an, cn, rfl, hln, hcn⟩ : ∃ an cn, e = .returned (.tuple #[.agg #[.int .i64 t.id, .string t.nm, .int .i64 t.rep, .int .i64 t.kind, .slice an us.length cn], .nilIface]) ∧ LiesN w10 (fun b => w9.heap.size ≤ b) an us ∧ us.length ≤ cn := (by
          rcases hpr with ⟨⟨i, h1, h2⟩, _⟩ | ⟨_, h, _⟩ | ⟨_, _, a2, c2, h, h3, h4⟩
          · exact absurd (hall i h1) h2
          · exact absurd (HBo.out.2.1 (HBo.out.1.symm.trans h)) hne
          · rw [HBo.out.1, HUs.out] at h h3 h4
            exact ⟨a2, c2, h, h3, h4⟩)
        clear hpr
        obtain ⟨w11, HW11, HN11, HB11'⟩ := one_box w10 #[.int .i64 t.id, .string t.nm, .int .i64 t.rep, .int .i64 t.kind, .slice an us.length cn] 24
        have HB11 : Hid (Below W.heap.size W w11) := HB10.out.trans (HB11'.out.mono HB10.out.size)
        have HY11 : Hid (w11.heap[w3.heap.size]? = some (.cells #[.int .i64 t.id, .string t.nm, .int .i64 t.rep, .int .i64 t.kind, .slice a' us.length c'] 24 (0, 0))) := blk_keep HB11'.out HY10.out
        have HIs : Hid (Calls Tryz.prog 11 #[.agg #[.int .i64 t.id, .string t.nm, .int .i64 t.rep, .int .i64 t.kind, .slice an us.length cn], .nilIface, .agg #[.int .i64 t.id, .string t.nm, .int .i64 t.rep, .int .i64 t.kind, .slice a' us.length c'], .int .i64 0] w11 fun e w' => e = .returned (.bool true) ∧ Below w11.heap.size w11 w') := (by
          obtain ⟨k1, k2, k3, k4, k5⟩ := rkT_id (askL ids t) t
          rw [HUs.out] at k5
          have h := isNode_ok (rkT (askL ids t) t) (rk_sm _ (SizeOf.sizeOf t + 1) t (Nat.lt_succ_self _) HSm.out) (fun b => w9.heap.size ≤ b) (fun b => w5.heap.size ≤ b ∧ b ≠ w3.heap.size) an a' cn c' w11 (by rw [k5]; exact hln.keep HB11'.out) (by rw [k5]; exact (HLw.out.keep hb710).keep HB11'.out) (by rw [k5]; exact hcn) (by rw [k5]; exact hc')
          unfold nodeV at h
          rw [k1, k2, k3, k4, k5] at h
          exact h)
        obtain ⟨⟨p0, p1, p2, p3, p4⟩, _⟩ := row_five HN11.out
        obtain ⟨⟨q0, q1, q2, q3, q4⟩, _⟩ := row_five HY11.out
        clear hb79 hb10 hb710
        go_upto_region 9 with fail
        rw [HW11.out]
        go_wp2_with fail
        refine Calls.mono HIs.out ?_
        rintro e w12 ⟨rfl, hb12⟩
        have HB12 : Hid (Below W.heap.size W w12) := HB11.out.trans (hb12.mono HB11.out.size)
        clear hb12
        go_wp2
        go_ret
        exact ⟨rfl, HB12.out⟩
    · obtain ⟨i, hi, hx, hse⟩ := wrong_err A hv
      have HPr : Hid (∀ X a' c' ib ie, Below W.heap.size W X → LiesN X (fun b => W.heap.size ≤ b) a' t.sub → t.sub.length ≤ c' → Lies X ib (i64s ids) → Calls Tryz.prog 8 #[.agg #[.int .i64 t.id, .string t.nm, .int .i64 t.rep, .int .i64 t.kind, .slice a' t.sub.length c'], .slice ib ids.length ie] X fun e w' => e = .returned (.tuple #[.agg #[.int .i64 0, .string ⟨#[]⟩, .int .i64 0, .int .i64 0, .slice none 0 0], errV (A i)]) ∧ Below X.heap.size X w') := fun X a' c' ib ie hX hl hc _ => project_err t n HD.out hn HSm.out ib _ ie a' c' _ X hl hc _ _ _ (HEr.out X hX).er3 _ _ hx
      have HSn : Hid (((seN t : Nat) : Int) = (i : Int) + 1) := (by show _ = _; rw [hse]; simp)
      rw [HSn.out]
      have qz : (((i : Int) + 1) == 0) = false := by simp; omega
      have qz2 : ¬ ((i : Int) + 1 = 0) := by omega
      clear hv hx hse p0 p1 p2 p3 p4
      obtain ⟨w7, rfl⟩ : ∃ w7, w7 = w5 := ⟨_, rfl⟩
      have HB7 : Hid (Below W.heap.size W w7) := HB5
      have HX7 : Hid (w7.heap[W.heap.size]? = some (.cells #[.int .i64 t.id, .string t.nm, .int .i64 t.rep, .int .i64 t.kind, .slice a t.sub.length c] 24 (0, 0))) := HX5
      have HY7 : Hid (w7.heap[w3.heap.size]? = some (.cells #[.int .i64 0, .string ⟨#[]⟩, .int .i64 0, .int .i64 0, .slice none 0 0] 24 (0, 0))) := HY
      go_upto_region 8 with fail
      rw [HW5.out]
      obtain ⟨⟨p0, p1, p2, p3, p4⟩, _⟩ := row_five HX7.out
      go_wp2_with fail
      refine Calls.mono (HOw.out w7 HB7.out) ?_
      rintro e w8 ⟨⟨a8, c8, rfl, hl8, hc8⟩, hb8⟩
      have HB8 : Hid (Below W.heap.size W w8) := HB7.out.trans (hb8.mono HB7.out.size)
      clear p0 p1 p2 p3 p4
      go_wp2_with fail
      refine Calls.mono (HIo.out w8 HB8.out) ?_
      rintro e w9 ⟨⟨ib, ie, rfl, hli9⟩, hb9⟩
      have HB9 : Hid (Below W.heap.size W w9) := HB8.out.trans (hb9.mono HB8.out.size)
      have hb79 : Below w7.heap.size w7 w9 := hb8.trans (hb9.mono hb8.size)
      have HC9 : Hid _ := HPr.out w9 a8 c8 ib ie HB9.out ((hl8.stay (W' := w8) (fun b h _ => Nat.le_trans HB7.out.size h) (fun _ _ _ => rfl)).keep hb9) hc8 hli9
      clear hl8 hli9
      go_wp2_with fail
      refine Calls.mono HC9.out ?_
      rintro e w10 ⟨hpr, hb10⟩
      have hb710 : Below w7.heap.size w7 w10 := hb79.trans (hb10.mono hb79.size)
      have HB10 : Hid (Below W.heap.size W w10) := HB7.out.trans (hb710.mono HB7.out.size)
      have HY10 : Hid (w10.heap[w3.heap.size]? = some (.cells #[.int .i64 0, .string ⟨#[]⟩, .int .i64 0, .int .i64 0, .slice none 0 0] 24 (0, 0))) := blk_keep hb710 HY7.out
      clear HC9 hb8 hb9
      obtain rfl := hpr
      obtain ⟨w11, HW11, HN11, HB11'⟩ := one_box w10 #[.int .i64 0, .string ⟨#[]⟩, .int .i64 0, .int .i64 0, .slice none 0 0] 24
      have HB11 : Hid (Below W.heap.size W w11) := HB10.out.trans (HB11'.out.mono HB10.out.size)
      have HY11 : Hid (w11.heap[w3.heap.size]? = some (.cells #[.int .i64 0, .string ⟨#[]⟩, .int .i64 0, .int .i64 0, .slice none 0 0] 24 (0, 0))) := blk_keep HB11'.out HY10.out
      have HIs : Hid (Calls Tryz.prog 11 #[.agg #[.int .i64 0, .string ⟨#[]⟩, .int .i64 0, .int .i64 0, .slice none 0 0], errV (A i), .agg #[.int .i64 0, .string ⟨#[]⟩, .int .i64 0, .int .i64 0, .slice none 0 0], .int .i64 ((i : Int) + 1)] w11 fun e w' => e = .returned (.bool true) ∧ Below w11.heap.size w11 w') := isNode_err A i (by omega) 0 0 0 ⟨#[]⟩ none 0 0 w11 (HEr.out w11 HB11.out)
      obtain ⟨⟨p0, p1, p2, p3, p4⟩, _⟩ := row_five HN11.out
      obtain ⟨⟨q0, q1, q2, q3, q4⟩, _⟩ := row_five HY11.out
      clear hb79 hb10 hb710
      go_upto_region 9 with fail
      rw [HW11.out]
      go_wp2_with fail
      refine Calls.mono HIs.out ?_
      rintro e w12 ⟨rfl, hb12⟩
      have HB12 : Hid (Below W.heap.size W w12) := HB11.out.trans (hb12.mono HB11.out.size)
      clear hb12
      go_wp2
      go_ret
      exact ⟨rfl, HB12.out⟩
end Go.Proofs.YtefgompkpjeneaaGreatDoor
