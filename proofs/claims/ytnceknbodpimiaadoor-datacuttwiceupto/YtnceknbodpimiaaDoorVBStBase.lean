/-
  What is known of values, as nine cells; boxes of it.
  (stats.Stats).around and kind, walked.
  stats.Of, walked.
  The columns of right records: right for their leaves, as many records; joined, and in parts.
  data.Walk: the values of a leaf of a right record.
  data.cut of a right record; data.Check of whatever record of whatever schema.
  What is cut has the same values: the words, without the program.
  data.Walk of a leaf of a right schema.
-/
import Derived.Test.YtnceknbodpimiaaDoorVBColS
import Derived.Test.YtnceknbodpimiaaDoorVLess
import Derived.Test.YtnceknbodpimiaaDoorVBLeafOf
import Derived.Test.YtnceknbodpimiaaDoorVBCtC
namespace Go.Proofs.YtnceknbodpimiaaDoor
open Go.RowKit
def Vl.zero : Vl := ⟨0, 0, ⟨#[]⟩⟩
/-- What is known of values. -/
structure St where
  e : Int
  u : Int
  h : Bool
  mn : Vl
  mx : Vl
def St.cs (s : St) : Array Value := #[.int .i64 s.e, .int .i64 s.u, .bool s.h, .int .i64 s.mn.k, .int .i64 s.mn.n, .string s.mn.s, .int .i64 s.mx.k, .int .i64 s.mx.n, .string s.mx.s]
def St.zero : St := ⟨0, 0, false, Vl.zero, Vl.zero⟩
def Vl.Low (v : Vl) : Prop := -9223372036854775808 ≤ v.n
def St.Low (s : St) : Prop := s.mn.Low ∧ s.mx.Low
def lss (a b : Vl) : Bool := vless a.k a.n a.s b.k b.n b.s
/-- around, as a function. -/
def St.around (s : St) (l g : Vl) : St := ⟨s.e, s.u, true, if !s.h || lss l s.mn then l else s.mn, if !s.h || lss s.mx g then g else s.mx⟩
end Go.Proofs.YtnceknbodpimiaaDoor

namespace Go.Proofs.YtnceknbodpimiaaDoor
open Go.RowKit
end Go.Proofs.YtnceknbodpimiaaDoor

namespace Go.Proofs.YtnceknbodpimiaaDoor
open Go.RowKit
def zCl : Cl := ⟨0, none, [], 0, none, [], 0, none, [], 0⟩
theorem St.Low.around {s : St} {l g : Vl} (h : s.Low) (hl : l.Low) (hg : g.Low) : (s.around l g).Low := by
  unfold St.around
  refine ⟨?_, ?_⟩
  · show Vl.Low (if _ then l else s.mn)
    split
    · exact hl
    · exact h.1
  · show Vl.Low (if _ then g else s.mx)
    split
    · exact hg
    · exact h.2
end Go.Proofs.YtnceknbodpimiaaDoor

namespace Go.Proofs.YtnceknbodpimiaaDoor
open Go.RowKit
theorem GoodC.congr {lid kind mr md : Int} {c k : Cl} (h : GoodC lid kind mr md c) (e0 : k.id = c.id) (e1 : k.rs = c.rs) (e2 : k.ds = c.ds) (e3 : k.vs = c.vs) : GoodC lid kind mr md k := by
  unfold GoodC at h ⊢
  refine ⟨by rw [e0, e1, e2, e3]; exact h.1, fun j hj => ?_⟩
  have hj2 : j < c.vs.length := by rw [← e3]; exact hj
  have := h.2 j hj2
  simp only [e3]
  exact this
theorem chn_cnt : ∀ (q : List Tr) (t : Tr), Chn t q → q.length < t.cnt
  | [], t, _ => by rw [Tr.cnt_eq, List.length_nil]; omega
  | x :: q, t, h => by
    obtain ⟨_, ⟨i, hi, e, _⟩, hq⟩ := h
    have ih := chn_cnt q x hq
    have hm : ∀ (ts : List Tr) (i : Nat) (h : i < ts.length), ts[i].cnt ≤ cntL ts := fun ts => by
      induction ts with
      | nil => intro i h; simp at h
      | cons y ys ih =>
        intro i h
        rw [cntL]
        cases i with
        | zero => simp
        | succ i => have := ih i (by simpa using h); simp; omega
    have := hm t.sub i hi
    rw [e] at this
    rw [Tr.cnt_eq, List.length_cons]
    omega
theorem lvR_lq (q : List Tr) : lvR q ≤ q.length := List.length_filter_le _ _
theorem lvD_lq (q : List Tr) : lvD q ≤ q.length := List.length_filter_le _ _
theorem chn_last : ∀ (q : List Tr) (t z : Tr), Chn t q → (t :: q).getLast? = some z → z ∈ ndT t ∧ z.kind ≠ 0
  | [], t, z, h, hz => by
    obtain rfl : t = z := by simpa using hz
    exact ⟨by rw [ndT_eq]; exact List.mem_cons_self, h⟩
  | x :: q, t, z, h, hz => by
    obtain ⟨_, ⟨i, hi, e, _⟩, hq⟩ := h
    rw [List.getLast?_cons_cons] at hz
    obtain ⟨h1, h2⟩ := chn_last q x z hq hz
    exact ⟨nd_sub (by rw [← e]; exact List.getElem_mem hi) h1, h2⟩
/-- What is known of a leaf of a right schema. -/
structure LfG (t : Tr) (f : Lf) (q : List Tr) (z : Tr) : Prop where
  w : LfW t f q z
  leaf : isLfB f.kind (f.mr : Nat) (f.md : Nat) = true
  len : q.length ≤ 40
theorem right_leaf {t : Tr} (hv : vldN t = 0) (f : Lf) (hf : f ∈ lvsT t) : ∃ q z, LfG t f q z := by
  obtain ⟨hb, hr, hs, _, hi⟩ := right_parts hv
  have hk0 : t.kind = 0 := (of_decide_eq_true hr).2.2.2
  obtain ⟨q, z, hw⟩ := right_way hr hs hi hk0 f hf
  have hc := (inB_cnt t 0 [] hb).2.1
  have hq := chn_cnt q t hw.way
  have h1 := lvR_lq q
  have h2 := lvD_lq q
  obtain ⟨hz, hzk⟩ := chn_last q t z hw.way hw.last
  have hso : shpOk z = true := by
    rw [shp_all, Bool.and_eq_true] at hs
    rw [ndT_eq] at hz
    rcases List.mem_cons.1 hz with rfl | hz
    · exact hs.1
    · exact List.all_eq_true.1 hs.2 z hz
  unfold shpOk at hso
  simp only [Bool.and_eq_true, decide_eq_true_iff] at hso
  refine ⟨q, z, hw, ?_, by omega⟩
  rw [hw.kind, hw.mr, hw.md]
  simp only [isLfB, btw, Bool.and_eq_true, decide_eq_true_iff]
  omega
end Go.Proofs.YtnceknbodpimiaaDoor

namespace Go.Proofs.YtnceknbodpimiaaDoor
open Go.RowKit
theorem ons_len {t : Tr} {d : Dt} (h : d.Sm) : (ons t d).length ≤ 1048576 := by
  unfold ons
  split
  · exact h.lenL
  · split <;> simp
theorem ons_ok {t : Tr} {d : Dt} (hs : d.Sm) (h : chk false t d = 0) : ∀ o ∈ ons t d, chk true t o = 0 ∧ o.Sm := fun o ho => by
  unfold ons at ho
  by_cases hr : t.rep = 3
  · rw [if_pos hr] at ho
    obtain ⟨j, hj, rfl⟩ := List.getElem_of_mem ho
    exact ⟨(chk_lst hr h).2 _ ho, hs.atL j hj⟩
  · rw [if_neg hr] at ho
    cases hn : d.no with
    | true => rw [if_pos hn] at ho; simp at ho
    | false =>
      rw [if_neg (by rw [hn]; simp)] at ho
      rw [List.mem_singleton] at ho
      subst ho
      exact ⟨chk_yes hr hn h, hs⟩
theorem Dt.Sm.lenF {d : Dt} (h : d.Sm) : d.f.length ≤ 1048576 := by cases h with | mk no v l f hs hl hf el ef => exact hf
theorem Tr.Sm.atS {t : Tr} (h : t.Sm) (j : Nat) (hj : j < t.sub.length) : t.sub[j].Sm := by
  cases h with | mk id nm rep kind sub hi hs hl each => exact each j hj
/-- values along whatever way. -/
theorem dvalues_any : ∀ (q : List Tr) (t : Tr) (d : Dt), Chn t q → t.Sm → d.Sm → chk false t d = 0 → ValP t q d
  | [], t, d, _, _, hds, _ => values_leaf t d (ons_len hds)
  | x :: q, t, d, hc, hts, hds, h => by
    have ho := ons_ok hds h
    refine values_step t x q d (ons_len hds) hts.len hc (fun o hm => ⟨(chk_in hc (ho o hm).1).1, (ho o hm).2.lenF⟩) (fun o hm => ?_)
    obtain ⟨h1, h2, h3⟩ := chk_in hc (ho o hm).1
    obtain ⟨_, ⟨i, hi, e, _⟩, _⟩ := hc
    refine dvalues_any q x _ h3 ?_ ?_ h2
    · rw [← e]; exact hts.atS i hi
    · rw [getD_at h1]; exact (ho o hm).2.atF _ h1
mutual
theorem lvT_ids : ∀ (t : Tr) (p : List Tr), List.Sublist ((lvT p t).map Lf.id) ((ndT t).map Tr.id)
  | .node id nm rep kind sub, p => by
    rw [lvT, ndT, List.map_append, List.map_cons]
    have ih := lvL_ids sub (p ++ [.node id nm rep kind sub])
    by_cases h : kind = 0
    · rw [if_pos h, List.map_nil, List.nil_append]
      exact ih.cons _
    · rw [if_neg h]
      exact ih.cons_cons _
theorem lvL_ids : ∀ (ts : List Tr) (p : List Tr), List.Sublist ((lvL p ts).map Lf.id) ((ndL ts).map Tr.id)
  | [], p => by simp [lvL, ndL]
  | t :: ts, p => by
    rw [lvL, ndL, List.map_append, List.map_append]
    exact (lvT_ids t p).append (lvL_ids ts p)
end
/-- No two leaves of a right schema have one number. -/
theorem lvs_ne {t : Tr} (hv : vldN t = 0) (i j : Nat) (hi : i < (lvsT t).length) (hj : j < (lvsT t).length) (hlt : i < j) : (lvsT t)[i].id ≠ (lvsT t)[j].id := by
  obtain ⟨_, hr, _, _, hid⟩ := right_parts hv
  have hk0 : t.kind = 0 := (of_decide_eq_true hr).2.2.2
  have hu := right_idU hr hid
  unfold IdU at hu
  rw [ndT_eq, List.map_cons, List.nodup_cons] at hu
  have hn : ((lvsT t).map Lf.id).Nodup := by rw [lvs_right t hk0]; exact hu.2.sublist (lvL_ids t.sub [])
  rw [List.nodup_iff_pairwise_ne, List.pairwise_iff_getElem] at hn
  have := hn i j (by simpa using hi) (by simpa using hj) hlt
  simpa using this
set_option maxRecDepth 100000 in
set_option maxHeartbeats 1600000 in
theorem lfEq_any (id : Int) (g : Nat) (y0 y1 y2 y3 : Int) (a : Option Addr) (n c : Nat) (W : World) (hg : W.heap[g]? = some (.cells #[.int .i64 id] 3 (0, 0))) :
    Calls Tryd.prog 32 #[.agg #[.int .i64 y0, .int .i64 y1, .int .i64 y2, .int .i64 y3, .slice a n c], .pointer (some ⟨g, 0, none⟩)] W fun e w' => e = .returned (.bool (y0 == id)) ∧ Below W.heap.size W w' := by
  have HB : Hid (Below W.heap.size W (W.alloc (.cells #[.int .i64 y0, .int .i64 y1, .int .i64 y2, .int .i64 y3, .slice a n c] 51))) := (Below.refl _ _).alloc (Nat.le_refl _) _
  obtain ⟨p0, _⟩ := row_one (blk_alloc (o' := .cells #[.int .i64 y0, .int .i64 y1, .int .i64 y2, .int .i64 y3, .slice a n c] 51) hg)
  clear hg
  go_enter Tryd.func32, Tryd.ntmps32
  go_wp2
  go_ret
  exact ⟨rfl, HB.out⟩
set_option maxRecDepth 100000 in
set_option maxHeartbeats 1600000 in
/-- slices.IndexFunc over leaves: the one with that number. -/
theorem lfIx_at (g : Nat) (ls : List Lf) (hn : ls.length ≤ 1048576) (k : Nat) (hk : k < ls.length) (hne : ∀ j (h : j < ls.length), j < k → ls[j].id ≠ ls[k].id) (M : Nat) (lv : Value) (W : World) (hg : W.heap[g]? = some (.cells #[.int .i64 ls[k].id] 3 (0, 0))) (hl : LvR W M lv ls) :
    Calls Tryd.prog (31) #[lv, .func (.func 32) #[] #[.pointer (some ⟨g, 0, none⟩)]] W fun e w' => e = .returned (.int .i64 (k : Nat)) ∧ Below W.heap.size W w' := by
  have HL : Hid (LvR W M lv ls) := hl
  have HG : Hid _ := hg
  have HNE : Hid _ := hne
  obtain ⟨la, lc, rfl⟩ : ∃ la lc, lv = .slice la ls.length lc := (by obtain ⟨pvs, _, h2, _⟩ := hl; exact own_sl h2)
  clear hl hg hne
  obtain ⟨kid, HKI⟩ := hid_name ls[k].id
  rw [HKI.out] at HG
  go_enter Tryd.func31, Tryd.ntmps31
  go_wp2
  go_loopw [8] (fun x wr => ∃ i : Nat, i ≤ k ∧ x = .int .i64 i ∧ Below W.heap.size W wr) (fun x _ => ls.length - (intOf x).toNat)
  case atStart => exact ⟨0, Nat.zero_le _, rfl, Below.refl _ _⟩
  case round =>
    obtain ⟨i, hi, rfl, hb⟩ := hrel
    have HB : Hid _ := hb
    have hlt : i < ls.length := by omega
    obtain ⟨lb, cap, pa, pc, elv, ⟨g0, g1, g2, g3, g4⟩, _⟩ := (HL.out.stay (w' := wr) fun k cs e hk _ _ => hb.block k (lt_of_block hk)).at_ i hlt
    injection elv with ela _ elc
    subst ela elc
    have HGr : Hid (wr.heap[g]? = some (.cells #[.int .i64 kid] 3 (0, 0))) := blk_keep hb HG.out
    clear hb
    go_wp2_with fail
    refine (lfEq_any kid g _ _ _ _ pa _ pc wr HGr.out).mono ?_
    rintro e w1 ⟨rfl, hb1⟩
    have HB1 : Hid (Below W.heap.size W w1) := HB.out.trans (hb1.mono HB.out.size)
    clear hb1
    by_cases hik : i = k
    · have hq : (ls[i].id == kid) = true := (by subst hik; rw [HKI.out]; simp)
      clear g0 g1 g2 g3 g4
      rw [hq]
      clear hq
      go_wp2
      go_ret
      exact ⟨by subst hik; rfl, HB1.out⟩
    · have hq : (ls[i].id == kid) = false := (by rw [beq_eq_false_iff_ne, ← HKI.out]; exact HNE.out i hlt (by omega))
      clear g0 g1 g2 g3 g4
      rw [hq]
      clear hq
      go_wp2
      go_roundw
      case rel => exact ⟨i + 1, by omega, by go_num, HB1.out⟩
      case measure => simp [intOf]; omega
end Go.Proofs.YtnceknbodpimiaaDoor

namespace Go.Proofs.YtnceknbodpimiaaDoor
open Go.RowKit
theorem rkL_len2 (L : List Int) (t : Tr) : (rkT L t).sub.length ≤ t.sub.length := by rw [(rkT_id L t).2.2.2.2]; exact rkL_len L t.sub
/-- data.cut and cutOne of what is right. -/
theorem cut_any (L : List Int) : ∀ (n : Nat) (t : Tr), SizeOf.sizeOf t < n → IdU t → LfOk t → t.Sm → (∀ d : Dt, d.Sm → chk true t d = 0 → CutO (rkT L t) t d) ∧ (∀ d : Dt, d.Sm → chk false t d = 0 → CutP (rkT L t) t d)
  | 0, t, h => absurd h (Nat.not_lt_zero _)
  | n + 1, t, hn => fun hu hlf hsm => by
    have hlen := hsm.len
    have hrl := rkL_len2 L t
    have one : ∀ d : Dt, d.Sm → chk true t d = 0 → CutO (rkT L t) t d := fun d hds h => by
      refine cutOne_of (rkT L t) t d (by omega) hlen hds.lenF (fun j hj => ?_)
      obtain ⟨i, hi, ex, ei⟩ := rk_ix hu (List.getElem_mem hj)
      have hk : t.kind = 0 := by
        by_cases hk : t.kind = 0
        · exact hk
        · have := hlf t (nd_self t) hk
          rw [this] at hi
          simp at hi
      obtain ⟨g1, g2, g3, g4⟩ := chk_grp hk h
      have hi2 : i < d.f.length := by rw [g3]; exact hi
      have hm : t.sub[i] ∈ t.sub := List.getElem_mem hi
      have eid : t.sub[i].id = (rkT L t).sub[j].id := by rw [ex, (rkT_id L t.sub[i]).1]
      refine ⟨i, hi, hi2, eid, fun k hk2 => ?_, ?_⟩
      · rw [← eid]
        exact hu.first i k hi hk2
      · rw [ex]
        refine (cut_any L n t.sub[i] ?_ (hu.sub hm) (hlf.sub hm) (hsm.atS i hi)).2 d.f[i] (hds.atF i hi2) (g4 i hi hi2)
        have := List.sizeOf_lt_of_mem hm
        cases t with
        | node id nm rep kind sub =>
          simp only [Tr.node.sizeOf_spec] at hn
          simp only [Tr.sub] at this ⊢
          omega
    refine ⟨one, fun d hds h => ?_⟩
    refine cut_of (rkT L t) t d hds.lenL (fun o ho => ?_)
    obtain ⟨h1, h2⟩ := ons_ok hds h o ho
    exact one o h2 h1
set_option maxRecDepth 100000 in
set_option maxHeartbeats 1600000 in
/-- data.Check of a schema that is none. -/
theorem checkD_wrong (eb es ek en : TypeId × Value) (t : Tr) (d : Dt) (n : Nat) (hd : t.Dp n) (hn : n ≤ 1100000) (hs : t.Sm) (hv : vldN t ≠ 0) (P : Nat → Prop) (a : Option Addr) (c : Nat) (hcap : t.sub.length ≤ c) (al : Option Addr) (cl : Nat) (af : Option Addr) (cf : Nat) (W : World) (he : EC W eb es ek) (hen : W.cell? ⟨3, 0, none⟩ = some (.iface en.1 en.2)) (hl : LiesN W P a t.sub) :
    Calls Tryd.prog 12 #[nodeV t a c, datumV d al cl af cf] W fun e w' => (∃ ty v, e = .returned (.iface ty v)) ∧ Below W.heap.size W w' := by
  obtain ⟨w0, HW0, HX, HY, HB⟩ := two_boxesS W #[.int .i64 t.id, .string t.nm, .int .i64 t.rep, .int .i64 t.kind, .slice a t.sub.length c] #[.bool d.no, .int .i64 d.v.k, .int .i64 d.v.n, .string d.v.s, .slice al d.l.length cl, .slice af d.f.length cf] 24 30
  obtain ⟨ty, v, hvv⟩ := vldV_wrong eb es en hv
  have HV := valid_any t n hd hn hs a c P w0 (hl.keep HB.out) hcap eb es en (he.keep HB.out).b (he.keep HB.out).s ((HB.out.cell (World.block_lt_of_cell? W _ hen)).trans hen)
  rw [hvv] at HV
  have HV : Hid _ := HV
  obtain ⟨⟨p0, p1, p2, p3, p4⟩, _⟩ := row_five HX.out
  clear he hen hl hd hs hv hvv
  unfold nodeV datumV
  go_enter Tryd.func12, Tryd.ntmps12
  go_upto_region 1 with fail
  rw [HW0.out]
  go_wp2_with fail
  refine Calls.mono HV.out ?_
  rintro e w1 ⟨rfl, hb1⟩
  have HB1 : Hid (Below W.heap.size W w1) := HB.out.trans (hb1.mono HB.out.size)
  clear hb1 p0 p1 p2 p3 p4 HV
  go_wp2
  go_ret
  exact ⟨⟨ty, v, rfl⟩, HB1.out⟩
/-- data.Check of whatever record. -/
theorem checkD_any (eb es ek en : TypeId × Value) (t : Tr) (d : Dt) (n : Nat) (hd : t.Dp n) (hn : n ≤ 1100000) (hs : t.Sm) (hds : d.Sm) (P Q : Nat → Prop) (a : Option Addr) (c : Nat) (hcap : t.sub.length ≤ c) (al : Option Addr) (cl : Nat) (af : Option Addr) (cf : Nat) (W : World) (he : EC W eb es ek) (hen : W.cell? ⟨3, 0, none⟩ = some (.iface en.1 en.2)) (hl : LiesN W P a t.sub) (hd1 : LiesD W Q al d.l) (hd2 : LiesD W Q af d.f) :
    Calls Tryd.prog 12 #[nodeV t a c, datumV d al cl af cf] W fun e w' => ((∃ ty v, e = .returned (.iface ty v)) ∨ (vldN t = 0 ∧ chk false t d = 0 ∧ e = .returned .nilIface)) ∧ Below W.heap.size W w' := by
  by_cases hv : vldN t = 0
  · refine (checkD_right eb es ek en t d n hd hn hs hds hv P Q a c hcap al cl af cf W he hen hl hd1 hd2).mono ?_
    rintro e w' ⟨rfl, hb⟩
    refine ⟨?_, hb⟩
    by_cases hc : chk false t d = 0
    · exact .inr ⟨hv, hc, by rw [hc]; rfl⟩
    · refine .inl ?_
      have hle := chk_le d false t
      unfold erV
      by_cases h1 : chk false t d = 1
      · exact ⟨eb.1, eb.2, by rw [if_pos h1]⟩
      by_cases h2 : chk false t d = 2
      · exact ⟨es.1, es.2, by rw [if_neg h1, if_pos h2]⟩
      · exact ⟨ek.1, ek.2, by rw [if_neg h1, if_neg h2, if_pos (by omega)]⟩
  · refine (checkD_wrong eb es ek en t d n hd hn hs hv P a c hcap al cl af cf W he hen hl).mono ?_
    rintro e w' ⟨h, hb⟩
    exact ⟨.inl h, hb⟩
end Go.Proofs.YtnceknbodpimiaaDoor

namespace Go.Proofs.YtnceknbodpimiaaDoor
open Go.RowKit
theorem kept_of {L : List Int} {t : Tr} (h : rkL L t.sub ≠ []) : kept L t = true := by
  rw [rkL_filter] at h
  cases hf : t.sub.filter (kept L) with
  | nil => rw [hf] at h; exact absurd rfl h
  | cons c cs =>
    have hc : c ∈ t.sub.filter (kept L) := by rw [hf]; simp
    obtain ⟨h1, h2⟩ := List.mem_filter.1 hc
    exact kept_in (nd_sub h1 (nd_self c)) h2
theorem sm_mk {no : Bool} {v : Vl} {l f : List Dt} (hv : v.s.size ≤ 1048576) (hl : l.length ≤ 1048576) (hf : f.length ≤ 1048576) (el : ∀ x ∈ l, x.Sm) (ef : ∀ x ∈ f, x.Sm) : (Dt.mk no v l f).Sm := .mk no v l f hv hl hf (fun _ h => el _ (List.getElem_mem h)) (fun _ h => ef _ (List.getElem_mem h))
theorem Dt.Sm.vs {d : Dt} (h : d.Sm) : d.v.s.size ≤ 1048576 := by cases h with | mk no v l f hs hl hf el ef => exact hs
theorem dt_default_sm : (default : Dt).Sm := sm_mk (by decide) (by simp) (by simp) (by simp) (by simp)
theorem getD_sm {ds : List Dt} {i : Nat} (h : ∀ x ∈ ds, x.Sm) : (ds.getD i default).Sm := by
  by_cases hi : i < ds.length
  · rw [getD_at' hi]; exact h _ (List.getElem_mem hi)
  · rw [show ds.getD i default = default by simp [List.getD, List.getElem?_eq_none (Nat.le_of_not_lt hi)]]
    exact dt_default_sm
mutual
theorem cutT_sm : ∀ (p t : Tr) (d : Dt), p.Sm → d.Sm → (cutT p t d).Sm
  | .node id nm rep kind sub, t, d, hp, hd => by
    have hlen : sub.length ≤ 1048576 := hp.len
    have hsub : ∀ x ∈ sub, x.Sm := fun x hx => by
      obtain ⟨j, hj, rfl⟩ := List.getElem_of_mem hx
      exact hp.atS j hj
    have one : ∀ o : Dt, o.Sm → (Dt.mk false o.v [] (cutF sub t o)).Sm := fun o ho => sm_mk ho.vs (by simp) (by rw [cutF_len]; exact hlen) (by simp) (cutF_sm sub t o hsub ho)
    rw [cutT]
    split
    · refine sm_mk (by decide) (by rw [List.length_map]; exact hd.lenL) (by simp) (fun x hx => ?_) (by simp)
      obtain ⟨o, ho, rfl⟩ := List.mem_map.1 hx
      obtain ⟨j, hj, rfl⟩ := List.getElem_of_mem ho
      exact one _ (hd.atL j hj)
    · split
      · exact sm_mk (by decide) (by simp) (by simp) (by simp) (by simp)
      · exact one d hd
theorem cutF_sm : ∀ (xs : List Tr) (t : Tr) (d : Dt), (∀ x ∈ xs, x.Sm) → d.Sm → ∀ y ∈ cutF xs t d, y.Sm
  | [], t, d, _, _, y, hy => by simp [cutF] at hy
  | x :: xs, t, d, hx, hd, y, hy => by
    rw [cutF] at hy
    rcases List.mem_cons.1 hy with rfl | hy
    · refine cutT_sm x _ _ (hx x (by simp)) (getD_sm (fun z hz => ?_))
      obtain ⟨j, hj, rfl⟩ := List.getElem_of_mem hz
      exact hd.atF j hj
    · exact cutF_sm xs t d (fun z hz => hx z (by simp [hz])) hd y hy
end
/-- A leaf of what is projected is one of the schema's. -/
theorem lv_cut {L : List Int} {t : Tr} (hv : vldN t = 0) {f : Lf} (hf : f ∈ lvsT (rkT L t)) : f ∈ lvsT t := by
  obtain ⟨_, hr, hs, _, _⟩ := right_parts hv
  have hk0 : t.kind = 0 := (of_decide_eq_true hr).2.2.2
  have hk1 : (rkT L t).kind = 0 := by rw [(rkT_id L t).2.2.2.1]; exact hk0
  rw [lvs_right _ hk1, rk_leaves L t (right_lfOk hs)] at hf
  rw [lvs_right t hk0]
  exact (List.mem_filter.1 hf).1
/-- The values of a leaf are the same ones. -/
theorem vals_cut {L : List Int} {t z z' : Tr} {f : Lf} {q q' : List Tr} (hv : vldN t = 0) (h : LfG t f q z) (h' : LfG (rkT L t) f q' z') (d : Dt) : (ons (rkT L t) (cutT (rkT L t) t d)).flatMap (vo (rkT L t) q') = (ons t d).flatMap (vo t q) := by
  obtain ⟨_, hr, _, _, hid⟩ := right_parts hv
  have hu := right_idU hr hid
  rw [ons_cut _ _ _ (rkT_id L t).2.2.1, List.flatMap_map]
  congr 1
  funext o
  exact vo_cut L q q' t o hu h.w.way h'.w.way (by rw [← h.w.path, ← h'.w.path])
theorem lvs_lenC {t : Tr} (hv : vldN t = 0) : (lvsT t).length ≤ 1000 := by
  obtain ⟨hb, hr, _⟩ := right_parts hv
  have hc := (inB_cnt t 0 [] hb).2.1
  have h := wkT_more stL (fun s : List Lf => s.length) (fun s path t => by unfold stL; split <;> simp) t [] []
  unfold lvsT
  simp at h
  omega
end Go.Proofs.YtnceknbodpimiaaDoor

namespace Go.Proofs.YtnceknbodpimiaaDoor
open Go.RowKit
theorem LvR.at3 {W : World} {N : Nat} {lv : Value} {ls : List Lf} (h : LvR W N lv ls) (j : Nat) (hj : j < ls.length) : ∃ lb cap pa pc, lv = .slice (some ⟨lb, 0, none⟩) ls.length cap ∧ (W.cell? ⟨lb, j * 5, none⟩ = some (.int .i64 ls[j].id) ∧ W.cell? ⟨lb, j * 5 + 1, none⟩ = some (.int .i64 ls[j].kind) ∧ W.cell? ⟨lb, j * 5 + 2, none⟩ = some (.int .i64 (ls[j].mr : Nat)) ∧ W.cell? ⟨lb, j * 5 + 3, none⟩ = some (.int .i64 (ls[j].md : Nat)) ∧ W.cell? ⟨lb, j * 5 + 4, none⟩ = some (.slice pa ls[j].path.length pc)) ∧ Lies W pa (i64s ls[j].path) ∧ ls[j].path.length ≤ pc ∧ ∀ p, pa = some p → p.block < W.heap.size := by
  obtain ⟨pvs, h1, h2, h3⟩ := h
  have hjp : j < pvs.length := by omega
  have hz : j < (List.zipWith lfC ls pvs).length := by simp; omega
  have h5 : ∀ x ∈ List.zipWith lfC ls pvs, x.length = 5 := fun x hx => by
    obtain ⟨i, hi, rfl⟩ := List.getElem_of_mem hx
    simp [lfC]
  have hrow := h3 j hj hjp
  rcases h2.2 with ⟨_, h0⟩ | ⟨g, cap, cur, rfl, _⟩
  · omega
  · have hc : ∀ k u, (lfC ls[j] pvs[j])[k]? = some u → k < 5 → W.cell? ⟨g, j * 5 + k, none⟩ = some u := fun k u hu hk => by
      have h6 := h2.cells (g := g) rfl (j * 5 + k) u (by
        rw [flat5 _ h5 j k hk, List.getElem?_eq_getElem hz, List.getElem_zipWith]
        exact hu)
      rw [addr_plus, Nat.zero_add] at h6
      exact h6
    obtain ⟨pa, pc, hpv⟩ := own_sl hrow
    rw [hpv] at hc hrow
    refine ⟨g, cap, pa, pc, rfl, ⟨hc 0 _ rfl (by omega), hc 1 _ rfl (by omega), hc 2 _ rfl (by omega), hc 3 _ rfl (by omega), hc 4 _ rfl (by omega)⟩, fun k hk => ?_, (own_cap hrow).2, fun p hp => ?_⟩
    rotate_left
    · subst hp
      rcases hrow.2 with ⟨h0, _⟩ | ⟨g', cap', cur', hv, _, hgk, _⟩
      · injection h0 with h0; cases h0
      · injection hv with hv _ _
        injection hv with hv
        subst hv
        exact lt_of_block hgk
    rcases hrow.2 with ⟨_, h0⟩ | ⟨g', cap', cur', hv, rest⟩
    · simp [i64s] at hk; omega
    · injection hv with hv _ _
      subst hv
      have h7 := hrow.cells (g := g') rfl k (i64s ls[j].path)[k] (List.getElem?_eq_getElem hk)
      rw [addr_plus, Nat.zero_add] at h7
      exact ⟨g', 0, rfl, by simpa using h7⟩
theorem own_block_none (v : Value) (h : v = .slice none 0 0) (b : Nat) : some b ≠ v.ownBlock := by subst h; simp [Value.ownBlock]
set_option maxRecDepth 100000 in
set_option maxHeartbeats 3200000 in
theorem walk_any (eb es ek en : TypeId × Value) (t : Tr) (n : Nat) (hd : t.Dp n) (hn : n ≤ 1100000) (hs : t.Sm) (hv : vldN t = 0) (d : Dt) (hds : d.Sm) (hck : chk false t d = 0) (k : Nat) (hk : k < (lvsT t).length) (q : List Tr) (z : Tr) (hg : LfG t (lvsT t)[k] q z) (hvo : ((ons t d).flatMap (vo t q)).length ≤ 20000)
    (a : Option Addr) (c : Nat) (hcap : t.sub.length ≤ c) (al : Option Addr) (cl : Nat) (af : Option Addr) (cf : Nat) (P Q : Nat → Prop) (W : World) (he : EC W eb es ek) (hen : W.cell? ⟨3, 0, none⟩ = some (.iface en.1 en.2)) (hl : LiesN W P a t.sub) (hd1 : LiesD W Q al d.l) (hd2 : LiesD W Q af d.f) :
    Calls Tryd.prog 14 #[nodeV t a c, datumV d al cl af cf, .int .i64 (lvsT t)[k].id] W fun e w' => (∃ v, e = .returned (.tuple #[v, .nilIface]) ∧ VsR w' W.heap.size v ((ons t d).flatMap (vo t q))) ∧ Below W.heap.size W w' := by
  obtain ⟨w0, HW0, HX, HY, HZ, HB, _⟩ := three_boxesS W #[.int .i64 t.id, .string t.nm, .int .i64 t.rep, .int .i64 t.kind, .slice a t.sub.length c] #[.bool d.no, .int .i64 d.v.k, .int .i64 d.v.n, .string d.v.s, .slice al d.l.length cl, .slice af d.f.length cf] #[.int .i64 (lvsT t)[k].id] 24 30 3
  have hC0 := checkD_right eb es ek en t d n hd hn hs hds hv P Q a c hcap al cl af cf w0 (he.keep HB.out) ((HB.out.cell (World.block_lt_of_cell? W _ hen)).trans hen) (hl.keep HB.out) (hd1.keep HB.out) (hd2.keep HB.out)
  rw [hck, show erV eb es ek 0 = .nilIface from rfl] at hC0
  have HC : Hid _ := hC0
  have HLv : Hid (∀ X, Below W.heap.size W X → Calls Tryd.prog 13 #[nodeV t a c] X fun e w' => (∃ lv, e = .returned (.tuple #[lv, .nilIface]) ∧ LvR w' X.heap.size lv (lvsT t)) ∧ Below X.heap.size X w') := fun X hX => leaves_right t n hd hn hs a c P X (hl.keep hX) hcap eb es en (he.keep hX).b (he.keep hX).s ((hX.cell (World.block_lt_of_cell? W _ hen)).trans hen) hv
  have HVa : Hid _ := dvalues_any q t d hg.w.way hs hds hck
  have HNe : Hid (∀ j (h : j < (lvsT t).length), j < k → (lvsT t)[j].id ≠ (lvsT t)[k].id) := fun j h hj => lvs_ne hv j k h hk hj
  have hlen : (lvsT t).length ≤ 1000 := by
    obtain ⟨hb, hr, _⟩ := right_parts hv
    have hc := (inB_cnt t 0 [] hb).2.1
    have h := wkT_more stL (fun s : List Lf => s.length) (fun s path t => by unfold stL; split <;> simp) t [] []
    unfold lvsT
    simp at h
    omega
  have HPath : Hid ((lvsT t)[k].path = q.map Tr.id) := hg.w.path
  have HQl : Hid (q.length ≤ 40) := hg.len
  have HVO : Hid (((ons t d).flatMap (vo t q)).length ≤ 20000) := hvo
  have HL : Hid (LiesN W P a t.sub) := hl
  have HD1 : Hid (LiesD W Q al d.l) := hd1
  have HD2 : Hid (LiesD W Q af d.f) := hd2
  obtain ⟨ls, HLS⟩ := hid_name (lvsT t)
  simp only [HLS.out] at HX HY HZ HW0 HLv HNe HPath hk hlen ⊢
  obtain ⟨kid, HKI⟩ := hid_name ls[k].id
  rw [HKI.out] at HZ HW0 ⊢
  obtain ⟨⟨p0, p1, p2, p3, p4⟩, _⟩ := row_five HX.out
  obtain ⟨z0, z1, z2, z3, z4, z5⟩ := row_six HY.out
  clear hd hs hv hds hck hg hvo he hen hl hd1 hd2 hC0
  unfold nodeV datumV at HC
  unfold nodeV at HLv
  unfold nodeV datumV
  go_enter Tryd.func14, Tryd.ntmps14
  go_wp2_with fail
  rw [HW0.out]
  refine Calls.mono HC.out ?_
  rintro e w1 ⟨rfl, hb1⟩
  have HB1 : Hid (Below W.heap.size W w1) := HB.out.trans (hb1.mono HB.out.size)
  have HX1 : Hid _ := blk_keep hb1 HX.out
  have HY1 : Hid _ := blk_keep hb1 HY.out
  have HZ1 : Hid _ := blk_keep hb1 HZ.out
  clear hb1 HC p0 p1 p2 p3 p4 z0 z1 z2 z3 z4 z5
  obtain ⟨⟨p0, p1, p2, p3, p4⟩, _⟩ := row_five HX1.out
  go_wp2_with fail
  refine Calls.mono (HLv.out w1 HB1.out) ?_
  rintro e w2 ⟨⟨lv, rfl, hlv⟩, hb2⟩
  have HB2 : Hid (Below W.heap.size W w2) := HB1.out.trans (hb2.mono HB1.out.size)
  have HX2 : Hid _ := blk_keep hb2 HX1.out
  have HY2 : Hid _ := blk_keep hb2 HY1.out
  have HZ2 : Hid _ := blk_keep hb2 HZ1.out
  have HLR : Hid (LvR w2 w1.heap.size lv ls) := hlv
  have HCi : Hid _ := lfIx_at (W.heap.size + 1 + 1) ls (by omega) k hk HNe.out w1.heap.size lv w2 (by rw [HKI.out]; exact HZ2.out) hlv
  obtain ⟨la, lc, rfl⟩ : ∃ la lc, lv = .slice la ls.length lc := (by obtain ⟨pvs, _, h2, _⟩ := hlv; exact own_sl h2)
  clear hb2 hlv HLv p0 p1 p2 p3 p4
  go_wp2_with fail
  refine Calls.mono HCi.out ?_
  rintro e w3 ⟨rfl, hb3⟩
  have HB3 : Hid (Below W.heap.size W w3) := HB2.out.trans (hb3.mono HB2.out.size)
  have HX3 : Hid _ := blk_keep hb3 HX2.out
  have HY3 : Hid _ := blk_keep hb3 HY2.out
  obtain ⟨lb, cap, pa, pc, elv, ⟨g0, g1, g2, g3, g4⟩, hpl, hpc, hpb⟩ := (HLR.out.stay (w' := w3) fun k cs e hk _ _ => hb3.block k (lt_of_block hk)).at3 k hk
  injection elv with ela _ elc
  subst ela elc
  clear hb3 HCi
  obtain ⟨⟨p0, p1, p2, p3, p4⟩, _⟩ := row_five HX3.out
  obtain ⟨z0, z1, z2, z3, z4, z5⟩ := row_six HY3.out
  have hql : ls[k].path.length = q.length := by rw [HPath.out, List.length_map]
  rw [HPath.out] at hpl
  have ob : ∀ b : Nat, some b ≠ (Value.slice none 0 0).ownBlock := fun b => own_block_none _ rfl b
  have HCv : Hid _ := HVa.out W.heap.size a c al cl af cf pa pc (.slice none 0 0) [] w3.drew (by have := HB3.out.size; simp; omega) (World.ownsRow_nil _ _ _ _) ((HL.out.keep HB3.out.drew).stay (fun b _ _ => ob b) (fun _ _ _ => rfl)) ((HD1.out.keep HB3.out.drew).stay (fun b _ _ => ob b) (fun _ _ _ => rfl)) ((HD2.out.keep HB3.out.drew).stay (fun b _ _ => ob b) (fun _ _ _ => rfl)) ⟨hpl.keep (Below.refl _ _).drew, fun p hp => ⟨hpb p hp, ob _⟩⟩ (by omega) (by simpa using HVO.out)
  have HN : Hid (∀ X, Below w3.heap.size w3 X → (X.cell? ⟨W.heap.size, 0, none⟩ = some (.int .i64 t.id) ∧ X.cell? ⟨W.heap.size, 1, none⟩ = some (.string t.nm) ∧ X.cell? ⟨W.heap.size, 2, none⟩ = some (.int .i64 t.rep) ∧ X.cell? ⟨W.heap.size, 3, none⟩ = some (.int .i64 t.kind) ∧ X.cell? ⟨W.heap.size, 4, none⟩ = some (.slice a t.sub.length c) ∧ X.cell? ⟨W.heap.size + 1, 0, none⟩ = some (.bool d.no) ∧ X.cell? ⟨W.heap.size + 1, 1, none⟩ = some (.int .i64 d.v.k) ∧ X.cell? ⟨W.heap.size + 1, 2, none⟩ = some (.int .i64 d.v.n) ∧ X.cell? ⟨W.heap.size + 1, 3, none⟩ = some (.string d.v.s) ∧ X.cell? ⟨W.heap.size + 1, 4, none⟩ = some (.slice al d.l.length cl) ∧ X.cell? ⟨W.heap.size + 1, 5, none⟩ = some (.slice af d.f.length cf) ∧ X.cell? ⟨lb, k * 5 + 4, none⟩ = some (.slice pa ls[k].path.length pc)) ∧ Below w3.heap.size w3 X) := fun X hX => (by
    have kk : ∀ (ad : Addr) (u : Value), w3.cell? ad = some u → X.cell? ad = some u := fun ad u h => (hX.cell (World.block_lt_of_cell? w3 _ h)).trans h
    exact ⟨⟨kk _ _ p0, kk _ _ p1, kk _ _ p2, kk _ _ p3, kk _ _ p4, kk _ _ z0, kk _ _ z1, kk _ _ z2, kk _ _ z3, kk _ _ z4, kk _ _ z5, kk _ _ g4⟩, hX⟩)
  have b0 : Below w3.heap.size w3 w3 := Below.refl _ _
  rw [hql] at g4 HN
  clear hpl hpc
  go_wp2
  go_region_with (go_at_call 33; refine Calls.mono HCv.out ?_; rintro e w4 ⟨v4, rfl, hr4, hk4⟩)
  all_goals
    have HR4 : Hid (VsR w4 W.heap.size v4 ((ons t d).flatMap (vo t q))) := (by show VsR _ _ _ _; simpa using hr4)
    have HB4 : Hid (Below W.heap.size W w4) := HB3.out.drew.trans (hk4.to_below.mono HB3.out.size)
    clear hr4 hk4
    go_wp2
    go_ret2
    exact ⟨⟨_, rfl, HR4.out⟩, HB4.out⟩
end Go.Proofs.YtnceknbodpimiaaDoor
