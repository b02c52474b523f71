/-
  Shred of whatever records: an error, or the columns of right ones.
  assemble: what Shred leaves are columns to assemble.
  What the law ShredSplits holds of its three lists of columns.
  The columns of a projection's leaves are those of the cut records: mathematics.
  The closed fact of stage 7's laws: one column without a value: mathematics.
  The closed fact of stage 7's laws: one column without a value.
  The reference's CutOf: what it makes of a right record: mathematics.
  Shred of too many records, and of whatever records.
  The reference's CutOf of a list, if it is so at each element; of what is not cut.
  The reference's CutOf of a list, if it is so at each element.
-/
import Derived.Test.YteonbmaokphleaaGreatDoorHBStBase
import Derived.Test.YteonbmaokphleaaGreatDoorHBLvM
import Derived.Test.YteonbmaokphleaaGreatDoorHBColH
import Derived.Test.YteonbmaokphleaaGreatDoorHBAsO
import Derived.Test.YteonbmaokphleaaGreatDoorHBColS
import Derived.Test.YteonbmaokphleaaGreatDoorHBAsH
import Derived.Test.YteonbmaokphleaaGreatDoorHBChkD
import Derived.Deep.RegionLaw
import Derived.Deep.RegionHeld3
namespace Go.Proofs.YteonbmaokphleaaGreatDoor
open Go.RowKit
def ShR (t : Tr) (QF : Nat → List Tr) (ds : List Dt) (N : Nat) (ov ev : Value) (w : World) : Prop :=
 (∃ ty v, ov = .slice none 0 0 ∧ ev = .iface ty v) ∨
 (ev = .nilIface ∧ vldN t = 0 ∧ (∀ d ∈ ds, chk true t d = 0) ∧ ColR w N ov ((lvsT t).mapIdx fun j f => colOf f (stq t (QF j) 0 0) ds))
theorem root_chk {t : Tr} (hr : isRootB t = true) (d : Dt) : chk false t d = chk true t d := by
 have h : t.rep = 1 := (of_decide_eq_true hr).2.2.1
 exact chk_one t d (by rw [h]; decide) (fun e => by rw [h] at e; exact absurd e.1 (by decide))
theorem lvs_len {t : Tr} (hv : vldN t = 0) : (lvsT t).length ≤ 1000 := by
 obtain ⟨hb, hr, _⟩ := right_parts hv
 have hc := (inB_cnt t 0 [] hb).2.1
 have h := wkT_more stL (fun s : List Lf => s.length) (fun s path t => by unfold stL; split <;> simp) t [] []
 unfold lvsT
 simp at h
 omega
set_option maxRecDepth 100000 in
set_option maxHeartbeats 3200000 in
theorem shred_wrong (eb es ek en : TypeId × Value) (t : Tr) (n : Nat) (hd : t.Dp n) (hn : n ≤ 1100000) (hs : t.Sm) (hv : vldN t ≠ 0) (nd : Nat) (a : Option Addr) (c : Nat) (hcap : t.sub.length ≤ c) (da : Option Addr) (dc : Nat) (W : World) (he : EC W eb es ek) (hen : W.cell? ⟨5, 0, none⟩ = some (.iface en.1 en.2)) (hl : LiesN W (fun b => b < W.heap.size) a t.sub) :
    Calls Tryz.prog 7 #[nodeV t a c, .slice da nd dc] W fun e w' => (∃ ty v, e = .returned (.tuple #[.slice none 0 0, .iface ty v])) ∧ Below W.heap.size W w' := by
 obtain ⟨ty, v, hx⟩ : ∃ ty v, vldV (.iface eb.1 eb.2) (.iface es.1 es.2) (.iface en.1 en.2) t = .iface ty v := (by
  unfold vldN at hv
  unfold vldV
  split
  · exact ⟨_, _, rfl⟩
  · rename_i h1
    rw [if_neg h1] at hv
    split
    · exact ⟨_, _, rfl⟩
    · rename_i h2
      rw [if_neg h2] at hv
      split
      · exact ⟨_, _, rfl⟩
      · rename_i h3
        rw [if_neg h3] at hv
        exact absurd rfl hv)
 obtain ⟨w0, HW0, HX, HB⟩ := one_box W #[.int .i64 t.id, .string t.nm, .int .i64 t.rep, .int .i64 t.kind, .slice a t.sub.length c] 24
 have HLe : Hid _ := leaves_err t n hd hn hs a c _ w0 (hl.keep HB.out) hcap eb es en ⟨(he.keep HB.out).b, (he.keep HB.out).s, (HB.out.cell (World.block_lt_of_cell? W _ hen)).trans hen⟩ ty v hx
 obtain ⟨⟨p0, p1, p2, p3, p4⟩, _⟩ := row_five HX.out
 clear hl hd hs he hx hv hen
 unfold nodeV
 go_enter Tryz.func7, Tryz.ntmps7
 go_wp2_with fail
 rw [HW0.out]
 refine Calls.mono HLe.out ?_
 rintro e w1 ⟨rfl, hb1⟩
 have HB1 : Hid (Below W.heap.size W w1) := HB.out.trans (hb1.mono HB.out.size)
 clear hb1 p0 p1 p2 p3 p4
 go_wp2
 go_ret2
 exact ⟨⟨ty, v, rfl⟩, HB1.out⟩
set_option maxRecDepth 100000 in
set_option maxHeartbeats 3200000 in
theorem shred_bad (eb es ek en : TypeId × Value) (t : Tr) (n : Nat) (hd : t.Dp n) (hn : n ≤ 1100000) (hs : t.Sm) (hv : vldN t = 0) (ds : List Dt) (hds : ds.length ≤ 100) (hsm : ∀ j (h : j < ds.length), ds[j].Sm) (p : Nat) (hp : p < ds.length) (hbad : chk false t ds[p] ≠ 0)
    (a : Option Addr) (c : Nat) (hcap : t.sub.length ≤ c) (da : Option Addr) (dc : Nat) (W : World) (he : EC W eb es ek) (hen : W.cell? ⟨5, 0, none⟩ = some (.iface en.1 en.2)) (hl : LiesN W (fun b => b < W.heap.size) a t.sub) (hld : LiesD W (fun b => b < W.heap.size) da ds) :
    Calls Tryz.prog 7 #[nodeV t a c, .slice da ds.length dc] W fun e w' => (∃ ty v, e = .returned (.tuple #[.slice none 0 0, .iface ty v])) ∧ Below W.heap.size W w' := by
 have hb : Below W.heap.size W (W.alloc (.cells #[.int .i64 t.id, .string t.nm, .int .i64 t.rep, .int .i64 t.kind, .slice a t.sub.length c] 24)) := (Below.refl _ _).alloc (Nat.le_refl _) _
 have HX : Hid ((W.alloc (.cells #[.int .i64 t.id, .string t.nm, .int .i64 t.rep, .int .i64 t.kind, .slice a t.sub.length c] 24)).heap[W.heap.size]? = some (.cells #[.int .i64 t.id, .string t.nm, .int .i64 t.rep, .int .i64 t.kind, .slice a t.sub.length c] 24 (0, 0))) := heap_alloc_new W _
 have HLv : Hid _ := leaves_right t n hd hn hs a c _ (W.alloc (.cells #[.int .i64 t.id, .string t.nm, .int .i64 t.rep, .int .i64 t.kind, .slice a t.sub.length c] 24)) (hl.keep hb) hcap eb es en (he.keep hb).b (he.keep hb).s ((hb.cell (World.block_lt_of_cell? W _ hen)).trans hen) hv
 have HB : Hid (Below W.heap.size W (W.alloc (.cells #[.int .i64 t.id, .string t.nm, .int .i64 t.rep, .int .i64 t.kind, .slice a t.sub.length c] 24))) := hb
 have HEr : Hid (EC W eb es ek) := he
 have HEn : Hid (W.cell? ⟨5, 0, none⟩ = some (.iface en.1 en.2)) := hen
 have HL : Hid (LiesN W (fun b => b < W.heap.size) a t.sub) := hl
 have HLd : Hid (LiesD W (fun b => b < W.heap.size) da ds) := hld
 have HCk : Hid (∀ j (h : j < ds.length), ds[j].Sm) := hsm
 have HD : Hid (t.Dp n) := hd
 have HSm : Hid t.Sm := hs
 have HV : Hid (vldN t = 0) := hv
 have HBad : Hid (chk false t ds[p] ≠ 0) := hbad
 have q : decide ((100 : Int) < (ds.length : Int)) = false := by simp; omega
 clear hl hld hsm hd hs hv he hen hb hbad
 unfold nodeV
 go_enter Tryz.func7, Tryz.ntmps7
 go_wp2_with fail
 refine Calls.mono HLv.out ?_
 rintro e w1 ⟨⟨lv, rfl, hlv⟩, hb1⟩
 have HB1 : Hid (Below W.heap.size W w1) := HB.out.trans (hb1.mono HB.out.size)
 have HX1 : Hid (w1.heap[W.heap.size]? = some (.cells #[.int .i64 t.id, .string t.nm, .int .i64 t.rep, .int .i64 t.kind, .slice a t.sub.length c] 24 (0, 0))) := blk_keep hb1 HX.out
 obtain ⟨la, lc, rfl⟩ : ∃ la lc, lv = .slice la (lvsT t).length lc := (by obtain ⟨pvs, _, h2, _⟩ := hlv; exact own_sl h2)
 clear hb1 hlv HLv
 go_wp2
 clear q
 generalize (decide ((100 : Int) < (ds.length : Int))) = bq
 go_loopw [30] (fun x wr => ∃ i : Nat, i ≤ p ∧ x = .int .i64 i ∧ Hid (Below w1.heap.size w1 wr)) (fun x _ => ds.length - (intOf x).toNat)
 case atStart => exact ⟨0, Nat.zero_le _, rfl, Below.refl _ _⟩
 case round =>
  obtain ⟨i, hi, rfl, HBr⟩ := hrel
  have hs1 := HB1.out.size
  have hbr : Below W.heap.size W wr := HB1.out.trans (HBr.out.mono hs1)
  have hlt : i < ds.length := by omega
  obtain ⟨b', o', al1, cl1, af1, cf1, ea, ⟨e0, e1, e2, e3, e4, e5⟩, hd1, hd2⟩ := (HLd.out.keep hbr).at_ i hlt
  subst ea
  have hb2 : Below wr.heap.size wr (wr.alloc (.cells #[.bool ds[i].no, .int .i64 ds[i].v.k, .int .i64 ds[i].v.n, .string ds[i].v.s, .slice al1 ds[i].l.length cl1, .slice af1 ds[i].f.length cf1] 56)) := (Below.refl _ _).alloc (Nat.le_refl _) _
  have HC : Hid _ := checkD_right eb es ek en t ds[i] n HD.out hn HSm.out (HCk.out i hlt) HV.out _ _ a c hcap al1 cl1 af1 cf1 (wr.alloc (.cells #[.bool ds[i].no, .int .i64 ds[i].v.k, .int .i64 ds[i].v.n, .string ds[i].v.s, .slice al1 ds[i].l.length cl1, .slice af1 ds[i].f.length cf1] 56)) ((HEr.out.keep hbr).keep hb2) ((hb2.cell (World.block_lt_of_cell? _ _ ((hbr.cell (World.block_lt_of_cell? W _ HEn.out)).trans HEn.out))).trans ((hbr.cell (World.block_lt_of_cell? W _ HEn.out)).trans HEn.out)) ((HL.out.keep hbr).keep hb2) (hd1.keep hb2) (hd2.keep hb2)
  have HB2 : Hid _ := hb2
  obtain ⟨⟨p0, p1, p2, p3, p4⟩, _⟩ := row_five (blk_alloc (o' := (.cells #[.bool ds[i].no, .int .i64 ds[i].v.k, .int .i64 ds[i].v.n, .string ds[i].v.s, .slice al1 ds[i].l.length cl1, .slice af1 ds[i].f.length cf1] 56)) (blk_keep HBr.out HX1.out))
  have hle := chk_le ds[i] false t
  clear hb2 hd1 hd2 hbr
  go_wp2_with fail
  refine Calls.mono HC.out ?_
  rintro e w3 ⟨rfl, hb3⟩
  have HB3 : Hid (Below w1.heap.size w1 w3) := (HBr.out.trans (HB2.out.mono HBr.out.size)).trans (hb3.mono (by have := HBr.out.size; simp; omega))
  clear hb3 p0 p1 p2 p3 p4 e0 e1 e2 e3 e4 e5
  rcases erV_cases eb es ek (chk false t ds[i]) hle with ⟨hz, hev⟩ | ⟨hz, ty, v, hev⟩
  · have hip : i ≠ p := fun e => by subst e; exact HBad.out hz
    rw [hev]
    clear hev hz
    go_wp2
    go_roundw
    case rel => exact ⟨i + 1, by omega, by go_num, HB3⟩
    case measure => simp [intOf]; omega
  · rw [hev]
    clear hev hz
    go_wp2
    go_ret2
    refine ⟨⟨_, _, rfl⟩, ?_⟩
    have hbz : Below W.heap.size W w3 := HB1.out.trans (HB3.out.mono hs1)
    exact hbz.alloc hbz.size _
set_option maxRecDepth 100000 in
theorem shred_any (eb es ek en : TypeId × Value) (t : Tr) (n : Nat) (hd : t.Dp n) (hn : n ≤ 1100000) (hs : t.Sm) (QF : Nat → List Tr) (ZF : Nat → Tr) (hq : vldN t = 0 → ∀ j (h : j < (lvsT t).length), LfG t (lvsT t)[j] (QF j) (ZF j)) (ds : List Dt) (hds : ds.length ≤ 100) (hsm : ∀ j (h : j < ds.length), ds[j].Sm) (hw : wtL ds ≤ 20000)
    (a : Option Addr) (c : Nat) (hcap : t.sub.length ≤ c) (da : Option Addr) (dc : Nat) (W : World) (he : EC W eb es ek) (hen : W.cell? ⟨5, 0, none⟩ = some (.iface en.1 en.2)) (hl : LiesN W (fun b => b < W.heap.size) a t.sub) (hld : LiesD W (fun b => b < W.heap.size) da ds) :
    Calls Tryz.prog 7 #[nodeV t a c, .slice da ds.length dc] W fun e w' => (∃ ov ev, e = .returned (.tuple #[ov, ev]) ∧ ShR t QF ds W.heap.size ov ev w') ∧ Below W.heap.size W w' := by
 by_cases hv : vldN t = 0
 · by_cases hc : ∀ j (h : j < ds.length), chk false t ds[j] = 0
   · have hr := (right_parts hv).2.1
     have hall : ∀ d ∈ ds, chk true t d = 0 := fun d hm => by
      obtain ⟨j, hj, rfl⟩ := List.getElem_of_mem hm
      rw [← root_chk hr]
      exact hc j hj
     refine (shred_right eb es ek en t n hd hn hs hv (lvsT t) rfl (lvs_len hv) (fun j => stq t (QF j) 0 0) ds hds (fun j h => ⟨hsm j h, hc j h⟩) (fun j h => ?_) a c hcap da dc W he hen hl hld).mono ?_
     · have hg := hq hv j h
       have hf : ∀ d ∈ ds, FitS (stq t (QF j) 0 0) d := fun d hm => chn_fit _ t 0 0 d hg.w.way (hall d hm)
       refine ⟨by rw [hg.w.path, List.length_map]; have := hg.len; omega, by rw [hg.w.path]; exact stq_path _ t 0 0 hg.w.way, fun i hi => hf _ (List.getElem_mem hi), ?_⟩
       exact Nat.le_trans (ents_len _ _ ds hf) hw
     · rintro e w' ⟨⟨ov, rfl, hr⟩, hb⟩
       exact ⟨⟨ov, .nilIface, rfl, .inr ⟨rfl, hv, hall, hr⟩⟩, hb⟩
   · obtain ⟨p, hp⟩ := Classical.not_forall.1 hc
     obtain ⟨hpl, hbad⟩ := Classical.not_forall.1 hp
     refine (shred_bad eb es ek en t n hd hn hs hv ds hds hsm p hpl hbad a c hcap da dc W he hen hl hld).mono ?_
     rintro e w' ⟨⟨ty, v, rfl⟩, hb⟩
     exact ⟨⟨_, _, rfl, .inl ⟨ty, v, rfl, rfl⟩⟩, hb⟩
 · refine (shred_wrong eb es ek en t n hd hn hs hv ds.length a c hcap da dc W he hen hl).mono ?_
   rintro e w' ⟨⟨ty, v, rfl⟩, hb⟩
   exact ⟨⟨_, _, rfl, .inl ⟨ty, v, rfl, rfl⟩⟩, hb⟩
theorem asCols_shred {t : Tr} {QF : Nat → List Tr} {ZF : Nat → Tr} (hq : ∀ j (h : j < (lvsT t).length), LfG t (lvsT t)[j] (QF j) (ZF j)) {ds : List Dt} (hck : ∀ d ∈ ds, chk true t d = 0) (hw : wtL ds ≤ 20000) {W : World} {N : Nat} {ov : Value} (h : ColR W N ov ((lvsT t).mapIdx fun j f => colOf f (stq t (QF j) 0 0) ds)) : ∃ (a : Option Addr) (c : Nat) (ks : List Cl), ov = .slice a ks.length c ∧ LiesC W a ks ∧ AsCols t QF ds ks := by
 obtain ⟨a, c, ks, hl, e, hlc, hk⟩ := h.cls
 rw [List.length_mapIdx] at hl
 refine ⟨a, c, ks, e, hlc, ⟨hl, fun j hj hj' => ?_, fun k hm => ?_⟩⟩
 · obtain ⟨h0, h1, h2, h3, _⟩ := hk j hj' (by rw [List.length_mapIdx]; exact hj)
   rw [List.getElem_mapIdx] at h0 h1 h2 h3
   have hf : ∀ d ∈ ds, FitS (stq t (QF j) 0 0) d := fun d hm => chn_fit _ t 0 0 d (hq j hj).w.way (hck d hm)
   exact ⟨h0, h1, h2, h3, Nat.le_trans (ents_len _ _ ds hf) hw⟩
 · obtain ⟨j, hj, rfl⟩ := List.getElem_of_mem hm
   exact (hk j hj (by rw [List.length_mapIdx, ← hl]; exact hj)).2.2.2.2
theorem AsCols.same {t : Tr} {QF : Nat → List Tr} {ds : List Dt} {cs ks : List Cl} (h : AsCols t QF ds cs) (hl : ks.length = cs.length) (hs : ∀ j (h : j < ks.length) (h' : j < cs.length), SameC cs[j] ks[j]) : AsCols t QF ds ks := by
 refine ⟨by rw [hl, h.len], fun j hj hj' => ?_, fun k hm => ?_⟩
 · have h1 := hs j hj' (by omega)
   obtain ⟨e0, e1, e2, e3, e4⟩ := h.each j hj (by omega)
   exact ⟨h1.id.trans e0, h1.rs.trans e1, h1.ds.trans e2, h1.vs.trans e3, e4⟩
 · obtain ⟨j, hj, rfl⟩ := List.getElem_of_mem hm
   exact (hs j hj (by omega)).cap
theorem AsCols.few {t : Tr} {QF : Nat → List Tr} {ds : List Dt} {cs : List Cl} (h : AsCols t QF ds cs) : ∀ j (h : j < cs.length), cs[j].rs.length ≤ 20000 ∧ cs[j].ds.length ≤ 20000 ∧ cs[j].vs.length ≤ 20000 := fun j hj => by
 obtain ⟨_, e1, e2, e3, e4⟩ := h.each j (by rw [← h.len]; exact hj) hj
 rw [e1, e2, e3, eR_len, eD_len]
 exact ⟨e4, e4, Nat.le_trans (eV_le _) e4⟩
theorem pick_ways (t : Tr) : ∃ (QF : Nat → List Tr) (ZF : Nat → Tr), vldN t = 0 → ∀ j (h : j < (lvsT t).length), LfG t (lvsT t)[j] (QF j) (ZF j) := by
 by_cases hv : vldN t = 0
 · have each : ∀ i, i < (lvsT t).length → ∃ x : List Tr × Tr, ∀ h : i < (lvsT t).length, LfG t (lvsT t)[i] x.1 x.2 := fun i hi => by
     obtain ⟨q, z, h⟩ := right_leaf hv (lvsT t)[i] (List.getElem_mem hi)
     exact ⟨(q, z), fun _ => h⟩
   have : Inhabited (List Tr × Tr) := ⟨([], .node 0 ⟨#[]⟩ 0 0 [])⟩
   obtain ⟨f, hf⟩ := Deep.choose_lt each
   exact ⟨fun i => (f i).1, fun i => (f i).2, fun _ j h => hf j h h⟩
 · exact ⟨fun _ => [], fun _ => t, fun h => absurd h hv⟩
structure Trio (t : Tr) (QF : Nat → List Tr) (ds : List Dt) (w : World) (a : Option Addr) (ks : List Cl) : Prop where
 len : ks.length = (lvsT t).length
 lies : LiesC w a ks
 each : ∀ j (h : j < ks.length) (h' : j < (lvsT t).length), ks[j].id = (lvsT t)[j].id ∧ ks[j].rs = eR (ents (lvsT t)[j].md (stq t (QF j) 0 0) ds) ∧ ks[j].ds = eD (ents (lvsT t)[j].md (stq t (QF j) 0 0) ds) ∧ ks[j].vs = eV (ents (lvsT t)[j].md (stq t (QF j) 0 0) ds) ∧ ks[j].Cap
theorem Trio.keep {t : Tr} {QF : Nat → List Tr} {ds : List Dt} {w w' : World} {a : Option Addr} {ks : List Cl} (h : Trio t QF ds w a ks) (hb : Below w.heap.size w w') : Trio t QF ds w' a ks := ⟨h.len, h.lies.keep hb, h.each⟩
theorem ShR.keep {t : Tr} {QF : Nat → List Tr} {ds : List Dt} {N : Nat} {ov ev : Value} {w w' : World} (h : ShR t QF ds N ov ev w) (hb : Below w.heap.size w w') : ShR t QF ds N ov ev w' := by
 rcases h with h | ⟨h1, h2, h3, h4⟩
 · exact .inl h
 · exact .inr ⟨h1, h2, h3, h4.keep hb⟩
theorem lvs_ids {t : Tr} (hv : vldN t = 0) : (lvsT t).map Lf.id = lfI (ndT t) := by
 obtain ⟨_, hr, _, _, _⟩ := right_parts hv
 have hk0 : t.kind = 0 := (of_decide_eq_true hr).2.2.2
 rw [lvs_right t hk0, lv_idsL, ndT_eq]
 simp [lfI, hk0]
theorem lvs_rk {L : List Int} {t : Tr} (hv : vldN t = 0) : lvsT (rkT L t) = (lvsT t).filter (fun f => L.contains f.id) := by
 obtain ⟨_, hr, hs, _, _⟩ := right_parts hv
 have hk0 : t.kind = 0 := (of_decide_eq_true hr).2.2.2
 have hk1 : (rkT L t).kind = 0 := by rw [(rkT_id L t).2.2.2.1]; exact hk0
 rw [lvs_right _ hk1, rk_leaves L t (right_lfOk hs), lvs_right t hk0]
def selC (p : Tr) (cs : List Cl) : List Cl := cs.filter fun c => (lfI (ndT p)).contains c.id
theorem sel_ids {L : List Int} {t : Tr} (hv : vldN t = 0) (hp : vldN (rkT L t) = 0) {cs : List Cl} (h : cs.map Cl.id = (lvsT t).map Lf.id) : (selC (rkT L t) cs).map Cl.id = (lvsT (rkT L t)).map Lf.id := by
 have e1 : (selC (rkT L t) cs).map Cl.id = (cs.map Cl.id).filter (fun i => (lfI (ndT (rkT L t))).contains i) := by
  unfold selC
  rw [List.filter_map]
  rfl
 have e2 : (lvsT (rkT L t)).map Lf.id = ((lvsT t).map Lf.id).filter (fun i => L.contains i) := by
  rw [lvs_rk hv, List.filter_map]
  rfl
 rw [e1, e2, h]
 refine List.filter_congr fun i hi => ?_
 rw [← lvs_ids hp, e2]
 rw [Bool.eq_iff_iff]
 simp only [List.contains_iff_mem, List.mem_filter]
 exact ⟨fun h => h.2, fun h => ⟨hi, h⟩⟩
theorem asCols_cut {L : List Int} {t : Tr} (hv : vldN t = 0) (hp : vldN (rkT L t) = 0) {QF QF' : Nat → List Tr} {ZF ZF' : Nat → Tr} (hq : ∀ j (h : j < (lvsT t).length), LfG t (lvsT t)[j] (QF j) (ZF j)) (hq' : ∀ j (h : j < (lvsT (rkT L t)).length), LfG (rkT L t) (lvsT (rkT L t))[j] (QF' j) (ZF' j)) {ds : List Dt} {cs : List Cl} (h : AsCols t QF ds cs) : AsCols (rkT L t) QF' (ds.map (cut1 (rkT L t) t)) (selC (rkT L t) cs) := by
 have hids : cs.map Cl.id = (lvsT t).map Lf.id := by
  apply List.ext_getElem
  · rw [List.length_map, List.length_map, h.len]
  · intro j h1 h2
    rw [List.getElem_map, List.getElem_map]
    exact (h.each j (by simpa using h2) (by simpa using h1)).1
 have hsel := sel_ids hv hp hids
 have hlen : (selC (rkT L t) cs).length = (lvsT (rkT L t)).length := by
  have := congrArg List.length hsel
  simpa using this
 refine ⟨hlen, fun j hj hj' => ?_, fun k hk => h.cap k (List.mem_filter.1 hk).1⟩
 have hid : (selC (rkT L t) cs)[j].id = (lvsT (rkT L t))[j].id := by
  have e := List.getElem_of_eq hsel (i := j) (by rw [List.length_map]; exact hj')
  rw [List.getElem_map, List.getElem_map] at e
  exact e
 have hm1 : (selC (rkT L t) cs)[j] ∈ cs := (List.mem_filter.1 (List.getElem_mem hj')).1
 obtain ⟨i, hi, ei⟩ := List.getElem_of_mem hm1
 have hi2 : i < (lvsT t).length := by rw [← h.len]; exact hi
 obtain ⟨k, hk, ek⟩ := List.getElem_of_mem (lv_cut hv (List.getElem_mem hj))
 obtain ⟨a0, a1, a2, a3, a4⟩ := h.each i hi2 hi
 have hki : k = i := by
  have e : (lvsT t)[k].id = (lvsT t)[i].id := by rw [ek, ← hid, ← ei, a0]
  rcases Nat.lt_trichotomy k i with h1 | h1 | h1
  · exact absurd e (lvs_ne hv k i hk hi2 h1)
  · exact h1
  · exact absurd e.symm (lvs_ne hv i k hi2 hk h1)
 subst hki
 have hg := hq k hk
 rw [ek] at hg a1 a2 a3 a4
 have he := ents_cut hv hg (hq' j hj) (lvsT (rkT L t))[j].md ds
 rw [he, ← ei]
 exact ⟨by rw [ei]; exact hid, a1, a2, a3, a4⟩
def nnX : Tr := .node 1 ⟨#[97]⟩ 2 1 []
def nnT : Tr := .node 0 ⟨#[114, 111, 111, 116]⟩ 1 0 [nnX]
def nnD : Dt := .mk false zV [] [.mk true zV [] []]
theorem nn_sm : nnT.Sm := by
 refine .mk _ _ _ _ _ (by omega) (by decide) (by decide) (fun j h => ?_)
 obtain rfl : j = 0 := by simp at h; omega
 exact .mk _ _ _ _ _ (by omega) (by decide) (by decide) (fun j h => absurd h (by simp))
theorem nn_dp : nnT.Dp 2 := by
 refine .mk 1 _ _ _ _ _ (fun j h => ?_)
 obtain rfl : j = 0 := by simp at h; omega
 exact .mk 0 _ _ _ _ _ (fun j h => absurd h (by simp))
theorem nn_right : vldN nnT = 0 := by decide +kernel
theorem nn_chk : chk true nnT nnD = 0 := by decide +kernel
theorem nn_lvs : lvsT nnT = [⟨1, 1, 0, 1, [1]⟩] := by kernel_rfl
theorem nn_as (ra da : Option Addr) : ∃ (QF : Nat → List Tr) (ZF : Nat → Tr), (∀ j (h : j < (lvsT nnT).length), LfG nnT (lvsT nnT)[j] (QF j) (ZF j)) ∧ AsCols nnT QF [nnD] [⟨1, ra, [0], 1, da, [0], 1, none, [], 0⟩] := by
 have h0 : 0 < (lvsT nnT).length := by rw [nn_lvs]; simp
 obtain ⟨q, z, hg⟩ := right_leaf nn_right (lvsT nnT)[0] (List.getElem_mem h0)
 have he : (lvsT nnT)[0] = ⟨1, 1, 0, 1, [1]⟩ := by simp [nn_lvs]
 have hq : q = [nnX] := by
  have hp := hg.w.path
  have hw := hg.w.way
  rw [he] at hp
  match q, hp, hw with
  | [], hp, _ => simp at hp
  | [x], _, hw =>
   obtain ⟨_, ⟨i, hi, e, _⟩, _⟩ := hw
   obtain rfl : i = 0 := by simp [nnT, Tr.sub] at hi; omega
   rw [← e]
   rfl
  | x :: y :: r, hp, _ => simp at hp
 subst hq
 have hent : ents 1 (stq nnT [nnX] 0 0) [nnD] = [⟨0, 0, none⟩] := by kernel_rfl
 have hj0 : ∀ j, j < (lvsT nnT).length → j = 0 := fun j h => by rw [nn_lvs] at h; simp at h; omega
 refine ⟨fun _ => [nnX], fun _ => z, fun j h => ?_, ⟨by rw [nn_lvs]; rfl, fun j h h' => ?_, fun k hk => ?_⟩⟩
 · obtain rfl := hj0 j h
   exact hg
 · obtain rfl := hj0 j h
   rw [he, hent]
   exact ⟨rfl, rfl, rfl, rfl, by simp⟩
 · obtain rfl := List.mem_singleton.1 hk
   exact ⟨Nat.le_refl _, Nat.le_refl _, Nat.le_refl _⟩
set_option maxRecDepth 100000 in
set_option maxHeartbeats 3200000 in
theorem none_any (W : World) (eb es ek en : TypeId × Value) (he : EC W eb es ek) (hen : W.cell? ⟨5, 0, none⟩ = some (.iface en.1 en.2)) :
    Calls Tryz.prog 4 #[] W fun e w' => e = .returned (.bool true) ∧ Below W.heap.size W w' := by
 obtain ⟨w0, HW0, HX, HY, HB⟩ := two_boxesS W #[.int .i64 1, .string ⟨#[97]⟩, .int .i64 2, .int .i64 1, .slice none 0 0] #[.int .i64 0, .string ⟨#[114, 111, 111, 116]⟩, .int .i64 1, .int .i64 0, .slice (some ⟨W.heap.size, 0, none⟩) 1 1] 24 24
 obtain ⟨w1, HW1, HR, HD, HC, HB1, HSz⟩ := three_boxesS w0 #[.int .i64 0] #[.int .i64 0] #[.int .i64 1, .slice (some ⟨w0.heap.size, 0, none⟩) 1 1, .slice (some ⟨w0.heap.size + 1, 0, none⟩) 1 1, .slice none 0 0] 3 3 50
 obtain ⟨QF, ZF, hq, has⟩ := nn_as (some ⟨w0.heap.size, 0, none⟩) (some ⟨w0.heap.size + 1, 0, none⟩)
 have hb01 : Below W.heap.size W w1 := HB.out.trans (HB1.out.mono HB.out.size)
 have hl : LiesN w1 (fun _ => True) (some ⟨W.heap.size, 0, none⟩) nnT.sub := by
  obtain ⟨⟨c0, c1, c2, c3, c4⟩, _⟩ := row_five (blk_keep HB1.out HX.out)
  refine ⟨fun _ => [.int .i64 1, .string ⟨#[97]⟩, .int .i64 2, .int .i64 1, .slice none 0 0], fun j hj => ?_, fun j hj => ?_⟩
  · obtain rfl : j = 0 := by simp [nnT, Tr.sub] at hj; omega
    exact ⟨W.heap.size, 0, _, _, _, _, _, rfl, trivial, rfl, c0, c1, c2, c3, c4⟩
  · obtain rfl : j = 0 := by simp [nnT, Tr.sub] at hj; omega
    exact .mk 1 ⟨#[97]⟩ 2 1 [] none 0 (by simp) (fun _ => []) (fun j h => absurd h (by simp)) (fun j h => absurd h (by simp))
 have hlc : LiesC w1 (some ⟨w0.heap.size + 1 + 1, 0, none⟩) [⟨1, some ⟨w0.heap.size, 0, none⟩, [0], 1, some ⟨w0.heap.size + 1, 0, none⟩, [0], 1, none, [], 0⟩] := fun j hj => by
  obtain rfl : j = 0 := by simp at hj; omega
  have c0 := cell_of_row w1 (w0.heap.size + 1 + 1) 0 _ _ _ HC.out
  have c1 := cell_of_row w1 (w0.heap.size + 1 + 1) 1 _ _ _ HC.out
  have c2 := cell_of_row w1 (w0.heap.size + 1 + 1) 2 _ _ _ HC.out
  have c3 := cell_of_row w1 (w0.heap.size + 1 + 1) 3 _ _ _ HC.out
  refine ⟨⟨w0.heap.size + 1 + 1, 0, rfl, c0, c1, c2, c3⟩, ⟨fun j hj => ?_, fun j hj => ?_, fun j hj => absurd hj (by simp)⟩⟩
  · obtain rfl : j = 0 := by simpa [i64s] using hj
    exact ⟨_, 0, rfl, by simp [World.cell?, HR.out, i64s]⟩
  · obtain rfl : j = 0 := by simpa [i64s] using hj
    exact ⟨_, 0, rfl, by simp [World.cell?, HD.out, i64s]⟩
 have HAs : Hid (Calls Tryz.prog 10 #[.agg #[.int .i64 0, .string ⟨#[114, 111, 111, 116]⟩, .int .i64 1, .int .i64 0, .slice (some ⟨W.heap.size, 0, none⟩) 1 1], .slice (some ⟨w0.heap.size + 1 + 1, 0, none⟩) 1 1] w1 fun e w' => (∃ al cl, e = .returned (.tuple #[.slice al 1 cl, .nilIface]) ∧ LiesD w' (fun b => w1.heap.size ≤ b) al [nnD]) ∧ Below w1.heap.size w1 w') := assemble_right eb es ek en nnT 2 nn_dp (by omega) nn_sm nn_right QF ZF hq [nnD] (by simp) (fun d hd => by rw [List.mem_singleton.1 hd]; exact nn_chk) [⟨1, some ⟨w0.heap.size, 0, none⟩, [0], 1, some ⟨w0.heap.size + 1, 0, none⟩, [0], 1, none, [], 0⟩] (some ⟨W.heap.size, 0, none⟩) 1 (by decide) (some ⟨w0.heap.size + 1 + 1, 0, none⟩) 1 _ w1 has (he.keep hb01) ((hb01.cell (World.block_lt_of_cell? W _ hen)).trans hen) hl hlc
 obtain ⟨⟨p0, p1, p2, p3, p4⟩, _⟩ := row_five HY.out
 have HBW : Hid (Below W.heap.size W w1) := hb01
 clear hl hlc he hen hq has hb01
 go_enter Tryz.func4, Tryz.ntmps4
 go_upto_region 2 with fail
 rw [HW0.out]
 go_wp2_with fail
 rw [HW1.out]
 refine Calls.mono HAs.out ?_
 rintro e w2 ⟨⟨al, cl, rfl, hl2⟩, hb2⟩
 have HB2 : Hid (Below W.heap.size W w2) := HBW.out.trans (hb2.mono HBW.out.size)
 obtain ⟨b, o, a1, c1, a2, c2, rfl, ⟨d0, d1, d2, d3, d4, d5⟩, hl3, hl4⟩ := hl2.at_ 0 (by simp)
 obtain ⟨b', o', a3, c3, a4, c4, ea, ⟨e0, e1, e2, e3, e4, e5⟩, _, _⟩ := hl4.at_ 0 (by simp [nnD, Dt.f])
 simp only [List.getElem_cons_zero, nnD, Dt.f, Dt.no, Dt.v, Dt.l, List.length_cons, List.length_nil] at ea d0 d1 d2 d3 d4 d5 e0 e1 e2 e3 e4 e5
 subst ea
 have e0' : w2.cell? ⟨b', o', none⟩ = some (.bool true) := e0
 clear hl2 hl3 hl4 hb2 p0 p1 p2 p3 p4 HAs
 go_wp2
 go_ret
 exact ⟨rfl, HB2.out⟩
def cfT (p t : Tr) (one : Bool) (d : Dt) : Dt := if one = true then cut1 p t d else cutT p t d
theorem cut1_leaf {p t : Tr} (hp : p.sub = []) {d : Dt} (hk : t.kind ≠ 0) (h : chk true t d = 0) : cut1 p t d = d := by
 cases kd_of h with
 | list l h1 h3 hl40 each => cases h1
 | none h1 h2 => cases h1
 | group f h1 hk' hfl each => exact absurd hk' hk
 | leaf v h1 hk' hv ok => unfold cut1; rw [hp, cutF]; rfl
theorem cf_same {p t : Tr} (hp : t.kind ≠ 0 → p.sub = []) {one : Bool} {d : Dt} (h : chk one t d = 0) (hn : d.no = true ∨ t.kind ≠ 0) : cfT p t one d = d := by
 unfold cfT
 cases one with
 | true =>
  rw [if_pos rfl]
  by_cases hk : t.kind = 0
  · have h1 := (chk_grp hk h).1
    rcases hn with h2 | h2
    · rw [h1] at h2; cases h2
    · exact absurd hk h2
  · exact cut1_leaf (hp hk) hk h
 | false =>
  rw [if_neg (by simp), cutT_eq]
  cases kd_of h with
  | list l h1 h3 hl40 each =>
   rw [if_pos h3]
   rcases hn with h2 | h2
   · cases h2
   · have e : l.map (cut1 p t) = l := by
       refine (List.map_congr_left fun x hx => ?_).trans (List.map_id l)
       obtain ⟨j, hj, rfl⟩ := List.getElem_of_mem hx
       exact cut1_leaf (hp h2) h2 (each j hj)
     show Dt.mk false zV (l.map (cut1 p t)) [] = _
     rw [e]
  | none h1 h2 => rw [if_neg (by omega)]; rfl
  | group f h1 hk' hfl each =>
   rcases hn with h2 | h2
   · cases h2
   · exact absurd hk' h2
  | leaf v h1 hk' hv ok =>
   have h3 : ¬ t.rep = 3 := fun e => h1 ⟨rfl, e⟩
   rw [if_neg h3]
   have hp0 := hp hk'
   unfold cut1
   rw [hp0, cutF]
   rfl
theorem grp_z {t : Tr} {d : Dt} (hk : t.kind = 0) (h : chk true t d = 0) : d.v = zV := by
 rw [chk_group t d hk, grpEr] at h
 split at h
 · omega
 · rename_i h1
   simp only [Bool.or_eq_true, not_or, Bool.not_eq_true] at h1
   exact hasV_no h1.1.1.2
theorem cf_group {p t : Tr} {one : Bool} {d : Dt} (hk : t.kind = 0) (hn : d.no = false) (h3 : ¬ (t.rep = 3 ∧ one = false)) (h : chk one t d = 0) : cfT p t one d = .mk false zV [] (cutF p.sub t d) ∧ chk true t d = 0 := by
 have h1 : chk true t d = 0 := by
  cases one with
  | true => exact h
  | false =>
   have h4 : t.rep ≠ 3 := fun e => h3 ⟨e, rfl⟩
   rw [chk_one t d h4 (fun e => by rw [hn] at e; exact absurd e.2 (by simp))] at h
   exact h
 have hv := grp_z hk h1
 refine ⟨?_, h1⟩
 unfold cfT
 cases one with
 | true => rw [if_pos rfl, cut1, hv]
 | false =>
  have h4 : t.rep ≠ 3 := fun e => h3 ⟨e, rfl⟩
  rw [if_neg (by simp), cutT_eq, if_neg h4, hn, if_neg (by simp), cut1, hv]
set_option maxRecDepth 100000 in
set_option maxHeartbeats 3200000 in
theorem shred_lots (eb es ek en : TypeId × Value) (t : Tr) (n : Nat) (hd : t.Dp n) (hn : n ≤ 1100000) (hs : t.Sm) (hv : vldN t = 0) (ds : List Dt) (hds : 100 < ds.length)
    (a : Option Addr) (c : Nat) (hcap : t.sub.length ≤ c) (da : Option Addr) (dc : Nat) (W : World) (he : EC W eb es ek) (hen : W.cell? ⟨5, 0, none⟩ = some (.iface en.1 en.2)) (hl : LiesN W (fun b => b < W.heap.size) a t.sub) :
    Calls Tryz.prog 7 #[nodeV t a c, .slice da ds.length dc] W fun e w' => (∃ ty v, e = .returned (.tuple #[.slice none 0 0, .iface ty v])) ∧ Below W.heap.size W w' := by
 obtain ⟨w0, HW0, HX, HB⟩ := one_box W #[.int .i64 t.id, .string t.nm, .int .i64 t.rep, .int .i64 t.kind, .slice a t.sub.length c] 24
 have HLv : Hid _ := leaves_right t n hd hn hs a c _ w0 (hl.keep HB.out) hcap eb es en (he.keep HB.out).b (he.keep HB.out).s ((HB.out.cell (World.block_lt_of_cell? W _ hen)).trans hen) hv
 have HEr : Hid (EC W eb es ek) := he
 have q : decide ((100 : Int) < (ds.length : Int)) = true := by simp; omega
 have q2 : decide (100 < ds.length) = true := by simp; omega
 obtain ⟨⟨p0, p1, p2, p3, p4⟩, _⟩ := row_five HX.out
 obtain ⟨m, HM⟩ := hid_name ds.length
 rw [HM.out] at q q2 ⊢
 clear hl hd hs hv he hen hds
 unfold nodeV
 go_enter Tryz.func7, Tryz.ntmps7
 go_wp2_with fail
 rw [HW0.out]
 refine Calls.mono HLv.out ?_
 rintro e w1 ⟨⟨lv, rfl, hlv⟩, hb1⟩
 have HB1 : Hid (Below W.heap.size W w1) := HB.out.trans (hb1.mono HB.out.size)
 obtain ⟨la, lc, rfl⟩ : ∃ la lc, lv = .slice la (lvsT t).length lc := (by obtain ⟨pvs, _, h2, _⟩ := hlv; exact own_sl h2)
 have g1 := (HEr.out.keep HB1.out).b
 clear hb1 hlv HLv p0 p1 p2 p3 p4
 go_upto_region 5 with fail
 go_quiet (fail)
 go_wp2
 all_goals go_ret2
 all_goals exact ⟨⟨_, _, rfl⟩, below_dN HB1.out _⟩
set_option maxRecDepth 100000 in
theorem shred_all (eb es ek en : TypeId × Value) (t : Tr) (n : Nat) (hd : t.Dp n) (hn : n ≤ 1100000) (hs : t.Sm) (QF : Nat → List Tr) (ZF : Nat → Tr) (hq : vldN t = 0 → ∀ j (h : j < (lvsT t).length), LfG t (lvsT t)[j] (QF j) (ZF j)) (ds : List Dt) (hsm : ∀ j (h : j < ds.length), ds[j].Sm) (hw : wtL ds ≤ 20000)
    (a : Option Addr) (c : Nat) (hcap : t.sub.length ≤ c) (da : Option Addr) (dc : Nat) (W : World) (he : EC W eb es ek) (hen : W.cell? ⟨5, 0, none⟩ = some (.iface en.1 en.2)) (hl : LiesN W (fun b => b < W.heap.size) a t.sub) (hld : LiesD W (fun b => b < W.heap.size) da ds) :
    Calls Tryz.prog 7 #[nodeV t a c, .slice da ds.length dc] W fun e w' => (∃ ov ev, e = .returned (.tuple #[ov, ev]) ∧ ShR t QF ds W.heap.size ov ev w') ∧ Below W.heap.size W w' := by
 by_cases h100 : ds.length ≤ 100
 · exact shred_any eb es ek en t n hd hn hs QF ZF hq ds h100 hsm hw a c hcap da dc W he hen hl hld
 · by_cases hv : vldN t = 0
   · refine (shred_lots eb es ek en t n hd hn hs hv ds (by omega) a c hcap da dc W he hen hl).mono ?_
     rintro e w' ⟨⟨ty, v, rfl⟩, hb⟩
     exact ⟨⟨_, _, rfl, .inl ⟨ty, v, rfl, rfl⟩⟩, hb⟩
   · refine (shred_wrong eb es ek en t n hd hn hs hv ds.length a c hcap da dc W he hen hl).mono ?_
     rintro e w' ⟨⟨ty, v, rfl⟩, hb⟩
     exact ⟨⟨_, _, rfl, .inl ⟨ty, v, rfl, rfl⟩⟩, hb⟩
theorem four_boxesF (W : World) (c1 c2 c3 c4 : Array Value) (t1 t2 t3 t4 : TypeId) : ∃ w0, Hid ((((W.alloc (.cells c1 t1)).alloc (.cells c2 t2)).alloc (.cells c3 t3)).alloc (.cells c4 t4) = w0) ∧ Hid (w0.heap[W.heap.size]? = some (.cells c1 t1 (0, 0))) ∧ Hid (w0.heap[W.heap.size + 1]? = some (.cells c2 t2 (0, 0))) ∧ Hid (w0.heap[W.heap.size + 1 + 1]? = some (.cells c3 t3 (0, 0))) ∧ Hid (w0.heap[W.heap.size + 1 + 1 + 1]? = some (.cells c4 t4 (0, 0))) ∧ Hid (Below W.heap.size W w0) ∧ Hid (w0.heap.size = W.heap.size + 4) := by
 obtain ⟨w1, H1, H2, H3, H4, H5, H6⟩ := three_boxesS W c1 c2 c3 t1 t2 t3
 have hs := H6.out
 refine ⟨w1.alloc (.cells c4 t4), by show _ = _; rw [H1.out], blk_alloc H2.out, blk_alloc H3.out, blk_alloc H4.out, ?_, H5.out.alloc H5.out.size _, by show _ = _; simp [hs]⟩
 have h := heap_alloc_new w1 (.cells c4 t4)
 rw [hs] at h
 exact h
theorem liesD_none (w : World) (P : Nat → Prop) : LiesD w P none [] := ⟨fun _ => [], fun j hj => absurd hj (by simp), fun j hj => absurd hj (by simp)⟩
set_option maxRecDepth 100000 in
set_option maxHeartbeats 3200000 in
theorem cutOf_same (p t : Tr) (one : Bool) (d : Dt) (hsm : d.Sm) (hp : t.kind ≠ 0 → p.sub = []) (hck : chk one t d = 0) (hn : d.no = true ∨ t.kind ≠ 0) : CfP p t one d := fun P Q R ta tc pa pc al cl af cf W hlt hlp hdl hdf => by
 obtain ⟨w0, HW0, HT, HP, HD, HR, HB, HSz⟩ := four_boxesF W #[.int .i64 t.id, .string t.nm, .int .i64 t.rep, .int .i64 t.kind, .slice ta t.sub.length tc] #[.int .i64 p.id, .string p.nm, .int .i64 p.rep, .int .i64 p.kind, .slice pa p.sub.length pc] #[.bool d.no, .int .i64 d.v.k, .int .i64 d.v.n, .string d.v.s, .slice al d.l.length cl, .slice af d.f.length cf] #[.bool false, .int .i64 0, .int .i64 0, .string ⟨#[]⟩, .slice none 0 0, .slice none 0 0] 24 24 56 56
 have HC : Hid _ := ownsD d hsm R al cl af cf w0 (hdl.keep HB.out) (hdf.keep HB.out)
 have he : cfT p t one d = d := cf_same hp hck hn
 unfold cfT at he
 rw [he]
 obtain ⟨⟨p0, p1, p2, p3, p4⟩, _⟩ := row_five HT.out
 obtain ⟨d0, d1, d2, d3, d4, d5⟩ := row_six HD.out
 have hn2 : (d.no || !(t.kind == 0)) = true := by rcases hn with h | h <;> simp [h]
 clear hlt hlp hdl hdf hsm hp hck he
 unfold nodeV
 unfold datumV at HC ⊢
 have hfin : ∀ (w1 : World) (a1 : Option Addr) (c1 : Nat) (a2 : Option Addr) (c2 : Nat), Below w0.heap.size w0 w1 → LiesD w1 (fun b => w0.heap.size ≤ b) a1 d.l → LiesD w1 (fun b => w0.heap.size ≤ b) a2 d.f → LiesD ((((((w1.setCell ⟨W.heap.size + 1 + 1 + 1, 0, none⟩ (.bool d.no)).setCell ⟨W.heap.size + 1 + 1 + 1, 1, none⟩ (.int .i64 d.v.k)).setCell ⟨W.heap.size + 1 + 1 + 1, 2, none⟩ (.int .i64 d.v.n)).setCell ⟨W.heap.size + 1 + 1 + 1, 3, none⟩ (.string d.v.s)).setCell ⟨W.heap.size + 1 + 1 + 1, 4, none⟩ (.slice a1 d.l.length c1)).setCell ⟨W.heap.size + 1 + 1 + 1, 5, none⟩ (.slice a2 d.f.length c2)) (fun b => W.heap.size ≤ b) a1 d.l ∧ LiesD ((((((w1.setCell ⟨W.heap.size + 1 + 1 + 1, 0, none⟩ (.bool d.no)).setCell ⟨W.heap.size + 1 + 1 + 1, 1, none⟩ (.int .i64 d.v.k)).setCell ⟨W.heap.size + 1 + 1 + 1, 2, none⟩ (.int .i64 d.v.n)).setCell ⟨W.heap.size + 1 + 1 + 1, 3, none⟩ (.string d.v.s)).setCell ⟨W.heap.size + 1 + 1 + 1, 4, none⟩ (.slice a1 d.l.length c1)).setCell ⟨W.heap.size + 1 + 1 + 1, 5, none⟩ (.slice a2 d.f.length c2)) (fun b => W.heap.size ≤ b) a2 d.f := fun w1 a1 c1 a2 c2 _ h1 h2 => by
  have hz := HSz.out
  have fr : ∀ b, w0.heap.size ≤ b → b ≠ W.heap.size + 1 + 1 + 1 := fun b h => by omega
  exact ⟨((((((h1.off fr).off fr).off fr).off fr).off fr).off fr).stay (fun b h _ => by omega) (fun _ _ _ => rfl), ((((((h2.off fr).off fr).off fr).off fr).off fr).off fr).stay (fun b h _ => by omega) (fun _ _ _ => rfl)⟩
 have HF : Hid _ := hfin
 clear hfin
 cases hno : d.no with
 | true =>
  rw [hno] at d0 HW0
  go_enter Tryz.func21, Tryz.ntmps21
  go_upto_region 1 with fail
  rw [HW0.out]
  rw [hno] at HC
  go_wp2_with fail
  refine Calls.mono HC.out ?_
  rintro e w1 ⟨⟨a1, c1, a2, c2, rfl, h1, h2⟩, hb1⟩
  have HR1 : Hid _ := blk_keep hb1 HR.out
  have HF1 : Hid _ := HF.out w1 a1 c1 a2 c2 hb1 h1 h2
  have hB1 : Below W.heap.size W w1 := HB.out.trans (hb1.mono HB.out.size)
  rw [hno] at HF1
  clear h1 h2 hb1
  obtain ⟨s0, s1, s2, s3, s4, s5⟩ := row_six HR1.out
  obtain ⟨f0, f1, f2, f3, f4, f5⟩ := row_six_z HR1.out
  go_wp2
  exact bodyPost_ret (v := .agg #[.bool true, .int .i64 d.v.k, .int .i64 d.v.n, .string d.v.s, .slice a1 d.l.length c1, .slice a2 d.f.length c2]) (results_cell_row Tryz.results21 _ _ (W.heap.size + 1 + 1 + 1) 56 #[.bool true, .int .i64 d.v.k, .int .i64 d.v.n, .string d.v.s, .slice a1 d.l.length c1, .slice a2 d.f.length c2] (0, 0) _ rfl (row_setCell (row_setCell (row_setCell (row_setCell (row_setCell (row_setCell HR1.out _) _) _) _) _) _) Tryz.underlying56 rfl (by kernel_rfl)) rfl ⟨⟨a1, c1, a2, c2, rfl, HF1.out.1, HF1.out.2⟩, (((((hB1.setCell (by simp; omega) _).setCell (by simp; omega) _).setCell (by simp; omega) _).setCell (by simp; omega) _).setCell (by simp; omega) _).setCell (by simp; omega) _⟩
 | false =>
  rw [hno] at d0 HW0
  have hk : t.kind ≠ 0 := by
   rcases hn with h | h
   · rw [hno] at h; cases h
   · exact h
  have q : (t.kind == 0) = false := by simp [hk]
  go_enter Tryz.func21, Tryz.ntmps21
  go_upto_region 1 with fail
  rw [HW0.out]
  rw [hno] at HC
  go_wp2_with fail
  refine Calls.mono HC.out ?_
  rintro e w1 ⟨⟨a1, c1, a2, c2, rfl, h1, h2⟩, hb1⟩
  have HR1 : Hid _ := blk_keep hb1 HR.out
  have HF1 : Hid _ := HF.out w1 a1 c1 a2 c2 hb1 h1 h2
  have hB1 : Below W.heap.size W w1 := HB.out.trans (hb1.mono HB.out.size)
  rw [hno] at HF1
  clear h1 h2 hb1
  obtain ⟨s0, s1, s2, s3, s4, s5⟩ := row_six HR1.out
  obtain ⟨f0, f1, f2, f3, f4, f5⟩ := row_six_z HR1.out
  go_wp2
  exact bodyPost_ret (v := .agg #[.bool false, .int .i64 d.v.k, .int .i64 d.v.n, .string d.v.s, .slice a1 d.l.length c1, .slice a2 d.f.length c2]) (results_cell_row Tryz.results21 _ _ (W.heap.size + 1 + 1 + 1) 56 #[.bool false, .int .i64 d.v.k, .int .i64 d.v.n, .string d.v.s, .slice a1 d.l.length c1, .slice a2 d.f.length c2] (0, 0) _ rfl (row_setCell (row_setCell (row_setCell (row_setCell (row_setCell (row_setCell HR1.out _) _) _) _) _) _) Tryz.underlying56 rfl (by kernel_rfl)) rfl ⟨⟨a1, c1, a2, c2, rfl, HF1.out.1, HF1.out.2⟩, (((((hB1.setCell (by simp; omega) _).setCell (by simp; omega) _).setCell (by simp; omega) _).setCell (by simp; omega) _).setCell (by simp; omega) _).setCell (by simp; omega) _⟩
def KcB (g : Nat) (w X : World) : Prop := ∀ b, b < g → X.heap[b]? = w.heap[b]?
theorem KcB.refl (g : Nat) (w : World) : KcB g w w := fun _ _ => rfl
theorem KcB.drew {g : Nat} {w X : World} (h : KcB g w X) : KcB g w X.drew := h
theorem KcB.put {g j : Nat} {w X : World} (h : KcB g w X) (u : Value) : KcB g w (X.setCell ⟨g, j, none⟩ u) := fun b hb => (Below.heap_setCell _ _ _ _ (show b ≠ g by omega)).trans (h b hb)
theorem KcB.below {g : Nat} {w X : World} (h : Below w.heap.size w X) (hg : g ≤ w.heap.size) : KcB g w X := fun b hb => h.block b (by omega)
theorem own_sh6 {w : World} {N e n : Nat} {v : Value} {cs : List Value} (h : w.ownsRow N e 6 v n cs) : ∃ a c, v = .slice a n c := by
 rcases h.2 with ⟨h0, h1⟩ | ⟨_, cap, cur, h0, _⟩
 · exact ⟨none, 0, by rw [h0, h1]⟩
 · exact ⟨_, cap, h0⟩
set_option maxRecDepth 100000 in
set_option maxHeartbeats 6400000 in
theorem cutOf_list (p t : Tr) (d : Dt) (hk : t.kind = 0) (hr : t.rep = 3) (hno : d.no = false) (hlen : d.l.length ≤ 1048576) (ho : ∀ j (h : j < d.l.length), CfP p t true d.l[j]) : CfP p t false d := fun P Q R ta tc pa pc al cl af cf W hlt hlp hdl hdf => by
 obtain ⟨iv, hvi, hv0, hv1, hv2⟩ := info_parts Tryz.infoD
 obtain ⟨w0, HW0, HT, HP, HD, HR, HB, HSz⟩ := four_boxesF W #[.int .i64 t.id, .string t.nm, .int .i64 t.rep, .int .i64 t.kind, .slice ta t.sub.length tc] #[.int .i64 p.id, .string p.nm, .int .i64 p.rep, .int .i64 p.kind, .slice pa p.sub.length pc] #[.bool false, .int .i64 d.v.k, .int .i64 d.v.n, .string d.v.s, .slice al d.l.length cl, .slice af d.f.length cf] #[.bool false, .int .i64 0, .int .i64 0, .string ⟨#[]⟩, .slice none 0 0, .slice none 0 0] 24 24 56 56
 obtain ⟨w1, HW1, HO, HB1⟩ := one_box w0 #[.bool false, .int .i64 0, .int .i64 0, .string ⟨#[]⟩, .slice none 0 0, .slice none 0 0] 56
 have hs1 : w1.heap.size = w0.heap.size + 1 := by rw [← HW1.out]; simp
 have HS : Hid (CuK true w0.heap.size w1 [] w1 (.slice none 0 0) []) := ⟨HO.out, rfl, fun x hx => by simp at hx, World.ownsRow_nil _ _ _ _, fun j h => absurd h (by simp), Below.refl _ _, by omega⟩
 have HLT : Hid (LiesN W P ta t.sub) := hlt
 have HLP : Hid (LiesN W Q pa p.sub) := hlp
 have HDL : Hid (LiesD W R al d.l) := hdl
 have HOo : Hid (∀ j (h : j < d.l.length), CfP p t true d.l[j]) := ho
 obtain ⟨us, HUs⟩ := hid_name (d.l.map (cut1 p t))
 have HUl : Hid (us.length = d.l.length) := (by show _ = _; rw [← HUs.out, List.length_map])
 have HUe : Hid (∀ j (h : j < us.length) (h' : j < d.l.length), us[j] = cut1 p t d.l[j]) := fun j h h' => (by simp only [← HUs.out, List.getElem_map])
 have hcd : (if false = true then cut1 p t d else cutT p t d) = .mk false zV us [] := by rw [if_neg (by simp), cutT_eq, if_pos hr, HUs.out]
 rw [hcd]
 have q1 : (t.kind == 0) = true := by simp [hk]
 have q3 : (t.kind != 0) = false := by simp [hk]
 have q2 : (t.rep == 3) = true := by simp [hr]
 obtain ⟨⟨p0, p1, p2, p3, p4⟩, _⟩ := row_five HT.out
 obtain ⟨d0, d1, d2, d3, d4, d5⟩ := row_six HD.out
 have hb1 := HB1.out
 have p2' := (hb1.cell (World.block_lt_of_cell? w0 _ p2)).trans p2
 clear hlt hlp hdl hdf ho hcd hk hr
 unfold nodeV datumV
 rw [hno]
 clear hno
 go_enter Tryz.func21, Tryz.ntmps21
 go_upto_region 1 with fail
 rw [HW0.out]
 go_upto_region 4 with fail
 rw [HW1.out]
 clear p0 p1 p2 p3 p4 d0 d1 d2 d3 d4 d5 hb1
 go_wp2_with fail
 go_loopw [10] (fun x wr => ∃ (i : Nat) (l : Value) (ncs : List (List Value)), i ≤ d.l.length ∧ x = .int .i64 i ∧ Hid (CuK true w0.heap.size w1 (us.take i) wr l ncs)) (fun x _ => d.l.length - (intOf x).toNat)
 case atStart => exact ⟨0, _, [], Nat.zero_le _, rfl, HS⟩
 case round =>
  clear HS p2'
  obtain ⟨i, l, ncs, hik, rfl, HC⟩ := hrel
  have hfl : (us.take i).length = i := by rw [List.length_take, HUl.out]; omega
  obtain ⟨la, lc, hlv⟩ := HC.out.shape
  rw [hfl] at hlv
  subst hlv
  have hbw : Below w0.heap.size w1 wr := HC.out.old
  have HBr : Hid (Below W.heap.size W wr) := HB.out.trans ((HB1.out.mono HB.out.size).trans (hbw.mono HB.out.size))
  have HT2 : Hid _ := (hbw.block W.heap.size (by have := HSz.out; omega)).trans (blk_keep HB1.out HT.out)
  have HP2 : Hid _ := (hbw.block (W.heap.size + 1) (by have := HSz.out; omega)).trans (blk_keep HB1.out HP.out)
  have HD2 : Hid _ := (hbw.block (W.heap.size + 1 + 1) (by have := HSz.out; omega)).trans (blk_keep HB1.out HD.out)
  have HR2 : Hid _ := (hbw.block (W.heap.size + 1 + 1 + 1) (by have := HSz.out; omega)).trans (blk_keep HB1.out HR.out)
  obtain ⟨⟨p0, p1, p2, p3, p4⟩, _⟩ := row_five HT2.out
  obtain ⟨⟨i0, i1, i2, i3, i4⟩, _⟩ := row_five HP2.out
  obtain ⟨d0, d1, d2, d3, d4, d5⟩ := row_six HD2.out
  obtain ⟨o0, o1, o2, o3, o4, o5⟩ := row_six HC.out.out
  by_cases hlt : i < d.l.length
  · obtain ⟨b, o, a1, c1, a2, c2, ea, ⟨e0, e1, e2, e3, e4, e5⟩, hl1, hl2⟩ := (HDL.out.keep HBr.out).at_ i hlt
    subst ea
    have hus : i < us.length := by rw [HUl.out]; exact hlt
    have HUi : Hid (us[i] = cut1 p t d.l[i]) := HUe.out i hus hlt
    have hC := HOo.out i hlt P Q R ta tc pa pc a1 c1 a2 c2 wr.drew ((HLT.out.keep HBr.out).keep (Below.refl _ _).drew) ((HLP.out.keep HBr.out).keep (Below.refl _ _).drew) (hl1.keep (Below.refl _ _).drew) (hl2.keep (Below.refl _ _).drew)
    rw [if_pos rfl, ← HUi.out] at hC
    unfold nodeV datumV at hC
    have HCa : Hid _ := hC
    clear hl1 hl2 hC
    obtain ⟨y, HY⟩ := hid_name us[i]
    rw [HY.out] at HCa
    obtain ⟨z, HZn⟩ := hid_name d.l[i]
    rw [HZn.out] at HCa e0 e1 e2 e3 e4 e5
    have HRow : Hid (wr.ownsRow (w0.heap.size + 1) 56 6 (.slice la i lc) i ncs.flatten) := (by have h := HC.out.row; rw [hfl] at h; exact h)
    have HPu : Hid (∀ (wx w3 : World) (l' : Value) (al af : Option Addr) (cl cf : Nat) (ob : Obj), Below wr.heap.size wr wx → LiesD wx (fun b => wr.heap.size ≤ b) al y.l → LiesD wx (fun b => wr.heap.size ≤ b) af y.f → w3.ownsRow (w0.heap.size + 1) 56 6 l' (i + 1) (ncs.flatten ++ [.bool y.no, .int .i64 y.v.k, .int .i64 y.v.n, .string y.v.s, .slice al y.l.length cl, .slice af y.f.length cf]) → (wx.alloc ob).grownBy w3 (Value.slice la i lc).ownBlock → (l'.ownBlock = (Value.slice la i lc).ownBlock ∧ (Value.slice la i lc).ownBlock ≠ none ∨ l'.ownBlock = some (wx.alloc ob).heap.size) → ∃ ncs', CuK true w0.heap.size w1 (us.take (i + 1)) (w3.setCell ⟨w0.heap.size, 4, none⟩ l') l' ncs') := fun wx w3 l' al af cl cf ob h1 h2 h3 h4 h5 h6 => (by
     have h := HC.out.push (x := y) (w1 := wx) (w2 := w3) (l' := l') (al := al) (af := af) (cl := cl) (cf := cf) h1 h2 h3 (ob := ob) (by rw [hfl]; exact h4) h5 h6
     rw [List.take_succ_eq_append_getElem hus, HY.out]
     exact ⟨_, h⟩)
    have HTh : Hid (∀ (wx w3 : World) (ob : Obj), Below wr.heap.size wr wx → (wx.alloc ob).grownBy w3 (Value.slice la i lc).ownBlock → w3.heap[w0.heap.size]? = some (.cells #[.bool false, .int .i64 0, .int .i64 0, .string ⟨#[]⟩, .slice la i lc, .slice none 0 0] 56 (0, 0))) := fun wx w3 ob h1 h2 => (HC.out.three h1 h2 (Nat.lt_succ_self _)).trans HC.out.out
    have hgs : w0.heap.size < wr.heap.size := lt_of_block HC.out.out
    have HGw : Hid (∀ (wx w3 : World) (ob : Obj), Below wr.heap.size wr wx → (wx.alloc ob).grownBy w3 (Value.slice la i lc).ownBlock → KcB w0.heap.size wr w3) := fun wx w3 ob h1 h2 => fun b hb => HC.out.three h1 h2 (by omega)
    have HKB : Hid (∀ X, Below wr.heap.size wr X → KcB w0.heap.size wr X) := fun X hX => KcB.below hX (Nat.le_of_lt hgs)
    have HN : Hid (∀ X, KcB w0.heap.size wr X → (X.cell? ⟨W.heap.size, 0, none⟩ = some (.int .i64 t.id) ∧ X.cell? ⟨W.heap.size, 1, none⟩ = some (.string t.nm) ∧ X.cell? ⟨W.heap.size, 2, none⟩ = some (.int .i64 t.rep) ∧ X.cell? ⟨W.heap.size, 3, none⟩ = some (.int .i64 t.kind) ∧ X.cell? ⟨W.heap.size, 4, none⟩ = some (.slice ta t.sub.length tc)) ∧ (X.cell? ⟨W.heap.size + 1, 0, none⟩ = some (.int .i64 p.id) ∧ X.cell? ⟨W.heap.size + 1, 1, none⟩ = some (.string p.nm) ∧ X.cell? ⟨W.heap.size + 1, 2, none⟩ = some (.int .i64 p.rep) ∧ X.cell? ⟨W.heap.size + 1, 3, none⟩ = some (.int .i64 p.kind) ∧ X.cell? ⟨W.heap.size + 1, 4, none⟩ = some (.slice pa p.sub.length pc)) ∧ (X.cell? ⟨W.heap.size + 1 + 1, 0, none⟩ = some (.bool false) ∧ X.cell? ⟨W.heap.size + 1 + 1, 1, none⟩ = some (.int .i64 d.v.k) ∧ X.cell? ⟨W.heap.size + 1 + 1, 2, none⟩ = some (.int .i64 d.v.n) ∧ X.cell? ⟨W.heap.size + 1 + 1, 3, none⟩ = some (.string d.v.s) ∧ X.cell? ⟨W.heap.size + 1 + 1, 4, none⟩ = some (.slice (some ⟨b, o, none⟩) d.l.length cl) ∧ X.cell? ⟨W.heap.size + 1 + 1, 5, none⟩ = some (.slice af d.f.length cf)) ∧ (X.cell? ⟨b, o + i * 6, none⟩ = some (.bool z.no) ∧ X.cell? ⟨b, o + i * 6 + 1, none⟩ = some (.int .i64 z.v.k) ∧ X.cell? ⟨b, o + i * 6 + 2, none⟩ = some (.int .i64 z.v.n) ∧ X.cell? ⟨b, o + i * 6 + 3, none⟩ = some (.string z.v.s) ∧ X.cell? ⟨b, o + i * 6 + 4, none⟩ = some (.slice a1 z.l.length c1) ∧ X.cell? ⟨b, o + i * 6 + 5, none⟩ = some (.slice a2 z.f.length c2))) := fun X hX => (by
     have hz := HSz.out
     have k : ∀ (bb oo : Nat) (u : Value), bb < w0.heap.size → wr.cell? ⟨bb, oo, none⟩ = some u → X.cell? ⟨bb, oo, none⟩ = some u := fun bb oo u hb h => by
      rw [World.cell?_of_block (hX bb hb)]
      exact h
     have hb0 : b < w0.heap.size := by
      obtain ⟨b2, o2, _, _, _, _, e9, ⟨z0, _⟩, _⟩ := HDL.out.at_ i hlt
      injection e9 with e9
      injection e9 with e9 _ _
      rw [e9]
      have := World.block_lt_of_cell? W _ z0
      have : b2 < W.heap.size := this
      omega
     exact ⟨⟨k _ _ _ (by omega) p0, k _ _ _ (by omega) p1, k _ _ _ (by omega) p2, k _ _ _ (by omega) p3, k _ _ _ (by omega) p4⟩, ⟨k _ _ _ (by omega) i0, k _ _ _ (by omega) i1, k _ _ _ (by omega) i2, k _ _ _ (by omega) i3, k _ _ _ (by omega) i4⟩, ⟨k _ _ _ (by omega) d0, k _ _ _ (by omega) d1, k _ _ _ (by omega) d2, k _ _ _ (by omega) d3, k _ _ _ (by omega) d4, k _ _ _ (by omega) d5⟩, ⟨k _ _ _ hb0 e0, k _ _ _ hb0 e1, k _ _ _ hb0 e2, k _ _ _ hb0 e3, k _ _ _ hb0 e4, k _ _ _ hb0 e5⟩⟩)
    go_wp2_with fail
    clear p0 p1 p2 p3 p4 i0 i1 i2 i3 i4 d0 d1 d2 d3 d4 d5 e0 e1 e2 e3 e4 e5
    refine wp_region_held_drew (S := (KcB w0.heap.size wr)) (by kernel_rfl) (KcB.drew (KcB.refl _ _)) (fun hH0 => ?_)
    refine wpAnyH_take (i := 0) (oi := { dst := some 37, op := Go.Op.fieldAddr 56 (Go.Operand.tmp 9) 2, type := 0, pos := "data.go:358", after := #[], guard := none }) (v := ?vc0) rfl (by kernel_rfl) (by kernel_rfl) (by kernel_rfl) (fun _ _ _ h => h) (Or.inl ⟨by rfl, ?hyc0⟩) hH0 ?_
    case hyc0 => (intro w hSw; obtain ⟨⟨p0, p1, p2, p3, p4⟩, ⟨i0, i1, i2, i3, i4⟩, ⟨d0, d1, d2, d3, d4, d5⟩, ⟨e0, e1, e2, e3, e4, e5⟩⟩ := HN.out w hSw; go_simp; (first | done | with_reducible rfl))
    (try simp only [Act.put, List.setIfInBounds_toArray, List.set_cons_zero, List.set_cons_succ])
    refine wpAnyH_take (i := 2) (oi := { dst := some 39, op := Go.Op.load 24 (Go.Operand.tmp 4), type := 24, pos := "data.go:358", after := #[], guard := none }) (v := ?vc2) rfl (by kernel_rfl) (by kernel_rfl) (by kernel_rfl) (fun _ _ _ h => h) (Or.inl ⟨by rfl, ?hyc2⟩) hH0 ?_
    case hyc2 => (intro w hSw; obtain ⟨⟨p0, p1, p2, p3, p4⟩, ⟨i0, i1, i2, i3, i4⟩, ⟨d0, d1, d2, d3, d4, d5⟩, ⟨e0, e1, e2, e3, e4, e5⟩⟩ := HN.out w hSw; go_simp; (first | done | with_reducible rfl))
    (try simp only [Act.put, List.setIfInBounds_toArray, List.set_cons_zero, List.set_cons_succ])
    refine wpAnyH_take (i := 3) (oi := { dst := some 40, op := Go.Op.load 24 (Go.Operand.tmp 5), type := 24, pos := "data.go:358", after := #[], guard := none }) (v := ?vc3) rfl (by kernel_rfl) (by kernel_rfl) (by kernel_rfl) (fun _ _ _ h => h) (Or.inl ⟨by rfl, ?hyc3⟩) hH0 ?_
    case hyc3 => (intro w hSw; obtain ⟨⟨p0, p1, p2, p3, p4⟩, ⟨i0, i1, i2, i3, i4⟩, ⟨d0, d1, d2, d3, d4, d5⟩, ⟨e0, e1, e2, e3, e4, e5⟩⟩ := HN.out w hSw; go_simp; (first | done | with_reducible rfl))
    (try simp only [Act.put, List.setIfInBounds_toArray, List.set_cons_zero, List.set_cons_succ])
    refine wpAnyH_take (i := 4) (oi := { dst := some 41, op := Go.Op.fieldAddr 56 (Go.Operand.tmp 6) 2, type := 0, pos := "data.go:358", after := #[], guard := none }) (v := ?vc4) rfl (by kernel_rfl) (by kernel_rfl) (by kernel_rfl) (fun _ _ _ h => h) (Or.inl ⟨by rfl, ?hyc4⟩) hH0 ?_
    case hyc4 => (intro w hSw; obtain ⟨⟨p0, p1, p2, p3, p4⟩, ⟨i0, i1, i2, i3, i4⟩, ⟨d0, d1, d2, d3, d4, d5⟩, ⟨e0, e1, e2, e3, e4, e5⟩⟩ := HN.out w hSw; go_simp; (first | done | with_reducible rfl))
    (try simp only [Act.put, List.setIfInBounds_toArray, List.set_cons_zero, List.set_cons_succ])
    refine wpAnyH_take (i := 5) (oi := { dst := some 42, op := Go.Op.load 26 (Go.Operand.tmp 41), type := 26, pos := "data.go:358", after := #[{ on := 4, ground := Go.Ground.data }], guard := none }) (v := ?vc5) rfl (by kernel_rfl) (by kernel_rfl) (by kernel_rfl) (fun _ _ _ h => h) (Or.inl ⟨by rfl, ?hyc5⟩) hH0 ?_
    case hyc5 => (intro w hSw; obtain ⟨⟨p0, p1, p2, p3, p4⟩, ⟨i0, i1, i2, i3, i4⟩, ⟨d0, d1, d2, d3, d4, d5⟩, ⟨e0, e1, e2, e3, e4, e5⟩⟩ := HN.out w hSw; go_simp; (first | done | with_reducible rfl))
    (try simp only [Act.put, List.setIfInBounds_toArray, List.set_cons_zero, List.set_cons_succ])
    refine wpAnyH_take (i := 6) (oi := { dst := some 43, op := Go.Op.move (Go.Operand.tmp 10), type := 3, pos := "data.go:358", after := #[], guard := none }) (v := ?vc6) rfl (by kernel_rfl) (by kernel_rfl) (by kernel_rfl) (fun _ _ _ h => h) (Or.inl ⟨by rfl, ?hyc6⟩) hH0 ?_
    case hyc6 => (intro w hSw; obtain ⟨⟨p0, p1, p2, p3, p4⟩, ⟨i0, i1, i2, i3, i4⟩, ⟨d0, d1, d2, d3, d4, d5⟩, ⟨e0, e1, e2, e3, e4, e5⟩⟩ := HN.out w hSw; go_simp; (first | done | with_reducible rfl))
    (try simp only [Act.put, List.setIfInBounds_toArray, List.set_cons_zero, List.set_cons_succ])
    refine wpAnyH_take (i := 7) (oi := { dst := some 44, op := Go.Op.indexAddr 26 (Go.Operand.tmp 42) (Go.Operand.tmp 43), type := 0, pos := "data.go:358", after := #[{ on := 5, ground := Go.Ground.data }, { on := 6, ground := Go.Ground.data }], guard := none }) (v := ?vc7) rfl (by kernel_rfl) (by kernel_rfl) (by kernel_rfl) (fun _ _ _ h => h) (Or.inl ⟨by rfl, ?hyc7⟩) hH0 ?_
    case hyc7 => (intro w hSw; obtain ⟨⟨p0, p1, p2, p3, p4⟩, ⟨i0, i1, i2, i3, i4⟩, ⟨d0, d1, d2, d3, d4, d5⟩, ⟨e0, e1, e2, e3, e4, e5⟩⟩ := HN.out w hSw; go_simp; (first | done | with_reducible rfl))
    (try simp only [Act.put, List.setIfInBounds_toArray, List.set_cons_zero, List.set_cons_succ])
    refine wpAnyH_take (i := 8) (oi := { dst := some 45, op := Go.Op.load 56 (Go.Operand.tmp 44), type := 56, pos := "data.go:358", after := #[{ on := 7, ground := Go.Ground.data }], guard := none }) (v := ?vc8) rfl (by kernel_rfl) (by kernel_rfl) (by kernel_rfl) (fun _ _ _ h => h) (Or.inl ⟨by rfl, ?hyc8⟩) hH0 ?_
    case hyc8 => (intro w hSw; obtain ⟨⟨p0, p1, p2, p3, p4⟩, ⟨i0, i1, i2, i3, i4⟩, ⟨d0, d1, d2, d3, d4, d5⟩, ⟨e0, e1, e2, e3, e4, e5⟩⟩ := HN.out w hSw; go_simp; (first | done | with_reducible rfl))
    (try simp only [Act.put, List.setIfInBounds_toArray, List.set_cons_zero, List.set_cons_succ])
    refine wpAnyH_ready (rs := [1, 9]) (by kernel_rfl) (by simp) ?_
    refine AllReadyH.cons (o := { dst := some 38, op := Go.Op.load 26 (Go.Operand.tmp 37), type := 26, pos := "data.go:358", after := #[{ on := 0, ground := Go.Ground.data }], guard := none }) rfl (fun K hK => ?_) ?_
    · go_simp
      refine hK.out _ _ hH0 (fun hH1 => ?_)
      (try simp only [Act.put, List.setIfInBounds_toArray, List.set_cons_zero, List.set_cons_succ])
      refine wpAnyH_ready (rs := [9]) (by kernel_rfl) (by simp) ?_
      refine AllReadyH.cons (o := { dst := some 46, op := Go.Op.call { callee := Go.Callee.value (Go.Operand.func 21), args := #[Go.Operand.tmp 39, Go.Operand.tmp 40, Go.Operand.tmp 45, Go.Operand.const (Go.Value.bool true)], argTypes := #[24, 24, 56, 4] }, type := 56, pos := "data.go:358", after := #[{ on := 2, ground := Go.Ground.data }, { on := 3, ground := Go.Ground.data }, { on := 8, ground := Go.Ground.data }], guard := none }) rfl (fun K hK => ?_) AllReadyH.nil
      go_simp
      (go_at_call 21; refine Calls.mono HCa.out ?_; rintro e w4 ⟨⟨yl, ycl, yf, ycf, rfl, hyl, hyf⟩, hb4⟩)
      have HYL : Hid (LiesD w4 (fun b => wr.heap.size ≤ b) yl y.l) := hyl
      have HYF : Hid (LiesD w4 (fun b => wr.heap.size ≤ b) yf y.f) := hyf
      have HB4 : Hid (Below wr.heap.size wr w4) := (Below.refl _ _).drew.trans hb4
      clear hyl hyf hb4
      have hK4 : KcB w0.heap.size wr w4 := HKB.out w4 HB4.out
      have r5a : w4.cell? ⟨w0.heap.size, 4, none⟩ = some (.slice la i lc) := (HB4.out.cell (World.block_lt_of_cell? wr _ o4)).trans o4
      go_wp2_with fail
      refine hK.out _ _ hK4 (fun hH2 => ?_)
      (try simp only [Act.put, List.setIfInBounds_toArray, List.set_cons_zero, List.set_cons_succ])
      refine wpAnyH_ready (rs := [10]) (by kernel_rfl) (by simp) ?_
      refine AllReadyH.cons (o := { dst := some 47, op := Go.Op.buildSlice 26 1 #[(0, Go.Operand.tmp 46)], type := 26, pos := "data.go:358", after := #[{ on := 9, ground := Go.Ground.data }], guard := none }) rfl (fun K hK => ?_) AllReadyH.nil
      go_simp
      have hB5 : Below wr.heap.size wr (w4.alloc (.cells #[.bool y.no, .int .i64 y.v.k, .int .i64 y.v.n, .string y.v.s, .slice yl y.l.length ycl, .slice yf y.f.length ycf] 56)) := HB4.out.alloc HB4.out.size _
      have r5b : (w4.alloc (.cells #[.bool y.no, .int .i64 y.v.k, .int .i64 y.v.n, .string y.v.s, .slice yl y.l.length ycl, .slice yf y.f.length ycf] 56)).cell? ⟨w0.heap.size, 4, none⟩ = some (.slice la i lc) := (hB5.cell (World.block_lt_of_cell? wr _ o4)).trans o4
      refine hK.out _ _ (HKB.out _ hB5) (fun hH3 => ?_)
      (try simp only [Act.put, List.setIfInBounds_toArray, List.set_cons_zero, List.set_cons_succ])
      refine wpAnyH_ready (rs := [11]) (by kernel_rfl) (by simp) ?_
      refine AllReadyH.cons (o := { dst := some 48, op := Go.Op.call { callee := Go.Callee.builtin Go.Builtin.append, args := #[Go.Operand.tmp 38, Go.Operand.tmp 47], argTypes := #[26, 26] }, type := 26, pos := "data.go:358", after := #[{ on := 1, ground := Go.Ground.data }, { on := 10, ground := Go.Ground.data }, { on := 9, ground := Go.Ground.chain }], guard := none }) rfl (fun K hK => ?_) AllReadyH.nil
      (refine step_own_where _ rfl _ _ 26 rfl (w0.heap.size + 1) 56 iv (.agg #[.bool false, .int .i64 0, .int .i64 0, .string ⟨#[]⟩, .slice none 0 0, .slice none 0 0]) 6 88 Tryz.underlying26 hvi hv0 hv1 hv2 rfl (by decide) _ i ncs.flatten rfl ((ow_kept HRow.out HB4.out).alloc _) ⟨w4.heap.size, 0, none⟩ 1 1 [.bool y.no, .int .i64 y.v.k, .int .i64 y.v.n, .string y.v.s, .slice yl y.l.length ycl, .slice yf y.f.length ycf] rfl rfl six_cells (by intro u hu; simp at hu; rcases hu with rfl | rfl | rfl | rfl | rfl | rfl <;> rfl) (by unfold maxLen; omega) (by omega) (by have := HB4.out.size; simp; omega) (by decide) ?_; intro l' w5 hown5 hgrow5 hwh5)
      obtain ⟨ncs', hdn⟩ := HPu.out _ _ _ _ _ _ _ _ HB4.out HYL.out HYF.out hown5 hgrow5 hwh5
      have HDn : Hid _ := hdn
      obtain ⟨a9, c9, hl9⟩ := own_sh6 hown5
      subst hl9
      have hO5 := HTh.out _ _ _ HB4.out hgrow5
      obtain ⟨y0, y1, y2, y3, y4, y5⟩ := row_six hO5
      obtain ⟨q0, q1, q2, q3, q4, q5⟩ := row_six_z hO5
      have hK5 : KcB w0.heap.size wr w5 := HGw.out _ _ _ HB4.out hgrow5
      clear hown5 hgrow5 hwh5 hO5 hdn
      refine hK.out _ _ hK5 (fun hH4 => ?_)
      (try simp only [Act.put, List.setIfInBounds_toArray, List.set_cons_zero, List.set_cons_succ])
      refine wpAnyH_take (i := 12) (oi := { dst := some 49, op := Go.Op.fieldAddr 56 (Go.Operand.tmp 9) 2, type := 0, pos := "data.go:358", after := #[{ on := 0, ground := Go.Ground.phase }, { on := 1, ground := Go.Ground.phase }, { on := 2, ground := Go.Ground.phase }, { on := 3, ground := Go.Ground.phase }, { on := 4, ground := Go.Ground.phase }, { on := 5, ground := Go.Ground.phase }, { on := 6, ground := Go.Ground.phase }, { on := 7, ground := Go.Ground.phase }, { on := 8, ground := Go.Ground.phase }, { on := 9, ground := Go.Ground.phase }, { on := 10, ground := Go.Ground.phase }, { on := 11, ground := Go.Ground.phase }], guard := none }) (v := .pointer (some ⟨w0.heap.size, 4, none⟩)) rfl (by kernel_rfl) (by kernel_rfl) (by kernel_rfl) (fun _ _ _ h => h) (Or.inl ⟨by rfl, (by intro w hSw; go_simp; done)⟩) hH4 ?_
      (try simp only [Act.put, List.setIfInBounds_toArray, List.set_cons_zero, List.set_cons_succ])
      refine wpAnyH_ready (rs := [13]) (by kernel_rfl) (by simp) ?_
      refine AllReadyH.cons (o := { dst := none, op := Go.Op.store 26 (Go.Operand.tmp 49) (Go.Operand.tmp 48), type := 0, pos := "data.go:358", after := #[{ on := 12, ground := Go.Ground.data }, { on := 11, ground := Go.Ground.data }, { on := 11, ground := Go.Ground.chain }, { on := 0, ground := Go.Ground.phase }, { on := 1, ground := Go.Ground.phase }, { on := 2, ground := Go.Ground.phase }, { on := 3, ground := Go.Ground.phase }, { on := 4, ground := Go.Ground.phase }, { on := 5, ground := Go.Ground.phase }, { on := 6, ground := Go.Ground.phase }, { on := 7, ground := Go.Ground.phase }, { on := 8, ground := Go.Ground.phase }, { on := 9, ground := Go.Ground.phase }, { on := 10, ground := Go.Ground.phase }, { on := 11, ground := Go.Ground.phase }], guard := none }) rfl (fun K hK => ?_) AllReadyH.nil
      go_simp
      refine hK.out _ _ (KcB.put hK5 _) (fun hH5 => ?_)
      (try simp only [Act.put, List.setIfInBounds_toArray, List.set_cons_zero, List.set_cons_succ])
      refine wpAnyH_done (by kernel_rfl) ?_ _
      go_wp2
      go_roundw
      case rel => exact ⟨i + 1, _, _, hlt, by go_num, HDn⟩
      case measure => simp [intOf]; omega
    refine AllReadyH.cons (o := { dst := some 46, op := Go.Op.call { callee := Go.Callee.value (Go.Operand.func 21), args := #[Go.Operand.tmp 39, Go.Operand.tmp 40, Go.Operand.tmp 45, Go.Operand.const (Go.Value.bool true)], argTypes := #[24, 24, 56, 4] }, type := 56, pos := "data.go:358", after := #[{ on := 2, ground := Go.Ground.data }, { on := 3, ground := Go.Ground.data }, { on := 8, ground := Go.Ground.data }], guard := none }) rfl (fun K hK => ?_) AllReadyH.nil
    go_simp
    (go_at_call 21; refine Calls.mono HCa.out ?_; rintro e w4 ⟨⟨yl, ycl, yf, ycf, rfl, hyl, hyf⟩, hb4⟩)
    have HYL : Hid (LiesD w4 (fun b => wr.heap.size ≤ b) yl y.l) := hyl
    have HYF : Hid (LiesD w4 (fun b => wr.heap.size ≤ b) yf y.f) := hyf
    have HB4 : Hid (Below wr.heap.size wr w4) := (Below.refl _ _).drew.trans hb4
    clear hyl hyf hb4
    have hK4 : KcB w0.heap.size wr w4 := HKB.out w4 HB4.out
    have r5a : w4.cell? ⟨w0.heap.size, 4, none⟩ = some (.slice la i lc) := (HB4.out.cell (World.block_lt_of_cell? wr _ o4)).trans o4
    go_wp2_with fail
    refine hK.out _ _ hK4 (fun hH2 => ?_)
    (try simp only [Act.put, List.setIfInBounds_toArray, List.set_cons_zero, List.set_cons_succ])
    refine wpAnyH_ready (rs := [1, 10]) (by kernel_rfl) (by simp) ?_
    refine AllReadyH.cons (o := { dst := some 38, op := Go.Op.load 26 (Go.Operand.tmp 37), type := 26, pos := "data.go:358", after := #[{ on := 0, ground := Go.Ground.data }], guard := none }) rfl (fun K hK => ?_) ?_
    · go_simp
      refine hK.out _ _ hK4 (fun hH1 => ?_)
      (try simp only [Act.put, List.setIfInBounds_toArray, List.set_cons_zero, List.set_cons_succ])
      refine wpAnyH_ready (rs := [10]) (by kernel_rfl) (by simp) ?_
      refine AllReadyH.cons (o := { dst := some 47, op := Go.Op.buildSlice 26 1 #[(0, Go.Operand.tmp 46)], type := 26, pos := "data.go:358", after := #[{ on := 9, ground := Go.Ground.data }], guard := none }) rfl (fun K hK => ?_) AllReadyH.nil
      go_simp
      have hB5 : Below wr.heap.size wr (w4.alloc (.cells #[.bool y.no, .int .i64 y.v.k, .int .i64 y.v.n, .string y.v.s, .slice yl y.l.length ycl, .slice yf y.f.length ycf] 56)) := HB4.out.alloc HB4.out.size _
      have r5b : (w4.alloc (.cells #[.bool y.no, .int .i64 y.v.k, .int .i64 y.v.n, .string y.v.s, .slice yl y.l.length ycl, .slice yf y.f.length ycf] 56)).cell? ⟨w0.heap.size, 4, none⟩ = some (.slice la i lc) := (hB5.cell (World.block_lt_of_cell? wr _ o4)).trans o4
      refine hK.out _ _ (HKB.out _ hB5) (fun hH3 => ?_)
      (try simp only [Act.put, List.setIfInBounds_toArray, List.set_cons_zero, List.set_cons_succ])
      refine wpAnyH_ready (rs := [11]) (by kernel_rfl) (by simp) ?_
      refine AllReadyH.cons (o := { dst := some 48, op := Go.Op.call { callee := Go.Callee.builtin Go.Builtin.append, args := #[Go.Operand.tmp 38, Go.Operand.tmp 47], argTypes := #[26, 26] }, type := 26, pos := "data.go:358", after := #[{ on := 1, ground := Go.Ground.data }, { on := 10, ground := Go.Ground.data }, { on := 9, ground := Go.Ground.chain }], guard := none }) rfl (fun K hK => ?_) AllReadyH.nil
      (refine step_own_where _ rfl _ _ 26 rfl (w0.heap.size + 1) 56 iv (.agg #[.bool false, .int .i64 0, .int .i64 0, .string ⟨#[]⟩, .slice none 0 0, .slice none 0 0]) 6 88 Tryz.underlying26 hvi hv0 hv1 hv2 rfl (by decide) _ i ncs.flatten rfl ((ow_kept HRow.out HB4.out).alloc _) ⟨w4.heap.size, 0, none⟩ 1 1 [.bool y.no, .int .i64 y.v.k, .int .i64 y.v.n, .string y.v.s, .slice yl y.l.length ycl, .slice yf y.f.length ycf] rfl rfl six_cells (by intro u hu; simp at hu; rcases hu with rfl | rfl | rfl | rfl | rfl | rfl <;> rfl) (by unfold maxLen; omega) (by omega) (by have := HB4.out.size; simp; omega) (by decide) ?_; intro l' w5 hown5 hgrow5 hwh5)
      obtain ⟨ncs', hdn⟩ := HPu.out _ _ _ _ _ _ _ _ HB4.out HYL.out HYF.out hown5 hgrow5 hwh5
      have HDn : Hid _ := hdn
      obtain ⟨a9, c9, hl9⟩ := own_sh6 hown5
      subst hl9
      have hO5 := HTh.out _ _ _ HB4.out hgrow5
      obtain ⟨y0, y1, y2, y3, y4, y5⟩ := row_six hO5
      obtain ⟨q0, q1, q2, q3, q4, q5⟩ := row_six_z hO5
      have hK5 : KcB w0.heap.size wr w5 := HGw.out _ _ _ HB4.out hgrow5
      clear hown5 hgrow5 hwh5 hO5 hdn
      refine hK.out _ _ hK5 (fun hH4 => ?_)
      (try simp only [Act.put, List.setIfInBounds_toArray, List.set_cons_zero, List.set_cons_succ])
      refine wpAnyH_take (i := 12) (oi := { dst := some 49, op := Go.Op.fieldAddr 56 (Go.Operand.tmp 9) 2, type := 0, pos := "data.go:358", after := #[{ on := 0, ground := Go.Ground.phase }, { on := 1, ground := Go.Ground.phase }, { on := 2, ground := Go.Ground.phase }, { on := 3, ground := Go.Ground.phase }, { on := 4, ground := Go.Ground.phase }, { on := 5, ground := Go.Ground.phase }, { on := 6, ground := Go.Ground.phase }, { on := 7, ground := Go.Ground.phase }, { on := 8, ground := Go.Ground.phase }, { on := 9, ground := Go.Ground.phase }, { on := 10, ground := Go.Ground.phase }, { on := 11, ground := Go.Ground.phase }], guard := none }) (v := .pointer (some ⟨w0.heap.size, 4, none⟩)) rfl (by kernel_rfl) (by kernel_rfl) (by kernel_rfl) (fun _ _ _ h => h) (Or.inl ⟨by rfl, (by intro w hSw; go_simp; done)⟩) hH4 ?_
      (try simp only [Act.put, List.setIfInBounds_toArray, List.set_cons_zero, List.set_cons_succ])
      refine wpAnyH_ready (rs := [13]) (by kernel_rfl) (by simp) ?_
      refine AllReadyH.cons (o := { dst := none, op := Go.Op.store 26 (Go.Operand.tmp 49) (Go.Operand.tmp 48), type := 0, pos := "data.go:358", after := #[{ on := 12, ground := Go.Ground.data }, { on := 11, ground := Go.Ground.data }, { on := 11, ground := Go.Ground.chain }, { on := 0, ground := Go.Ground.phase }, { on := 1, ground := Go.Ground.phase }, { on := 2, ground := Go.Ground.phase }, { on := 3, ground := Go.Ground.phase }, { on := 4, ground := Go.Ground.phase }, { on := 5, ground := Go.Ground.phase }, { on := 6, ground := Go.Ground.phase }, { on := 7, ground := Go.Ground.phase }, { on := 8, ground := Go.Ground.phase }, { on := 9, ground := Go.Ground.phase }, { on := 10, ground := Go.Ground.phase }, { on := 11, ground := Go.Ground.phase }], guard := none }) rfl (fun K hK => ?_) AllReadyH.nil
      go_simp
      refine hK.out _ _ (KcB.put hK5 _) (fun hH5 => ?_)
      (try simp only [Act.put, List.setIfInBounds_toArray, List.set_cons_zero, List.set_cons_succ])
      refine wpAnyH_done (by kernel_rfl) ?_ _
      go_wp2
      go_roundw
      case rel => exact ⟨i + 1, _, _, hlt, by go_num, HDn⟩
      case measure => simp [intOf]; omega
    refine AllReadyH.cons (o := { dst := some 47, op := Go.Op.buildSlice 26 1 #[(0, Go.Operand.tmp 46)], type := 26, pos := "data.go:358", after := #[{ on := 9, ground := Go.Ground.data }], guard := none }) rfl (fun K hK => ?_) AllReadyH.nil
    go_simp
    have hB5 : Below wr.heap.size wr (w4.alloc (.cells #[.bool y.no, .int .i64 y.v.k, .int .i64 y.v.n, .string y.v.s, .slice yl y.l.length ycl, .slice yf y.f.length ycf] 56)) := HB4.out.alloc HB4.out.size _
    have r5b : (w4.alloc (.cells #[.bool y.no, .int .i64 y.v.k, .int .i64 y.v.n, .string y.v.s, .slice yl y.l.length ycl, .slice yf y.f.length ycf] 56)).cell? ⟨w0.heap.size, 4, none⟩ = some (.slice la i lc) := (hB5.cell (World.block_lt_of_cell? wr _ o4)).trans o4
    refine hK.out _ _ (HKB.out _ hB5) (fun hH3 => ?_)
    (try simp only [Act.put, List.setIfInBounds_toArray, List.set_cons_zero, List.set_cons_succ])
    refine wpAnyH_ready (rs := [1]) (by kernel_rfl) (by simp) ?_
    refine AllReadyH.cons (o := { dst := some 38, op := Go.Op.load 26 (Go.Operand.tmp 37), type := 26, pos := "data.go:358", after := #[{ on := 0, ground := Go.Ground.data }], guard := none }) rfl (fun K hK => ?_) AllReadyH.nil
    go_simp
    refine hK.out _ _ (HKB.out _ hB5) (fun hH1 => ?_)
    (try simp only [Act.put, List.setIfInBounds_toArray, List.set_cons_zero, List.set_cons_succ])
    refine wpAnyH_ready (rs := [11]) (by kernel_rfl) (by simp) ?_
    refine AllReadyH.cons (o := { dst := some 48, op := Go.Op.call { callee := Go.Callee.builtin Go.Builtin.append, args := #[Go.Operand.tmp 38, Go.Operand.tmp 47], argTypes := #[26, 26] }, type := 26, pos := "data.go:358", after := #[{ on := 1, ground := Go.Ground.data }, { on := 10, ground := Go.Ground.data }, { on := 9, ground := Go.Ground.chain }], guard := none }) rfl (fun K hK => ?_) AllReadyH.nil
    (refine step_own_where _ rfl _ _ 26 rfl (w0.heap.size + 1) 56 iv (.agg #[.bool false, .int .i64 0, .int .i64 0, .string ⟨#[]⟩, .slice none 0 0, .slice none 0 0]) 6 88 Tryz.underlying26 hvi hv0 hv1 hv2 rfl (by decide) _ i ncs.flatten rfl ((ow_kept HRow.out HB4.out).alloc _) ⟨w4.heap.size, 0, none⟩ 1 1 [.bool y.no, .int .i64 y.v.k, .int .i64 y.v.n, .string y.v.s, .slice yl y.l.length ycl, .slice yf y.f.length ycf] rfl rfl six_cells (by intro u hu; simp at hu; rcases hu with rfl | rfl | rfl | rfl | rfl | rfl <;> rfl) (by unfold maxLen; omega) (by omega) (by have := HB4.out.size; simp; omega) (by decide) ?_; intro l' w5 hown5 hgrow5 hwh5)
    obtain ⟨ncs', hdn⟩ := HPu.out _ _ _ _ _ _ _ _ HB4.out HYL.out HYF.out hown5 hgrow5 hwh5
    have HDn : Hid _ := hdn
    obtain ⟨a9, c9, hl9⟩ := own_sh6 hown5
    subst hl9
    have hO5 := HTh.out _ _ _ HB4.out hgrow5
    obtain ⟨y0, y1, y2, y3, y4, y5⟩ := row_six hO5
    obtain ⟨q0, q1, q2, q3, q4, q5⟩ := row_six_z hO5
    have hK5 : KcB w0.heap.size wr w5 := HGw.out _ _ _ HB4.out hgrow5
    clear hown5 hgrow5 hwh5 hO5 hdn
    refine hK.out _ _ hK5 (fun hH4 => ?_)
    (try simp only [Act.put, List.setIfInBounds_toArray, List.set_cons_zero, List.set_cons_succ])
    refine wpAnyH_take (i := 12) (oi := { dst := some 49, op := Go.Op.fieldAddr 56 (Go.Operand.tmp 9) 2, type := 0, pos := "data.go:358", after := #[{ on := 0, ground := Go.Ground.phase }, { on := 1, ground := Go.Ground.phase }, { on := 2, ground := Go.Ground.phase }, { on := 3, ground := Go.Ground.phase }, { on := 4, ground := Go.Ground.phase }, { on := 5, ground := Go.Ground.phase }, { on := 6, ground := Go.Ground.phase }, { on := 7, ground := Go.Ground.phase }, { on := 8, ground := Go.Ground.phase }, { on := 9, ground := Go.Ground.phase }, { on := 10, ground := Go.Ground.phase }, { on := 11, ground := Go.Ground.phase }], guard := none }) (v := .pointer (some ⟨w0.heap.size, 4, none⟩)) rfl (by kernel_rfl) (by kernel_rfl) (by kernel_rfl) (fun _ _ _ h => h) (Or.inl ⟨by rfl, (by intro w hSw; go_simp; done)⟩) hH4 ?_
    (try simp only [Act.put, List.setIfInBounds_toArray, List.set_cons_zero, List.set_cons_succ])
    refine wpAnyH_ready (rs := [13]) (by kernel_rfl) (by simp) ?_
    refine AllReadyH.cons (o := { dst := none, op := Go.Op.store 26 (Go.Operand.tmp 49) (Go.Operand.tmp 48), type := 0, pos := "data.go:358", after := #[{ on := 12, ground := Go.Ground.data }, { on := 11, ground := Go.Ground.data }, { on := 11, ground := Go.Ground.chain }, { on := 0, ground := Go.Ground.phase }, { on := 1, ground := Go.Ground.phase }, { on := 2, ground := Go.Ground.phase }, { on := 3, ground := Go.Ground.phase }, { on := 4, ground := Go.Ground.phase }, { on := 5, ground := Go.Ground.phase }, { on := 6, ground := Go.Ground.phase }, { on := 7, ground := Go.Ground.phase }, { on := 8, ground := Go.Ground.phase }, { on := 9, ground := Go.Ground.phase }, { on := 10, ground := Go.Ground.phase }, { on := 11, ground := Go.Ground.phase }], guard := none }) rfl (fun K hK => ?_) AllReadyH.nil
    go_simp
    refine hK.out _ _ (KcB.put hK5 _) (fun hH5 => ?_)
    (try simp only [Act.put, List.setIfInBounds_toArray, List.set_cons_zero, List.set_cons_succ])
    refine wpAnyH_done (by kernel_rfl) ?_ _
    go_wp2
    go_roundw
    case rel => exact ⟨i + 1, _, _, hlt, by go_num, HDn⟩
    case measure => simp [intOf]; omega
  · obtain rfl : i = d.l.length := by omega
    have HLe : Hid (LiesD wr (fun b => w0.heap.size ≤ b) la us) := (by
     have h := HC.out
     have e : us.take d.l.length = us := by rw [← HUl.out, List.take_length]
     rw [e, ← HUl.out] at h
     exact h.lies.stay (fun b h _ => by omega) (fun _ _ _ => rfl))
    obtain ⟨s0, s1, s2, s3, s4, s5⟩ := row_six HR2.out
    obtain ⟨f0, f1, f2, f3, f4, f5⟩ := row_six_z HR2.out
    go_wp2
    refine bodyPost_ret (v := .agg #[.bool false, .int .i64 0, .int .i64 0, .string ⟨#[]⟩, .slice la d.l.length lc, .slice none 0 0]) (results_cell_row Tryz.results21 _ _ (W.heap.size + 1 + 1 + 1) 56 #[.bool false, .int .i64 0, .int .i64 0, .string ⟨#[]⟩, .slice la d.l.length lc, .slice none 0 0] (0, 0) _ rfl (row_setCell (row_setCell (row_setCell (row_setCell (row_setCell (row_setCell HR2.out _) _) _) _) _) _) Tryz.underlying56 rfl (by kernel_rfl)) rfl ⟨⟨la, lc, none, 0, ?_, ?_, ?_⟩, ?_⟩
    · show _ = Ending.returned (.agg #[.bool false, .int .i64 0, .int .i64 0, .string ⟨#[]⟩, .slice la us.length lc, .slice none 0 0])
      rw [HUl.out]
    · have hz := HSz.out
      have fr : ∀ b, w0.heap.size ≤ b → b ≠ W.heap.size + 1 + 1 + 1 := fun b h => by omega
      exact ((((((HLe.out.off fr).off fr).off fr).off fr).off fr).off fr).stay (fun b h _ => by omega) (fun _ _ _ => rfl)
    · exact liesD_none _ _
    · exact (((((HBr.out.setCell (by simp; omega) _).setCell (by simp; omega) _).setCell (by simp; omega) _).setCell (by simp; omega) _).setCell (by simp; omega) _).setCell (by simp; omega) _
end Go.Proofs.YteonbmaokphleaaGreatDoor
