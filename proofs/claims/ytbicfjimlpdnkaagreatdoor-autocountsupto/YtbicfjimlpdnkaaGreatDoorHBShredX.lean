/-
  Shred of whatever records: an error, or the columns of right ones.
  assemble: what Shred leaves are columns to assemble.
  What the law ShredSplits holds of its three lists of columns.
  Shred of too many records, and of whatever records.
  auto.Trace of what Shred wrote: each leaf is read as often as it has entries.
-/
import Derived.Test.YtbicfjimlpdnkaaGreatDoorHBStBase
import Derived.Test.YtbicfjimlpdnkaaGreatDoorHBWriter
import Derived.Test.YtbicfjimlpdnkaaGreatDoorHBColK2
import Derived.Test.YtbicfjimlpdnkaaGreatDoorHBAsT
import Derived.Test.YtbicfjimlpdnkaaGreatDoorHBAsH
import Derived.Test.YtbicfjimlpdnkaaGreatDoorHTrJ
namespace Go.Proofs.YtbicfjimlpdnkaaGreatDoor
open Go.RowKit
/-- What Shred answers. -/
def ShR (t : Tr) (QF : Nat → List Tr) (ds : List Dt) (N : Nat) (ov ev : Value) (w : World) : Prop :=
  (∃ ty v, ov = .slice none 0 0 ∧ ev = .iface ty v) ∨
  (ev = .nilIface ∧ vldN t = 0 ∧ (∀ d ∈ ds, chk true t d = 0) ∧ ColR w N ov ((lvsT t).mapIdx fun j f => colOf f (stq t (QF j) 0 0) ds))
theorem root_chk {t : Tr} (hr : isRootB t = true) (d : Dt) : chk false t d = chk true t d := by
  have h : t.rep = 1 := (of_decide_eq_true hr).2.2.1
  exact chk_one t d (by rw [h]; decide) (fun e => by rw [h] at e; exact absurd e.1 (by decide))
theorem lvs_len {t : Tr} (hv : vldN t = 0) : (lvsT t).length ≤ 1000 := by
  obtain ⟨hb, hr, _⟩ := right_parts hv
  have hc := (inB_cnt t 0 [] hb).2.1
  have h := wkT_more stL (fun s : List Lf => s.length) (fun s path t => by unfold stL; split <;> simp) t [] []
  unfold lvsT
  simp at h
  omega
set_option maxRecDepth 100000 in
set_option maxHeartbeats 3200000 in
/-- .. of a schema that is not right. -/
theorem shred_wrong (eb es ek en : TypeId × Value) (t : Tr) (n : Nat) (hd : t.Dp n) (hn : n ≤ 1100000) (hs : t.Sm) (hv : vldN t ≠ 0) (nd : Nat) (a : Option Addr) (c : Nat) (hcap : t.sub.length ≤ c) (da : Option Addr) (dc : Nat) (W : World) (he : EC W eb es ek) (hen : W.cell? ⟨2, 0, none⟩ = some (.iface en.1 en.2)) (hl : LiesN W (fun b => b < W.heap.size) a t.sub) :
    Calls Tryz.prog 7 #[nodeV t a c, .slice da nd dc] W fun e w' => (∃ ty v, e = .returned (.tuple #[.slice none 0 0, .iface ty v])) ∧ Below W.heap.size W w' := by
  obtain ⟨ty, v, hx⟩ : ∃ ty v, vldV (.iface eb.1 eb.2) (.iface es.1 es.2) (.iface en.1 en.2) t = .iface ty v := (by
    unfold vldN at hv
    unfold vldV
    split
    · exact ⟨_, _, rfl⟩
    · rename_i h1
      rw [if_neg h1] at hv
      split
      · exact ⟨_, _, rfl⟩
      · rename_i h2
        rw [if_neg h2] at hv
        split
        · exact ⟨_, _, rfl⟩
        · rename_i h3
          rw [if_neg h3] at hv
          exact absurd rfl hv)
  obtain ⟨w0, HW0, HX, HB⟩ := one_box W #[.int .i64 t.id, .string t.nm, .int .i64 t.rep, .int .i64 t.kind, .slice a t.sub.length c] 24
  have HLe : Hid _ := leaves_err t n hd hn hs a c _ w0 (hl.keep HB.out) hcap eb es en ⟨(he.keep HB.out).b, (he.keep HB.out).s, (HB.out.cell (World.block_lt_of_cell? W _ hen)).trans hen⟩ ty v hx
  obtain ⟨⟨p0, p1, p2, p3, p4⟩, _⟩ := row_five HX.out
  clear hl hd hs he hx hv hen
  unfold nodeV
  go_enter Tryz.func7, Tryz.ntmps7
  go_wp2_with fail
  rw [HW0.out]
  refine Calls.mono HLe.out ?_
  rintro e w1 ⟨rfl, hb1⟩
  have HB1 : Hid (Below W.heap.size W w1) := HB.out.trans (hb1.mono HB.out.size)
  clear hb1 p0 p1 p2 p3 p4
  go_wp2
  go_ret2
  exact ⟨⟨ty, v, rfl⟩, HB1.out⟩
set_option maxRecDepth 100000 in
set_option maxHeartbeats 3200000 in
/-- .. of a record that is not right. -/
theorem shred_bad (eb es ek en : TypeId × Value) (t : Tr) (n : Nat) (hd : t.Dp n) (hn : n ≤ 1100000) (hs : t.Sm) (hv : vldN t = 0) (ds : List Dt) (hds : ds.length ≤ 100) (hsm : ∀ j (h : j < ds.length), ds[j].Sm) (p : Nat) (hp : p < ds.length) (hbad : chk false t ds[p] ≠ 0)
    (a : Option Addr) (c : Nat) (hcap : t.sub.length ≤ c) (da : Option Addr) (dc : Nat) (W : World) (he : EC W eb es ek) (hen : W.cell? ⟨2, 0, none⟩ = some (.iface en.1 en.2)) (hl : LiesN W (fun b => b < W.heap.size) a t.sub) (hld : LiesD W (fun b => b < W.heap.size) da ds) :
    Calls Tryz.prog 7 #[nodeV t a c, .slice da ds.length dc] W fun e w' => (∃ ty v, e = .returned (.tuple #[.slice none 0 0, .iface ty v])) ∧ Below W.heap.size W w' := by
  have hb : Below W.heap.size W (W.alloc (.cells #[.int .i64 t.id, .string t.nm, .int .i64 t.rep, .int .i64 t.kind, .slice a t.sub.length c] 24)) := (Below.refl _ _).alloc (Nat.le_refl _) _
  have HX : Hid ((W.alloc (.cells #[.int .i64 t.id, .string t.nm, .int .i64 t.rep, .int .i64 t.kind, .slice a t.sub.length c] 24)).heap[W.heap.size]? = some (.cells #[.int .i64 t.id, .string t.nm, .int .i64 t.rep, .int .i64 t.kind, .slice a t.sub.length c] 24 (0, 0))) := heap_alloc_new W _
  have HLv : Hid _ := leaves_right t n hd hn hs a c _ (W.alloc (.cells #[.int .i64 t.id, .string t.nm, .int .i64 t.rep, .int .i64 t.kind, .slice a t.sub.length c] 24)) (hl.keep hb) hcap eb es en (he.keep hb).b (he.keep hb).s ((hb.cell (World.block_lt_of_cell? W _ hen)).trans hen) hv
  have HB : Hid (Below W.heap.size W (W.alloc (.cells #[.int .i64 t.id, .string t.nm, .int .i64 t.rep, .int .i64 t.kind, .slice a t.sub.length c] 24))) := hb
  have HEr : Hid (EC W eb es ek) := he
  have HEn : Hid (W.cell? ⟨2, 0, none⟩ = some (.iface en.1 en.2)) := hen
  have HL : Hid (LiesN W (fun b => b < W.heap.size) a t.sub) := hl
  have HLd : Hid (LiesD W (fun b => b < W.heap.size) da ds) := hld
  have HCk : Hid (∀ j (h : j < ds.length), ds[j].Sm) := hsm
  have HD : Hid (t.Dp n) := hd
  have HSm : Hid t.Sm := hs
  have HV : Hid (vldN t = 0) := hv
  have HBad : Hid (chk false t ds[p] ≠ 0) := hbad
  have q : decide ((100 : Int) < (ds.length : Int)) = false := by simp; omega
  clear hl hld hsm hd hs hv he hen hb hbad
  unfold nodeV
  go_enter Tryz.func7, Tryz.ntmps7
  go_wp2_with fail
  refine Calls.mono HLv.out ?_
  rintro e w1 ⟨⟨lv, rfl, hlv⟩, hb1⟩
  have HB1 : Hid (Below W.heap.size W w1) := HB.out.trans (hb1.mono HB.out.size)
  have HX1 : Hid (w1.heap[W.heap.size]? = some (.cells #[.int .i64 t.id, .string t.nm, .int .i64 t.rep, .int .i64 t.kind, .slice a t.sub.length c] 24 (0, 0))) := blk_keep hb1 HX.out
  obtain ⟨la, lc, rfl⟩ : ∃ la lc, lv = .slice la (lvsT t).length lc := (by obtain ⟨pvs, _, h2, _⟩ := hlv; exact own_sl h2)
  clear hb1 hlv HLv
  go_wp2
  clear q
  generalize (decide ((100 : Int) < (ds.length : Int))) = bq
  go_loopw [30] (fun x wr => ∃ i : Nat, i ≤ p ∧ x = .int .i64 i ∧ Hid (Below w1.heap.size w1 wr)) (fun x _ => ds.length - (intOf x).toNat)
  case atStart => exact ⟨0, Nat.zero_le _, rfl, Below.refl _ _⟩
  case round =>
    obtain ⟨i, hi, rfl, HBr⟩ := hrel
    have hs1 := HB1.out.size
    have hbr : Below W.heap.size W wr := HB1.out.trans (HBr.out.mono hs1)
    have hlt : i < ds.length := by omega
    obtain ⟨b', o', al1, cl1, af1, cf1, ea, ⟨e0, e1, e2, e3, e4, e5⟩, hd1, hd2⟩ := (HLd.out.keep hbr).at_ i hlt
    subst ea
    have hb2 : Below wr.heap.size wr (wr.alloc (.cells #[.bool ds[i].no, .int .i64 ds[i].v.k, .int .i64 ds[i].v.n, .string ds[i].v.s, .slice al1 ds[i].l.length cl1, .slice af1 ds[i].f.length cf1] 58)) := (Below.refl _ _).alloc (Nat.le_refl _) _
    have HC : Hid _ := checkD_right eb es ek en t ds[i] n HD.out hn HSm.out (HCk.out i hlt) HV.out _ _ a c hcap al1 cl1 af1 cf1 (wr.alloc (.cells #[.bool ds[i].no, .int .i64 ds[i].v.k, .int .i64 ds[i].v.n, .string ds[i].v.s, .slice al1 ds[i].l.length cl1, .slice af1 ds[i].f.length cf1] 58)) ((HEr.out.keep hbr).keep hb2) ((hb2.cell (World.block_lt_of_cell? _ _ ((hbr.cell (World.block_lt_of_cell? W _ HEn.out)).trans HEn.out))).trans ((hbr.cell (World.block_lt_of_cell? W _ HEn.out)).trans HEn.out)) ((HL.out.keep hbr).keep hb2) (hd1.keep hb2) (hd2.keep hb2)
    have HB2 : Hid _ := hb2
    obtain ⟨⟨p0, p1, p2, p3, p4⟩, _⟩ := row_five (blk_alloc (o' := (.cells #[.bool ds[i].no, .int .i64 ds[i].v.k, .int .i64 ds[i].v.n, .string ds[i].v.s, .slice al1 ds[i].l.length cl1, .slice af1 ds[i].f.length cf1] 58)) (blk_keep HBr.out HX1.out))
    have hle := chk_le ds[i] false t
    clear hb2 hd1 hd2 hbr
    go_wp2_with fail
    refine Calls.mono HC.out ?_
    rintro e w3 ⟨rfl, hb3⟩
    have HB3 : Hid (Below w1.heap.size w1 w3) := (HBr.out.trans (HB2.out.mono HBr.out.size)).trans (hb3.mono (by have := HBr.out.size; simp; omega))
    clear hb3 p0 p1 p2 p3 p4 e0 e1 e2 e3 e4 e5
    rcases erV_cases eb es ek (chk false t ds[i]) hle with ⟨hz, hev⟩ | ⟨hz, ty, v, hev⟩
    · have hip : i ≠ p := fun e => by subst e; exact HBad.out hz
      rw [hev]
      clear hev hz
      go_wp2
      go_roundw
      case rel => exact ⟨i + 1, by omega, by go_num, HB3⟩
      case measure => simp [intOf]; omega
    · rw [hev]
      clear hev hz
      go_wp2
      go_ret2
      refine ⟨⟨_, _, rfl⟩, ?_⟩
      have hbz : Below W.heap.size W w3 := HB1.out.trans (HB3.out.mono hs1)
      exact hbz.alloc hbz.size _
set_option maxRecDepth 100000 in
theorem shred_any (eb es ek en : TypeId × Value) (t : Tr) (n : Nat) (hd : t.Dp n) (hn : n ≤ 1100000) (hs : t.Sm) (QF : Nat → List Tr) (ZF : Nat → Tr) (hq : vldN t = 0 → ∀ j (h : j < (lvsT t).length), LfG t (lvsT t)[j] (QF j) (ZF j)) (ds : List Dt) (hds : ds.length ≤ 100) (hsm : ∀ j (h : j < ds.length), ds[j].Sm) (hw : wtL ds ≤ 20000)
    (a : Option Addr) (c : Nat) (hcap : t.sub.length ≤ c) (da : Option Addr) (dc : Nat) (W : World) (he : EC W eb es ek) (hen : W.cell? ⟨2, 0, none⟩ = some (.iface en.1 en.2)) (hl : LiesN W (fun b => b < W.heap.size) a t.sub) (hld : LiesD W (fun b => b < W.heap.size) da ds) :
    Calls Tryz.prog 7 #[nodeV t a c, .slice da ds.length dc] W fun e w' => (∃ ov ev, e = .returned (.tuple #[ov, ev]) ∧ ShR t QF ds W.heap.size ov ev w') ∧ Below W.heap.size W w' := by
  by_cases hv : vldN t = 0
  · by_cases hc : ∀ j (h : j < ds.length), chk false t ds[j] = 0
    · have hr := (right_parts hv).2.1
      have hall : ∀ d ∈ ds, chk true t d = 0 := fun d hm => by
        obtain ⟨j, hj, rfl⟩ := List.getElem_of_mem hm
        rw [← root_chk hr]
        exact hc j hj
      refine (shred_right eb es ek en t n hd hn hs hv (lvsT t) rfl (lvs_len hv) (fun j => stq t (QF j) 0 0) ds hds (fun j h => ⟨hsm j h, hc j h⟩) (fun j h => ?_) a c hcap da dc W he hen hl hld).mono ?_
      · have hg := hq hv j h
        have hf : ∀ d ∈ ds, FitS (stq t (QF j) 0 0) d := fun d hm => chn_fit _ t 0 0 d hg.w.way (hall d hm)
        refine ⟨by rw [hg.w.path, List.length_map]; have := hg.len; omega, by rw [hg.w.path]; exact stq_path _ t 0 0 hg.w.way, fun i hi => hf _ (List.getElem_mem hi), ?_⟩
        exact Nat.le_trans (ents_len _ _ ds hf) hw
      · rintro e w' ⟨⟨ov, rfl, hr⟩, hb⟩
        exact ⟨⟨ov, .nilIface, rfl, .inr ⟨rfl, hv, hall, hr⟩⟩, hb⟩
    · obtain ⟨p, hp⟩ := Classical.not_forall.1 hc
      obtain ⟨hpl, hbad⟩ := Classical.not_forall.1 hp
      refine (shred_bad eb es ek en t n hd hn hs hv ds hds hsm p hpl hbad a c hcap da dc W he hen hl hld).mono ?_
      rintro e w' ⟨⟨ty, v, rfl⟩, hb⟩
      exact ⟨⟨_, _, rfl, .inl ⟨ty, v, rfl, rfl⟩⟩, hb⟩
  · refine (shred_wrong eb es ek en t n hd hn hs hv ds.length a c hcap da dc W he hen hl).mono ?_
    rintro e w' ⟨⟨ty, v, rfl⟩, hb⟩
    exact ⟨⟨_, _, rfl, .inl ⟨ty, v, rfl, rfl⟩⟩, hb⟩
end Go.Proofs.YtbicfjimlpdnkaaGreatDoor

namespace Go.Proofs.YtbicfjimlpdnkaaGreatDoor
open Go.RowKit
theorem asCols_shred {t : Tr} {QF : Nat → List Tr} {ZF : Nat → Tr} (hq : ∀ j (h : j < (lvsT t).length), LfG t (lvsT t)[j] (QF j) (ZF j)) {ds : List Dt} (hck : ∀ d ∈ ds, chk true t d = 0) (hw : wtL ds ≤ 20000) {W : World} {N : Nat} {ov : Value} (h : ColR W N ov ((lvsT t).mapIdx fun j f => colOf f (stq t (QF j) 0 0) ds)) : ∃ (a : Option Addr) (c : Nat) (ks : List Cl), ov = .slice a ks.length c ∧ LiesC W a ks ∧ AsCols t QF ds ks := by
  obtain ⟨a, c, ks, hl, e, hlc, hk⟩ := h.cls
  rw [List.length_mapIdx] at hl
  refine ⟨a, c, ks, e, hlc, ⟨hl, fun j hj hj' => ?_, fun k hm => ?_⟩⟩
  · obtain ⟨h0, h1, h2, h3, _⟩ := hk j hj' (by rw [List.length_mapIdx]; exact hj)
    rw [List.getElem_mapIdx] at h0 h1 h2 h3
    have hf : ∀ d ∈ ds, FitS (stq t (QF j) 0 0) d := fun d hm => chn_fit _ t 0 0 d (hq j hj).w.way (hck d hm)
    exact ⟨h0, h1, h2, h3, Nat.le_trans (ents_len _ _ ds hf) hw⟩
  · obtain ⟨j, hj, rfl⟩ := List.getElem_of_mem hm
    exact (hk j hj (by rw [List.length_mapIdx, ← hl]; exact hj)).2.2.2.2
theorem AsCols.same {t : Tr} {QF : Nat → List Tr} {ds : List Dt} {cs ks : List Cl} (h : AsCols t QF ds cs) (hl : ks.length = cs.length) (hs : ∀ j (h : j < ks.length) (h' : j < cs.length), SameC cs[j] ks[j]) : AsCols t QF ds ks := by
  refine ⟨by rw [hl, h.len], fun j hj hj' => ?_, fun k hm => ?_⟩
  · have h1 := hs j hj' (by omega)
    obtain ⟨e0, e1, e2, e3, e4⟩ := h.each j hj (by omega)
    exact ⟨h1.id.trans e0, h1.rs.trans e1, h1.ds.trans e2, h1.vs.trans e3, e4⟩
  · obtain ⟨j, hj, rfl⟩ := List.getElem_of_mem hm
    exact (hs j hj (by omega)).cap
/-- .. few enough to be copied. -/
theorem AsCols.few {t : Tr} {QF : Nat → List Tr} {ds : List Dt} {cs : List Cl} (h : AsCols t QF ds cs) : ∀ j (h : j < cs.length), cs[j].rs.length ≤ 20000 ∧ cs[j].ds.length ≤ 20000 ∧ cs[j].vs.length ≤ 20000 := fun j hj => by
  obtain ⟨_, e1, e2, e3, e4⟩ := h.each j (by rw [← h.len]; exact hj) hj
  rw [e1, e2, e3, eR_len, eD_len]
  exact ⟨e4, e4, Nat.le_trans (eV_le _) e4⟩
end Go.Proofs.YtbicfjimlpdnkaaGreatDoor

namespace Go.Proofs.YtbicfjimlpdnkaaGreatDoor
open Go.RowKit
theorem pick_ways (t : Tr) : ∃ (QF : Nat → List Tr) (ZF : Nat → Tr), vldN t = 0 → ∀ j (h : j < (lvsT t).length), LfG t (lvsT t)[j] (QF j) (ZF j) := by
  by_cases hv : vldN t = 0
  · have each : ∀ i, i < (lvsT t).length → ∃ x : List Tr × Tr, ∀ h : i < (lvsT t).length, LfG t (lvsT t)[i] x.1 x.2 := fun i hi => by
      obtain ⟨q, z, h⟩ := right_leaf hv (lvsT t)[i] (List.getElem_mem hi)
      exact ⟨(q, z), fun _ => h⟩
    have : Inhabited (List Tr × Tr) := ⟨([], .node 0 ⟨#[]⟩ 0 0 [])⟩
    obtain ⟨f, hf⟩ := Deep.choose_lt each
    exact ⟨fun i => (f i).1, fun i => (f i).2, fun _ j h => hf j h h⟩
  · exact ⟨fun _ => [], fun _ => t, fun h => absurd h hv⟩
/-- What is known of the law's three lists of columns. -/
structure Trio (t : Tr) (QF : Nat → List Tr) (ds : List Dt) (w : World) (a : Option Addr) (ks : List Cl) : Prop where
  len : ks.length = (lvsT t).length
  lies : LiesC w a ks
  each : ∀ j (h : j < ks.length) (h' : j < (lvsT t).length), ks[j].id = (lvsT t)[j].id ∧ ks[j].rs = eR (ents (lvsT t)[j].md (stq t (QF j) 0 0) ds) ∧ ks[j].ds = eD (ents (lvsT t)[j].md (stq t (QF j) 0 0) ds) ∧ ks[j].vs = eV (ents (lvsT t)[j].md (stq t (QF j) 0 0) ds) ∧ ks[j].Cap
theorem Trio.keep {t : Tr} {QF : Nat → List Tr} {ds : List Dt} {w w' : World} {a : Option Addr} {ks : List Cl} (h : Trio t QF ds w a ks) (hb : Below w.heap.size w w') : Trio t QF ds w' a ks := ⟨h.len, h.lies.keep hb, h.each⟩
theorem ShR.keep {t : Tr} {QF : Nat → List Tr} {ds : List Dt} {N : Nat} {ov ev : Value} {w w' : World} (h : ShR t QF ds N ov ev w) (hb : Below w.heap.size w w') : ShR t QF ds N ov ev w' := by
  rcases h with h | ⟨h1, h2, h3, h4⟩
  · exact .inl h
  · exact .inr ⟨h1, h2, h3, h4.keep hb⟩
end Go.Proofs.YtbicfjimlpdnkaaGreatDoor

namespace Go.Proofs.YtbicfjimlpdnkaaGreatDoor
open Go.RowKit
set_option maxRecDepth 100000 in
set_option maxHeartbeats 3200000 in
/-- .. of too many records. -/
theorem shred_lots (eb es ek en : TypeId × Value) (t : Tr) (n : Nat) (hd : t.Dp n) (hn : n ≤ 1100000) (hs : t.Sm) (hv : vldN t = 0) (ds : List Dt) (hds : 100 < ds.length)
    (a : Option Addr) (c : Nat) (hcap : t.sub.length ≤ c) (da : Option Addr) (dc : Nat) (W : World) (he : EC W eb es ek) (hen : W.cell? ⟨2, 0, none⟩ = some (.iface en.1 en.2)) (hl : LiesN W (fun b => b < W.heap.size) a t.sub) :
    Calls Tryz.prog 7 #[nodeV t a c, .slice da ds.length dc] W fun e w' => (∃ ty v, e = .returned (.tuple #[.slice none 0 0, .iface ty v])) ∧ Below W.heap.size W w' := by
  obtain ⟨w0, HW0, HX, HB⟩ := one_box W #[.int .i64 t.id, .string t.nm, .int .i64 t.rep, .int .i64 t.kind, .slice a t.sub.length c] 24
  have HLv : Hid _ := leaves_right t n hd hn hs a c _ w0 (hl.keep HB.out) hcap eb es en (he.keep HB.out).b (he.keep HB.out).s ((HB.out.cell (World.block_lt_of_cell? W _ hen)).trans hen) hv
  have HEr : Hid (EC W eb es ek) := he
  have q : decide ((100 : Int) < (ds.length : Int)) = true := by simp; omega
  have q2 : decide (100 < ds.length) = true := by simp; omega
  obtain ⟨⟨p0, p1, p2, p3, p4⟩, _⟩ := row_five HX.out
  obtain ⟨m, HM⟩ := hid_name ds.length
  rw [HM.out] at q q2 ⊢
  clear hl hd hs hv he hen hds
  unfold nodeV
  go_enter Tryz.func7, Tryz.ntmps7
  go_wp2_with fail
  rw [HW0.out]
  refine Calls.mono HLv.out ?_
  rintro e w1 ⟨⟨lv, rfl, hlv⟩, hb1⟩
  have HB1 : Hid (Below W.heap.size W w1) := HB.out.trans (hb1.mono HB.out.size)
  obtain ⟨la, lc, rfl⟩ : ∃ la lc, lv = .slice la (lvsT t).length lc := (by obtain ⟨pvs, _, h2, _⟩ := hlv; exact own_sl h2)
  have g1 := (HEr.out.keep HB1.out).b
  clear hb1 hlv HLv p0 p1 p2 p3 p4
  go_upto_region 5 with fail
  go_quiet (fail)
  go_wp2
  all_goals go_ret2
  all_goals exact ⟨⟨_, _, rfl⟩, below_dN HB1.out _⟩
set_option maxRecDepth 100000 in
/-- Whatever records. -/
theorem shred_all (eb es ek en : TypeId × Value) (t : Tr) (n : Nat) (hd : t.Dp n) (hn : n ≤ 1100000) (hs : t.Sm) (QF : Nat → List Tr) (ZF : Nat → Tr) (hq : vldN t = 0 → ∀ j (h : j < (lvsT t).length), LfG t (lvsT t)[j] (QF j) (ZF j)) (ds : List Dt) (hsm : ∀ j (h : j < ds.length), ds[j].Sm) (hw : wtL ds ≤ 20000)
    (a : Option Addr) (c : Nat) (hcap : t.sub.length ≤ c) (da : Option Addr) (dc : Nat) (W : World) (he : EC W eb es ek) (hen : W.cell? ⟨2, 0, none⟩ = some (.iface en.1 en.2)) (hl : LiesN W (fun b => b < W.heap.size) a t.sub) (hld : LiesD W (fun b => b < W.heap.size) da ds) :
    Calls Tryz.prog 7 #[nodeV t a c, .slice da ds.length dc] W fun e w' => (∃ ov ev, e = .returned (.tuple #[ov, ev]) ∧ ShR t QF ds W.heap.size ov ev w') ∧ Below W.heap.size W w' := by
  by_cases h100 : ds.length ≤ 100
  · exact shred_any eb es ek en t n hd hn hs QF ZF hq ds h100 hsm hw a c hcap da dc W he hen hl hld
  · by_cases hv : vldN t = 0
    · refine (shred_lots eb es ek en t n hd hn hs hv ds (by omega) a c hcap da dc W he hen hl).mono ?_
      rintro e w' ⟨⟨ty, v, rfl⟩, hb⟩
      exact ⟨⟨_, _, rfl, .inl ⟨ty, v, rfl, rfl⟩⟩, hb⟩
    · refine (shred_wrong eb es ek en t n hd hn hs hv ds.length a c hcap da dc W he hen hl).mono ?_
      rintro e w' ⟨⟨ty, v, rfl⟩, hb⟩
      exact ⟨⟨_, _, rfl, .inl ⟨ty, v, rfl, rfl⟩⟩, hb⟩
end Go.Proofs.YtbicfjimlpdnkaaGreatDoor

namespace Go.Proofs.YtbicfjimlpdnkaaGreatDoor
open Go.RowKit
/-- Numbers below one, each no more than so often. -/
theorem len_of_counts (M : Nat) : ∀ (n : Nat) (l : List Nat), (∀ x ∈ l, x < n) → (∀ j, j < n → l.count j ≤ M) → l.length ≤ n * M
  | 0, l, h, _ => by
    cases l with
    | nil => simp
    | cons x l => exact absurd (h x List.mem_cons_self) (by omega)
  | n + 1, l, h, hc => by
    have h1 := len_of_counts M n (l.filter fun x => !(x == n)) (fun x hx => by
      obtain ⟨h2, h3⟩ := List.mem_filter.1 hx
      have := h x h2
      have : x ≠ n := by simpa using h3
      omega) (fun j hj => by
      have h4 : (l.filter fun x => !(x == n)).count j ≤ l.count j := List.Sublist.count_le j List.filter_sublist
      exact Nat.le_trans h4 (hc j (by omega)))
    have h2 := hc n (by omega)
    have h3 : ∀ l : List Nat, l.length = l.count n + (l.filter fun x => !(x == n)).length := fun l => by
      induction l with
      | nil => rfl
      | cons x l ih =>
        by_cases e : x = n
        · subst e
          simp
          omega
        · rw [List.count_cons_of_ne e]
          simp [e]
          omega
    have h3 := h3 l
    rw [h3, Nat.succ_mul]
    omega
theorem lstR_keep {w w' : World} {la : Option Addr} {L : List (List Int)} (h : LstR w la L) (hb : Below w.heap.size w w') : LstR w' la L := fun j hj => by
  obtain ⟨b, o, pa, pc, e, hc, hl, hm⟩ := h j hj
  exact ⟨b, o, pa, pc, e, (hb.cell (World.block_lt_of_cell? w _ hc)).trans hc, hl.keep hb, hm⟩
set_option maxRecDepth 100000 in
set_option maxHeartbeats 3200000 in
theorem trace_right (eb es ek en : TypeId × Value) (t : Tr) (n : Nat) (hd : t.Dp n) (hn : n ≤ 1100000) (hs : t.Sm) (hv : vldN t = 0) (QF : Nat → List Tr) (ZF : Nat → Tr) (hq : ∀ j (h : j < (lvsT t).length), LfG t (lvsT t)[j] (QF j) (ZF j)) (ds : List Dt) (hdl : ds.length ≤ 100000) (hck : ∀ d ∈ ds, chk true t d = 0) (cs : List Cl)
    (na : Option Addr) (nc : Nat) (hcap : t.sub.length ≤ nc) (a : Option Addr) (c : Nat) (P : Nat → Prop) (W : World) (hcs : AsCols t QF ds cs) (he : EC W eb es ek) (hen : W.cell? ⟨2, 0, none⟩ = some (.iface en.1 en.2)) (hl : LiesN W P na t.sub) (hlc : LiesC W a cs) :
    Calls Tryz.prog 10 #[nodeV t na nc, .slice a cs.length c] W fun e w' => (∃ (T : List Nat) (a' : Option Addr) (c' : Nat), e = .returned (.tuple #[.slice a' T.length c', .nilIface]) ∧ Lies w' a' (i64s (T.map fun x => ((x : Nat) : Int))) ∧ T.length ≤ 100000000 ∧ (∀ x ∈ T, x < cs.length) ∧ ∀ j (h : j < cs.length), T.count j = cs[j].rs.length) ∧ Below W.heap.size W w' := by
  obtain ⟨hb, hr, hsh, _, _⟩ := right_parts hv
  have h1 : t.rep = 1 := (of_decide_eq_true hr).2.2.1
  have hgr := right_grp hsh
  have hcn : t.cnt ≤ 900 := by have := (dpB t 0 [] hb).2.1; omega
  have hckj : ∀ j (h : j < ds.length), chk true t ds[j] = 0 := fun j h => hck _ (List.getElem_mem h)
  have hlv : (lvsT t).length = lvC t := by rw [← lvI_len, ← lvs_I hv, List.length_map]
  have hls : (lsT [] t).length = lvC t := lsT_lv t []
  have hlc1 : cs.length = (lsT [] t).length := by rw [hcs.len, hlv, hls]
  have hpos : 0 < lvC t := lvC_pos t (fun y hy => (hgr y hy).2)
  have hl1000 : lvC t ≤ 1000 := by rw [← hlv]; exact lvs_len1 hv
  obtain ⟨Rm, Sc, hw⟩ := walk_right hv ds hckj
  have hE : ∀ j (h : j < cs.length) (es : List Ent), (enL t 0 0 0 ds)[j]? = some es → cs[j].rs = eR es ∧ es.length ≤ 20000 := fun j h es he => by
    have hj : j < (lvsT t).length := by rw [← hcs.len]; exact h
    obtain ⟨_, e1, _, _, e4⟩ := hcs.each j hj h
    rw [en_cols hv QF ZF hq ds hck j hj] at he
    obtain rfl := Option.some.inj he
    exact ⟨e1, e4⟩
  have hEl : (enL t 0 0 0 ds).length = cs.length := by rw [enL_len ds t 0 0 0 hckj, hlc1, hls]
  have hcnt : ∀ j (h : j < cs.length), (Ttr Sc ds.length).count j = cs[j].rs.length ∧ cs[j].rs.length ≤ 20000 := fun j h => by
    have h2 := hw.all j
    have h3 := hE j h _ (List.getElem?_eq_getElem (by omega))
    have e : (enL t 0 0 0 ds).getD j [] = (enL t 0 0 0 ds)[j]'(by omega) := by simp [List.getD, show j < (enL t 0 0 0 ds).length by omega]
    rw [h2, e, h3.1, eR_len]
    exact ⟨rfl, h3.2⟩
  have hlt : ∀ x ∈ Ttr Sc ds.length, x < cs.length := fun x hx => by
    have := hw.lt ds.length (Nat.le_refl _) x hx
    omega
  have hT : (Ttr Sc ds.length).length ≤ 100000000 := by
    have h2 := len_of_counts 20000 cs.length (Ttr Sc ds.length) hlt (fun j h => by rw [(hcnt j h).1]; exact (hcnt j h).2)
    have h3 : cs.length * 20000 ≤ 1000 * 20000 := Nat.mul_le_mul_right _ (by omega)
    omega
  rw [← hls] at hw hl1000 hpos
  obtain ⟨w0, HW0, HX, HB⟩ := one_box W #[.int .i64 t.id, .string t.nm, .int .i64 t.rep, .int .i64 t.kind, .slice na t.sub.length nc] 24
  have HAs : Hid _ := assemble_right eb es ek en t n hd hn hs hv QF ZF hq ds hdl hck cs na nc hcap a c P w0 hcs (he.keep HB.out) ((HB.out.cell (World.block_lt_of_cell? W _ hen)).trans hen) (hl.keep HB.out) (hlc.keep HB.out)
  have HBu : Hid (∀ X, Below W.heap.size W X → Calls Tryz.prog 12 #[nodeV t na nc] X fun e w' => (∃ la lc, e = .returned (.tuple #[.agg #[.slice la (lsT [] t).length lc], .nilIface]) ∧ LstR w' la ((List.range (lsT [] t).length).map (nxtR (lsT [] t)))) ∧ Below X.heap.size X w') := fun X hX => build_right t n hd hn hs hv hcn na nc P X (hl.keep hX) hcap eb es en (he.keep hX).b (he.keep hX).s ((hX.cell (World.block_lt_of_cell? W _ hen)).trans hen)
  have HRu : Hid (∀ X la lc, Below W.heap.size W X → LstR X la ((List.range (lsT [] t).length).map (nxtR (lsT [] t))) → Calls Tryz.prog (21) #[.agg #[.slice la (lsT [] t).length lc], .slice a cs.length c] X fun e w' => (∃ lv, e = .returned lv ∧ w'.ownsRow (X.heap.size + 2) 3 1 lv (Ttr Sc ds.length).length (i64s ((Ttr Sc ds.length).map fun x => ((x : Nat) : Int)))) ∧ Below X.heap.size X w') := fun X la lc hX hls2 => run_any (lsT [] t) (enL t 0 0 0 ds) cs ds.length Rm Sc hw hpos hl1000 (lvlB_recs h1 ds hckj) hlc1 (fun j h es he => (hE j h es he).1) (fun es he => by
    obtain ⟨j, hj, rfl⟩ := List.getElem_of_mem he
    exact (hE j (by omega) _ (List.getElem?_eq_getElem hj)).2) hT la lc a c X hls2 (hlc.keep hX)
  have HCn : Hid (∀ j (h : j < cs.length), (Ttr Sc ds.length).count j = cs[j].rs.length) := fun j h => (hcnt j h).1
  have HLt : Hid (∀ x ∈ Ttr Sc ds.length, x < cs.length) := hlt
  have HT : Hid ((Ttr Sc ds.length).length ≤ 100000000) := hT
  obtain ⟨⟨n0, n1, n2, n3, n4⟩, _⟩ := row_five HX.out
  obtain ⟨nL, HnL⟩ := hid_name (lsT [] t).length
  rw [HnL.out] at HBu HRu
  obtain ⟨T, HTn⟩ := hid_name (Ttr Sc ds.length)
  rw [HTn.out] at HRu HCn HLt HT
  clear hd hn hs hv hq hdl hck hcs he hen hl hlc hb hr hsh h1 hgr hcn hckj hlv hls hlc1 hpos hl1000 hw hE hEl hcnt hlt hT
  unfold nodeV at HAs HBu ⊢
  go_enter Tryz.func10, Tryz.ntmps10
  go_wp2_with fail
  rw [HW0.out]
  refine Calls.mono HAs.out ?_
  rintro e w1 ⟨⟨al, cl, rfl, hl1⟩, hb1⟩
  have HB1 : Hid (Below W.heap.size W w1) := HB.out.trans (hb1.mono HB.out.size)
  have HX1 : Hid _ := blk_keep hb1 HX.out
  clear hl1 hb1 n0 n1 n2 n3 n4 HAs
  obtain ⟨⟨n0, n1, n2, n3, n4⟩, _⟩ := row_five HX1.out
  have HC1 : Hid _ := HBu.out w1 HB1.out
  go_wp2_with fail
  refine Calls.mono HC1.out ?_
  rintro e w2 ⟨⟨la, lc, rfl, hls2⟩, hb2⟩
  have HB2 : Hid (Below W.heap.size W w2) := HB1.out.trans (hb2.mono HB1.out.size)
  have HL2 : Hid (LstR w2 la ((List.range nL).map (nxtR (lsT [] t)))) := hls2
  clear hls2 hb2 n0 n1 n2 n3 n4 HC1
  obtain ⟨w3, HW3, HX3, HB3⟩ := one_box w2 #[.slice la nL lc] 46
  have hx3 := HX3.out
  have HC3 : Hid _ := HRu.out w3 la lc (HB2.out.trans (HB3.out.mono HB2.out.size)) (lstR_keep HL2.out HB3.out)
  go_wp2_with fail
  rw [HW3.out]
  refine Calls.mono HC3.out ?_
  rintro e w4 ⟨⟨lv, rfl, hown4⟩, hb4⟩
  have HB4 : Hid (Below W.heap.size W w4) := (HB2.out.trans (HB3.out.mono HB2.out.size)).trans (hb4.mono (HB2.out.trans (HB3.out.mono HB2.out.size)).size)
  obtain ⟨a4, c4, hlv4, hli4⟩ := lies_own hown4
  subst hlv4
  have hl4 : (i64s (T.map fun x => ((x : Nat) : Int))).length = T.length := by rw [i64s_len, List.length_map]
  rw [hl4]
  have HLi : Hid _ := hli4
  clear hown4 hb4 hli4 HC3 hx3
  go_wp2
  go_ret2
  exact ⟨⟨T, a4, c4, rfl, HLi.out, HT.out, HLt.out, HCn.out⟩, HB4.out⟩
end Go.Proofs.YtbicfjimlpdnkaaGreatDoor
