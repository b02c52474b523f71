/-
  Shred of whatever records: an error, or the columns of right ones.
  shred.Join, walked.
  Join and Part of right columns: no errors.
  What the law ShredSplits holds of its three lists of columns.
  Values that are appended to values; the values of one record.
  All but one block is kept.
  Region 17 of the law ShredSplits (the columns of a leaf are joined), as a theorem of its own.
-/
import Derived.Test.YtdpedailookcjaaDoorSBStBase
import Derived.Test.YtdpedailookcjaaDoorSBLeafOf
import Derived.Test.YtdpedailookcjaaDoorSBColK2
import Derived.Test.YtdpedailookcjaaDoorSBVwB
import Derived.Test.YtdpedailookcjaaDoorSBColS
import Derived.Test.YtdpedailookcjaaDoorSBColG
namespace Go.Proofs.YtdpedailookcjaaDoor
open Go.RowKit
/-- What Shred answers. -/
def ShR (t : Tr) (QF : Nat → List Tr) (ds : List Dt) (N : Nat) (ov ev : Value) (w : World) : Prop :=
  (∃ ty v, ov = .slice none 0 0 ∧ ev = .iface ty v) ∨
  (ev = .nilIface ∧ vldN t = 0 ∧ (∀ d ∈ ds, chk true t d = 0) ∧ ColR w N ov ((lvsT t).mapIdx fun j f => colOf f (stq t (QF j) 0 0) ds))
theorem root_chk {t : Tr} (hr : isRootB t = true) (d : Dt) : chk false t d = chk true t d := by
  have h : t.rep = 1 := (of_decide_eq_true hr).2.2.1
  exact chk_one t d (by rw [h]; decide) (fun e => by rw [h] at e; exact absurd e.1 (by decide))
theorem lvs_len {t : Tr} (hv : vldN t = 0) : (lvsT t).length ≤ 1000 := by
  obtain ⟨hb, hr, _⟩ := right_parts hv
  have hc := (inB_cnt t 0 [] hb).2.1
  have h := wkT_more stL (fun s : List Lf => s.length) (fun s path t => by unfold stL; split <;> simp) t [] []
  unfold lvsT
  simp at h
  omega
set_option maxRecDepth 100000 in
set_option maxHeartbeats 3200000 in
/-- .. of a schema that is not right. -/
theorem shred_wrong (eb es ek en : TypeId × Value) (t : Tr) (n : Nat) (hd : t.Dp n) (hn : n ≤ 1100000) (hs : t.Sm) (hv : vldN t ≠ 0) (nd : Nat) (a : Option Addr) (c : Nat) (hcap : t.sub.length ≤ c) (da : Option Addr) (dc : Nat) (W : World) (he : EC W eb es ek) (hen : W.cell? ⟨4, 0, none⟩ = some (.iface en.1 en.2)) (hl : LiesN W (fun b => b < W.heap.size) a t.sub) :
    Calls Tryd.prog 7 #[nodeV t a c, .slice da nd dc] W fun e w' => (∃ ty v, e = .returned (.tuple #[.slice none 0 0, .iface ty v])) ∧ Below W.heap.size W w' := by
  obtain ⟨ty, v, hx⟩ : ∃ ty v, vldV (.iface eb.1 eb.2) (.iface es.1 es.2) (.iface en.1 en.2) t = .iface ty v := (by
    unfold vldN at hv
    unfold vldV
    split
    · exact ⟨_, _, rfl⟩
    · rename_i h1
      rw [if_neg h1] at hv
      split
      · exact ⟨_, _, rfl⟩
      · rename_i h2
        rw [if_neg h2] at hv
        split
        · exact ⟨_, _, rfl⟩
        · rename_i h3
          rw [if_neg h3] at hv
          exact absurd rfl hv)
  obtain ⟨w0, HW0, HX, HB⟩ := one_box W #[.int .i64 t.id, .string t.nm, .int .i64 t.rep, .int .i64 t.kind, .slice a t.sub.length c] 24
  have HLe : Hid _ := leaves_err t n hd hn hs a c _ w0 (hl.keep HB.out) hcap eb es en ⟨(he.keep HB.out).b, (he.keep HB.out).s, (HB.out.cell (World.block_lt_of_cell? W _ hen)).trans hen⟩ ty v hx
  obtain ⟨⟨p0, p1, p2, p3, p4⟩, _⟩ := row_five HX.out
  clear hl hd hs he hx hv hen
  unfold nodeV
  go_enter Tryd.func7, Tryd.ntmps7
  go_wp2_with fail
  rw [HW0.out]
  refine Calls.mono HLe.out ?_
  rintro e w1 ⟨rfl, hb1⟩
  have HB1 : Hid (Below W.heap.size W w1) := HB.out.trans (hb1.mono HB.out.size)
  clear hb1 p0 p1 p2 p3 p4
  go_wp2
  go_ret2
  exact ⟨⟨ty, v, rfl⟩, HB1.out⟩
set_option maxRecDepth 100000 in
set_option maxHeartbeats 3200000 in
/-- .. of a record that is not right. -/
theorem shred_bad (eb es ek en : TypeId × Value) (t : Tr) (n : Nat) (hd : t.Dp n) (hn : n ≤ 1100000) (hs : t.Sm) (hv : vldN t = 0) (ds : List Dt) (hds : ds.length ≤ 100) (hsm : ∀ j (h : j < ds.length), ds[j].Sm) (p : Nat) (hp : p < ds.length) (hbad : chk false t ds[p] ≠ 0)
    (a : Option Addr) (c : Nat) (hcap : t.sub.length ≤ c) (da : Option Addr) (dc : Nat) (W : World) (he : EC W eb es ek) (hen : W.cell? ⟨4, 0, none⟩ = some (.iface en.1 en.2)) (hl : LiesN W (fun b => b < W.heap.size) a t.sub) (hld : LiesD W (fun b => b < W.heap.size) da ds) :
    Calls Tryd.prog 7 #[nodeV t a c, .slice da ds.length dc] W fun e w' => (∃ ty v, e = .returned (.tuple #[.slice none 0 0, .iface ty v])) ∧ Below W.heap.size W w' := by
  have hb : Below W.heap.size W (W.alloc (.cells #[.int .i64 t.id, .string t.nm, .int .i64 t.rep, .int .i64 t.kind, .slice a t.sub.length c] 24)) := (Below.refl _ _).alloc (Nat.le_refl _) _
  have HX : Hid ((W.alloc (.cells #[.int .i64 t.id, .string t.nm, .int .i64 t.rep, .int .i64 t.kind, .slice a t.sub.length c] 24)).heap[W.heap.size]? = some (.cells #[.int .i64 t.id, .string t.nm, .int .i64 t.rep, .int .i64 t.kind, .slice a t.sub.length c] 24 (0, 0))) := heap_alloc_new W _
  have HLv : Hid _ := leaves_right t n hd hn hs a c _ (W.alloc (.cells #[.int .i64 t.id, .string t.nm, .int .i64 t.rep, .int .i64 t.kind, .slice a t.sub.length c] 24)) (hl.keep hb) hcap eb es en (he.keep hb).b (he.keep hb).s ((hb.cell (World.block_lt_of_cell? W _ hen)).trans hen) hv
  have HB : Hid (Below W.heap.size W (W.alloc (.cells #[.int .i64 t.id, .string t.nm, .int .i64 t.rep, .int .i64 t.kind, .slice a t.sub.length c] 24))) := hb
  have HEr : Hid (EC W eb es ek) := he
  have HEn : Hid (W.cell? ⟨4, 0, none⟩ = some (.iface en.1 en.2)) := hen
  have HL : Hid (LiesN W (fun b => b < W.heap.size) a t.sub) := hl
  have HLd : Hid (LiesD W (fun b => b < W.heap.size) da ds) := hld
  have HCk : Hid (∀ j (h : j < ds.length), ds[j].Sm) := hsm
  have HD : Hid (t.Dp n) := hd
  have HSm : Hid t.Sm := hs
  have HV : Hid (vldN t = 0) := hv
  have HBad : Hid (chk false t ds[p] ≠ 0) := hbad
  have q : decide ((100 : Int) < (ds.length : Int)) = false := by simp; omega
  clear hl hld hsm hd hs hv he hen hb hbad
  unfold nodeV
  go_enter Tryd.func7, Tryd.ntmps7
  go_wp2_with fail
  refine Calls.mono HLv.out ?_
  rintro e w1 ⟨⟨lv, rfl, hlv⟩, hb1⟩
  have HB1 : Hid (Below W.heap.size W w1) := HB.out.trans (hb1.mono HB.out.size)
  have HX1 : Hid (w1.heap[W.heap.size]? = some (.cells #[.int .i64 t.id, .string t.nm, .int .i64 t.rep, .int .i64 t.kind, .slice a t.sub.length c] 24 (0, 0))) := blk_keep hb1 HX.out
  obtain ⟨la, lc, rfl⟩ : ∃ la lc, lv = .slice la (lvsT t).length lc := (by obtain ⟨pvs, _, h2, _⟩ := hlv; exact own_sl h2)
  clear hb1 hlv HLv
  go_wp2
  clear q
  generalize (decide ((100 : Int) < (ds.length : Int))) = bq
  go_loopw [30] (fun x wr => ∃ i : Nat, i ≤ p ∧ x = .int .i64 i ∧ Hid (Below w1.heap.size w1 wr)) (fun x _ => ds.length - (intOf x).toNat)
  case atStart => exact ⟨0, Nat.zero_le _, rfl, Below.refl _ _⟩
  case round =>
    obtain ⟨i, hi, rfl, HBr⟩ := hrel
    have hs1 := HB1.out.size
    have hbr : Below W.heap.size W wr := HB1.out.trans (HBr.out.mono hs1)
    have hlt : i < ds.length := by omega
    obtain ⟨b', o', al1, cl1, af1, cf1, ea, ⟨e0, e1, e2, e3, e4, e5⟩, hd1, hd2⟩ := (HLd.out.keep hbr).at_ i hlt
    subst ea
    have hb2 : Below wr.heap.size wr (wr.alloc (.cells #[.bool ds[i].no, .int .i64 ds[i].v.k, .int .i64 ds[i].v.n, .string ds[i].v.s, .slice al1 ds[i].l.length cl1, .slice af1 ds[i].f.length cf1] 55)) := (Below.refl _ _).alloc (Nat.le_refl _) _
    have HC : Hid _ := checkD_right eb es ek en t ds[i] n HD.out hn HSm.out (HCk.out i hlt) HV.out _ _ a c hcap al1 cl1 af1 cf1 (wr.alloc (.cells #[.bool ds[i].no, .int .i64 ds[i].v.k, .int .i64 ds[i].v.n, .string ds[i].v.s, .slice al1 ds[i].l.length cl1, .slice af1 ds[i].f.length cf1] 55)) ((HEr.out.keep hbr).keep hb2) ((hb2.cell (World.block_lt_of_cell? _ _ ((hbr.cell (World.block_lt_of_cell? W _ HEn.out)).trans HEn.out))).trans ((hbr.cell (World.block_lt_of_cell? W _ HEn.out)).trans HEn.out)) ((HL.out.keep hbr).keep hb2) (hd1.keep hb2) (hd2.keep hb2)
    have HB2 : Hid _ := hb2
    obtain ⟨⟨p0, p1, p2, p3, p4⟩, _⟩ := row_five (blk_alloc (o' := (.cells #[.bool ds[i].no, .int .i64 ds[i].v.k, .int .i64 ds[i].v.n, .string ds[i].v.s, .slice al1 ds[i].l.length cl1, .slice af1 ds[i].f.length cf1] 55)) (blk_keep HBr.out HX1.out))
    have hle := chk_le ds[i] false t
    clear hb2 hd1 hd2 hbr
    go_wp2_with fail
    refine Calls.mono HC.out ?_
    rintro e w3 ⟨rfl, hb3⟩
    have HB3 : Hid (Below w1.heap.size w1 w3) := (HBr.out.trans (HB2.out.mono HBr.out.size)).trans (hb3.mono (by have := HBr.out.size; simp; omega))
    clear hb3 p0 p1 p2 p3 p4 e0 e1 e2 e3 e4 e5
    rcases erV_cases eb es ek (chk false t ds[i]) hle with ⟨hz, hev⟩ | ⟨hz, ty, v, hev⟩
    · have hip : i ≠ p := fun e => by subst e; exact HBad.out hz
      rw [hev]
      clear hev hz
      go_wp2
      go_roundw
      case rel => exact ⟨i + 1, by omega, by go_num, HB3⟩
      case measure => simp [intOf]; omega
    · rw [hev]
      clear hev hz
      go_wp2
      go_ret2
      refine ⟨⟨_, _, rfl⟩, ?_⟩
      have hbz : Below W.heap.size W w3 := HB1.out.trans (HB3.out.mono hs1)
      exact hbz.alloc hbz.size _
set_option maxRecDepth 100000 in
theorem shred_any (eb es ek en : TypeId × Value) (t : Tr) (n : Nat) (hd : t.Dp n) (hn : n ≤ 1100000) (hs : t.Sm) (QF : Nat → List Tr) (ZF : Nat → Tr) (hq : vldN t = 0 → ∀ j (h : j < (lvsT t).length), LfG t (lvsT t)[j] (QF j) (ZF j)) (ds : List Dt) (hds : ds.length ≤ 100) (hsm : ∀ j (h : j < ds.length), ds[j].Sm) (hw : wtL ds ≤ 20000)
    (a : Option Addr) (c : Nat) (hcap : t.sub.length ≤ c) (da : Option Addr) (dc : Nat) (W : World) (he : EC W eb es ek) (hen : W.cell? ⟨4, 0, none⟩ = some (.iface en.1 en.2)) (hl : LiesN W (fun b => b < W.heap.size) a t.sub) (hld : LiesD W (fun b => b < W.heap.size) da ds) :
    Calls Tryd.prog 7 #[nodeV t a c, .slice da ds.length dc] W fun e w' => (∃ ov ev, e = .returned (.tuple #[ov, ev]) ∧ ShR t QF ds W.heap.size ov ev w') ∧ Below W.heap.size W w' := by
  by_cases hv : vldN t = 0
  · by_cases hc : ∀ j (h : j < ds.length), chk false t ds[j] = 0
    · have hr := (right_parts hv).2.1
      have hall : ∀ d ∈ ds, chk true t d = 0 := fun d hm => by
        obtain ⟨j, hj, rfl⟩ := List.getElem_of_mem hm
        rw [← root_chk hr]
        exact hc j hj
      refine (shred_right eb es ek en t n hd hn hs hv (lvsT t) rfl (lvs_len hv) (fun j => stq t (QF j) 0 0) ds hds (fun j h => ⟨hsm j h, hc j h⟩) (fun j h => ?_) a c hcap da dc W he hen hl hld).mono ?_
      · have hg := hq hv j h
        have hf : ∀ d ∈ ds, FitS (stq t (QF j) 0 0) d := fun d hm => chn_fit _ t 0 0 d hg.w.way (hall d hm)
        refine ⟨by rw [hg.w.path, List.length_map]; have := hg.len; omega, by rw [hg.w.path]; exact stq_path _ t 0 0 hg.w.way, fun i hi => hf _ (List.getElem_mem hi), ?_⟩
        exact Nat.le_trans (ents_len _ _ ds hf) hw
      · rintro e w' ⟨⟨ov, rfl, hr⟩, hb⟩
        exact ⟨⟨ov, .nilIface, rfl, .inr ⟨rfl, hv, hall, hr⟩⟩, hb⟩
    · obtain ⟨p, hp⟩ := Classical.not_forall.1 hc
      obtain ⟨hpl, hbad⟩ := Classical.not_forall.1 hp
      refine (shred_bad eb es ek en t n hd hn hs hv ds hds hsm p hpl hbad a c hcap da dc W he hen hl hld).mono ?_
      rintro e w' ⟨⟨ty, v, rfl⟩, hb⟩
      exact ⟨⟨_, _, rfl, .inl ⟨ty, v, rfl, rfl⟩⟩, hb⟩
  · refine (shred_wrong eb es ek en t n hd hn hs hv ds.length a c hcap da dc W he hen hl).mono ?_
    rintro e w' ⟨⟨ty, v, rfl⟩, hb⟩
    exact ⟨⟨_, _, rfl, .inl ⟨ty, v, rfl, rfl⟩⟩, hb⟩
end Go.Proofs.YtdpedailookcjaaDoor

namespace Go.Proofs.YtdpedailookcjaaDoor
open Go.RowKit
/-- What Join answers; the rows are new, and have room. -/
def JnRetC (N : Nat) (lid kind mr md : Int) (cs : List Cl) (sv kv bv : Value) (e : Ending) (w' : World) : Prop :=
  (∃ i, ∃ h : i < cs.length, (∀ j (h : j < cs.length), j < i → GoodC lid kind mr md cs[j]) ∧ BadRet N lid kind mr md cs[i] sv kv e w') ∨
  ((∀ j (h : j < cs.length), GoodC lid kind mr md cs[j]) ∧ 20000 < (jR cs).length ∧ e = .returned (.tuple #[zeroC, bv])) ∨
  ((∀ j (h : j < cs.length), GoodC lid kind mr md cs[j]) ∧ (jR cs).length ≤ 20000 ∧ ∃ k : Cl, e = .returned (.tuple #[k.val, .nilIface]) ∧ k.At w' ∧ k.id = lid ∧ k.rs = jR cs ∧ k.ds = jD cs ∧ k.vs = jV cs ∧ k.Cap ∧ k.Fr N)
/-- What Join's boxes hold. -/
structure JbI (W : World) (lid kind mr md : Int) (pa : Option Addr) (pn pc : Nat) (X : World) : Prop where
  lf : X.heap[W.heap.size]? = some (.cells #[.int .i64 lid, .int .i64 kind, .int .i64 mr, .int .i64 md, .slice pa pn pc] 45 (0, 0))
  re : X.heap[W.heap.size + 1]? = some (.cells #[.int .i64 0, .slice none 0 0, .slice none 0 0, .slice none 0 0] 41 (0, 0))
  old : Below W.heap.size W X
theorem JbI.keep {W : World} {lid kind mr md : Int} {pa : Option Addr} {pn pc : Nat} {X w' : World} (h : JbI W lid kind mr md pa pn pc X) (hb : Below X.heap.size X w') : JbI W lid kind mr md pa pn pc w' :=
  ⟨blk_keep hb h.lf, blk_keep hb h.re, h.old.trans (hb.mono h.old.size)⟩
set_option maxRecDepth 100000 in
set_option maxHeartbeats 6400000 in
theorem join_cap (lid kind mr md : Int) (pa : Option Addr) (pn pc : Nat) (a : Option Addr) (c : Nat) (cs : List Cl) (W : World) (st kt bt : TypeId) (sp kp bp : Value)
    (hn : cs.length ≤ 1048576) (hjr : (jR cs).length ≤ 1048576) (hjd : (jD cs).length ≤ 1048576) (hjv : (jV cs).length ≤ 1048576) (hca : ∀ j (h : j < cs.length), cs[j].rs.length ≤ 1048576 ∧ cs[j].ds.length ≤ 1048576 ∧ cs[j].vs.length ≤ 1048576)
    (hs : W.cell? ⟨2, 0, none⟩ = some (.iface st sp)) (hk : W.cell? ⟨3, 0, none⟩ = some (.iface kt kp)) (hbd : W.cell? ⟨0, 0, none⟩ = some (.iface bt bp)) (hl : LiesC W a cs) :
    Calls Tryd.prog 11 #[leafV lid kind mr md pa pn pc, .slice a cs.length c] W fun e w' => JnRetC W.heap.size lid kind mr md cs (.iface st sp) (.iface kt kp) (.iface bt bp) e w' ∧ Below W.heap.size W w' := by
  unfold leafV
  obtain ⟨w0, HW0, HX, HY, HB⟩ := two_boxes W #[.int .i64 lid, .int .i64 kind, .int .i64 mr, .int .i64 md, .slice pa pn pc] #[.int .i64 0, .slice none 0 0, .slice none 0 0, .slice none 0 0] 45 41
  have HI0 : Hid (JbI W lid kind mr md pa pn pc w0) := ⟨HX.out, HY.out, HB.out⟩
  have HL : Hid (∀ X, JbI W lid kind mr md pa pn pc X → LiesC X a cs) := fun X hX => hl.keep hX.old
  have HS : Hid (∀ X, JbI W lid kind mr md pa pn pc X → X.cell? ⟨2, 0, none⟩ = some (.iface st sp)) := fun X hX => ckB hs hX.old
  have HK : Hid (∀ X, JbI W lid kind mr md pa pn pc X → X.cell? ⟨3, 0, none⟩ = some (.iface kt kp)) := fun X hX => ckB hk hX.old
  have HBD : Hid (∀ X, JbI W lid kind mr md pa pn pc X → X.cell? ⟨0, 0, none⟩ = some (.iface bt bp)) := fun X hX => ckB hbd hX.old
  have HCA : Hid _ := hca
  have hgN : 0 < W.heap.size := World.block_lt_of_cell? W _ hbd
  have hgN1 : ¬ (0 = W.heap.size + 1) := by omega
  have hgN2 : ¬ (W.heap.size = 0 - 1) := by omega
  simp only [Nat.reduceSub] at hgN2
  clear hl hs hk hbd HX HY HB hca hgN
  go_enter Tryd.func11, Tryd.ntmps11
  go_wp2
  rw [HW0.out]
  go_loopw [6, 12] (fun y x wr => ∃ i : Nat, i ≤ cs.length ∧ x = .int .i64 i ∧ y = .int .i64 ((jR (cs.take i)).length : Nat) ∧ Hid (∀ j (h : j < cs.length), j < i → GoodC lid kind mr md cs[j]) ∧ Hid (JbI W lid kind mr md pa pn pc wr)) (fun _ x _ => cs.length - (intOf x).toNat)
  case atStart => exact ⟨0, Nat.zero_le _, rfl, rfl, fun j _ h => absurd h (Nat.not_lt_zero _), HI0⟩
  case round =>
    clear HI0
    obtain ⟨i, hi, rfl, rfl, HG, HI⟩ := hrel
    obtain ⟨⟨p0, p1, p2, p3, p4⟩, _⟩ := row_five HI.out.lf
    obtain ⟨z0, z1, z2, z3⟩ := row_four HI.out.re
    obtain ⟨f0, f1, f2, f3⟩ := row_fourA HI.out.re
    have hjl := jR_le cs i
    obtain ⟨n, HN⟩ : ∃ n, Hid ((jR (cs.take i)).length = n) := ⟨_, rfl⟩
    by_cases hlt : i < cs.length
    · have HN1 : Hid ((jR (cs.take (i + 1))).length = n + cs[i].rs.length) := (by show _ = _; rw [jR_succ hlt, List.length_append, HN.out])
      have hjl2 := jR_le cs (i + 1)
      rw [HN1.out] at hjl2
      rw [HN.out] at hjl ⊢
      obtain ⟨⟨b, o, rfl, c0, c1, c2, c3⟩, hat⟩ := HL.out wr HI.out i hlt
      have HB0 : Hid (Below wr.heap.size wr (wr.alloc (.cells #[.int .i64 cs[i].id, .slice cs[i].ra cs[i].rs.length cs[i].rc, .slice cs[i].da cs[i].ds.length cs[i].dc, .slice cs[i].va cs[i].vs.length cs[i].vc] 41))) := (Below.refl _ _).alloc (Nat.le_refl _) _
      have HI0 : Hid (JbI W lid kind mr md pa pn pc _) := HI.out.keep HB0.out
      have HC0 : Hid _ := heap_alloc_new wr (.cells #[.int .i64 cs[i].id, .slice cs[i].ra cs[i].rs.length cs[i].rc, .slice cs[i].da cs[i].ds.length cs[i].dc, .slice cs[i].va cs[i].vs.length cs[i].vc] 41)
      have HA0 : Hid _ := hat.keep HB0.out
      obtain ⟨hc1, hc2, hc3⟩ := HCA.out i hlt
      have HEC : Hid (∀ j (h : j < cs.length), j = i → cs[j] = cs[i]) := fun j h e => by subst e; rfl
      clear hat p0 p1 p2 p3 p4
      obtain ⟨⟨p0, p1, p2, p3, p4⟩, _⟩ := row_five HI0.out.lf
      have HCk : Hid _ := scheck_any lid kind mr md cs[i].id pa cs[i].ra cs[i].da cs[i].va pn pc cs[i].rc cs[i].dc cs[i].vc cs[i].rs cs[i].ds cs[i].vs _ st kt sp kp hc1 hc2 hc3 (HS.out _ HI0.out) (HK.out _ HI0.out) HA0.out.r HA0.out.d HA0.out.v
      have HGi : Hid (GoodC lid kind mr md cs[i] → ∀ j (h : j < cs.length), j < i + 1 → GoodC lid kind mr md cs[j]) := fun hg j h hj => by
        by_cases e : j = i
        · subst e; exact hg
        · exact HG.out j h (by omega)
      have HBi : Hid (∀ e w', BadRet W.heap.size lid kind mr md cs[i] (.iface st sp) (.iface kt kp) e w' → JnRetC W.heap.size lid kind mr md cs (.iface st sp) (.iface kt kp) (.iface bt bp) e w') := fun e w' h => .inl ⟨i, hlt, HG.out, h⟩
      generalize cs[i] = k at *
      go_wp2_with fail
      refine Calls.mono HCk.out ?_
      rintro e w1 ⟨hck, hb1⟩
      have HI1 : Hid (JbI W lid kind mr md pa pn pc w1) := HI0.out.keep hb1
      have HC1 : Hid _ := blk_keep hb1 HC0.out
      have HSz : Hid (W.heap.size + 1 < wr.heap.size) := lt_of_block HI.out.re
      clear p0 p1 p2 p3 p4 z0 z1 z2 z3 f0 f1 f2 f3 hb1
      obtain ⟨z0, z1, z2, z3⟩ := row_four HI1.out.re
      obtain ⟨f0, f1, f2, f3⟩ := row_fourA HI1.out.re
      obtain ⟨d0, d1, d2, d3⟩ := row_four HC1.out
      rcases hck with ⟨hb, rfl⟩ | ⟨hg, ⟨hall, rfl⟩ | ⟨p, hp, hbad, hf, q, hqn, rfl, hq0, hq1⟩⟩
      · have HBd : Hid _ := hb
        clear hb
        go_wp2
        exact bodyPost_ret (v := .tuple #[zeroC, .iface st sp]) (results_cR Tryd.results11 _ _ (W.heap.size + 1) 41 #[.int .i64 0, .slice none 0 0, .slice none 0 0, .slice none 0 0] (0, 0) _ (.iface st sp) rfl rfl (row_setCell (row_setCell (row_setCell (row_setCell HI1.out.re _) _) _) _) Tryd.underlying41 rfl (by kernel_rfl)) rfl ⟨HBi.out _ _ (.inl ⟨HBd.out, rfl⟩), (((HI1.out.old.setCell (by simp) _).setCell (by simp) _).setCell (by simp) _).setCell (by simp) _⟩
      · have HGo : Hid _ := HGi.out ⟨hg, hall⟩
        clear hg hall
        go_wp2
        go_roundw
        case rel => exact ⟨i + 1, by omega, by go_num, by rw [HN1.out]; go_num, HGo, HI1⟩
        case measure => simp [intOf]; omega
      · have HGd : Hid _ := hg
        have HQ0 : Hid _ := hq0
        have HQ1 : Hid _ := hq1
        have HBa : Hid _ := hbad
        have HF : Hid _ := hf
        have HQN : Hid (W.heap.size + 1 < q) := (by have := HSz.out; have h2 := HB0.out.size; show _ < _; omega)
        clear hg hq0 hq1 hbad hf hqn
        go_wp2
        have hoff : ∀ (X : World) (o j : Nat) (v : Value), (X.setCell ⟨W.heap.size + 1, j, none⟩ v).cell? ⟨q, o, none⟩ = X.cell? ⟨q, o, none⟩ := fun X o j v => cell_off (by have := HQN.out; omega)
        exact bodyPost_ret (v := .tuple #[zeroC, .iface 70 (.pointer (some ⟨q, 0, none⟩))]) (results_cR Tryd.results11 _ _ (W.heap.size + 1) 41 #[.int .i64 0, .slice none 0 0, .slice none 0 0, .slice none 0 0] (0, 0) _ (.iface 70 (.pointer (some ⟨q, 0, none⟩))) rfl rfl (row_setCell (row_setCell (row_setCell (row_setCell HI1.out.re _) _) _) _) Tryd.underlying41 rfl (by kernel_rfl)) rfl ⟨HBi.out _ _ (.inr ⟨HGd.out, p, hp, HBa.out, HF.out, q, (by have := HQN.out; omega), rfl, by rw [hoff, hoff, hoff, hoff]; exact HQ0.out, by rw [hoff, hoff, hoff, hoff]; exact HQ1.out⟩), (((HI1.out.old.setCell (by simp) _).setCell (by simp) _).setCell (by simp) _).setCell (by simp) _⟩
    · obtain rfl : i = cs.length := by omega
      have HGa : Hid (∀ j (h : j < cs.length), GoodC lid kind mr md cs[j]) := fun j h => HG.out j h h
      have HNe : Hid ((jR cs).length = n) := (by have h := HN.out; rw [List.take_length] at h; exact h)
      rw [HN.out]
      have hbe := HBD.out _ HI.out
      by_cases hm : 20000 < n
      · have q1 : decide ((20000 : Int) < (n : Int)) = true := by rw [decide_eq_true_iff]; omega
        go_wp2_with fail
        go_region
        all_goals
          go_wp2
          exact bodyPost_ret (v := .tuple #[zeroC, .iface bt bp]) (results_cR Tryd.results11 _ _ (W.heap.size + 1) 41 #[.int .i64 0, .slice none 0 0, .slice none 0 0, .slice none 0 0] (0, 0) _ (.iface bt bp) rfl rfl (blk_drew (row_setCell (row_setCell (row_setCell (row_setCell HI.out.re _) _) _) _)) Tryd.underlying41 rfl (by kernel_rfl)) rfl ⟨.inr (.inl ⟨HGa.out, by rw [HNe.out]; exact hm, rfl⟩), ((((HI.out.old.setCell (by simp) _).setCell (by simp) _).setCell (by simp) _).setCell (by simp) _).drew⟩
      · have q1 : decide ((20000 : Int) < (n : Int)) = false := by rw [decide_eq_false_iff_not]; omega
        have hmn : n ≤ 20000 := by omega
        clear hm
        go_wp2_with fail
        refine (joined_nc lid kind mr md pa pn pc a cs.length c cs wr hn hjr hjd hjv (HL.out _ HI.out) rfl).mono ?_
        rintro e xj ⟨⟨⟨kid, kra, krs, krc, kda, kds, kdc, kva, kvs, kvc⟩, rfl, kat, kfr, rfl, rfl, rfl, rfl, kcap⟩, hbj⟩
        have HKA : Hid _ := kat
        have HKF : Hid _ := kfr
        have HKC : Hid _ := kcap
        have HBJ : Hid _ := hbj
        clear kat kfr kcap hbj z0 z1 z2 z3 f0 f1 f2 f3
        obtain ⟨z0, z1, z2, z3⟩ := row_four (blk_keep HBJ.out HI.out.re)
        obtain ⟨f0, f1, f2, f3⟩ := row_fourA (blk_keep HBJ.out HI.out.re)
        go_wp2
        have hgN : W.heap.size + 1 < wr.heap.size := lt_of_block HI.out.re
        have hol : Below W.heap.size W xj := HI.out.old.trans (HBJ.out.mono (by omega))
        exact bodyPost_ret (v := .tuple #[.agg #[.int .i64 kid, .slice kra (jR cs).length krc, .slice kda (jD cs).length kdc, .slice kva (jV cs).length kvc], .nilIface]) (results_cR Tryd.results11 _ _ (W.heap.size + 1) 41 #[.int .i64 kid, .slice kra (jR cs).length krc, .slice kda (jD cs).length kdc, .slice kva (jV cs).length kvc] (0, 0) _ .nilIface rfl rfl (row_setCell (row_setCell (row_setCell (row_setCell (blk_keep HBJ.out HI.out.re) _) _) _) _) Tryd.underlying41 rfl (by kernel_rfl)) rfl ⟨.inr (.inr ⟨HGa.out, by rw [HNe.out]; exact hmn, ⟨kid, kra, jR cs, krc, kda, jD cs, kdc, kva, jV cs, kvc⟩, rfl, (((HKA.out.off HKF.out hgN).off HKF.out hgN).off HKF.out hgN).off HKF.out hgN, rfl, rfl, rfl, rfl, HKC.out, HKF.out.low HI.out.old.size⟩), (((hol.setCell (by simp) _).setCell (by simp) _).setCell (by simp) _).setCell (by simp) _⟩
end Go.Proofs.YtdpedailookcjaaDoor

namespace Go.Proofs.YtdpedailookcjaaDoor
open Go.RowKit
theorem liesC_twoS {W : World} {g T : Nat} {a b : Cl} (hg : W.heap[g]? = some (.cells #[.int .i64 a.id, .slice a.ra a.rs.length a.rc, .slice a.da a.ds.length a.dc, .slice a.va a.vs.length a.vc, .int .i64 b.id, .slice b.ra b.rs.length b.rc, .slice b.da b.ds.length b.dc, .slice b.va b.vs.length b.vc] T (0, 0))) (h1 : a.At W) (h2 : b.At W) : LiesC W (some ⟨g, 0, none⟩) [a, b] := fun j hj => by
  have hj2 : j < 2 := by simpa using hj
  match j, hj2 with
  | 0, _ => exact ⟨⟨g, 0, rfl, cell_of_row W g 0 _ T _ hg, cell_of_row W g 1 _ T _ hg, cell_of_row W g 2 _ T _ hg, cell_of_row W g 3 _ T _ hg⟩, h1⟩
  | 1, _ => exact ⟨⟨g, 0, rfl, cell_of_row W g 4 _ T _ hg, cell_of_row W g 5 _ T _ hg, cell_of_row W g 6 _ T _ hg, cell_of_row W g 7 _ T _ hg⟩, h2⟩
/-- Join of two right columns. -/
theorem join_good (lid kind mr md : Int) (pa : Option Addr) (pn pc g T : Nat) (a b : Cl) (W : World) (t1 t2 t3 : TypeId) (p1 p2 p3 : Value) (ga : GoodC lid kind mr md a) (gb : GoodC lid kind mr md b)
    (hr : a.rs.length + b.rs.length ≤ 20000) (hd : a.ds.length + b.ds.length ≤ 20000) (hv : a.vs.length + b.vs.length ≤ 20000)
    (hs : W.cell? ⟨2, 0, none⟩ = some (.iface t1 p1)) (hk : W.cell? ⟨3, 0, none⟩ = some (.iface t2 p2)) (hbd : W.cell? ⟨0, 0, none⟩ = some (.iface t3 p3)) (h1 : a.At W) (h2 : b.At W)
    (hg : W.heap[g]? = some (.cells #[.int .i64 a.id, .slice a.ra a.rs.length a.rc, .slice a.da a.ds.length a.dc, .slice a.va a.vs.length a.vc, .int .i64 b.id, .slice b.ra b.rs.length b.rc, .slice b.da b.ds.length b.dc, .slice b.va b.vs.length b.vc] T (0, 0))) :
    Calls Tryd.prog 11 #[.agg #[.int .i64 lid, .int .i64 kind, .int .i64 mr, .int .i64 md, .slice pa pn pc], .slice (some ⟨g, 0, none⟩) 2 2] W fun e w' => (∃ k : Cl, e = .returned (.tuple #[.agg #[.int .i64 k.id, .slice k.ra k.rs.length k.rc, .slice k.da k.ds.length k.dc, .slice k.va k.vs.length k.vc], .nilIface]) ∧ k.At w' ∧ k.Fr W.heap.size ∧ k.Cap ∧ k.id = lid ∧ k.rs = a.rs ++ b.rs ∧ k.ds = a.ds ++ b.ds ∧ k.vs = a.vs ++ b.vs) ∧ Below W.heap.size W w' := by
  have good : ∀ j (h : j < [a, b].length), GoodC lid kind mr md [a, b][j] := fun j hj => by
    have hj2 : j < 2 := by simpa using hj
    match j, hj2 with
    | 0, _ => exact ga
    | 1, _ => exact gb
  refine (join_cap lid kind mr md pa pn pc (some ⟨g, 0, none⟩) 2 [a, b] W t1 t2 t3 p1 p2 p3 (by simp) (by simp [jR]; omega) (by simp [jD]; omega) (by simp [jV]; omega) (fun j hj => ?_) hs hk hbd (liesC_twoS hg h1 h2)).mono fun e w' h => ⟨?_, h.2⟩
  · have hj2 : j < 2 := by simpa using hj
    match j, hj2 with
    | 0, _ => exact ⟨by simp; omega, by simp; omega, by simp; omega⟩
    | 1, _ => exact ⟨by simp; omega, by simp; omega, by simp; omega⟩
  · rcases h.1 with ⟨i, hi, _, hb⟩ | ⟨_, hl, _⟩ | ⟨_, _, k, h1, h2, h3, h4, h5, h6, h7, h8⟩
    · have hgi := good i hi
      rcases hb with ⟨h, _⟩ | ⟨_, p, hp, h, _⟩
      · rw [hgi.1] at h; cases h
      · rw [hgi.2 p hp] at h; cases h
    · simp [jR] at hl; omega
    · exact ⟨k, h1, h2, h8, h7, h3, by rw [h4]; simp [jR], by rw [h5]; simp [jD], by rw [h6]; simp [jV]⟩
/-- Part of a right column. -/
theorem part_good (lid kind mr md lo hi : Int) (pa : Option Addr) (pn pc : Nat) (c : Cl) (W : World) (t1 t2 t3 : TypeId) (p1 p2 p3 : Value) (gc : GoodC lid kind mr md c) (hin : 0 ≤ lo ∧ lo ≤ hi ∧ hi ≤ (cntE 0 c.rs : Nat))
    (hn : c.rs.length ≤ 20000) (hn2 : c.ds.length ≤ 20000) (hv : c.vs.length ≤ 20000) (hcap : c.Cap)
    (hs : W.cell? ⟨2, 0, none⟩ = some (.iface t1 p1)) (hk : W.cell? ⟨3, 0, none⟩ = some (.iface t2 p2)) (hbd : W.cell? ⟨0, 0, none⟩ = some (.iface t3 p3)) (hat : c.At W) :
    Calls Tryd.prog 18 #[.agg #[.int .i64 lid, .int .i64 kind, .int .i64 mr, .int .i64 md, .slice pa pn pc], .agg #[.int .i64 c.id, .slice c.ra c.rs.length c.rc, .slice c.da c.ds.length c.dc, .slice c.va c.vs.length c.vc], .int .i64 lo, .int .i64 hi] W fun e w' => (∃ (k : Cl) (a b : Nat), e = .returned (.tuple #[.agg #[.int .i64 k.id, .slice k.ra k.rs.length k.rc, .slice k.da k.ds.length k.dc, .slice k.va k.vs.length k.vc], .nilIface]) ∧ k.At w' ∧ k.Fr W.heap.size ∧ StAt c.rs lo a ∧ StAt c.rs hi b ∧ k.id = lid ∧ k.rs = cutL c.rs a b ∧ k.ds = cutL c.ds a b ∧ k.vs = cutL c.vs (cntE md (c.ds.take a)) (cntE md (c.ds.take b))) ∧ Below W.heap.size W w' := by
  refine (part_any lid kind mr md lo hi pa pn pc c W t1 t2 t3 p1 p2 p3 (by omega) (by omega) (by omega) hcap.1 hcap.2.1 hcap.2.2 hs hk hbd hat).mono fun e w' h => ⟨?_, h.2⟩
  rcases h.1 with hb | ⟨_, hno, _⟩ | ⟨_, _, k, a, b, h1, h2, h3, h4, h5, h6, h7, h8, h9⟩
  · rcases hb with ⟨h, _⟩ | ⟨_, p, hp, h, _⟩
    · rw [gc.1] at h; cases h
    · rw [gc.2 p hp] at h; cases h
  · exact absurd hin hno
  · exact ⟨k, a, b, h1, h2, h3, h4, h5, h6, h7, h8, h9⟩
end Go.Proofs.YtdpedailookcjaaDoor

namespace Go.Proofs.YtdpedailookcjaaDoor
open Go.RowKit
theorem pick_ways (t : Tr) : ∃ (QF : Nat → List Tr) (ZF : Nat → Tr), vldN t = 0 → ∀ j (h : j < (lvsT t).length), LfG t (lvsT t)[j] (QF j) (ZF j) := by
  by_cases hv : vldN t = 0
  · have each : ∀ i, i < (lvsT t).length → ∃ x : List Tr × Tr, ∀ h : i < (lvsT t).length, LfG t (lvsT t)[i] x.1 x.2 := fun i hi => by
      obtain ⟨q, z, h⟩ := right_leaf hv (lvsT t)[i] (List.getElem_mem hi)
      exact ⟨(q, z), fun _ => h⟩
    have : Inhabited (List Tr × Tr) := ⟨([], .node 0 ⟨#[]⟩ 0 0 [])⟩
    obtain ⟨f, hf⟩ := Deep.choose_lt each
    exact ⟨fun i => (f i).1, fun i => (f i).2, fun _ j h => hf j h h⟩
  · exact ⟨fun _ => [], fun _ => t, fun h => absurd h hv⟩
/-- What is known of the law's three lists of columns. -/
structure Trio (t : Tr) (QF : Nat → List Tr) (ds : List Dt) (w : World) (a : Option Addr) (ks : List Cl) : Prop where
  len : ks.length = (lvsT t).length
  lies : LiesC w a ks
  each : ∀ j (h : j < ks.length) (h' : j < (lvsT t).length), ks[j].id = (lvsT t)[j].id ∧ ks[j].rs = eR (ents (lvsT t)[j].md (stq t (QF j) 0 0) ds) ∧ ks[j].ds = eD (ents (lvsT t)[j].md (stq t (QF j) 0 0) ds) ∧ ks[j].vs = eV (ents (lvsT t)[j].md (stq t (QF j) 0 0) ds) ∧ ks[j].Cap
theorem Trio.keep {t : Tr} {QF : Nat → List Tr} {ds : List Dt} {w w' : World} {a : Option Addr} {ks : List Cl} (h : Trio t QF ds w a ks) (hb : Below w.heap.size w w') : Trio t QF ds w' a ks := ⟨h.len, h.lies.keep hb, h.each⟩
theorem trio_of {t : Tr} {QF : Nat → List Tr} {ds : List Dt} {w : World} {N : Nat} {ov : Value} (h : ColR w N ov ((lvsT t).mapIdx fun j f => colOf f (stq t (QF j) 0 0) ds)) : ∃ a c ks, ov = .slice a (List.length ks) c ∧ Trio t QF ds w a ks := by
  obtain ⟨a, c, ks, h1, h2, h3, h4⟩ := h.cls
  rw [List.length_mapIdx] at h1
  refine ⟨a, c, ks, h2, h1, h3, fun j hj hj' => ?_⟩
  have := h4 j hj (by rw [List.length_mapIdx]; exact hj')
  simp only [List.getElem_mapIdx, colOf] at this
  exact this
theorem shR_cases {t : Tr} {QF : Nat → List Tr} {ds : List Dt} {N : Nat} {ov ev : Value} {w : World} (h : ShR t QF ds N ov ev w) : (∃ ty v, ov = .slice none 0 0 ∧ ev = .iface ty v) ∨ (ev = .nilIface ∧ vldN t = 0 ∧ (∀ d ∈ ds, chk true t d = 0) ∧ ∃ a c ks, ov = .slice a (List.length ks) c ∧ Trio t QF ds w a ks) := by
  rcases h with h | ⟨h1, h2, h3, h4⟩
  · exact .inl h
  · exact .inr ⟨h1, h2, h3, trio_of h4⟩
theorem ShR.sl {t : Tr} {QF : Nat → List Tr} {ds : List Dt} {N : Nat} {ov ev : Value} {w : World} (h : ShR t QF ds N ov ev w) : ∃ a n c, ov = .slice a n c := by
  rcases shR_cases h with ⟨_, _, h, _⟩ | ⟨_, _, _, a, c, ks, h, _⟩
  · exact ⟨_, _, _, h⟩
  · exact ⟨_, _, _, h⟩
theorem ShR.keep {t : Tr} {QF : Nat → List Tr} {ds : List Dt} {N : Nat} {ov ev : Value} {w w' : World} (h : ShR t QF ds N ov ev w) (hb : Below w.heap.size w w') : ShR t QF ds N ov ev w' := by
  rcases h with h | ⟨h1, h2, h3, h4⟩
  · exact .inl h
  · exact .inr ⟨h1, h2, h3, h4.keep hb⟩
theorem two_sndS (w : World) (c c' : Obj) : ((w.alloc c).alloc c').heap[w.heap.size + 1]? = some c' := by
  have h := heap_alloc_new (w.alloc c) c'
  rwa [show (w.alloc c).heap.size = w.heap.size + 1 by simp] at h
/-- What is known of three columns of a leaf: of some records, of others, of both. -/
structure TrF (t : Tr) (f : Lf) (q : List Tr) (n : Nat) (AB : List Dt) (X Y Z : Cl) : Prop where
  gx : GoodC f.id f.kind (f.mr : Nat) (f.md : Nat) X
  gy : GoodC f.id f.kind (f.mr : Nat) (f.md : Nat) Y
  gz : GoodC f.id f.kind (f.mr : Nat) (f.md : Nat) Z
  cnt : cntE 0 Z.rs = n
  id : Z.id = f.id
  rs : Z.rs = X.rs ++ Y.rs
  ds : Z.ds = X.ds ++ Y.ds
  vs : Z.vs = X.vs ++ Y.vs
  walk : Z.vs = AB.flatMap (vo t q)
  lr : Z.rs.length ≤ 6000
  ld : Z.ds.length ≤ 6000
  lv : Z.vs.length ≤ 6000
  cap : Z.Cap
theorem trio_at {t : Tr} {QF : Nat → List Tr} {ZF : Nat → Tr} {A B : List Dt} {w : World} {xa ya za : Option Addr} {kx ky kz : List Cl} (hx : Trio t QF A w xa kx) (hy : Trio t QF B w ya ky) (hz : Trio t QF (A ++ B) w za kz) (hc : ∀ d ∈ A ++ B, chk true t d = 0) (hw : wtL (A ++ B) ≤ 6000) (i : Nat) (hi : i < (lvsT t).length) (hg : LfG t (lvsT t)[i] (QF i) (ZF i)) (h1 : i < kx.length) (h2 : i < ky.length) (h3 : i < kz.length) : TrF t (lvsT t)[i] (QF i) (A ++ B).length (A ++ B) kx[i] ky[i] kz[i] := by
  obtain ⟨x0, x1, x2, x3, _⟩ := hx.each i h1 hi
  obtain ⟨y0, y1, y2, y3, _⟩ := hy.each i h2 hi
  obtain ⟨z0, z1, z2, z3, z4⟩ := hz.each i h3 hi
  have hf : ∀ d ∈ A ++ B, FitS (stq t (QF i) 0 0) d := fun d hm => chn_fit _ t 0 0 d hg.w.way (hc d hm)
  have hl := Nat.le_trans (ents_len (stq t (QF i) 0 0) (lvsT t)[i].md (A ++ B) hf) hw
  have gx := col_good hg A (fun d hd => hc d (List.mem_append_left _ hd)) kx[i] x0 x1 x2 x3
  have gy := col_good hg B (fun d hd => hc d (List.mem_append_right _ hd)) ky[i] y0 y1 y2 y3
  have gz := col_good hg (A ++ B) hc kz[i] z0 z1 z2 z3
  refine ⟨gx.1, gy.1, gz.1, gz.2, z0, ?_, ?_, ?_, ?_, ?_, ?_, ?_, z4⟩
  · rw [z1, x1, y1, ents_app]; simp [eR]
  · rw [z2, x2, y2, ents_app]; simp [eD]
  · rw [z3, x3, y3, ents_app]; simp [eV]
  · rw [z3, eV_ents]
  · rw [z1, eR, List.length_map]; exact hl
  · rw [z2, eD, List.length_map]; exact hl
  · rw [z3]; exact Nat.le_trans (eV_len _) hl
end Go.Proofs.YtdpedailookcjaaDoor

namespace Go.Proofs.YtdpedailookcjaaDoor
open Go.RowKit
theorem vsR_cells {w : World} {N : Nat} {a : Option Addr} {c : Nat} {vs : List Vl} (h : VsR w N (.slice a vs.length c) vs) : (vcells vs).length = vs.length * 3 ∧ (∀ j u, (vcells vs)[j]? = some u → ∃ p, a = some p ∧ w.cell? (p.add j) = some u) ∧ ∀ u ∈ vcells vs, u.oneCell' = true := by
  refine ⟨vcells_len vs, fun j u hu => ?_, fun u hu => ?_⟩
  · rcases h.2 with ⟨e, h0⟩ | ⟨g, cap, cur, e, _⟩
    · have hl := h.1
      rw [h0] at hl
      rw [List.eq_nil_of_length_eq_zero (by omega : (vcells vs).length = 0)] at hu
      simp at hu
    · injection e with e _ _
      exact ⟨_, e, h.cells (g := g) (by rw [e]; rfl) j u hu⟩
  · unfold vcells at hu
    obtain ⟨v, _, hu⟩ := List.mem_flatMap.1 hu
    simp at hu
    rcases hu with rfl | rfl | rfl <;> rfl
theorem ons_one {t : Tr} {d : Dt} (hr : isRootB t = true) (h : chk true t d = 0) (q : List Tr) : (ons t d).flatMap (vo t q) = vo t q d := by
  have h1 : t.rep = 1 := (of_decide_eq_true hr).2.2.1
  have h2 : t.kind = 0 := (of_decide_eq_true hr).2.2.2
  have h3 := (chk_grp h2 h).1
  rw [ons, if_neg (by rw [h1]; decide), if_neg (by rw [h3]; simp)]
  simp
end Go.Proofs.YtdpedailookcjaaDoor

namespace Go.Proofs.YtdpedailookcjaaDoor
open Go.RowKit
/-- All blocks but one are as they were. -/
structure OffK (g : Nat) (W X : World) : Prop where
  os : X.os = W.os
  tape : X.tape = W.tape
  output : X.output = W.output
  size : W.heap.size ≤ X.heap.size
  keep : ∀ k, k < W.heap.size → k ≠ g → X.heap[k]? = W.heap[k]?
theorem OffK.of {g : Nat} {W X : World} (h : Below W.heap.size W X) : OffK g W X := ⟨h.os, h.tape, h.output, h.size, fun k hk _ => h.block k hk⟩
theorem OffK.setCell {g : Nat} {W X : World} (h : OffK g W X) {p : Addr} (hp : p.block = g) (u : Value) : OffK g W (X.setCell p u) :=
  ⟨h.os, h.tape, h.output, by simp [World.setCell]; exact h.size, fun k hk hn => (Below.heap_setCell _ _ _ _ (by rw [hp]; exact hn)).trans (h.keep k hk hn)⟩
theorem OffK.put {g j : Nat} {W X : World} (h : OffK g W X) (u : Value) : OffK g W (X.setCell ⟨g, j, none⟩ u) := h.setCell rfl u
theorem OffK.below {g N : Nat} {W X : World} (h : OffK g W X) (h1 : N ≤ g) (h2 : N ≤ W.heap.size) : Below N W X :=
  ⟨h.os, h.tape, h.output, h.size, fun k hk => h.keep k (by omega) (by omega)⟩
theorem OffK.cell {g : Nat} {W X : World} (h : OffK g W X) {b o : Nat} {u : Value} (hc : W.cell? ⟨b, o, none⟩ = some u) (hn : b ≠ g) : X.cell? ⟨b, o, none⟩ = some u :=
  cell_stay hc (h.keep b (World.block_lt_of_cell? W _ hc) hn)
end Go.Proofs.YtdpedailookcjaaDoor

namespace Go.Proofs.YtdpedailookcjaaDoor
open Go.RowKit
set_option maxRecDepth 100000 in
set_option maxHeartbeats 200000000 in
set_option linter.unusedVariables false in
theorem reg17_any {v0 v1 v2 v3 v4 v5 v6 v7 v8 v9 v11 v13 v14 v15 v16 v19 v20 v21 v22 v23 v24 v25 v26 v27 v28 v29 v30 v31 v32 v33 v34 v35 v36 v37 v38 v39 v40 v41 v42 v43 v44 v45 v46 v47 v48 v49 v50 v51 v52 v53 v54 v55 v56 v57 v58 v59 v60 v61 v62 v63 v64 v65 v66 v67 v68 v69 v70 v71 v72 v73 v74 v75 v76 v77 v78 v79 v80 v81 v82 v83 v84 v85 v86 v87 v88 v89 v90 v91 v92 v93 v94 v95 v96 v97 v98 v99 v100 v101 v102 v103 v104 v105 v106 v107 v108 v109 v110 v111 v112 v113 v114 v115 v116 v117 v118 v119 v120 v121 v122 v123 v124 v125 v126 v127 v128 v129 v130 v131 v132 v133 v134 v135 v136 v137 v138 v139 v140 v141 v142 v143 v144 v145 v146 v147 v148 v149 v150 v151 v152 v153 v154 v155 v156 v157 v158 v159 v160 v161 v162 v163 v164 v165 v166 v167 v168 v169 v170 v171 v172 v173 v174 v175 v176 v177 v178 v179 v180 v181 v182 v183 v184 v185 v186 v187 v188 v189 v190 v191 v192 v193 v194 v195 v196 v197 v198 v199 v200 v201 v202 v203 v204 v205 v206 v207 v208 v209 v210 v211 v212 v213 v214 v215 v216 v217 v218 v219 v220 v221 v222 v223 v224 v225 v226 v227 v228 v229 v230 v231 v232 v233 v234 v235 v236 v237 v238 v239 v240 v241 v242 v243 v244 v245 v246 v247 v248 v249 v250 v251 v252 v253 v254 v255 v256 v257 v258 v259 v260 v261 v262 v263 v264 v265 : Value} {Q : Exit → Act → World → Prop} (KX Y Z : Cl) (f : Lf) (lg : Nat) (pa : Option Addr) (pc xb xo cx yb yo cy cl n i : Nat) (wr : World) (hlt : i < n)
    (HO1 : Hid (∀ X, Below wr.heap.size wr X → Calls Tryd.prog 12 #[.agg #[.int .i64 f.id, .int .i64 f.kind, .int .i64 (f.mr : Nat), .int .i64 (f.md : Nat), .slice pa f.path.length pc]] X fun e w' => (∃ pa' pc', e = .returned (.agg #[.int .i64 f.id, .int .i64 f.kind, .int .i64 (f.mr : Nat), .int .i64 (f.md : Nat), .slice pa' f.path.length pc'])) ∧ Below wr.heap.size wr w' ∧ Below X.heap.size X w'))
    (HOJ : Hid (∀ X g pa' pc', Below wr.heap.size wr X → X.heap[g]? = some (.cells #[.int .i64 KX.id, .slice KX.ra KX.rs.length KX.rc, .slice KX.da KX.ds.length KX.dc, .slice KX.va KX.vs.length KX.vc, .int .i64 Y.id, .slice Y.ra Y.rs.length Y.rc, .slice Y.da Y.ds.length Y.dc, .slice Y.va Y.vs.length Y.vc] 41 (0, 0)) → Calls Tryd.prog 11 #[.agg #[.int .i64 f.id, .int .i64 f.kind, .int .i64 (f.mr : Nat), .int .i64 (f.md : Nat), .slice pa' f.path.length pc'], .slice (some ⟨g, 0, none⟩) 2 2] X fun e w' => (∃ k : Cl, e = .returned (.tuple #[.agg #[.int .i64 k.id, .slice k.ra k.rs.length k.rc, .slice k.da k.ds.length k.dc, .slice k.va k.vs.length k.vc], .nilIface]) ∧ k.At w' ∧ k.Fr X.heap.size ∧ k.id = f.id ∧ k.rs = Z.rs ∧ k.ds = Z.ds ∧ k.vs = Z.vs) ∧ Below wr.heap.size wr w' ∧ Below X.heap.size X w'))
    (HN : Hid (∀ X, Below wr.heap.size wr X → (X.cell? ⟨lg, i * 5, none⟩ = some (.int .i64 f.id) ∧ X.cell? ⟨lg, i * 5 + 1, none⟩ = some (.int .i64 f.kind) ∧ X.cell? ⟨lg, i * 5 + 2, none⟩ = some (.int .i64 (f.mr : Nat)) ∧ X.cell? ⟨lg, i * 5 + 3, none⟩ = some (.int .i64 (f.md : Nat)) ∧ X.cell? ⟨lg, i * 5 + 4, none⟩ = some (.slice pa f.path.length pc)) ∧ (X.cell? ⟨xb, xo + i * 4, none⟩ = some (.int .i64 KX.id) ∧ X.cell? ⟨xb, xo + i * 4 + 1, none⟩ = some (.slice KX.ra KX.rs.length KX.rc) ∧ X.cell? ⟨xb, xo + i * 4 + 2, none⟩ = some (.slice KX.da KX.ds.length KX.dc) ∧ X.cell? ⟨xb, xo + i * 4 + 3, none⟩ = some (.slice KX.va KX.vs.length KX.vc)) ∧ (X.cell? ⟨yb, yo + i * 4, none⟩ = some (.int .i64 Y.id) ∧ X.cell? ⟨yb, yo + i * 4 + 1, none⟩ = some (.slice Y.ra Y.rs.length Y.rc) ∧ X.cell? ⟨yb, yo + i * 4 + 2, none⟩ = some (.slice Y.da Y.ds.length Y.dc) ∧ X.cell? ⟨yb, yo + i * 4 + 3, none⟩ = some (.slice Y.va Y.vs.length Y.vc)) ∧ Below wr.heap.size wr X))
    (hQ : ∀ (k : Cl) (g : Nat) (u123 u124 u125 u126 u127 u128 u129 u130 u131 u132 u133 u134 u135 u136 u137 u138 u139 u140 : Value) (X : World), wr.heap.size ≤ g → Below wr.heap.size wr X → X.heap[g]? = some (.cells #[.int .i64 k.id, .slice k.ra k.rs.length k.rc, .slice k.da k.ds.length k.dc, .slice k.va k.vs.length k.vc] 41 (0, 0)) → Hid (k.At X) → Hid (k.id = f.id ∧ k.rs = Z.rs ∧ k.ds = Z.ds ∧ k.vs = Z.vs) → Q .normal { tmps := #[v0, v1, v2, v3, v4, v5, v6, v7, v8, v9, .slice (some ⟨xb, xo, none⟩) n cx, v11, .slice (some ⟨yb, yo, none⟩) n cy, v13, v14, v15, v16, .slice (some ⟨lg, 0, none⟩) n cl, .int .i64 (i : Int), .pointer (some ⟨g, 0, none⟩), .nilIface, v21, v22, v23, v24, v25, v26, v27, v28, v29, v30, v31, v32, v33, v34, v35, v36, v37, v38, v39, v40, v41, v42, v43, v44, v45, v46, v47, v48, v49, v50, v51, v52, v53, v54, v55, v56, v57, v58, v59, v60, v61, v62, v63, v64, v65, v66, v67, v68, v69, v70, v71, v72, v73, v74, v75, v76, v77, v78, v79, v80, v81, v82, v83, v84, v85, v86, v87, v88, v89, v90, v91, v92, v93, v94, v95, v96, v97, v98, v99, v100, v101, v102, v103, v104, v105, v106, v107, v108, v109, v110, v111, v112, v113, v114, v115, v116, v117, v118, v119, v120, v121, v122, u123, u124, u125, u126, u127, u128, u129, u130, u131, u132, u133, u134, u135, u136, u137, u138, u139, u140, v141, v142, v143, v144, v145, v146, v147, v148, v149, v150, v151, v152, v153, v154, v155, v156, v157, v158, v159, v160, v161, v162, v163, v164, v165, v166, v167, v168, v169, v170, v171, v172, v173, v174, v175, v176, v177, v178, v179, v180, v181, v182, v183, v184, v185, v186, v187, v188, v189, v190, v191, v192, v193, v194, v195, v196, v197, v198, v199, v200, v201, v202, v203, v204, v205, v206, v207, v208, v209, v210, v211, v212, v213, v214, v215, v216, v217, v218, v219, v220, v221, v222, v223, v224, v225, v226, v227, v228, v229, v230, v231, v232, v233, v234, v235, v236, v237, v238, v239, v240, v241, v242, v243, v244, v245, v246, v247, v248, v249, v250, v251, v252, v253, v254, v255, v256, v257, v258, v259, v260, v261, v262, v263, v264, v265], defers := [] } X) :
    Code.wp Tryd.prog (Code.region 17 #[{ dst := some 124, op := Op.move (Operand.tmp 17), type := 36, pos := "schema.go:453", after := #[], guard := none }, { dst := some 125, op := Op.move (Operand.tmp 18), type := 3, pos := "schema.go:453", after := #[], guard := none }, { dst := some 126, op := Op.indexAddr 36 (Operand.tmp 124) (Operand.tmp 125), type := 0, pos := "schema.go:453", after := #[{ on := 0, ground := Ground.data }, { on := 1, ground := Ground.data }], guard := none }, { dst := some 127, op := Op.load 47 (Operand.tmp 126), type := 47, pos := "schema.go:453", after := #[{ on := 2, ground := Ground.data }], guard := none }, { dst := some 128, op := Op.call { callee := Callee.value (Operand.func 12), args := #[Operand.tmp 127], argTypes := #[47] }, type := 45, pos := "schema.go:453", after := #[{ on := 3, ground := Ground.data }], guard := none }, { dst := some 129, op := Op.move (Operand.tmp 10), type := 29, pos := "schema.go:453", after := #[], guard := none }, { dst := some 130, op := Op.move (Operand.tmp 18), type := 3, pos := "schema.go:453", after := #[], guard := none }, { dst := some 131, op := Op.indexAddr 29 (Operand.tmp 129) (Operand.tmp 130), type := 0, pos := "schema.go:453", after := #[{ on := 5, ground := Ground.data }, { on := 6, ground := Ground.data }], guard := none }, { dst := some 132, op := Op.load 41 (Operand.tmp 131), type := 41, pos := "schema.go:453", after := #[{ on := 7, ground := Ground.data }], guard := none }, { dst := some 133, op := Op.move (Operand.tmp 12), type := 29, pos := "schema.go:453", after := #[], guard := none }, { dst := some 134, op := Op.move (Operand.tmp 18), type := 3, pos := "schema.go:453", after := #[], guard := none }, { dst := some 135, op := Op.indexAddr 29 (Operand.tmp 133) (Operand.tmp 134), type := 0, pos := "schema.go:453", after := #[{ on := 9, ground := Ground.data }, { on := 10, ground := Ground.data }], guard := none }, { dst := some 136, op := Op.load 41 (Operand.tmp 135), type := 41, pos := "schema.go:453", after := #[{ on := 11, ground := Ground.data }], guard := none }, { dst := some 137, op := Op.buildSlice 29 2 #[(0, Operand.tmp 132), (1, Operand.tmp 136)], type := 29, pos := "schema.go:453", after := #[{ on := 8, ground := Ground.data }, { on := 12, ground := Ground.data }], guard := none }, { dst := some 138, op := Op.call { callee := Callee.value (Operand.func 11), args := #[Operand.tmp 128, Operand.tmp 137], argTypes := #[45, 29] }, type := 42, pos := "schema.go:453", after := #[{ on := 4, ground := Ground.data }, { on := 13, ground := Ground.data }, { on := 4, ground := Ground.chain }], guard := none }, { dst := some 123, op := Op.move (Operand.tmp 138), type := 42, pos := "schema.go:453", after := #[{ on := 14, ground := Ground.data }], guard := none }, { dst := some 139, op := Op.extract (Operand.tmp 123) 0, type := 41, pos := "schema.go:453", after := #[{ on := 15, ground := Ground.data }], guard := none }, { dst := some 140, op := Op.extract (Operand.tmp 123) 1, type := 31, pos := "schema.go:453", after := #[{ on := 15, ground := Ground.data }, { on := 19, ground := Ground.gcOnly Departure.lateStores }], guard := none }, { dst := some 19, op := Op.alloc 41, type := 0, pos := "schema.go:453", after := #[], guard := none }, { dst := none, op := Op.store 41 (Operand.tmp 19) (Operand.tmp 139), type := 0, pos := "schema.go:453", after := #[{ on := 18, ground := Ground.data }, { on := 16, ground := Ground.data }, { on := 14, ground := Ground.chain }, { on := 0, ground := Ground.phase }, { on := 1, ground := Ground.phase }, { on := 2, ground := Ground.phase }, { on := 3, ground := Ground.phase }, { on := 4, ground := Ground.phase }, { on := 5, ground := Ground.phase }, { on := 6, ground := Ground.phase }, { on := 7, ground := Ground.phase }, { on := 8, ground := Ground.phase }, { on := 9, ground := Ground.phase }, { on := 10, ground := Ground.phase }, { on := 11, ground := Ground.phase }, { on := 12, ground := Ground.phase }, { on := 13, ground := Ground.phase }, { on := 14, ground := Ground.phase }, { on := 15, ground := Ground.phase }, { on := 16, ground := Ground.phase }, { on := 17, ground := Ground.textOnly Departure.lateStores }, { on := 18, ground := Ground.phase }], guard := none }, { dst := some 20, op := Op.assign (Operand.tmp 140), type := 31, pos := "schema.go:453", after := #[{ on := 17, ground := Ground.data }, { on := 19, ground := Ground.chain }, { on := 0, ground := Ground.phase }, { on := 1, ground := Ground.phase }, { on := 2, ground := Ground.phase }, { on := 3, ground := Ground.phase }, { on := 4, ground := Ground.phase }, { on := 5, ground := Ground.phase }, { on := 6, ground := Ground.phase }, { on := 7, ground := Ground.phase }, { on := 8, ground := Ground.phase }, { on := 9, ground := Ground.phase }, { on := 10, ground := Ground.phase }, { on := 11, ground := Ground.phase }, { on := 12, ground := Ground.phase }, { on := 13, ground := Ground.phase }, { on := 14, ground := Ground.phase }, { on := 15, ground := Ground.phase }, { on := 16, ground := Ground.phase }, { on := 17, ground := Ground.phase }, { on := 18, ground := Ground.phase }, { on := 19, ground := Ground.phase }], guard := none }] true) Q { tmps := #[v0, v1, v2, v3, v4, v5, v6, v7, v8, v9, .slice (some ⟨xb, xo, none⟩) n cx, v11, .slice (some ⟨yb, yo, none⟩) n cy, v13, v14, v15, v16, .slice (some ⟨lg, 0, none⟩) n cl, .int .i64 (i : Int), v19, v20, v21, v22, v23, v24, v25, v26, v27, v28, v29, v30, v31, v32, v33, v34, v35, v36, v37, v38, v39, v40, v41, v42, v43, v44, v45, v46, v47, v48, v49, v50, v51, v52, v53, v54, v55, v56, v57, v58, v59, v60, v61, v62, v63, v64, v65, v66, v67, v68, v69, v70, v71, v72, v73, v74, v75, v76, v77, v78, v79, v80, v81, v82, v83, v84, v85, v86, v87, v88, v89, v90, v91, v92, v93, v94, v95, v96, v97, v98, v99, v100, v101, v102, v103, v104, v105, v106, v107, v108, v109, v110, v111, v112, v113, v114, v115, v116, v117, v118, v119, v120, v121, v122, v123, v124, v125, v126, v127, v128, v129, v130, v131, v132, v133, v134, v135, v136, v137, v138, v139, v140, v141, v142, v143, v144, v145, v146, v147, v148, v149, v150, v151, v152, v153, v154, v155, v156, v157, v158, v159, v160, v161, v162, v163, v164, v165, v166, v167, v168, v169, v170, v171, v172, v173, v174, v175, v176, v177, v178, v179, v180, v181, v182, v183, v184, v185, v186, v187, v188, v189, v190, v191, v192, v193, v194, v195, v196, v197, v198, v199, v200, v201, v202, v203, v204, v205, v206, v207, v208, v209, v210, v211, v212, v213, v214, v215, v216, v217, v218, v219, v220, v221, v222, v223, v224, v225, v226, v227, v228, v229, v230, v231, v232, v233, v234, v235, v236, v237, v238, v239, v240, v241, v242, v243, v244, v245, v246, v247, v248, v249, v250, v251, v252, v253, v254, v255, v256, v257, v258, v259, v260, v261, v262, v263, v264, v265], defers := [] } wr := by
  have b0 : Below wr.heap.size wr wr := Below.refl _ _

  go_region_held3 (fun X => (X.cell? ⟨lg, i * 5, none⟩ = some (.int .i64 f.id) ∧ X.cell? ⟨lg, i * 5 + 1, none⟩ = some (.int .i64 f.kind) ∧ X.cell? ⟨lg, i * 5 + 2, none⟩ = some (.int .i64 (f.mr : Nat)) ∧ X.cell? ⟨lg, i * 5 + 3, none⟩ = some (.int .i64 (f.md : Nat)) ∧ X.cell? ⟨lg, i * 5 + 4, none⟩ = some (.slice pa f.path.length pc)) ∧ (X.cell? ⟨xb, xo + i * 4, none⟩ = some (.int .i64 KX.id) ∧ X.cell? ⟨xb, xo + i * 4 + 1, none⟩ = some (.slice KX.ra KX.rs.length KX.rc) ∧ X.cell? ⟨xb, xo + i * 4 + 2, none⟩ = some (.slice KX.da KX.ds.length KX.dc) ∧ X.cell? ⟨xb, xo + i * 4 + 3, none⟩ = some (.slice KX.va KX.vs.length KX.vc)) ∧ (X.cell? ⟨yb, yo + i * 4, none⟩ = some (.int .i64 Y.id) ∧ X.cell? ⟨yb, yo + i * 4 + 1, none⟩ = some (.slice Y.ra Y.rs.length Y.rc) ∧ X.cell? ⟨yb, yo + i * 4 + 2, none⟩ = some (.slice Y.da Y.ds.length Y.dc) ∧ X.cell? ⟨yb, yo + i * 4 + 3, none⟩ = some (.slice Y.va Y.vs.length Y.vc)) ∧ Below wr.heap.size wr X) (with_reducible refine HN.out _ ?_; repeat' (first | with_reducible assumption | with_reducible exact b0.drew | with_reducible exact b0 | with_reducible refine Below.drew ?_ | with_reducible exact Nat.le_refl _ | with_reducible refine Below.setCell ?_ ?_ _ | with_reducible refine Below.alloc ?_ ?_ _ | with_reducible exact Below.size (by assumption) | (simp; done) | (simp; omega) | omega)) (first
    | (go_at_call 12; (with_reducible refine Calls.mono (HO1.out _ ?_) ?_); (repeat' (first | with_reducible assumption | with_reducible exact b0.drew | with_reducible exact b0 | with_reducible refine Below.drew ?_ | with_reducible refine Below.alloc ?_ ?_ _ | with_reducible exact Below.size (by assumption) | with_reducible exact Nat.le_refl _ | (simp; done) | (simp; omega))); rintro e x1' ⟨⟨pa', pc', rfl⟩, hbx1, hraw1⟩; have hq1 : wr.heap.size ≤ x1'.heap.size := hbx1.size; (first | (have hzz0 : x1'.heap[wr.heap.size]? = some (.cells #[.int .i64 0, .slice none 0 0, .slice none 0 0, .slice none 0 0] 41 (0, 0)) := blk_keep hraw1 (heap_alloc_new wr.drew (.cells #[.int .i64 0, .slice none 0 0, .slice none 0 0, .slice none 0 0] 41))) | (have hzz0 : x1'.heap[wr.heap.size]? = some (.cells #[.int .i64 0, .slice none 0 0, .slice none 0 0, .slice none 0 0] 41 (0, 0)) := blk_keep hraw1 (blk_alloc (heap_alloc_new wr.drew (.cells #[.int .i64 0, .slice none 0 0, .slice none 0 0, .slice none 0 0] 41)) (o' := (.cells #[.int .i64 KX.id, .slice KX.ra KX.rs.length KX.rc, .slice KX.da KX.ds.length KX.dc, .slice KX.va KX.vs.length KX.vc, .int .i64 Y.id, .slice Y.ra Y.rs.length Y.rc, .slice Y.da Y.ds.length Y.dc, .slice Y.va Y.vs.length Y.vc] 41)))) | (have hzz0 : x1'.heap[wr.heap.size + 1]? = some (.cells #[.int .i64 0, .slice none 0 0, .slice none 0 0, .slice none 0 0] 41 (0, 0)) := blk_keep hraw1 (two_sndS wr.drew (.cells #[.int .i64 KX.id, .slice KX.ra KX.rs.length KX.rc, .slice KX.da KX.ds.length KX.dc, .slice KX.va KX.vs.length KX.vc, .int .i64 Y.id, .slice Y.ra Y.rs.length Y.rc, .slice Y.da Y.ds.length Y.dc, .slice Y.va Y.vs.length Y.vc] 41) (.cells #[.int .i64 0, .slice none 0 0, .slice none 0 0, .slice none 0 0] 41))) | skip))
    | (go_at_call 11; (with_reducible refine Calls.mono (HOJ.out _ _ pa' pc' ?_ ?_) ?_); (repeat' (first | with_reducible assumption | with_reducible exact b0.drew | with_reducible exact b0 | with_reducible refine Below.drew ?_ | with_reducible refine Below.alloc ?_ ?_ _ | with_reducible exact Below.size (by assumption) | with_reducible exact Nat.le_refl _ | (simp; done) | (simp; omega))); (first | exact heap_alloc_new _ _ | exact blk_alloc (heap_alloc_new _ _) | exact two_sndS _ _ _ | exact blk_keep hraw1 (heap_alloc_new _ _) | exact blk_alloc (blk_keep hraw1 (heap_alloc_new _ _)) | exact blk_keep hraw1 (blk_alloc (heap_alloc_new _ _)) | exact blk_keep hraw1 (two_sndS _ _ _)); rintro e x4 ⟨⟨⟨kid, kra, krs, krc, kda, kds, kdc, kva, kvs, kvc⟩, rfl, ka, kf, kq⟩, hbx4, hraw4⟩; have HKA2 : Hid _ := ka; have HKF : Hid _ := kf; have HKq : Hid _ := kq; have HBX4 : Hid _ := hbx4; have hq4 : wr.heap.size ≤ x4.heap.size := hbx4.size; clear ka kf kq; (first | (have hzz := blk_keep hraw4 hzz0; clear hzz0; have hzz0 := hzz; clear hzz) | (have hzz := blk_keep hraw4 (blk_alloc hzz0 (o' := (.cells #[.int .i64 KX.id, .slice KX.ra KX.rs.length KX.rc, .slice KX.da KX.ds.length KX.dc, .slice KX.va KX.vs.length KX.vc, .int .i64 Y.id, .slice Y.ra Y.rs.length Y.rc, .slice Y.da Y.ds.length Y.dc, .slice Y.va Y.vs.length Y.vc] 41))); clear hzz0; have hzz0 := hzz; clear hzz) | (have hzz0 : x4.heap[x1'.heap.size]? = some (.cells #[.int .i64 0, .slice none 0 0, .slice none 0 0, .slice none 0 0] 41 (0, 0)) := blk_keep hraw4 (blk_alloc (heap_alloc_new x1' (.cells #[.int .i64 0, .slice none 0 0, .slice none 0 0, .slice none 0 0] 41)) (o' := (.cells #[.int .i64 KX.id, .slice KX.ra KX.rs.length KX.rc, .slice KX.da KX.ds.length KX.dc, .slice KX.va KX.vs.length KX.vc, .int .i64 Y.id, .slice Y.ra Y.rs.length Y.rc, .slice Y.da Y.ds.length Y.dc, .slice Y.va Y.vs.length Y.vc] 41)))) | (have hzz0 : x4.heap[x1'.heap.size + 1]? = some (.cells #[.int .i64 0, .slice none 0 0, .slice none 0 0, .slice none 0 0] 41 (0, 0)) := blk_keep hraw4 (two_sndS x1' (.cells #[.int .i64 KX.id, .slice KX.ra KX.rs.length KX.rc, .slice KX.da KX.ds.length KX.dc, .slice KX.va KX.vs.length KX.vc, .int .i64 Y.id, .slice Y.ra Y.rs.length Y.rc, .slice Y.da Y.ds.length Y.dc, .slice Y.va Y.vs.length Y.vc] 41) (.cells #[.int .i64 0, .slice none 0 0, .slice none 0 0, .slice none 0 0] 41))) | (have hzz0 : x4.heap[x1'.heap.size]? = some (.cells #[.int .i64 0, .slice none 0 0, .slice none 0 0, .slice none 0 0] 41 (0, 0)) := blk_keep hraw4 (heap_alloc_new x1' (.cells #[.int .i64 0, .slice none 0 0, .slice none 0 0, .slice none 0 0] 41))) | skip); (first | (obtain ⟨v0, v1, v2, v3⟩ := row_four hzz0; obtain ⟨u0, u1, u2, u3⟩ := row_fourF hzz0; have HZZ : Hid _ := hzz0; clear hzz0) | skip)))

  all_goals
    have hr1 := hraw1.size
    first
      | exact hQ ⟨kid, kra, krs, krc, kda, kds, kdc, kva, kvs, kvc⟩ x4.heap.size _ _ _ _ _ _ _ _ _ _ _ _ _ _ _ _ _ _ _ hq4 (HBX4.out.alloc HBX4.out.size _) (heap_alloc_new _ _) (HKA2.out.keep ((Below.refl _ _).alloc (Nat.le_refl _) _)) HKq
      | (refine hQ ⟨kid, kra, krs, krc, kda, kds, kdc, kva, kvs, kvc⟩ _ _ _ _ _ _ _ _ _ _ _ _ _ _ _ _ _ _ _ _ ?_ ((((HBX4.out.setCell ?_ _).setCell ?_ _).setCell ?_ _).setCell ?_ _) (row_setCell (row_setCell (row_setCell (row_setCell HZZ.out _) _) _) _) ((((HKA2.out.off HKF.out ?_).off HKF.out ?_).off HKF.out ?_).off HKF.out ?_) HKq
         all_goals (try (show _ ≤ _))
         all_goals (try simp at hr1)
         all_goals first | (simp; done) | (simp; omega) | omega)
end Go.Proofs.YtdpedailookcjaaDoor
namespace Go.Proofs.YtdpedailookcjaaDoor
open Go.RowKit
set_option maxRecDepth 100000 in
set_option maxHeartbeats 200000000 in
set_option linter.unusedVariables false in
theorem reg33_any {v0 v1 v2 v3 v4 v5 v6 v7 v8 v9 v10 v11 v12 v13 v14 v15 v16 v20 v21 v22 v23 v24 v26 v28 v29 v30 v31 v32 v33 v34 v35 v36 v37 v38 v39 v40 v41 v42 v43 v44 v45 v46 v47 v48 v49 v50 v51 v52 v53 v54 v55 v56 v57 v58 v59 v60 v61 v62 v63 v64 v65 v66 v67 v68 v69 v70 v71 v72 v73 v74 v75 v76 v77 v78 v79 v80 v81 v82 v83 v84 v85 v86 v87 v88 v89 v90 v91 v92 v93 v94 v95 v96 v97 v98 v99 v100 v101 v102 v103 v104 v105 v106 v107 v108 v109 v110 v111 v112 v113 v114 v115 v116 v117 v118 v119 v120 v121 v122 v123 v124 v125 v126 v127 v128 v129 v130 v131 v132 v133 v134 v135 v136 v137 v138 v139 v140 v141 v142 v143 v144 v145 v146 v147 v148 v149 v150 v151 v152 v153 v154 v155 v156 v157 v158 v159 v160 v161 v162 v163 v164 v165 v166 v167 v168 v169 v170 v171 v172 v173 v174 v175 v176 v177 v178 v179 v180 v181 v182 v183 v184 v185 v186 v187 v188 v189 v190 v191 v192 v193 v194 v195 v196 v197 v198 v199 v200 v201 v202 v203 v204 v205 v206 v207 v208 v209 v210 v211 v212 v213 v214 v215 v216 v217 v218 v219 v220 v221 v222 v223 v224 v225 v226 v227 v228 v229 v230 v231 v232 v233 v234 v235 v236 v237 v238 v239 v240 v241 v242 v243 v244 v245 v246 v247 v248 v249 v250 v251 v252 v253 v254 v255 v256 v257 v258 v259 v260 v261 v262 v263 v264 v265 : Value} {Q : Exit → Act → World → Prop} (k0 kp kq Z : Cl) (f : Lf) (lg : Nat) (pa : Option Addr) (pc gk gp gq cl n i : Nat) (w23 : World) (hlt : i < n) (HJb23 : Hid (w23.heap[gk]? = some (.cells #[.int .i64 k0.id, .slice k0.ra k0.rs.length k0.rc, .slice k0.da k0.ds.length k0.dc, .slice k0.va k0.vs.length k0.vc] 41 (0, 0))))
    (HO1 : Hid (∀ X, Below w23.heap.size w23 X → Calls Tryd.prog 12 #[.agg #[.int .i64 f.id, .int .i64 f.kind, .int .i64 (f.mr : Nat), .int .i64 (f.md : Nat), .slice pa f.path.length pc]] X fun e w' => (∃ pa' pc', e = .returned (.agg #[.int .i64 f.id, .int .i64 f.kind, .int .i64 (f.mr : Nat), .int .i64 (f.md : Nat), .slice pa' f.path.length pc'])) ∧ Below w23.heap.size w23 w' ∧ Below X.heap.size X w'))
    (HOJ : Hid (∀ X g pa' pc', Below w23.heap.size w23 X → X.heap[g]? = some (.cells #[.int .i64 kp.id, .slice kp.ra kp.rs.length kp.rc, .slice kp.da kp.ds.length kp.dc, .slice kp.va kp.vs.length kp.vc, .int .i64 kq.id, .slice kq.ra kq.rs.length kq.rc, .slice kq.da kq.ds.length kq.dc, .slice kq.va kq.vs.length kq.vc] 41 (0, 0)) → Calls Tryd.prog 11 #[.agg #[.int .i64 f.id, .int .i64 f.kind, .int .i64 (f.mr : Nat), .int .i64 (f.md : Nat), .slice pa' f.path.length pc'], .slice (some ⟨g, 0, none⟩) 2 2] X fun e w' => (∃ k : Cl, e = .returned (.tuple #[.agg #[.int .i64 k.id, .slice k.ra k.rs.length k.rc, .slice k.da k.ds.length k.dc, .slice k.va k.vs.length k.vc], .nilIface]) ∧ k.At w' ∧ k.Fr X.heap.size ∧ k.id = f.id ∧ k.rs = Z.rs ∧ k.ds = Z.ds ∧ k.vs = Z.vs) ∧ Below w23.heap.size w23 w' ∧ Below X.heap.size X w'))
    (HN : Hid (∀ X, OffK gk w23 X → (X.cell? ⟨lg, i * 5, none⟩ = some (.int .i64 f.id) ∧ X.cell? ⟨lg, i * 5 + 1, none⟩ = some (.int .i64 f.kind) ∧ X.cell? ⟨lg, i * 5 + 2, none⟩ = some (.int .i64 (f.mr : Nat)) ∧ X.cell? ⟨lg, i * 5 + 3, none⟩ = some (.int .i64 (f.md : Nat)) ∧ X.cell? ⟨lg, i * 5 + 4, none⟩ = some (.slice pa f.path.length pc)) ∧ (X.cell? ⟨gp, 0, none⟩ = some (.int .i64 kp.id) ∧ X.cell? ⟨gp, 1, none⟩ = some (.slice kp.ra kp.rs.length kp.rc) ∧ X.cell? ⟨gp, 2, none⟩ = some (.slice kp.da kp.ds.length kp.dc) ∧ X.cell? ⟨gp, 3, none⟩ = some (.slice kp.va kp.vs.length kp.vc)) ∧ (X.cell? ⟨gq, 0, none⟩ = some (.int .i64 kq.id) ∧ X.cell? ⟨gq, 1, none⟩ = some (.slice kq.ra kq.rs.length kq.rc) ∧ X.cell? ⟨gq, 2, none⟩ = some (.slice kq.da kq.ds.length kq.dc) ∧ X.cell? ⟨gq, 3, none⟩ = some (.slice kq.va kq.vs.length kq.vc)) ∧ OffK gk w23 X))
    (hP : ∀ p (a : Act) (d : Nat) (v : Value) (w : World), Q (.panic p) (a.put (some d) v) w → Q (.panic p) a w)
    (hQ : ∀ (k : Cl) (u235 u236 u237 u238 u239 u240 u241 u242 u243 u244 u245 u246 : Value) (X : World), Hid (OffK gk w23 X) → Hid (X.heap[gk]? = some (.cells #[.int .i64 k.id, .slice k.ra k.rs.length k.rc, .slice k.da k.ds.length k.dc, .slice k.va k.vs.length k.vc] 41 (0, 0))) → Hid (k.At X) → Hid (k.id = f.id ∧ k.rs = Z.rs ∧ k.ds = Z.ds ∧ k.vs = Z.vs) → Q .normal { tmps := #[v0, v1, v2, v3, v4, v5, v6, v7, v8, v9, v10, v11, v12, v13, v14, v15, v16, .slice (some ⟨lg, 0, none⟩) n cl, .int .i64 (i : Int), .pointer (some ⟨gk, 0, none⟩), v20, v21, v22, v23, v24, .pointer (some ⟨gp, 0, none⟩), v26, .pointer (some ⟨gq, 0, none⟩), v28, .nilIface, v30, v31, v32, v33, v34, v35, v36, v37, v38, v39, v40, v41, v42, v43, v44, v45, v46, v47, v48, v49, v50, v51, v52, v53, v54, v55, v56, v57, v58, v59, v60, v61, v62, v63, v64, v65, v66, v67, v68, v69, v70, v71, v72, v73, v74, v75, v76, v77, v78, v79, v80, v81, v82, v83, v84, v85, v86, v87, v88, v89, v90, v91, v92, v93, v94, v95, v96, v97, v98, v99, v100, v101, v102, v103, v104, v105, v106, v107, v108, v109, v110, v111, v112, v113, v114, v115, v116, v117, v118, v119, v120, v121, v122, v123, v124, v125, v126, v127, v128, v129, v130, v131, v132, v133, v134, v135, v136, v137, v138, v139, v140, v141, v142, v143, v144, v145, v146, v147, v148, v149, v150, v151, v152, v153, v154, v155, v156, v157, v158, v159, v160, v161, v162, v163, v164, v165, v166, v167, v168, v169, v170, v171, v172, v173, v174, v175, v176, v177, v178, v179, v180, v181, v182, v183, v184, v185, v186, v187, v188, v189, v190, v191, v192, v193, v194, v195, v196, v197, v198, v199, v200, v201, v202, v203, v204, v205, v206, v207, v208, v209, v210, v211, v212, v213, v214, v215, v216, v217, v218, v219, v220, v221, v222, v223, v224, v225, v226, v227, v228, v229, v230, v231, v232, v233, v234, u235, u236, u237, u238, u239, u240, u241, u242, u243, u244, u245, u246, v247, v248, v249, v250, v251, v252, v253, v254, v255, v256, v257, v258, v259, v260, v261, v262, v263, v264, v265], defers := [] } X) :
    Code.wp Tryd.prog (Code.region 33 #[{ dst := some 236, op := Op.move (Operand.tmp 17), type := 36, pos := "schema.go:473", after := #[], guard := none }, { dst := some 237, op := Op.move (Operand.tmp 18), type := 3, pos := "schema.go:473", after := #[], guard := none }, { dst := some 238, op := Op.indexAddr 36 (Operand.tmp 236) (Operand.tmp 237), type := 0, pos := "schema.go:473", after := #[{ on := 0, ground := Ground.data }, { on := 1, ground := Ground.data }], guard := none }, { dst := some 239, op := Op.load 47 (Operand.tmp 238), type := 47, pos := "schema.go:473", after := #[{ on := 2, ground := Ground.data }], guard := none }, { dst := some 240, op := Op.call { callee := Callee.value (Operand.func 12), args := #[Operand.tmp 239], argTypes := #[47] }, type := 45, pos := "schema.go:473", after := #[{ on := 3, ground := Ground.data }], guard := none }, { dst := some 241, op := Op.load 41 (Operand.tmp 25), type := 41, pos := "schema.go:473", after := #[], guard := none }, { dst := some 242, op := Op.load 41 (Operand.tmp 27), type := 41, pos := "schema.go:473", after := #[], guard := none }, { dst := some 243, op := Op.buildSlice 29 2 #[(0, Operand.tmp 241), (1, Operand.tmp 242)], type := 29, pos := "schema.go:473", after := #[{ on := 5, ground := Ground.data }, { on := 6, ground := Ground.data }], guard := none }, { dst := some 244, op := Op.call { callee := Callee.value (Operand.func 11), args := #[Operand.tmp 240, Operand.tmp 243], argTypes := #[45, 29] }, type := 42, pos := "schema.go:473", after := #[{ on := 4, ground := Ground.data }, { on := 7, ground := Ground.data }, { on := 4, ground := Ground.chain }], guard := none }, { dst := some 235, op := Op.move (Operand.tmp 244), type := 42, pos := "schema.go:473", after := #[{ on := 8, ground := Ground.data }], guard := none }, { dst := some 245, op := Op.extract (Operand.tmp 235) 0, type := 41, pos := "schema.go:473", after := #[{ on := 9, ground := Ground.data }], guard := none }, { dst := some 246, op := Op.extract (Operand.tmp 235) 1, type := 31, pos := "schema.go:473", after := #[{ on := 9, ground := Ground.data }, { on := 12, ground := Ground.gcOnly Departure.lateStores }], guard := none }, { dst := none, op := Op.store 41 (Operand.tmp 19) (Operand.tmp 245), type := 0, pos := "schema.go:473", after := #[{ on := 10, ground := Ground.data }, { on := 8, ground := Ground.chain }, { on := 0, ground := Ground.phase }, { on := 1, ground := Ground.phase }, { on := 2, ground := Ground.phase }, { on := 3, ground := Ground.phase }, { on := 4, ground := Ground.phase }, { on := 5, ground := Ground.phase }, { on := 6, ground := Ground.phase }, { on := 7, ground := Ground.phase }, { on := 8, ground := Ground.phase }, { on := 9, ground := Ground.phase }, { on := 10, ground := Ground.phase }, { on := 11, ground := Ground.textOnly Departure.lateStores }], guard := none }, { dst := some 29, op := Op.assign (Operand.tmp 246), type := 31, pos := "schema.go:473", after := #[{ on := 11, ground := Ground.data }, { on := 12, ground := Ground.chain }, { on := 0, ground := Ground.phase }, { on := 1, ground := Ground.phase }, { on := 2, ground := Ground.phase }, { on := 3, ground := Ground.phase }, { on := 4, ground := Ground.phase }, { on := 5, ground := Ground.phase }, { on := 6, ground := Ground.phase }, { on := 7, ground := Ground.phase }, { on := 8, ground := Ground.phase }, { on := 9, ground := Ground.phase }, { on := 10, ground := Ground.phase }, { on := 11, ground := Ground.phase }, { on := 12, ground := Ground.phase }], guard := none }] true) Q { tmps := #[v0, v1, v2, v3, v4, v5, v6, v7, v8, v9, v10, v11, v12, v13, v14, v15, v16, .slice (some ⟨lg, 0, none⟩) n cl, .int .i64 (i : Int), .pointer (some ⟨gk, 0, none⟩), v20, v21, v22, v23, v24, .pointer (some ⟨gp, 0, none⟩), v26, .pointer (some ⟨gq, 0, none⟩), v28, v29, v30, v31, v32, v33, v34, v35, v36, v37, v38, v39, v40, v41, v42, v43, v44, v45, v46, v47, v48, v49, v50, v51, v52, v53, v54, v55, v56, v57, v58, v59, v60, v61, v62, v63, v64, v65, v66, v67, v68, v69, v70, v71, v72, v73, v74, v75, v76, v77, v78, v79, v80, v81, v82, v83, v84, v85, v86, v87, v88, v89, v90, v91, v92, v93, v94, v95, v96, v97, v98, v99, v100, v101, v102, v103, v104, v105, v106, v107, v108, v109, v110, v111, v112, v113, v114, v115, v116, v117, v118, v119, v120, v121, v122, v123, v124, v125, v126, v127, v128, v129, v130, v131, v132, v133, v134, v135, v136, v137, v138, v139, v140, v141, v142, v143, v144, v145, v146, v147, v148, v149, v150, v151, v152, v153, v154, v155, v156, v157, v158, v159, v160, v161, v162, v163, v164, v165, v166, v167, v168, v169, v170, v171, v172, v173, v174, v175, v176, v177, v178, v179, v180, v181, v182, v183, v184, v185, v186, v187, v188, v189, v190, v191, v192, v193, v194, v195, v196, v197, v198, v199, v200, v201, v202, v203, v204, v205, v206, v207, v208, v209, v210, v211, v212, v213, v214, v215, v216, v217, v218, v219, v220, v221, v222, v223, v224, v225, v226, v227, v228, v229, v230, v231, v232, v233, v234, v235, v236, v237, v238, v239, v240, v241, v242, v243, v244, v245, v246, v247, v248, v249, v250, v251, v252, v253, v254, v255, v256, v257, v258, v259, v260, v261, v262, v263, v264, v265], defers := [] } w23 := by
  have b0 : Below w23.heap.size w23 w23 := Below.refl _ _
  refine wp_region_held_drew (S := OffK gk w23) (by kernel_rfl) (OffK.of b0.drew) (fun hH0 => ?_)
  refine wpAnyH_take (i := 0) (oi := { dst := some 236, op := Op.move (Operand.tmp 17), type := 36, pos := "schema.go:473", after := #[], guard := none }) (v := ?vr0) rfl (by kernel_rfl) (by kernel_rfl) (by kernel_rfl) (fun p a w h => hP p a _ _ w h) (Or.inl ⟨by rfl, ?hyr0⟩) hH0 ?_
  case hyr0 => (intro w hSw; obtain ⟨⟨g0, g1, g2, g3, g4⟩, ⟨h0, h1, h2, h3⟩, ⟨k0, k1, k2, k3⟩, _⟩ := HN.out w hSw; go_simp; (first | done | with_reducible rfl))
  (try simp only [Act.put, List.setIfInBounds_toArray, List.set_cons_zero, List.set_cons_succ])
  refine wpAnyH_take (i := 1) (oi := { dst := some 237, op := Op.move (Operand.tmp 18), type := 3, pos := "schema.go:473", after := #[], guard := none }) (v := ?vr1) rfl (by kernel_rfl) (by kernel_rfl) (by kernel_rfl) (fun p a w h => hP p a _ _ w h) (Or.inl ⟨by rfl, ?hyr1⟩) hH0 ?_
  case hyr1 => (intro w hSw; obtain ⟨⟨g0, g1, g2, g3, g4⟩, ⟨h0, h1, h2, h3⟩, ⟨k0, k1, k2, k3⟩, _⟩ := HN.out w hSw; go_simp; (first | done | with_reducible rfl))
  (try simp only [Act.put, List.setIfInBounds_toArray, List.set_cons_zero, List.set_cons_succ])
  refine wpAnyH_take (i := 2) (oi := { dst := some 238, op := Op.indexAddr 36 (Operand.tmp 236) (Operand.tmp 237), type := 0, pos := "schema.go:473", after := #[{ on := 0, ground := Ground.data }, { on := 1, ground := Ground.data }], guard := none }) (v := ?vr2) rfl (by kernel_rfl) (by kernel_rfl) (by kernel_rfl) (fun p a w h => hP p a _ _ w h) (Or.inl ⟨by rfl, ?hyr2⟩) hH0 ?_
  case hyr2 => (intro w hSw; obtain ⟨⟨g0, g1, g2, g3, g4⟩, ⟨h0, h1, h2, h3⟩, ⟨k0, k1, k2, k3⟩, _⟩ := HN.out w hSw; go_simp; (first | done | with_reducible rfl))
  (try simp only [Act.put, List.setIfInBounds_toArray, List.set_cons_zero, List.set_cons_succ])
  refine wpAnyH_take (i := 3) (oi := { dst := some 239, op := Op.load 47 (Operand.tmp 238), type := 47, pos := "schema.go:473", after := #[{ on := 2, ground := Ground.data }], guard := none }) (v := ?vr3) rfl (by kernel_rfl) (by kernel_rfl) (by kernel_rfl) (fun p a w h => hP p a _ _ w h) (Or.inl ⟨by rfl, ?hyr3⟩) hH0 ?_
  case hyr3 => (intro w hSw; obtain ⟨⟨g0, g1, g2, g3, g4⟩, ⟨h0, h1, h2, h3⟩, ⟨k0, k1, k2, k3⟩, _⟩ := HN.out w hSw; go_simp; (first | done | with_reducible rfl))
  (try simp only [Act.put, List.setIfInBounds_toArray, List.set_cons_zero, List.set_cons_succ])
  refine wpAnyH_take (i := 5) (oi := { dst := some 241, op := Op.load 41 (Operand.tmp 25), type := 41, pos := "schema.go:473", after := #[], guard := none }) (v := ?vr5) rfl (by kernel_rfl) (by kernel_rfl) (by kernel_rfl) (fun p a w h => hP p a _ _ w h) (Or.inl ⟨by rfl, ?hyr5⟩) hH0 ?_
  case hyr5 => (intro w hSw; obtain ⟨⟨g0, g1, g2, g3, g4⟩, ⟨h0, h1, h2, h3⟩, ⟨k0, k1, k2, k3⟩, _⟩ := HN.out w hSw; go_simp; (first | done | with_reducible rfl))
  (try simp only [Act.put, List.setIfInBounds_toArray, List.set_cons_zero, List.set_cons_succ])
  refine wpAnyH_take (i := 6) (oi := { dst := some 242, op := Op.load 41 (Operand.tmp 27), type := 41, pos := "schema.go:473", after := #[], guard := none }) (v := ?vr6) rfl (by kernel_rfl) (by kernel_rfl) (by kernel_rfl) (fun p a w h => hP p a _ _ w h) (Or.inl ⟨by rfl, ?hyr6⟩) hH0 ?_
  case hyr6 => (intro w hSw; obtain ⟨⟨g0, g1, g2, g3, g4⟩, ⟨h0, h1, h2, h3⟩, ⟨k0, k1, k2, k3⟩, _⟩ := HN.out w hSw; go_simp; (first | done | with_reducible rfl))
  (try simp only [Act.put, List.setIfInBounds_toArray, List.set_cons_zero, List.set_cons_succ])
  refine wpAnyH_ready (rs := [4, 7]) (by kernel_rfl) (by simp) ?_
  refine AllReadyH.cons (o := { dst := some 240, op := Op.call { callee := Callee.value (Operand.func 12), args := #[Operand.tmp 239], argTypes := #[47] }, type := 45, pos := "schema.go:473", after := #[{ on := 3, ground := Ground.data }], guard := none }) rfl (fun K hK => ?_) ?_
  · go_simp
    (go_at_call 12; (with_reducible refine Calls.mono (HO1.out _ b0.drew) ?_); rintro e x1' ⟨⟨pa', pc', rfl⟩, hbx1, hraw1⟩)
    go_wp2_with fail
    refine hK.out _ _ (OffK.of hbx1) (fun hH1 => ?_)
    (try simp only [Act.put, List.setIfInBounds_toArray, List.set_cons_zero, List.set_cons_succ])
    refine wpAnyH_ready (rs := [7]) (by kernel_rfl) (by simp) ?_
    refine AllReadyH.cons (o := { dst := some 243, op := Op.buildSlice 29 2 #[(0, Operand.tmp 241), (1, Operand.tmp 242)], type := 29, pos := "schema.go:473", after := #[{ on := 5, ground := Ground.data }, { on := 6, ground := Ground.data }], guard := none }) rfl (fun K hK => ?_) AllReadyH.nil
    go_simp
    have hbx2 : Below w23.heap.size w23 (x1'.alloc (.cells #[.int .i64 kp.id, .slice kp.ra kp.rs.length kp.rc, .slice kp.da kp.ds.length kp.dc, .slice kp.va kp.vs.length kp.vc, .int .i64 kq.id, .slice kq.ra kq.rs.length kq.rc, .slice kq.da kq.ds.length kq.dc, .slice kq.va kq.vs.length kq.vc] 41)) := hbx1.alloc hbx1.size _
    refine hK.out _ _ (OffK.of hbx2) (fun hH2 => ?_)
    (try simp only [Act.put, List.setIfInBounds_toArray, List.set_cons_zero, List.set_cons_succ])
    refine wpAnyH_ready (rs := [8]) (by kernel_rfl) (by simp) ?_
    refine AllReadyH.cons (o := { dst := some 244, op := Op.call { callee := Callee.value (Operand.func 11), args := #[Operand.tmp 240, Operand.tmp 243], argTypes := #[45, 29] }, type := 42, pos := "schema.go:473", after := #[{ on := 4, ground := Ground.data }, { on := 7, ground := Ground.data }, { on := 4, ground := Ground.chain }], guard := none }) rfl (fun K hK => ?_) AllReadyH.nil
    go_simp
    (go_at_call 11; (with_reducible refine Calls.mono (HOJ.out _ _ pa' pc' hbx2 (heap_alloc_new _ _)) ?_); rintro e x4 ⟨⟨⟨kid, kra, krs, krc, kda, kds, kdc, kva, kvs, kvc⟩, rfl, ka, kf, kq'⟩, hbx4, hraw4⟩)
    have HKA2 : Hid _ := ka
    have HKF : Hid _ := kf
    have HKq : Hid _ := kq'
    have HBX4 : Hid _ := hbx4
    have HJ4 : Hid _ := blk_keep hbx4 HJb23.out
    obtain ⟨v0, v1, v2, v3⟩ := row_four HJ4.out
    obtain ⟨u0, u1, u2, u3⟩ := row_fourF HJ4.out
    clear ka kf kq'
    go_wp2_with fail
    refine hK.out _ _ (OffK.of hbx4) (fun hH3 => ?_)
    (try simp only [Act.put, List.setIfInBounds_toArray, List.set_cons_zero, List.set_cons_succ])
    refine wpAnyH_take (i := 9) (oi := { dst := some 235, op := Op.move (Operand.tmp 244), type := 42, pos := "schema.go:473", after := #[{ on := 8, ground := Ground.data }], guard := none }) (v := ?va9) rfl (by kernel_rfl) (by kernel_rfl) (by kernel_rfl) (fun p a w h => hP p a _ _ w h) (Or.inl ⟨by rfl, ?hya9⟩) hH3 ?_
    case hya9 => (intro w hSw; go_simp; (first | done | with_reducible rfl))
    (try simp only [Act.put, List.setIfInBounds_toArray, List.set_cons_zero, List.set_cons_succ])
    refine wpAnyH_take (i := 10) (oi := { dst := some 245, op := Op.extract (Operand.tmp 235) 0, type := 41, pos := "schema.go:473", after := #[{ on := 9, ground := Ground.data }], guard := none }) (v := ?va10) rfl (by kernel_rfl) (by kernel_rfl) (by kernel_rfl) (fun p a w h => hP p a _ _ w h) (Or.inl ⟨by rfl, ?hya10⟩) hH3 ?_
    case hya10 => (intro w hSw; go_simp; (first | done | with_reducible rfl))
    (try simp only [Act.put, List.setIfInBounds_toArray, List.set_cons_zero, List.set_cons_succ])
    refine wpAnyH_take (i := 11) (oi := { dst := some 246, op := Op.extract (Operand.tmp 235) 1, type := 31, pos := "schema.go:473", after := #[{ on := 9, ground := Ground.data }, { on := 12, ground := Ground.gcOnly Departure.lateStores }], guard := none }) (v := ?va11) rfl (by kernel_rfl) (by kernel_rfl) (by kernel_rfl) (fun p a w h => hP p a _ _ w h) (Or.inl ⟨by rfl, ?hya11⟩) hH3 ?_
    case hya11 => (intro w hSw; go_simp; (first | done | with_reducible rfl))
    (try simp only [Act.put, List.setIfInBounds_toArray, List.set_cons_zero, List.set_cons_succ])
    refine wpAnyH_ready (rs := [12]) (by kernel_rfl) (by simp) ?_
    refine AllReadyH.cons (o := { dst := none, op := Op.store 41 (Operand.tmp 19) (Operand.tmp 245), type := 0, pos := "schema.go:473", after := #[{ on := 10, ground := Ground.data }, { on := 8, ground := Ground.chain }, { on := 0, ground := Ground.phase }, { on := 1, ground := Ground.phase }, { on := 2, ground := Ground.phase }, { on := 3, ground := Ground.phase }, { on := 4, ground := Ground.phase }, { on := 5, ground := Ground.phase }, { on := 6, ground := Ground.phase }, { on := 7, ground := Ground.phase }, { on := 8, ground := Ground.phase }, { on := 9, ground := Ground.phase }, { on := 10, ground := Ground.phase }, { on := 11, ground := Ground.textOnly Departure.lateStores }], guard := none }) rfl (fun K hK => ?_) AllReadyH.nil
    go_simp
    refine hK.out _ _ (OffK.put (OffK.put (OffK.put (OffK.put (OffK.of hbx4) _) _) _) _) (fun hH4 => ?_)
    (try simp only [Act.put, List.setIfInBounds_toArray, List.set_cons_zero, List.set_cons_succ])
    refine wpAnyH_take (i := 13) (oi := { dst := some 29, op := Op.assign (Operand.tmp 246), type := 31, pos := "schema.go:473", after := #[{ on := 11, ground := Ground.data }, { on := 12, ground := Ground.chain }, { on := 0, ground := Ground.phase }, { on := 1, ground := Ground.phase }, { on := 2, ground := Ground.phase }, { on := 3, ground := Ground.phase }, { on := 4, ground := Ground.phase }, { on := 5, ground := Ground.phase }, { on := 6, ground := Ground.phase }, { on := 7, ground := Ground.phase }, { on := 8, ground := Ground.phase }, { on := 9, ground := Ground.phase }, { on := 10, ground := Ground.phase }, { on := 11, ground := Ground.phase }, { on := 12, ground := Ground.phase }], guard := none }) (v := ?va13) rfl (by kernel_rfl) (by kernel_rfl) (by kernel_rfl) (fun p a w h => hP p a _ _ w h) (Or.inl ⟨by rfl, ?hya13⟩) hH4 ?_
    case hya13 => (intro w hSw; go_simp; (first | done | with_reducible rfl))
    (try simp only [Act.put, List.setIfInBounds_toArray, List.set_cons_zero, List.set_cons_succ])
    refine wpAnyH_done (by kernel_rfl) ?_ _
    have hlt := Nat.lt_of_lt_of_le (lt_of_block_any HJb23.out) (Below.size hbx2)
    refine hQ ⟨kid, kra, krs, krc, kda, kds, kdc, kva, kvs, kvc⟩ _ _ _ _ _ _ _ _ _ _ _ _ _ ?_ ?_ ?_ HKq
    · (show OffK gk w23 _); with_reducible exact hH4
    · have q0 := row_setCell (j := 0) HJ4.out (.int .i64 kid)
      have q1 := row_setCell (j := 1) q0 (.slice kra krs.length krc)
      have q2 := row_setCell (j := 2) q1 (.slice kda kds.length kdc)
      have q3 := row_setCell (j := 3) q2 (.slice kva kvs.length kvc)
      exact q3
    · exact (((HKA2.out.off HKF.out hlt).off HKF.out hlt).off HKF.out hlt).off HKF.out hlt
  refine AllReadyH.cons (o := { dst := some 243, op := Op.buildSlice 29 2 #[(0, Operand.tmp 241), (1, Operand.tmp 242)], type := 29, pos := "schema.go:473", after := #[{ on := 5, ground := Ground.data }, { on := 6, ground := Ground.data }], guard := none }) rfl (fun K hK => ?_) AllReadyH.nil
  go_simp
  have hbx2 : Below w23.heap.size w23 (w23.drew.alloc (.cells #[.int .i64 kp.id, .slice kp.ra kp.rs.length kp.rc, .slice kp.da kp.ds.length kp.dc, .slice kp.va kp.vs.length kp.vc, .int .i64 kq.id, .slice kq.ra kq.rs.length kq.rc, .slice kq.da kq.ds.length kq.dc, .slice kq.va kq.vs.length kq.vc] 41)) := b0.drew.alloc (Nat.le_refl _) _
  have hbx2d : Below w23.heap.size w23 ((w23.alloc (.cells #[.int .i64 kp.id, .slice kp.ra kp.rs.length kp.rc, .slice kp.da kp.ds.length kp.dc, .slice kp.va kp.vs.length kp.vc, .int .i64 kq.id, .slice kq.ra kq.rs.length kq.rc, .slice kq.da kq.ds.length kq.dc, .slice kq.va kq.vs.length kq.vc] 41)).drew) := (b0.alloc (Nat.le_refl _) _).drew
  have hat2 : ((w23.alloc (.cells #[.int .i64 kp.id, .slice kp.ra kp.rs.length kp.rc, .slice kp.da kp.ds.length kp.dc, .slice kp.va kp.vs.length kp.vc, .int .i64 kq.id, .slice kq.ra kq.rs.length kq.rc, .slice kq.da kq.ds.length kq.dc, .slice kq.va kq.vs.length kq.vc] 41)).drew).heap[w23.heap.size]? = some (.cells #[.int .i64 kp.id, .slice kp.ra kp.rs.length kp.rc, .slice kp.da kp.ds.length kp.dc, .slice kp.va kp.vs.length kp.vc, .int .i64 kq.id, .slice kq.ra kq.rs.length kq.rc, .slice kq.da kq.ds.length kq.dc, .slice kq.va kq.vs.length kq.vc] 41) := heap_alloc_new w23 _
  refine hK.out _ _ (OffK.of hbx2) (fun hH2 => ?_)
  (try simp only [Act.put, List.setIfInBounds_toArray, List.set_cons_zero, List.set_cons_succ])
  refine wpAnyH_ready (rs := [4]) (by kernel_rfl) (by simp) ?_
  refine AllReadyH.cons (o := { dst := some 240, op := Op.call { callee := Callee.value (Operand.func 12), args := #[Operand.tmp 239], argTypes := #[47] }, type := 45, pos := "schema.go:473", after := #[{ on := 3, ground := Ground.data }], guard := none }) rfl (fun K hK => ?_) AllReadyH.nil
  go_simp
  (go_at_call 12; (with_reducible refine Calls.mono (HO1.out _ hbx2d) ?_); rintro e x1' ⟨⟨pa', pc', rfl⟩, hbx1, hraw1⟩)
  go_wp2_with fail
  refine hK.out _ _ (OffK.of hbx1) (fun hH1 => ?_)
  (try simp only [Act.put, List.setIfInBounds_toArray, List.set_cons_zero, List.set_cons_succ])
  refine wpAnyH_ready (rs := [8]) (by kernel_rfl) (by simp) ?_
  refine AllReadyH.cons (o := { dst := some 244, op := Op.call { callee := Callee.value (Operand.func 11), args := #[Operand.tmp 240, Operand.tmp 243], argTypes := #[45, 29] }, type := 42, pos := "schema.go:473", after := #[{ on := 4, ground := Ground.data }, { on := 7, ground := Ground.data }, { on := 4, ground := Ground.chain }], guard := none }) rfl (fun K hK => ?_) AllReadyH.nil
  go_simp
  (go_at_call 11; (with_reducible refine Calls.mono (HOJ.out _ _ pa' pc' hbx1 (blk_keep hraw1 hat2)) ?_); rintro e x4 ⟨⟨⟨kid, kra, krs, krc, kda, kds, kdc, kva, kvs, kvc⟩, rfl, ka, kf, kq'⟩, hbx4, hraw4⟩)
  have HKA2 : Hid _ := ka
  have HKF : Hid _ := kf
  have HKq : Hid _ := kq'
  have HBX4 : Hid _ := hbx4
  have HJ4 : Hid _ := blk_keep hbx4 HJb23.out
  obtain ⟨v0, v1, v2, v3⟩ := row_four HJ4.out
  obtain ⟨u0, u1, u2, u3⟩ := row_fourF HJ4.out
  clear ka kf kq'
  go_wp2_with fail
  refine hK.out _ _ (OffK.of hbx4) (fun hH3 => ?_)
  (try simp only [Act.put, List.setIfInBounds_toArray, List.set_cons_zero, List.set_cons_succ])
  refine wpAnyH_take (i := 9) (oi := { dst := some 235, op := Op.move (Operand.tmp 244), type := 42, pos := "schema.go:473", after := #[{ on := 8, ground := Ground.data }], guard := none }) (v := ?vb9) rfl (by kernel_rfl) (by kernel_rfl) (by kernel_rfl) (fun p a w h => hP p a _ _ w h) (Or.inl ⟨by rfl, ?hyb9⟩) hH3 ?_
  case hyb9 => (intro w hSw; go_simp; (first | done | with_reducible rfl))
  (try simp only [Act.put, List.setIfInBounds_toArray, List.set_cons_zero, List.set_cons_succ])
  refine wpAnyH_take (i := 10) (oi := { dst := some 245, op := Op.extract (Operand.tmp 235) 0, type := 41, pos := "schema.go:473", after := #[{ on := 9, ground := Ground.data }], guard := none }) (v := ?vb10) rfl (by kernel_rfl) (by kernel_rfl) (by kernel_rfl) (fun p a w h => hP p a _ _ w h) (Or.inl ⟨by rfl, ?hyb10⟩) hH3 ?_
  case hyb10 => (intro w hSw; go_simp; (first | done | with_reducible rfl))
  (try simp only [Act.put, List.setIfInBounds_toArray, List.set_cons_zero, List.set_cons_succ])
  refine wpAnyH_take (i := 11) (oi := { dst := some 246, op := Op.extract (Operand.tmp 235) 1, type := 31, pos := "schema.go:473", after := #[{ on := 9, ground := Ground.data }, { on := 12, ground := Ground.gcOnly Departure.lateStores }], guard := none }) (v := ?vb11) rfl (by kernel_rfl) (by kernel_rfl) (by kernel_rfl) (fun p a w h => hP p a _ _ w h) (Or.inl ⟨by rfl, ?hyb11⟩) hH3 ?_
  case hyb11 => (intro w hSw; go_simp; (first | done | with_reducible rfl))
  (try simp only [Act.put, List.setIfInBounds_toArray, List.set_cons_zero, List.set_cons_succ])
  refine wpAnyH_ready (rs := [12]) (by kernel_rfl) (by simp) ?_
  refine AllReadyH.cons (o := { dst := none, op := Op.store 41 (Operand.tmp 19) (Operand.tmp 245), type := 0, pos := "schema.go:473", after := #[{ on := 10, ground := Ground.data }, { on := 8, ground := Ground.chain }, { on := 0, ground := Ground.phase }, { on := 1, ground := Ground.phase }, { on := 2, ground := Ground.phase }, { on := 3, ground := Ground.phase }, { on := 4, ground := Ground.phase }, { on := 5, ground := Ground.phase }, { on := 6, ground := Ground.phase }, { on := 7, ground := Ground.phase }, { on := 8, ground := Ground.phase }, { on := 9, ground := Ground.phase }, { on := 10, ground := Ground.phase }, { on := 11, ground := Ground.textOnly Departure.lateStores }], guard := none }) rfl (fun K hK => ?_) AllReadyH.nil
  go_simp
  refine hK.out _ _ (OffK.put (OffK.put (OffK.put (OffK.put (OffK.of hbx4) _) _) _) _) (fun hH4 => ?_)
  (try simp only [Act.put, List.setIfInBounds_toArray, List.set_cons_zero, List.set_cons_succ])
  refine wpAnyH_take (i := 13) (oi := { dst := some 29, op := Op.assign (Operand.tmp 246), type := 31, pos := "schema.go:473", after := #[{ on := 11, ground := Ground.data }, { on := 12, ground := Ground.chain }, { on := 0, ground := Ground.phase }, { on := 1, ground := Ground.phase }, { on := 2, ground := Ground.phase }, { on := 3, ground := Ground.phase }, { on := 4, ground := Ground.phase }, { on := 5, ground := Ground.phase }, { on := 6, ground := Ground.phase }, { on := 7, ground := Ground.phase }, { on := 8, ground := Ground.phase }, { on := 9, ground := Ground.phase }, { on := 10, ground := Ground.phase }, { on := 11, ground := Ground.phase }, { on := 12, ground := Ground.phase }], guard := none }) (v := ?vb13) rfl (by kernel_rfl) (by kernel_rfl) (by kernel_rfl) (fun p a w h => hP p a _ _ w h) (Or.inl ⟨by rfl, ?hyb13⟩) hH4 ?_
  case hyb13 => (intro w hSw; go_simp; (first | done | with_reducible rfl))
  (try simp only [Act.put, List.setIfInBounds_toArray, List.set_cons_zero, List.set_cons_succ])
  refine wpAnyH_done (by kernel_rfl) ?_ _
  have hlt := Nat.lt_of_lt_of_le (lt_of_block_any HJb23.out) (Below.size hbx1)
  refine hQ ⟨kid, kra, krs, krc, kda, kds, kdc, kva, kvs, kvc⟩ _ _ _ _ _ _ _ _ _ _ _ _ _ ?_ ?_ ?_ HKq
  · (show OffK gk w23 _); with_reducible exact hH4
  · have q0 := row_setCell (j := 0) HJ4.out (.int .i64 kid)
    have q1 := row_setCell (j := 1) q0 (.slice kra krs.length krc)
    have q2 := row_setCell (j := 2) q1 (.slice kda kds.length kdc)
    have q3 := row_setCell (j := 3) q2 (.slice kva kvs.length kvc)
    exact q3
  · exact (((HKA2.out.off HKF.out hlt).off HKF.out hlt).off HKF.out hlt).off HKF.out hlt
end Go.Proofs.YtdpedailookcjaaDoor
