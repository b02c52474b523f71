/-
  shred.Join, walked.
  The reference's PartOf.
-/
import Derived.Test.YtcejgakjgcniiaaGreatDoorQBColS
import Derived.Deep.RegionLaw
namespace Go.Proofs.YtcejgakjgcniiaaGreatDoor
open Go.RowKit
/-- What Join answers. -/
def JnRet (N : Nat) (lid kind mr md : Int) (cs : List Cl) (sv kv bv : Value) (e : Ending) (w' : World) : Prop :=
  (∃ i, ∃ h : i < cs.length, (∀ j (h : j < cs.length), j < i → GoodC lid kind mr md cs[j]) ∧ BadRet N lid kind mr md cs[i] sv kv e w') ∨
  ((∀ j (h : j < cs.length), GoodC lid kind mr md cs[j]) ∧ 20000 < (jR cs).length ∧ e = .returned (.tuple #[zeroC, bv])) ∨
  ((∀ j (h : j < cs.length), GoodC lid kind mr md cs[j]) ∧ (jR cs).length ≤ 20000 ∧ ∃ k : Cl, e = .returned (.tuple #[k.val, .nilIface]) ∧ k.At w' ∧ k.id = lid ∧ k.rs = jR cs ∧ k.ds = jD cs ∧ k.vs = jV cs)
/-- What Join's boxes hold. -/
structure JbI (W : World) (lid kind mr md : Int) (pa : Option Addr) (pn pc : Nat) (X : World) : Prop where
  lf : X.heap[W.heap.size]? = some (.cells #[.int .i64 lid, .int .i64 kind, .int .i64 mr, .int .i64 md, .slice pa pn pc] 39 (0, 0))
  re : X.heap[W.heap.size + 1]? = some (.cells #[.int .i64 0, .slice none 0 0, .slice none 0 0, .slice none 0 0] 27 (0, 0))
  old : Below W.heap.size W X
theorem JbI.keep {W : World} {lid kind mr md : Int} {pa : Option Addr} {pn pc : Nat} {X w' : World} (h : JbI W lid kind mr md pa pn pc X) (hb : Below X.heap.size X w') : JbI W lid kind mr md pa pn pc w' :=
  ⟨blk_keep hb h.lf, blk_keep hb h.re, h.old.trans (hb.mono h.old.size)⟩
set_option maxRecDepth 100000 in
set_option maxHeartbeats 6400000 in
theorem join_any (lid kind mr md : Int) (pa : Option Addr) (pn pc : Nat) (a : Option Addr) (c : Nat) (cs : List Cl) (W : World) (st kt bt : TypeId) (sp kp bp : Value)
    (hn : cs.length ≤ 1048576) (hjr : (jR cs).length ≤ 1048576) (hjd : (jD cs).length ≤ 1048576) (hjv : (jV cs).length ≤ 1048576) (hca : ∀ j (h : j < cs.length), cs[j].rs.length ≤ 1048576 ∧ cs[j].ds.length ≤ 1048576 ∧ cs[j].vs.length ≤ 1048576)
    (hs : W.cell? ⟨1, 0, none⟩ = some (.iface st sp)) (hk : W.cell? ⟨2, 0, none⟩ = some (.iface kt kp)) (hbd : W.cell? ⟨0, 0, none⟩ = some (.iface bt bp)) (hl : LiesC W a cs) :
    Calls Tryz.prog 18 #[leafV lid kind mr md pa pn pc, .slice a cs.length c] W fun e w' => JnRet W.heap.size lid kind mr md cs (.iface st sp) (.iface kt kp) (.iface bt bp) e w' ∧ Below W.heap.size W w' := by
  unfold leafV
  obtain ⟨w0, HW0, HX, HY, HB⟩ := two_boxes W #[.int .i64 lid, .int .i64 kind, .int .i64 mr, .int .i64 md, .slice pa pn pc] #[.int .i64 0, .slice none 0 0, .slice none 0 0, .slice none 0 0] 39 27
  have HI0 : Hid (JbI W lid kind mr md pa pn pc w0) := ⟨HX.out, HY.out, HB.out⟩
  have HL : Hid (∀ X, JbI W lid kind mr md pa pn pc X → LiesC X a cs) := fun X hX => hl.keep hX.old
  have HS : Hid (∀ X, JbI W lid kind mr md pa pn pc X → X.cell? ⟨1, 0, none⟩ = some (.iface st sp)) := fun X hX => ckB hs hX.old
  have HK : Hid (∀ X, JbI W lid kind mr md pa pn pc X → X.cell? ⟨2, 0, none⟩ = some (.iface kt kp)) := fun X hX => ckB hk hX.old
  have HBD : Hid (∀ X, JbI W lid kind mr md pa pn pc X → X.cell? ⟨0, 0, none⟩ = some (.iface bt bp)) := fun X hX => ckB hbd hX.old
  have HCA : Hid _ := hca
  clear hl hs hk hbd HX HY HB hca
  go_enter Tryz.func18, Tryz.ntmps18
  go_wp2
  rw [HW0.out]
  go_loopw [6, 12] (fun y x wr => ∃ i : Nat, i ≤ cs.length ∧ x = .int .i64 i ∧ y = .int .i64 ((jR (cs.take i)).length : Nat) ∧ Hid (∀ j (h : j < cs.length), j < i → GoodC lid kind mr md cs[j]) ∧ Hid (JbI W lid kind mr md pa pn pc wr)) (fun _ x _ => cs.length - (intOf x).toNat)
  case atStart => exact ⟨0, Nat.zero_le _, rfl, rfl, fun j _ h => absurd h (Nat.not_lt_zero _), HI0⟩
  case round =>
    clear HI0
    obtain ⟨i, hi, rfl, rfl, HG, HI⟩ := hrel
    obtain ⟨⟨p0, p1, p2, p3, p4⟩, _⟩ := row_five HI.out.lf
    obtain ⟨z0, z1, z2, z3⟩ := row_four HI.out.re
    obtain ⟨f0, f1, f2, f3⟩ := row_fourA HI.out.re
    have hjl := jR_le cs i
    obtain ⟨n, HN⟩ : ∃ n, Hid ((jR (cs.take i)).length = n) := ⟨_, rfl⟩
    by_cases hlt : i < cs.length
    · have HN1 : Hid ((jR (cs.take (i + 1))).length = n + cs[i].rs.length) := (by show _ = _; rw [jR_succ hlt, List.length_append, HN.out])
      have hjl2 := jR_le cs (i + 1)
      rw [HN1.out] at hjl2
      rw [HN.out] at hjl ⊢
      obtain ⟨⟨b, o, rfl, c0, c1, c2, c3⟩, hat⟩ := HL.out wr HI.out i hlt
      have HB0 : Hid (Below wr.heap.size wr (wr.alloc (.cells #[.int .i64 cs[i].id, .slice cs[i].ra cs[i].rs.length cs[i].rc, .slice cs[i].da cs[i].ds.length cs[i].dc, .slice cs[i].va cs[i].vs.length cs[i].vc] 27))) := (Below.refl _ _).alloc (Nat.le_refl _) _
      have HI0 : Hid (JbI W lid kind mr md pa pn pc _) := HI.out.keep HB0.out
      have HC0 : Hid _ := heap_alloc_new wr (.cells #[.int .i64 cs[i].id, .slice cs[i].ra cs[i].rs.length cs[i].rc, .slice cs[i].da cs[i].ds.length cs[i].dc, .slice cs[i].va cs[i].vs.length cs[i].vc] 27)
      have HA0 : Hid _ := hat.keep HB0.out
      obtain ⟨hc1, hc2, hc3⟩ := HCA.out i hlt
      have HEC : Hid (∀ j (h : j < cs.length), j = i → cs[j] = cs[i]) := fun j h e => by subst e; rfl
      clear hat p0 p1 p2 p3 p4
      obtain ⟨⟨p0, p1, p2, p3, p4⟩, _⟩ := row_five HI0.out.lf
      have HCk : Hid _ := scheck_any lid kind mr md cs[i].id pa cs[i].ra cs[i].da cs[i].va pn pc cs[i].rc cs[i].dc cs[i].vc cs[i].rs cs[i].ds cs[i].vs _ st kt sp kp hc1 hc2 hc3 (HS.out _ HI0.out) (HK.out _ HI0.out) HA0.out.r HA0.out.d HA0.out.v
      have HGi : Hid (GoodC lid kind mr md cs[i] → ∀ j (h : j < cs.length), j < i + 1 → GoodC lid kind mr md cs[j]) := fun hg j h hj => by
        by_cases e : j = i
        · subst e; exact hg
        · exact HG.out j h (by omega)
      have HBi : Hid (∀ e w', BadRet W.heap.size lid kind mr md cs[i] (.iface st sp) (.iface kt kp) e w' → JnRet W.heap.size lid kind mr md cs (.iface st sp) (.iface kt kp) (.iface bt bp) e w') := fun e w' h => .inl ⟨i, hlt, HG.out, h⟩
      generalize cs[i] = k at *
      go_wp2_with fail
      refine Calls.mono HCk.out ?_
      rintro e w1 ⟨hck, hb1⟩
      have HI1 : Hid (JbI W lid kind mr md pa pn pc w1) := HI0.out.keep hb1
      have HC1 : Hid _ := blk_keep hb1 HC0.out
      have HSz : Hid (W.heap.size + 1 < wr.heap.size) := lt_of_block HI.out.re
      clear p0 p1 p2 p3 p4 z0 z1 z2 z3 f0 f1 f2 f3 hb1
      obtain ⟨z0, z1, z2, z3⟩ := row_four HI1.out.re
      obtain ⟨f0, f1, f2, f3⟩ := row_fourA HI1.out.re
      obtain ⟨d0, d1, d2, d3⟩ := row_four HC1.out
      rcases hck with ⟨hb, rfl⟩ | ⟨hg, ⟨hall, rfl⟩ | ⟨p, hp, hbad, hf, q, hqn, rfl, hq0, hq1⟩⟩
      · have HBd : Hid _ := hb
        clear hb
        go_wp2
        exact bodyPost_ret (v := .tuple #[zeroC, .iface st sp]) (results_cR Tryz.results18 _ _ (W.heap.size + 1) 27 #[.int .i64 0, .slice none 0 0, .slice none 0 0, .slice none 0 0] (0, 0) _ (.iface st sp) rfl rfl (row_setCell (row_setCell (row_setCell (row_setCell HI1.out.re _) _) _) _) Tryz.underlying27 rfl (by kernel_rfl)) rfl ⟨HBi.out _ _ (.inl ⟨HBd.out, rfl⟩), (((HI1.out.old.setCell (by simp) _).setCell (by simp) _).setCell (by simp) _).setCell (by simp) _⟩
      · have HGo : Hid _ := HGi.out ⟨hg, hall⟩
        clear hg hall
        go_wp2
        go_roundw
        case rel => exact ⟨i + 1, by omega, by go_num, by rw [HN1.out]; go_num, HGo, HI1⟩
        case measure => simp [intOf]; omega
      · have HGd : Hid _ := hg
        have HQ0 : Hid _ := hq0
        have HQ1 : Hid _ := hq1
        have HBa : Hid _ := hbad
        have HF : Hid _ := hf
        have HQN : Hid (W.heap.size + 1 < q) := (by have := HSz.out; have h2 := HB0.out.size; show _ < _; omega)
        clear hg hq0 hq1 hbad hf hqn
        go_wp2
        have hoff : ∀ (X : World) (o j : Nat) (v : Value), (X.setCell ⟨W.heap.size + 1, j, none⟩ v).cell? ⟨q, o, none⟩ = X.cell? ⟨q, o, none⟩ := fun X o j v => cell_off (by have := HQN.out; omega)
        exact bodyPost_ret (v := .tuple #[zeroC, .iface 78 (.pointer (some ⟨q, 0, none⟩))]) (results_cR Tryz.results18 _ _ (W.heap.size + 1) 27 #[.int .i64 0, .slice none 0 0, .slice none 0 0, .slice none 0 0] (0, 0) _ (.iface 78 (.pointer (some ⟨q, 0, none⟩))) rfl rfl (row_setCell (row_setCell (row_setCell (row_setCell HI1.out.re _) _) _) _) Tryz.underlying27 rfl (by kernel_rfl)) rfl ⟨HBi.out _ _ (.inr ⟨HGd.out, p, hp, HBa.out, HF.out, q, (by have := HQN.out; omega), rfl, by rw [hoff, hoff, hoff, hoff]; exact HQ0.out, by rw [hoff, hoff, hoff, hoff]; exact HQ1.out⟩), (((HI1.out.old.setCell (by simp) _).setCell (by simp) _).setCell (by simp) _).setCell (by simp) _⟩
    · obtain rfl : i = cs.length := by omega
      have HGa : Hid (∀ j (h : j < cs.length), GoodC lid kind mr md cs[j]) := fun j h => HG.out j h h
      have HNe : Hid ((jR cs).length = n) := (by have h := HN.out; rw [List.take_length] at h; exact h)
      rw [HN.out]
      have hbe := HBD.out _ HI.out
      by_cases hm : 20000 < n
      · have q1 : decide ((20000 : Int) < (n : Int)) = true := by rw [decide_eq_true_iff]; omega
        go_wp2_with fail
        go_region
        all_goals
          go_wp2
          exact bodyPost_ret (v := .tuple #[zeroC, .iface bt bp]) (results_cR Tryz.results18 _ _ (W.heap.size + 1) 27 #[.int .i64 0, .slice none 0 0, .slice none 0 0, .slice none 0 0] (0, 0) _ (.iface bt bp) rfl rfl (blk_drew (row_setCell (row_setCell (row_setCell (row_setCell HI.out.re _) _) _) _)) Tryz.underlying27 rfl (by kernel_rfl)) rfl ⟨.inr (.inl ⟨HGa.out, by rw [HNe.out]; exact hm, rfl⟩), ((((HI.out.old.setCell (by simp) _).setCell (by simp) _).setCell (by simp) _).setCell (by simp) _).drew⟩
      · have q1 : decide ((20000 : Int) < (n : Int)) = false := by rw [decide_eq_false_iff_not]; omega
        have hmn : n ≤ 20000 := by omega
        clear hm
        go_wp2_with fail
        refine (joined_n lid kind mr md pa pn pc a cs.length c cs wr hn hjr hjd hjv (HL.out _ HI.out) rfl).mono ?_
        rintro e xj ⟨⟨⟨kid, kra, krs, krc, kda, kds, kdc, kva, kvs, kvc⟩, rfl, kat, kfr, rfl, rfl, rfl, rfl⟩, hbj⟩
        have HKA : Hid _ := kat
        have HKF : Hid _ := kfr
        have HBJ : Hid _ := hbj
        clear kat kfr hbj z0 z1 z2 z3 f0 f1 f2 f3
        obtain ⟨z0, z1, z2, z3⟩ := row_four (blk_keep HBJ.out HI.out.re)
        obtain ⟨f0, f1, f2, f3⟩ := row_fourA (blk_keep HBJ.out HI.out.re)
        go_wp2
        have hgN : W.heap.size + 1 < wr.heap.size := lt_of_block HI.out.re
        have hol : Below W.heap.size W xj := HI.out.old.trans (HBJ.out.mono (by omega))
        exact bodyPost_ret (v := .tuple #[.agg #[.int .i64 kid, .slice kra (jR cs).length krc, .slice kda (jD cs).length kdc, .slice kva (jV cs).length kvc], .nilIface]) (results_cR Tryz.results18 _ _ (W.heap.size + 1) 27 #[.int .i64 kid, .slice kra (jR cs).length krc, .slice kda (jD cs).length kdc, .slice kva (jV cs).length kvc] (0, 0) _ .nilIface rfl rfl (row_setCell (row_setCell (row_setCell (row_setCell (blk_keep HBJ.out HI.out.re) _) _) _) _) Tryz.underlying27 rfl (by kernel_rfl)) rfl ⟨.inr (.inr ⟨HGa.out, by rw [HNe.out]; exact hmn, ⟨kid, kra, jR cs, krc, kda, jD cs, kdc, kva, jV cs, kvc⟩, rfl, (((HKA.out.off HKF.out hgN).off HKF.out hgN).off HKF.out hgN).off HKF.out hgN, rfl, rfl, rfl, rfl⟩), (((hol.setCell (by simp) _).setCell (by simp) _).setCell (by simp) _).setCell (by simp) _⟩
end Go.Proofs.YtcejgakjgcniiaaGreatDoor

namespace Go.Proofs.YtcejgakjgcniiaaGreatDoor
open Go.RowKit
theorem cutL_nil {α : Type} (xs : List α) {a m : Nat} (h : m ≤ a) : cutL xs a m = [] := by
  unfold cutL
  exact List.drop_eq_nil_of_le (by simp; omega)
theorem cutL_in {α : Type} (xs : List α) {a i b : Nat} (h : a ≤ i) (h2 : i < b) (h3 : i < xs.length) : cutL xs a (min (i + 1) b) = cutL xs a (min i b) ++ [xs[i]] := by
  rw [Nat.min_eq_left (by omega), Nat.min_eq_left (by omega), cutL, cutL, List.take_succ_eq_append_getElem h3, List.drop_append_of_le_length (by simp; omega)]
theorem cutL_out {α : Type} (xs : List α) {a i b : Nat} (h : ¬ (a ≤ i ∧ i < b)) : cutL xs a (min (i + 1) b) = cutL xs a (min i b) := by
  by_cases hb : b ≤ i
  · rw [Nat.min_eq_right hb, Nat.min_eq_right (by omega)]
  · rw [cutL_nil xs (by omega), cutL_nil xs (by omega)]
theorem cutV_in {α : Type} (vs : List α) (md : Int) (ds : List Int) {a i b : Nat} (h : a ≤ i) (h2 : i < b) (h3 : i < ds.length) (he : ds[i] = md) (hv : cntE md (ds.take i) < vs.length) : cutL vs (cntE md (ds.take a)) (cntE md (ds.take (min (i + 1) b))) = cutL vs (cntE md (ds.take a)) (cntE md (ds.take (min i b))) ++ [vs[cntE md (ds.take i)]] := by
  rw [Nat.min_eq_left (by omega), Nat.min_eq_left (by omega), cntE_succ md ds i h3, if_pos he, cutL, cutL, List.take_succ_eq_append_getElem hv, List.drop_append_of_le_length (by have := cntE_mono md ds h; simp; omega)]
theorem cutV_out {α : Type} (vs : List α) (md : Int) (ds : List Int) {a i b : Nat} (h3 : i < ds.length) (h : ¬ (a ≤ i ∧ i < b) ∨ ds[i] ≠ md) : cutL vs (cntE md (ds.take a)) (cntE md (ds.take (min (i + 1) b))) = cutL vs (cntE md (ds.take a)) (cntE md (ds.take (min i b))) := by
  by_cases hb : b ≤ i
  · rw [Nat.min_eq_right hb, Nat.min_eq_right (by omega)]
  · by_cases ha : a ≤ i
    · have he : ds[i] ≠ md := by
        rcases h with h | h
        · exact absurd ⟨ha, by omega⟩ h
        · exact h
      rw [Nat.min_eq_left (by omega), Nat.min_eq_left (by omega), cntE_succ md ds i h3, if_neg he, Nat.add_zero]
    · rw [cutL_nil vs (cntE_mono md ds (by omega)), cutL_nil vs (cntE_mono md ds (by omega))]
theorem StAt.iff {rs : List Int} {x : Int} {a i : Nat} (h : StAt rs x a) (hi : i < rs.length) : x < (cntE 0 (rs.take (i + 1)) : Int) ↔ a ≤ i := by
  constructor
  · intro hx
    rcases Nat.lt_or_ge i a with hlt | hge
    · have := h.2.1 i hlt; omega
    · exact hge
  · intro ha
    have h1 := h.2.2 (by omega)
    have h2 := cntE_mono 0 rs (a := a + 1) (b := i + 1) (by omega)
    omega
theorem four_boxes (W : World) (c1 c2 c3 c4 : Array Value) (t1 t2 t3 t4 : TypeId) : ∃ w0, Hid ((((W.alloc (.cells c1 t1)).alloc (.cells c2 t2)).alloc (.cells c3 t3)).alloc (.cells c4 t4) = w0) ∧ Hid (w0.heap[W.heap.size]? = some (.cells c1 t1 (0, 0))) ∧ Hid (w0.heap[W.heap.size + 1]? = some (.cells c2 t2 (0, 0))) ∧ Hid (w0.heap[W.heap.size + 1 + 1]? = some (.cells c3 t3 (0, 0))) ∧ Hid (w0.heap[W.heap.size + 1 + 1 + 1]? = some (.cells c4 t4 (0, 0))) ∧ Hid (Below W.heap.size W w0) := by
  obtain ⟨w1, H1, H2, H3, H5, H4⟩ := three_boxes W c1 c2 c3 t1 t2 t3
  refine ⟨w1.alloc (.cells c4 t4), by show _ = _; rw [H1.out], blk_alloc H2.out, blk_alloc H3.out, blk_alloc H5.out, ?_, H4.out.alloc H4.out.size _⟩
  have h := heap_alloc_new w1 (.cells c4 t4)
  rw [show w1.heap.size = W.heap.size + 1 + 1 + 1 by rw [← H1.out]; simp] at h
  exact h
/-- What PartOf's loop holds: how far each row is. -/
structure PoI (W w0 : World) (id md : Int) (c : Cl) (a b n m k : Nat) (wr : World) : Prop where
  acc : ∃ rv dv vv, AcI (W.heap.size + 1 + 1 + 1) (W.heap.size + 1 + 1 + 1 + 1) id rv (cutL c.rs a (min n b)) dv (cutL c.ds a (min m b)) vv (cutL c.vs (cntE md (c.ds.take a)) (cntE md (c.ds.take (min k b)))) wr
  fr : DFr (W.heap.size + 1 + 1 + 1) (W.heap.size + 1 + 1 + 1 + 1) w0 wr
theorem PoI.keep {W w0 : World} {id md : Int} {c : Cl} {a b n m k : Nat} {wr w' : World} (h : PoI W w0 id md c a b n m k wr) (hb : Below wr.heap.size wr w') : PoI W w0 id md c a b n m k w' := by
  obtain ⟨⟨rv, dv, vv, hI⟩, hd⟩ := h
  exact ⟨⟨rv, dv, vv, hI.stay hb⟩, hd.trans (.of_below hb)⟩
theorem cutL_le {α : Type} (xs : List α) (a b : Nat) : (cutL xs a b).length ≤ xs.length := by simp [cutL]; omega
theorem cell_new_v (w : World) (x : Vl) : ∀ j u, (vcells [x])[j]? = some u → (w.alloc (.cells #[.int .i64 x.k, .int .i64 x.n, .string x.s] 55)).cell? ((⟨w.heap.size, 0, none⟩ : Addr).add j) = some u := fun j u hu => by
  rw [addr_add, Nat.zero_add, cell_of_row _ w.heap.size j _ _ _ (heap_alloc_new _ _), ← hu]
  simp [vcells]
set_option maxRecDepth 100000 in
set_option maxHeartbeats 12800000 in
theorem partOf_any (lid kind mr md lo hi : Int) (pa : Option Addr) (pn pc : Nat) (c : Cl) (W : World) (a b : Nat)
    (hn : c.rs.length ≤ 20000) (hv : c.vs.length ≤ 20000) (hln : c.rs.length = c.ds.length) (hvn : c.vs.length = cntE md c.ds) (hsa : StAt c.rs lo a) (hsb : StAt c.rs hi b) (hat : c.At W) :
    Calls Tryz.prog 16 #[.agg #[.int .i64 lid, .int .i64 kind, .int .i64 mr, .int .i64 md, .slice pa pn pc], .agg #[.int .i64 c.id, .slice c.ra c.rs.length c.rc, .slice c.da c.ds.length c.dc, .slice c.va c.vs.length c.vc], .int .i64 lo, .int .i64 hi] W fun e w' => (∃ k : Cl, e = .returned (.agg #[.int .i64 k.id, .slice k.ra k.rs.length k.rc, .slice k.da k.ds.length k.dc, .slice k.va k.vs.length k.vc]) ∧ k.At w' ∧ k.id = c.id ∧ k.rs = cutL c.rs a b ∧ k.ds = cutL c.ds a b ∧ k.vs = cutL c.vs (cntE md (c.ds.take a)) (cntE md (c.ds.take b))) ∧ Below W.heap.size W w' := by
  obtain ⟨iv, hvi, hv0, hv1, hv2⟩ := info_parts Tryz.info3
  obtain ⟨iw, hwi, hw0, hw1, hw2⟩ := info_parts Tryz.infoV
  obtain ⟨w0, HW0, HX, HY, HZ, HO, HB⟩ := four_boxes W #[.int .i64 lid, .int .i64 kind, .int .i64 mr, .int .i64 md, .slice pa pn pc] #[.int .i64 c.id, .slice c.ra c.rs.length c.rc, .slice c.da c.ds.length c.dc, .slice c.va c.vs.length c.vc] #[.int .i64 0, .slice none 0 0, .slice none 0 0, .slice none 0 0] #[.int .i64 c.id, .slice none 0 0, .slice none 0 0, .slice none 0 0] 24 27 27 27
  have HAT : Hid (∀ X, DFr (W.heap.size + 1 + 1 + 1) (W.heap.size + 1 + 1 + 1 + 1) w0 X → c.At X) := fun X hX => hat.keep (HB.out.trans (hX.below HB.out.size (by omega) (by omega)))
  have HSA : Hid (StAt c.rs lo a) := hsa
  have HSB : Hid (StAt c.rs hi b) := hsb
  have HLn : Hid _ := hln
  have HVn : Hid _ := hvn
  have HSz : Hid (W.heap.size + 1 + 1 + 1 + 1 ≤ w0.heap.size) := lt_of_block HO.out
  clear hat hsa hsb hln hvn
  obtain ⟨k0, k1, k2, k3⟩ := row_four (show (((W.alloc (.cells #[.int .i64 lid, .int .i64 kind, .int .i64 mr, .int .i64 md, .slice pa pn pc] 24)).alloc (.cells #[.int .i64 c.id, .slice c.ra c.rs.length c.rc, .slice c.da c.ds.length c.dc, .slice c.va c.vs.length c.vc] 27)).alloc (.cells #[.int .i64 0, .slice none 0 0, .slice none 0 0, .slice none 0 0] 27)).heap[W.heap.size + 1]? = some (.cells #[.int .i64 c.id, .slice c.ra c.rs.length c.rc, .slice c.da c.ds.length c.dc, .slice c.va c.vs.length c.vc] 27 (0, 0)) from by
    obtain ⟨w1, H1, _, H3, _, _⟩ := three_boxes W #[.int .i64 lid, .int .i64 kind, .int .i64 mr, .int .i64 md, .slice pa pn pc] #[.int .i64 c.id, .slice c.ra c.rs.length c.rc, .slice c.da c.ds.length c.dc, .slice c.va c.vs.length c.vc] #[.int .i64 0, .slice none 0 0, .slice none 0 0, .slice none 0 0] 24 27 27
    rw [H1.out]; exact H3.out)
  go_enter Tryz.func16, Tryz.ntmps16
  go_wp2
  rw [HW0.out]
  clear k0 k1 k2 k3
  go_loopw [10, 11, 12] (fun y z x wr => ∃ i : Nat, i ≤ c.rs.length ∧ x = .int .i64 i ∧ y = .int .i64 ((cntE 0 (c.rs.take i) : Nat) - 1) ∧ z = .int .i64 (cntE md (c.ds.take i) : Nat) ∧ Hid (PoI W w0 c.id md c a b i i i wr)) (fun _ _ x _ => c.rs.length - (intOf x).toNat)
  case atStart =>
    refine ⟨0, Nat.zero_le _, rfl, rfl, rfl, ⟨.slice none 0 0, .slice none 0 0, .slice none 0 0, ?_⟩, DFr.refl _ _ _⟩
    rw [Nat.zero_min, cutL_nil c.rs (Nat.zero_le _), cutL_nil c.ds (Nat.zero_le _), cutL_nil c.vs (by simp [cntE])]
    exact AcI.start HO.out
  case round =>
    obtain ⟨i, hile, rfl, rfl, rfl, HI⟩ := hrel
    have hy := HI.out.fr.box HY.out (by omega) (by decide)
    have hx := HI.out.fr.box HX.out (by omega) (by decide)
    obtain ⟨⟨p0, p1, p2, p3, p4⟩, _⟩ := row_five hx
    obtain ⟨k0, k1, k2, k3⟩ := row_four hy
    clear hx hy
    by_cases hlt : i < c.rs.length
    · have hlt2 : i < c.ds.length := by rw [← HLn.out]; exact hlt
      have hat := HAT.out wr HI.out.fr
      obtain ⟨rb, ro, hra, hr⟩ := lies_ints hat.r i hlt
      obtain ⟨db, dO, hda, hd⟩ := lies_ints hat.d i hlt2
      have HN : Hid (cntE 0 (c.rs.take (i + 1)) = cntE 0 (c.rs.take i) + if c.rs[i] = 0 then 1 else 0) := cntE_succ 0 c.rs i hlt
      have HM : Hid (cntE md (c.ds.take (i + 1)) = cntE md (c.ds.take i) + if c.ds[i] = md then 1 else 0) := cntE_succ md c.ds i hlt2
      have HRA : Hid _ := hra
      have HDA : Hid _ := hda
      obtain ⟨r, hrE⟩ : ∃ r, r = c.rs[i] := ⟨_, rfl⟩
      obtain ⟨d, hdE⟩ : ∃ d, d = c.ds[i] := ⟨_, rfl⟩
      rw [← hrE] at hr HN
      rw [← hdE] at hd HM
      have HRE : Hid _ := hrE
      have HDE : Hid _ := hdE
      rw [hra] at k1
      rw [hda] at k2
      have hnle := cntE_le 0 c.rs i
      have hmle := cntE_le md c.ds i
      obtain ⟨n, HNn⟩ : ∃ n, Hid (cntE 0 (c.rs.take i) = n) := ⟨_, rfl⟩
      obtain ⟨n2, HNm⟩ : ∃ n, Hid (cntE 0 (c.rs.take (i + 1)) = n) := ⟨_, rfl⟩
      obtain ⟨m, HMm⟩ : ∃ n, Hid (cntE md (c.ds.take i) = n) := ⟨_, rfl⟩
      rw [HNn.out, HNm.out] at HN
      rw [HMm.out] at HM
      rw [HNn.out] at hnle
      rw [HMm.out] at hmle
      rw [HNn.out, HMm.out]
      clear hra hda hrE hdE hat
      go_upto_if 29 with fail
      go_cut [10] (fun x wx => x = .int .i64 ((n2 : Int) - 1) ∧ wx = wr)
      case first =>
        by_cases hz : r = 0
        · have hq : n2 = n + 1 := by have h := HN.out; rw [if_pos hz] at h; exact h
          subst hz
          go_wp2
          go_meet
          exact ⟨by subst hq; go_num, rfl⟩
        · have hq : n2 = n := by have h := HN.out; rw [if_neg hz] at h; exact h
          have q : (r == 0) = false := by simp [hz]
          clear hz
          go_wp2
          go_meet
          exact ⟨by rw [hq], rfl⟩
      case rest =>
        obtain ⟨rfl, hw⟩ := hcut
        obtain rfl := hw.symm
        have hA : lo < (n2 : Int) ↔ a ≤ i := by rw [← HNm.out]; exact HSA.out.iff hlt
        have hB : hi < (n2 : Int) ↔ b ≤ i := by rw [← HNm.out]; exact HSB.out.iff hlt
        obtain ⟨inn, HIn⟩ : ∃ t : Bool, Hid (t = decide (a ≤ i ∧ i < b)) := ⟨_, rfl⟩
        go_upto_region 9 with fail
        go_cut [13] (fun x wx => x = .bool inn ∧ wx = wr)
        case first =>
          by_cases h1 : a ≤ i
          · have q1 : decide (lo ≤ (n2 : Int) - 1) = true := by rw [decide_eq_true_iff]; have := hA.2 h1; omega
            by_cases h2 : i < b
            · have q2 : decide ((n2 : Int) - 1 < hi) = true := by rw [decide_eq_true_iff]; have := mt hB.1 (by omega); omega
              have hin : inn = true := by rw [HIn.out]; simp [h1, h2]
              clear h1 h2 hA hB
              go_wp2
              go_meet
              exact ⟨by rw [hin], rfl⟩
            · have q2 : decide ((n2 : Int) - 1 < hi) = false := by rw [decide_eq_false_iff_not]; have := hB.2 (by omega); omega
              have hin : inn = false := by rw [HIn.out]; simp [h2]
              clear h1 h2 hA hB
              go_wp2
              go_meet
              exact ⟨by rw [hin], rfl⟩
          · have q1 : decide (lo ≤ (n2 : Int) - 1) = false := by rw [decide_eq_false_iff_not]; have := mt hA.1 h1; omega
            have hin : inn = false := by rw [HIn.out]; simp [h1]
            clear h1 hA hB
            go_wp2
            go_meet
            exact ⟨by rw [hin], rfl⟩
        case rest =>
          obtain ⟨rfl, hw⟩ := hcut
          obtain rfl := hw.symm
          clear hA hB
          go_upto_if 40 with fail
          go_cut [] (fun wx => Hid (PoI W w0 c.id md c a b (i + 1) (i + 1) i wx))
          case first =>
            cases inn
            · have hno : ¬ (a ≤ i ∧ i < b) := by have h := HIn.out; simpa using h
              have HP : Hid (PoI W w0 c.id md c a b (i + 1) (i + 1) i wr) := ⟨by rw [cutL_out c.rs hno, cutL_out c.ds hno]; exact HI.out.acc, HI.out.fr⟩
              clear hno
              go_wp2
              go_meet
              exact HP
            · have hyes : a ≤ i ∧ i < b := by have h := HIn.out; simpa using h
              have HCr : Hid (cutL c.rs a (min (i + 1) b) = cutL c.rs a (min i b) ++ [r]) := (by show _ = _; rw [HRE.out]; exact cutL_in c.rs hyes.1 hyes.2 hlt)
              have HCd : Hid (cutL c.ds a (min (i + 1) b) = cutL c.ds a (min i b) ++ [d]) := (by show _ = _; rw [HDE.out]; exact cutL_in c.ds hyes.1 hyes.2 hlt2)
              clear hyes
              go_wp2_with fail
              go_upto_region 11 with fail
              go_cut [] (fun wx => Hid (PoI W w0 c.id md c a b (i + 1) i i wx))
              case first =>
                obtain ⟨rv, dv, vv, hI⟩ := HI.out.acc
                obtain ⟨ra, rc, rfl⟩ := own_slC hI.rrow
                obtain ⟨da, dc, rfl⟩ := own_slC hI.drow
                obtain ⟨va, vc, rfl⟩ := own_slC hI.vrow
                obtain ⟨g0, g1, g2, g3⟩ := row_four hI.cell
                obtain ⟨f0, f1, f2, f3⟩ := row_fourA hI.cell
                obtain ⟨y0, y1, y2, y3⟩ := row_four (blk_alloc (o' := .cells #[.int .i64 r] 3) hI.cell)
                have HBa : Hid (Below wr.heap.size wr (wr.alloc (.cells #[.int .i64 r] 3)).drew) := ((Below.refl _ _).alloc (Nat.le_refl _) _).drew
                have HAa : Hid _ := hI.stay HBa.out
                have HDa : Hid (DFr (W.heap.size + 1 + 1 + 1) (W.heap.size + 1 + 1 + 1 + 1) w0 _) := HI.out.fr.trans (.of_below HBa.out)
                have hs1 : W.heap.size + 1 + 1 + 1 + 1 ≤ wr.heap.size := Nat.le_trans HSz.out HI.out.fr.size
                have hl1 : (cutL c.rs a (min i b)).length ≤ 20000 := by rw [cutL_len _ _ _ (by omega)]; omega
                clear hI
                go_wp2_with fail
                go_region_law (refine step_append_any _ rfl _ _ 22 rfl (W.heap.size + 1 + 1 + 1 + 1) 3 iv (.int .i64 0) 1 8 Tryz.underlying22 hvi hv0 hv1 hv2 rfl (by decide) _ _ (i64s (cutL c.rs a (min i b))) rfl HAa.out.rrow (some ⟨wr.heap.size, 0, none⟩) 1 1 (i64s [r]) rfl rfl (fun j u hu => ⟨_, rfl, (show (wr.alloc _).cell? _ = some u from cell_one_new _ _ _ j u hu)⟩) (one_i _) (by unfold maxLen; omega) (by omega) (by simp; omega) ?_; intro v1 x1 hown1 hg1 hw1; obtain ⟨e1, e2, e3⟩ := AcI.appR HAa.out hown1 hg1 hw1; obtain ⟨a1, c1, rfl⟩ := own_slC hown1; have HA1 : Hid _ := e2; have HD1 : Hid (DFr (W.heap.size + 1 + 1 + 1) (W.heap.size + 1 + 1 + 1 + 1) w0 _) := HDa.out.trans e3; clear hown1 hg1 hw1 e2 e3 g0 g1 g2 g3 f0 f1 f2 f3; obtain ⟨g0, g1, g2, g3⟩ := row_four e1; obtain ⟨f0, f1, f2, f3⟩ := row_fourA e1; clear e1)
                all_goals
                  go_wp2_with fail
                  go_meet
                  exact ⟨⟨_, _, _, by rw [HCr.out]; exact HA1.out⟩, HD1.out⟩
              case rest =>
                have HI1 : Hid _ := hcut
                rename World => w1
                clear p0 p1 p2 p3 p4 k0 k1 k2 k3 hr hd
                have hy := HI1.out.fr.box HY.out (by omega) (by decide)
                have hx := HI1.out.fr.box HX.out (by omega) (by decide)
                obtain ⟨⟨p0, p1, p2, p3, p4⟩, _⟩ := row_five hx
                obtain ⟨k0, k1, k2, k3⟩ := row_four hy
                have hat := HAT.out w1 HI1.out.fr
                rw [HRA.out] at k1
                rw [HDA.out] at k2
                have hd : ∀ o', o' = dO + i → w1.cell? ⟨db, o', none⟩ = some (.int .i64 d) := fun o' ho => by
                  obtain ⟨b', o'', e, h⟩ := lies_ints hat.d i hlt2
                  rw [HDA.out] at e; injection e with e; injection e with e1 e2 _; subst e1 e2 ho; rw [HDE.out]; exact h
                have hd := hd _ rfl
                clear hx hy hat
                go_upto_region 12 with fail
                go_cut [] (fun wx => Hid (PoI W w0 c.id md c a b (i + 1) (i + 1) i wx))
                case first =>
                  obtain ⟨rv, dv, vv, hI⟩ := HI1.out.acc
                  obtain ⟨ra, rc, rfl⟩ := own_slC hI.rrow
                  obtain ⟨da, dc, rfl⟩ := own_slC hI.drow
                  obtain ⟨va, vc, rfl⟩ := own_slC hI.vrow
                  obtain ⟨g0, g1, g2, g3⟩ := row_four hI.cell
                  obtain ⟨f0, f1, f2, f3⟩ := row_fourA hI.cell
                  obtain ⟨y0, y1, y2, y3⟩ := row_four (blk_alloc (o' := .cells #[.int .i64 d] 3) hI.cell)
                  have HBa : Hid (Below w1.heap.size w1 (w1.alloc (.cells #[.int .i64 d] 3)).drew) := ((Below.refl _ _).alloc (Nat.le_refl _) _).drew
                  have HAa : Hid _ := hI.stay HBa.out
                  have HDa : Hid (DFr (W.heap.size + 1 + 1 + 1) (W.heap.size + 1 + 1 + 1 + 1) w0 _) := HI1.out.fr.trans (.of_below HBa.out)
                  have hs1 : W.heap.size + 1 + 1 + 1 + 1 ≤ w1.heap.size := Nat.le_trans HSz.out HI1.out.fr.size
                  have hl1 : (cutL c.ds a (min i b)).length ≤ 20000 := by rw [cutL_len _ _ _ (by omega)]; omega
                  clear hI
                  go_wp2_with fail
                  go_region_law (refine step_append_any _ rfl _ _ 22 rfl (W.heap.size + 1 + 1 + 1 + 1) 3 iv (.int .i64 0) 1 8 Tryz.underlying22 hvi hv0 hv1 hv2 rfl (by decide) _ _ (i64s (cutL c.ds a (min i b))) rfl HAa.out.drow (some ⟨w1.heap.size, 0, none⟩) 1 1 (i64s [d]) rfl rfl (fun j u hu => ⟨_, rfl, (show (w1.alloc _).cell? _ = some u from cell_one_new _ _ _ j u hu)⟩) (one_i _) (by unfold maxLen; omega) (by omega) (by simp; omega) ?_; intro v1 x1 hown1 hg1 hw1; obtain ⟨e1, e2, e3⟩ := AcI.appD HAa.out hown1 hg1 hw1; obtain ⟨a1, c1, rfl⟩ := own_slC hown1; have HA1 : Hid _ := e2; have HD1 : Hid (DFr (W.heap.size + 1 + 1 + 1) (W.heap.size + 1 + 1 + 1 + 1) w0 _) := HDa.out.trans e3; clear hown1 hg1 hw1 e2 e3 g0 g1 g2 g3 f0 f1 f2 f3; obtain ⟨g0, g1, g2, g3⟩ := row_four e1; obtain ⟨f0, f1, f2, f3⟩ := row_fourA e1; clear e1)
                  all_goals
                    go_wp2_with fail
                    go_meet
                    exact ⟨⟨_, _, _, by rw [HCd.out]; exact HA1.out⟩, HD1.out⟩
                case rest =>
                  go_wp2
                  go_meet
                  exact hcut
          case rest =>
            have HI2 : Hid _ := hcut
            rename World => w2
            clear p0 p1 p2 p3 p4 k0 k1 k2 k3 hr hd HI
            have hy := HI2.out.fr.box HY.out (by omega) (by decide)
            have hx := HI2.out.fr.box HX.out (by omega) (by decide)
            obtain ⟨⟨p0, p1, p2, p3, p4⟩, _⟩ := row_five hx
            obtain ⟨k0, k1, k2, k3⟩ := row_four hy
            have hat := HAT.out w2 HI2.out.fr
            rw [HRA.out] at k1
            rw [HDA.out] at k2
            have hd : ∀ o', o' = dO + i → w2.cell? ⟨db, o', none⟩ = some (.int .i64 d) := fun o' ho => by
              obtain ⟨b', o'', e, h⟩ := lies_ints hat.d i hlt2
              rw [HDA.out] at e; injection e with e; injection e with e1 e2 _; subst e1 e2 ho; rw [HDE.out]; exact h
            have hd := hd _ rfl
            clear hx hy hat
            by_cases hdm : d = md
            · have q : (d == md) = true := by simp [hdm]
              have HDM : Hid (c.ds[i] = md) := (by show _ = _; rw [← HDE.out]; exact hdm)
              have HM1 : Hid (cntE md (c.ds.take (i + 1)) = m + 1) := (by show _ = _; rw [HM.out, if_pos hdm])
              have hmv : m < c.vs.length := by rw [HVn.out]; have h := cntE_all md c.ds (i + 1); rw [HM1.out] at h; omega
              clear hdm
              have hat := HAT.out w2 HI2.out.fr
              obtain ⟨vb, vo, hva, d0, d1, d2⟩ := hat.v m hmv
              obtain ⟨x, hxE⟩ : ∃ x, x = c.vs[m] := ⟨_, rfl⟩
              rw [← hxE] at d0 d1 d2
              rw [hva] at k3
              have HXE : Hid _ := hxE
              have HLen : Hid ((cutL c.vs (cntE md (c.ds.take a)) (cntE md (c.ds.take (min i b)))).length ≤ 20000) := Nat.le_trans (cutL_le _ _ _) hv
              clear hat hva hxE
              go_wp2_with fail
              go_quiet (fail)
              have HI3 : Hid _ := HI2.out.keep (below_dQ (Below.refl _ _) nq)
              cases inn
              · have hno : ¬ (a ≤ i ∧ i < b) := by have h := HIn.out; simpa using h
                have HP : Hid (PoI W w0 c.id md c a b (i + 1) (i + 1) (i + 1) _) := ⟨by rw [cutV_out c.vs md c.ds hlt2 (.inl hno)]; exact HI3.out.acc, HI3.out.fr⟩
                clear hno
                go_wp2
                go_roundw
                case rel => exact ⟨i + 1, by omega, by go_num, by rw [HNm.out], by rw [HM1.out]; go_num, HP⟩
                case measure => simp [intOf]; omega
              · have hyes : a ≤ i ∧ i < b := by have h := HIn.out; simpa using h
                have HCv : Hid (cutL c.vs (cntE md (c.ds.take a)) (cntE md (c.ds.take (min (i + 1) b))) = cutL c.vs (cntE md (c.ds.take a)) (cntE md (c.ds.take (min i b))) ++ [x]) := (by
                  show _ = _
                  rw [cutV_in c.vs md c.ds hyes.1 hyes.2 hlt2 HDM.out (by rw [HMm.out]; exact hmv), HXE.out]
                  congr 2
                  simp only [HMm.out])
                clear hyes p0 p1 p2 p3 p4 k0 k1 k2 k3 hd d0 d1 d2
                obtain ⟨w3, HW3⟩ : ∃ w3, Hid (w2.drewN nq = w3) := ⟨_, rfl⟩
                rw [HW3.out] at HI3
                rw [HW3.out]
                clear HI2
                have hy := HI3.out.fr.box HY.out (by omega) (by decide)
                have hx := HI3.out.fr.box HX.out (by omega) (by decide)
                obtain ⟨⟨p0, p1, p2, p3, p4⟩, _⟩ := row_five hx
                obtain ⟨k0, k1, k2, k3⟩ := row_four hy
                have hat := HAT.out w3 HI3.out.fr
                rw [HRA.out] at k1
                rw [HDA.out] at k2
                have hd : ∀ o', o' = dO + i → w3.cell? ⟨db, o', none⟩ = some (.int .i64 d) := fun o' ho => by
                  obtain ⟨b', o'', e, h⟩ := lies_ints hat.d i hlt2
                  rw [HDA.out] at e; injection e with e; injection e with e1 e2 _; subst e1 e2 ho; rw [HDE.out]; exact h
                have hd := hd _ rfl
                clear hx hy hat
                have hat := HAT.out w3 HI3.out.fr
                obtain ⟨vb, vo, hva, d0, d1, d2⟩ := hat.v m hmv
                rw [← HXE.out] at d0 d1 d2
                rw [hva] at k3
                clear hat hva
                go_upto_region 15 with fail
                go_cut [] (fun wx => Hid (PoI W w0 c.id md c a b (i + 1) (i + 1) (i + 1) wx))
                case first =>
                  obtain ⟨rv, dv, vv, hI⟩ := HI3.out.acc
                  obtain ⟨ra, rc, rfl⟩ := own_slC hI.rrow
                  obtain ⟨da, dc, rfl⟩ := own_slC hI.drow
                  obtain ⟨va, vc, rfl⟩ := own_slC hI.vrow
                  obtain ⟨g0, g1, g2, g3⟩ := row_four hI.cell
                  obtain ⟨f0, f1, f2, f3⟩ := row_fourA hI.cell
                  obtain ⟨y0, y1, y2, y3⟩ := row_four (blk_alloc (o' := .cells #[.int .i64 x.k, .int .i64 x.n, .string x.s] 55) hI.cell)
                  have HBa : Hid (Below w3.heap.size w3 (w3.alloc (.cells #[.int .i64 x.k, .int .i64 x.n, .string x.s] 55)).drew) := ((Below.refl _ _).alloc (Nat.le_refl _) _).drew
                  have HAa : Hid _ := hI.stay HBa.out
                  have HDa : Hid (DFr (W.heap.size + 1 + 1 + 1) (W.heap.size + 1 + 1 + 1 + 1) w0 _) := HI3.out.fr.trans (.of_below HBa.out)
                  have hs1 : W.heap.size + 1 + 1 + 1 + 1 ≤ w3.heap.size := Nat.le_trans HSz.out HI3.out.fr.size
                  have hl1 : (cutL c.vs (cntE md (c.ds.take a)) (cntE md (c.ds.take (min i b)))).length ≤ 20000 := HLen.out
                  clear hI
                  go_wp2_with fail
                  go_region_law (refine step_append_any _ rfl _ _ 25 rfl (W.heap.size + 1 + 1 + 1 + 1) 55 iw (.agg #[.int .i64 0, .int .i64 0, .string ⟨#[]⟩]) 3 32 Tryz.underlying25 hwi hw0 hw1 hw2 rfl (by decide) _ _ (vcells (cutL c.vs (cntE md (c.ds.take a)) (cntE md (c.ds.take (min i b))))) rfl HAa.out.vrow (some ⟨w3.heap.size, 0, none⟩) 1 1 (vcells [x]) rfl rfl (fun j u hu => ⟨_, rfl, (show (w3.alloc _).cell? _ = some u from cell_new_v _ x j u hu)⟩) (one_v _) (by unfold maxLen; omega) (by omega) (by simp; omega) ?_; intro v1 x1 hown1 hg1 hw1; obtain ⟨e1, e2, e3⟩ := AcI.appV HAa.out hown1 hg1 hw1; obtain ⟨a1, c1, rfl⟩ := own_slC hown1; have HA1 : Hid _ := e2; have HD1 : Hid (DFr (W.heap.size + 1 + 1 + 1) (W.heap.size + 1 + 1 + 1 + 1) w0 _) := HDa.out.trans e3; clear hown1 hg1 hw1 e2 e3 g0 g1 g2 g3 f0 f1 f2 f3; obtain ⟨g0, g1, g2, g3⟩ := row_four e1; obtain ⟨f0, f1, f2, f3⟩ := row_fourA e1; clear e1)
                  all_goals
                    go_wp2_with fail
                    go_meet
                    exact ⟨⟨_, _, _, by rw [HCv.out]; exact HA1.out⟩, HD1.out⟩
                case rest =>
                  have HI4 : Hid _ := hcut
                  go_wp2
                  go_roundw
                  case rel => exact ⟨i + 1, by omega, by go_num, by rw [HNm.out], by rw [HM1.out]; go_num, HI4⟩
                  case measure => simp [intOf]; omega
            · have q : (d == md) = false := by simp [hdm]
              have HDM : Hid (c.ds[i] ≠ md) := (by show _ ≠ _; rw [← HDE.out]; exact hdm)
              have HM1 : Hid (cntE md (c.ds.take (i + 1)) = m) := (by show _ = _; rw [HM.out, if_neg hdm]; rfl)
              clear hdm
              go_wp2_with fail
              go_quiet (fail)
              have HP : Hid (PoI W w0 c.id md c a b (i + 1) (i + 1) (i + 1) _) := ⟨by rw [cutV_out c.vs md c.ds hlt2 (.inr HDM.out)]; exact (HI2.out.keep (below_dQ (Below.refl _ _) nq)).acc, (HI2.out.keep (below_dQ (Below.refl _ _) nq)).fr⟩
              go_wp2
              go_roundw
              case rel => exact ⟨i + 1, by omega, by go_num, by rw [HNm.out], by rw [HM1.out], HP⟩
              case measure => simp [intOf]; omega
    · obtain rfl : i = c.rs.length := by omega
      obtain ⟨rv, dv, vv, hI⟩ := HI.out.acc
      rw [HLn.out, Nat.min_eq_right (by rw [← HLn.out]; exact HSB.out.1)] at hI
      obtain ⟨ra, rc, rfl⟩ := own_slC hI.rrow
      obtain ⟨da, dc, rfl⟩ := own_slC hI.drow
      obtain ⟨va, vc, rfl⟩ := own_slC hI.vrow
      have HA : Hid _ := hI
      obtain ⟨g0, g1, g2, g3⟩ := row_four hI.cell
      have hz := HI.out.fr.box HZ.out (by omega) (by decide)
      obtain ⟨z0, z1, z2, z3⟩ := row_four hz
      obtain ⟨f0, f1, f2, f3⟩ := row_fourA hz
      have HZr : Hid _ := hz
      clear hz hI
      go_wp2
      have f1' : ∀ p, ra = some p → W.heap.size + 1 + 1 < p.block := fun p hp => by have := own_fresh HA.out.rrow rfl p hp; omega
      have f2' : ∀ p, da = some p → W.heap.size + 1 + 1 < p.block := fun p hp => by have := own_fresh HA.out.drow rfl p hp; omega
      have f3' : ∀ p, va = some p → W.heap.size + 1 + 1 < p.block := fun p hp => by have := own_fresh HA.out.vrow rfl p hp; omega
      have l1 : Lies wr ra (i64s (cutL c.rs a b)) := by
        obtain ⟨a', c', he, hl⟩ := lies_own HA.out.rrow
        injection he with e1 _ _; subst e1; exact hl
      have l2 : Lies wr da (i64s (cutL c.ds a b)) := by
        obtain ⟨a', c', he, hl⟩ := lies_own HA.out.drow
        injection he with e1 _ _; subst e1; exact hl
      have l3 : LiesV wr va (cutL c.vs (cntE md (c.ds.take a)) (cntE md (c.ds.take b))) := by
        obtain ⟨a', c', he, hl⟩ := liesV_own HA.out.vrow
        injection he with e1 _ _; subst e1; exact hl
      have hbw : Below W.heap.size W wr := HB.out.trans (HI.out.fr.below HB.out.size (by omega) (by omega))
      exact bodyPost_ret (v := .agg #[.int .i64 c.id, .slice ra (cutL c.rs a b).length rc, .slice da (cutL c.ds a b).length dc, .slice va (cutL c.vs (cntE md (c.ds.take a)) (cntE md (c.ds.take b))).length vc]) (results_cell_row Tryz.results16 _ _ (W.heap.size + 1 + 1) 27 #[.int .i64 c.id, .slice ra (cutL c.rs a b).length rc, .slice da (cutL c.ds a b).length dc, .slice va (cutL c.vs (cntE md (c.ds.take a)) (cntE md (c.ds.take b))).length vc] (0, 0) _ rfl (row_setCell (row_setCell (row_setCell (row_setCell HZr.out _) _) _) _) Tryz.underlying27 rfl (by kernel_rfl)) rfl ⟨⟨⟨c.id, ra, cutL c.rs a b, rc, da, cutL c.ds a b, dc, va, cutL c.vs (cntE md (c.ds.take a)) (cntE md (c.ds.take b)), vc⟩, rfl, ⟨(((l1.off f1').off f1').off f1').off f1', (((l2.off f2').off f2').off f2').off f2', (((l3.off f3').off f3').off f3').off f3'⟩, rfl, rfl, rfl, rfl⟩, (((hbw.setCell (by simp; omega) _).setCell (by simp; omega) _).setCell (by simp; omega) _).setCell (by simp; omega) _⟩
end Go.Proofs.YtcejgakjgcniiaaGreatDoor
