/-
  The least and the greatest of values.
  shred.Join, walked.
-/
import Derived.Test.YthlnjnoeaicjjaaDoorQBLess
import Derived.Test.YthlnjnoeaicjjaaDoorQStOf
import Derived.Test.YthlnjnoeaicjjaaDoorQColT
namespace Go.Proofs.YthlnjnoeaicjjaaDoor
open Go.RowKit
theorem okV_kind {k : Int} {v : Vl} (h : okV k v.k v.n v.s.size = true) : v.k = k := (okV_iff.1 h).1
theorem lss_tri {a b : Vl} (ha : a.Low) (hb : b.Low) (k : Int) (o1 : okV k a.k a.n a.s.size = true) (o2 : okV k b.k b.n b.s.size = true) : (lss a b && lss b a) = false ∧ ((lss a b || lss b a) = true ↔ a ≠ b) := by
  obtain ⟨ak, an, asx⟩ := a
  obtain ⟨bk, bn, bsx⟩ := b
  have e1 := okV_kind (v := ⟨ak, an, asx⟩) o1
  have e2 := okV_kind (v := ⟨bk, bn, bsx⟩) o2
  simp only at e1 e2 o1 o2
  subst e1
  subst e2
  have h := vless_tri _ an bn asx bsx ha hb (okV_iff.1 o1) (okV_iff.1 o2)
  refine ⟨h.1, h.2.trans ?_⟩
  simp
theorem lss_same {a b : Vl} (ha : a.Low) (hb : b.Low) (k : Int) (o1 : okV k a.k a.n a.s.size = true) (o2 : okV k b.k b.n b.s.size = true) (h1 : lss a b = false) (h2 : lss b a = false) : a = b := by
  have h := (lss_tri ha hb k o1 o2).2
  rw [h1, h2] at h
  exact Classical.byContradiction fun hn => by have := h.2 hn; cases this
theorem lss_irr {a : Vl} (ha : a.Low) (k : Int) (o1 : okV k a.k a.n a.s.size = true) : lss a a = false := by
  have h := (lss_tri ha ha k o1 o1).1
  rwa [Bool.and_self] at h
/-- A right value of a kind. -/
def Rv (k : Int) (v : Vl) : Prop := okV k v.k v.n v.s.size = true ∧ v.Low
theorem Rv.tri {k : Int} {a b : Vl} (ha : Rv k a) (hb : Rv k b) : (lss a b && lss b a) = false ∧ ((lss a b || lss b a) = true ↔ a ≠ b) := lss_tri ha.2 hb.2 k ha.1 hb.1
theorem Rv.same {k : Int} {a b : Vl} (ha : Rv k a) (hb : Rv k b) (h1 : lss a b = false) (h2 : lss b a = false) : a = b := lss_same ha.2 hb.2 k ha.1 hb.1 h1 h2
theorem Rv.irr {k : Int} {a : Vl} (ha : Rv k a) : lss a a = false := lss_irr ha.2 k ha.1
theorem Rv.trans {k : Int} {a b c : Vl} (ha : Rv k a) (hb : Rv k b) (hc : Rv k c) (h1 : lss a b = true) (h2 : lss b c = true) : lss a c = true := by
  have e1 := okV_kind ha.1
  have e2 := okV_kind hb.1
  have e3 := okV_kind hc.1
  unfold lss at *
  rw [e1, e2] at h1
  rw [e2, e3] at h2
  rw [e1, e3]
  exact vless_trans k _ _ _ _ _ _ h1 h2
/-- a is at most b, b at most c. -/
theorem Rv.le {k : Int} {a b c : Vl} (ha : Rv k a) (hb : Rv k b) (hc : Rv k c) (h1 : lss b a = false) (h2 : lss c b = false) : lss c a = false := by
  cases h : lss c a
  · rfl
  · cases h3 : lss a b
    · have e := Rv.same ha hb h3 h1
      rw [e, h2] at h
      exact h.symm
    · have h4 := Rv.trans hc ha hb h h3
      rw [h2] at h4
      exact h4.symm
theorem Rv.asym {k : Int} {a b : Vl} (ha : Rv k a) (hb : Rv k b) (h : lss a b = true) : lss b a = false := by
  have h1 := (Rv.tri ha hb).1
  rw [h, Bool.true_and] at h1
  exact h1
/-- The least and the greatest of values. -/
structure Ends (l : List Vl) (m x : Vl) : Prop where
  mi : m ∈ l
  mb : ∀ y ∈ l, lss y m = false
  xi : x ∈ l
  xb : ∀ y ∈ l, lss x y = false
theorem Ends.one {k : Int} {l : List Vl} {m x m' x' : Vl} (hl : ∀ y ∈ l, Rv k y) (h : Ends l m x) (h' : Ends l m' x') : m = m' ∧ x = x' :=
  ⟨Rv.same (hl _ h.mi) (hl _ h'.mi) (h'.mb _ h.mi) (h.mb _ h'.mi), Rv.same (hl _ h.xi) (hl _ h'.xi) (h.xb _ h'.xi) (h'.xb _ h.xi)⟩
/-- Two together. -/
theorem Ends.app {k : Int} {l l' : List Vl} {m x m' x' : Vl} (hl : ∀ y ∈ l, Rv k y) (hl' : ∀ y ∈ l', Rv k y) (h : Ends l m x) (h' : Ends l' m' x') : Ends (l ++ l') (if lss m' m then m' else m) (if lss x x' then x' else x) := by
  refine ⟨?_, fun y hy => ?_, ?_, fun y hy => ?_⟩
  · split
    · exact List.mem_append.2 (.inr h'.mi)
    · exact List.mem_append.2 (.inl h.mi)
  · rcases List.mem_append.1 hy with hy | hy
    · cases hc : lss m' m
      · simpa using h.mb y hy
      · have h1 := Rv.asym (hl' _ h'.mi) (hl _ h.mi) hc
        simpa using Rv.le (hl' _ h'.mi) (hl _ h.mi) (hl _ hy) h1 (h.mb y hy)
    · cases hc : lss m' m
      · simpa using Rv.le (hl _ h.mi) (hl' _ h'.mi) (hl' _ hy) hc (h'.mb y hy)
      · simpa using h'.mb y hy
  · split
    · exact List.mem_append.2 (.inr h'.xi)
    · exact List.mem_append.2 (.inl h.xi)
  · rcases List.mem_append.1 hy with hy | hy
    · cases hc : lss x x'
      · simpa using h.xb y hy
      · have h1 := Rv.asym (hl _ h.xi) (hl' _ h'.xi) hc
        simpa using Rv.le (hl _ hy) (hl _ h.xi) (hl' _ h'.xi) (h.xb y hy) h1
    · cases hc : lss x x'
      · simpa using Rv.le (hl' _ hy) (hl' _ h'.xi) (hl _ h.xi) (h'.xb y hy) hc
      · simpa using h'.xb y hy
theorem Ends.single {k : Int} {v : Vl} (h : Rv k v) : Ends [v] v v := ⟨by simp, fun y hy => by simp at hy; subst hy; exact h.irr, by simp, fun y hy => by simp at hy; subst hy; exact h.irr⟩
/-- Of tells the ends. -/
theorem ofK_ends {k : Int} (c : Cl) (hc : ∀ y ∈ c.vs, Rv k y) : ∀ i, 0 < i → i ≤ c.vs.length → (ofK c i).h = true ∧ Ends (c.vs.take i) (ofK c i).mn (ofK c i).mx
  | 1, _, h1 => by
    rw [ofK_succ c h1]
    have e : c.vs.take 1 = [c.vs[0]] := by rw [List.take_succ_eq_append_getElem h1]; rfl
    rw [e]
    exact ⟨rfl, Ends.single (hc _ (List.getElem_mem _))⟩
  | i + 2, _, h1 => by
    obtain ⟨h2, h3⟩ := ofK_ends c hc (i + 1) (by omega) (by omega)
    rw [ofK_succ c h1, List.take_succ_eq_append_getElem h1]
    have h4 := h3.app (fun y hy => hc y (List.mem_of_mem_take hy)) (fun y hy => by simp at hy; subst hy; exact hc _ (List.getElem_mem _)) (Ends.single (hc _ (List.getElem_mem h1)))
    unfold St.around
    simp only [h2, Bool.not_true, Bool.false_or]
    exact ⟨trivial, h4⟩
theorem ofC_ends {k : Int} (c : Cl) (hc : ∀ y ∈ c.vs, Rv k y) (h : 0 < c.vs.length) : (ofC c).h = true ∧ Ends c.vs (ofC c).mn (ofC c).mx := by
  have h1 := ofK_ends c hc c.vs.length h (Nat.le_refl _)
  have e : ofK c c.vs.length = ofC c := by unfold ofK ofC; rw [List.take_length]
  rw [e, List.take_length] at h1
  exact h1
theorem ofC_none (c : Cl) (h : c.vs.length = 0) : ofC c = ⟨(c.rs.length : Nat), (c.rs.length : Int) - (c.vs.length : Nat), false, Vl.zero, Vl.zero⟩ := by
  unfold ofC
  rw [List.eq_nil_of_length_eq_zero h]
  rfl
end Go.Proofs.YthlnjnoeaicjjaaDoor

namespace Go.Proofs.YthlnjnoeaicjjaaDoor
open Go.RowKit
/-- What Join answers; the rows are new, and have room. -/
def JnRetC (N : Nat) (lid kind mr md : Int) (cs : List Cl) (sv kv bv : Value) (e : Ending) (w' : World) : Prop :=
  (∃ i, ∃ h : i < cs.length, (∀ j (h : j < cs.length), j < i → GoodC lid kind mr md cs[j]) ∧ BadRet N lid kind mr md cs[i] sv kv e w') ∨
  ((∀ j (h : j < cs.length), GoodC lid kind mr md cs[j]) ∧ 20000 < (jR cs).length ∧ e = .returned (.tuple #[zeroC, bv])) ∨
  ((∀ j (h : j < cs.length), GoodC lid kind mr md cs[j]) ∧ (jR cs).length ≤ 20000 ∧ ∃ k : Cl, e = .returned (.tuple #[k.val, .nilIface]) ∧ k.At w' ∧ k.id = lid ∧ k.rs = jR cs ∧ k.ds = jD cs ∧ k.vs = jV cs ∧ k.Cap ∧ k.Fr N)
/-- What Join's boxes hold. -/
structure JbI (W : World) (lid kind mr md : Int) (pa : Option Addr) (pn pc : Nat) (X : World) : Prop where
  lf : X.heap[W.heap.size]? = some (.cells #[.int .i64 lid, .int .i64 kind, .int .i64 mr, .int .i64 md, .slice pa pn pc] 48 (0, 0))
  re : X.heap[W.heap.size + 1]? = some (.cells #[.int .i64 0, .slice none 0 0, .slice none 0 0, .slice none 0 0] 44 (0, 0))
  old : Below W.heap.size W X
theorem JbI.keep {W : World} {lid kind mr md : Int} {pa : Option Addr} {pn pc : Nat} {X w' : World} (h : JbI W lid kind mr md pa pn pc X) (hb : Below X.heap.size X w') : JbI W lid kind mr md pa pn pc w' :=
  ⟨blk_keep hb h.lf, blk_keep hb h.re, h.old.trans (hb.mono h.old.size)⟩
set_option maxRecDepth 100000 in
set_option maxHeartbeats 6400000 in
theorem join_cap (lid kind mr md : Int) (pa : Option Addr) (pn pc : Nat) (a : Option Addr) (c : Nat) (cs : List Cl) (W : World) (st kt bt : TypeId) (sp kp bp : Value)
    (hn : cs.length ≤ 1048576) (hjr : (jR cs).length ≤ 1048576) (hjd : (jD cs).length ≤ 1048576) (hjv : (jV cs).length ≤ 1048576) (hca : ∀ j (h : j < cs.length), cs[j].rs.length ≤ 1048576 ∧ cs[j].ds.length ≤ 1048576 ∧ cs[j].vs.length ≤ 1048576)
    (hs : W.cell? ⟨3, 0, none⟩ = some (.iface st sp)) (hk : W.cell? ⟨1, 0, none⟩ = some (.iface kt kp)) (hbd : W.cell? ⟨2, 0, none⟩ = some (.iface bt bp)) (hl : LiesC W a cs) :
    Calls Tryd.prog 17 #[leafV lid kind mr md pa pn pc, .slice a cs.length c] W fun e w' => JnRetC W.heap.size lid kind mr md cs (.iface st sp) (.iface kt kp) (.iface bt bp) e w' ∧ Below W.heap.size W w' := by
  unfold leafV
  obtain ⟨w0, HW0, HX, HY, HB⟩ := two_boxes W #[.int .i64 lid, .int .i64 kind, .int .i64 mr, .int .i64 md, .slice pa pn pc] #[.int .i64 0, .slice none 0 0, .slice none 0 0, .slice none 0 0] 48 44
  have HI0 : Hid (JbI W lid kind mr md pa pn pc w0) := ⟨HX.out, HY.out, HB.out⟩
  have HL : Hid (∀ X, JbI W lid kind mr md pa pn pc X → LiesC X a cs) := fun X hX => hl.keep hX.old
  have HS : Hid (∀ X, JbI W lid kind mr md pa pn pc X → X.cell? ⟨3, 0, none⟩ = some (.iface st sp)) := fun X hX => ckB hs hX.old
  have HK : Hid (∀ X, JbI W lid kind mr md pa pn pc X → X.cell? ⟨1, 0, none⟩ = some (.iface kt kp)) := fun X hX => ckB hk hX.old
  have HBD : Hid (∀ X, JbI W lid kind mr md pa pn pc X → X.cell? ⟨2, 0, none⟩ = some (.iface bt bp)) := fun X hX => ckB hbd hX.old
  have HCA : Hid _ := hca
  have hgN : 2 < W.heap.size := World.block_lt_of_cell? W _ hbd
  have hgN1 : ¬ (2 = W.heap.size + 1) := by omega
  have hgN2 : ¬ (W.heap.size = 2 - 1) := by omega
  simp only [Nat.reduceSub] at hgN2
  clear hl hs hk hbd HX HY HB hca hgN
  go_enter Tryd.func17, Tryd.ntmps17
  go_wp2
  rw [HW0.out]
  go_loopw [6, 12] (fun y x wr => ∃ i : Nat, i ≤ cs.length ∧ x = .int .i64 i ∧ y = .int .i64 ((jR (cs.take i)).length : Nat) ∧ Hid (∀ j (h : j < cs.length), j < i → GoodC lid kind mr md cs[j]) ∧ Hid (JbI W lid kind mr md pa pn pc wr)) (fun _ x _ => cs.length - (intOf x).toNat)
  case atStart => exact ⟨0, Nat.zero_le _, rfl, rfl, fun j _ h => absurd h (Nat.not_lt_zero _), HI0⟩
  case round =>
    clear HI0
    obtain ⟨i, hi, rfl, rfl, HG, HI⟩ := hrel
    obtain ⟨⟨p0, p1, p2, p3, p4⟩, _⟩ := row_five HI.out.lf
    obtain ⟨z0, z1, z2, z3⟩ := row_four HI.out.re
    obtain ⟨f0, f1, f2, f3⟩ := row_fourA HI.out.re
    have hjl := jR_le cs i
    obtain ⟨n, HN⟩ : ∃ n, Hid ((jR (cs.take i)).length = n) := ⟨_, rfl⟩
    by_cases hlt : i < cs.length
    · have HN1 : Hid ((jR (cs.take (i + 1))).length = n + cs[i].rs.length) := (by show _ = _; rw [jR_succ hlt, List.length_append, HN.out])
      have hjl2 := jR_le cs (i + 1)
      rw [HN1.out] at hjl2
      rw [HN.out] at hjl ⊢
      obtain ⟨⟨b, o, rfl, c0, c1, c2, c3⟩, hat⟩ := HL.out wr HI.out i hlt
      have HB0 : Hid (Below wr.heap.size wr (wr.alloc (.cells #[.int .i64 cs[i].id, .slice cs[i].ra cs[i].rs.length cs[i].rc, .slice cs[i].da cs[i].ds.length cs[i].dc, .slice cs[i].va cs[i].vs.length cs[i].vc] 44))) := (Below.refl _ _).alloc (Nat.le_refl _) _
      have HI0 : Hid (JbI W lid kind mr md pa pn pc _) := HI.out.keep HB0.out
      have HC0 : Hid _ := heap_alloc_new wr (.cells #[.int .i64 cs[i].id, .slice cs[i].ra cs[i].rs.length cs[i].rc, .slice cs[i].da cs[i].ds.length cs[i].dc, .slice cs[i].va cs[i].vs.length cs[i].vc] 44)
      have HA0 : Hid _ := hat.keep HB0.out
      obtain ⟨hc1, hc2, hc3⟩ := HCA.out i hlt
      have HEC : Hid (∀ j (h : j < cs.length), j = i → cs[j] = cs[i]) := fun j h e => by subst e; rfl
      clear hat p0 p1 p2 p3 p4
      obtain ⟨⟨p0, p1, p2, p3, p4⟩, _⟩ := row_five HI0.out.lf
      have HCk : Hid _ := scheck_any lid kind mr md cs[i].id pa cs[i].ra cs[i].da cs[i].va pn pc cs[i].rc cs[i].dc cs[i].vc cs[i].rs cs[i].ds cs[i].vs _ st kt sp kp hc1 hc2 hc3 (HS.out _ HI0.out) (HK.out _ HI0.out) HA0.out.r HA0.out.d HA0.out.v
      have HGi : Hid (GoodC lid kind mr md cs[i] → ∀ j (h : j < cs.length), j < i + 1 → GoodC lid kind mr md cs[j]) := fun hg j h hj => by
        by_cases e : j = i
        · subst e; exact hg
        · exact HG.out j h (by omega)
      have HBi : Hid (∀ e w', BadRet W.heap.size lid kind mr md cs[i] (.iface st sp) (.iface kt kp) e w' → JnRetC W.heap.size lid kind mr md cs (.iface st sp) (.iface kt kp) (.iface bt bp) e w') := fun e w' h => .inl ⟨i, hlt, HG.out, h⟩
      generalize cs[i] = k at *
      go_wp2_with fail
      refine Calls.mono HCk.out ?_
      rintro e w1 ⟨hck, hb1⟩
      have HI1 : Hid (JbI W lid kind mr md pa pn pc w1) := HI0.out.keep hb1
      have HC1 : Hid _ := blk_keep hb1 HC0.out
      have HSz : Hid (W.heap.size + 1 < wr.heap.size) := lt_of_block HI.out.re
      clear p0 p1 p2 p3 p4 z0 z1 z2 z3 f0 f1 f2 f3 hb1
      obtain ⟨z0, z1, z2, z3⟩ := row_four HI1.out.re
      obtain ⟨f0, f1, f2, f3⟩ := row_fourA HI1.out.re
      obtain ⟨d0, d1, d2, d3⟩ := row_four HC1.out
      rcases hck with ⟨hb, rfl⟩ | ⟨hg, ⟨hall, rfl⟩ | ⟨p, hp, hbad, hf, q, hqn, rfl, hq0, hq1⟩⟩
      · have HBd : Hid _ := hb
        clear hb
        go_wp2
        exact bodyPost_ret (v := .tuple #[zeroC, .iface st sp]) (results_cR Tryd.results17 _ _ (W.heap.size + 1) 44 #[.int .i64 0, .slice none 0 0, .slice none 0 0, .slice none 0 0] (0, 0) _ (.iface st sp) rfl rfl (row_setCell (row_setCell (row_setCell (row_setCell HI1.out.re _) _) _) _) Tryd.underlying44 rfl (by kernel_rfl)) rfl ⟨HBi.out _ _ (.inl ⟨HBd.out, rfl⟩), (((HI1.out.old.setCell (by simp) _).setCell (by simp) _).setCell (by simp) _).setCell (by simp) _⟩
      · have HGo : Hid _ := HGi.out ⟨hg, hall⟩
        clear hg hall
        go_wp2
        go_roundw
        case rel => exact ⟨i + 1, by omega, by go_num, by rw [HN1.out]; go_num, HGo, HI1⟩
        case measure => simp [intOf]; omega
      · have HGd : Hid _ := hg
        have HQ0 : Hid _ := hq0
        have HQ1 : Hid _ := hq1
        have HBa : Hid _ := hbad
        have HF : Hid _ := hf
        have HQN : Hid (W.heap.size + 1 < q) := (by have := HSz.out; have h2 := HB0.out.size; show _ < _; omega)
        clear hg hq0 hq1 hbad hf hqn
        go_wp2
        have hoff : ∀ (X : World) (o j : Nat) (v : Value), (X.setCell ⟨W.heap.size + 1, j, none⟩ v).cell? ⟨q, o, none⟩ = X.cell? ⟨q, o, none⟩ := fun X o j v => cell_off (by have := HQN.out; omega)
        exact bodyPost_ret (v := .tuple #[zeroC, .iface 76 (.pointer (some ⟨q, 0, none⟩))]) (results_cR Tryd.results17 _ _ (W.heap.size + 1) 44 #[.int .i64 0, .slice none 0 0, .slice none 0 0, .slice none 0 0] (0, 0) _ (.iface 76 (.pointer (some ⟨q, 0, none⟩))) rfl rfl (row_setCell (row_setCell (row_setCell (row_setCell HI1.out.re _) _) _) _) Tryd.underlying44 rfl (by kernel_rfl)) rfl ⟨HBi.out _ _ (.inr ⟨HGd.out, p, hp, HBa.out, HF.out, q, (by have := HQN.out; omega), rfl, by rw [hoff, hoff, hoff, hoff]; exact HQ0.out, by rw [hoff, hoff, hoff, hoff]; exact HQ1.out⟩), (((HI1.out.old.setCell (by simp) _).setCell (by simp) _).setCell (by simp) _).setCell (by simp) _⟩
    · obtain rfl : i = cs.length := by omega
      have HGa : Hid (∀ j (h : j < cs.length), GoodC lid kind mr md cs[j]) := fun j h => HG.out j h h
      have HNe : Hid ((jR cs).length = n) := (by have h := HN.out; rw [List.take_length] at h; exact h)
      rw [HN.out]
      have hbe := HBD.out _ HI.out
      by_cases hm : 20000 < n
      · have q1 : decide ((20000 : Int) < (n : Int)) = true := by rw [decide_eq_true_iff]; omega
        go_wp2_with fail
        go_region
        all_goals
          go_wp2
          exact bodyPost_ret (v := .tuple #[zeroC, .iface bt bp]) (results_cR Tryd.results17 _ _ (W.heap.size + 1) 44 #[.int .i64 0, .slice none 0 0, .slice none 0 0, .slice none 0 0] (0, 0) _ (.iface bt bp) rfl rfl (blk_drew (row_setCell (row_setCell (row_setCell (row_setCell HI.out.re _) _) _) _)) Tryd.underlying44 rfl (by kernel_rfl)) rfl ⟨.inr (.inl ⟨HGa.out, by rw [HNe.out]; exact hm, rfl⟩), ((((HI.out.old.setCell (by simp) _).setCell (by simp) _).setCell (by simp) _).setCell (by simp) _).drew⟩
      · have q1 : decide ((20000 : Int) < (n : Int)) = false := by rw [decide_eq_false_iff_not]; omega
        have hmn : n ≤ 20000 := by omega
        clear hm
        go_wp2_with fail
        refine (joined_nc lid kind mr md pa pn pc a cs.length c cs wr hn hjr hjd hjv (HL.out _ HI.out) rfl).mono ?_
        rintro e xj ⟨⟨⟨kid, kra, krs, krc, kda, kds, kdc, kva, kvs, kvc⟩, rfl, kat, kfr, rfl, rfl, rfl, rfl, kcap⟩, hbj⟩
        have HKA : Hid _ := kat
        have HKF : Hid _ := kfr
        have HKC : Hid _ := kcap
        have HBJ : Hid _ := hbj
        clear kat kfr kcap hbj z0 z1 z2 z3 f0 f1 f2 f3
        obtain ⟨z0, z1, z2, z3⟩ := row_four (blk_keep HBJ.out HI.out.re)
        obtain ⟨f0, f1, f2, f3⟩ := row_fourA (blk_keep HBJ.out HI.out.re)
        go_wp2
        have hgN : W.heap.size + 1 < wr.heap.size := lt_of_block HI.out.re
        have hol : Below W.heap.size W xj := HI.out.old.trans (HBJ.out.mono (by omega))
        exact bodyPost_ret (v := .tuple #[.agg #[.int .i64 kid, .slice kra (jR cs).length krc, .slice kda (jD cs).length kdc, .slice kva (jV cs).length kvc], .nilIface]) (results_cR Tryd.results17 _ _ (W.heap.size + 1) 44 #[.int .i64 kid, .slice kra (jR cs).length krc, .slice kda (jD cs).length kdc, .slice kva (jV cs).length kvc] (0, 0) _ .nilIface rfl rfl (row_setCell (row_setCell (row_setCell (row_setCell (blk_keep HBJ.out HI.out.re) _) _) _) _) Tryd.underlying44 rfl (by kernel_rfl)) rfl ⟨.inr (.inr ⟨HGa.out, by rw [HNe.out]; exact hmn, ⟨kid, kra, jR cs, krc, kda, jD cs, kdc, kva, jV cs, kvc⟩, rfl, (((HKA.out.off HKF.out hgN).off HKF.out hgN).off HKF.out hgN).off HKF.out hgN, rfl, rfl, rfl, rfl, HKC.out, HKF.out.low HI.out.old.size⟩), (((hol.setCell (by simp) _).setCell (by simp) _).setCell (by simp) _).setCell (by simp) _⟩
end Go.Proofs.YthlnjnoeaicjjaaDoor
