/-
  stats.Of, walked.
-/
import Derived.Test.YthlnjnoeaicjjaaDoorPStAr
namespace Go.Proofs.YthlnjnoeaicjjaaDoor
open Go.RowKit
def zCl : Cl := ⟨0, none, [], 0, none, [], 0, none, [], 0⟩
/-- What Part of all records answers. -/
def PaR (N : Nat) (lid kind mr md : Int) (c : Cl) (sv kv : Value) (k : Cl) (ev : Value) (w : World) : Prop :=
  ((isLfB kind mr md && fitB lid mr md c.id c.rs c.ds c.vs.length) = false ∧ k = zCl ∧ ev = sv) ∨
  ((isLfB kind mr md && fitB lid mr md c.id c.rs c.ds c.vs.length) = true ∧ (∃ p : Nat, ∃ hp : p < c.vs.length, badV kind c.vs[p] = true ∧ (∀ j (h : j < c.vs.length), j < p → badV kind c.vs[j] = false) ∧ ∃ q, N ≤ q ∧ k = zCl ∧ ev = .iface 76 (.pointer (some ⟨q, 0, none⟩)) ∧ w.cell? ⟨q, 0, none⟩ = some (.int .i64 p) ∧ w.cell? ⟨q, 1, none⟩ = some kv)) ∨
  (GoodC lid kind mr md c ∧ ev = .nilIface ∧ k.At w ∧ k.Fr N ∧ k.rs = c.rs ∧ k.ds = c.ds ∧ k.vs = c.vs)
theorem PaR.off {N : Nat} {lid kind mr md : Int} {c : Cl} {sv kv : Value} {k : Cl} {ev : Value} {w : World} (h : PaR N lid kind mr md c sv kv k ev w) {g j : Nat} {v : Value} (hg : g < N) : PaR N lid kind mr md c sv kv k ev (w.setCell ⟨g, j, none⟩ v) := by
  rcases h with h | ⟨h0, p, hp, h1, h2, q, h3, h4, h5, h6, h7⟩ | ⟨h1, h2, h3, h4, h5⟩
  · exact .inl h
  · exact .inr (.inl ⟨h0, p, hp, h1, h2, q, h3, h4, h5, by rw [cell_off (by omega)]; exact h6, by rw [cell_off (by omega)]; exact h7⟩)
  · exact .inr (.inr ⟨h1, h2, h3.off h4 hg, h4, h5⟩)
theorem PaR.keep {N : Nat} {lid kind mr md : Int} {c : Cl} {sv kv : Value} {k : Cl} {ev : Value} {w w' : World} (h : PaR N lid kind mr md c sv kv k ev w) (hb : Below w.heap.size w w') : PaR N lid kind mr md c sv kv k ev w' := by
  rcases h with h | ⟨h0, p, hp, h1, h2, q, h3, h4, h5, h6, h7⟩ | ⟨h1, h2, h3, h4, h5⟩
  · exact .inl h
  · exact .inr (.inl ⟨h0, p, hp, h1, h2, q, h3, h4, h5, (hb.cell (World.block_lt_of_cell? w _ h6)).trans h6, (hb.cell (World.block_lt_of_cell? w _ h7)).trans h7⟩)
  · exact .inr (.inr ⟨h1, h2, h3.keep hb, h4, h5⟩)
theorem PaR.low {N M : Nat} {lid kind mr md : Int} {c : Cl} {sv kv : Value} {k : Cl} {ev : Value} {w : World} (h : PaR N lid kind mr md c sv kv k ev w) (hm : M ≤ N) : PaR M lid kind mr md c sv kv k ev w := by
  rcases h with h | ⟨h0, p, hp, h1, h2, q, h3, h4⟩ | ⟨h1, h2, h3, h4, h5⟩
  · exact .inl h
  · exact .inr (.inl ⟨h0, p, hp, h1, h2, q, Nat.le_trans hm h3, h4⟩)
  · exact .inr (.inr ⟨h1, h2, h3, h4.low hm, h5⟩)
theorem stAt_zero {rs : List Int} {a : Nat} (hh : headB rs = false) (h : StAt rs 0 a) : a = 0 := by
  rcases Nat.eq_zero_or_pos a with h0 | h0
  · exact h0
  · exfalso
    have h1 := h.2.1 0 h0
    have hl := h.1
    match rs, hh, h1, hl with
    | [], _, _, hl => simp at hl; omega
    | x :: xs, hh, h1, _ =>
      have hx : x = 0 := by unfold headB at hh; simpa using hh
      subst hx
      simp [cntE] at h1
theorem stAt_all {rs : List Int} {b : Nat} (h : StAt rs (cntE 0 rs : Nat) b) : b = rs.length := by
  rcases Nat.lt_or_ge b rs.length with h0 | h0
  · exfalso
    have h1 := h.2.2 h0
    have h2 := cntE_all 0 rs (b + 1)
    omega
  · have := h.1; omega
theorem cutL_all {α : Type} (l : List α) (n : Nat) (h : n = l.length) : cutL l 0 n = l := by subst h; simp [cutL]
theorem part_all (lid kind mr md : Int) (pa : Option Addr) (pn pc : Nat) (c : Cl) (W : World) (st kt bt : TypeId) (sp kp bp : Value)
    (hn : c.rs.length ≤ 1048576) (hn2 : c.ds.length ≤ 1048576) (hv : c.vs.length ≤ 1048576) (hcr : c.rs.length ≤ c.rc) (hcd : c.ds.length ≤ c.dc) (hcv : c.vs.length ≤ c.vc)
    (hs : W.cell? ⟨3, 0, none⟩ = some (.iface st sp)) (hk : W.cell? ⟨1, 0, none⟩ = some (.iface kt kp)) (hbd : W.cell? ⟨2, 0, none⟩ = some (.iface bt bp)) (hat : c.At W) :
    Calls Tryd.prog 26 #[leafV lid kind mr md pa pn pc, c.val, .int .i64 0, .int .i64 (cntE 0 c.rs : Nat)] W fun e w' => (∃ (k : Cl) (ev : Value), e = .returned (.tuple #[.agg #[.int .i64 k.id, .slice k.ra k.rs.length k.rc, .slice k.da k.ds.length k.dc, .slice k.va k.vs.length k.vc], ev]) ∧ PaR W.heap.size lid kind mr md c (.iface st sp) (.iface kt kp) k ev w') ∧ Below W.heap.size W w' := by
  refine (part_any lid kind mr md 0 (cntE 0 c.rs : Nat) pa pn pc c W st kt bt sp kp bp hn hn2 hv hcr hcd hcv hs hk hbd hat).mono ?_
  rintro e w' ⟨h, hb⟩
  refine ⟨?_, hb⟩
  rcases h with (⟨h1, rfl⟩ | ⟨h1, p, hp, h2, h3, q, h4, rfl, h5, h6⟩) | ⟨_, h, _⟩ | ⟨hg, _, k, a, b, rfl, hk1, hk2, ha, hb2, _, e1, e2, e3⟩
  · exact ⟨zCl, _, rfl, .inl ⟨h1, rfl, rfl⟩⟩
  · exact ⟨zCl, _, rfl, .inr (.inl ⟨h1, p, hp, h2, h3, q, h4, rfl, rfl, h5, h6⟩)⟩
  · exact absurd (⟨by omega, by omega, by omega⟩) h
  · have hf := hg.1
    rw [Bool.and_eq_true, fitB_iff] at hf
    obtain ⟨_, _, f2, f3, _, _, f6⟩ := hf
    obtain rfl := stAt_zero f3 ha
    obtain rfl := stAt_all hb2
    refine ⟨k, .nilIface, rfl, .inr (.inr ⟨hg, rfl, hk1, hk2, ?_, ?_, ?_⟩)⟩
    · rw [e1, cutL_all _ _ rfl]
    · rw [e2, cutL_all _ _ f2]
    · rw [e3, f2, List.take_length, List.take_zero, show cntE md [] = 0 from rfl, cutL_all _ _ f6.symm]
/-- Of, as a function. -/
def ofC (c : Cl) : St := c.vs.foldl (fun s v => s.around v v) ⟨(c.rs.length : Nat), (c.rs.length : Int) - (c.vs.length : Nat), false, Vl.zero, Vl.zero⟩
/-- What Of answers. -/
def OfR (N : Nat) (lid kind mr md : Int) (c : Cl) (sv kv : Value) (s : St) (ev : Value) (w : World) : Prop :=
  ((isLfB kind mr md && fitB lid mr md c.id c.rs c.ds c.vs.length) = false ∧ s = St.zero ∧ ev = sv) ∨
  ((isLfB kind mr md && fitB lid mr md c.id c.rs c.ds c.vs.length) = true ∧ (∃ p : Nat, ∃ hp : p < c.vs.length, badV kind c.vs[p] = true ∧ (∀ j (h : j < c.vs.length), j < p → badV kind c.vs[j] = false) ∧ ∃ q, N ≤ q ∧ s = St.zero ∧ ev = .iface 76 (.pointer (some ⟨q, 0, none⟩)) ∧ w.cell? ⟨q, 0, none⟩ = some (.int .i64 p) ∧ w.cell? ⟨q, 1, none⟩ = some kv)) ∨
  (GoodC lid kind mr md c ∧ ev = .nilIface ∧ s = ofC c)
/-- What Of's boxes hold. -/
structure OfI (W : World) (lid kind mr md : Int) (pa : Option Addr) (pn pc : Nat) (c : Cl) (X : World) : Prop where
  lf : X.heap[W.heap.size]? = some (.cells #[.int .i64 lid, .int .i64 kind, .int .i64 mr, .int .i64 md, .slice pa pn pc] 48 (0, 0))
  co : X.heap[W.heap.size + 1]? = some (.cells #[.int .i64 c.id, .slice c.ra c.rs.length c.rc, .slice c.da c.ds.length c.dc, .slice c.va c.vs.length c.vc] 44 (0, 0))
  re : X.heap[W.heap.size + 1 + 1]? = some (.cells #[.int .i64 0, .int .i64 0, .bool false, .int .i64 0, .int .i64 0, .string ⟨#[]⟩, .int .i64 0, .int .i64 0, .string ⟨#[]⟩] 34 (0, 0))
  old : Below W.heap.size W X
theorem OfI.keep {W : World} {lid kind mr md : Int} {pa : Option Addr} {pn pc : Nat} {c : Cl} {X w' : World} (h : OfI W lid kind mr md pa pn pc c X) (hb : Below X.heap.size X w') : OfI W lid kind mr md pa pn pc c w' :=
  ⟨blk_keep hb h.lf, blk_keep hb h.co, blk_keep hb h.re, h.old.trans (hb.mono h.old.size)⟩
theorem OfI.put {W : World} {lid kind mr md : Int} {pa : Option Addr} {pn pc : Nat} {c : Cl} {X : World} (h : OfI W lid kind mr md pa pn pc c X) (k : Cl) : OfI W lid kind mr md pa pn pc k ((((X.setCell ⟨W.heap.size + 1, 0, none⟩ (.int .i64 k.id)).setCell ⟨W.heap.size + 1, 1, none⟩ (.slice k.ra k.rs.length k.rc)).setCell ⟨W.heap.size + 1, 2, none⟩ (.slice k.da k.ds.length k.dc)).setCell ⟨W.heap.size + 1, 3, none⟩ (.slice k.va k.vs.length k.vc)) :=
  ⟨blk_other (blk_other (blk_other (blk_other h.lf (by omega) _) (by omega) _) (by omega) _) (by omega) _, row_setCell (row_setCell (row_setCell (row_setCell h.co _) _) _) _, blk_other (blk_other (blk_other (blk_other h.re (by omega) _) (by omega) _) (by omega) _) (by omega) _, (((h.old.setCell (by simp) _).setCell (by simp) _).setCell (by simp) _).setCell (by simp) _⟩
/-- Of, up to a value. -/
def ofK (c : Cl) (i : Nat) : St := (c.vs.take i).foldl (fun s v => s.around v v) ⟨(c.rs.length : Nat), (c.rs.length : Int) - (c.vs.length : Nat), false, Vl.zero, Vl.zero⟩
theorem ofK_succ (c : Cl) {i : Nat} (h : i < c.vs.length) : ofK c (i + 1) = (ofK c i).around c.vs[i] c.vs[i] := by
  unfold ofK
  rw [List.take_succ_eq_append_getElem h, List.foldl_append]
  rfl
theorem Vl.zero_low : Vl.zero.Low := by unfold Vl.zero Vl.Low; simp
theorem St.Low.around {s : St} {l g : Vl} (h : s.Low) (hl : l.Low) (hg : g.Low) : (s.around l g).Low := by
  unfold St.around
  refine ⟨?_, ?_⟩
  · show Vl.Low (if _ then l else s.mn)
    split
    · exact hl
    · exact h.1
  · show Vl.Low (if _ then g else s.mx)
    split
    · exact hg
    · exact h.2
theorem ofK_low (c : Cl) (h : ∀ v ∈ c.vs, v.Low) : ∀ i, i ≤ c.vs.length → (ofK c i).Low
  | 0, _ => ⟨Vl.zero_low, Vl.zero_low⟩
  | i + 1, hi => by
    rw [ofK_succ c hi]
    have hx := h c.vs[i] (List.getElem_mem _)
    exact (ofK_low c h i (by omega)).around hx hx
set_option maxRecDepth 100000 in
set_option maxHeartbeats 6400000 in
theorem of_any (lid kind mr md : Int) (pa : Option Addr) (pn pc : Nat) (c : Cl) (W : World) (st kt bt : TypeId) (sp kp bp : Value)
    (hn : c.rs.length ≤ 1048576) (hn2 : c.ds.length ≤ 1048576) (hv : c.vs.length ≤ 1048576) (hcr : c.rs.length ≤ c.rc) (hcd : c.ds.length ≤ c.dc) (hcv : c.vs.length ≤ c.vc)
    (hs : W.cell? ⟨3, 0, none⟩ = some (.iface st sp)) (hk : W.cell? ⟨1, 0, none⟩ = some (.iface kt kp)) (hbd : W.cell? ⟨2, 0, none⟩ = some (.iface bt bp)) (hat : c.At W) (hlo : ∀ v ∈ c.vs, v.Low) :
    Calls Tryd.prog 14 #[leafV lid kind mr md pa pn pc, c.val] W fun e w' => (∃ (s : St) (ev : Value), e = .returned (.tuple #[s.val, ev]) ∧ OfR W.heap.size lid kind mr md c (.iface st sp) (.iface kt kp) s ev w') ∧ Below W.heap.size W w' := by
  unfold leafV Cl.val colV
  obtain ⟨w0, HW0, HX, HY, HZ, HB⟩ := three_boxes W #[.int .i64 lid, .int .i64 kind, .int .i64 mr, .int .i64 md, .slice pa pn pc] #[.int .i64 c.id, .slice c.ra c.rs.length c.rc, .slice c.da c.ds.length c.dc, .slice c.va c.vs.length c.vc] #[.int .i64 0, .int .i64 0, .bool false, .int .i64 0, .int .i64 0, .string ⟨#[]⟩, .int .i64 0, .int .i64 0, .string ⟨#[]⟩] 48 44 34
  have HI0 : Hid (OfI W lid kind mr md pa pn pc c w0) := ⟨HX.out, HY.out, HZ.out, HB.out⟩
  have HCt : Hid (∀ X, Below W.heap.size W X → Calls Tryd.prog 27 #[.agg #[.int .i64 c.id, .slice c.ra c.rs.length c.rc, .slice c.da c.ds.length c.dc, .slice c.va c.vs.length c.vc]] X fun e w' => e = .returned (.int .i64 (cntE 0 c.rs : Nat)) ∧ Below X.heap.size X w') := fun X hX => count_any c.id c.ra c.rs c.rc c.da c.ds.length c.dc c.va c.vs.length c.vc hn X (hat.keep hX).r
  have HPt : Hid (∀ X, Below W.heap.size W X → Calls Tryd.prog 26 #[.agg #[.int .i64 lid, .int .i64 kind, .int .i64 mr, .int .i64 md, .slice pa pn pc], .agg #[.int .i64 c.id, .slice c.ra c.rs.length c.rc, .slice c.da c.ds.length c.dc, .slice c.va c.vs.length c.vc], .int .i64 0, .int .i64 (cntE 0 c.rs : Nat)] X fun e w' => (∃ (k : Cl) (ev : Value), e = .returned (.tuple #[.agg #[.int .i64 k.id, .slice k.ra k.rs.length k.rc, .slice k.da k.ds.length k.dc, .slice k.va k.vs.length k.vc], ev]) ∧ PaR X.heap.size lid kind mr md c (.iface st sp) (.iface kt kp) k ev w') ∧ Below X.heap.size X w') := fun X hX => part_all lid kind mr md pa pn pc c X st kt bt sp kp bp hn hn2 hv hcr hcd hcv (ckB hs hX) (ckB hk hX) (ckB hbd hX) (hat.keep hX)
  have HLO : Hid _ := hlo
  clear hlo hat hs hk hbd HX HY HZ HB hcr hcd hcv
  go_enter Tryd.func14, Tryd.ntmps14
  go_upto_region 1 with fail
  rw [HW0.out]
  clear HW0
  obtain ⟨⟨p0, p1, p2, p3, p4⟩, _⟩ := row_five HI0.out.lf
  obtain ⟨k0, k1, k2, k3⟩ := row_four HI0.out.co
  obtain ⟨m0, m1, m2, m3⟩ := row_fourA HI0.out.co
  go_cut [6] (fun x wx => ∃ (k : Cl), Hid (OfI W lid kind mr md pa pn pc k wx) ∧ Hid (PaR W.heap.size lid kind mr md c (.iface st sp) (.iface kt kp) k x wx))
  case first =>
    have hbx : Below w0.heap.size w0 w0.drew := (Below.refl _ _).drew
    have hW0 : Below W.heap.size W w0.drew := HI0.out.old.drew
    go_region_law (first
      | (go_simp; go_at_call 27; (with_reducible refine Calls.mono (HCt.out _ hW0) ?_); rintro e w1 ⟨rfl, hb1⟩; have HI1 : Hid _ := HI0.out.keep (hbx.trans hb1); have hW1 : Below W.heap.size W w1 := HI1.out.old; clear p0 p1 p2 p3 p4 k0 k1 k2 k3 m0 m1 m2 m3 hb1; obtain ⟨⟨p0, p1, p2, p3, p4⟩, _⟩ := row_five HI1.out.lf; obtain ⟨k0, k1, k2, k3⟩ := row_four HI1.out.co; obtain ⟨m0, m1, m2, m3⟩ := row_fourA HI1.out.co)
      | (go_simp; go_at_call 26; (with_reducible refine Calls.mono (HPt.out _ hW1) ?_); rintro e w2 ⟨⟨⟨kid, kra, krs, krc, kda, kds, kdc, kva, kvs, kvc⟩, ev, rfl, hpr⟩, hb2⟩; have HI2 : Hid _ := HI1.out.keep hb2; have HPR : Hid (PaR w1.heap.size lid kind mr md c (.iface st sp) (.iface kt kp) ⟨kid, kra, krs, krc, kda, kds, kdc, kva, kvs, kvc⟩ ev w2) := hpr; clear p0 p1 p2 p3 p4 k0 k1 k2 k3 m0 m1 m2 m3 hb2 hpr; obtain ⟨k0, k1, k2, k3⟩ := row_four HI2.out.co; obtain ⟨m0, m1, m2, m3⟩ := row_fourA HI2.out.co))
    all_goals
      go_wp2
      go_meet
      have hlt : W.heap.size + 1 < w1.heap.size := lt_of_block HI1.out.co
      exact ⟨⟨kid, kra, krs, krc, kda, kds, kdc, kva, kvs, kvc⟩, OfI.put HI2.out _, ((((HPR.out.off hlt).off hlt).off hlt).off hlt).low (by omega)⟩
  case rest =>
    obtain ⟨k, HI, HPR⟩ := hcut
    rename Value => ev
    rename World => wx
    clear HI0 HCt HPt p0 p1 p2 p3 p4 k0 k1 k2 k3 m0 m1 m2 m3
    obtain ⟨z1, z2⟩ := row_nine HI.out.re
    obtain ⟨k0, k1, k2, k3⟩ := row_four HI.out.co
    have HPR2 : Hid _ := HPR
    rcases HPR.out with ⟨h1, h2, h3⟩ | ⟨h0, p, hp, h1, h2, q, h3, h4, h5, h6, h7⟩ | ⟨h1, h2, h3, h4, h5, h6, h7⟩
    · subst h3
      have HG : Hid _ := h1
      clear h1 h2 HPR HPR2
      go_wp2
      exact bodyPost_ret (v := .tuple #[St.zero.val, .iface st sp]) (results_cR Tryd.results14 _ _ (W.heap.size + 1 + 1) 34 #[.int .i64 0, .int .i64 0, .bool false, .int .i64 0, .int .i64 0, .string ⟨#[]⟩, .int .i64 0, .int .i64 0, .string ⟨#[]⟩] (0, 0) _ (.iface st sp) rfl rfl (set9_row HI.out.re _ _ _ _ _ _ _ _ _) Tryd.underlying34 rfl (by kernel_rfl)) rfl ⟨⟨St.zero, _, rfl, .inl ⟨HG.out, rfl, rfl⟩⟩, set9_below HI.out.old (by omega) _ _ _ _ _ _ _ _ _⟩
    · subst h5
      have HG : Hid _ := h0
      have H1 : Hid _ := h1
      have H2 : Hid _ := h2
      have H3 : Hid _ := h3
      have H6 : Hid _ := h6
      have H7 : Hid _ := h7
      have HQ : Hid (q ≠ W.heap.size + 1 + 1) := (fun e => by
        subst e
        have hz := (row_nine HI.out.re).1.2.1
        rw [h7] at hz
        cases hz)
      clear h0 h1 h2 h3 h4 h6 h7 HPR HPR2
      go_wp2
      have hoff : ∀ (X : World) (o j : Nat) (v : Value), (X.setCell ⟨W.heap.size + 1 + 1, j, none⟩ v).cell? ⟨q, o, none⟩ = X.cell? ⟨q, o, none⟩ := fun X o j v => cell_off HQ.out
      exact bodyPost_ret (v := .tuple #[St.zero.val, .iface 76 (.pointer (some ⟨q, 0, none⟩))]) (results_cR Tryd.results14 _ _ (W.heap.size + 1 + 1) 34 #[.int .i64 0, .int .i64 0, .bool false, .int .i64 0, .int .i64 0, .string ⟨#[]⟩, .int .i64 0, .int .i64 0, .string ⟨#[]⟩] (0, 0) _ (.iface 76 (.pointer (some ⟨q, 0, none⟩))) rfl rfl (set9_row HI.out.re _ _ _ _ _ _ _ _ _) Tryd.underlying34 rfl (by kernel_rfl)) rfl ⟨⟨St.zero, _, rfl, .inr (.inl ⟨HG.out, p, hp, H1.out, H2.out, q, H3.out, rfl, rfl, by rw [hoff, hoff, hoff, hoff, hoff, hoff, hoff, hoff, hoff]; exact H6.out, by rw [hoff, hoff, hoff, hoff, hoff, hoff, hoff, hoff, hoff]; exact H7.out⟩)⟩, set9_below HI.out.old (by omega) _ _ _ _ _ _ _ _ _⟩
    · subst h2
      obtain ⟨kid, kra, krs, krc, kda, kds, kdc, kva, kvs, kvc⟩ := k
      have HG : Hid _ := h1
      have h8 : krs = c.rs := h5
      have h9 : kvs = c.vs := h7
      have h10 : kds = c.ds := h6
      subst h8 h9 h10
      have HAV : Hid (LiesV wx kva c.vs) := h3.v
      clear h1 h3 h4 h5 h6 h7 HPR HPR2
      have hwr : IntKind.i64.wrap ((c.rs.length : Int) - (c.vs.length : Int)) = (c.rs.length : Int) - (c.vs.length : Int) := by rw [IntKind.wrap_i64]; omega
      go_upto_region 5 with fail
      obtain ⟨wy, HWY⟩ : ∃ w, Hid (wx.alloc (.cells #[.int .i64 (c.rs.length : Nat), .int .i64 ((c.rs.length : Int) - (c.vs.length : Int)), .bool false, .int .i64 0, .int .i64 0, .string ⟨#[]⟩, .int .i64 0, .int .i64 0, .string ⟨#[]⟩] 34) = w) := ⟨_, rfl⟩
      have HBZ : Hid (Below wx.heap.size wx wy) := (by show Below _ _ _; rw [← HWY.out]; exact (Below.refl _ _).alloc (Nat.le_refl _) _)
      have HSY : Hid (wy.heap[wx.heap.size]? = some (.cells (ofK c 0).cs 34 (0, 0))) := (by show _ = _; rw [← HWY.out]; exact heap_alloc_new wx _)
      rw [HWY.out]
      have HII : Hid (∀ X, Below wx.heap.size wx X → OfI W lid kind mr md pa pn pc ⟨kid, kra, c.rs, krc, kda, c.ds, kdc, kva, c.vs, kvc⟩ X ∧ LiesV X kva c.vs) := fun X hX => ⟨HI.out.keep hX, HAV.out.keep hX⟩
      have HGX : Hid (W.heap.size + 1 + 1 < wx.heap.size) := lt_of_block HI.out.re
      clear HWY HI HAV k0 k1 k2 k3 z1 z2 hwr
      generalize wx.heap.size = g at *
      obtain ⟨k0, k1, k2, k3⟩ := row_four (HII.out _ HBZ.out).1.co
      go_wp2
      go_loopw [36] (fun x wr => ∃ i : Nat, i ≤ c.vs.length ∧ x = .int .i64 i ∧ Hid (Below g wx wr) ∧ Hid (wr.heap[g]? = some (.cells (ofK c i).cs 34 (0, 0)))) (fun x _ => c.vs.length - (intOf x).toNat)
      case atStart => exact ⟨0, Nat.zero_le _, rfl, HBZ, HSY⟩
      case round =>
        obtain ⟨i, hi, rfl, HBW, HS⟩ := hrel
        clear HBZ HSY k0 k1 k2 k3
        have HI : Hid _ := (HII.out _ HBW.out).1
        by_cases hlt : i < c.vs.length
        · obtain ⟨b, o, rfl, c0, c1, c2⟩ := (HII.out _ HBW.out).2 i hlt
          have HK : Hid (ofK c (i + 1) = (ofK c i).around c.vs[i] c.vs[i]) := ofK_succ c hlt
          have HL : Hid ((ofK c i).Low) := ofK_low c HLO.out i hi
          have HV : Hid (c.vs[i].Low) := HLO.out _ (List.getElem_mem _)
          generalize c.vs[i] = v at *
          obtain ⟨s, HSs⟩ : ∃ s, Hid (ofK c i = s) := ⟨_, rfl⟩
          rw [HSs.out] at HK HL HS
          clear HSs
          have HB1 : Hid (Below wr.heap.size wr (wr.alloc (.cells #[.int .i64 v.k, .int .i64 v.n, .string v.s] 23))) := (Below.refl _ _).alloc (Nat.le_refl _) _
          have HS1 : Hid _ := blk_keep HB1.out HS.out
          obtain ⟨⟨s0, s1, s2, s3, s4, s5, s6, s7, s8⟩, _⟩ := st_row HS1.out
          go_wp2_with fail
          refine (around_x s v v _ HL.out HV.out HV.out).mono ?_
          rintro e w2 ⟨⟨t, HT, rfl⟩, hb2⟩
          have HB2 : Hid (Below wr.heap.size wr w2) := HB1.out.trans (hb2.mono HB1.out.size)
          have HS2 : Hid _ := blk_keep hb2 HS1.out
          clear hb2 s0 s1 s2 s3 s4 s5 s6 s7 s8 c0 c1 c2
          obtain ⟨⟨s0, s1, s2, s3, s4, s5, s6, s7, s8⟩, s9⟩ := st_row HS2.out
          have HLT : Hid (g < wr.heap.size) := lt_of_block HS.out
          go_wp2
          go_roundw
          case rel =>
            refine ⟨i + 1, by omega, by go_num, ?_, ?_⟩
            · exact set9_below (HBW.out.trans (HB2.out.mono (by have := HLT.out; omega))) (Nat.le_refl _) _ _ _ _ _ _ _ _ _
            · show _ = _
              rw [HK.out, ← HT.out]
              exact set9_row HS2.out _ _ _ _ _ _ _ _ _
          case measure => simp [intOf]; omega
        · obtain rfl : i = c.vs.length := by omega
          have HO : Hid (ofK c c.vs.length = ofC c) := (by show _ = _; unfold ofK ofC; rw [List.take_length])
          rw [HO.out] at HS
          obtain ⟨s, HSs⟩ : ∃ s, Hid (s = ofC c) := ⟨_, rfl⟩
          rw [← HSs.out] at HS
          obtain ⟨⟨s0, s1, s2, s3, s4, s5, s6, s7, s8⟩, s9⟩ := st_row HS.out
          obtain ⟨z1, z2⟩ := row_nine HI.out.re
          go_wp2
          exact bodyPost_ret (v := .tuple #[s.val, .nilIface]) (results_cR Tryd.results14 _ _ (W.heap.size + 1 + 1) 34 s.cs (0, 0) _ .nilIface rfl rfl (set9_row HI.out.re _ _ _ _ _ _ _ _ _) Tryd.underlying34 rfl (by kernel_rfl)) rfl ⟨⟨s, _, rfl, .inr (.inr ⟨HG.out, rfl, HSs.out⟩)⟩, set9_below HI.out.old (by omega) _ _ _ _ _ _ _ _ _⟩
end Go.Proofs.YthlnjnoeaicjjaaDoor
