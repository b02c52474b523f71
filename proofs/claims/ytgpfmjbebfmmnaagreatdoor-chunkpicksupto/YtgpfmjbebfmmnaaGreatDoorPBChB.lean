/-
  chunk.checkColumn: exact.
  Marks in a cell of the call's own.
  The reference's PartOf.
  Columns and leaves that came in, and how bulky they are.
  slim of stage 9's laws.
  The walk of the law StatsMerge.
-/
import Derived.Test.YtgpfmjbebfmmnaaGreatDoorPBColS
import Derived.Deep.DeepCutAuto
import Derived.Deep.RegionHeld3
import Derived.Deep.RegionLaw
import Derived.Test.YtgpfmjbebfmmnaaGreatDoorPBRefVals
import Derived.Test.YtgpfmjbebfmmnaaGreatDoorPOpenNode
import Derived.Test.YtgpfmjbebfmmnaaGreatDoorPBErrAs
namespace Go.Proofs.YtgpfmjbebfmmnaaGreatDoor
open Go.RowKit
structure ChI (W : World) (lid kind mr md : Int) (pa : Option Addr) (pn pc : Nat) (c : Cl) (X : World) : Prop where
 lf : X.heap[W.heap.size]? = some (.cells #[.int .i64 lid, .int .i64 kind, .int .i64 mr, .int .i64 md, .slice pa pn pc] 39 (0, 0))
 co : X.heap[W.heap.size + 1]? = some (.cells #[.int .i64 c.id, .slice c.ra c.rs.length c.rc, .slice c.da c.ds.length c.dc, .slice c.va c.vs.length c.vc] 27 (0, 0))
 old : Below W.heap.size W X
theorem ChI.keep {W X w' : World} {lid kind mr md : Int} {pa : Option Addr} {pn pc : Nat} {c : Cl} (h : ChI W lid kind mr md pa pn pc c X) (hb : Below X.heap.size X w') : ChI W lid kind mr md pa pn pc c w' := ⟨blk_keep hb h.lf, blk_keep hb h.co, h.old.trans (hb.mono h.old.size)⟩
def CkW (N : Nat) (lid kind mr md : Int) (c : Cl) (most : Int) (sv kv bv : Value) (ev : Value) (w : World) : Prop :=
 ((isLfB kind mr md && fitB lid mr md c.id c.rs c.ds c.vs.length) = false ∧ ev = sv) ∨
 ((isLfB kind mr md && fitB lid mr md c.id c.rs c.ds c.vs.length) = true ∧ (∃ p : Nat, ∃ hp : p < c.vs.length, badV kind c.vs[p] = true ∧ (∀ j (h : j < c.vs.length), j < p → badV kind c.vs[j] = false) ∧ ∃ q, N ≤ q ∧ ev = .iface 96 (.pointer (some ⟨q, 0, none⟩)) ∧ w.cell? ⟨q, 0, none⟩ = some (.int .i64 p) ∧ w.cell? ⟨q, 1, none⟩ = some kv)) ∨
 (GoodC lid kind mr md c ∧ c.rs = [] ∧ ev = sv) ∨
 (GoodC lid kind mr md c ∧ c.rs ≠ [] ∧ ¬ (1 ≤ most ∧ most ≤ 20000) ∧ ev = bv) ∨
 (GoodC lid kind mr md c ∧ c.rs ≠ [] ∧ (1 ≤ most ∧ most ≤ 20000) ∧ ev = .nilIface)
set_option maxRecDepth 100000 in
set_option maxHeartbeats 6400000 in
theorem checkColumn_any (lid kind mr md : Int) (pa : Option Addr) (pn pc : Nat) (c : Cl) (most : Int) (hbk : c.rs.length + c.ds.length + c.vs.length ≤ 2000) (hcr : c.rs.length ≤ c.rc) (hcd : c.ds.length ≤ c.dc) (hcv : c.vs.length ≤ c.vc) (W : World) (st kt bt : TypeId) (sp kp bp : Value) (hs : W.cell? ⟨0, 0, none⟩ = some (.iface st sp)) (hk : W.cell? ⟨3, 0, none⟩ = some (.iface kt kp)) (hbd : W.cell? ⟨1, 0, none⟩ = some (.iface bt bp)) (hat : c.At W) :
    Calls Tryz.prog 26 #[.agg #[.int .i64 lid, .int .i64 kind, .int .i64 mr, .int .i64 md, .slice pa pn pc], .agg #[.int .i64 c.id, .slice c.ra c.rs.length c.rc, .slice c.da c.ds.length c.dc, .slice c.va c.vs.length c.vc], .int .i64 most] W fun e w' => (∃ ev, e = .returned ev ∧ CkW W.heap.size lid kind mr md c most (.iface st sp) (.iface kt kp) (.iface bt bp) ev w') ∧ Below W.heap.size W w' := by
 obtain ⟨w0, HW0, HX, HY, HB⟩ := two_boxes W #[.int .i64 lid, .int .i64 kind, .int .i64 mr, .int .i64 md, .slice pa pn pc] #[.int .i64 c.id, .slice c.ra c.rs.length c.rc, .slice c.da c.ds.length c.dc, .slice c.va c.vs.length c.vc] 39 27
 have HI0 : Hid (ChI W lid kind mr md pa pn pc c w0) := ⟨HX.out, HY.out, HB.out⟩
 have hsz0 : W.heap.size ≤ w0.heap.size := HB.out.size
 have HCt : Hid (∀ X, Below w0.heap.size w0 X → Calls Tryz.prog 40 #[.agg #[.int .i64 c.id, .slice c.ra c.rs.length c.rc, .slice c.da c.ds.length c.dc, .slice c.va c.vs.length c.vc]] X fun e w' => e = .returned (.int .i64 (cntE 0 c.rs : Nat)) ∧ Below w0.heap.size w0 w' ∧ Below X.heap.size X w') := fun X hX => (count_any c.id c.ra c.rs c.rc c.da c.ds.length c.dc c.va c.vs.length c.vc (by omega) X (hat.keep (HB.out.trans (hX.mono hsz0))).r).mono fun e w' h => ⟨h.1, bel_next hX (Nat.le_refl _) h.2, h.2⟩
 have HPt : Hid (∀ X, Below w0.heap.size w0 X → Calls Tryz.prog 46 #[.agg #[.int .i64 lid, .int .i64 kind, .int .i64 mr, .int .i64 md, .slice pa pn pc], .agg #[.int .i64 c.id, .slice c.ra c.rs.length c.rc, .slice c.da c.ds.length c.dc, .slice c.va c.vs.length c.vc], .int .i64 0, .int .i64 (cntE 0 c.rs : Nat)] X fun e w' => (∃ (k : Cl) (ev : Value), e = .returned (.tuple #[.agg #[.int .i64 k.id, .slice k.ra k.rs.length k.rc, .slice k.da k.ds.length k.dc, .slice k.va k.vs.length k.vc], ev]) ∧ PaR X.heap.size lid kind mr md c (.iface st sp) (.iface kt kp) k ev w') ∧ Below w0.heap.size w0 w' ∧ Below X.heap.size X w') := fun X hX => (by
  have hX2 := HB.out.trans (hX.mono hsz0)
  exact (part_all lid kind mr md pa pn pc c X st kt bt sp kp bp (by omega) (by omega) (by omega) hcr hcd hcv (ckB hs hX2) (ckB hk hX2) (ckB hbd hX2) (hat.keep hX2)).mono fun e w' h => ⟨h.1, bel_next hX (Nat.le_refl _) h.2, h.2⟩)
 have HS : Hid (∀ X, Below W.heap.size W X → X.cell? ⟨0, 0, none⟩ = some (.iface st sp)) := fun X hX => ckB hs hX
 have HBd : Hid (∀ X, Below W.heap.size W X → X.cell? ⟨1, 0, none⟩ = some (.iface bt bp)) := fun X hX => ckB hbd hX
 clear HX HY HB hat hs hk hbd hcr hcd hcv
 go_enter Tryz.func26, Tryz.ntmps26
 go_upto_region 1 with fail
 rw [HW0.out]
 clear HW0
 obtain ⟨⟨p0, p1, p2, p3, p4⟩, _⟩ := row_five HI0.out.lf
 obtain ⟨k0, k1, k2, k3⟩ := row_four HI0.out.co
 go_cut [8] (fun x wx => Hid (ChI W lid kind mr md pa pn pc c wx) ∧ Hid (∃ k : Cl, PaR W.heap.size lid kind mr md c (.iface st sp) (.iface kt kp) k x wx))
 case first =>
  have b0 : Below w0.heap.size w0 w0 := Below.refl _ _
  have HN : Hid (∀ X, Below w0.heap.size w0 X → (X.cell? ⟨W.heap.size, 0, none⟩ = some (.int .i64 lid) ∧ X.cell? ⟨W.heap.size, 1, none⟩ = some (.int .i64 kind) ∧ X.cell? ⟨W.heap.size, 2, none⟩ = some (.int .i64 mr) ∧ X.cell? ⟨W.heap.size, 3, none⟩ = some (.int .i64 md) ∧ X.cell? ⟨W.heap.size, 4, none⟩ = some (.slice pa pn pc)) ∧ (X.cell? ⟨W.heap.size + 1, 0, none⟩ = some (.int .i64 c.id) ∧ X.cell? ⟨W.heap.size + 1, 1, none⟩ = some (.slice c.ra c.rs.length c.rc) ∧ X.cell? ⟨W.heap.size + 1, 2, none⟩ = some (.slice c.da c.ds.length c.dc) ∧ X.cell? ⟨W.heap.size + 1, 3, none⟩ = some (.slice c.va c.vs.length c.vc)) ∧ Below w0.heap.size w0 X) := fun X hX => ⟨(row_five (blk_keep hX HI0.out.lf)).1, row_four (blk_keep hX HI0.out.co), hX⟩
  go_region_held3 (fun X => (X.cell? ⟨W.heap.size, 0, none⟩ = some (.int .i64 lid) ∧ X.cell? ⟨W.heap.size, 1, none⟩ = some (.int .i64 kind) ∧ X.cell? ⟨W.heap.size, 2, none⟩ = some (.int .i64 mr) ∧ X.cell? ⟨W.heap.size, 3, none⟩ = some (.int .i64 md) ∧ X.cell? ⟨W.heap.size, 4, none⟩ = some (.slice pa pn pc)) ∧ (X.cell? ⟨W.heap.size + 1, 0, none⟩ = some (.int .i64 c.id) ∧ X.cell? ⟨W.heap.size + 1, 1, none⟩ = some (.slice c.ra c.rs.length c.rc) ∧ X.cell? ⟨W.heap.size + 1, 2, none⟩ = some (.slice c.da c.ds.length c.dc) ∧ X.cell? ⟨W.heap.size + 1, 3, none⟩ = some (.slice c.va c.vs.length c.vc)) ∧ Below w0.heap.size w0 X) (with_reducible refine HN.out _ ?_; repeat' (first | with_reducible assumption | with_reducible exact b0.drew | with_reducible exact b0 | with_reducible refine Below.drew ?_ | with_reducible exact Nat.le_refl _ | with_reducible refine Below.setCell ?_ ?_ _ | with_reducible refine Below.alloc ?_ ?_ _ | with_reducible exact Below.size (by assumption) | (simp; done) | (simp; omega) | omega)) (first
   | (go_at_call 40; (with_reducible refine Calls.mono (HCt.out _ ?_) ?_); (repeat' (first | with_reducible assumption | with_reducible exact b0.drew | with_reducible exact b0 | with_reducible refine Below.drew ?_ | with_reducible refine Below.alloc ?_ ?_ _ | with_reducible exact Below.size (by assumption) | with_reducible exact Nat.le_refl _ | (simp; done) | (simp; omega))); rintro e x1 ⟨rfl, hbx1, hraw1⟩; (first | (have hzz := blk_keep hraw1 hzz0; clear hzz0; have hzz0 := hzz; clear hzz) | (have hzz0 := blk_keep hraw1 (blk_drew (heap_alloc_new _ (.cells #[.int .i64 0, .slice none 0 0, .slice none 0 0, .slice none 0 0] 27)))) | (have hzz0 := blk_keep hraw1 (heap_alloc_new _ (.cells #[.int .i64 0, .slice none 0 0, .slice none 0 0, .slice none 0 0] 27))) | skip))
   | (go_at_call 46; (with_reducible refine Calls.mono (HPt.out _ ?_) ?_); (repeat' (first | with_reducible assumption | with_reducible exact b0.drew | with_reducible exact b0 | with_reducible refine Below.drew ?_ | with_reducible refine Below.alloc ?_ ?_ _ | with_reducible exact Below.size (by assumption) | with_reducible exact Nat.le_refl _ | (simp; done) | (simp; omega))); rintro e x2 ⟨⟨k, ev, rfl, hpr⟩, hbx2, hraw2⟩; have HPR : Hid (PaR _ lid kind mr md c (.iface st sp) (.iface kt kp) k ev x2) := hpr; have HBX2 : Hid (Below w0.heap.size w0 x2) := hbx2; clear hpr; (first | (have hzz := blk_keep hraw2 hzz0; clear hzz0; have hzz0 := hzz; clear hzz) | (have hzz0 := blk_keep hraw2 (blk_drew (heap_alloc_new _ (.cells #[.int .i64 0, .slice none 0 0, .slice none 0 0, .slice none 0 0] 27)))) | (have hzz0 := blk_keep hraw2 (heap_alloc_new _ (.cells #[.int .i64 0, .slice none 0 0, .slice none 0 0, .slice none 0 0] 27))) | skip); (first | (obtain ⟨z0, z1, z2, z3⟩ := row_four hzz0; obtain ⟨f0, f1, f2, f3⟩ := row_fourA hzz0; have HZZ : Hid _ := hzz0; clear hzz0) | skip)))
  all_goals
   go_wp2_with fail
   go_meet
   first
   | exact ⟨HI0.out.keep (HBX2.out.alloc HBX2.out.size _), k, (HPR.out.keep ((Below.refl _ _).alloc (Nat.le_refl _) _)).low (by first | (simp; omega) | exact Nat.le_trans hsz0 (Below.size (by assumption)))⟩
   | exact ⟨HI0.out.keep ((((HBX2.out.setCell (by first | exact Nat.le_refl _ | exact Below.size (by assumption)) _).setCell (by first | exact Nat.le_refl _ | exact Below.size (by assumption)) _).setCell (by first | exact Nat.le_refl _ | exact Below.size (by assumption)) _).setCell (by first | exact Nat.le_refl _ | exact Below.size (by assumption)) _), k, ((((HPR.out.off (by first | (simp; done) | (have hq := Below.size hraw1; simp at hq ⊢; omega))).off (by first | (simp; done) | (have hq := Below.size hraw1; simp at hq ⊢; omega))).off (by first | (simp; done) | (have hq := Below.size hraw1; simp at hq ⊢; omega))).off (by first | (simp; done) | (have hq := Below.size hraw1; simp at hq ⊢; omega))).low (by first | (simp; omega) | (have hq := Below.size hbx1; simp at hq ⊢; omega))⟩
 case rest =>
  obtain ⟨HI, HPR⟩ := hcut
  rename Value => ev
  rename World => wx
  clear HI0 HCt HPt p0 p1 p2 p3 p4 k0 k1 k2 k3
  obtain ⟨k0, k1, k2, k3⟩ := row_four HI.out.co
  have hes := HS.out wx HI.out.old
  have heb := HBd.out wx HI.out.old
  obtain ⟨k, hpr⟩ := HPR.out
  rcases hpr with ⟨h1, h2, h3⟩ | ⟨h0, p, hp, h1, h2, q, h3, h4, h5, h6, h7⟩ | ⟨h1, h2, _⟩
  · subst h3
    have HG : Hid _ := h1
    clear h1 h2 HPR
    go_wp2
    go_ret
    exact ⟨⟨_, rfl, .inl ⟨HG.out, rfl⟩⟩, HI.out.old⟩
  · subst h5
    have HG : Hid (CkW W.heap.size lid kind mr md c most (.iface st sp) (.iface kt kp) (.iface bt bp) (.iface 96 (.pointer (some ⟨q, 0, none⟩))) wx) := .inr (.inl ⟨h0, p, hp, h1, h2, q, h3, rfl, h6, h7⟩)
    clear h0 h1 h2 h3 h4 h6 h7 HPR
    go_wp2
    go_ret
    exact ⟨⟨_, rfl, HG.out⟩, HI.out.old⟩
  · subst h2
    have HG : Hid _ := h1
    clear h1 HPR
    by_cases e0 : c.rs = []
    · have q0 : (((c.rs.length : Nat) : Int) == 0) = true := by rw [e0]; rfl
      have HE0 : Hid _ := e0
      clear e0
      go_wp2
      go_ret
      exact ⟨⟨_, rfl, .inr (.inr (.inl ⟨HG.out, HE0.out, rfl⟩))⟩, HI.out.old⟩
    · have hpos : 0 < c.rs.length := List.length_pos_iff.2 e0
      have q0 : (((c.rs.length : Nat) : Int) == 0) = false := by simp; omega
      have HE0 : Hid _ := e0
      have q3 : decide (((c.rs.length : Nat) : Int) > 20000) = false := by simp; omega
      have q4 : decide ((20000 : Int) < ((c.rs.length : Nat) : Int)) = false := by simp; omega
      clear e0
      by_cases m1 : most < 1
      · have q1 : decide (most < 1) = true := decide_eq_true m1
        have HM : Hid (¬ (1 ≤ most ∧ most ≤ 20000)) := (by show ¬ _; omega)
        clear m1
        go_wp2
        go_ret
        exact ⟨⟨_, rfl, .inr (.inr (.inr (.inl ⟨HG.out, HE0.out, HM.out, rfl⟩)))⟩, HI.out.old⟩
      · have q1 : decide (most < 1) = false := decide_eq_false m1
        by_cases m2 : 20000 < most
        · have q2 : decide ((20000 : Int) < most) = true := decide_eq_true m2
          have q2' : decide (most > (20000 : Int)) = true := decide_eq_true m2
          have HM : Hid (¬ (1 ≤ most ∧ most ≤ 20000)) := (by show ¬ _; omega)
          clear m1 m2
          go_wp2
          go_ret
          exact ⟨⟨_, rfl, .inr (.inr (.inr (.inl ⟨HG.out, HE0.out, HM.out, rfl⟩)))⟩, HI.out.old⟩
        · have q2 : decide ((20000 : Int) < most) = false := decide_eq_false m2
          have q2' : decide (most > (20000 : Int)) = false := decide_eq_false m2
          have HM : Hid (1 ≤ most ∧ most ≤ 20000) := (by show _ ∧ _; omega)
          clear m1 m2
          go_wp2
          go_ret
          exact ⟨⟨_, rfl, .inr (.inr (.inr (.inr ⟨HG.out, HE0.out, HM.out, rfl⟩)))⟩, HI.out.old⟩
theorem row_oneC {w : World} {g e : Nat} {x : Value} (h : w.heap[g]? = some (.cells #[x] e (0, 0))) : w.cell? ⟨g, 0, none⟩ = some x ∧ w.frozen? ⟨g, 0, none⟩ = false := by
 constructor <;> simp [World.cell?, World.frozen?, h]
theorem row_setOneC {w : World} {g e : Nat} {x v : Value} (h : w.heap[g]? = some (.cells #[x] e (0, 0))) : (w.setCell ⟨g, 0, none⟩ v).heap[g]? = some (.cells #[v] e (0, 0)) := row_setCell h v
structure MFr (g1 g2 N : Nat) (W w' : World) : Prop where
 os : w'.os = W.os
 tape : w'.tape = W.tape
 output : w'.output = W.output
 size : W.heap.size ≤ w'.heap.size
 keep : ∀ k, k < W.heap.size → k ≠ g1 → k ≠ g2 → (N ≤ k → ∀ cs e z, W.heap[k]? = some (.cells cs e z) → e ≠ 56) → w'.heap[k]? = W.heap[k]?
theorem MFr.trans {g1 g2 N : Nat} {W w1 w2 : World} (h : MFr g1 g2 N W w1) (h2 : MFr g1 g2 N w1 w2) : MFr g1 g2 N W w2 :=
 ⟨h2.os.trans h.os, h2.tape.trans h.tape, h2.output.trans h.output, Nat.le_trans h.size h2.size, fun k hk hn1 hn2 ht => by
  have e := h.keep k hk hn1 hn2 ht
  rw [h2.keep k (Nat.lt_of_lt_of_le hk h.size) hn1 hn2 (fun hN cs e2 z hc => ht hN cs e2 z (e ▸ hc)), e]⟩
theorem MFr.of_below {g1 g2 N : Nat} {W w' : World} (hb : Below W.heap.size W w') : MFr g1 g2 N W w' := ⟨hb.os, hb.tape, hb.output, hb.size, fun k hk _ _ _ => hb.block k hk⟩
theorem MFr.below {g1 g2 N B : Nat} {W w' : World} (h : MFr g1 g2 N W w') (hB : B ≤ W.heap.size) (h1 : B ≤ g1) (h2 : B ≤ g2) (hN : B ≤ N) : Below B W w' := ⟨h.os, h.tape, h.output, h.size, fun k hk => h.keep k (by omega) (by omega) (by omega) (fun h2 => by omega)⟩
theorem MFr.box {g1 g2 N k : Nat} {W w' : World} {cs : Array Value} {e : TypeId} {z : Nat × Nat} (h : MFr g1 g2 N W w') (hk : W.heap[k]? = some (.cells cs e z)) (h1 : k ≠ g1) (h2 : k ≠ g2) (he : e ≠ 56) : w'.heap[k]? = some (.cells cs e z) :=
 (h.keep k (lt_of_block hk) h1 h2 (fun _ cs' e' z' hc => by rw [hc] at hk; injection hk with hk; injection hk with _ hk _; subst hk; exact he)).trans hk
structure MkS (gL g1 g2 N : Nat) (lid kind mr md : Int) (pa : Option Addr) (pn pc : Nat) (fst : Int) (lv : Value) (ms : List Mk) (X : World) : Prop where
 lf : X.heap[gL]? = some (.cells #[.int .i64 lid, .int .i64 kind, .int .i64 mr, .int .i64 md, .slice pa pn pc] 39 (0, 0))
 lc : X.heap[g1]? = some (.cells #[lv] 47 (0, 0))
 fc : X.heap[g2]? = some (.cells #[.int .i64 fst] 3 (0, 0))
 row : X.ownsRow N 56 13 lv ms.length (mkF ms)
theorem MkS.keep {gL g1 g2 N : Nat} {lid kind mr md : Int} {pa : Option Addr} {pn pc : Nat} {fst : Int} {lv : Value} {ms : List Mk} {X w' : World} (h : MkS gL g1 g2 N lid kind mr md pa pn pc fst lv ms X) (hb : Below X.heap.size X w') : MkS gL g1 g2 N lid kind mr md pa pn pc fst lv ms w' := ⟨blk_keep hb h.lf, blk_keep hb h.lc, blk_keep hb h.fc, ow_kept h.row hb⟩
theorem MkS.setF {gL g1 g2 N : Nat} {lid kind mr md : Int} {pa : Option Addr} {pn pc : Nat} {fst : Int} {lv : Value} {ms : List Mk} {X : World} (h : MkS gL g1 g2 N lid kind mr md pa pn pc fst lv ms X) (h1 : g2 ≠ g1) (h2 : g2 ≠ gL) (x : Int) : MkS gL g1 g2 N lid kind mr md pa pn pc x lv ms (X.setCell ⟨g2, 0, none⟩ (.int .i64 x)) ∧ MFr g1 g2 N X (X.setCell ⟨g2, 0, none⟩ (.int .i64 x)) := by
 have hset : ∀ k, k ≠ g2 → (X.setCell ⟨g2, 0, none⟩ (.int .i64 x)).heap[k]? = X.heap[k]? := fun k hk => Below.heap_setCell _ ⟨g2, 0, none⟩ _ _ hk
 refine ⟨⟨by rw [hset _ (Ne.symm h2)]; exact h.lf, by rw [hset _ (Ne.symm h1)]; exact h.lc, row_setOneC h.fc, own_same h.row fun k hk => hset k (fun e => ?_)⟩, ⟨rfl, rfl, rfl, by simp, fun k _ _ h4 _ => hset k h4⟩⟩
 subst e
 exact own_type h.row h.fc (by decide) hk.symm
theorem MkS.app {gL g1 g2 N : Nat} {lid kind mr md : Int} {pa : Option Addr} {pn pc : Nat} {fst : Int} {lv v1 : Value} {ms : List Mk} {m : Mk} {X x1 : World} (h : MkS gL g1 g2 N lid kind mr md pa pn pc fst lv ms X) (h1 : g1 ≠ g2) (h2 : g1 ≠ gL) (hown : x1.ownsRow N 56 13 v1 (ms.length + 1) (mkF ms ++ m.cs)) (hg : X.grownBy x1 lv.ownBlock) (hw : v1.ownBlock = lv.ownBlock ∨ v1.ownBlock = some X.heap.size) :
    x1.heap[g1]? = some (.cells #[lv] 47 (0, 0)) ∧ MkS gL g1 g2 N lid kind mr md pa pn pc fst v1 (ms ++ [m]) (x1.setCell ⟨g1, 0, none⟩ v1) ∧ MFr g1 g2 N X (x1.setCell ⟨g1, 0, none⟩ v1) := by
 have hkp : ∀ {k : Nat} {cs : Array Value} {e : TypeId}, X.heap[k]? = some (.cells cs e (0, 0)) → 56 ≠ e → x1.heap[k]? = some (.cells cs e (0, 0)) := fun hk he => by
  rw [hg.block _ (lt_of_block hk) (own_type h.row hk he)]
  exact hk
 have hset : ∀ k, k ≠ g1 → (x1.setCell ⟨g1, 0, none⟩ v1).heap[k]? = x1.heap[k]? := fun k hk => Below.heap_setCell _ ⟨g1, 0, none⟩ _ _ hk
 have hl := hkp h.lc (by decide)
 refine ⟨hl, ⟨by rw [hset _ (Ne.symm h2)]; exact hkp h.lf (by decide), row_setOneC hl, by rw [hset _ (Ne.symm h1)]; exact hkp h.fc (by decide), ?_⟩, ⟨hg.os, hg.tape, hg.output, by have := hg.size; simp; omega, fun k hk hn1 hn2 ht => ?_⟩⟩
 · rw [List.length_append, mkF_snoc]
   exact own_same hown fun k hk => hset k (fun e => by
    subst e
    rcases hw with e | e
    · exact own_type h.row h.lc (by decide) (hk.symm.trans e)
    · rw [e] at hk
      have := lt_of_block h.lc
      simp at hk
      omega)
 · rw [hset k hn1, hg.block k hk (fun e => ?_)]
   obtain ⟨q1, _, cs, q3⟩ := own_block h.row e.symm
   exact absurd rfl (ht q1 cs _ _ q3)
theorem row_mk {w : World} {g t : Nat} {x0 x1 x2 x3 x4 x5 x6 x7 x8 x9 xa xb xc : Value} (h : w.heap[g]? = some (.cells #[x0, x1, x2, x3, x4, x5, x6, x7, x8, x9, xa, xb, xc] t (0, 0))) :
    (w.cell? ⟨g, 0, none⟩ = some x0 ∧ w.cell? ⟨g, 1, none⟩ = some x1 ∧ w.cell? ⟨g, 2, none⟩ = some x2 ∧ w.cell? ⟨g, 3, none⟩ = some x3 ∧ w.cell? ⟨g, 4, none⟩ = some x4 ∧ w.cell? ⟨g, 5, none⟩ = some x5 ∧ w.cell? ⟨g, 6, none⟩ = some x6 ∧ w.cell? ⟨g, 7, none⟩ = some x7 ∧ w.cell? ⟨g, 8, none⟩ = some x8 ∧ w.cell? ⟨g, 9, none⟩ = some x9 ∧ w.cell? ⟨g, 10, none⟩ = some xa ∧ w.cell? ⟨g, 11, none⟩ = some xb ∧ w.cell? ⟨g, 12, none⟩ = some xc) ∧
    (w.frozen? ⟨g, 0, none⟩ = false ∧ w.frozen? ⟨g, 1, none⟩ = false ∧ w.frozen? ⟨g, 2, none⟩ = false ∧ w.frozen? ⟨g, 3, none⟩ = false ∧ w.frozen? ⟨g, 4, none⟩ = false ∧ w.frozen? ⟨g, 5, none⟩ = false ∧ w.frozen? ⟨g, 6, none⟩ = false ∧ w.frozen? ⟨g, 7, none⟩ = false ∧ w.frozen? ⟨g, 8, none⟩ = false ∧ w.frozen? ⟨g, 9, none⟩ = false ∧ w.frozen? ⟨g, 10, none⟩ = false ∧ w.frozen? ⟨g, 11, none⟩ = false ∧ w.frozen? ⟨g, 12, none⟩ = false) := by
 refine ⟨⟨?_, ?_, ?_, ?_, ?_, ?_, ?_, ?_, ?_, ?_, ?_, ?_, ?_⟩, ?_, ?_, ?_, ?_, ?_, ?_, ?_, ?_, ?_, ?_, ?_, ?_, ?_⟩ <;> first | simp [World.frozen?, h] | simp [World.cell?, h]
def set13 (w : World) (g : Nat) (y0 y1 y2 y3 y4 y5 y6 y7 y8 y9 y10 y11 y12 : Value) : World := ((((((((((((w.setCell ⟨g, 0, none⟩ y0).setCell ⟨g, 1, none⟩ y1).setCell ⟨g, 2, none⟩ y2).setCell ⟨g, 3, none⟩ y3).setCell ⟨g, 4, none⟩ y4).setCell ⟨g, 5, none⟩ y5).setCell ⟨g, 6, none⟩ y6).setCell ⟨g, 7, none⟩ y7).setCell ⟨g, 8, none⟩ y8).setCell ⟨g, 9, none⟩ y9).setCell ⟨g, 10, none⟩ y10).setCell ⟨g, 11, none⟩ y11).setCell ⟨g, 12, none⟩ y12
theorem set13_row {w : World} {g t : Nat} {x0 x1 x2 x3 x4 x5 x6 x7 x8 x9 x10 x11 x12 : Value} (h : w.heap[g]? = some (.cells #[x0, x1, x2, x3, x4, x5, x6, x7, x8, x9, x10, x11, x12] t (0, 0))) (y0 y1 y2 y3 y4 y5 y6 y7 y8 y9 y10 y11 y12 : Value) : (set13 w g y0 y1 y2 y3 y4 y5 y6 y7 y8 y9 y10 y11 y12).heap[g]? = some (.cells #[y0, y1, y2, y3, y4, y5, y6, y7, y8, y9, y10, y11, y12] t (0, 0)) := by
 have h0 : (w.setCell ⟨g, 0, none⟩ y0).heap[g]? = some (.cells #[y0, x1, x2, x3, x4, x5, x6, x7, x8, x9, x10, x11, x12] t (0, 0)) := row_setCell h y0
 have h1 : ((w.setCell ⟨g, 0, none⟩ y0).setCell ⟨g, 1, none⟩ y1).heap[g]? = some (.cells #[y0, y1, x2, x3, x4, x5, x6, x7, x8, x9, x10, x11, x12] t (0, 0)) := row_setCell h0 y1
 have h2 : (((w.setCell ⟨g, 0, none⟩ y0).setCell ⟨g, 1, none⟩ y1).setCell ⟨g, 2, none⟩ y2).heap[g]? = some (.cells #[y0, y1, y2, x3, x4, x5, x6, x7, x8, x9, x10, x11, x12] t (0, 0)) := row_setCell h1 y2
 have h3 : ((((w.setCell ⟨g, 0, none⟩ y0).setCell ⟨g, 1, none⟩ y1).setCell ⟨g, 2, none⟩ y2).setCell ⟨g, 3, none⟩ y3).heap[g]? = some (.cells #[y0, y1, y2, y3, x4, x5, x6, x7, x8, x9, x10, x11, x12] t (0, 0)) := row_setCell h2 y3
 have h4 : (((((w.setCell ⟨g, 0, none⟩ y0).setCell ⟨g, 1, none⟩ y1).setCell ⟨g, 2, none⟩ y2).setCell ⟨g, 3, none⟩ y3).setCell ⟨g, 4, none⟩ y4).heap[g]? = some (.cells #[y0, y1, y2, y3, y4, x5, x6, x7, x8, x9, x10, x11, x12] t (0, 0)) := row_setCell h3 y4
 have h5 : ((((((w.setCell ⟨g, 0, none⟩ y0).setCell ⟨g, 1, none⟩ y1).setCell ⟨g, 2, none⟩ y2).setCell ⟨g, 3, none⟩ y3).setCell ⟨g, 4, none⟩ y4).setCell ⟨g, 5, none⟩ y5).heap[g]? = some (.cells #[y0, y1, y2, y3, y4, y5, x6, x7, x8, x9, x10, x11, x12] t (0, 0)) := row_setCell h4 y5
 have h6 : (((((((w.setCell ⟨g, 0, none⟩ y0).setCell ⟨g, 1, none⟩ y1).setCell ⟨g, 2, none⟩ y2).setCell ⟨g, 3, none⟩ y3).setCell ⟨g, 4, none⟩ y4).setCell ⟨g, 5, none⟩ y5).setCell ⟨g, 6, none⟩ y6).heap[g]? = some (.cells #[y0, y1, y2, y3, y4, y5, y6, x7, x8, x9, x10, x11, x12] t (0, 0)) := row_setCell h5 y6
 have h7 : ((((((((w.setCell ⟨g, 0, none⟩ y0).setCell ⟨g, 1, none⟩ y1).setCell ⟨g, 2, none⟩ y2).setCell ⟨g, 3, none⟩ y3).setCell ⟨g, 4, none⟩ y4).setCell ⟨g, 5, none⟩ y5).setCell ⟨g, 6, none⟩ y6).setCell ⟨g, 7, none⟩ y7).heap[g]? = some (.cells #[y0, y1, y2, y3, y4, y5, y6, y7, x8, x9, x10, x11, x12] t (0, 0)) := row_setCell h6 y7
 have h8 : (((((((((w.setCell ⟨g, 0, none⟩ y0).setCell ⟨g, 1, none⟩ y1).setCell ⟨g, 2, none⟩ y2).setCell ⟨g, 3, none⟩ y3).setCell ⟨g, 4, none⟩ y4).setCell ⟨g, 5, none⟩ y5).setCell ⟨g, 6, none⟩ y6).setCell ⟨g, 7, none⟩ y7).setCell ⟨g, 8, none⟩ y8).heap[g]? = some (.cells #[y0, y1, y2, y3, y4, y5, y6, y7, y8, x9, x10, x11, x12] t (0, 0)) := row_setCell h7 y8
 have h9 : ((((((((((w.setCell ⟨g, 0, none⟩ y0).setCell ⟨g, 1, none⟩ y1).setCell ⟨g, 2, none⟩ y2).setCell ⟨g, 3, none⟩ y3).setCell ⟨g, 4, none⟩ y4).setCell ⟨g, 5, none⟩ y5).setCell ⟨g, 6, none⟩ y6).setCell ⟨g, 7, none⟩ y7).setCell ⟨g, 8, none⟩ y8).setCell ⟨g, 9, none⟩ y9).heap[g]? = some (.cells #[y0, y1, y2, y3, y4, y5, y6, y7, y8, y9, x10, x11, x12] t (0, 0)) := row_setCell h8 y9
 have h10 : (((((((((((w.setCell ⟨g, 0, none⟩ y0).setCell ⟨g, 1, none⟩ y1).setCell ⟨g, 2, none⟩ y2).setCell ⟨g, 3, none⟩ y3).setCell ⟨g, 4, none⟩ y4).setCell ⟨g, 5, none⟩ y5).setCell ⟨g, 6, none⟩ y6).setCell ⟨g, 7, none⟩ y7).setCell ⟨g, 8, none⟩ y8).setCell ⟨g, 9, none⟩ y9).setCell ⟨g, 10, none⟩ y10).heap[g]? = some (.cells #[y0, y1, y2, y3, y4, y5, y6, y7, y8, y9, y10, x11, x12] t (0, 0)) := row_setCell h9 y10
 have h11 : ((((((((((((w.setCell ⟨g, 0, none⟩ y0).setCell ⟨g, 1, none⟩ y1).setCell ⟨g, 2, none⟩ y2).setCell ⟨g, 3, none⟩ y3).setCell ⟨g, 4, none⟩ y4).setCell ⟨g, 5, none⟩ y5).setCell ⟨g, 6, none⟩ y6).setCell ⟨g, 7, none⟩ y7).setCell ⟨g, 8, none⟩ y8).setCell ⟨g, 9, none⟩ y9).setCell ⟨g, 10, none⟩ y10).setCell ⟨g, 11, none⟩ y11).heap[g]? = some (.cells #[y0, y1, y2, y3, y4, y5, y6, y7, y8, y9, y10, y11, x12] t (0, 0)) := row_setCell h10 y11
 have h12 : (((((((((((((w.setCell ⟨g, 0, none⟩ y0).setCell ⟨g, 1, none⟩ y1).setCell ⟨g, 2, none⟩ y2).setCell ⟨g, 3, none⟩ y3).setCell ⟨g, 4, none⟩ y4).setCell ⟨g, 5, none⟩ y5).setCell ⟨g, 6, none⟩ y6).setCell ⟨g, 7, none⟩ y7).setCell ⟨g, 8, none⟩ y8).setCell ⟨g, 9, none⟩ y9).setCell ⟨g, 10, none⟩ y10).setCell ⟨g, 11, none⟩ y11).setCell ⟨g, 12, none⟩ y12).heap[g]? = some (.cells #[y0, y1, y2, y3, y4, y5, y6, y7, y8, y9, y10, y11, y12] t (0, 0)) := row_setCell h11 y12
 exact h12
theorem set13_below {B g : Nat} {w X : World} (h : Below B w X) (hg : B ≤ g) (y0 y1 y2 y3 y4 y5 y6 y7 y8 y9 y10 y11 y12 : Value) : Below B w (set13 X g y0 y1 y2 y3 y4 y5 y6 y7 y8 y9 y10 y11 y12) :=
 ((((((((((((h.setCell hg _).setCell hg _).setCell hg _).setCell hg _).setCell hg _).setCell hg _).setCell hg _).setCell hg _).setCell hg _).setCell hg _).setCell hg _).setCell hg _).setCell hg _
theorem cutL_nil {α : Type} (xs : List α) {a m : Nat} (h : m ≤ a) : cutL xs a m = [] := by
 unfold cutL
 exact List.drop_eq_nil_of_le (by simp; omega)
theorem cutL_in {α : Type} (xs : List α) {a i b : Nat} (h : a ≤ i) (h2 : i < b) (h3 : i < xs.length) : cutL xs a (min (i + 1) b) = cutL xs a (min i b) ++ [xs[i]] := by
 rw [Nat.min_eq_left (by omega), Nat.min_eq_left (by omega), cutL, cutL, List.take_succ_eq_append_getElem h3, List.drop_append_of_le_length (by simp; omega)]
theorem cutL_out {α : Type} (xs : List α) {a i b : Nat} (h : ¬ (a ≤ i ∧ i < b)) : cutL xs a (min (i + 1) b) = cutL xs a (min i b) := by
 by_cases hb : b ≤ i
 · rw [Nat.min_eq_right hb, Nat.min_eq_right (by omega)]
 · rw [cutL_nil xs (by omega), cutL_nil xs (by omega)]
theorem cutV_in {α : Type} (vs : List α) (md : Int) (ds : List Int) {a i b : Nat} (h : a ≤ i) (h2 : i < b) (h3 : i < ds.length) (he : ds[i] = md) (hv : cntE md (ds.take i) < vs.length) : cutL vs (cntE md (ds.take a)) (cntE md (ds.take (min (i + 1) b))) = cutL vs (cntE md (ds.take a)) (cntE md (ds.take (min i b))) ++ [vs[cntE md (ds.take i)]] := by
 rw [Nat.min_eq_left (by omega), Nat.min_eq_left (by omega), cntE_succ md ds i h3, if_pos he, cutL, cutL, List.take_succ_eq_append_getElem hv, List.drop_append_of_le_length (by have := cntE_mono md ds h; simp; omega)]
theorem cutV_out {α : Type} (vs : List α) (md : Int) (ds : List Int) {a i b : Nat} (h3 : i < ds.length) (h : ¬ (a ≤ i ∧ i < b) ∨ ds[i] ≠ md) : cutL vs (cntE md (ds.take a)) (cntE md (ds.take (min (i + 1) b))) = cutL vs (cntE md (ds.take a)) (cntE md (ds.take (min i b))) := by
 by_cases hb : b ≤ i
 · rw [Nat.min_eq_right hb, Nat.min_eq_right (by omega)]
 · by_cases ha : a ≤ i
   · have he : ds[i] ≠ md := by
       rcases h with h | h
       · exact absurd ⟨ha, by omega⟩ h
       · exact h
     rw [Nat.min_eq_left (by omega), Nat.min_eq_left (by omega), cntE_succ md ds i h3, if_neg he, Nat.add_zero]
   · rw [cutL_nil vs (cntE_mono md ds (by omega)), cutL_nil vs (cntE_mono md ds (by omega))]
theorem StAt.iff {rs : List Int} {x : Int} {a i : Nat} (h : StAt rs x a) (hi : i < rs.length) : x < (cntE 0 (rs.take (i + 1)) : Int) ↔ a ≤ i := by
 constructor
 · intro hx
   rcases Nat.lt_or_ge i a with hlt | hge
   · have := h.2.1 i hlt; omega
   · exact hge
 · intro ha
   have h1 := h.2.2 (by omega)
   have h2 := cntE_mono 0 rs (a := a + 1) (b := i + 1) (by omega)
   omega
structure PoI (W w0 : World) (id md : Int) (c : Cl) (a b n m k : Nat) (wr : World) : Prop where
 acc : ∃ rv dv vv, AcI (W.heap.size + 1 + 1 + 1) (W.heap.size + 1 + 1 + 1 + 1) id rv (cutL c.rs a (min n b)) dv (cutL c.ds a (min m b)) vv (cutL c.vs (cntE md (c.ds.take a)) (cntE md (c.ds.take (min k b)))) wr
 fr : DFr (W.heap.size + 1 + 1 + 1) (W.heap.size + 1 + 1 + 1 + 1) w0 wr
theorem PoI.keep {W w0 : World} {id md : Int} {c : Cl} {a b n m k : Nat} {wr w' : World} (h : PoI W w0 id md c a b n m k wr) (hb : Below wr.heap.size wr w') : PoI W w0 id md c a b n m k w' := by
 obtain ⟨⟨rv, dv, vv, hI⟩, hd⟩ := h
 exact ⟨⟨rv, dv, vv, hI.stay hb⟩, hd.trans (.of_below hb)⟩
theorem cutL_le {α : Type} (xs : List α) (a b : Nat) : (cutL xs a b).length ≤ xs.length := by simp [cutL]; omega
theorem cell_new_v (w : World) (x : Vl) : ∀ j u, (vcells [x])[j]? = some u → (w.alloc (.cells #[.int .i64 x.k, .int .i64 x.n, .string x.s] 52)).cell? ((⟨w.heap.size, 0, none⟩ : Addr).add j) = some u := fun j u hu => by
 rw [addr_add, Nat.zero_add, cell_of_row _ w.heap.size j _ _ _ (heap_alloc_new _ _), ← hu]
 simp [vcells]
set_option maxRecDepth 100000 in
set_option maxHeartbeats 12800000 in
theorem partOf_f (lid kind mr md lo hi : Int) (pa : Option Addr) (pn pc : Nat) (c : Cl) (W : World) (a b : Nat)
    (hn : c.rs.length ≤ 20000) (hv : c.vs.length ≤ 20000) (hln : c.rs.length = c.ds.length) (hvn : c.vs.length = cntE md c.ds) (hsa : StAt c.rs lo a) (hsb : StAt c.rs hi b) (hat : c.At W) :
    Calls Tryz.prog 22 #[.agg #[.int .i64 lid, .int .i64 kind, .int .i64 mr, .int .i64 md, .slice pa pn pc], .agg #[.int .i64 c.id, .slice c.ra c.rs.length c.rc, .slice c.da c.ds.length c.dc, .slice c.va c.vs.length c.vc], .int .i64 lo, .int .i64 hi] W fun e w' => (∃ k : Cl, e = .returned (.agg #[.int .i64 k.id, .slice k.ra k.rs.length k.rc, .slice k.da k.ds.length k.dc, .slice k.va k.vs.length k.vc]) ∧ k.At w' ∧ k.Fr W.heap.size ∧ k.id = c.id ∧ k.rs = cutL c.rs a b ∧ k.ds = cutL c.ds a b ∧ k.vs = cutL c.vs (cntE md (c.ds.take a)) (cntE md (c.ds.take b))) ∧ Below W.heap.size W w' := by
 obtain ⟨iv, hvi, hv0, hv1, hv2⟩ := info_parts Tryz.info3
 obtain ⟨iw, hwi, hw0, hw1, hw2⟩ := info_parts Tryz.infoV
 obtain ⟨w0, HW0, HX, HY, HZ, HO, HB⟩ := four_boxes W #[.int .i64 lid, .int .i64 kind, .int .i64 mr, .int .i64 md, .slice pa pn pc] #[.int .i64 c.id, .slice c.ra c.rs.length c.rc, .slice c.da c.ds.length c.dc, .slice c.va c.vs.length c.vc] #[.int .i64 0, .slice none 0 0, .slice none 0 0, .slice none 0 0] #[.int .i64 c.id, .slice none 0 0, .slice none 0 0, .slice none 0 0] 24 27 27 27
 have HAT : Hid (∀ X, DFr (W.heap.size + 1 + 1 + 1) (W.heap.size + 1 + 1 + 1 + 1) w0 X → c.At X) := fun X hX => hat.keep (HB.out.trans (hX.below HB.out.size (by omega) (by omega)))
 have HSA : Hid (StAt c.rs lo a) := hsa
 have HSB : Hid (StAt c.rs hi b) := hsb
 have HLn : Hid _ := hln
 have HVn : Hid _ := hvn
 have HSz : Hid (W.heap.size + 1 + 1 + 1 + 1 ≤ w0.heap.size) := lt_of_block HO.out
 clear hat hsa hsb hln hvn
 obtain ⟨k0, k1, k2, k3⟩ := row_four (show (((W.alloc (.cells #[.int .i64 lid, .int .i64 kind, .int .i64 mr, .int .i64 md, .slice pa pn pc] 24)).alloc (.cells #[.int .i64 c.id, .slice c.ra c.rs.length c.rc, .slice c.da c.ds.length c.dc, .slice c.va c.vs.length c.vc] 27)).alloc (.cells #[.int .i64 0, .slice none 0 0, .slice none 0 0, .slice none 0 0] 27)).heap[W.heap.size + 1]? = some (.cells #[.int .i64 c.id, .slice c.ra c.rs.length c.rc, .slice c.da c.ds.length c.dc, .slice c.va c.vs.length c.vc] 27 (0, 0)) from by
  obtain ⟨w1, H1, _, H3, _, _⟩ := three_boxes W #[.int .i64 lid, .int .i64 kind, .int .i64 mr, .int .i64 md, .slice pa pn pc] #[.int .i64 c.id, .slice c.ra c.rs.length c.rc, .slice c.da c.ds.length c.dc, .slice c.va c.vs.length c.vc] #[.int .i64 0, .slice none 0 0, .slice none 0 0, .slice none 0 0] 24 27 27
  rw [H1.out]; exact H3.out)
 go_enter Tryz.func22, Tryz.ntmps22
 go_wp2
 rw [HW0.out]
 clear k0 k1 k2 k3
 go_loopw [10, 11, 12] (fun y z x wr => ∃ i : Nat, i ≤ c.rs.length ∧ x = .int .i64 i ∧ y = .int .i64 ((cntE 0 (c.rs.take i) : Nat) - 1) ∧ z = .int .i64 (cntE md (c.ds.take i) : Nat) ∧ Hid (PoI W w0 c.id md c a b i i i wr)) (fun _ _ x _ => c.rs.length - (intOf x).toNat)
 case atStart =>
  refine ⟨0, Nat.zero_le _, rfl, rfl, rfl, ⟨.slice none 0 0, .slice none 0 0, .slice none 0 0, ?_⟩, DFr.refl _ _ _⟩
  rw [Nat.zero_min, cutL_nil c.rs (Nat.zero_le _), cutL_nil c.ds (Nat.zero_le _), cutL_nil c.vs (by simp [cntE])]
  exact AcI.start HO.out
 case round =>
  obtain ⟨i, hile, rfl, rfl, rfl, HI⟩ := hrel
  have hy := HI.out.fr.box HY.out (by omega) (by decide)
  have hx := HI.out.fr.box HX.out (by omega) (by decide)
  obtain ⟨⟨p0, p1, p2, p3, p4⟩, _⟩ := row_five hx
  obtain ⟨k0, k1, k2, k3⟩ := row_four hy
  clear hx hy
  by_cases hlt : i < c.rs.length
  · have hlt2 : i < c.ds.length := by rw [← HLn.out]; exact hlt
    have hat := HAT.out wr HI.out.fr
    obtain ⟨rb, ro, hra, hr⟩ := lies_ints hat.r i hlt
    obtain ⟨db, dO, hda, hd⟩ := lies_ints hat.d i hlt2
    have HN : Hid (cntE 0 (c.rs.take (i + 1)) = cntE 0 (c.rs.take i) + if c.rs[i] = 0 then 1 else 0) := cntE_succ 0 c.rs i hlt
    have HM : Hid (cntE md (c.ds.take (i + 1)) = cntE md (c.ds.take i) + if c.ds[i] = md then 1 else 0) := cntE_succ md c.ds i hlt2
    have HRA : Hid _ := hra
    have HDA : Hid _ := hda
    obtain ⟨r, hrE⟩ : ∃ r, r = c.rs[i] := ⟨_, rfl⟩
    obtain ⟨d, hdE⟩ : ∃ d, d = c.ds[i] := ⟨_, rfl⟩
    rw [← hrE] at hr HN
    rw [← hdE] at hd HM
    have HRE : Hid _ := hrE
    have HDE : Hid _ := hdE
    rw [hra] at k1
    rw [hda] at k2
    have hnle := cntE_le 0 c.rs i
    have hmle := cntE_le md c.ds i
    obtain ⟨n, HNn⟩ : ∃ n, Hid (cntE 0 (c.rs.take i) = n) := ⟨_, rfl⟩
    obtain ⟨n2, HNm⟩ : ∃ n, Hid (cntE 0 (c.rs.take (i + 1)) = n) := ⟨_, rfl⟩
    obtain ⟨m, HMm⟩ : ∃ n, Hid (cntE md (c.ds.take i) = n) := ⟨_, rfl⟩
    rw [HNn.out, HNm.out] at HN
    rw [HMm.out] at HM
    rw [HNn.out] at hnle
    rw [HMm.out] at hmle
    rw [HNn.out, HMm.out]
    clear hra hda hrE hdE hat
    go_upto_if 29 with fail
    go_cut [10] (fun x wx => x = .int .i64 ((n2 : Int) - 1) ∧ wx = wr)
    case first =>
     by_cases hz : r = 0
     · have hq : n2 = n + 1 := by have h := HN.out; rw [if_pos hz] at h; exact h
       subst hz
       go_wp2
       go_meet
       exact ⟨by subst hq; go_num, rfl⟩
     · have hq : n2 = n := by have h := HN.out; rw [if_neg hz] at h; exact h
       have q : (r == 0) = false := by simp [hz]
       clear hz
       go_wp2
       go_meet
       exact ⟨by rw [hq], rfl⟩
    case rest =>
     obtain ⟨rfl, hw⟩ := hcut
     obtain rfl := hw.symm
     have hA : lo < (n2 : Int) ↔ a ≤ i := by rw [← HNm.out]; exact HSA.out.iff hlt
     have hB : hi < (n2 : Int) ↔ b ≤ i := by rw [← HNm.out]; exact HSB.out.iff hlt
     obtain ⟨inn, HIn⟩ : ∃ t : Bool, Hid (t = decide (a ≤ i ∧ i < b)) := ⟨_, rfl⟩
     go_upto_region 9 with fail
     go_cut [13] (fun x wx => x = .bool inn ∧ wx = wr)
     case first =>
      by_cases h1 : a ≤ i
      · have q1 : decide (lo ≤ (n2 : Int) - 1) = true := by rw [decide_eq_true_iff]; have := hA.2 h1; omega
        by_cases h2 : i < b
        · have q2 : decide ((n2 : Int) - 1 < hi) = true := by rw [decide_eq_true_iff]; have := mt hB.1 (by omega); omega
          have hin : inn = true := by rw [HIn.out]; simp [h1, h2]
          clear h1 h2 hA hB
          go_wp2
          go_meet
          exact ⟨by rw [hin], rfl⟩
        · have q2 : decide ((n2 : Int) - 1 < hi) = false := by rw [decide_eq_false_iff_not]; have := hB.2 (by omega); omega
          have hin : inn = false := by rw [HIn.out]; simp [h2]
          clear h1 h2 hA hB
          go_wp2
          go_meet
          exact ⟨by rw [hin], rfl⟩
      · have q1 : decide (lo ≤ (n2 : Int) - 1) = false := by rw [decide_eq_false_iff_not]; have := mt hA.1 h1; omega
        have hin : inn = false := by rw [HIn.out]; simp [h1]
        clear h1 hA hB
        go_wp2
        go_meet
        exact ⟨by rw [hin], rfl⟩
     case rest =>
      obtain ⟨rfl, hw⟩ := hcut
      obtain rfl := hw.symm
      clear hA hB
      go_upto_if 40 with fail
      go_cut [] (fun wx => Hid (PoI W w0 c.id md c a b (i + 1) (i + 1) i wx))
      case first =>
       cases inn
       · have hno : ¬ (a ≤ i ∧ i < b) := by have h := HIn.out; simpa using h
         have HP : Hid (PoI W w0 c.id md c a b (i + 1) (i + 1) i wr) := ⟨by rw [cutL_out c.rs hno, cutL_out c.ds hno]; exact HI.out.acc, HI.out.fr⟩
         clear hno
         go_wp2
         go_meet
         exact HP
       · have hyes : a ≤ i ∧ i < b := by have h := HIn.out; simpa using h
         have HCr : Hid (cutL c.rs a (min (i + 1) b) = cutL c.rs a (min i b) ++ [r]) := (by show _ = _; rw [HRE.out]; exact cutL_in c.rs hyes.1 hyes.2 hlt)
         have HCd : Hid (cutL c.ds a (min (i + 1) b) = cutL c.ds a (min i b) ++ [d]) := (by show _ = _; rw [HDE.out]; exact cutL_in c.ds hyes.1 hyes.2 hlt2)
         clear hyes
         go_wp2_with fail
         go_upto_region 11 with fail
         go_cut [] (fun wx => Hid (PoI W w0 c.id md c a b (i + 1) i i wx))
         case first =>
          obtain ⟨rv, dv, vv, hI⟩ := HI.out.acc
          obtain ⟨ra, rc, rfl⟩ := own_slC hI.rrow
          obtain ⟨da, dc, rfl⟩ := own_slC hI.drow
          obtain ⟨va, vc, rfl⟩ := own_slC hI.vrow
          obtain ⟨g0, g1, g2, g3⟩ := row_four hI.cell
          obtain ⟨f0, f1, f2, f3⟩ := row_fourA hI.cell
          obtain ⟨y0, y1, y2, y3⟩ := row_four (blk_alloc (o' := .cells #[.int .i64 r] 3) hI.cell)
          have HBa : Hid (Below wr.heap.size wr (wr.alloc (.cells #[.int .i64 r] 3)).drew) := ((Below.refl _ _).alloc (Nat.le_refl _) _).drew
          have HAa : Hid _ := hI.stay HBa.out
          have HDa : Hid (DFr (W.heap.size + 1 + 1 + 1) (W.heap.size + 1 + 1 + 1 + 1) w0 _) := HI.out.fr.trans (.of_below HBa.out)
          have hs1 : W.heap.size + 1 + 1 + 1 + 1 ≤ wr.heap.size := Nat.le_trans HSz.out HI.out.fr.size
          have hl1 : (cutL c.rs a (min i b)).length ≤ 20000 := by rw [cutL_len _ _ _ (by omega)]; omega
          clear hI
          go_wp2_with fail
          go_region_law (refine step_append_any _ rfl _ _ 22 rfl (W.heap.size + 1 + 1 + 1 + 1) 3 iv (.int .i64 0) 1 8 Tryz.underlying22 hvi hv0 hv1 hv2 rfl (by decide) _ _ (i64s (cutL c.rs a (min i b))) rfl HAa.out.rrow (some ⟨wr.heap.size, 0, none⟩) 1 1 (i64s [r]) rfl rfl (fun j u hu => ⟨_, rfl, (show (wr.alloc _).cell? _ = some u from cell_one_new _ _ _ j u hu)⟩) (one_i _) (by unfold maxLen; omega) (by omega) (by simp; omega) ?_; intro v1 x1 hown1 hg1 hw1; obtain ⟨e1, e2, e3⟩ := AcI.appR HAa.out hown1 hg1 hw1; obtain ⟨a1, c1, rfl⟩ := own_slC hown1; have HA1 : Hid _ := e2; have HD1 : Hid (DFr (W.heap.size + 1 + 1 + 1) (W.heap.size + 1 + 1 + 1 + 1) w0 _) := HDa.out.trans e3; clear hown1 hg1 hw1 e2 e3 g0 g1 g2 g3 f0 f1 f2 f3; obtain ⟨g0, g1, g2, g3⟩ := row_four e1; obtain ⟨f0, f1, f2, f3⟩ := row_fourA e1; clear e1)
          all_goals
           go_wp2_with fail
           go_meet
           exact ⟨⟨_, _, _, by rw [HCr.out]; exact HA1.out⟩, HD1.out⟩
         case rest =>
          have HI1 : Hid _ := hcut
          rename World => w1
          clear p0 p1 p2 p3 p4 k0 k1 k2 k3 hr hd
          have hy := HI1.out.fr.box HY.out (by omega) (by decide)
          have hx := HI1.out.fr.box HX.out (by omega) (by decide)
          obtain ⟨⟨p0, p1, p2, p3, p4⟩, _⟩ := row_five hx
          obtain ⟨k0, k1, k2, k3⟩ := row_four hy
          have hat := HAT.out w1 HI1.out.fr
          rw [HRA.out] at k1
          rw [HDA.out] at k2
          have hd : ∀ o', o' = dO + i → w1.cell? ⟨db, o', none⟩ = some (.int .i64 d) := fun o' ho => by
           obtain ⟨b', o'', e, h⟩ := lies_ints hat.d i hlt2
           rw [HDA.out] at e; injection e with e; injection e with e1 e2 _; subst e1 e2 ho; rw [HDE.out]; exact h
          have hd := hd _ rfl
          clear hx hy hat
          go_upto_region 12 with fail
          go_cut [] (fun wx => Hid (PoI W w0 c.id md c a b (i + 1) (i + 1) i wx))
          case first =>
           obtain ⟨rv, dv, vv, hI⟩ := HI1.out.acc
           obtain ⟨ra, rc, rfl⟩ := own_slC hI.rrow
           obtain ⟨da, dc, rfl⟩ := own_slC hI.drow
           obtain ⟨va, vc, rfl⟩ := own_slC hI.vrow
           obtain ⟨g0, g1, g2, g3⟩ := row_four hI.cell
           obtain ⟨f0, f1, f2, f3⟩ := row_fourA hI.cell
           obtain ⟨y0, y1, y2, y3⟩ := row_four (blk_alloc (o' := .cells #[.int .i64 d] 3) hI.cell)
           have HBa : Hid (Below w1.heap.size w1 (w1.alloc (.cells #[.int .i64 d] 3)).drew) := ((Below.refl _ _).alloc (Nat.le_refl _) _).drew
           have HAa : Hid _ := hI.stay HBa.out
           have HDa : Hid (DFr (W.heap.size + 1 + 1 + 1) (W.heap.size + 1 + 1 + 1 + 1) w0 _) := HI1.out.fr.trans (.of_below HBa.out)
           have hs1 : W.heap.size + 1 + 1 + 1 + 1 ≤ w1.heap.size := Nat.le_trans HSz.out HI1.out.fr.size
           have hl1 : (cutL c.ds a (min i b)).length ≤ 20000 := by rw [cutL_len _ _ _ (by omega)]; omega
           clear hI
           go_wp2_with fail
           go_region_law (refine step_append_any _ rfl _ _ 22 rfl (W.heap.size + 1 + 1 + 1 + 1) 3 iv (.int .i64 0) 1 8 Tryz.underlying22 hvi hv0 hv1 hv2 rfl (by decide) _ _ (i64s (cutL c.ds a (min i b))) rfl HAa.out.drow (some ⟨w1.heap.size, 0, none⟩) 1 1 (i64s [d]) rfl rfl (fun j u hu => ⟨_, rfl, (show (w1.alloc _).cell? _ = some u from cell_one_new _ _ _ j u hu)⟩) (one_i _) (by unfold maxLen; omega) (by omega) (by simp; omega) ?_; intro v1 x1 hown1 hg1 hw1; obtain ⟨e1, e2, e3⟩ := AcI.appD HAa.out hown1 hg1 hw1; obtain ⟨a1, c1, rfl⟩ := own_slC hown1; have HA1 : Hid _ := e2; have HD1 : Hid (DFr (W.heap.size + 1 + 1 + 1) (W.heap.size + 1 + 1 + 1 + 1) w0 _) := HDa.out.trans e3; clear hown1 hg1 hw1 e2 e3 g0 g1 g2 g3 f0 f1 f2 f3; obtain ⟨g0, g1, g2, g3⟩ := row_four e1; obtain ⟨f0, f1, f2, f3⟩ := row_fourA e1; clear e1)
           all_goals
            go_wp2_with fail
            go_meet
            exact ⟨⟨_, _, _, by rw [HCd.out]; exact HA1.out⟩, HD1.out⟩
          case rest =>
           go_wp2
           go_meet
           exact hcut
      case rest =>
       have HI2 : Hid _ := hcut
       rename World => w2
       clear p0 p1 p2 p3 p4 k0 k1 k2 k3 hr hd HI
       have hy := HI2.out.fr.box HY.out (by omega) (by decide)
       have hx := HI2.out.fr.box HX.out (by omega) (by decide)
       obtain ⟨⟨p0, p1, p2, p3, p4⟩, _⟩ := row_five hx
       obtain ⟨k0, k1, k2, k3⟩ := row_four hy
       have hat := HAT.out w2 HI2.out.fr
       rw [HRA.out] at k1
       rw [HDA.out] at k2
       have hd : ∀ o', o' = dO + i → w2.cell? ⟨db, o', none⟩ = some (.int .i64 d) := fun o' ho => by
        obtain ⟨b', o'', e, h⟩ := lies_ints hat.d i hlt2
        rw [HDA.out] at e; injection e with e; injection e with e1 e2 _; subst e1 e2 ho; rw [HDE.out]; exact h
       have hd := hd _ rfl
       clear hx hy hat
       by_cases hdm : d = md
       · have q : (d == md) = true := by simp [hdm]
         have HDM : Hid (c.ds[i] = md) := (by show _ = _; rw [← HDE.out]; exact hdm)
         have HM1 : Hid (cntE md (c.ds.take (i + 1)) = m + 1) := (by show _ = _; rw [HM.out, if_pos hdm])
         have hmv : m < c.vs.length := by rw [HVn.out]; have h := cntE_all md c.ds (i + 1); rw [HM1.out] at h; omega
         clear hdm
         have hat := HAT.out w2 HI2.out.fr
         obtain ⟨vb, vo, hva, d0, d1, d2⟩ := hat.v m hmv
         obtain ⟨x, hxE⟩ : ∃ x, x = c.vs[m] := ⟨_, rfl⟩
         rw [← hxE] at d0 d1 d2
         rw [hva] at k3
         have HXE : Hid _ := hxE
         have HLen : Hid ((cutL c.vs (cntE md (c.ds.take a)) (cntE md (c.ds.take (min i b)))).length ≤ 20000) := Nat.le_trans (cutL_le _ _ _) hv
         clear hat hva hxE
         go_wp2_with fail
         go_quiet (fail)
         have HI3 : Hid _ := HI2.out.keep (below_dQ (Below.refl _ _) nq)
         cases inn
         · have hno : ¬ (a ≤ i ∧ i < b) := by have h := HIn.out; simpa using h
           have HP : Hid (PoI W w0 c.id md c a b (i + 1) (i + 1) (i + 1) _) := ⟨by rw [cutV_out c.vs md c.ds hlt2 (.inl hno)]; exact HI3.out.acc, HI3.out.fr⟩
           clear hno
           go_wp2
           go_roundw
           case rel => exact ⟨i + 1, by omega, by go_num, by rw [HNm.out], by rw [HM1.out]; go_num, HP⟩
           case measure => simp [intOf]; omega
         · have hyes : a ≤ i ∧ i < b := by have h := HIn.out; simpa using h
           have HCv : Hid (cutL c.vs (cntE md (c.ds.take a)) (cntE md (c.ds.take (min (i + 1) b))) = cutL c.vs (cntE md (c.ds.take a)) (cntE md (c.ds.take (min i b))) ++ [x]) := (by
            show _ = _
            rw [cutV_in c.vs md c.ds hyes.1 hyes.2 hlt2 HDM.out (by rw [HMm.out]; exact hmv), HXE.out]
            congr 2
            simp only [HMm.out])
           clear hyes p0 p1 p2 p3 p4 k0 k1 k2 k3 hd d0 d1 d2
           obtain ⟨w3, HW3⟩ : ∃ w3, Hid (w2.drewN nq = w3) := ⟨_, rfl⟩
           rw [HW3.out] at HI3
           rw [HW3.out]
           clear HI2
           have hy := HI3.out.fr.box HY.out (by omega) (by decide)
           have hx := HI3.out.fr.box HX.out (by omega) (by decide)
           obtain ⟨⟨p0, p1, p2, p3, p4⟩, _⟩ := row_five hx
           obtain ⟨k0, k1, k2, k3⟩ := row_four hy
           have hat := HAT.out w3 HI3.out.fr
           rw [HRA.out] at k1
           rw [HDA.out] at k2
           have hd : ∀ o', o' = dO + i → w3.cell? ⟨db, o', none⟩ = some (.int .i64 d) := fun o' ho => by
            obtain ⟨b', o'', e, h⟩ := lies_ints hat.d i hlt2
            rw [HDA.out] at e; injection e with e; injection e with e1 e2 _; subst e1 e2 ho; rw [HDE.out]; exact h
           have hd := hd _ rfl
           clear hx hy hat
           have hat := HAT.out w3 HI3.out.fr
           obtain ⟨vb, vo, hva, d0, d1, d2⟩ := hat.v m hmv
           rw [← HXE.out] at d0 d1 d2
           rw [hva] at k3
           clear hat hva
           go_upto_region 15 with fail
           go_cut [] (fun wx => Hid (PoI W w0 c.id md c a b (i + 1) (i + 1) (i + 1) wx))
           case first =>
            obtain ⟨rv, dv, vv, hI⟩ := HI3.out.acc
            obtain ⟨ra, rc, rfl⟩ := own_slC hI.rrow
            obtain ⟨da, dc, rfl⟩ := own_slC hI.drow
            obtain ⟨va, vc, rfl⟩ := own_slC hI.vrow
            obtain ⟨g0, g1, g2, g3⟩ := row_four hI.cell
            obtain ⟨f0, f1, f2, f3⟩ := row_fourA hI.cell
            obtain ⟨y0, y1, y2, y3⟩ := row_four (blk_alloc (o' := .cells #[.int .i64 x.k, .int .i64 x.n, .string x.s] 52) hI.cell)
            have HBa : Hid (Below w3.heap.size w3 (w3.alloc (.cells #[.int .i64 x.k, .int .i64 x.n, .string x.s] 52)).drew) := ((Below.refl _ _).alloc (Nat.le_refl _) _).drew
            have HAa : Hid _ := hI.stay HBa.out
            have HDa : Hid (DFr (W.heap.size + 1 + 1 + 1) (W.heap.size + 1 + 1 + 1 + 1) w0 _) := HI3.out.fr.trans (.of_below HBa.out)
            have hs1 : W.heap.size + 1 + 1 + 1 + 1 ≤ w3.heap.size := Nat.le_trans HSz.out HI3.out.fr.size
            have hl1 : (cutL c.vs (cntE md (c.ds.take a)) (cntE md (c.ds.take (min i b)))).length ≤ 20000 := HLen.out
            clear hI
            go_wp2_with fail
            go_region_law (refine step_append_any _ rfl _ _ 25 rfl (W.heap.size + 1 + 1 + 1 + 1) 52 iw (.agg #[.int .i64 0, .int .i64 0, .string ⟨#[]⟩]) 3 32 Tryz.underlying25 hwi hw0 hw1 hw2 rfl (by decide) _ _ (vcells (cutL c.vs (cntE md (c.ds.take a)) (cntE md (c.ds.take (min i b))))) rfl HAa.out.vrow (some ⟨w3.heap.size, 0, none⟩) 1 1 (vcells [x]) rfl rfl (fun j u hu => ⟨_, rfl, (show (w3.alloc _).cell? _ = some u from cell_new_v _ x j u hu)⟩) (one_v _) (by unfold maxLen; omega) (by omega) (by simp; omega) ?_; intro v1 x1 hown1 hg1 hw1; obtain ⟨e1, e2, e3⟩ := AcI.appV HAa.out hown1 hg1 hw1; obtain ⟨a1, c1, rfl⟩ := own_slC hown1; have HA1 : Hid _ := e2; have HD1 : Hid (DFr (W.heap.size + 1 + 1 + 1) (W.heap.size + 1 + 1 + 1 + 1) w0 _) := HDa.out.trans e3; clear hown1 hg1 hw1 e2 e3 g0 g1 g2 g3 f0 f1 f2 f3; obtain ⟨g0, g1, g2, g3⟩ := row_four e1; obtain ⟨f0, f1, f2, f3⟩ := row_fourA e1; clear e1)
            all_goals
             go_wp2_with fail
             go_meet
             exact ⟨⟨_, _, _, by rw [HCv.out]; exact HA1.out⟩, HD1.out⟩
           case rest =>
            have HI4 : Hid _ := hcut
            go_wp2
            go_roundw
            case rel => exact ⟨i + 1, by omega, by go_num, by rw [HNm.out], by rw [HM1.out]; go_num, HI4⟩
            case measure => simp [intOf]; omega
       · have q : (d == md) = false := by simp [hdm]
         have HDM : Hid (c.ds[i] ≠ md) := (by show _ ≠ _; rw [← HDE.out]; exact hdm)
         have HM1 : Hid (cntE md (c.ds.take (i + 1)) = m) := (by show _ = _; rw [HM.out, if_neg hdm]; rfl)
         clear hdm
         go_wp2_with fail
         go_quiet (fail)
         have HP : Hid (PoI W w0 c.id md c a b (i + 1) (i + 1) (i + 1) _) := ⟨by rw [cutV_out c.vs md c.ds hlt2 (.inr HDM.out)]; exact (HI2.out.keep (below_dQ (Below.refl _ _) nq)).acc, (HI2.out.keep (below_dQ (Below.refl _ _) nq)).fr⟩
         go_wp2
         go_roundw
         case rel => exact ⟨i + 1, by omega, by go_num, by rw [HNm.out], by rw [HM1.out], HP⟩
         case measure => simp [intOf]; omega
  · obtain rfl : i = c.rs.length := by omega
    obtain ⟨rv, dv, vv, hI⟩ := HI.out.acc
    rw [HLn.out, Nat.min_eq_right (by rw [← HLn.out]; exact HSB.out.1)] at hI
    obtain ⟨ra, rc, rfl⟩ := own_slC hI.rrow
    obtain ⟨da, dc, rfl⟩ := own_slC hI.drow
    obtain ⟨va, vc, rfl⟩ := own_slC hI.vrow
    have HA : Hid _ := hI
    obtain ⟨g0, g1, g2, g3⟩ := row_four hI.cell
    have hz := HI.out.fr.box HZ.out (by omega) (by decide)
    obtain ⟨z0, z1, z2, z3⟩ := row_four hz
    obtain ⟨f0, f1, f2, f3⟩ := row_fourA hz
    have HZr : Hid _ := hz
    clear hz hI
    go_wp2
    have f1' : ∀ p, ra = some p → W.heap.size + 1 + 1 < p.block := fun p hp => by have := own_fresh HA.out.rrow rfl p hp; omega
    have f2' : ∀ p, da = some p → W.heap.size + 1 + 1 < p.block := fun p hp => by have := own_fresh HA.out.drow rfl p hp; omega
    have f3' : ∀ p, va = some p → W.heap.size + 1 + 1 < p.block := fun p hp => by have := own_fresh HA.out.vrow rfl p hp; omega
    have l1 : Lies wr ra (i64s (cutL c.rs a b)) := by
     obtain ⟨a', c', he, hl⟩ := lies_own HA.out.rrow
     injection he with e1 _ _; subst e1; exact hl
    have l2 : Lies wr da (i64s (cutL c.ds a b)) := by
     obtain ⟨a', c', he, hl⟩ := lies_own HA.out.drow
     injection he with e1 _ _; subst e1; exact hl
    have l3 : LiesV wr va (cutL c.vs (cntE md (c.ds.take a)) (cntE md (c.ds.take b))) := by
     obtain ⟨a', c', he, hl⟩ := liesV_own HA.out.vrow
     injection he with e1 _ _; subst e1; exact hl
    have hbw : Below W.heap.size W wr := HB.out.trans (HI.out.fr.below HB.out.size (by omega) (by omega))
    exact bodyPost_ret (v := .agg #[.int .i64 c.id, .slice ra (cutL c.rs a b).length rc, .slice da (cutL c.ds a b).length dc, .slice va (cutL c.vs (cntE md (c.ds.take a)) (cntE md (c.ds.take b))).length vc]) (results_cell_row Tryz.results22 _ _ (W.heap.size + 1 + 1) 27 #[.int .i64 c.id, .slice ra (cutL c.rs a b).length rc, .slice da (cutL c.ds a b).length dc, .slice va (cutL c.vs (cntE md (c.ds.take a)) (cntE md (c.ds.take b))).length vc] (0, 0) _ rfl (row_setCell (row_setCell (row_setCell (row_setCell HZr.out _) _) _) _) Tryz.underlying27 rfl (by kernel_rfl)) rfl ⟨⟨⟨c.id, ra, cutL c.rs a b, rc, da, cutL c.ds a b, dc, va, cutL c.vs (cntE md (c.ds.take a)) (cntE md (c.ds.take b)), vc⟩, rfl, ⟨(((l1.off f1').off f1').off f1').off f1', (((l2.off f2').off f2').off f2').off f2', (((l3.off f3').off f3').off f3').off f3'⟩, ⟨fun p hp => by have := f1' p hp; omega, fun p hp => by have := f2' p hp; omega, fun p hp => by have := f3' p hp; omega⟩, rfl, rfl, rfl, rfl⟩, (((hbw.setCell (by simp; omega) _).setCell (by simp; omega) _).setCell (by simp; omega) _).setCell (by simp; omega) _⟩
end Go.Proofs.YtgpfmjbebfmmnaaGreatDoor
namespace Go.Proofs.YtgpfmjbebfmmnaaGreatDoor
open Go.ChangeShapes Go.WideShapes Go.ChangeAt Go.RowKit
def sumV : List Vl → Nat
 | [] => 0
 | v :: vs => v.s.size + 1 + sumV vs
theorem sumV_bulk {H : Type} : ∀ (ts : List Vl) (l : List (DataW H)), ts.length = l.length → (∀ j (h : j < ts.length) (h' : j < l.length), ts[j].s.size + 1 ≤ Rows.uptoBulk l[j]) → sumV ts ≤ Rows.uptoBulkAll l
 | [], [], _, _ => by simp [sumV]
 | [], _ :: _, h, _ => by simp at h
 | _ :: _, [], h, _ => by simp at h
 | t :: ts, d :: l, hl, h => by
  have h0 := h 0 (by simp) (by simp)
  have ih := sumV_bulk ts l (by simpa using hl) (fun j hj hj' => h (j + 1) (by simp; omega) (by simp; omega))
  simp only [List.getElem_cons_zero] at h0
  rw [sumV]
  simp only [Rows.uptoBulkAll]
  omega
theorem sumV_len : ∀ vs : List Vl, vs.length ≤ sumV vs
 | [] => Nat.le_refl _
 | v :: vs => by have := sumV_len vs; rw [sumV, List.length_cons]; omega
set_option maxRecDepth 100000 in
theorem valB_cells {H : Type} {enc : TypeId × Value → H} {W : World} {base n : Nat} {sp : Nat → Bool} {held : Bool} {cs : List Value} {x : DataW H × List MemPlace} (h : DataW.trod enc Tryz.prog W base sp held n 52 cs = some x) :
    ∃ v : Vl, cs = [.int .i64 v.k, .int .i64 v.n, .string v.s] ∧ v.In ∧ v.s.size + 1 ≤ Rows.uptoBulk x.1 := by
 obtain ⟨xs, m, _, rfl, hl, hlen, hf⟩ := DataW.trod_struct Tryz.underlying52 h
 rw [Tryz.cellsV] at hl
 match cs, hl with
 | [c0, c1, c2], _ =>
  match xs, hlen with
  | [y0, y1, y2], _ =>
   have g0 := hf 0 _ rfl
   have g1 := hf 1 _ rfl
   have g2 := hf 2 _ rfl
   simp [Tryz.cellsI, Tryz.cellsI64, Tryz.cellsS] at g0 g1 g2
   obtain ⟨k, e0, _, h0⟩ := DataW.trod_int Tryz.underlying3 g0
   obtain ⟨n, e1, _, h1⟩ := DataW.trod_int Tryz.underlying2 g1
   obtain ⟨s, e2, hy2, h2⟩ := DataW.trod_string Tryz.underlying9 g2
   simp at e0 e1 e2
   subst e0 e1 e2
   refine ⟨⟨k, n, s⟩, rfl, ⟨bounds_i64 h0, bounds_i64 h1, h2⟩, ?_⟩
   have e1 : Rows.uptoBulk y2.1 = s.size + 1 := by rw [hy2]; simp [Rows.uptoBulk]
   simp only [Rows.uptoBulk, Rows.uptoBulkAll, List.map_cons, List.map_nil]
   omega
set_option maxRecDepth 100000 in
theorem intsB_cells {H : Type} {enc : TypeId × Value → H} {W : World} {n : Nat} {cs : List Value} {x : DataW H × List MemPlace} (hf : DataW.trod enc Tryz.prog W 0 (fun _ => true) true n 22 cs = some x) :
    ∃ a c xs, cs = [.slice a (List.length xs) c] ∧ Lies W a (i64s xs) ∧ List.length xs + 1 ≤ Rows.uptoBulk x.1 + 1 := by
 rcases DataW.trod_slice Tryz.underlying22 hf with ⟨rfl, rfl⟩ | ⟨a, len, cap, elems, rest, m, rfl, rfl, rfl, _, hl, hm, hlen, hel, _, _⟩
 · exact ⟨none, 0, [], rfl, fun j hj => absurd hj (by simp [i64s]), by simp⟩
 · rw [Tryz.cellsI] at hel
   have each : ∀ i, i < len → ∃ z : Int, W.cell? (a.add i) = some (.int .i64 z) := fun i hi => by
    have h1 := hel i hi
    have h2 : elems[i]? = some (elems[i]'(by omega)) := List.getElem?_eq_getElem (by omega)
    rw [h2] at h1
    obtain ⟨cs', h3, h4⟩ := Option.bind_eq_some_iff.1 h1
    obtain ⟨k, e0, _, _⟩ := DataW.trod_int Tryz.underlying3 h4
    subst e0
    obtain ⟨_, _, hcell⟩ := World.cells?_some h3
    have e0 := hcell 0 (by omega)
    have z : (a.add (i * 1)).add 0 = a.add i := by unfold Addr.add; simp
    rw [z] at e0
    exact ⟨k, by simpa using e0⟩
   obtain ⟨f, hfx⟩ := Deep.choose_lt each
   refine ⟨some a, cap, (List.range len).map f, by simp, fun j hj => ?_, ?_⟩
   · have hj' : j < len := by simpa [i64s] using hj
     have h0 := hfx j hj'
     obtain ⟨b, off, spot⟩ := a
     have hspot : spot = none := by
      have := World.cell?_spot (hfx 0 (by omega))
      simpa [Addr.add] using this
     subst hspot
     rw [addr_add] at h0
     exact ⟨b, off, rfl, by simpa [i64s] using h0⟩
   · have h1 := bulk_len (elems.map (·.1))
     rw [List.length_map, hlen] at h1
     simp only [Rows.uptoBulk]
     simp
     omega
set_option maxRecDepth 100000 in
theorem valsB_cells {H : Type} {enc : TypeId × Value → H} {W : World} {n : Nat} {cs : List Value} {x : DataW H × List MemPlace} (hf : DataW.trod enc Tryz.prog W 0 (fun _ => true) true n 25 cs = some x) :
    ∃ a c vs, cs = [.slice a (List.length vs) c] ∧ LiesV W a vs ∧ (∀ v ∈ vs, v.In) ∧ sumV vs ≤ Rows.uptoBulk x.1 := by
 rcases DataW.trod_slice Tryz.underlying25 hf with ⟨rfl, rfl⟩ | ⟨a, len, cap, elems, rest, m, rfl, rfl, rfl, _, hl, hm, hlen, hel, _, _⟩
 · exact ⟨none, 0, [], rfl, fun j hj => absurd hj (by simp), fun v hv => absurd hv (by simp), by simp [sumV]⟩
 · rw [Tryz.cellsV] at hel
   have each : ∀ i, i < len → ∃ v : Vl, (W.cell? (a.add (i * 3)) = some (.int .i64 v.k) ∧ W.cell? ((a.add (i * 3)).add 1) = some (.int .i64 v.n) ∧ W.cell? ((a.add (i * 3)).add 2) = some (.string v.s)) ∧ v.In ∧ ∀ h : i < elems.length, v.s.size + 1 ≤ Rows.uptoBulk elems[i].1 := fun i hi => by
    have h1 := hel i hi
    have h2 : elems[i]? = some (elems[i]'(by omega)) := List.getElem?_eq_getElem (by omega)
    rw [h2] at h1
    obtain ⟨cs', h3, h4⟩ := Option.bind_eq_some_iff.1 h1
    obtain ⟨v, rfl, hin, hbk⟩ := valB_cells h4
    obtain ⟨_, _, hcell⟩ := World.cells?_some h3
    have e0 := hcell 0 (by omega)
    have e1 := hcell 1 (by omega)
    have e2 := hcell 2 (by omega)
    have z : (a.add (i * 3)).add 0 = a.add (i * 3) := by unfold Addr.add; simp
    rw [z] at e0
    exact ⟨v, ⟨by simpa using e0, by simpa using e1, by simpa using e2⟩, hin, fun _ => hbk⟩
   have : Inhabited Vl := ⟨⟨0, 0, ⟨#[]⟩⟩⟩
   obtain ⟨f, hfx⟩ := Deep.choose_lt each
   refine ⟨some a, cap, (List.range len).map f, by simp, fun j hj => ?_, fun v hv => ?_, ?_⟩
   · have hj' : j < len := by simpa using hj
     obtain ⟨⟨h0, h1, h2⟩, _⟩ := hfx j hj'
     obtain ⟨b, off, spot⟩ := a
     have hspot : spot = none := by
      have := World.cell?_spot (hfx 0 (by omega)).1.1
      simpa [Addr.add] using this
     subst hspot
     rw [addr_plus] at h0 h1 h2
     rw [addr_plus] at h1 h2
     refine ⟨b, off, rfl, ?_, ?_, ?_⟩
     · simpa using h0
     · simpa using h1
     · simpa using h2
   · obtain ⟨i, hi, rfl⟩ := List.mem_map.1 hv
     exact (hfx i (by simpa using hi)).2.1
   · have h1 := sumV_bulk ((List.range len).map f) (elems.map (·.1)) (by simp [hlen]) (fun j hj hj' => by
       have hj2 : j < len := by simpa using hj
       simpa using (hfx j hj2).2.2 (by omega))
     simp only [Rows.uptoBulk]
     omega
def Cl.bulk (c : Cl) : Nat := c.rs.length + c.ds.length + sumV c.vs
set_option maxRecDepth 100000 in
theorem open_columnB {H : Type} {enc : TypeId × Value → H} {W : World} {base : Nat} {v : Value} {d : DataW H} {ps : List MemPlace} (hv : Value.okWide Tryz.prog W .any base 27 v) (h : DataW.Trod enc Tryz.prog W 0 (fun _ => true) true 27 v d ps) :
    ∃ c : Cl, v = c.val ∧ c.At W ∧ (∀ v ∈ c.vs, v.In) ∧ c.bulk ≤ Rows.uptoBulk d := by
 obtain ⟨cs, rfl, _⟩ := okWide_struct Tryz.underlying27 hv
 obtain ⟨fuel, hf0⟩ := h
 obtain ⟨xs, m, _, hdp, hl, hlen, hf⟩ := DataW.trod_struct Tryz.underlying27 hf0
 obtain ⟨rfl, rfl⟩ := Prod.mk.inj hdp
 rw [Tryz.cellsC] at hl
 obtain ⟨cl, hcl⟩ : ∃ cl, (Value.agg cs).cells.toList = cl := ⟨_, rfl⟩
 have hcs : cs.toList = cl := hcl
 rw [hcl] at hl hf
 match cl, hl, hcs, hf with
 | [c0, c1, c2, c3], _, hcs, hf =>
  match xs, hlen, hf with
  | [y0, y1, y2, y3], _, hf =>
   have g0 := hf 0 _ rfl
   have g1 := hf 1 _ rfl
   have g2 := hf 2 _ rfl
   have g3 := hf 3 _ rfl
   simp [Tryz.cellsI, Tryz.cellsIs, Tryz.cellsVs] at g0 g1 g2 g3
   obtain ⟨k, e0, _, _⟩ := DataW.trod_int Tryz.underlying3 g0
   obtain ⟨ra, rc, rs, e1, l1, m1⟩ := intsB_cells g1
   obtain ⟨da, dc, ds, e2, l2, m2⟩ := intsB_cells g2
   obtain ⟨va, vc, vs, e3, l3, i3, m3⟩ := valsB_cells g3
   simp at e0 e1 e2 e3
   subst e0 e1 e2 e3
   refine ⟨⟨k, ra, rs, rc, da, ds, dc, va, vs, vc⟩, ?_, ⟨l1, l2, l3⟩, i3, ?_⟩
   · show Value.agg cs = Value.agg _
     congr 1
     exact Array.toList_inj.1 hcs
   · simp only [Rows.uptoBulk, Rows.uptoBulkAll, List.map_cons, List.map_nil, Cl.bulk]
     omega
end Go.Proofs.YtgpfmjbebfmmnaaGreatDoor
namespace Go.Proofs.YtgpfmjbebfmmnaaGreatDoor
open Go.RowKit
def letV : List Vl → Nat
 | [] => 0
 | v :: vs => v.s.size + letV vs
theorem letV_sum : ∀ vs : List Vl, letV vs + vs.length = sumV vs
 | [] => rfl
 | v :: vs => by have := letV_sum vs; rw [sumV, letV, List.length_cons]; omega
theorem letV_app : ∀ (xs ys : List Vl), letV (xs ++ ys) = letV xs + letV ys
 | [], ys => by simp [letV]
 | x :: xs, ys => by rw [List.cons_append, letV, letV, letV_app xs ys]; omega
theorem letV_succ {vs : List Vl} {i : Nat} (h : i < vs.length) : letV (vs.take (i + 1)) = letV (vs.take i) + vs[i].s.size := by
 rw [List.take_succ_eq_append_getElem h, letV_app]
 simp [letV]
theorem letV_le (vs : List Vl) (i : Nat) : letV (vs.take i) ≤ letV vs := by
 have h := letV_app (vs.take i) (vs.drop i)
 rw [List.take_append_drop] at h
 omega
def slimB (c : Cl) (pn : Nat) : Bool := decide (c.bulk ≤ 2000) && decide (pn ≤ 100)
set_option maxRecDepth 100000 in
set_option maxHeartbeats 1600000 in
theorem slim3_any (lid kind mr md : Int) (pa : Option Addr) (pn pc : Nat) (c : Cl) (hn : c.bulk ≤ 1048576) (W : World) (hat : c.At W) :
    Calls Tryz.prog 7 #[.agg #[.int .i64 lid, .int .i64 kind, .int .i64 mr, .int .i64 md, .slice pa pn pc], .agg #[.int .i64 c.id, .slice c.ra c.rs.length c.rc, .slice c.da c.ds.length c.dc, .slice c.va c.vs.length c.vc]] W fun e w' => e = .returned (.bool (slimB c pn)) ∧ Below W.heap.size W w' := by
 obtain ⟨w0, HW0, HX, HY, HB⟩ := two_boxes W #[.int .i64 lid, .int .i64 kind, .int .i64 mr, .int .i64 md, .slice pa pn pc] #[.int .i64 c.id, .slice c.ra c.rs.length c.rc, .slice c.da c.ds.length c.dc, .slice c.va c.vs.length c.vc] 24 27
 have HL : Hid (LiesV w0 c.va c.vs) := (hat.keep HB.out).v
 have hls := letV_sum c.vs
 have hcb : c.bulk = c.rs.length + c.ds.length + sumV c.vs := rfl
 rw [← hls] at hcb
 have HCB : Hid _ := hcb
 have hbb : c.rs.length + c.ds.length + (letV c.vs + c.vs.length) ≤ 1048576 := by rw [← hcb]; exact hn
 clear hat hls hcb hn
 obtain ⟨⟨p0, p1, p2, p3, p4⟩, _⟩ := row_five HX.out
 obtain ⟨k0, k1, k2, k3⟩ := row_four HY.out
 obtain ⟨rn, HRN⟩ : ∃ n, Hid (c.rs.length = n) := ⟨_, rfl⟩
 obtain ⟨dn, HDN⟩ : ∃ n, Hid (c.ds.length = n) := ⟨_, rfl⟩
 rw [HRN.out] at HW0 HY k1 hbb HCB ⊢
 rw [HDN.out] at HW0 HY k2 hbb HCB ⊢
 have hw1 : IntKind.i64.wrap ((rn : Int) + (dn : Int)) = ((rn + dn : Nat) : Int) := by rw [IntKind.wrap_i64]; omega
 have hw2 : IntKind.i64.wrap (((rn + dn : Nat) : Int) + (c.vs.length : Int)) = ((rn + dn + c.vs.length : Nat) : Int) := by rw [IntKind.wrap_i64]; omega
 go_enter Tryz.func7, Tryz.ntmps7
 go_upto_region 1 with fail
 rw [HW0.out]
 go_wp2
 go_loop [5, 6] (fun y x => ∃ i : Nat, i ≤ c.vs.length ∧ x = .int .i64 i ∧ y = .int .i64 ((rn + dn + c.vs.length + letV (c.vs.take i) : Nat) : Int)) (fun _ x => c.vs.length - (intOf x).toNat)
 case atStart => exact ⟨0, Nat.zero_le _, rfl, rfl⟩
 case round =>
  obtain ⟨i, hi, rfl, rfl⟩ := hrel
  have hle := letV_le c.vs i
  obtain ⟨q, HQ⟩ : ∃ q, Hid (letV (c.vs.take i) = q) := ⟨_, rfl⟩
  by_cases hlt : i < c.vs.length
  · have HN : Hid (letV (c.vs.take (i + 1)) = q + c.vs[i].s.size) := (by show _ = _; rw [letV_succ hlt, HQ.out])
    have hle2 := letV_le c.vs (i + 1)
    rw [HN.out] at hle2
    rw [HQ.out] at hle ⊢
    obtain ⟨b, o, hva, c0, c1, c2⟩ := HL.out i hlt
    rw [hva] at k3 ⊢
    generalize c.vs[i] = v at *
    clear hva
    go_wp2
    go_round
    case rel => exact ⟨i + 1, by omega, by go_num, by rw [HN.out]; go_num⟩
    case measure => simp [intOf]; omega
  · obtain rfl : i = c.vs.length := by omega
    have HE : Hid (c.bulk = rn + dn + c.vs.length + q) := (by have h := HCB.out; have h2 := HQ.out; rw [List.take_length] at h2; show _ = _; rw [h, h2]; omega)
    rw [HQ.out]
    by_cases h1 : rn + dn + c.vs.length + q ≤ 2000
    · have q1 : decide ((rn : Int) + (dn : Int) + (c.vs.length : Int) + (q : Int) ≤ 2000) = true := by rw [decide_eq_true_iff]; omega
      have HF : Hid (slimB c pn = decide ((pn : Int) ≤ 100)) := (by
       show _ = _
       unfold slimB
       rw [HE.out, decide_eq_true h1, Bool.true_and, decide_eq_decide]
       omega)
      clear h1 hbb hle hw1 hw2
      go_wp2
      go_ret
      exact ⟨by rw [HF.out]; try simp, HB.out⟩
    · have q1 : decide ((rn : Int) + (dn : Int) + (c.vs.length : Int) + (q : Int) ≤ 2000) = false := by rw [decide_eq_false_iff_not]; omega
      have HF : Hid (slimB c pn = false) := (by
       show _ = _
       unfold slimB
       rw [HE.out, decide_eq_false h1, Bool.false_and])
      clear h1 hbb hle hw1 hw2
      go_wp2
      go_ret
      exact ⟨by rw [HF.out]; try simp, HB.out⟩
theorem ecT {w : World} {A : Nat → Addr} (h : Errs w A) (i : Nat) (hi : i < 8) : w.cell? ⟨errG i, 0, none⟩ = some (errV (A i)) := (h.at_ i hi).var
structure LmI (W : World) (a b : St) (X : World) : Prop where
 fst : X.heap[W.heap.size]? = some (.cells a.cs 106 (0, 0))
 snd : X.heap[W.heap.size + 1]? = some (.cells b.cs 106 (0, 0))
 old : Below W.heap.size W X
theorem LmI.keep {W : World} {a b : St} {X w' : World} (h : LmI W a b X) (hb : Below X.heap.size X w') : LmI W a b w' :=
 ⟨blk_keep hb h.fst, blk_keep hb h.snd, h.old.trans (hb.mono h.old.size)⟩
theorem LmI.fin {W : World} {a b : St} {w1 x3 : World} {g : Nat} (h : LmI W a b w1) (hB : Below w1.heap.size w1 x3) (hz : x3.heap[g]? = some (.cells #[.int .i64 0, .int .i64 0, .bool false, .int .i64 0, .int .i64 0, .string ⟨#[]⟩, .int .i64 0, .int .i64 0, .string ⟨#[]⟩] 54 (0, 0))) (hg : w1.heap.size ≤ g) (s : St) :
    W.heap.size + 1 < g ∧ LmI W a b (set9 x3 g (.int .i64 s.e) (.int .i64 s.u) (.bool s.h) (.int .i64 s.mn.k) (.int .i64 s.mn.n) (.string s.mn.s) (.int .i64 s.mx.k) (.int .i64 s.mx.n) (.string s.mx.s)) ∧ (set9 x3 g (.int .i64 s.e) (.int .i64 s.u) (.bool s.h) (.int .i64 s.mn.k) (.int .i64 s.mn.n) (.string s.mn.s) (.int .i64 s.mx.k) (.int .i64 s.mx.n) (.string s.mx.s)).heap[g]? = some (.cells s.cs 54 (0, 0)) :=
 ⟨Nat.lt_of_lt_of_le (lt_of_block h.snd) hg, h.keep (set9_below hB hg _ _ _ _ _ _ _ _ _), set9_row hz _ _ _ _ _ _ _ _ _⟩
end Go.Proofs.YtgpfmjbebfmmnaaGreatDoor
