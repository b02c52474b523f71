/-
  The walk of the law ShredParts.
-/
import Derived.Test.YtcejgakjgcniiaaGreatDoorQBColU
import Derived.Test.YtcejgakjgcniiaaGreatDoorQColV
import Derived.Test.YtcejgakjgcniiaaGreatDoorQBColJ
import Derived.Test.YtcejgakjgcniiaaGreatDoorQBColH
import Derived.Test.YtcejgakjgcniiaaGreatDoorQTwins
import Derived.Test.YtcejgakjgcniiaaGreatDoorQRefErr
import Derived.Test.YtcejgakjgcniiaaGreatDoorQBCode
namespace Go.Proofs.YtcejgakjgcniiaaGreatDoor
open Go.RowKit
theorem ecS {w : World} {A : Nat → Addr} (h : Errs w A) (i : Nat) (hi : i < 8) : w.cell? ⟨errG i, 0, none⟩ = some (errV (A i)) := (h.at_ i hi).var
theorem PtRet.same {N : Nat} {lid kind mr md : Int} {c k : Cl} {lo hi : Int} {sv kv bv : Value} {e : Ending} {w' : World} (hs : SameC c k) (h : PtRet N lid kind mr md k lo hi sv kv bv e w') : PtRet N lid kind mr md c lo hi sv kv bv e w' := by
  obtain ⟨cid, cra, crs, crc, cda, cds, cdc, cva, cvs, cvc⟩ := c
  obtain ⟨kid, kra, krs, krc, kda, kds, kdc, kva, kvs, kvc⟩ := k
  have e1 : kid = cid := hs.id
  have e2 : krs = crs := hs.rs
  have e3 : kds = cds := hs.ds
  have e4 : kvs = cvs := hs.vs
  subst e1 e2 e3 e4
  exact h
/-- What the law's boxes hold. -/
structure ShPI (W : World) (lid kind mr md : Int) (pa : Option Addr) (pn pc : Nat) (c : Cl) (E : Nat) (ec ea : Int) (X : World) : Prop where
  lf : X.heap[W.heap.size]? = some (.cells #[.int .i64 lid, .int .i64 kind, .int .i64 mr, .int .i64 md, .slice pa pn pc] 24 (0, 0))
  co : X.heap[W.heap.size + 1]? = some (.cells #[.int .i64 c.id, .slice c.ra c.rs.length c.rc, .slice c.da c.ds.length c.dc, .slice c.va c.vs.length c.vc] 27 (0, 0))
  fe : X.heap[E]? = some (.cells (rfl2 ec ea) 31 (0, 0))
  old : Below W.heap.size W X
theorem ShPI.keep {W : World} {lid kind mr md : Int} {pa : Option Addr} {pn pc : Nat} {c : Cl} {E : Nat} {ec ea : Int} {X w' : World} (h : ShPI W lid kind mr md pa pn pc c E ec ea X) (hb : Below X.heap.size X w') : ShPI W lid kind mr md pa pn pc c E ec ea w' :=
  ⟨blk_keep hb h.lf, blk_keep hb h.co, blk_keep hb h.fe, h.old.trans (hb.mono h.old.size)⟩
def InR (lo hi : Int) (c : Cl) : Prop := 0 ≤ lo ∧ lo ≤ hi ∧ hi ≤ (cntE 0 c.rs : Nat)
/-- What is expected. -/
def ExpP (lid kind mr md : Int) (c : Cl) (lo hi ec ea : Int) : Prop :=
  (ec = 3 ∧ ea = -1 ∧ (isLfB kind mr md && fitB lid mr md c.id c.rs c.ds c.vs.length) = false) ∨
  (∃ p : Nat, ∃ hp : p < c.vs.length, ec = 4 ∧ ea = p ∧ (isLfB kind mr md && fitB lid mr md c.id c.rs c.ds c.vs.length) = true ∧ badV kind c.vs[p] = true ∧ ∀ j (h : j < c.vs.length), j < p → badV kind c.vs[j] = false) ∨
  (ec = 2 ∧ ea = -1 ∧ GoodC lid kind mr md c ∧ ¬ InR lo hi c) ∨ (ec = 0 ∧ GoodC lid kind mr md c ∧ InR lo hi c)
def zeroCl : Cl := ⟨0, none, [], 0, none, [], 0, none, [], 0⟩
theorem zeroCl_at (w : World) : zeroCl.At w := ⟨fun j h => absurd h (by simp [zeroCl, i64s]), fun j h => absurd h (by simp [zeroCl, i64s]), fun j h => absurd h (by simp [zeroCl])⟩
theorem zeroCl_fr (N : Nat) : zeroCl.Fr N := ⟨fun p h => (by simp [zeroCl] at h), fun p h => (by simp [zeroCl] at h), fun p h => (by simp [zeroCl] at h)⟩
/-- What Part has answered, beside what is expected. -/
def FinP (N : Nat) (lid kind mr md : Int) (c : Cl) (lo hi : Int) (A : Nat → Addr) (ec ea : Int) (k : Cl) (ev : Value) (wx : World) : Prop :=
  (ec = 3 ∧ ea = -1 ∧ k = zeroCl ∧ ev = errV (A 2)) ∨
  (∃ p q : Nat, N ≤ q ∧ ec = 4 ∧ ea = p ∧ k = zeroCl ∧ ev = .iface 78 (.pointer (some ⟨q, 0, none⟩)) ∧ wx.cell? ⟨q, 0, none⟩ = some (.int .i64 p) ∧ wx.cell? ⟨q, 1, none⟩ = some (errV (A 3))) ∨
  (ec = 2 ∧ ea = -1 ∧ k = zeroCl ∧ ev = errV (A 1)) ∨
  (ec = 0 ∧ ev = .nilIface ∧ GoodC lid kind mr md c ∧ ∃ a b : Nat, StAt c.rs lo a ∧ StAt c.rs hi b ∧ k.id = lid ∧ k.rs = cutL c.rs a b ∧ k.ds = cutL c.ds a b ∧ k.vs = cutL c.vs (cntE md (c.ds.take a)) (cntE md (c.ds.take b)))
theorem FinP.keep {N : Nat} {lid kind mr md : Int} {c : Cl} {lo hi : Int} {A : Nat → Addr} {ec ea : Int} {k : Cl} {ev : Value} {w w' : World} (h : FinP N lid kind mr md c lo hi A ec ea k ev w) (hb : Below w.heap.size w w') : FinP N lid kind mr md c lo hi A ec ea k ev w' := by
  rcases h with h | ⟨p, q, h0, h1, h2, h3, h4, h5, h6⟩ | h | h
  · exact .inl h
  · exact .inr (.inl ⟨p, q, h0, h1, h2, h3, h4, (hb.cell (World.block_lt_of_cell? w _ h5)).trans h5, (hb.cell (World.block_lt_of_cell? w _ h6)).trans h6⟩)
  · exact .inr (.inr (.inl h))
  · exact .inr (.inr (.inr h))
theorem FinP.off {N : Nat} {lid kind mr md : Int} {c : Cl} {lo hi : Int} {A : Nat → Addr} {ec ea : Int} {k : Cl} {ev : Value} {w : World} (h : FinP N lid kind mr md c lo hi A ec ea k ev w) {g j : Nat} {v : Value} (hg : g < N) : FinP N lid kind mr md c lo hi A ec ea k ev (w.setCell ⟨g, j, none⟩ v) := by
  rcases h with h | ⟨p, q, h0, h1, h2, h3, h4, h5, h6⟩ | h | h
  · exact .inl h
  · exact .inr (.inl ⟨p, q, h0, h1, h2, h3, h4, by rw [cell_off (by omega)]; exact h5, by rw [cell_off (by omega)]; exact h6⟩)
  · exact .inr (.inr (.inl h))
  · exact .inr (.inr (.inr h))
theorem first_one {α : Type} {P : α → Bool} {vs : List α} {p q : Nat} (hp : p < vs.length) (hq : q < vs.length) (h1 : P vs[p] = true) (h2 : P vs[q] = true) (f1 : ∀ j (h : j < vs.length), j < p → P vs[j] = false) (f2 : ∀ j (h : j < vs.length), j < q → P vs[j] = false) : p = q := by
  rcases Nat.lt_trichotomy p q with h | h | h
  · rw [f2 p hp h] at h1; cases h1
  · exact h
  · rw [f1 q hq h] at h2; cases h2
theorem fin_of {N : Nat} {lid kind mr md : Int} {c : Cl} {lo hi : Int} {A : Nat → Addr} {ec ea : Int} {e : Ending} {w : World} (hx : ExpP lid kind mr md c lo hi ec ea) (h : PtRet N lid kind mr md c lo hi (errV (A 2)) (errV (A 3)) (errV (A 1)) e w) :
    ∃ (k : Cl) (ev : Value), e = .returned (.tuple #[.agg #[.int .i64 k.id, .slice k.ra k.rs.length k.rc, .slice k.da k.ds.length k.dc, .slice k.va k.vs.length k.vc], ev]) ∧ k.At w ∧ k.Fr N ∧ FinP N lid kind mr md c lo hi A ec ea k ev w := by
  rcases hx with ⟨rfl, rfl, hb⟩ | ⟨p, hp, rfl, rfl, hg, hbad, hf⟩ | ⟨rfl, rfl, hg, hr⟩ | ⟨rfl, hg, hr⟩
  · rcases h with (⟨_, rfl⟩ | ⟨h, _⟩) | ⟨h, _⟩ | ⟨h, _⟩
    · exact ⟨zeroCl, errV (A 2), rfl, zeroCl_at w, zeroCl_fr N, .inl ⟨rfl, rfl, rfl, rfl⟩⟩
    · rw [hb] at h; cases h
    · rw [h.1] at hb; cases hb
    · rw [h.1] at hb; cases hb
  · rcases h with (⟨h, _⟩ | ⟨h, p2, hp2, hb2, hf2, q, hqn, rfl, hq0, hq1⟩) | ⟨h, _⟩ | ⟨h, _⟩
    · rw [hg] at h; cases h
    · obtain rfl := first_one hp hp2 hbad hb2 hf hf2
      exact ⟨zeroCl, _, rfl, zeroCl_at w, zeroCl_fr N, .inr (.inl ⟨p, q, hqn, rfl, rfl, rfl, rfl, hq0, hq1⟩)⟩
    · rw [h.2 p hp] at hbad; cases hbad
    · rw [h.2 p hp] at hbad; cases hbad
  · rcases h with (⟨h, _⟩ | ⟨h, p2, hp2, hb2, _⟩) | ⟨_, _, rfl⟩ | ⟨_, h, _⟩
    · rw [hg.1] at h; cases h
    · rw [hg.2 p2 hp2] at hb2; cases hb2
    · exact ⟨zeroCl, errV (A 1), rfl, zeroCl_at w, zeroCl_fr N, .inr (.inr (.inl ⟨rfl, rfl, rfl, rfl⟩))⟩
    · exact absurd h hr
  · rcases h with (⟨h, _⟩ | ⟨h, p2, hp2, hb2, _⟩) | ⟨_, h, _⟩ | ⟨_, _, k, a, b, rfl, h1, h1f, h2, h3, h4, h5, h6, h7⟩
    · rw [hg.1] at h; cases h
    · rw [hg.2 p2 hp2] at hb2; cases hb2
    · exact absurd hr h
    · exact ⟨k, .nilIface, rfl, h1, h1f, .inr (.inr (.inr ⟨rfl, rfl, hg, a, b, h2, h3, h4, h5, h6, h7⟩))⟩
set_option maxRecDepth 100000 in
set_option maxHeartbeats 12800000 in
theorem shredParts_walk (lid kind mr md lo hi : Int) (pa : Option Addr) (pc : Nat) (ps : List Int) (c : Cl) (W : World) (A : Nat → Addr) (hE : Errs W A) (hp : Lies W pa (i64s ps)) (hat : c.At W) (mp : ps.length ≤ maxLen) (mc : c.rs.length ≤ maxLen ∧ c.ds.length ≤ maxLen ∧ c.vs.length ≤ maxLen) :
    Calls Tryz.prog 3 #[.agg #[.int .i64 lid, .int .i64 kind, .int .i64 mr, .int .i64 md, .slice pa ps.length pc], .agg #[.int .i64 c.id, .slice c.ra c.rs.length c.rc, .slice c.da c.ds.length c.dc, .slice c.va c.vs.length c.vc], .int .i64 lo, .int .i64 hi] W fun e w' => e = .returned (.bool true) ∧ Below W.heap.size W w' := by
  obtain ⟨w0, HW0, HX, HY, HB⟩ := two_boxes W #[.int .i64 lid, .int .i64 kind, .int .i64 mr, .int .i64 md, .slice pa ps.length pc] #[.int .i64 c.id, .slice c.ra c.rs.length c.rc, .slice c.da c.ds.length c.dc, .slice c.va c.vs.length c.vc] 24 27
  have HA0 : Hid (∀ X, Below W.heap.size W X → Errs X A) := fun X hX => hE.keep hX
  have HP : Hid (∀ X, Below W.heap.size W X → Lies X pa (i64s ps)) := fun X hX => hp.keep hX
  have HAT : Hid (∀ X, Below W.heap.size W X → c.At X) := fun X hX => hat.keep hX
  obtain ⟨mc1, mc2, mc3⟩ := mc
  unfold maxLen at mp mc1 mc2 mc3
  clear hE hp hat
  obtain ⟨pn, hpn⟩ : ∃ pn, ps.length = pn := ⟨_, rfl⟩
  have HPN : Hid _ := hpn
  rw [hpn] at mp HX HW0 ⊢
  clear hpn
  go_enter Tryz.func3, Tryz.ntmps3
  go_wp2_with fail
  rw [HW0.out]
  have hE0 := HA0.out _ HB.out
  refine (twins_any (153, .pointer (some (A 1))) (153, .pointer (some (A 2))) (153, .pointer (some (A 3))) (153, .pointer (some (A 4))) w0 ⟨ecS hE0 1 (by omega), ecS hE0 2 (by omega), ecS hE0 3 (by omega)⟩ (ecS hE0 4 (by omega))).mono ?_
  clear hE0
  rintro e w1 ⟨rfl, hb1⟩
  have HB1 : Hid (Below W.heap.size W w1) := HB.out.trans (hb1.mono HB.out.size)
  have HX1 : Hid _ := blk_keep hb1 HX.out
  have HY1 : Hid _ := blk_keep hb1 HY.out
  clear hb1 HX HY HB HW0
  obtain ⟨⟨p0, p1, p2, p3, p4⟩, _⟩ := row_five HX1.out
  obtain ⟨k0, k1, k2, k3⟩ := row_four HY1.out
  go_wp2_with fail
  refine (slim_any c.id c.ra c.rs.length c.rc c.da c.ds.length c.dc c.va c.vs.length c.vc w1).mono ?_
  obtain ⟨b, HBo⟩ : ∃ b, Hid ((decide (c.rs.length ≤ 400) && decide (c.ds.length ≤ 400) && decide (c.vs.length ≤ 400)) = b) := ⟨_, rfl⟩
  rw [HBo.out]
  rintro e w2 ⟨rfl, hb2⟩
  have HB2 : Hid (Below W.heap.size W w2) := HB1.out.trans (hb2.mono HB1.out.size)
  have HX2 : Hid _ := blk_keep hb2 HX1.out
  have HY2 : Hid _ := blk_keep hb2 HY1.out
  clear hb2 HX1 HY1 HB1 p0 p1 p2 p3 p4 k0 k1 k2 k3
  obtain ⟨⟨p0, p1, p2, p3, p4⟩, _⟩ := row_five HX2.out
  obtain ⟨k0, k1, k2, k3⟩ := row_four HY2.out
  cases b
  · go_wp2
    go_ret
    exact ⟨rfl, HB2.out⟩
  · have hsl : (c.rs.length ≤ 400 ∧ c.ds.length ≤ 400) ∧ c.vs.length ≤ 400 := by have h := HBo.out; simpa using h
    obtain ⟨⟨hs1, hs2⟩, hs3⟩ := hsl
    by_cases hpl : 100 < pn
    · have q1 : decide ((100 : Int) < (pn : Int)) = true := by rw [decide_eq_true_iff]; omega
      go_wp2
      go_ret
      exact ⟨rfl, HB2.out⟩
    · have q1 : decide ((100 : Int) < (pn : Int)) = false := by rw [decide_eq_false_iff_not]; omega
      go_wp2_with fail
      refine (columnError_any lid kind mr md c.id pa c.ra c.da c.va pn pc c.rc c.dc c.vc c.rs c.ds c.vs w2 (by omega) (by omega) (HAT.out _ HB2.out).r (HAT.out _ HB2.out).d (HAT.out _ HB2.out).v).mono ?_
      rintro e w3 ⟨⟨ec, ea, rfl, hce⟩, hb3⟩
      have HCE : Hid _ := hce
      have HI3 : Hid (ShPI W lid kind mr md pa pn pc c w3.heap.size ec ea (w3.alloc (.cells (rfl2 ec ea) 31))) := ⟨blk_alloc (blk_keep hb3 HX2.out), blk_alloc (blk_keep hb3 HY2.out), heap_alloc_new _ _, (HB2.out.trans (hb3.mono HB2.out.size)).alloc (HB2.out.trans (hb3.mono HB2.out.size)).size _⟩
      have HSZ : Hid (W.heap.size ≤ w3.heap.size) := (HB2.out.trans (hb3.mono HB2.out.size)).size
      clear hce hb3 HX2 HY2 HB2 p0 p1 p2 p3 p4 k0 k1 k2 k3 q1
      obtain ⟨E, HEE⟩ : ∃ E, Hid (w3.heap.size = E) := ⟨_, rfl⟩
      have HEW : Hid (W.heap.size ≤ E) := (by show _ ≤ _; rw [← HEE.out]; exact HSZ.out)
      go_upto_region 5 with fail
      obtain ⟨wq0, HWq⟩ : ∃ w, Hid (w3.alloc (.cells (rfl2 ec ea) 31) = w) := ⟨_, rfl⟩
      rw [HWq.out, HEE.out] at HI3
      rw [HWq.out, HEE.out]
      clear HWq HEE
      obtain ⟨bb, HBB⟩ : ∃ bb : Bool, Hid (bb = decide (ec = 0 ∧ ¬ (0 ≤ lo ∧ lo ≤ hi ∧ hi ≤ ((cntE 0 c.rs : Nat) : Int)))) := ⟨_, rfl⟩
      obtain ⟨⟨p0, p1, p2, p3, p4⟩, _⟩ := row_five HI3.out.lf
      obtain ⟨k0, k1, k2, k3⟩ := row_four HI3.out.co
      obtain ⟨⟨e0, e1⟩, _, _⟩ := row_two HI3.out.fe
      go_cut [48] (fun x wx => x = .bool bb ∧ Hid (ShPI W lid kind mr md pa pn pc c E ec ea wx))
      case first =>
        by_cases hec : ec = 0
        · subst hec
          by_cases h1 : lo < 0
          · have q1 : decide (lo < 0) = true := decide_eq_true h1
            have hbt : bb = true := by rw [HBB.out, decide_eq_true_iff]; exact ⟨by simp, fun hh => by obtain ⟨hh1, hh2, hh3⟩ := hh; omega⟩
            clear h1
            go_wp2
            go_meet
            exact ⟨by rw [hbt], HI3⟩
          · have q1 : decide (lo < 0) = false := decide_eq_false h1
            by_cases h2 : hi < lo
            · have q2 : decide (hi < lo) = true := decide_eq_true h2
              have hbt : bb = true := by rw [HBB.out, decide_eq_true_iff]; exact ⟨by simp, fun hh => by obtain ⟨hh1, hh2, hh3⟩ := hh; omega⟩
              clear h1 h2
              go_wp2
              go_meet
              exact ⟨by rw [hbt], HI3⟩
            · have q2 : decide (hi < lo) = false := decide_eq_false h2
              go_wp2_with fail
              refine (countOf_any c.id c.ra c.rs c.rc c.da c.ds.length c.dc c.va c.vs.length c.vc (by omega) _ (HAT.out _ HI3.out.old).r).mono ?_
              rintro e w4 ⟨rfl, hb4⟩
              have HI4 : Hid _ := HI3.out.keep hb4
              clear hb4 p0 p1 p2 p3 p4 k0 k1 k2 k3 e0 e1
              by_cases h3 : ((cntE 0 c.rs : Nat) : Int) < hi
              · have q3 : decide (((cntE 0 c.rs : Nat) : Int) < hi) = true := decide_eq_true h3
                have hbt : bb = true := by rw [HBB.out, decide_eq_true_iff]; exact ⟨by simp, fun hh => by obtain ⟨hh1, hh2, hh3⟩ := hh; omega⟩
                clear h1 h2 h3
                go_wp2
                go_meet
                exact ⟨by rw [hbt], HI4⟩
              · have q3 : decide (((cntE 0 c.rs : Nat) : Int) < hi) = false := decide_eq_false h3
                have hbt : bb = false := by rw [HBB.out, decide_eq_false_iff_not]; exact fun hh => hh.2 ⟨by omega, by omega, by omega⟩
                clear h1 h2 h3
                go_wp2
                go_meet
                exact ⟨by rw [hbt], HI4⟩
        · have q1 : (ec == 0) = false := by simp [hec]
          have hbt : bb = false := by rw [HBB.out, decide_eq_false_iff_not]; omega
          clear hec
          go_wp2
          go_meet
          exact ⟨by rw [hbt], HI3⟩
      case rest =>
        obtain ⟨rfl, HI4⟩ := hcut
        clear HI3 p0 p1 p2 p3 p4 k0 k1 k2 k3 e0 e1
        rename World => wq1
        obtain ⟨⟨e0, e1⟩, e2, e3⟩ := row_two HI4.out.fe
        have HE2 : Hid (W.heap.size + 1 < E) := (by
          show _ < _
          have h1 := HI4.out.fe
          rcases Nat.lt_trichotomy (W.heap.size + 1) E with h | h | h
          · exact h
          · rw [← h, HI4.out.co] at h1; simp at h1
          · exfalso
            have h3 : E ≤ W.heap.size := by omega
            rcases Nat.lt_or_ge E W.heap.size with h4 | h4
            · exact absurd HEW.out (by omega)
            · obtain rfl : E = W.heap.size := by omega
              rw [HI4.out.lf] at h1; simp at h1)
        go_upto_if 48 with fail
        go_cut [] (fun wx => ∃ ec2 ea2 : Int, Hid (ShPI W lid kind mr md pa pn pc c E ec2 ea2 wx) ∧ Hid (ExpP lid kind mr md c lo hi ec2 ea2))
        case first =>
          cases bb
          · have HX : Hid (ExpP lid kind mr md c lo hi ec ea) := (by
              rcases HCE.out with ⟨h1, h2, h3⟩ | ⟨h1, ⟨h2, h3, h4⟩ | ⟨p, hp, h2, h3, h4, h5⟩⟩
              · exact .inl ⟨h1, h2, h3⟩
              · refine .inr (.inr (.inr ⟨h2, ⟨h1, h4⟩, ?_⟩))
                have h := HBB.out
                have h' := (decide_eq_false_iff_not.1 h.symm)
                unfold InR
                exact Decidable.byContradiction fun hn => h' ⟨h2, hn⟩
              · exact .inr (.inl ⟨p, hp, h2, h3, h1, h4, h5⟩))
            go_wp2
            go_meet
            exact ⟨ec, ea, HI4, HX⟩
          · have HX : Hid (ExpP lid kind mr md c lo hi 2 (-1)) := (by
              have h := of_decide_eq_true HBB.out.symm
              rcases HCE.out with ⟨h1, h2, h3⟩ | ⟨h1, ⟨h2, h3, h4⟩ | ⟨p, hp, h2, h3, h4, h5⟩⟩
              · omega
              · exact .inr (.inr (.inl ⟨rfl, rfl, ⟨h1, h4⟩, h.2⟩))
              · omega)
            go_wp2_with fail
            refine (bare_b 2 _).mono ?_
            rintro e w5 ⟨rfl, hb5⟩
            have HI5 : Hid _ := HI4.out.keep hb5
            clear hb5 e0 e1 e2 e3
            obtain ⟨⟨e0, e1⟩, e2, e3⟩ := row_two HI5.out.fe
            go_wp2
            go_meet
            refine ⟨2, -1, ⟨?_, ?_, row_put HI5.out.fe 2 (-1), (HI5.out.old.setCell (by have := HE2.out; simp; omega) _).setCell (by have := HE2.out; simp; omega) _⟩, HX⟩
            · exact blk_other (blk_other HI5.out.lf (by have := HE2.out; omega) _) (by have := HE2.out; omega) _
            · exact blk_other (blk_other HI5.out.co (by have := HE2.out; omega) _) (by have := HE2.out; omega) _
        case rest =>
          obtain ⟨ec2, ea2, HI, HEx⟩ := hcut
          clear HI4 e0 e1 e2 e3 HCE HBB
          rename World => wq
          go_upto_region 7 with fail
          go_cut [11, 12] (fun x y wx => ∃ (g N : Nat) (k : Cl), x = .pointer (some ⟨g, 0, none⟩) ∧ Hid (ShPI W lid kind mr md pa pn pc c E ec2 ea2 wx) ∧ Hid (wx.heap[g]? = some (.cells #[.int .i64 k.id, .slice k.ra k.rs.length k.rc, .slice k.da k.ds.length k.dc, .slice k.va k.vs.length k.vc] 27 (0, 0))) ∧ Hid (k.At wx) ∧ Hid (FinP N lid kind mr md c lo hi A ec2 ea2 k y wx))
          case first =>
            have b0 : Below wq.heap.size wq wq := Below.refl _ _
            have HN : Hid (∀ X, Below wq.heap.size wq X → (X.cell? ⟨W.heap.size, 0, none⟩ = some (.int .i64 lid) ∧ X.cell? ⟨W.heap.size, 1, none⟩ = some (.int .i64 kind) ∧ X.cell? ⟨W.heap.size, 2, none⟩ = some (.int .i64 mr) ∧ X.cell? ⟨W.heap.size, 3, none⟩ = some (.int .i64 md) ∧ X.cell? ⟨W.heap.size, 4, none⟩ = some (.slice pa pn pc)) ∧ (X.cell? ⟨W.heap.size + 1, 0, none⟩ = some (.int .i64 c.id) ∧ X.cell? ⟨W.heap.size + 1, 1, none⟩ = some (.slice c.ra c.rs.length c.rc) ∧ X.cell? ⟨W.heap.size + 1, 2, none⟩ = some (.slice c.da c.ds.length c.dc) ∧ X.cell? ⟨W.heap.size + 1, 3, none⟩ = some (.slice c.va c.vs.length c.vc)) ∧ Below wq.heap.size wq X) := fun X hX => ⟨(row_five (blk_keep hX HI.out.lf)).1, row_four (blk_keep hX HI.out.co), hX⟩
            have HO1 : Hid (∀ X, Below wq.heap.size wq X → Calls Tryz.prog 11 #[.agg #[.int .i64 lid, .int .i64 kind, .int .i64 mr, .int .i64 md, .slice pa pn pc]] X fun e w' => (∃ pa' pc', e = .returned (.agg #[.int .i64 lid, .int .i64 kind, .int .i64 mr, .int .i64 md, .slice pa' pn pc'])) ∧ Below wq.heap.size wq w' ∧ Below X.heap.size X w') := fun X hX => (by
              have h := ownLeaf_any lid kind mr md pa pc ps X (by rw [HPN.out]; omega) (HP.out _ (HI.out.keep hX).old)
              rw [HPN.out] at h
              exact h.mono fun e w' h => ⟨(by obtain ⟨⟨pa', pc', h1, _⟩, _⟩ := h; exact ⟨pa', pc', h1⟩), bel_next hX (Nat.le_refl _) h.2, h.2⟩)
            have HO2 : Hid (∀ X, Below wq.heap.size wq X → Calls Tryz.prog 12 #[.agg #[.int .i64 c.id, .slice c.ra c.rs.length c.rc, .slice c.da c.ds.length c.dc, .slice c.va c.vs.length c.vc]] X fun e w' => (∃ k : Cl, e = .returned (.agg #[.int .i64 k.id, .slice k.ra k.rs.length k.rc, .slice k.da k.ds.length k.dc, .slice k.va k.vs.length k.vc]) ∧ k.At w' ∧ SameC c k) ∧ Below wq.heap.size wq w' ∧ Below X.heap.size X w') := fun X hX => (ownColumn_cl c X (by omega) (by omega) (by omega) (HAT.out _ (HI.out.keep hX).old)).mono fun e w' h => ⟨(by obtain ⟨⟨k, h1, h2, _, h3⟩, _⟩ := h; exact ⟨k, h1, h2, h3⟩), bel_next hX (Nat.le_refl _) h.2, h.2⟩
            have HO3 : Hid (∀ X (k0 : Cl) pa' pc', Below wq.heap.size wq X → k0.At X → SameC c k0 → Calls Tryz.prog 10 #[.agg #[.int .i64 lid, .int .i64 kind, .int .i64 mr, .int .i64 md, .slice pa' pn pc'], .agg #[.int .i64 k0.id, .slice k0.ra k0.rs.length k0.rc, .slice k0.da k0.ds.length k0.dc, .slice k0.va k0.vs.length k0.vc], .int .i64 lo, .int .i64 hi] X fun e w' => (∃ (k : Cl) (ev : Value), e = .returned (.tuple #[.agg #[.int .i64 k.id, .slice k.ra k.rs.length k.rc, .slice k.da k.ds.length k.dc, .slice k.va k.vs.length k.vc], ev]) ∧ k.At w' ∧ k.Fr X.heap.size ∧ FinP X.heap.size lid kind mr md c lo hi A ec2 ea2 k ev w') ∧ Below wq.heap.size wq w' ∧ Below X.heap.size X w') := fun X k0 pa' pc' hX ka ks => (by
              have hEX := HA0.out _ (HI.out.keep hX).old
              refine (part_any lid kind mr md lo hi pa' pn pc' k0 X _ _ _ _ _ _ (by rw [ks.rs]; omega) (by rw [ks.ds]; omega) (by rw [ks.vs]; omega) ks.cap.1 ks.cap.2.1 ks.cap.2.2 (ecS hEX 2 (by omega)) (ecS hEX 3 (by omega)) (ecS hEX 1 (by omega)) ka).mono fun e w' h => ⟨?_, bel_next hX (Nat.le_refl _) h.2, h.2⟩
              exact fin_of HEx.out (PtRet.same ks h.1))
            go_region_held3 (fun X => (X.cell? ⟨W.heap.size, 0, none⟩ = some (.int .i64 lid) ∧ X.cell? ⟨W.heap.size, 1, none⟩ = some (.int .i64 kind) ∧ X.cell? ⟨W.heap.size, 2, none⟩ = some (.int .i64 mr) ∧ X.cell? ⟨W.heap.size, 3, none⟩ = some (.int .i64 md) ∧ X.cell? ⟨W.heap.size, 4, none⟩ = some (.slice pa pn pc)) ∧ (X.cell? ⟨W.heap.size + 1, 0, none⟩ = some (.int .i64 c.id) ∧ X.cell? ⟨W.heap.size + 1, 1, none⟩ = some (.slice c.ra c.rs.length c.rc) ∧ X.cell? ⟨W.heap.size + 1, 2, none⟩ = some (.slice c.da c.ds.length c.dc) ∧ X.cell? ⟨W.heap.size + 1, 3, none⟩ = some (.slice c.va c.vs.length c.vc)) ∧ Below wq.heap.size wq X) (with_reducible refine HN.out _ ?_; repeat' (first | with_reducible assumption | with_reducible exact b0.drew | with_reducible exact b0 | with_reducible refine Below.drew ?_ | with_reducible exact Nat.le_refl _ | with_reducible refine Below.setCell ?_ ?_ _ | with_reducible refine Below.alloc ?_ ?_ _ | with_reducible exact Below.size (by assumption) | (simp; done) | (simp; omega) | omega)) (first | (go_at_call 11; (with_reducible refine Calls.mono (HO1.out _ ?_) ?_); (repeat' (first | with_reducible assumption | with_reducible exact b0.drew | with_reducible exact b0 | with_reducible refine Below.drew ?_ | with_reducible refine Below.alloc ?_ ?_ _ | with_reducible exact Below.size (by assumption) | with_reducible exact Nat.le_refl _)); rintro e x1 ⟨⟨pa', pc', rfl⟩, hbx1, hraw1⟩; (first | (have hzz := blk_keep hraw1 hzz0; clear hzz0; have hzz0 := hzz; clear hzz) | (have hzz0 := blk_keep hraw1 (blk_drew (heap_alloc_new _ (.cells #[.int .i64 0, .slice none 0 0, .slice none 0 0, .slice none 0 0] 27)))) | (have hzz0 := blk_keep hraw1 (heap_alloc_new _ (.cells #[.int .i64 0, .slice none 0 0, .slice none 0 0, .slice none 0 0] 27))) | skip)) | (go_at_call 12; (with_reducible refine Calls.mono (HO2.out _ ?_) ?_); (repeat' (first | with_reducible assumption | with_reducible exact b0.drew | with_reducible exact b0 | with_reducible refine Below.drew ?_ | with_reducible refine Below.alloc ?_ ?_ _ | with_reducible exact Below.size (by assumption) | with_reducible exact Nat.le_refl _)); rintro e x2 ⟨⟨k0, rfl, ka0, ks0⟩, hbx2, hraw2⟩; have HK0 : Hid _ := ka0; have HKS0 : Hid _ := ks0; clear ka0 ks0; (first | (have hzz := blk_keep hraw2 hzz0; clear hzz0; have hzz0 := hzz; clear hzz) | (have hzz0 := blk_keep hraw2 (blk_drew (heap_alloc_new _ (.cells #[.int .i64 0, .slice none 0 0, .slice none 0 0, .slice none 0 0] 27)))) | (have hzz0 := blk_keep hraw2 (heap_alloc_new _ (.cells #[.int .i64 0, .slice none 0 0, .slice none 0 0, .slice none 0 0] 27))) | skip)) | (go_at_call 10; (with_reducible refine Calls.mono (HO3.out _ k0 pa' pc' ?_ ?_ ?_) ?_); (repeat' (first | with_reducible assumption | with_reducible exact b0.drew | with_reducible exact b0 | with_reducible refine Below.drew ?_ | with_reducible refine Below.alloc ?_ ?_ _ | with_reducible exact Below.size (by assumption) | with_reducible exact Nat.le_refl _)); (first | exact HK0.out | exact HK0.out.keep (((Below.refl _ _).alloc (Nat.le_refl _) _).drew) | exact HK0.out.keep ((Below.refl _ _).alloc (Nat.le_refl _) _)); exact HKS0.out; rintro e x3 ⟨⟨k, ev, rfl, ka, kf, hfin⟩, hbx3, hraw3⟩; have HKA : Hid _ := ka; have HKF : Hid _ := kf; have HFN : Hid _ := hfin; have HBX3 : Hid _ := hbx3; clear ka kf hfin; (first | (have hzz := blk_keep hraw3 hzz0; clear hzz0; have hzz0 := hzz; clear hzz) | (have hzz0 := blk_keep hraw3 (blk_drew (heap_alloc_new _ (.cells #[.int .i64 0, .slice none 0 0, .slice none 0 0, .slice none 0 0] 27)))) | (have hzz0 := blk_keep hraw3 (heap_alloc_new _ (.cells #[.int .i64 0, .slice none 0 0, .slice none 0 0, .slice none 0 0] 27))) | skip); (first | (obtain ⟨z0, z1, z2, z3⟩ := row_four hzz0; obtain ⟨y0, y1, y2, y3⟩ := row_fourA hzz0; have HZZ : Hid _ := hzz0; clear hzz0) | skip)))
            · have hz1 := hbx1.size
              have hz2 := hbx2.size
              have hr1 := hraw1.size
              have hr2 := hraw2.size
              go_wp2_with fail
              go_meet
              exact ⟨x3.heap.size, _, k, rfl, HI.out.keep (HBX3.out.alloc HBX3.out.size _), heap_alloc_new _ _, HKA.out.keep ((Below.refl _ _).alloc (Nat.le_refl _) _), FinP.keep HFN.out ((Below.refl _ _).alloc (Nat.le_refl _) _)⟩
            · have hz1 := hbx1.size
              have hz2 := hbx2.size
              have hr1 := hraw1.size
              have hr2 := hraw2.size
              go_wp2_with fail
              go_meet
              have hgw : wq.heap.size ≤ x2.heap.size := by simp at hz1 hz2 hr1 hr2 ⊢; try omega
              have hgN : x2.heap.size < (x2.alloc (.cells #[.int .i64 0, .slice none 0 0, .slice none 0 0, .slice none 0 0] 27)).heap.size := by simp at hz1 hz2 hr1 hr2 ⊢; try omega
              exact ⟨x2.heap.size, (x2.alloc (.cells #[.int .i64 0, .slice none 0 0, .slice none 0 0, .slice none 0 0] 27)).heap.size, k, rfl, HI.out.keep ((((HBX3.out.setCell hgw _).setCell hgw _).setCell hgw _).setCell hgw _), row_setCell (row_setCell (row_setCell (row_setCell HZZ.out _) _) _) _, (((HKA.out.off HKF.out hgN).off HKF.out hgN).off HKF.out hgN).off HKF.out hgN, FinP.off (FinP.off (FinP.off (FinP.off HFN.out hgN) hgN) hgN) hgN⟩
            · have hz1 := hbx1.size
              have hz2 := hbx2.size
              have hr1 := hraw1.size
              have hr2 := hraw2.size
              go_wp2_with fail
              go_meet
              have hgw : wq.heap.size ≤ x1.heap.size := by simp at hz1 hz2 hr1 hr2 ⊢; try omega
              have hgN : x1.heap.size < x2.heap.size := by simp at hz1 hz2 hr1 hr2 ⊢; try omega
              exact ⟨x1.heap.size, x2.heap.size, k, rfl, HI.out.keep ((((HBX3.out.setCell hgw _).setCell hgw _).setCell hgw _).setCell hgw _), row_setCell (row_setCell (row_setCell (row_setCell HZZ.out _) _) _) _, (((HKA.out.off HKF.out hgN).off HKF.out hgN).off HKF.out hgN).off HKF.out hgN, FinP.off (FinP.off (FinP.off (FinP.off HFN.out hgN) hgN) hgN) hgN⟩
            · have hz1 := hbx1.size
              have hz2 := hbx2.size
              have hr1 := hraw1.size
              have hr2 := hraw2.size
              go_wp2_with fail
              go_meet
              have hgw : wq.heap.size ≤ wq.heap.size := by simp at hz1 hz2 hr1 hr2 ⊢; try omega
              have hgN : wq.heap.size < x2.heap.size := by simp at hz1 hz2 hr1 hr2 ⊢; try omega
              exact ⟨wq.heap.size, x2.heap.size, k, rfl, HI.out.keep ((((HBX3.out.setCell hgw _).setCell hgw _).setCell hgw _).setCell hgw _), row_setCell (row_setCell (row_setCell (row_setCell HZZ.out _) _) _) _, (((HKA.out.off HKF.out hgN).off HKF.out hgN).off HKF.out hgN).off HKF.out hgN, FinP.off (FinP.off (FinP.off (FinP.off HFN.out hgN) hgN) hgN) hgN⟩
          case rest =>
            obtain ⟨g, N, k, rfl, HI2, HPB, HKA, HFN⟩ := hcut
            clear HI
            rename World => wp
            go_upto_region 8 with fail
            go_cut [65] (fun x wx => x = .bool false ∧ Hid (Below wp.heap.size wp wx))
            case first =>
              have b0 : Below wp.heap.size wp wp := Below.refl _ _
              have HN : Hid (∀ X, Below wp.heap.size wp X → (X.cell? ⟨W.heap.size, 0, none⟩ = some (.int .i64 lid) ∧ X.cell? ⟨W.heap.size, 1, none⟩ = some (.int .i64 kind) ∧ X.cell? ⟨W.heap.size, 2, none⟩ = some (.int .i64 mr) ∧ X.cell? ⟨W.heap.size, 3, none⟩ = some (.int .i64 md) ∧ X.cell? ⟨W.heap.size, 4, none⟩ = some (.slice pa pn pc)) ∧ (X.cell? ⟨W.heap.size + 1, 0, none⟩ = some (.int .i64 c.id) ∧ X.cell? ⟨W.heap.size + 1, 1, none⟩ = some (.slice c.ra c.rs.length c.rc) ∧ X.cell? ⟨W.heap.size + 1, 2, none⟩ = some (.slice c.da c.ds.length c.dc) ∧ X.cell? ⟨W.heap.size + 1, 3, none⟩ = some (.slice c.va c.vs.length c.vc)) ∧ Below wp.heap.size wp X) := fun X hX => ⟨(row_five (blk_keep hX HI2.out.lf)).1, row_four (blk_keep hX HI2.out.co), hX⟩
              have HO2 : Hid (∀ X, Below wp.heap.size wp X → Calls Tryz.prog 12 #[.agg #[.int .i64 c.id, .slice c.ra c.rs.length c.rc, .slice c.da c.ds.length c.dc, .slice c.va c.vs.length c.vc]] X fun e w' => (∃ k : Cl, e = .returned (.agg #[.int .i64 k.id, .slice k.ra k.rs.length k.rc, .slice k.da k.ds.length k.dc, .slice k.va k.vs.length k.vc]) ∧ k.At w' ∧ SameC c k) ∧ Below wp.heap.size wp w') := fun X hX => (ownColumn_cl c X (by omega) (by omega) (by omega) (HAT.out _ (HI2.out.keep hX).old)).mono fun e w' h => ⟨(by obtain ⟨⟨k, h1, h2, _, h3⟩, _⟩ := h; exact ⟨k, h1, h2, h3⟩), bel_next hX (Nat.le_refl _) h.2⟩
              have HC1 : Hid (∀ X (k0 : Cl), Below wp.heap.size wp X → k0.At X → SameC c k0 → Calls Tryz.prog 13 #[.agg #[.int .i64 k0.id, .slice k0.ra k0.rs.length k0.rc, .slice k0.da k0.ds.length k0.dc, .slice k0.va k0.vs.length k0.vc]] X fun e w' => e = .returned (.int .i64 (cntE 0 c.rs : Nat)) ∧ Below wp.heap.size wp w') := fun X k0 hX ka ks => (count_any k0.id k0.ra k0.rs k0.rc k0.da k0.ds.length k0.dc k0.va k0.vs.length k0.vc (by rw [ks.rs]; omega) X ka.r).mono fun e w' h => ⟨by rw [← ks.rs]; exact h.1, bel_next hX (Nat.le_refl _) h.2⟩
              have HC2 : Hid (∀ X, Below wp.heap.size wp X → Calls Tryz.prog 8 #[.agg #[.int .i64 c.id, .slice c.ra c.rs.length c.rc, .slice c.da c.ds.length c.dc, .slice c.va c.vs.length c.vc]] X fun e w' => e = .returned (.int .i64 (cntE 0 c.rs : Nat)) ∧ Below wp.heap.size wp w') := fun X hX => (countOf_any c.id c.ra c.rs c.rc c.da c.ds.length c.dc c.va c.vs.length c.vc (by omega) X (HAT.out _ (HI2.out.keep hX).old).r).mono fun e w' h => ⟨h.1, bel_next hX (Nat.le_refl _) h.2⟩
              go_region_held3 (fun X => (X.cell? ⟨W.heap.size, 0, none⟩ = some (.int .i64 lid) ∧ X.cell? ⟨W.heap.size, 1, none⟩ = some (.int .i64 kind) ∧ X.cell? ⟨W.heap.size, 2, none⟩ = some (.int .i64 mr) ∧ X.cell? ⟨W.heap.size, 3, none⟩ = some (.int .i64 md) ∧ X.cell? ⟨W.heap.size, 4, none⟩ = some (.slice pa pn pc)) ∧ (X.cell? ⟨W.heap.size + 1, 0, none⟩ = some (.int .i64 c.id) ∧ X.cell? ⟨W.heap.size + 1, 1, none⟩ = some (.slice c.ra c.rs.length c.rc) ∧ X.cell? ⟨W.heap.size + 1, 2, none⟩ = some (.slice c.da c.ds.length c.dc) ∧ X.cell? ⟨W.heap.size + 1, 3, none⟩ = some (.slice c.va c.vs.length c.vc)) ∧ Below wp.heap.size wp X) (with_reducible refine HN.out _ ?_; repeat' (first | with_reducible assumption | with_reducible exact b0.drew | with_reducible exact b0 | with_reducible refine Below.drew ?_ | with_reducible exact Nat.le_refl _ | with_reducible refine Below.setCell ?_ ?_ _ | with_reducible refine Below.alloc ?_ ?_ _ | with_reducible exact Below.size (by assumption) | (simp; done) | (simp; omega) | omega)) (first | (go_at_call 12; (with_reducible refine Calls.mono (HO2.out _ ?_) ?_); (first | with_reducible assumption | with_reducible exact b0.drew); rintro e x1 ⟨⟨k0, rfl, ka0, ks0⟩, hbx1⟩; have HK0 : Hid _ := ka0; have HKS0 : Hid _ := ks0; clear ka0 ks0) | (go_at_call 13; (with_reducible refine Calls.mono (HC1.out _ k0 ?_ ?_ ?_) ?_); (first | with_reducible assumption | with_reducible exact b0.drew); exact HK0.out; exact HKS0.out; rintro e x2 ⟨rfl, hbx2⟩) | (go_at_call 8; (with_reducible refine Calls.mono (HC2.out _ ?_) ?_); (first | with_reducible assumption | with_reducible exact b0.drew); rintro e x3 ⟨rfl, hbx3⟩))
              all_goals
                go_wp2_with fail
                go_meet
                exact ⟨by simp, by first | exact hbx3 | exact hbx2 | exact hbx1⟩
            case rest =>
              obtain ⟨rfl, HBp⟩ := hcut
              rename World => wz
              have HI : Hid (ShPI W lid kind mr md pa pn pc c E ec2 ea2 wz) := HI2.out.keep HBp.out
              have HPB2 : Hid (wz.heap[g]? = some (.cells #[.int .i64 k.id, .slice k.ra k.rs.length k.rc, .slice k.da k.ds.length k.dc, .slice k.va k.vs.length k.vc] 27 (0, 0))) := blk_keep HBp.out HPB.out
              have HKA2 : Hid (k.At wz) := HKA.out.keep HBp.out
              have hfin := FinP.keep HFN.out HBp.out
              clear HI2 HPB HKA HFN HBp
              rename Hid (k.At wz) => HKA
              rename Hid (wz.heap[g]? = _) => HPB
              rcases hfin with ⟨h1, h2, h3, h4⟩ | ⟨p, q, _, h1, h2, h3, h4, h5, h6⟩ | ⟨h1, h2, h3, h4⟩ | ⟨h1, h4, hgood, a, b, hsa, hsb, k1, k2, k3, k4⟩
              · subst h1 h2 h3 h4
                have HPZ : Hid (wz.heap[g]? = some (.cells #[.int .i64 0, .slice none 0 0, .slice none 0 0, .slice none 0 0] 27 (0, 0))) := HPB.out
                clear HPB HKA
                obtain ⟨⟨e0, e1⟩, e2, e3⟩ := row_two HI.out.fe
                go_wp2_with fail
                refine (faulted_sent wz A (HA0.out _ HI.out.old) 2 (by omega) 3 (by omega)).mono ?_
                rintro e w5 ⟨rfl, hb5⟩
                have HI5 : Hid _ := HI.out.keep hb5
                have HPZ5 : Hid _ := blk_keep hb5 HPZ.out
                clear hb5 e0 e1 e2 e3
                obtain ⟨z0, z1, z2, z3⟩ := row_four HPZ5.out
                go_wp2_with fail
                refine (sameColumn_any 0 0 none none none none none none 0 0 0 0 0 0 [] [] [] [] [] [] w5 (by simp) (by simp) (by simp) (fun j h => absurd h (by simp [i64s])) (fun j h => absurd h (by simp [i64s])) (fun j h => absurd h (by simp [i64s])) (fun j h => absurd h (by simp [i64s])) (fun j h => absurd h (by simp)) (fun j h => absurd h (by simp))).mono ?_
                rintro e w6 ⟨⟨t, rfl, ht⟩, hb6⟩
                obtain rfl : t = true := ht.2 ⟨rfl, rfl, rfl, rfl⟩
                have HB6 : Hid (Below W.heap.size W w6) := HI5.out.old.trans (hb6.mono HI5.out.old.size)
                clear hb6 ht
                go_wp2
                go_ret
                exact ⟨rfl, HB6.out⟩
              · subst h1 h2 h3 h4
                have HQ0 : Hid _ := h5
                have HQ1 : Hid _ := h6
                clear h5 h6
                have HPZ : Hid (wz.heap[g]? = some (.cells #[.int .i64 0, .slice none 0 0, .slice none 0 0, .slice none 0 0] 27 (0, 0))) := HPB.out
                clear HPB HKA
                obtain ⟨⟨e0, e1⟩, e2, e3⟩ := row_two HI.out.fe
                go_wp2_with fail
                refine (faulted_fault wz A (HA0.out _ HI.out.old) 3 q (by omega) p HQ0.out HQ1.out 4 (by omega)).mono ?_
                rintro e w5 ⟨rfl, hb5⟩
                have HI5 : Hid _ := HI.out.keep hb5
                have HPZ5 : Hid _ := blk_keep hb5 HPZ.out
                clear hb5 e0 e1 e2 e3
                obtain ⟨z0, z1, z2, z3⟩ := row_four HPZ5.out
                go_wp2_with fail
                refine (sameColumn_any 0 0 none none none none none none 0 0 0 0 0 0 [] [] [] [] [] [] w5 (by simp) (by simp) (by simp) (fun j h => absurd h (by simp [i64s])) (fun j h => absurd h (by simp [i64s])) (fun j h => absurd h (by simp [i64s])) (fun j h => absurd h (by simp [i64s])) (fun j h => absurd h (by simp)) (fun j h => absurd h (by simp))).mono ?_
                rintro e w6 ⟨⟨t, rfl, ht⟩, hb6⟩
                obtain rfl : t = true := ht.2 ⟨rfl, rfl, rfl, rfl⟩
                have HB6 : Hid (Below W.heap.size W w6) := HI5.out.old.trans (hb6.mono HI5.out.old.size)
                clear hb6 ht
                go_wp2
                go_ret
                exact ⟨rfl, HB6.out⟩
              · subst h1 h2 h3 h4
                have HPZ : Hid (wz.heap[g]? = some (.cells #[.int .i64 0, .slice none 0 0, .slice none 0 0, .slice none 0 0] 27 (0, 0))) := HPB.out
                clear HPB HKA
                obtain ⟨⟨e0, e1⟩, e2, e3⟩ := row_two HI.out.fe
                go_wp2_with fail
                refine (faulted_sent wz A (HA0.out _ HI.out.old) 1 (by omega) 2 (by omega)).mono ?_
                rintro e w5 ⟨rfl, hb5⟩
                have HI5 : Hid _ := HI.out.keep hb5
                have HPZ5 : Hid _ := blk_keep hb5 HPZ.out
                clear hb5 e0 e1 e2 e3
                obtain ⟨z0, z1, z2, z3⟩ := row_four HPZ5.out
                go_wp2_with fail
                refine (sameColumn_any 0 0 none none none none none none 0 0 0 0 0 0 [] [] [] [] [] [] w5 (by simp) (by simp) (by simp) (fun j h => absurd h (by simp [i64s])) (fun j h => absurd h (by simp [i64s])) (fun j h => absurd h (by simp [i64s])) (fun j h => absurd h (by simp [i64s])) (fun j h => absurd h (by simp)) (fun j h => absurd h (by simp))).mono ?_
                rintro e w6 ⟨⟨t, rfl, ht⟩, hb6⟩
                obtain rfl : t = true := ht.2 ⟨rfl, rfl, rfl, rfl⟩
                have HB6 : Hid (Below W.heap.size W w6) := HI5.out.old.trans (hb6.mono HI5.out.old.size)
                clear hb6 ht
                go_wp2
                go_ret
                exact ⟨rfl, HB6.out⟩
              · subst h1 h4
                have HGd : Hid _ := hgood
                have HSA : Hid (StAt c.rs lo a) := hsa
                have HSB : Hid (StAt c.rs hi b) := hsb
                have HK1 : Hid (k.id = lid) := k1
                have HK2 : Hid (k.rs = cutL c.rs a b) := k2
                have HK3 : Hid (k.ds = cutL c.ds a b) := k3
                have HK4 : Hid (k.vs = cutL c.vs (cntE md (c.ds.take a)) (cntE md (c.ds.take b))) := k4
                clear hgood hsa hsb k1 k2 k3 k4
                obtain ⟨⟨e0, e1⟩, e2, e3⟩ := row_two HI.out.fe
                have b0 : Below wz.heap.size wz wz := Below.refl _ _
                have HN : Hid (∀ X, Below wz.heap.size wz X → (X.cell? ⟨W.heap.size, 0, none⟩ = some (.int .i64 lid) ∧ X.cell? ⟨W.heap.size, 1, none⟩ = some (.int .i64 kind) ∧ X.cell? ⟨W.heap.size, 2, none⟩ = some (.int .i64 mr) ∧ X.cell? ⟨W.heap.size, 3, none⟩ = some (.int .i64 md) ∧ X.cell? ⟨W.heap.size, 4, none⟩ = some (.slice pa pn pc)) ∧ (X.cell? ⟨W.heap.size + 1, 0, none⟩ = some (.int .i64 c.id) ∧ X.cell? ⟨W.heap.size + 1, 1, none⟩ = some (.slice c.ra c.rs.length c.rc) ∧ X.cell? ⟨W.heap.size + 1, 2, none⟩ = some (.slice c.da c.ds.length c.dc) ∧ X.cell? ⟨W.heap.size + 1, 3, none⟩ = some (.slice c.va c.vs.length c.vc)) ∧ (X.cell? ⟨g, 0, none⟩ = some (.int .i64 k.id) ∧ X.cell? ⟨g, 1, none⟩ = some (.slice k.ra k.rs.length k.rc) ∧ X.cell? ⟨g, 2, none⟩ = some (.slice k.da k.ds.length k.dc) ∧ X.cell? ⟨g, 3, none⟩ = some (.slice k.va k.vs.length k.vc)) ∧ Below wz.heap.size wz X) := fun X hX => ⟨(row_five (blk_keep hX HI.out.lf)).1, row_four (blk_keep hX HI.out.co), row_four (blk_keep hX HPB.out), hX⟩
                have HC3 : Hid (∀ X, Below wz.heap.size wz X → Calls Tryz.prog 16 #[.agg #[.int .i64 lid, .int .i64 kind, .int .i64 mr, .int .i64 md, .slice pa pn pc], .agg #[.int .i64 c.id, .slice c.ra c.rs.length c.rc, .slice c.da c.ds.length c.dc, .slice c.va c.vs.length c.vc], .int .i64 lo, .int .i64 hi] X fun e w' => (∃ m : Cl, e = .returned (.agg #[.int .i64 m.id, .slice m.ra m.rs.length m.rc, .slice m.da m.ds.length m.dc, .slice m.va m.vs.length m.vc]) ∧ m.At w' ∧ (k.id = m.id ∧ k.rs = m.rs ∧ k.ds = m.ds ∧ k.vs = m.vs)) ∧ Below wz.heap.size wz w') := fun X hX => (by
                  obtain ⟨hfid, hfl, _, _, _, hfv⟩ := fitB_iff.1 (show fitB lid mr md c.id c.rs c.ds c.vs.length = true from by have h := HGd.out.1; simp at h; exact h.2)
                  refine (partOf_any lid kind mr md lo hi pa pn pc c X a b (by omega) (by omega) hfl hfv HSA.out HSB.out (HAT.out _ (HI.out.keep hX).old)).mono fun e w' h => ⟨?_, bel_next hX (Nat.le_refl _) h.2⟩
                  obtain ⟨⟨m, h1, h2, h3, h4, h5, h6⟩, _⟩ := h
                  exact ⟨m, h1, h2, by rw [HK1.out, h3, hfid], by rw [HK2.out, h4], by rw [HK3.out, h5], by rw [HK4.out, h6]⟩)
                have hk2 : k.rs.length ≤ 400 := by rw [HK2.out]; exact Nat.le_trans (cutL_le _ _ _) hs1
                have hk3 : k.ds.length ≤ 400 := by rw [HK3.out]; exact Nat.le_trans (cutL_le _ _ _) hs2
                have hk4 : k.vs.length ≤ 400 := by rw [HK4.out]; exact Nat.le_trans (cutL_le _ _ _) hs3
                have HC4 : Hid (∀ X (m : Cl), Below wz.heap.size wz X → m.At X → (k.id = m.id ∧ k.rs = m.rs ∧ k.ds = m.ds ∧ k.vs = m.vs) → Calls Tryz.prog 15 #[.agg #[.int .i64 k.id, .slice k.ra k.rs.length k.rc, .slice k.da k.ds.length k.dc, .slice k.va k.vs.length k.vc], .agg #[.int .i64 m.id, .slice m.ra m.rs.length m.rc, .slice m.da m.ds.length m.dc, .slice m.va m.vs.length m.vc]] X fun e w' => e = .returned (.bool true) ∧ Below wz.heap.size wz w') := fun X m hX hm he => (by
                  have hka := HKA.out.keep hX
                  refine (sameColumn_any k.id m.id k.ra m.ra k.da m.da k.va m.va k.rc m.rc k.dc m.dc k.vc m.vc k.rs m.rs k.ds m.ds k.vs m.vs X (by unfold maxLen; omega) (by unfold maxLen; omega) (by unfold maxLen; omega) hka.r hm.r hka.d hm.d hka.v hm.v).mono fun e w' h => ⟨?_, bel_next hX (Nat.le_refl _) h.2⟩
                  obtain ⟨⟨t, rfl, ht⟩, _⟩ := h
                  rw [ht.2 he])
                go_wp2_with fail
                go_region_held3 (fun X => (X.cell? ⟨W.heap.size, 0, none⟩ = some (.int .i64 lid) ∧ X.cell? ⟨W.heap.size, 1, none⟩ = some (.int .i64 kind) ∧ X.cell? ⟨W.heap.size, 2, none⟩ = some (.int .i64 mr) ∧ X.cell? ⟨W.heap.size, 3, none⟩ = some (.int .i64 md) ∧ X.cell? ⟨W.heap.size, 4, none⟩ = some (.slice pa pn pc)) ∧ (X.cell? ⟨W.heap.size + 1, 0, none⟩ = some (.int .i64 c.id) ∧ X.cell? ⟨W.heap.size + 1, 1, none⟩ = some (.slice c.ra c.rs.length c.rc) ∧ X.cell? ⟨W.heap.size + 1, 2, none⟩ = some (.slice c.da c.ds.length c.dc) ∧ X.cell? ⟨W.heap.size + 1, 3, none⟩ = some (.slice c.va c.vs.length c.vc)) ∧ (X.cell? ⟨g, 0, none⟩ = some (.int .i64 k.id) ∧ X.cell? ⟨g, 1, none⟩ = some (.slice k.ra k.rs.length k.rc) ∧ X.cell? ⟨g, 2, none⟩ = some (.slice k.da k.ds.length k.dc) ∧ X.cell? ⟨g, 3, none⟩ = some (.slice k.va k.vs.length k.vc)) ∧ Below wz.heap.size wz X) (with_reducible refine HN.out _ ?_; repeat' (first | with_reducible assumption | with_reducible exact b0.drew | with_reducible exact b0 | with_reducible refine Below.drew ?_ | with_reducible exact Nat.le_refl _ | with_reducible refine Below.setCell ?_ ?_ _ | with_reducible refine Below.alloc ?_ ?_ _ | with_reducible exact Below.size (by assumption) | (simp; done) | (simp; omega) | omega)) (first | (go_at_call 16; (with_reducible refine Calls.mono (HC3.out _ ?_) ?_); (first | with_reducible assumption | with_reducible exact b0.drew); rintro e x1 ⟨⟨m, rfl, hm1, hm2⟩, hbx1⟩; have HM1 : Hid _ := hm1; have HM2 : Hid (k.id = m.id ∧ k.rs = m.rs ∧ k.ds = m.ds ∧ k.vs = m.vs) := hm2; clear hm1 hm2) | (go_at_call 15; (with_reducible refine Calls.mono (HC4.out _ m ?_ ?_ ?_) ?_); (first | with_reducible assumption | with_reducible exact b0.drew); exact HM1.out; exact HM2.out; rintro e x2 ⟨rfl, hbx2⟩))
                all_goals
                  go_wp2
                  go_ret
                  exact ⟨rfl, (HI.out.keep hbx2).old⟩
end Go.Proofs.YtcejgakjgcniiaaGreatDoor
