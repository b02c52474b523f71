/-
  The walk of the law ShredJoins.
-/
import Derived.Test.YtcejgakjgcniiaaGreatDoorQBColU
import Derived.Test.YtcejgakjgcniiaaGreatDoorQWShP
namespace Go.Proofs.YtcejgakjgcniiaaGreatDoor
open Go.RowKit
theorem AcI.offE {g N : Nat} {id : Int} {rv dv vv : Value} {reps defs : List Int} {vals : List Vl} {W : World} (h : AcI g N id rv reps dv defs vv vals W) {E j : Nat} {v : Value} (hE : E < N) (hg : E ≠ g) : AcI g N id rv reps dv defs vv vals (W.setCell ⟨E, j, none⟩ v) :=
  ⟨blk_other h.cell (fun e => hg e.symm) _, own_same h.rrow fun k hk => Below.heap_setCell _ ⟨E, j, none⟩ _ _ (by have := (own_block h.rrow hk).1; show k ≠ E; omega), own_same h.drow fun k hk => Below.heap_setCell _ ⟨E, j, none⟩ _ _ (by have := (own_block h.drow hk).1; show k ≠ E; omega), own_same h.vrow fun k hk => Below.heap_setCell _ ⟨E, j, none⟩ _ _ (by have := (own_block h.vrow hk).1; show k ≠ E; omega), h.two⟩
/-- What the law's loop holds: how far each row is. -/
structure SjI (W : World) (lid kind mr md : Int) (pa : Option Addr) (pn pc : Nat) (E G : Nat) (ec ea : Int) (rs ds : List Int) (vs : List Vl) (X : World) : Prop where
  lf : X.heap[W.heap.size]? = some (.cells #[.int .i64 lid, .int .i64 kind, .int .i64 mr, .int .i64 md, .slice pa pn pc] 24 (0, 0))
  fe : X.heap[E]? = some (.cells (rfl2 ec ea) 31 (0, 0))
  acc : ∃ rv dv vv, AcI G (G + 1) lid rv rs dv ds vv vs X
  old : Below W.heap.size W X
theorem SjI.keep {W : World} {lid kind mr md : Int} {pa : Option Addr} {pn pc : Nat} {E G : Nat} {ec ea : Int} {rs ds : List Int} {vs : List Vl} {X w' : World} (h : SjI W lid kind mr md pa pn pc E G ec ea rs ds vs X) (hb : Below X.heap.size X w') : SjI W lid kind mr md pa pn pc E G ec ea rs ds vs w' := by
  obtain ⟨rv, dv, vv, hI⟩ := h.acc
  exact ⟨blk_keep hb h.lf, blk_keep hb h.fe, ⟨rv, dv, vv, hI.stay hb⟩, h.old.trans (hb.mono h.old.size)⟩
theorem SjI.setE {W : World} {lid kind mr md : Int} {pa : Option Addr} {pn pc : Nat} {E G : Nat} {ec ea : Int} {rs ds : List Int} {vs : List Vl} {X : World} (h : SjI W lid kind mr md pa pn pc E G ec ea rs ds vs X) (hE : W.heap.size < E) (hG : E < G) (x y : Int) : SjI W lid kind mr md pa pn pc E G x y rs ds vs ((X.setCell ⟨E, 0, none⟩ (.int .i64 x)).setCell ⟨E, 1, none⟩ (.int .i64 y)) := by
  obtain ⟨rv, dv, vv, hI⟩ := h.acc
  exact ⟨blk_other (blk_other h.lf (by omega) _) (by omega) _, row_put h.fe x y, ⟨rv, dv, vv, (hI.offE (by omega) (by omega)).offE (by omega) (by omega)⟩, (h.old.setCell (by simp; omega) _).setCell (by simp; omega) _⟩
/-- What is wrong with a column. -/
def BadC (lid kind mr md : Int) (c : Cl) (ec ea : Int) : Prop :=
  (ec = 3 ∧ ea = -1 ∧ (isLfB kind mr md && fitB lid mr md c.id c.rs c.ds c.vs.length) = false) ∨
  (∃ p : Nat, ∃ hp : p < c.vs.length, ec = 4 ∧ ea = p ∧ (isLfB kind mr md && fitB lid mr md c.id c.rs c.ds c.vs.length) = true ∧ badV kind c.vs[p] = true ∧ ∀ j (h : j < c.vs.length), j < p → badV kind c.vs[j] = false)
theorem BadC.no {lid kind mr md : Int} {c : Cl} {ec ea : Int} (h : BadC lid kind mr md c ec ea) : ¬ GoodC lid kind mr md c := fun hg => by
  rcases h with ⟨_, _, h⟩ | ⟨p, hp, _, _, _, h, _⟩
  · rw [hg.1] at h; cases h
  · rw [hg.2 p hp] at h; cases h
theorem BadC.code {lid kind mr md : Int} {c : Cl} {ec ea : Int} (h : BadC lid kind mr md c ec ea) : ec ≠ 0 := by
  rcases h with ⟨h, _⟩ | ⟨_, _, h, _⟩ <;> omega
/-- The first error of so many columns. -/
def ErJ (lid kind mr md : Int) (cs : List Cl) (i : Nat) (ec ea : Int) : Prop :=
  (ec = 0 ∧ ∀ j (h : j < cs.length), j < i → GoodC lid kind mr md cs[j]) ∨
  (∃ q, ∃ h : q < cs.length, q < i ∧ (∀ j (h : j < cs.length), j < q → GoodC lid kind mr md cs[j]) ∧ BadC lid kind mr md cs[q] ec ea)
theorem ErJ.next0 {lid kind mr md : Int} {cs : List Cl} {i : Nat} {ea ec2 ea2 : Int} (h : ErJ lid kind mr md cs i 0 ea) (hi : i < cs.length) (hc : ColErr lid kind mr md cs[i].id cs[i].rs cs[i].ds cs[i].vs ec2 ea2) : ErJ lid kind mr md cs (i + 1) ec2 ea2 := by
  rcases h with ⟨_, hall⟩ | ⟨q, hq, _, _, hb⟩
  · rcases hc with ⟨h1, h2, h3⟩ | ⟨h1, ⟨h2, h3, h4⟩ | ⟨p, hp, h2, h3, h4, h5⟩⟩
    · exact .inr ⟨i, hi, by omega, hall, .inl ⟨h1, h2, h3⟩⟩
    · refine .inl ⟨h2, fun j hj hji => ?_⟩
      by_cases e : j = i
      · subst e; exact ⟨h1, h4⟩
      · exact hall j hj (by omega)
    · exact .inr ⟨i, hi, by omega, hall, .inr ⟨p, hp, h2, h3, h1, h4, h5⟩⟩
  · exact absurd rfl hb.code
theorem ErJ.next1 {lid kind mr md : Int} {cs : List Cl} {i : Nat} {ec ea : Int} (h : ErJ lid kind mr md cs i ec ea) (hne : ec ≠ 0) : ErJ lid kind mr md cs (i + 1) ec ea := by
  rcases h with ⟨h, _⟩ | ⟨q, hq, h1, h2, h3⟩
  · exact absurd h hne
  · exact .inr ⟨q, hq, by omega, h2, h3⟩
theorem GoodC.same {lid kind mr md : Int} {c k : Cl} (hs : SameC c k) : GoodC lid kind mr md k ↔ GoodC lid kind mr md c := by
  obtain ⟨cid, cra, crs, crc, cda, cds, cdc, cva, cvs, cvc⟩ := c
  obtain ⟨kid, kra, krs, krc, kda, kds, kdc, kva, kvs, kvc⟩ := k
  have e1 : kid = cid := hs.id
  have e2 : krs = crs := hs.rs
  have e3 : kds = cds := hs.ds
  have e4 : kvs = cvs := hs.vs
  subst e1 e2 e3 e4
  exact Iff.rfl
theorem BadRet.same {N : Nat} {lid kind mr md : Int} {c k : Cl} {sv kv : Value} {e : Ending} {w' : World} (hs : SameC c k) (h : BadRet N lid kind mr md k sv kv e w') : BadRet N lid kind mr md c sv kv e w' := by
  obtain ⟨cid, cra, crs, crc, cda, cds, cdc, cva, cvs, cvc⟩ := c
  obtain ⟨kid, kra, krs, krc, kda, kds, kdc, kva, kvs, kvc⟩ := k
  have e1 : kid = cid := hs.id
  have e2 : krs = crs := hs.rs
  have e3 : kds = cds := hs.ds
  have e4 : kvs = cvs := hs.vs
  subst e1 e2 e3 e4
  exact h
theorem flat_same {β : Type} (f : Cl → List β) : ∀ (cs ks : List Cl), ks.length = cs.length → (∀ j (h : j < ks.length) (h' : j < cs.length), f ks[j] = f cs[j]) → ks.flatMap f = cs.flatMap f
  | [], [], _, _ => rfl
  | c :: cs, k :: ks, hl, h => by
    rw [List.flatMap_cons, List.flatMap_cons, flat_same f cs ks (by simpa using hl) (fun j h1 h2 => h (j + 1) (by simpa using h1) (by simpa using h2)), show f k = f c from h 0 (by simp) (by simp)]
theorem flat_len {β : Type} (f : Cl → List β) (n : Nat) : ∀ (cs : List Cl), (∀ j (h : j < cs.length), (f cs[j]).length ≤ n) → (cs.flatMap f).length ≤ n * cs.length
  | [], _ => by simp
  | c :: cs, h => by
    have h1 := flat_len f n cs (fun j hj => h (j + 1) (by simpa using hj))
    have h2 : (f c).length ≤ n := h 0 (by simp)
    rw [List.flatMap_cons, List.length_append, List.length_cons, Nat.mul_succ]
    omega
/-- What Join has answered, beside what is expected. -/
def FinJ (lid : Int) (cs : List Cl) (A : Nat → Addr) (ec ea : Int) (k : Cl) (ev : Value) (wx : World) : Prop :=
  (ec = 3 ∧ ea = -1 ∧ k = zeroCl ∧ ev = errV (A 2)) ∨
  (∃ p q : Nat, ec = 4 ∧ ea = p ∧ k = zeroCl ∧ ev = .iface 78 (.pointer (some ⟨q, 0, none⟩)) ∧ wx.cell? ⟨q, 0, none⟩ = some (.int .i64 p) ∧ wx.cell? ⟨q, 1, none⟩ = some (errV (A 3))) ∨
  (ec = 0 ∧ ev = .nilIface ∧ k.id = lid ∧ k.rs = jR cs ∧ k.ds = jD cs ∧ k.vs = jV cs)
theorem finJ_of {N : Nat} {lid kind mr md : Int} {cs ks : List Cl} {A : Nat → Addr} {ec ea : Int} {e : Ending} {w : World} (hx : ErJ lid kind mr md cs cs.length ec ea) (hl : ks.length = cs.length) (hs : ∀ j (h : j < ks.length) (h' : j < cs.length), SameC cs[j] ks[j]) (hm : (jR cs).length ≤ 20000) (h : JnRet N lid kind mr md ks (errV (A 2)) (errV (A 3)) (errV (A 1)) e w) :
    ∃ (k : Cl) (ev : Value), e = .returned (.tuple #[.agg #[.int .i64 k.id, .slice k.ra k.rs.length k.rc, .slice k.da k.ds.length k.dc, .slice k.va k.vs.length k.vc], ev]) ∧ k.At w ∧ FinJ lid cs A ec ea k ev w := by
  have er : jR ks = jR cs := flat_same _ cs ks hl fun j h h' => (hs j h h').rs
  have ed : jD ks = jD cs := flat_same _ cs ks hl fun j h h' => (hs j h h').ds
  have evv : jV ks = jV cs := flat_same _ cs ks hl fun j h h' => (hs j h h').vs
  rcases hx with ⟨rfl, hall⟩ | ⟨q, hq, _, hbef, hbad⟩
  · rcases h with ⟨i, hi, _, hb⟩ | ⟨_, h, _⟩ | ⟨_, _, k, rfl, h1, h2, h3, h4, h5⟩
    · have hi' : i < cs.length := by omega
      have hb' := BadRet.same (hs i hi hi') hb
      have hg := hall i hi' hi'
      rcases hb' with ⟨h, _⟩ | ⟨_, p, hp, h, _⟩
      · rw [hg.1] at h; cases h
      · rw [hg.2 p hp] at h; cases h
    · rw [er] at h; omega
    · exact ⟨k, .nilIface, rfl, h1, .inr (.inr ⟨rfl, rfl, h2, by rw [h3, er], by rw [h4, ed], by rw [h5, evv]⟩)⟩
  · have hq' : q < ks.length := by omega
    have hno : ¬ GoodC lid kind mr md ks[q] := fun hg => hbad.no ((GoodC.same (hs q hq' hq)).1 hg)
    rcases h with ⟨i, hi, hbi, hb⟩ | ⟨h, _⟩ | ⟨h, _⟩
    · have hi' : i < cs.length := by omega
      have hb' := BadRet.same (hs i hi hi') hb
      have hiq : i = q := by
        rcases Nat.lt_trichotomy i q with h | h | h
        · exfalso
          have hg := hbef i hi' h
          rcases hb' with ⟨h, _⟩ | ⟨_, p, hp, h, _⟩
          · rw [hg.1] at h; cases h
          · rw [hg.2 p hp] at h; cases h
        · exact h
        · exact absurd (hbi q hq' h) hno
      subst hiq
      rcases hbad with ⟨rfl, rfl, hb⟩ | ⟨p, hp, rfl, rfl, hg, hbd, hf⟩
      · rcases hb' with ⟨_, rfl⟩ | ⟨h, _⟩
        · exact ⟨zeroCl, errV (A 2), rfl, zeroCl_at w, .inl ⟨rfl, rfl, rfl, rfl⟩⟩
        · rw [hb] at h; cases h
      · rcases hb' with ⟨h, _⟩ | ⟨_, p2, hp2, hb2, hf2, q, _, rfl, hq0, hq1⟩
        · rw [hg] at h; cases h
        · obtain rfl := first_one hp hp2 hbd hb2 hf hf2
          exact ⟨zeroCl, _, rfl, zeroCl_at w, .inr (.inl ⟨p, q, rfl, rfl, rfl, rfl, hq0, hq1⟩)⟩
    · exact absurd (h q hq') hno
    · exact absurd (h q hq') hno
set_option maxRecDepth 100000 in
set_option maxHeartbeats 12800000 in
theorem shredJoins_walk (lid kind mr md : Int) (pa : Option Addr) (pc : Nat) (ps : List Int) (a : Option Addr) (c : Nat) (cs : List Cl) (W : World) (A : Nat → Addr) (hE : Errs W A) (hp : Lies W pa (i64s ps)) (mp : ps.length ≤ maxLen) (hl : LiesC W a cs) (ml : cs.length ≤ maxLen) (mc : ∀ x ∈ cs, x.rs.length ≤ maxLen ∧ x.ds.length ≤ maxLen ∧ x.vs.length ≤ maxLen) :
    Calls Tryz.prog 4 #[.agg #[.int .i64 lid, .int .i64 kind, .int .i64 mr, .int .i64 md, .slice pa ps.length pc], .slice a cs.length c] W fun e w' => e = .returned (.bool true) ∧ Below W.heap.size W w' := by
  obtain ⟨iv, hvi, hv0, hv1, hv2⟩ := info_parts Tryz.info3
  obtain ⟨iw, hwi, hw0, hw1, hw2⟩ := info_parts Tryz.infoV
  have HX : Hid ((W.alloc (.cells #[.int .i64 lid, .int .i64 kind, .int .i64 mr, .int .i64 md, .slice pa ps.length pc] 24)).heap[W.heap.size]? = some (.cells #[.int .i64 lid, .int .i64 kind, .int .i64 mr, .int .i64 md, .slice pa ps.length pc] 24 (0, 0))) := heap_alloc_new _ _
  have HB : Hid (Below W.heap.size W (W.alloc (.cells #[.int .i64 lid, .int .i64 kind, .int .i64 mr, .int .i64 md, .slice pa ps.length pc] 24))) := (Below.refl _ _).alloc (Nat.le_refl _) _
  have HA0 : Hid (∀ X, Below W.heap.size W X → Errs X A) := fun X hX => hE.keep hX
  have HP : Hid (∀ X, Below W.heap.size W X → Lies X pa (i64s ps)) := fun X hX => hp.keep hX
  have HL : Hid (∀ X, Below W.heap.size W X → LiesC X a cs) := fun X hX => hl.keep hX
  have HMC : Hid _ := mc
  unfold maxLen at mp ml
  clear hE hp hl mc
  obtain ⟨pn, hpn⟩ : ∃ pn, ps.length = pn := ⟨_, rfl⟩
  have HPN : Hid _ := hpn
  rw [hpn] at mp HX HB ⊢
  clear hpn
  go_enter Tryz.func4, Tryz.ntmps4
  go_wp2_with fail
  have hE0 := HA0.out _ HB.out
  refine (twins_any (153, .pointer (some (A 1))) (153, .pointer (some (A 2))) (153, .pointer (some (A 3))) (153, .pointer (some (A 4))) _ ⟨ecS hE0 1 (by omega), ecS hE0 2 (by omega), ecS hE0 3 (by omega)⟩ (ecS hE0 4 (by omega))).mono ?_
  clear hE0
  rintro e w1 ⟨rfl, hb1⟩
  have HB1 : Hid (Below W.heap.size W w1) := HB.out.trans (hb1.mono HB.out.size)
  have HX1 : Hid _ := blk_keep hb1 HX.out
  clear hb1 HX HB
  obtain ⟨⟨p0, p1, p2, p3, p4⟩, _⟩ := row_five HX1.out
  by_cases hcl : 20 < cs.length
  · have q1 : decide ((20 : Int) < (cs.length : Int)) = true := by rw [decide_eq_true_iff]; omega
    go_wp2
    go_ret
    exact ⟨rfl, HB1.out⟩
  · have q1 : decide ((20 : Int) < (cs.length : Int)) = false := by rw [decide_eq_false_iff_not]; omega
    by_cases hpl : 100 < pn
    · have q2 : decide ((100 : Int) < (pn : Int)) = true := by rw [decide_eq_true_iff]; omega
      go_wp2
      go_ret
      exact ⟨rfl, HB1.out⟩
    · have q2 : decide ((100 : Int) < (pn : Int)) = false := by rw [decide_eq_false_iff_not]; omega
      go_wp2_with fail
      refine (fine_b _).mono ?_
      rintro e w2 ⟨rfl, hb2⟩
      have HB2 : Hid (Below W.heap.size W w2) := HB1.out.trans (hb2.mono HB1.out.size)
      have HX2 : Hid _ := blk_keep hb2 HX1.out
      clear hb2 HX1 HB1 p0 p1 p2 p3 p4
      obtain ⟨⟨p0, p1, p2, p3, p4⟩, _⟩ := row_five (blk_alloc (o' := .cells (rfl2 0 (-1)) 31) HX2.out)
      go_wp2_with fail
      have HEW : Hid (W.heap.size < w2.heap.size) := lt_of_block HX2.out
      obtain ⟨E, HEE⟩ : ∃ E, Hid (w2.heap.size = E) := ⟨_, rfl⟩
      have HG0 : Hid (((w2.alloc (.cells (rfl2 0 (-1)) 31)).alloc (.cells #[.int .i64 lid, .slice none 0 0, .slice none 0 0, .slice none 0 0] 27)).heap[w2.heap.size + 1]? = some (.cells #[.int .i64 lid, .slice none 0 0, .slice none 0 0, .slice none 0 0] 27 (0, 0))) := (by
        have h := heap_alloc_new (w2.alloc (.cells (rfl2 0 (-1)) 31)) (.cells #[.int .i64 lid, .slice none 0 0, .slice none 0 0, .slice none 0 0] 27)
        rw [show (w2.alloc (.cells (rfl2 0 (-1)) 31)).heap.size = w2.heap.size + 1 by simp] at h
        exact h)
      have HI3 : Hid (SjI W lid kind mr md pa pn pc w2.heap.size (w2.heap.size + 1) 0 (-1) [] [] [] ((w2.alloc (.cells (rfl2 0 (-1)) 31)).alloc (.cells #[.int .i64 lid, .slice none 0 0, .slice none 0 0, .slice none 0 0] 27))) := ⟨blk_alloc (blk_alloc HX2.out), blk_alloc (heap_alloc_new _ _), ⟨_, _, _, AcI.start HG0.out⟩, (HB2.out.alloc HB2.out.size _).alloc (by have := HB2.out.size; simp; omega) _⟩
      obtain ⟨w3, HW3⟩ : ∃ w, Hid ((w2.alloc (.cells (rfl2 0 (-1)) 31)).alloc (.cells #[.int .i64 lid, .slice none 0 0, .slice none 0 0, .slice none 0 0] 27) = w) := ⟨_, rfl⟩
      rw [HW3.out, HEE.out] at HI3
      rw [HEE.out] at HEW
      rw [HW3.out, HEE.out]
      have HEG : Hid (W.heap.size < E) := HEW.out
      clear HW3 HEE HG0 HEW HB2 HX2 p0 p1 p2 p3 p4 q1 q2
      go_loopw [8] (fun x wr => ∃ (i : Nat) (ec ea : Int), i ≤ cs.length ∧ x = .int .i64 i ∧ Hid (SjI W lid kind mr md pa pn pc E (E + 1) ec ea (jR (cs.take i)) (jD (cs.take i)) (jV (cs.take i)) wr) ∧ Hid (ErJ lid kind mr md cs i ec ea) ∧ Hid (∀ j (h : j < cs.length), j < i → (cs[j].rs.length ≤ 400 ∧ cs[j].ds.length ≤ 400) ∧ cs[j].vs.length ≤ 400)) (fun x _ => cs.length - (intOf x).toNat)
      case atStart => exact ⟨0, 0, -1, Nat.zero_le _, rfl, HI3, .inl ⟨rfl, fun j _ h => absurd h (Nat.not_lt_zero _)⟩, fun j _ h => absurd h (Nat.not_lt_zero _)⟩
      case round =>
        clear HI3
        obtain ⟨i, ec, ea, hile, rfl, HI, HEr, HSl⟩ := hrel
        obtain ⟨⟨p0, p1, p2, p3, p4⟩, _⟩ := row_five HI.out.lf
        by_cases hlt : i < cs.length
        · obtain ⟨⟨b, o, rfl, c0, c1, c2, c3⟩, hat⟩ := HL.out wr HI.out.old i hlt
          have HbW : Hid (b < W.heap.size) := (by
            obtain ⟨⟨b', o', hab, h0, _⟩, _⟩ := HL.out W (Below.refl _ _) i hlt
            injection hab with hab
            injection hab with hab1 hab2 _
            subst hab1
            exact World.block_lt_of_cell? W _ h0)
          obtain ⟨k, HKe⟩ : ∃ k, Hid (k = cs[i]) := ⟨cs[i], rfl⟩
          rw [← HKe.out] at c0 c1 c2 c3 hat
          have HMk : Hid (k.rs.length ≤ maxLen ∧ k.ds.length ≤ maxLen ∧ k.vs.length ≤ maxLen) := (by rw [HKe.out]; exact HMC.out _ (List.getElem_mem _))
          have hm1 := HMk.out.1
          have hm2 := HMk.out.2.1
          have hm3 := HMk.out.2.2
          unfold maxLen at hm1 hm2 hm3
          clear hat
          go_wp2_with fail
          refine (slim_any k.id k.ra k.rs.length k.rc k.da k.ds.length k.dc k.va k.vs.length k.vc wr).mono ?_
          obtain ⟨bb, HBo⟩ : ∃ b, Hid ((decide (k.rs.length ≤ 400) && decide (k.ds.length ≤ 400) && decide (k.vs.length ≤ 400)) = b) := ⟨_, rfl⟩
          rw [HBo.out]
          rintro e w4 ⟨rfl, hb4⟩
          have HI4 : Hid _ := HI.out.keep hb4
          clear hb4 p0 p1 p2 p3 p4 c0 c1 c2 c3 HI
          cases bb
          · go_wp2
            go_ret
            exact ⟨rfl, HI4.out.old⟩
          · have hsl : (k.rs.length ≤ 400 ∧ k.ds.length ≤ 400) ∧ k.vs.length ≤ 400 := by have h := HBo.out; simpa using h
            have HSl2 : Hid (∀ j (h : j < cs.length), j < i + 1 → (cs[j].rs.length ≤ 400 ∧ cs[j].ds.length ≤ 400) ∧ cs[j].vs.length ≤ 400) := fun j h hj => by
              by_cases e : j = i
              · subst e; rw [← HKe.out]; exact hsl
              · exact HSl.out j h (by omega)
            obtain ⟨⟨hs1, hs2⟩, hs3⟩ := hsl
            have HJr : Hid (jR (cs.take (i + 1)) = jR (cs.take i) ++ k.rs) := (by rw [HKe.out]; exact jR_succ hlt)
            have HJd : Hid (jD (cs.take (i + 1)) = jD (cs.take i) ++ k.ds) := (by rw [HKe.out]; exact jD_succ hlt)
            have HJv : Hid (jV (cs.take (i + 1)) = jV (cs.take i) ++ k.vs) := (by rw [HKe.out]; exact jV_succ hlt)
            have HLr : Hid ((jR (cs.take i)).length + k.rs.length ≤ 1048576) := (by
              have h := flat_len (·.rs) 400 (cs.take i) (fun j h => by rw [List.getElem_take]; exact (HSl.out j (by simp at h; omega) (by simp at h; omega)).1.1)
              rw [List.length_take, Nat.min_eq_left hile] at h
              show _ ≤ _
              have : (jR (cs.take i)).length ≤ 400 * i := h
              omega)
            have HLd : Hid ((jD (cs.take i)).length + k.ds.length ≤ 1048576) := (by
              have h := flat_len (·.ds) 400 (cs.take i) (fun j h => by rw [List.getElem_take]; exact (HSl.out j (by simp at h; omega) (by simp at h; omega)).1.2)
              rw [List.length_take, Nat.min_eq_left hile] at h
              show _ ≤ _
              have : (jD (cs.take i)).length ≤ 400 * i := h
              omega)
            have HLv : Hid ((jV (cs.take i)).length + k.vs.length ≤ 1048576) := (by
              have h := flat_len (·.vs) 400 (cs.take i) (fun j h => by rw [List.getElem_take]; exact (HSl.out j (by simp at h; omega) (by simp at h; omega)).2)
              rw [List.length_take, Nat.min_eq_left hile] at h
              show _ ≤ _
              have : (jV (cs.take i)).length ≤ 400 * i := h
              omega)
            obtain ⟨⟨e0, e1⟩, e2, e3⟩ := row_two HI4.out.fe
            go_upto_if 44 with fail
            go_cut [] (fun wx => ∃ ec2 ea2 : Int, Hid (SjI W lid kind mr md pa pn pc E (E + 1) ec2 ea2 (jR (cs.take i)) (jD (cs.take i)) (jV (cs.take i)) wx) ∧ Hid (ErJ lid kind mr md cs (i + 1) ec2 ea2))
            case first =>
              by_cases hec : ec = 0
              · subst hec
                have b0 : Below E w4 w4 := Below.refl _ _
                obtain ⟨⟨b', o', hab, c0, c1, c2, c3⟩, hat⟩ := HL.out w4 HI4.out.old i hlt
                injection hab with hab
                injection hab with hab1 hab2 _
                subst hab1 hab2
                rw [← HKe.out] at c0 c1 c2 c3
                have HCs : Hid (∀ X, Below E w4 X → (X.cell? ⟨b, o + i * 4, none⟩ = some (.int .i64 k.id) ∧ X.cell? ⟨b, o + i * 4 + 1, none⟩ = some (.slice k.ra k.rs.length k.rc) ∧ X.cell? ⟨b, o + i * 4 + 2, none⟩ = some (.slice k.da k.ds.length k.dc) ∧ X.cell? ⟨b, o + i * 4 + 3, none⟩ = some (.slice k.va k.vs.length k.vc))) := fun X hX => (by
                  have hbE : b < E := by have h1 := HbW.out; have h2 := HEG.out; omega
                  exact ⟨(hX.cell hbE).trans c0, (hX.cell hbE).trans c1, (hX.cell hbE).trans c2, (hX.cell hbE).trans c3⟩)
                have HN : Hid (∀ X, Below E w4 X → (X.cell? ⟨W.heap.size, 0, none⟩ = some (.int .i64 lid) ∧ X.cell? ⟨W.heap.size, 1, none⟩ = some (.int .i64 kind) ∧ X.cell? ⟨W.heap.size, 2, none⟩ = some (.int .i64 mr) ∧ X.cell? ⟨W.heap.size, 3, none⟩ = some (.int .i64 md) ∧ X.cell? ⟨W.heap.size, 4, none⟩ = some (.slice pa pn pc)) ∧ (X.cell? ⟨b, o + i * 4, none⟩ = some (.int .i64 k.id) ∧ X.cell? ⟨b, o + i * 4 + 1, none⟩ = some (.slice k.ra k.rs.length k.rc) ∧ X.cell? ⟨b, o + i * 4 + 2, none⟩ = some (.slice k.da k.ds.length k.dc) ∧ X.cell? ⟨b, o + i * 4 + 3, none⟩ = some (.slice k.va k.vs.length k.vc)) ∧ Below E w4 X) := fun X hX => ⟨(row_five ((hX.block _ HEG.out).trans HI4.out.lf)).1, HCs.out X hX, hX⟩
                have hEs : E ≤ w4.heap.size := Nat.le_of_lt (lt_of_block HI4.out.fe)
                have HC : Hid (∀ X, Below E w4 X → Calls Tryz.prog 7 #[.agg #[.int .i64 lid, .int .i64 kind, .int .i64 mr, .int .i64 md, .slice pa pn pc], .agg #[.int .i64 k.id, .slice k.ra k.rs.length k.rc, .slice k.da k.ds.length k.dc, .slice k.va k.vs.length k.vc], .bool false] X fun e w' => (∃ c at_, e = .returned (.agg (rfl2 c at_)) ∧ ColErr lid kind mr md k.id k.rs k.ds k.vs c at_) ∧ Below E w4 w' ∧ Below X.heap.size X w') := fun X hX => (by
                  have hb : Below W.heap.size W X := HI4.out.old.trans (hX.mono (Nat.le_of_lt HEG.out))
                  have hat2 := (HL.out X hb i hlt).2
                  rw [← HKe.out] at hat2
                  exact (columnError_any lid kind mr md k.id pa k.ra k.da k.va pn pc k.rc k.dc k.vc k.rs k.ds k.vs X (by omega) (by omega) hat2.r hat2.d hat2.v).mono fun e w' h => ⟨h.1, bel_next hX hEs h.2, h.2⟩)
                obtain ⟨⟨p0, p1, p2, p3, p4⟩, _⟩ := row_five HI4.out.lf
                clear hat
                go_wp2_with fail
                go_region_held3 (fun X => (X.cell? ⟨W.heap.size, 0, none⟩ = some (.int .i64 lid) ∧ X.cell? ⟨W.heap.size, 1, none⟩ = some (.int .i64 kind) ∧ X.cell? ⟨W.heap.size, 2, none⟩ = some (.int .i64 mr) ∧ X.cell? ⟨W.heap.size, 3, none⟩ = some (.int .i64 md) ∧ X.cell? ⟨W.heap.size, 4, none⟩ = some (.slice pa pn pc)) ∧ (X.cell? ⟨b, o + i * 4, none⟩ = some (.int .i64 k.id) ∧ X.cell? ⟨b, o + i * 4 + 1, none⟩ = some (.slice k.ra k.rs.length k.rc) ∧ X.cell? ⟨b, o + i * 4 + 2, none⟩ = some (.slice k.da k.ds.length k.dc) ∧ X.cell? ⟨b, o + i * 4 + 3, none⟩ = some (.slice k.va k.vs.length k.vc)) ∧ Below E w4 X) (with_reducible refine HN.out _ ?_; repeat' (first | with_reducible assumption | with_reducible exact b0.drew | with_reducible exact b0 | with_reducible refine Below.drew ?_ | with_reducible exact Nat.le_refl _ | with_reducible refine Below.setCell ?_ ?_ _ | (simp; done) | (simp; omega) | omega)) (first | (go_at_call 7; (with_reducible refine Calls.mono (HC.out _ ?_) ?_); (first | with_reducible assumption | with_reducible exact b0.drew | with_reducible exact b0); rintro e x1 ⟨⟨ec2, ea2, rfl, hce⟩, hbx1, hraw⟩; have HCE : Hid _ := hce; have HIx : Hid _ := HI4.out.keep ((Below.refl _ _).drew.trans hraw); clear hce hraw; obtain ⟨⟨u0, u1⟩, u2, u3⟩ := row_two HIx.out.fe))
                all_goals
                  go_wp2_with fail
                  go_meet
                  exact ⟨ec2, ea2, HIx.out.setE HEG.out (Nat.lt_succ_self _) ec2 ea2, ErJ.next0 HEr.out hlt (by rw [← HKe.out]; exact HCE.out)⟩
              · have q1 : (ec == 0) = false := by simp [hec]
                have HE1 : Hid _ := ErJ.next1 HEr.out hec
                clear hec
                go_wp2
                go_meet
                exact ⟨ec, ea, HI4, HE1⟩
            case rest =>
              obtain ⟨ec2, ea2, HIa, HEr2⟩ := hcut
              clear HI4 e0 e1 e2 e3
              rename World => wa
              go_upto_region 13 with fail
              go_cut [] (fun wx => Hid (SjI W lid kind mr md pa pn pc E (E + 1) ec2 ea2 (jR (cs.take (i + 1))) (jD (cs.take i)) (jV (cs.take i)) wx))
              case first =>
                obtain ⟨rv, dv, vv, hI⟩ := HIa.out.acc
                obtain ⟨xra, xrc, rfl⟩ := own_slC hI.rrow
                obtain ⟨xda, xdc, rfl⟩ := own_slC hI.drow
                obtain ⟨xva, xvc, rfl⟩ := own_slC hI.vrow
                have HAa : Hid _ := hI.stay (Below.refl _ _).drew
                obtain ⟨g0, g1, g2, g3⟩ := row_four hI.cell
                obtain ⟨f0, f1, f2, f3⟩ := row_fourA hI.cell
                obtain ⟨⟨b', o', hab, c0, c1, c2, c3⟩, hat⟩ := HL.out wa HIa.out.old i hlt
                injection hab with hab
                injection hab with hab1 hab2 _
                subst hab1 hab2
                rw [← HKe.out] at c0 c1 c2 c3 hat
                have HAT : Hid _ := hat
                clear hI hat
                go_wp2_with fail
                go_region_law (refine step_append_any _ rfl _ _ 22 rfl (E + 1 + 1) 3 iv (.int .i64 0) 1 8 Tryz.underlying22 hvi hv0 hv1 hv2 rfl (by decide) _ _ (i64s (jR (cs.take i))) rfl HAa.out.rrow k.ra k.rs.length k.rc (i64s k.rs) rfl (by rw [i64s_len, Nat.mul_one]) (news_i HAT.out.r) (one_i _) (by have := HLr.out; unfold maxLen; omega) (by have := HLr.out; omega) (lt_of_block HAa.out.cell) ?_; intro v1 x1 hown1 hg1 hw1; obtain ⟨e1, e2, e3⟩ := AcI.appR HAa.out hown1 hg1 hw1; obtain ⟨a1, c1, rfl⟩ := own_slC hown1; have HA1 : Hid _ := e2; have HD1 : Hid (DFr (E + 1) (E + 1 + 1) wa _) := (DFr.drew _ _ wa).trans e3; clear hown1 hg1 hw1 e2 e3 g0 g1 g2 g3 f0 f1 f2 f3; obtain ⟨g0, g1, g2, g3⟩ := row_four e1; obtain ⟨f0, f1, f2, f3⟩ := row_fourA e1; clear e1)
                all_goals
                  go_wp2_with fail
                  go_meet
                  exact ⟨HD1.out.box HIa.out.lf (by have := HEG.out; omega) (by decide), HD1.out.box HIa.out.fe (by have := HEG.out; omega) (by decide), ⟨_, _, _, by rw [HJr.out]; exact HA1.out⟩, HIa.out.old.trans (HD1.out.below HIa.out.old.size (by have := HEG.out; omega) (by have := HEG.out; omega))⟩
              case rest =>
                have HIb : Hid _ := hcut
                clear HIa
                rename World => wb
                go_upto_region 14 with fail
                go_cut [] (fun wx => Hid (SjI W lid kind mr md pa pn pc E (E + 1) ec2 ea2 (jR (cs.take (i + 1))) (jD (cs.take (i + 1))) (jV (cs.take i)) wx))
                case first =>
                  obtain ⟨rv, dv, vv, hI⟩ := HIb.out.acc
                  obtain ⟨xra, xrc, rfl⟩ := own_slC hI.rrow
                  obtain ⟨xda, xdc, rfl⟩ := own_slC hI.drow
                  obtain ⟨xva, xvc, rfl⟩ := own_slC hI.vrow
                  have HAa : Hid _ := hI.stay (Below.refl _ _).drew
                  obtain ⟨g0, g1, g2, g3⟩ := row_four hI.cell
                  obtain ⟨f0, f1, f2, f3⟩ := row_fourA hI.cell
                  obtain ⟨⟨b', o', hab, c0, c1, c2, c3⟩, hat⟩ := HL.out wb HIb.out.old i hlt
                  injection hab with hab
                  injection hab with hab1 hab2 _
                  subst hab1 hab2
                  rw [← HKe.out] at c0 c1 c2 c3 hat
                  have HAT : Hid _ := hat
                  clear hI hat
                  go_wp2_with fail
                  go_region_law (refine step_append_any _ rfl _ _ 22 rfl (E + 1 + 1) 3 iv (.int .i64 0) 1 8 Tryz.underlying22 hvi hv0 hv1 hv2 rfl (by decide) _ _ (i64s (jD (cs.take i))) rfl HAa.out.drow k.da k.ds.length k.dc (i64s k.ds) rfl (by rw [i64s_len, Nat.mul_one]) (news_i HAT.out.d) (one_i _) (by have := HLd.out; unfold maxLen; omega) (by have := HLd.out; omega) (lt_of_block HAa.out.cell) ?_; intro v1 x1 hown1 hg1 hw1; obtain ⟨e1, e2, e3⟩ := AcI.appD HAa.out hown1 hg1 hw1; obtain ⟨a1, c1, rfl⟩ := own_slC hown1; have HA1 : Hid _ := e2; have HD1 : Hid (DFr (E + 1) (E + 1 + 1) wb _) := (DFr.drew _ _ wb).trans e3; clear hown1 hg1 hw1 e2 e3 g0 g1 g2 g3 f0 f1 f2 f3; obtain ⟨g0, g1, g2, g3⟩ := row_four e1; obtain ⟨f0, f1, f2, f3⟩ := row_fourA e1; clear e1)
                  all_goals
                    go_wp2_with fail
                    go_meet
                    exact ⟨HD1.out.box HIb.out.lf (by have := HEG.out; omega) (by decide), HD1.out.box HIb.out.fe (by have := HEG.out; omega) (by decide), ⟨_, _, _, by rw [HJd.out]; exact HA1.out⟩, HIb.out.old.trans (HD1.out.below HIb.out.old.size (by have := HEG.out; omega) (by have := HEG.out; omega))⟩
                case rest =>
                  have HId : Hid _ := hcut
                  clear HIb
                  rename World => wd
                  -- the last of the loop's body
                  obtain ⟨rv, dv, vv, hI⟩ := HId.out.acc
                  obtain ⟨xra, xrc, rfl⟩ := own_slC hI.rrow
                  obtain ⟨xda, xdc, rfl⟩ := own_slC hI.drow
                  obtain ⟨xva, xvc, rfl⟩ := own_slC hI.vrow
                  have HAa : Hid _ := hI.stay (Below.refl _ _).drew
                  obtain ⟨g0, g1, g2, g3⟩ := row_four hI.cell
                  obtain ⟨f0, f1, f2, f3⟩ := row_fourA hI.cell
                  obtain ⟨⟨b', o', hab, c0, c1, c2, c3⟩, hat⟩ := HL.out wd HId.out.old i hlt
                  injection hab with hab
                  injection hab with hab1 hab2 _
                  subst hab1 hab2
                  rw [← HKe.out] at c0 c1 c2 c3 hat
                  have HAT : Hid _ := hat
                  clear hI hat
                  go_wp2_with fail
                  go_region_law (refine step_append_any _ rfl _ _ 25 rfl (E + 1 + 1) 55 iw (.agg #[.int .i64 0, .int .i64 0, .string ⟨#[]⟩]) 3 32 Tryz.underlying25 hwi hw0 hw1 hw2 rfl (by decide) _ _ (vcells (jV (cs.take i))) rfl HAa.out.vrow k.va k.vs.length k.vc (vcells k.vs) rfl (vcells_len _) (news_v HAT.out.v) (one_v _) (by have := HLv.out; unfold maxLen; omega) (by have := HLv.out; omega) (lt_of_block HAa.out.cell) ?_; intro v1 x1 hown1 hg1 hw1; obtain ⟨e1, e2, e3⟩ := AcI.appV HAa.out hown1 hg1 hw1; obtain ⟨a1, c1, rfl⟩ := own_slC hown1; have HA1 : Hid _ := e2; have HD1 : Hid (DFr (E + 1) (E + 1 + 1) wd _) := (DFr.drew _ _ wd).trans e3; clear hown1 hg1 hw1 e2 e3 g0 g1 g2 g3 f0 f1 f2 f3; obtain ⟨g0, g1, g2, g3⟩ := row_four e1; obtain ⟨f0, f1, f2, f3⟩ := row_fourA e1; clear e1)
                  all_goals
                    have HIf : Hid (SjI W lid kind mr md pa pn pc E (E + 1) ec2 ea2 (jR (cs.take (i + 1))) (jD (cs.take (i + 1))) (jV (cs.take (i + 1))) _) := ⟨HD1.out.box HId.out.lf (by have := HEG.out; omega) (by decide), HD1.out.box HId.out.fe (by have := HEG.out; omega) (by decide), ⟨_, _, _, by rw [HJv.out]; exact HA1.out⟩, HId.out.old.trans (HD1.out.below HId.out.old.size (by have := HEG.out; omega) (by have := HEG.out; omega))⟩
                    go_wp2
                    go_roundw
                    case rel => exact ⟨i + 1, ec2, ea2, by omega, by go_num, HIf, HEr2, HSl2⟩
                    case measure => simp [intOf]; omega
        · obtain rfl : i = cs.length := by omega
          have hO1 := ownLeaf_any lid kind mr md pa pc ps wr (by rw [HPN.out]; omega) (HP.out _ HI.out.old)
          rw [HPN.out] at hO1
          have HO1 : Hid _ := hO1
          clear hO1
          go_wp2_with fail
          refine Calls.mono HO1.out ?_
          rintro e w5 ⟨⟨pa', pc', rfl, _⟩, hb5⟩
          have HI5 : Hid _ := HI.out.keep hb5
          clear hb5 HI
          have HCa : Hid (∀ j (h : j < cs.length), cs[j].rs.length ≤ 20000 ∧ cs[j].ds.length ≤ 20000 ∧ cs[j].vs.length ≤ 20000) := fun j h => (by have := HSl.out j h h; omega)
          have HRl : Hid ((jR cs).length ≤ 8000 ∧ (jD cs).length ≤ 8000 ∧ (jV cs).length ≤ 8000) := (by
            have h1 : (jR cs).length ≤ 400 * cs.length := flat_len (·.rs) 400 cs fun j h => (HSl.out j h h).1.1
            have h2 : (jD cs).length ≤ 400 * cs.length := flat_len (·.ds) 400 cs fun j h => (HSl.out j h h).1.2
            have h3 : (jV cs).length ≤ 400 * cs.length := flat_len (·.vs) 400 cs fun j h => (HSl.out j h h).2
            show _ ∧ _
            omega)
          go_wp2_with fail
          refine (ownColumns_any a c cs w5 (by omega) HCa.out (HL.out _ HI5.out.old)).mono ?_
          rintro e w6 ⟨⟨a', c', ks, rfl, hlc, hlen, hsame⟩, hb6⟩
          have HI6 : Hid _ := HI5.out.keep hb6
          have HLC : Hid (LiesC w6 a' ks) := hlc
          have HLen : Hid (ks.length = cs.length) := hlen
          have HSame : Hid (∀ j (h : j < ks.length) (h' : j < cs.length), SameC cs[j] ks[j]) := hsame
          clear hb6 HI5 hlc hlen hsame
          have HJ : Hid _ := (by
            have er : jR ks = jR cs := flat_same _ cs ks HLen.out fun j h h' => (HSame.out j h h').rs
            have ed : jD ks = jD cs := flat_same _ cs ks HLen.out fun j h h' => (HSame.out j h h').ds
            have evv : jV ks = jV cs := flat_same _ cs ks HLen.out fun j h h' => (HSame.out j h h').vs
            have hE6 := HA0.out _ HI6.out.old
            have hr := HRl.out
            exact (join_any lid kind mr md pa' pn pc' a' c' ks w6 _ _ _ _ _ _ (by rw [HLen.out]; omega) (by rw [er]; omega) (by rw [ed]; omega) (by rw [evv]; omega) (fun j h => by
              have h' : j < cs.length := by rw [← HLen.out]; exact h
              have hs := HSame.out j h h'
              have hc := HCa.out j h'
              rw [hs.rs, hs.ds, hs.vs]
              omega) (ecS hE6 2 (by omega)) (ecS hE6 3 (by omega)) (ecS hE6 1 (by omega)) HLC.out).mono fun e w' h => (⟨finJ_of HEr.out HLen.out HSame.out (by omega) h.1, h.2⟩ : (∃ (k : Cl) (ev : Value), e = .returned (.tuple #[.agg #[.int .i64 k.id, .slice k.ra k.rs.length k.rc, .slice k.da k.ds.length k.dc, .slice k.va k.vs.length k.vc], ev]) ∧ k.At w' ∧ FinJ lid cs A ec ea k ev w') ∧ Below w6.heap.size w6 w'))
          go_wp2_with fail
          refine Calls.mono HJ.out ?_
          rintro e w7 ⟨⟨k, ev, rfl, ka, hfin⟩, hb7⟩
          have HI7 : Hid _ := HI6.out.keep hb7
          have HIz0 : Hid (SjI W lid kind mr md pa pn pc E (E + 1) ec ea (jR (cs.take cs.length)) (jD (cs.take cs.length)) (jV (cs.take cs.length)) (w7.alloc (.cells #[.int .i64 k.id, .slice k.ra k.rs.length k.rc, .slice k.da k.ds.length k.dc, .slice k.va k.vs.length k.vc] 27))) := HI7.out.keep ((Below.refl _ _).alloc (Nat.le_refl _) _)
          have HPB0 : Hid ((w7.alloc (.cells #[.int .i64 k.id, .slice k.ra k.rs.length k.rc, .slice k.da k.ds.length k.dc, .slice k.va k.vs.length k.vc] 27)).heap[w7.heap.size]? = some (.cells #[.int .i64 k.id, .slice k.ra k.rs.length k.rc, .slice k.da k.ds.length k.dc, .slice k.va k.vs.length k.vc] 27 (0, 0))) := heap_alloc_new _ _
          have HKA0 : Hid (k.At (w7.alloc (.cells #[.int .i64 k.id, .slice k.ra k.rs.length k.rc, .slice k.da k.ds.length k.dc, .slice k.va k.vs.length k.vc] 27))) := ka.keep ((Below.refl _ _).alloc (Nat.le_refl _) _)
          have HFN : Hid (FinJ lid cs A ec ea k ev (w7.alloc (.cells #[.int .i64 k.id, .slice k.ra k.rs.length k.rc, .slice k.da k.ds.length k.dc, .slice k.va k.vs.length k.vc] 27))) := (by
            rcases hfin with h | ⟨p, q, h1, h2, h3, h4, h5, h6⟩ | h
            · exact .inl h
            · exact .inr (.inl ⟨p, q, h1, h2, h3, h4, (((Below.refl w7.heap.size w7).alloc (Nat.le_refl _) _).cell (World.block_lt_of_cell? w7 _ h5)).trans h5, (((Below.refl w7.heap.size w7).alloc (Nat.le_refl _) _).cell (World.block_lt_of_cell? w7 _ h6)).trans h6⟩)
            · exact .inr (.inr h))
          clear hb7 HI6 HJ HLC HI7 ka hfin p0 p1 p2 p3 p4
          obtain ⟨wz, HWz⟩ : ∃ w, Hid (w7.alloc (.cells #[.int .i64 k.id, .slice k.ra k.rs.length k.rc, .slice k.da k.ds.length k.dc, .slice k.va k.vs.length k.vc] 27) = w) := ⟨_, rfl⟩
          rw [HWz.out] at HIz0 HPB0 HKA0 HFN
          have HIz : Hid _ := HIz0
          have HPB : Hid _ := HPB0
          have HKA : Hid _ := HKA0
          clear HIz0 HPB0 HKA0
          obtain ⟨⟨e0, e1⟩, e2, e3⟩ := row_two HIz.out.fe
          go_upto_region 17 with fail
          rw [HWz.out]
          clear HWz
          rcases HFN.out with ⟨h1, h2, h3, h4⟩ | ⟨p, q, h1, h2, h3, h4, h5, h6⟩ | ⟨h1, h4, hk1, hk2, hk3, hk4⟩
          · subst h1 h2 h3 h4
            have HPZ : Hid (wz.heap[w7.heap.size]? = some (.cells #[.int .i64 0, .slice none 0 0, .slice none 0 0, .slice none 0 0] 27 (0, 0))) := HPB.out
            clear HPB HKA
            go_wp2_with fail
            refine (faulted_sent wz A (HA0.out _ HIz.out.old) 2 (by omega) 3 (by omega)).mono ?_
            rintro e w8 ⟨rfl, hb8⟩
            have HI8 : Hid _ := HIz.out.keep hb8
            have HPZ8 : Hid _ := blk_keep hb8 HPZ.out
            clear hb8 e0 e1 e2 e3
            obtain ⟨z0, z1, z2, z3⟩ := row_four HPZ8.out
            go_wp2_with fail
            refine (sameColumn_any 0 0 none none none none none none 0 0 0 0 0 0 [] [] [] [] [] [] w8 (by simp) (by simp) (by simp) (fun j h => absurd h (by simp [i64s])) (fun j h => absurd h (by simp [i64s])) (fun j h => absurd h (by simp [i64s])) (fun j h => absurd h (by simp [i64s])) (fun j h => absurd h (by simp)) (fun j h => absurd h (by simp))).mono ?_
            rintro e w9 ⟨⟨t, rfl, ht⟩, hb9⟩
            obtain rfl : t = true := ht.2 ⟨rfl, rfl, rfl, rfl⟩
            have HB9 : Hid (Below W.heap.size W w9) := HI8.out.old.trans (hb9.mono HI8.out.old.size)
            clear hb9 ht
            go_wp2
            go_ret
            exact ⟨rfl, HB9.out⟩
          · subst h1 h2 h3 h4
            have HQ0 : Hid _ := h5
            have HQ1 : Hid _ := h6
            clear h5 h6
            have HPZ : Hid (wz.heap[w7.heap.size]? = some (.cells #[.int .i64 0, .slice none 0 0, .slice none 0 0, .slice none 0 0] 27 (0, 0))) := HPB.out
            clear HPB HKA
            go_wp2_with fail
            refine (faulted_fault wz A (HA0.out _ HIz.out.old) 3 q (by omega) p HQ0.out HQ1.out 4 (by omega)).mono ?_
            rintro e w8 ⟨rfl, hb8⟩
            have HI8 : Hid _ := HIz.out.keep hb8
            have HPZ8 : Hid _ := blk_keep hb8 HPZ.out
            clear hb8 e0 e1 e2 e3
            obtain ⟨z0, z1, z2, z3⟩ := row_four HPZ8.out
            go_wp2_with fail
            refine (sameColumn_any 0 0 none none none none none none 0 0 0 0 0 0 [] [] [] [] [] [] w8 (by simp) (by simp) (by simp) (fun j h => absurd h (by simp [i64s])) (fun j h => absurd h (by simp [i64s])) (fun j h => absurd h (by simp [i64s])) (fun j h => absurd h (by simp [i64s])) (fun j h => absurd h (by simp)) (fun j h => absurd h (by simp))).mono ?_
            rintro e w9 ⟨⟨t, rfl, ht⟩, hb9⟩
            obtain rfl : t = true := ht.2 ⟨rfl, rfl, rfl, rfl⟩
            have HB9 : Hid (Below W.heap.size W w9) := HI8.out.old.trans (hb9.mono HI8.out.old.size)
            clear hb9 ht
            go_wp2
            go_ret
            exact ⟨rfl, HB9.out⟩
          · subst h1 h4
            have HK1 : Hid (k.id = lid) := hk1
            have HK2 : Hid (k.rs = jR cs) := hk2
            have HK3 : Hid (k.ds = jD cs) := hk3
            have HK4 : Hid (k.vs = jV cs) := hk4
            clear hk1 hk2 hk3 hk4
            obtain ⟨rv, dv, vv, hI⟩ := HIz.out.acc
            rw [List.take_length] at hI
            obtain ⟨xra, xrc, rfl, hl1⟩ := lies_own hI.rrow
            obtain ⟨xda, xdc, rfl, hl2⟩ := lies_own hI.drow
            obtain ⟨xva, xvc, rfl, hl3⟩ := liesV_own hI.vrow
            have HL1 : Hid (Lies wz xra (i64s (jR cs))) := hl1
            have HL2 : Hid (Lies wz xda (i64s (jD cs))) := hl2
            have HL3 : Hid (LiesV wz xva (jV cs)) := hl3
            obtain ⟨g0, g1, g2, g3⟩ := row_four hI.cell
            obtain ⟨z0, z1, z2, z3⟩ := row_four HPB.out
            rw [i64s_len] at g1 g2
            clear hI hl1 hl2 hl3
            go_wp2_with fail
            have hr := HRl.out
            refine (sameColumn_any k.id lid k.ra xra k.da xda k.va xva k.rc xrc k.dc xdc k.vc xvc k.rs (jR cs) k.ds (jD cs) k.vs (jV cs) wz (by rw [HK2.out]; unfold maxLen; omega) (by rw [HK3.out]; unfold maxLen; omega) (by rw [HK4.out]; unfold maxLen; omega) HKA.out.r HL1.out HKA.out.d HL2.out HKA.out.v HL3.out).mono ?_
            rintro e w9 ⟨⟨t, rfl, ht⟩, hb9⟩
            obtain rfl : t = true := ht.2 ⟨HK1.out, HK2.out, HK3.out, HK4.out⟩
            have HB9 : Hid (Below W.heap.size W w9) := HIz.out.old.trans (hb9.mono HIz.out.old.size)
            clear hb9 ht hr
            go_wp2
            go_ret
            exact ⟨rfl, HB9.out⟩
end Go.Proofs.YtcejgakjgcniiaaGreatDoor
