/-
  chunk.Marks of a written chunk.
  The closed fact that stage 11's laws begin with.
  chunk.eachKept with the closure of Pick.
  chunk.Pick of the marks of a written chunk.
  Chunks: where the parts of a column lie in it: mathematics; and 'coded' of stage 11's laws.
  The walk of the law ChunkPicks.
  A slice of bools that came in: what it holds; that it reads behind the call as it did before.
  ChunkPicks, for whatever leaf, column, number and slice of bools.
-/
import Derived.Test.YtgpfmjbebfmmnaaGreatDoorPBChC
import Derived.Test.YtgpfmjbebfmmnaaGreatDoorPBChJ
import Derived.Test.YtgpfmjbebfmmnaaGreatDoorPBPgD
import Derived.Test.YtgpfmjbebfmmnaaGreatDoorPBPgC
import Derived.Deep.DeepCutAuto
import Derived.Deep.RegionHeld3
import Derived.Test.YtgpfmjbebfmmnaaGreatDoorPBErrAs
import Derived.Test.YtgpfmjbebfmmnaaGreatDoorPBChB
import Derived.Test.YtgpfmjbebfmmnaaGreatDoorPBRefVals
import Derived.Test.YtgpfmjbebfmmnaaGreatDoorPColG
import Derived.Test.YtgpfmjbebfmmnaaGreatDoorPBColS
import Derived.Test.YtgpfmjbebfmmnaaGreatDoorPBOpenVals
import Derived.Test.YtgpfmjbebfmmnaaGreatDoorPBWordsMath
import Derived.Test.YtgpfmjbebfmmnaaGreatDoorRows
namespace Go.Proofs.YtgpfmjbebfmmnaaGreatDoor
open Go.RowKit
def mkOf (U : List Vl → List Vl × List Nat) (kind mr md : Int) : Nat → Nat → List Cl → List Mk
 | _, _, [] => []
 | a, n, c :: cs => ⟨(a : Nat), ((pgT U kind mr md c).length : Nat), (n : Nat), (cntE 0 c.rs : Nat), ofC c⟩ :: mkOf U kind mr md (a + (pgT U kind mr md c).length) (n + cntE 0 c.rs) cs
theorem mkOf_len (U : List Vl → List Vl × List Nat) (kind mr md : Int) : ∀ (a n : Nat) (cs : List Cl), (mkOf U kind mr md a n cs).length = cs.length
 | _, _, [] => rfl
 | a, n, c :: cs => by simp only [mkOf, List.length_cons, mkOf_len]
theorem mkOf_snoc (U : List Vl → List Vl × List Nat) (kind mr md : Int) (c : Cl) : ∀ (a n : Nat) (cs : List Cl), mkOf U kind mr md a n (cs ++ [c]) = mkOf U kind mr md a n cs ++ [⟨((a + (chT U kind mr md cs).length : Nat) : Int), ((pgT U kind mr md c).length : Nat), ((n + cntE 0 (jR cs) : Nat) : Int), (cntE 0 c.rs : Nat), ofC c⟩]
 | a, n, [] => by simp [mkOf, chT, jR, cntE]
 | a, n, b :: cs => by
  simp only [List.cons_append, mkOf]
  rw [mkOf_snoc U kind mr md c _ _ cs, chT_cons, jR_cons, cntE_app, List.length_append, Nat.add_assoc, Nat.add_assoc]
theorem mkOf_at (U : List Vl → List Vl × List Nat) (kind mr md : Int) : ∀ (a n : Nat) (cs : List Cl) (j : Nat) (h : j < cs.length) (h' : j < (mkOf U kind mr md a n cs).length), (mkOf U kind mr md a n cs)[j] = ⟨((a + (chT U kind mr md (cs.take j)).length : Nat) : Int), ((pgT U kind mr md cs[j]).length : Nat), ((n + cntE 0 (jR (cs.take j)) : Nat) : Int), (cntE 0 cs[j].rs : Nat), ofC cs[j]⟩
 | a, n, [], j, h, _ => absurd h (Nat.not_lt_zero _)
 | a, n, b :: cs, 0, _, _ => by simp [mkOf, chT, jR, cntE]
 | a, n, b :: cs, j + 1, h, h' => by
  have ih := mkOf_at U kind mr md (a + (pgT U kind mr md b).length) (n + cntE 0 b.rs) cs j (by simpa using h) (by rw [mkOf_len]; simpa using h)
  simp only [mkOf, List.getElem_cons_succ, List.take_succ_cons, chT_cons, jR_cons, cntE_app, List.length_append]
  rw [ih, Nat.add_assoc, Nat.add_assoc]
theorem goodC_same {lid kind mr md : Int} {c k : Cl} (ks : SameC c k) (hg : GoodC lid kind mr md c) : GoodC lid kind mr md k ∧ ofC k = ofC c := by
 obtain ⟨cid, cra, crs, crc, cda, cds, cdc, cva, cvs, cvc⟩ := c
 obtain ⟨kid, kra, krs, krc, kda, kds, kdc, kva, kvs, kvc⟩ := k
 have e1 : kid = cid := ks.id
 have e2 : krs = crs := ks.rs
 have e3 : kds = cds := ks.ds
 have e4 : kvs = cvs := ks.vs
 subst e1 e2 e3 e4
 exact ⟨hg, rfl⟩
theorem cs_le : ∀ (cs : List Cl), (∀ p ∈ cs, p.rs ≠ []) → cs.length ≤ (jR cs).length
 | [], _ => Nat.zero_le _
 | c :: cs, h => by
  have h1 := List.length_pos_iff.2 (h c List.mem_cons_self)
  have h2 := cs_le cs fun p hp => h p (List.mem_cons_of_mem _ hp)
  rw [jR_cons, List.length_append, List.length_cons]
  omega
set_option maxRecDepth 100000 in
set_option maxHeartbeats 6400000 in
theorem chMarks_any (lid kind mr md : Int) (pa : Option Addr) (pn pc : Nat) (U : List Vl → List Vl × List Nat) (hU : ∀ vs, Uq vs (U vs).1 (U vs).2) (cs : List Cl) (hcs : ∀ p ∈ cs, GoodC lid kind mr md p ∧ p.rs ≠ [] ∧ ∀ v ∈ p.vs, v.In) (hne : cs ≠ []) (hbk : (jR cs).length + (jD cs).length + (jV cs).length ≤ 2000) (W : World) (tt bt st kt ut : TypeId) (tp bp sp kp up : Value) (hE : Er5 W tt bt st kt ut tp bp sp kp up) :
    Calls Tryz.prog 17 #[.agg #[.int .i64 lid, .int .i64 kind, .int .i64 mr, .int .i64 md, .slice pa pn pc], .string ⟨(chT U kind mr md cs).toArray⟩] W fun e w' => (∃ a c, e = .returned (.tuple #[.slice a cs.length c, .nilIface]) ∧ LiesM w' a (mkOf U kind mr md 0 0 cs) ∧ cs.length ≤ c ∧ Fsh W.heap.size a) ∧ Below W.heap.size W w' := by
 obtain ⟨w0, HW0, HX, HB⟩ := boxed1 W #[.int .i64 lid, .int .i64 kind, .int .i64 mr, .int .i64 md, .slice pa pn pc] 39
 have hz : w0.heap.size = W.heap.size + 1 := by rw [← HW0.out]; simp
 obtain ⟨w1, HW1, HX1, HB1⟩ := boxed1 w0 #[.slice none 0 0] 47
 have hz1 : w1.heap.size = W.heap.size + 1 + 1 := by rw [← HW1.out]; simp [hz]
 obtain ⟨w2, HW2, HX2, HB2⟩ := boxed1 w1 #[.int .i64 0] 3
 have hz2 : w2.heap.size = W.heap.size + 1 + 1 + 1 := by rw [← HW2.out]; simp [hz1]
 rw [hz] at HX1
 rw [hz1] at HX2
 have HBW : Hid (Below W.heap.size W w2) := HB.out.trans ((HB1.out.trans (HB2.out.mono HB1.out.size)).mono HB.out.size)
 have HI : Hid (MkS W.heap.size (W.heap.size + 1) (W.heap.size + 1 + 1) (W.heap.size + 1 + 1 + 1) lid kind mr md pa pn pc 0 (.slice none 0 0) [] w2) := ⟨blk_keep HB2.out (blk_keep HB1.out HX.out), blk_keep HB2.out HX1.out, HX2.out, World.ownsRow_nil _ _ _ _⟩
 have hcl := cs_le cs fun p hp => (hcs p hp).2.1
 have HEp : Hid (Calls Tryz.prog 35 #[.agg #[.int .i64 lid, .int .i64 kind, .int .i64 mr, .int .i64 md, .slice pa pn pc], .string ⟨(chT U kind mr md cs).toArray⟩, .func (.func 38) #[] #[.pointer (some ⟨W.heap.size, 0, none⟩), .pointer (some ⟨W.heap.size + 1 + 1, 0, none⟩), .pointer (some ⟨W.heap.size + 1, 0, none⟩)]] w2 fun e w' => e = .returned .nilIface ∧ (∃ lv, MkS W.heap.size (W.heap.size + 1) (W.heap.size + 1 + 1) (W.heap.size + 1 + 1 + 1) lid kind mr md pa pn pc (cntE 0 (jR (cs.take cs.length)) : Nat) lv (mkOf U kind mr md 0 0 (cs.take cs.length)) w') ∧ MFr (W.heap.size + 1) (W.heap.size + 1 + 1) (W.heap.size + 1 + 1 + 1) w2 w') := (by
  refine eachPage_M lid kind mr md pa pn pc U hU cs hcs hne hbk (W.heap.size + 1 + 1 + 1) (MFr (W.heap.size + 1) (W.heap.size + 1 + 1) (W.heap.size + 1 + 1 + 1)) (fun i X => ∃ lv, MkS W.heap.size (W.heap.size + 1) (W.heap.size + 1 + 1) (W.heap.size + 1 + 1 + 1) lid kind mr md pa pn pc (cntE 0 (jR (cs.take i)) : Nat) lv (mkOf U kind mr md 0 0 (cs.take i)) X) W.heap.size (W.heap.size + 1 + 1) (W.heap.size + 1) (fun X w' _ h => .of_below h) (fun X w' h => h.size) (fun X Y Z h1 h2 => h1.trans h2) (fun X w' k ls f h1 h2 h3 => h1.box h3 (by omega) (by omega) (by decide)) (fun i X w' _ h1 h2 => ?_) w2 tt bt st kt ut tp bp sp kp up (fun X hX => hE.keep (HBW.out.trans (hX.below (by omega) (by omega) (by omega) (by omega)))) ⟨_, HI.out⟩ (by omega) (fun i h k Y X h1 h2 h3 h4 h5 h6 => ?_)
  · obtain ⟨lv, h⟩ := h1
    exact ⟨lv, h.keep h2⟩
  · obtain ⟨lv, hI⟩ := h1
    have hF : MFr (W.heap.size + 1) (W.heap.size + 1 + 1) (W.heap.size + 1 + 1 + 1) w2 X := h2.trans (.of_below h3)
    have hEX := hE.keep (HBW.out.trans (hF.below (by omega) (by omega) (by omega) (by omega)))
    obtain ⟨g1, g2⟩ := goodC_same h6 (hcs _ (List.getElem_mem h)).1
    have hmj := mem_j (List.getElem_mem h)
    have hc1 : cntE 0 (jR (cs.take i)) ≤ (jR (cs.take i)).length := List.length_filter_le _ _
    have hc2 := jR_le cs i
    refine (marks1_any lid kind mr md pa pn pc _ _ (cntE 0 (jR (cs.take i)) : Nat) W.heap.size (W.heap.size + 1) (W.heap.size + 1 + 1) (W.heap.size + 1 + 1 + 1) lv _ k (by omega) (by omega) (by omega) g1 (by rw [h6.vs]; exact fun v hv => ((hcs _ (List.getElem_mem h)).2.2 v hv).2.1.1) (by rw [h6.rs, h6.ds, h6.vs]; omega) h6.cap (by rw [mkOf_len, List.length_take]; omega) (by omega) X (hI.keep h3) (by have := hF.size; omega) st kt bt sp kp bp hEX.s hEX.k hEX.b h4).mono fun e w' hq => ⟨hq.1, ?_, hq.2.2⟩
    obtain ⟨lv', hA⟩ := hq.2.1
    rw [h6.rs, g2] at hA
    refine ⟨lv', ?_⟩
    rw [jR_succ h, cntE_app, List.take_succ_eq_append_getElem h, mkOf_snoc, Nat.zero_add, Nat.zero_add]
    rw [← Int.natCast_add] at hA
    exact hA)
 have hmf : ∀ (fn : Fn) (first cap : Array Value) (W : World), (Instr.makeFunc fn first cap).run Tryz.prog W = .ok (.func fn first cap) W := fun _ _ _ _ => rfl
 obtain ⟨⟨p0, p1, p2, p3, p4⟩, _⟩ := row_five HI.out.lf
 obtain ⟨sb, HSB⟩ : ∃ sb, Hid ((⟨(chT U kind mr md cs).toArray⟩ : ByteArray) = sb) := ⟨_, rfl⟩
 rw [HSB.out] at HEp ⊢
 clear hE hU hcs hz hz1 HX HX1 HX2 HB HB1 HB2 HI
 go_enter Tryz.func17, Tryz.ntmps17
 go_upto_region 3 with fail
 rw [HW0.out, HW1.out, HW2.out]
 go_wp2_with fail
 refine Calls.mono HEp.out ?_
 rintro e w3 ⟨rfl, h1, h2⟩
 obtain ⟨lv, hI⟩ := h1
 rw [List.take_length] at hI
 have HI : Hid (MkS W.heap.size (W.heap.size + 1) (W.heap.size + 1 + 1) (W.heap.size + 1 + 1 + 1) lid kind mr md pa pn pc (cntE 0 (jR cs) : Nat) lv (mkOf U kind mr md 0 0 cs) w3) := hI
 have HF : Hid (Below W.heap.size W w3) := HBW.out.trans (h2.below (by omega) (by omega) (by omega) (by omega))
 clear hI h2 HEp p0 p1 p2 p3 p4
 obtain ⟨a, c, rfl, hl, hcap, hfs⟩ := liesM_own HI.out.row
 rw [mkOf_len] at hcap
 have HL : Hid (LiesM w3 a (mkOf U kind mr md 0 0 cs)) := hl
 have HFs : Hid (Fsh W.heap.size a) := fun p hp => (by have := hfs p hp; omega)
 clear hl hfs
 obtain ⟨d0, _⟩ := row_oneC HI.out.lc
 go_wp2
 go_ret2
 exact ⟨⟨a, c, by rw [mkOf_len]; rfl, HL.out, hcap, HFs.out⟩, HF.out⟩
def prC (B : Nat) : Cl := ⟨1, some ⟨B + 1 + 1, 0, none⟩, [0, 0], 2, some ⟨B + 1 + 1 + 1, 0, none⟩, [0, 0], 2, some ⟨B + 1 + 1 + 1 + 1, 0, none⟩, [⟨1, 0, ⟨#[]⟩⟩, ⟨1, 0, ⟨#[]⟩⟩], 2⟩
theorem lies_prC {w : World} {g t : Nat} {x y : Int} (h : w.heap[g]? = some (.cells #[.int .i64 x, .int .i64 y] t (0, 0))) : Lies w (some ⟨g, 0, none⟩) (i64s [x, y]) := fun j hj => by
 have hj2 : j < 2 := by simpa [i64s] using hj
 match j, hj2 with
 | 0, _ => exact ⟨g, 0, rfl, by simp [World.cell?, h, i64s]⟩
 | 1, _ => exact ⟨g, 0, rfl, by simp [World.cell?, h, i64s]⟩
theorem liesV_prC {w : World} {g t : Nat} {x y : Vl} (h : w.heap[g]? = some (.cells #[.int .i64 x.k, .int .i64 x.n, .string x.s, .int .i64 y.k, .int .i64 y.n, .string y.s] t (0, 0))) : LiesV w (some ⟨g, 0, none⟩) [x, y] := fun j hj => by
 have hj2 : j < 2 := by simpa using hj
 match j, hj2 with
 | 0, _ => exact ⟨g, 0, rfl, by simp [World.cell?, h], by simp [World.cell?, h], by simp [World.cell?, h]⟩
 | 1, _ => exact ⟨g, 0, rfl, by simp [World.cell?, h], by simp [World.cell?, h], by simp [World.cell?, h]⟩
theorem prC_good (B : Nat) : GoodC 1 1 0 0 (prC B) := by
 refine ⟨by kernel_rfl, fun j hj => ?_⟩
 have hj2 : j < 2 := by simpa [prC] using hj
 match j, hj2 with
 | 0, _ => show badV 1 (⟨1, 0, ⟨#[]⟩⟩ : Vl) = false; kernel_rfl
 | 1, _ => show badV 1 (⟨1, 0, ⟨#[]⟩⟩ : Vl) = false; kernel_rfl
theorem prC_in (B : Nat) : ∀ v ∈ (prC B).vs, v.In := fun v hv => by
 have hv2 : v = ⟨1, 0, ⟨#[]⟩⟩ := by simpa [prC] using hv
 subst hv2
 exact ⟨by simp, by simp, by simp [ByteArray.size]⟩
theorem prC_pgs (B : Nat) : (pgs 2 1 0 (prC B)).length = 2 ∧ cntE 0 (jR ((pgs 2 1 0 (prC B)).take 1)) = 1 := ⟨by kernel_rfl, by kernel_rfl⟩
theorem pgs_facts {lid kind mr md : Int} {c : Cl} (most : Nat) (hg : GoodC lid kind mr md c) (hr : c.rs ≠ []) (hin : ∀ v ∈ c.vs, v.In) : (∀ p ∈ pgs c.rs.length most md c, GoodC lid kind mr md p ∧ p.rs ≠ [] ∧ ∀ v ∈ p.vs, v.In) ∧ pgs c.rs.length most md c ≠ [] ∧ jR (pgs c.rs.length most md c) = c.rs ∧ jD (pgs c.rs.length most md c) = c.ds ∧ jV (pgs c.rs.length most md c) = c.vs := by
 obtain ⟨h1, h2, h3, h4⟩ := pgs_whole (lid := lid) (kind := kind) (mr := mr) (md := md) most c.rs.length c (Nat.le_refl _) hg
 refine ⟨fun p hp => ⟨(h4 p hp).1, (h4 p hp).2, fun v hv => hin v (pgs_mem _ _ _ hp v hv)⟩, fun h => hr ?_, h1, h2, h3⟩
 rw [← h1, h]
 rfl
theorem CwR.good {N : Nat} {lid kind mr md : Int} {U : List Vl → List Vl × List Nat} {c : Cl} {most : Int} {sv kv bv : Value} {t : List UInt8} {ev : Value} {w : World} (h : CwR N lid kind mr md U c most sv kv bv t ev w) (hg : GoodC lid kind mr md c) (hr : c.rs ≠ []) (hm : 1 ≤ most ∧ most ≤ 20000) : ev = .nilIface ∧ t = chT U kind mr md (pgs c.rs.length most.toNat md c) := by
 rcases h with ⟨h, ⟨et, ep, he⟩, _⟩ | ⟨_, _, _, h1, h2⟩
 · exfalso
   rcases h with ⟨h, _⟩ | ⟨_, p, hp, h, _⟩ | ⟨_, h, _⟩ | ⟨_, _, h, _⟩ | ⟨_, _, _, h⟩
   · rw [hg.1] at h
     cases h
   · rw [hg.2 p hp] at h
     cases h
   · exact hr h
   · exact h hm
   · rw [he] at h
     cases h
 · exact ⟨h1, h2⟩
theorem CwR.same {N : Nat} {lid kind mr md : Int} {U : List Vl → List Vl × List Nat} {c k : Cl} {most : Int} {sv kv bv : Value} {t : List UInt8} {ev : Value} {w : World} (ks : SameC c k) (h : CwR N lid kind mr md U k most sv kv bv t ev w) : CwR N lid kind mr md U c most sv kv bv t ev w := by
 rcases h with ⟨h1, h2⟩ | ⟨h1, h2, h3, h4, h5⟩
 · refine .inl ⟨?_, h2⟩
   obtain ⟨cid, cra, crs, crc, cda, cds, cdc, cva, cvs, cvc⟩ := c
   obtain ⟨kid, kra, krs, krc, kda, kds, kdc, kva, kvs, kvc⟩ := k
   have e1 : kid = cid := ks.id
   have e2 : krs = crs := ks.rs
   have e3 : kds = cds := ks.ds
   have e4 : kvs = cvs := ks.vs
   subst e1 e2 e3 e4
   exact h1
 · refine .inr ⟨?_, by rw [← ks.rs]; exact h2, h3, h4, ?_⟩
   · obtain ⟨cid, cra, crs, crc, cda, cds, cdc, cva, cvs, cvc⟩ := c
     obtain ⟨kid, kra, krs, krc, kda, kds, kdc, kva, kvs, kvc⟩ := k
     have e1 : kid = cid := ks.id
     have e2 : krs = crs := ks.rs
     have e3 : kds = cds := ks.ds
     have e4 : kvs = cvs := ks.vs
     subst e1 e2 e3 e4
     exact h1
   · rw [h5, ks.rs]
     exact chT_val _ ks.rs ks.ds ks.vs
set_option maxRecDepth 100000 in
set_option maxHeartbeats 6400000 in
theorem pair_any (W : World) (tt bt st kt ut : TypeId) (tp bp sp kp up : Value) (hE : Er5 W tt bt st kt ut tp bp sp kp up) :
    Calls Tryz.prog 6 #[] W fun e w' => e = .returned (.bool true) ∧ Below W.heap.size W w' := by
 obtain ⟨U, hU⟩ := uq_pick
 obtain ⟨w0, HW0, HX, HY, HZ, HV, HB⟩ := four_boxes W #[.int .i64 1, .int .i64 1, .int .i64 0, .int .i64 0, .slice none 0 0] #[.int .i64 1, .int .i64 0, .string ⟨#[]⟩] #[.int .i64 0, .int .i64 0] #[.int .i64 0, .int .i64 0] 39 52 3 3
 have hz : w0.heap.size = W.heap.size + 1 + 1 + 1 + 1 := by rw [← HW0.out]; simp
 obtain ⟨w1, HW1, HU1, HB1⟩ := boxed1 w0 #[.int .i64 1, .int .i64 0, .string ⟨#[]⟩, .int .i64 1, .int .i64 0, .string ⟨#[]⟩] 52
 rw [hz] at HU1
 have HBW : Hid (Below W.heap.size W w1) := HB.out.trans (HB1.out.mono HB.out.size)
 have hE1 := hE.keep HBW.out
 have hat : (prC W.heap.size).At w1 := ⟨lies_prC (blk_keep HB1.out HZ.out), lies_prC (blk_keep HB1.out HV.out), liesV_prC HU1.out⟩
 have HWr : Hid (Calls Tryz.prog 11 #[.agg #[.int .i64 1, .int .i64 1, .int .i64 0, .int .i64 0, .slice none 0 0], .agg #[.int .i64 1, .slice (some ⟨W.heap.size + 1 + 1, 0, none⟩) 2 2, .slice (some ⟨W.heap.size + 1 + 1 + 1, 0, none⟩) 2 2, .slice (some ⟨W.heap.size + 1 + 1 + 1 + 1, 0, none⟩) 2 2], .int .i64 1] w1 fun e w' => e = .returned (.tuple #[.string ⟨(chT U 1 0 0 (pgs 2 1 0 (prC W.heap.size))).toArray⟩, .nilIface]) ∧ Below w1.heap.size w1 w') := (chWrite_any 1 1 0 0 none 0 0 U hU (prC W.heap.size) 1 (by simp [prC]) ⟨by simp [prC], by simp [prC], by simp [prC]⟩ (prC_in _) w1 st kt bt sp kp bp hE1.s hE1.k hE1.b hat).mono fun e w' h => (by
  obtain ⟨⟨t, ev, rfl, h1⟩, h2⟩ := h
  obtain ⟨rfl, rfl⟩ := h1.good (prC_good _) (by simp [prC]) (by omega)
  exact ⟨rfl, h2⟩)
 obtain ⟨f1, f2, f3, f4, f5⟩ := pgs_facts 1 (prC_good W.heap.size) (by simp [prC]) (prC_in _)
 have HMk : Hid (∀ X, Below w1.heap.size w1 X → Calls Tryz.prog 17 #[.agg #[.int .i64 1, .int .i64 1, .int .i64 0, .int .i64 0, .slice none 0 0], .string ⟨(chT U 1 0 0 (pgs 2 1 0 (prC W.heap.size))).toArray⟩] X fun e w' => (∃ a c, e = .returned (.tuple #[.slice a 2 c, .nilIface]) ∧ LiesM w' a (mkOf U 1 0 0 0 0 (pgs 2 1 0 (prC W.heap.size)))) ∧ Below X.heap.size X w') := fun X hX => (chMarks_any 1 1 0 0 none 0 0 U hU (pgs 2 1 0 (prC W.heap.size)) f1 f2 (by rw [show jR (pgs 2 1 0 (prC W.heap.size)) = _ from f3, show jD (pgs 2 1 0 (prC W.heap.size)) = _ from f4, show jV (pgs 2 1 0 (prC W.heap.size)) = _ from f5]; simp [prC]) X tt bt st kt ut tp bp sp kp up (hE1.keep hX)).mono fun e w' h => (by
  obtain ⟨⟨a, c, h1, h2, _⟩, h3⟩ := h
  rw [(prC_pgs W.heap.size).1] at h1
  exact ⟨⟨a, c, h1, h2⟩, h3⟩)
 obtain ⟨cs, HCS⟩ : ∃ cs, Hid (pgs 2 1 0 (prC W.heap.size) = cs) := ⟨_, rfl⟩
 obtain ⟨g1, g2⟩ := prC_pgs W.heap.size
 rw [HCS.out] at HWr HMk g1 g2
 obtain ⟨sb, HSB⟩ : ∃ sb, Hid ((⟨(chT U 1 0 0 cs).toArray⟩ : ByteArray) = sb) := ⟨_, rfl⟩
 rw [HSB.out] at HWr HMk
 have HX1 : Hid (w1.heap[W.heap.size]? = some (.cells #[.int .i64 1, .int .i64 1, .int .i64 0, .int .i64 0, .slice none 0 0] 39 (0, 0))) := blk_keep HB1.out HX.out
 obtain ⟨y0, y1, y2⟩ := row_three HY.out
 obtain ⟨⟨o0, o1, o2, o3, o4⟩, _⟩ := row_five HX.out
 clear hE hE1 hat f1 f2 f3 f4 f5 hU HU1 HB HB1 HX HY HZ HV hz
 have HGa : Hid _ := g1
 have HGb : Hid _ := g2
 clear g1 g2
 go_enter Tryz.func6, Tryz.ntmps6
 go_wp2_with fail
 rw [HW0.out, HW1.out]
 refine Calls.mono HWr.out ?_
 rintro e w2 ⟨rfl, hb2⟩
 have HX2 : Hid _ := blk_keep hb2 HX1.out
 have HB2 : Hid (Below W.heap.size W w2) := HBW.out.trans (hb2.mono HBW.out.size)
 have HM2 : Hid _ := HMk.out w2 hb2
 clear hb2 HWr HMk y0 y1 y2 o0 o1 o2 o3 o4
 obtain ⟨⟨p0, p1, p2, p3, p4⟩, _⟩ := row_five HX2.out
 go_wp2_with fail
 refine Calls.mono HM2.out ?_
 rintro e w3 ⟨⟨a, c, rfl, hl⟩, hb3⟩
 have HB3 : Hid (Below W.heap.size W w3) := HB2.out.trans (hb3.mono HB2.out.size)
 have hj : 1 < cs.length := by rw [HGa.out]; omega
 have hj2 : 1 < (mkOf U 1 0 0 0 0 cs).length := by rw [mkOf_len]; exact hj
 obtain ⟨b, o, rfl, hc⟩ := hl 1 hj2
 have hc2 := hc 2 (.int .i64 1) (by rw [mkOf_at U 1 0 0 0 0 cs 1 hj hj2, HGb.out]; rfl)
 rw [Nat.one_mul, Nat.add_assoc] at hc2
 clear hb3 hc hl hj hj2 p0 p1 p2 p3 p4 HM2
 go_wp2
 go_ret
 exact ⟨rfl, HB3.out⟩
def LiesB (w : World) (a : Option Addr) (bs : List Bool) : Prop := ∀ j (h : j < bs.length), ∃ b o, a = some ⟨b, o, none⟩ ∧ w.cell? ⟨b, o + j, none⟩ = some (.bool bs[j])
theorem LiesB.keep {w w' : World} {a : Option Addr} {bs : List Bool} (h : LiesB w a bs) (hb : Below w.heap.size w w') : LiesB w' a bs := fun j hj => by
 obtain ⟨b, o, e, hc⟩ := h j hj
 exact ⟨b, o, e, (hb.cell (World.block_lt_of_cell? w _ hc)).trans hc⟩
def kpt : List Cl → List Bool → List Cl
 | c :: cs, b :: bs => if b then c :: kpt cs bs else kpt cs bs
 | _, _ => []
theorem kpt_snoc : ∀ (cs : List Cl) (bs : List Bool) (i : Nat) (h : i < cs.length) (h' : i < bs.length), kpt (cs.take (i + 1)) (bs.take (i + 1)) = kpt (cs.take i) (bs.take i) ++ if bs[i] then [cs[i]] else []
 | [], _, _, h, _ => absurd h (Nat.not_lt_zero _)
 | _ :: _, [], _, _, h => absurd h (Nat.not_lt_zero _)
 | c :: cs, b :: bs, 0, _, _ => by
  simp only [List.take_succ_cons, List.take_zero, kpt, List.getElem_cons_zero, List.nil_append]
 | c :: cs, b :: bs, i + 1, h, h' => by
  have ih := kpt_snoc cs bs i (by simpa using h) (by simpa using h')
  simp only [List.take_succ_cons, kpt, List.getElem_cons_succ] at ih ⊢
  cases b
  · simpa using ih
  · simp only [if_true, List.cons_append, ih]
theorem kpt_sub : ∀ (cs : List Cl) (bs : List Bool), (jR (kpt cs bs)).length ≤ (jR cs).length ∧ (jD (kpt cs bs)).length ≤ (jD cs).length ∧ (jV (kpt cs bs)).length ≤ (jV cs).length
 | [], _ => by simp [kpt, jR, jD, jV]
 | _ :: _, [] => by simp [kpt, jR, jD, jV]
 | c :: cs, b :: bs => by
  have ih := kpt_sub cs bs
  cases b
  · simp only [kpt, jR_cons, jD_cons, jV_cons, List.length_append]
    simp only [Bool.false_eq_true, if_false]
    omega
  · simp only [kpt, if_true, jR_cons, jD_cons, jV_cons, List.length_append]
    omega
set_option maxRecDepth 100000 in
set_option maxHeartbeats 6400000 in
theorem eachKept_any (lid kind mr md : Int) (pa : Option Addr) (pn pc : Nat) (U : List Vl → List Vl × List Nat) (hU : ∀ vs, Uq vs (U vs).1 (U vs).2) (cs : List Cl) (hcs : ∀ p ∈ cs, GoodC lid kind mr md p ∧ p.rs ≠ [] ∧ ∀ v ∈ p.vs, v.In) (hbk : (jR cs).length + (jD cs).length + (jV cs).length ≤ 2000) (ks : List Bool) (hks : ks.length = cs.length) (ka ma : Option Addr) (kc mc : Nat) (g gA gW N : Nat) (hAW : gA ≠ gW) (hAg : gA ≠ g) (hWg : gW ≠ g) (hgN : g < N) (hAN : gA < N) (hWN : gW < N)
    (W : World) (tt bt st kt ut : TypeId) (tp bp sp kp up : Value) (hE : ∀ X, DFr g N W X → Er5 X tt bt st kt ut tp bp sp kp up) (hLM : ∀ X, DFr g N W X → LiesM X ma (mkOf U kind mr md 0 0 cs)) (hLK : ∀ X, DFr g N W X → LiesB X ka ks) (hI0 : ∃ rv dv vv, AcI g N lid rv [] dv [] vv [] W) (hA : W.heap[gA]? = some (.cells #[.bool true] 4 (0, 0))) (hW : W.heap[gW]? = some (.cells #[.bool true] 4 (0, 0))) (hN : N ≤ W.heap.size) :
    Calls Tryz.prog 44 #[.agg #[.int .i64 lid, .int .i64 kind, .int .i64 mr, .int .i64 md, .slice pa pn pc], .string ⟨(chT U kind mr md cs).toArray⟩, .slice ma cs.length mc, .slice ka cs.length kc, .func (.func 45) #[] #[.pointer (some ⟨gA, 0, none⟩), .pointer (some ⟨gW, 0, none⟩), .pointer (some ⟨g, 0, none⟩)]] W fun e w' => e = .returned .nilIface ∧ (∃ rv dv vv, AcI g N lid rv (jR (kpt cs ks)) dv (jD (kpt cs ks)) vv (jV (kpt cs ks)) w') ∧ DFr g N W w' := by
 have hTl : (chT U kind mr md cs).length ≤ 1000000 := by
  have h := chT_len (U := U) (lid := lid) (kind := kind) (mr := mr) (md := md) cs hcs hbk
  have hjj : (jR cs).length = (jD cs).length := by
   have : ∀ l : List Cl, (∀ p ∈ l, GoodC lid kind mr md p) → (jR l).length = (jD l).length := fun l => by
    induction l with
    | nil => intro _; rfl
    | cons c l ih =>
     intro hl
     have hfit := (hl c List.mem_cons_self).1
     rw [Bool.and_eq_true, fitB_iff] at hfit
     obtain ⟨-, -, hlen, -⟩ := hfit
     rw [jR_cons, jD_cons, List.length_append, List.length_append, hlen, ih (fun p hp => hl p (List.mem_cons_of_mem _ hp))]
   exact this cs fun p hp => (hcs p hp).1
  omega
 obtain ⟨sb, HSB⟩ : ∃ sb, Hid ((⟨(chT U kind mr md cs).toArray⟩ : ByteArray) = sb) := ⟨_, rfl⟩
 have HSz : Hid (sb.size = (chT U kind mr md cs).length) := (by show _ = _; rw [← HSB.out]; simp [ByteArray.size])
 have hsb : sb.size ≤ 1000000 := by rw [HSz.out]; exact hTl
 have hcl := cs_le cs fun p hp => (hcs p hp).2.1
 rw [HSB.out]
 obtain ⟨w0, HW0, HX, HB⟩ := boxed1 W #[.int .i64 lid, .int .i64 kind, .int .i64 mr, .int .i64 md, .slice pa pn pc] 39
 have HF0 : Hid (DFr g N W w0) := .of_below HB.out
 have HI0 : Hid (∃ rv dv vv, AcI g N lid rv [] dv [] vv [] w0) := (by
  obtain ⟨rv, dv, vv, h⟩ := hI0
  exact ⟨rv, dv, vv, h.stay HB.out⟩)
 have HE : Hid _ := hE
 have HLM : Hid (∀ X, DFr g N W X → LiesM X ma (mkOf U kind mr md 0 0 cs)) := hLM
 have HLK : Hid (∀ X, DFr g N W X → LiesB X ka ks) := hLK
 have HBA : Hid (∀ X, DFr g N W X → X.heap[gA]? = some (.cells #[.bool true] 4 (0, 0))) := fun X h => h.box hA hAg (by decide)
 have HBW : Hid (∀ X, DFr g N W X → X.heap[gW]? = some (.cells #[.bool true] 4 (0, 0))) := fun X h => h.box hW hWg (by decide)
 have HCs : Hid _ := hcs
 have HU : Hid _ := hU
 have HKs : Hid _ := hks
 clear hE hLM hLK hA hW hcs hU hI0 hTl hks
 go_enter Tryz.func44, Tryz.ntmps44
 go_wp2_with fail
 rw [HW0.out]
 clear HW0
 go_loopw [18] (fun x wr => ∃ i : Nat, i ≤ cs.length ∧ x = .int .i64 (i : Nat) ∧ Hid (∃ rv dv vv, AcI g N lid rv (jR (kpt (cs.take i) (ks.take i))) dv (jD (kpt (cs.take i) (ks.take i))) vv (jV (kpt (cs.take i) (ks.take i))) wr) ∧ Hid (DFr g N W wr) ∧ Hid (wr.heap[W.heap.size]? = some (.cells #[.int .i64 lid, .int .i64 kind, .int .i64 mr, .int .i64 md, .slice pa pn pc] 39 (0, 0)))) (fun x _ => cs.length - (intOf x).toNat)
 case atStart => exact ⟨0, Nat.zero_le _, rfl, HI0, HF0, HX⟩
 case round =>
  clear HI0 HF0 HX HB
  obtain ⟨i, hi, rfl, HI, HF, HL⟩ := hrel
  by_cases hlt : i < cs.length
  · have hlk : i < ks.length := by rw [HKs.out]; exact hlt
    have hl2 : i < (mkOf U kind mr md 0 0 cs).length := by rw [mkOf_len]; exact hlt
    obtain ⟨b1, o1, hma, hcm⟩ := HLM.out wr HF.out i hl2
    obtain ⟨b2, o2, hka, hck⟩ := HLK.out wr HF.out i hlk
    rw [mkOf_at U kind mr md 0 0 cs i hlt hl2] at hcm
    have hsp := chT_split U kind mr md cs i hlt
    have hpp := pgT_pos U kind mr md cs[i]
    have hal : (chT U kind mr md (cs.take i)).length + (pgT U kind mr md cs[i]).length ≤ sb.size := by
     rw [HSz.out, hsp, List.length_append, List.length_append]
     omega
    have hex := ext_chT U kind mr md cs i hlt
    rw [HSB.out] at hex
    have hmem := HCs.out cs[i] (List.getElem_mem hlt)
    have hmj := mem_j (List.getElem_mem hlt)
    have HRd : Hid (∀ X, Below wr.heap.size wr X → Calls Tryz.prog 63 #[.agg #[.int .i64 lid, .int .i64 kind, .int .i64 mr, .int .i64 md, .slice pa pn pc], .string (sb.extract (chT U kind mr md (cs.take i)).length sb.size)] X fun e w' => (∃ k : Cl, e = .returned (.tuple #[.agg #[.int .i64 k.id, .slice k.ra k.rs.length k.rc, .slice k.da k.ds.length k.dc, .slice k.va k.vs.length k.vc], .int .i64 ((pgT U kind mr md cs[i]).length : Nat), .nilIface]) ∧ k.At w' ∧ k.Fr X.heap.size ∧ SameC cs[i] k) ∧ Below wr.heap.size wr w' ∧ Below X.heap.size X w') := fun X hX => (by
     have hEX := HE.out X (HF.out.trans (.of_below hX))
     rw [hex]
     refine (pgRead_any lid kind mr md pa pn pc _ (by rw [← hex, ByteArray.size_extract]; omega) X st kt bt tt ut sp kp bp tp up hEX.s hEX.k hEX.b hEX.t hEX.u).mono fun e w' h => ⟨?_, bel_next hX (Nat.le_refl _) h.2, h.2⟩
     exact prd_of HU.out hmem.1 hmem.2.2 hmem.2.1 (by omega) h.1)
    have hhd : ∀ k : Cl, SameC cs[i] k → 0 < k.rs.length ∧ k.rs[0]? = some 0 := fun k hk => by
     have hfit := hmem.1.1
     rw [Bool.and_eq_true, fitB_iff] at hfit
     obtain ⟨-, -, -, hh, -⟩ := hfit
     have hp := List.length_pos_iff.2 hmem.2.1
     rw [headB_iff] at hh
     refine ⟨by rw [hk.rs]; exact hp, ?_⟩
     rw [hk.rs, List.getElem?_eq_getElem hp]
     rw [hh _ (List.getElem?_eq_getElem hp)]
    have HHd : Hid _ := hhd
    have HKp : Hid _ := kpt_snoc cs ks i hlt hlk
    obtain ⟨a, HA⟩ : ∃ a, Hid ((chT U kind mr md (cs.take i)).length = a) := ⟨_, rfl⟩
    obtain ⟨p, HP⟩ : ∃ p : Nat, Hid ((pgT U kind mr md cs[i]).length = p) := ⟨(pgT U kind mr md cs[i]).length, rfl⟩
    obtain ⟨m, HM⟩ : ∃ m : Mk, Hid ((⟨((0 + a : Nat) : Int), (p : Nat), ((0 + cntE 0 (jR (cs.take i)) : Nat) : Int), (cntE 0 cs[i].rs : Nat), ofC cs[i]⟩ : Mk) = m) := ⟨⟨((0 + a : Nat) : Int), (p : Nat), ((0 + cntE 0 (jR (cs.take i)) : Nat) : Int), (cntE 0 cs[i].rs : Nat), ofC cs[i]⟩, rfl⟩
    rw [HA.out, HP.out] at hal HRd
    rw [HP.out] at hpp
    rw [HA.out, HP.out, HM.out] at hcm
    have hma1 : m.at_ = (a : Nat) := by rw [← HM.out]; show ((0 + a : Nat) : Int) = a; rw [Nat.zero_add]
    have hml1 : m.len = (p : Nat) := by rw [← HM.out]
    have hc0 := hcm 0 _ rfl
    have hc1 := hcm 1 _ rfl
    have hc2 := hcm 2 _ rfl
    have hc3 := hcm 3 _ rfl
    have hc4 := hcm 4 _ rfl
    have hc5 := hcm 5 _ rfl
    have hc6 := hcm 6 _ rfl
    have hc7 := hcm 7 _ rfl
    have hc8 := hcm 8 _ rfl
    have hc9 := hcm 9 _ rfl
    have hca := hcm 10 _ rfl
    have hcb := hcm 11 _ rfl
    have hcc := hcm 12 _ rfl
    rw [hma1, Nat.add_zero] at hc0
    rw [hml1] at hc1
    have HMl : Hid (m.at_ = (a : Nat) ∧ m.len = (p : Nat)) := ⟨hma1, hml1⟩
    obtain ⟨bq, HBq⟩ : ∃ bq : Bool, Hid (ks[i] = bq) := ⟨ks[i], rfl⟩
    rw [HBq.out] at hck HKp
    have HMm : Hid _ := hmem
    have HMj : Hid _ := hmj
    have HOi : Hid (Option.isSome ma = true) := (by show _ = _; rw [hma]; rfl)
    clear hcm hsp hex hmem hhd hmj hma1 hml1
    obtain ⟨w1, HW1, HX1, HB1⟩ := boxed1 wr #[.int .i64 (a : Nat), .int .i64 (p : Nat), .int .i64 m.first, .int .i64 m.recs, .int .i64 m.st.e, .int .i64 m.st.u, .bool m.st.h, .int .i64 m.st.mn.k, .int .i64 m.st.mn.n, .string m.st.mn.s, .int .i64 m.st.mx.k, .int .i64 m.st.mx.n, .string m.st.mx.s] 56
    rw [hma, hka]
    go_upto_region 4 with fail
    rw [HW1.out]
    clear HW1 hc0 hc1 hc2 hc3 hc4 hc5 hc6 hc7 hc8 hc9 hca hcb hcc
    have hck1 := (HB1.out.cell (World.block_lt_of_cell? wr _ hck)).trans hck
    have HL1 : Hid (w1.heap[W.heap.size]? = some (.cells #[.int .i64 lid, .int .i64 kind, .int .i64 mr, .int .i64 md, .slice pa pn pc] 39 (0, 0))) := blk_keep HB1.out HL.out
    have HF1 : Hid (DFr g N W w1) := HF.out.trans (.of_below HB1.out)
    have HI1 : Hid (∃ rv dv vv, AcI g N lid rv (jR (kpt (cs.take i) (ks.take i))) dv (jD (kpt (cs.take i) (ks.take i))) vv (jV (kpt (cs.take i) (ks.take i))) w1) := (by
     obtain ⟨rv, dv, vv, h⟩ := HI.out
     exact ⟨rv, dv, vv, h.stay HB1.out⟩)
    have HSz1 : Hid (wr.heap.size ≤ w1.heap.size) := HB1.out.size
    clear hck
    cases bq with
    | false =>
     have HK2 : Hid (kpt (cs.take (i + 1)) (ks.take (i + 1)) = kpt (cs.take i) (ks.take i)) := (by
      show _ = _
      have h := HKp.out
      simpa using h)
     go_wp2
     go_roundw
     case rel => exact ⟨i + 1, by omega, by go_num, by rw [HK2.out]; exact HI1, HF1, HL1⟩
     case measure => simp [intOf]; omega
    | true =>
     have HK2 : Hid (kpt (cs.take (i + 1)) (ks.take (i + 1)) = kpt (cs.take i) (ks.take i) ++ [cs[i]]) := (by
      show _ = _
      have h := HKp.out
      simpa using h)
     have HRd1 : Hid (∀ X, Below w1.heap.size w1 X → Calls Tryz.prog 63 #[.agg #[.int .i64 lid, .int .i64 kind, .int .i64 mr, .int .i64 md, .slice pa pn pc], .string (sb.extract a sb.size)] X fun e w' => (∃ k : Cl, e = .returned (.tuple #[.agg #[.int .i64 k.id, .slice k.ra k.rs.length k.rc, .slice k.da k.ds.length k.dc, .slice k.va k.vs.length k.vc], .int .i64 (p : Nat), .nilIface]) ∧ k.At w' ∧ k.Fr X.heap.size ∧ SameC cs[i] k) ∧ Below w1.heap.size w1 w' ∧ Below X.heap.size X w') := fun X hX => (HRd.out X (HB1.out.trans (hX.mono HB1.out.size))).mono fun e w' h => ⟨h.1, bel_next hX (Nat.le_refl _) h.2.2, h.2.2⟩
     have q2 : ((a : Nat) : Int) ≤ (sb.size : Int) := by omega
     have q3 : (0 : Int) ≤ ((a : Nat) : Int) := by omega
     obtain ⟨⟨p0, p1, p2, p3, p4⟩, _⟩ := row_five HL1.out
     obtain ⟨⟨n0, n1, n2, n3, n4, n5, n6, n7, n8, n9, na, nb, nc⟩, _⟩ := row_mk HX1.out
     go_upto_region 5 with fail
     go_cut [13, 14, 15] (fun x y z wx => ∃ (h : Nat) (k : Cl), x = .pointer (some ⟨h, 0, none⟩) ∧ y = .int .i64 (p : Nat) ∧ z = .nilIface ∧ Hid (wx.heap[h]? = some (.cells #[.int .i64 k.id, .slice k.ra k.rs.length k.rc, .slice k.da k.ds.length k.dc, .slice k.va k.vs.length k.vc] 27 (0, 0))) ∧ Hid (k.At wx) ∧ Hid (k.Fr w1.heap.size) ∧ Hid (SameC cs[i] k) ∧ Hid (Below w1.heap.size w1 wx))
     case first =>
      have b0 : Below w1.heap.size w1 w1 := Below.refl _ _
      have HN : Hid (∀ X, Below w1.heap.size w1 X → (X.cell? ⟨W.heap.size, 0, none⟩ = some (.int .i64 lid) ∧ X.cell? ⟨W.heap.size, 1, none⟩ = some (.int .i64 kind) ∧ X.cell? ⟨W.heap.size, 2, none⟩ = some (.int .i64 mr) ∧ X.cell? ⟨W.heap.size, 3, none⟩ = some (.int .i64 md) ∧ X.cell? ⟨W.heap.size, 4, none⟩ = some (.slice pa pn pc)) ∧ X.cell? ⟨wr.heap.size, 0, none⟩ = some (.int .i64 (a : Nat)) ∧ Below w1.heap.size w1 X) := fun X hX => ⟨(row_five (blk_keep hX HL1.out)).1, (row_mk (blk_keep hX HX1.out)).1.1, hX⟩
      go_region_held3 (fun X => (X.cell? ⟨W.heap.size, 0, none⟩ = some (.int .i64 lid) ∧ X.cell? ⟨W.heap.size, 1, none⟩ = some (.int .i64 kind) ∧ X.cell? ⟨W.heap.size, 2, none⟩ = some (.int .i64 mr) ∧ X.cell? ⟨W.heap.size, 3, none⟩ = some (.int .i64 md) ∧ X.cell? ⟨W.heap.size, 4, none⟩ = some (.slice pa pn pc)) ∧ X.cell? ⟨wr.heap.size, 0, none⟩ = some (.int .i64 (a : Nat)) ∧ Below w1.heap.size w1 X) (with_reducible refine HN.out _ ?_; repeat' (first | with_reducible assumption | with_reducible exact b0.drew | with_reducible exact b0 | with_reducible refine Below.drew ?_ | with_reducible exact Nat.le_refl _ | with_reducible refine Below.setCell ?_ ?_ _ | with_reducible refine Below.alloc ?_ ?_ _ | with_reducible exact Below.size (by assumption) | (simp; done) | (simp; omega) | omega)) (first
       | (go_at_call 63; (with_reducible refine Calls.mono (HRd1.out _ ?_) ?_); (repeat' (first | with_reducible assumption | with_reducible exact b0.drew | with_reducible exact b0 | with_reducible refine Below.drew ?_ | with_reducible refine Below.alloc ?_ ?_ _ | with_reducible exact Below.size (by assumption) | with_reducible exact Nat.le_refl _ | (simp; done) | (simp; omega))); rintro e x1 ⟨⟨k, rfl, ka, kf, kq⟩, hbx1, hraw1⟩; have HKA : Hid (k.At x1) := ka; have HKF : Hid (k.Fr _) := kf; have HKS : Hid (SameC cs[i] k) := kq; have HBX1 : Hid (Below w1.heap.size w1 x1) := hbx1; clear ka kf kq; (first | (have hzz := blk_keep hraw1 hzz0; clear hzz0; have hzz0 := hzz; clear hzz) | (have hzz0 := blk_keep hraw1 (blk_drew (heap_alloc_new _ (.cells #[.int .i64 0, .slice none 0 0, .slice none 0 0, .slice none 0 0] 27)))) | (have hzz0 := blk_keep hraw1 (heap_alloc_new _ (.cells #[.int .i64 0, .slice none 0 0, .slice none 0 0, .slice none 0 0] 27))) | skip); (first | (obtain ⟨z0, z1, z2, z3⟩ := row_four hzz0; obtain ⟨f0, f1, f2, f3⟩ := row_fourA hzz0; have HZZ : Hid _ := hzz0; clear hzz0) | skip)))
      · go_wp2_with fail
        go_meet
        exact ⟨x1.heap.size, k, rfl, rfl, rfl, heap_alloc_new _ _, HKA.out.keep ((Below.refl _ _).alloc (Nat.le_refl _) _), HKF.out.low (by first | exact Nat.le_refl _ | simp), HKS, HBX1.out.alloc HBX1.out.size _⟩
      all_goals
       go_wp2_with fail
       go_meet
       have hq : ∀ (Z : Nat), k.Fr Z → w1.heap.size < Z → k.At ((((x1.setCell ⟨w1.heap.size, 0, none⟩ (.int .i64 k.id)).setCell ⟨w1.heap.size, 1, none⟩ (.slice k.ra k.rs.length k.rc)).setCell ⟨w1.heap.size, 2, none⟩ (.slice k.da k.ds.length k.dc)).setCell ⟨w1.heap.size, 3, none⟩ (.slice k.va k.vs.length k.vc)) := fun Z hf hz => (((HKA.out.off hf hz).off hf hz).off hf hz).off hf hz
       exact ⟨w1.heap.size, k, rfl, rfl, rfl, row_setCell (row_setCell (row_setCell (row_setCell HZZ.out _) _) _) _, hq _ HKF.out (by simp), HKF.out.low (by simp), HKS, (((HBX1.out.setCell (Nat.le_refl _) _).setCell (Nat.le_refl _) _).setCell (Nat.le_refl _) _).setCell (Nat.le_refl _) _⟩
     case rest =>
      obtain ⟨h, k, rfl, rfl, rfl, HCo, HKA, HKF, HKS, HBx⟩ := hcut
      rename World => wx
      have HFx : Hid (DFr g N W wx) := HF1.out.trans (.of_below HBx.out)
      have HCk : Hid (Calls Tryz.prog 45 #[.agg #[.int .i64 (a : Nat), .int .i64 (p : Nat), .int .i64 m.first, .int .i64 m.recs, .int .i64 m.st.e, .int .i64 m.st.u, .bool m.st.h, .int .i64 m.st.mn.k, .int .i64 m.st.mn.n, .string m.st.mn.s, .int .i64 m.st.mx.k, .int .i64 m.st.mx.n, .string m.st.mx.s], .int .i64 (p : Nat), .agg #[.int .i64 k.id, .slice k.ra k.rs.length k.rc, .slice k.da k.ds.length k.dc, .slice k.va k.vs.length k.vc], .pointer (some ⟨gA, 0, none⟩), .pointer (some ⟨gW, 0, none⟩), .pointer (some ⟨g, 0, none⟩)] wx fun e w' => e = .returned (.tuple #[]) ∧ (∃ rv dv vv, AcI g N lid rv (jR (kpt (cs.take (i + 1)) (ks.take (i + 1)))) dv (jD (kpt (cs.take (i + 1)) (ks.take (i + 1)))) vv (jV (kpt (cs.take (i + 1)) (ks.take (i + 1)))) w') ∧ DFr g N wx w') := (by
       obtain ⟨rv, dv, vv, hI⟩ := HI1.out
       obtain ⟨d1, d3⟩ := HHd.out k HKS.out
       have lo : ∀ {e s n : Nat} {v : Value} {xs : List Value}, w1.ownsRow N e s v n xs → Lo w1.heap.size wx.heap.size v := fun ho c hc => .inl (own_block ho hc).2.1
       have s1 := HF1.out.size
       have j1 := kpt_sub (cs.take (i + 1)) (ks.take (i + 1))
       have j2 := jR_le cs (i + 1)
       have j3 := jD_le cs (i + 1)
       have j4 := jV_le cs (i + 1)
       rw [HK2.out] at j1 ⊢
       have e1 : ∀ l : List Cl, jR (l ++ [cs[i]]) = jR l ++ cs[i].rs := fun l => by simp [jR]
       have e2 : ∀ l : List Cl, jD (l ++ [cs[i]]) = jD l ++ cs[i].ds := fun l => by simp [jD]
       have e3 : ∀ l : List Cl, jV (l ++ [cs[i]]) = jV l ++ cs[i].vs := fun l => by simp [jV]
       rw [e1, e2, e3] at j1 ⊢
       rw [List.length_append, List.length_append, List.length_append] at j1
       refine (pick1_any ⟨(a : Nat), (p : Nat), m.first, m.recs, m.st⟩ g gA gW N w1.heap.size lid rv dv vv _ _ _ k wx (hI.stay HBx.out) (HBA.out wx HFx.out) (HBW.out wx HFx.out) hAW hAg hWg (lo hI.rrow) (lo hI.drow) (lo hI.vrow) (by omega) (by omega) (by omega) (by have := HFx.out.size; omega) HKA.out HKF.out d1 d3 (by rw [HKS.out.rs]; omega) (by rw [HKS.out.ds]; omega) (by rw [HKS.out.vs]; omega)).mono fun e w' hq => ⟨hq.1, ?_, hq.2.2⟩
       obtain ⟨rv', dv', vv', hA⟩ := hq.2.1
       rw [HKS.out.rs, HKS.out.ds, HKS.out.vs] at hA
       exact ⟨rv', dv', vv', hA⟩)
      have HLx : Hid (wx.heap[W.heap.size]? = some (.cells #[.int .i64 lid, .int .i64 kind, .int .i64 mr, .int .i64 md, .slice pa pn pc] 39 (0, 0))) := blk_keep HBx.out HL1.out
      have HXm : Hid (wx.heap[wr.heap.size]? = some (.cells #[.int .i64 (a : Nat), .int .i64 (p : Nat), .int .i64 m.first, .int .i64 m.recs, .int .i64 m.st.e, .int .i64 m.st.u, .bool m.st.h, .int .i64 m.st.mn.k, .int .i64 m.st.mn.n, .string m.st.mn.s, .int .i64 m.st.mx.k, .int .i64 m.st.mx.n, .string m.st.mx.s] 56 (0, 0))) := blk_keep HBx.out HX1.out
      clear p0 p1 p2 p3 p4 n0 n1 n2 n3 n4 n5 n6 n7 n8 n9 na nb nc HRd HRd1 HHd HBx HI1 HF1 HL1 HI HF HL hck1
      obtain ⟨⟨n0, n1, n2, n3, n4, n5, n6, n7, n8, n9, na, nb, nc⟩, _⟩ := row_mk HXm.out
      obtain ⟨m0, m1, m2, m3⟩ := row_four HCo.out
      go_wp2_with fail
      refine Calls.mono HCk.out ?_
      rintro e w4 ⟨rfl, hi4, hf4⟩
      have HI4 : Hid (∃ rv dv vv, AcI g N lid rv (jR (kpt (cs.take (i + 1)) (ks.take (i + 1)))) dv (jD (kpt (cs.take (i + 1)) (ks.take (i + 1)))) vv (jV (kpt (cs.take (i + 1)) (ks.take (i + 1)))) w4) := hi4
      have HF4 : Hid (DFr g N W w4) := HFx.out.trans hf4
      have HL4 : Hid (w4.heap[W.heap.size]? = some (.cells #[.int .i64 lid, .int .i64 kind, .int .i64 mr, .int .i64 md, .slice pa pn pc] 39 (0, 0))) := hf4.box HLx.out (by omega) (by decide)
      clear hi4 hf4 HCk m0 m1 m2 m3 n0 n1 n2 n3 n4 n5 n6 n7 n8 n9 na nb nc
      go_wp2
      go_roundw
      case rel => exact ⟨i + 1, by omega, by go_num, HI4, HF4, HL4⟩
      case measure => simp [intOf]; omega
  · obtain rfl : i = cs.length := by omega
    have HFi : Hid (∃ rv dv vv, AcI g N lid rv (jR (kpt cs ks)) dv (jD (kpt cs ks)) vv (jV (kpt cs ks)) wr) := (by
     have h := HI.out
     rw [List.take_length, List.take_of_length_le (by rw [HKs.out]; exact Nat.le_refl _)] at h
     exact h)
    go_wp2
    go_ret
    exact ⟨rfl, HFi.out, HF.out⟩
set_option maxRecDepth 100000 in
set_option maxHeartbeats 6400000 in
theorem liesIn_any (m : Mk) (a p : Nat) (sb : ByteArray) (h1 : 1 ≤ p) (h2 : a + p ≤ sb.size) (h3 : sb.size ≤ 1000000) (W : World) :
    Calls Tryz.prog 43 #[.agg #[.int .i64 (a : Nat), .int .i64 (p : Nat), .int .i64 m.first, .int .i64 m.recs, .int .i64 m.st.e, .int .i64 m.st.u, .bool m.st.h, .int .i64 m.st.mn.k, .int .i64 m.st.mn.n, .string m.st.mn.s, .int .i64 m.st.mx.k, .int .i64 m.st.mx.n, .string m.st.mx.s], .string sb] W fun e w' => e = .returned (.bool true) ∧ Below W.heap.size W w' := by
 obtain ⟨w0, HW0, HX, HB⟩ := boxed1 W #[.int .i64 (a : Nat), .int .i64 (p : Nat), .int .i64 m.first, .int .i64 m.recs, .int .i64 m.st.e, .int .i64 m.st.u, .bool m.st.h, .int .i64 m.st.mn.k, .int .i64 m.st.mn.n, .string m.st.mn.s, .int .i64 m.st.mx.k, .int .i64 m.st.mx.n, .string m.st.mx.s] 56
 obtain ⟨⟨n0, n1, _⟩, _⟩ := row_mk HX.out
 have q1 : decide (((p : Nat) : Int) ≥ 1) = true := decide_eq_true (by omega)
 have q1' : decide ((1 : Int) ≤ ((p : Nat) : Int)) = true := decide_eq_true (by omega)
 have q2 : decide (((a : Nat) : Int) ≥ 0) = true := decide_eq_true (by omega)
 have q2' : decide ((0 : Int) ≤ ((a : Nat) : Int)) = true := decide_eq_true (by omega)
 have q3 : decide (((a : Nat) : Int) ≤ (sb.size : Int) - ((p : Nat) : Int)) = true := decide_eq_true (by omega)
 go_enter Tryz.func43, Tryz.ntmps43
 go_upto_region 1 with fail
 rw [HW0.out]
 go_wp2
 go_ret
 exact ⟨rfl, HB.out⟩
def PikR (lid : Int) (cs : List Cl) (ks : List Bool) (sv : Value) (e : Ending) (w' : World) : Prop :=
 (ks.length ≠ cs.length ∧ e = .returned (.tuple #[.agg #[.int .i64 0, .slice none 0 0, .slice none 0 0, .slice none 0 0], sv])) ∨ (ks.length = cs.length ∧ ∃ k : Cl, e = .returned (.tuple #[.agg #[.int .i64 k.id, .slice k.ra k.rs.length k.rc, .slice k.da k.ds.length k.dc, .slice k.va k.vs.length k.vc], .nilIface]) ∧ k.At w' ∧ k.id = lid ∧ k.rs = jR (kpt cs ks) ∧ k.ds = jD (kpt cs ks) ∧ k.vs = jV (kpt cs ks))
set_option maxRecDepth 100000 in
set_option maxHeartbeats 6400000 in
theorem pick_any (lid kind mr md : Int) (pa : Option Addr) (pn pc : Nat) (U : List Vl → List Vl × List Nat) (hU : ∀ vs, Uq vs (U vs).1 (U vs).2) (cs : List Cl) (hcs : ∀ p ∈ cs, GoodC lid kind mr md p ∧ p.rs ≠ [] ∧ ∀ v ∈ p.vs, v.In) (hbk : (jR cs).length + (jD cs).length + (jV cs).length ≤ 2000) (ks : List Bool) (ka ma : Option Addr) (kc mc : Nat) (W : World) (tt bt st kt ut : TypeId) (tp bp sp kp up : Value) (hE : Er5 W tt bt st kt ut tp bp sp kp up) (hLM : LiesM W ma (mkOf U kind mr md 0 0 cs)) (hLK : LiesB W ka ks) :
    Calls Tryz.prog 20 #[.agg #[.int .i64 lid, .int .i64 kind, .int .i64 mr, .int .i64 md, .slice pa pn pc], .string ⟨(chT U kind mr md cs).toArray⟩, .slice ma cs.length mc, .slice ka ks.length kc] W fun e w' => PikR lid cs ks (.iface st sp) e w' ∧ Below W.heap.size W w' := by
 have hcl := cs_le cs fun p hp => (hcs p hp).2.1
 obtain ⟨w0, HW0, HX, HY, HB⟩ := two_boxes W #[.int .i64 lid, .int .i64 kind, .int .i64 mr, .int .i64 md, .slice pa pn pc] #[.int .i64 0, .slice none 0 0, .slice none 0 0, .slice none 0 0] 39 27
 have hz : w0.heap.size = W.heap.size + 1 + 1 := by rw [← HW0.out]; simp
 have HES : Hid (∀ X, Below W.heap.size W X → X.cell? ⟨0, 0, none⟩ = some (.iface st sp)) := fun X hX => (hE.keep hX).s
 have hgN : 0 < W.heap.size := World.block_lt_of_cell? W _ hE.s
 by_cases hkl : ks.length = cs.length
 · have HTl : Hid ((chT U kind mr md cs).length ≤ 1000000) := (by
     have h := chT_len (U := U) (lid := lid) (kind := kind) (mr := mr) (md := md) cs hcs hbk
     have hjj : (jR cs).length = (jD cs).length := by
      have : ∀ l : List Cl, (∀ p ∈ l, GoodC lid kind mr md p) → (jR l).length = (jD l).length := fun l => by
       induction l with
       | nil => intro _; rfl
       | cons c l ih =>
        intro hl
        have hfit := (hl c List.mem_cons_self).1
        rw [Bool.and_eq_true, fitB_iff] at hfit
        obtain ⟨-, -, hlen, -⟩ := hfit
        rw [jR_cons, jD_cons, List.length_append, List.length_append, hlen, ih (fun p hp => hl p (List.mem_cons_of_mem _ hp))]
      exact this cs fun p hp => (hcs p hp).1
     show _ ≤ _
     omega)
   have HEk : Hid (∀ (w3 : World) (G : Nat), Below W.heap.size W w3 → W.heap.size ≤ G → w3.heap.size = G + 1 + 1 + 1 → w3.heap[G]? = some (.cells #[.int .i64 lid, .slice none 0 0, .slice none 0 0, .slice none 0 0] 27 (0, 0)) → w3.heap[G + 1]? = some (.cells #[.bool true] 4 (0, 0)) → w3.heap[G + 1 + 1]? = some (.cells #[.bool true] 4 (0, 0)) → Calls Tryz.prog 44 #[.agg #[.int .i64 lid, .int .i64 kind, .int .i64 mr, .int .i64 md, .slice pa pn pc], .string ⟨(chT U kind mr md cs).toArray⟩, .slice ma cs.length mc, .slice ka cs.length kc, .func (.func 45) #[] #[.pointer (some ⟨G + 1, 0, none⟩), .pointer (some ⟨G + 1 + 1, 0, none⟩), .pointer (some ⟨G, 0, none⟩)]] w3 fun e w' => e = .returned .nilIface ∧ (∃ rv dv vv, AcI G (G + 1 + 1 + 1) lid rv (jR (kpt cs ks)) dv (jD (kpt cs ks)) vv (jV (kpt cs ks)) w') ∧ DFr G (G + 1 + 1 + 1) w3 w') := fun w3 G hb hG hs h1 h2 h3 => eachKept_any lid kind mr md pa pn pc U hU cs hcs hbk ks hkl ka ma kc mc G (G + 1) (G + 1 + 1) (G + 1 + 1 + 1) (by omega) (by omega) (by omega) (by omega) (by omega) (by omega) w3 tt bt st kt ut tp bp sp kp up (fun X hX => hE.keep (hb.trans (hX.below (by omega) (by omega) (by omega)))) (fun X hX => hLM.keep (hb.trans (hX.below (by omega) (by omega) (by omega)))) (fun X hX => hLK.keep (hb.trans (hX.below (by omega) (by omega) (by omega)))) ⟨_, _, _, AcI.start h1⟩ h2 h3 (by omega)
   have HLM : Hid (∀ X, Below W.heap.size W X → LiesM X ma (mkOf U kind mr md 0 0 cs)) := fun X hX => hLM.keep hX
   obtain ⟨sb, HSB⟩ : ∃ sb, Hid ((⟨(chT U kind mr md cs).toArray⟩ : ByteArray) = sb) := ⟨_, rfl⟩
   have HSz : Hid (sb.size = (chT U kind mr md cs).length) := (by show _ = _; rw [← HSB.out]; simp [ByteArray.size])
   have hsb : sb.size ≤ 1000000 := by rw [HSz.out]; exact HTl.out
   rw [HSB.out] at HEk ⊢
   rw [hkl]
   have q0 : (((cs.length : Nat) : Int) != ((cs.length : Nat) : Int)) = false := by simp
   have HBo : Hid (Below W.heap.size W w0) := HB.out
   have hmf : ∀ (fn : Fn) (first cap : Array Value) (W : World), (Instr.makeFunc fn first cap).run Tryz.prog W = .ok (.func fn first cap) W := fun _ _ _ _ => rfl
   have HKl : Hid _ := hkl
   clear hE hLM hLK hcs hU hkl HTl HB
   go_enter Tryz.func20, Tryz.ntmps20
   go_wp2_with fail
   rw [HW0.out]
   clear HW0
   go_loopw [25] (fun x wr => ∃ i : Nat, i ≤ cs.length ∧ x = .int .i64 (i : Nat) ∧ Hid (Below w0.heap.size w0 wr)) (fun x _ => cs.length - (intOf x).toNat)
   case atStart => exact ⟨0, Nat.zero_le _, rfl, Below.refl _ _⟩
   case round =>
    obtain ⟨i, hi, rfl, HBr⟩ := hrel
    have HBw : Hid (Below W.heap.size W wr) := HBo.out.trans (HBr.out.mono HBo.out.size)
    by_cases hlt : i < cs.length
    · have hl2 : i < (mkOf U kind mr md 0 0 cs).length := by rw [mkOf_len]; exact hlt
      obtain ⟨b1, o1, rfl, hcm⟩ := HLM.out wr HBw.out i hl2
      rw [mkOf_at U kind mr md 0 0 cs i hlt hl2] at hcm
      have hsp := chT_split U kind mr md cs i hlt
      have hpp := pgT_pos U kind mr md cs[i]
      have hal : (chT U kind mr md (cs.take i)).length + (pgT U kind mr md cs[i]).length ≤ sb.size := by
       rw [HSz.out, hsp, List.length_append, List.length_append]
       omega
      obtain ⟨a, HA⟩ : ∃ a, Hid ((chT U kind mr md (cs.take i)).length = a) := ⟨_, rfl⟩
      obtain ⟨p, HP⟩ : ∃ p : Nat, Hid ((pgT U kind mr md cs[i]).length = p) := ⟨(pgT U kind mr md cs[i]).length, rfl⟩
      obtain ⟨m, HM⟩ : ∃ m : Mk, Hid ((⟨((0 + a : Nat) : Int), (p : Nat), ((0 + cntE 0 (jR (cs.take i)) : Nat) : Int), (cntE 0 cs[i].rs : Nat), ofC cs[i]⟩ : Mk) = m) := ⟨⟨((0 + a : Nat) : Int), (p : Nat), ((0 + cntE 0 (jR (cs.take i)) : Nat) : Int), (cntE 0 cs[i].rs : Nat), ofC cs[i]⟩, rfl⟩
      rw [HA.out, HP.out] at hal
      rw [HP.out] at hpp
      rw [HA.out, HP.out, HM.out] at hcm
      have hma1 : m.at_ = (a : Nat) := by rw [← HM.out]; show ((0 + a : Nat) : Int) = a; rw [Nat.zero_add]
      have hml1 : m.len = (p : Nat) := by rw [← HM.out]
      have hc0 := hcm 0 _ rfl
      have hc1 := hcm 1 _ rfl
      have hc2 := hcm 2 _ rfl
      have hc3 := hcm 3 _ rfl
      have hc4 := hcm 4 _ rfl
      have hc5 := hcm 5 _ rfl
      have hc6 := hcm 6 _ rfl
      have hc7 := hcm 7 _ rfl
      have hc8 := hcm 8 _ rfl
      have hc9 := hcm 9 _ rfl
      have hca := hcm 10 _ rfl
      have hcb := hcm 11 _ rfl
      have hcc := hcm 12 _ rfl
      rw [hma1, Nat.add_zero] at hc0
      rw [hml1] at hc1
      clear hcm hsp hma1 hml1 HM
      obtain ⟨w1, HW1, HX1, HB1⟩ := boxed1 wr #[.int .i64 (a : Nat), .int .i64 (p : Nat), .int .i64 m.first, .int .i64 m.recs, .int .i64 m.st.e, .int .i64 m.st.u, .bool m.st.h, .int .i64 m.st.mn.k, .int .i64 m.st.mn.n, .string m.st.mn.s, .int .i64 m.st.mx.k, .int .i64 m.st.mx.n, .string m.st.mx.s] 56
      have HLi : Hid _ := liesIn_any m a p sb hpp hal hsb w1
      go_upto_region 6 with fail
      rw [HW1.out]
      clear HW1 hc0 hc1 hc2 hc3 hc4 hc5 hc6 hc7 hc8 hc9 hca hcb hcc
      obtain ⟨⟨n0, n1, n2, n3, n4, n5, n6, n7, n8, n9, na, nb, nc⟩, _⟩ := row_mk HX1.out
      go_wp2_with fail
      refine Calls.mono HLi.out ?_
      rintro e w2 ⟨rfl, hb2⟩
      have HB2 : Hid (Below w0.heap.size w0 w2) := HBr.out.trans ((HB1.out.trans (hb2.mono HB1.out.size)).mono HBr.out.size)
      clear hb2 HLi n0 n1 n2 n3 n4 n5 n6 n7 n8 n9 na nb nc HX1 HB1
      go_wp2
      go_roundw
      case rel => exact ⟨i + 1, by omega, by go_num, HB2⟩
      case measure => simp [intOf]; omega
    · have hnl : ¬ (i < cs.length) := hlt
      have q1 : decide (((i : Nat) : Int) < ((cs.length : Nat) : Int)) = false := decide_eq_false (by omega)
      have HXr : Hid (wr.heap[W.heap.size]? = some (.cells #[.int .i64 lid, .int .i64 kind, .int .i64 mr, .int .i64 md, .slice pa pn pc] 39 (0, 0))) := blk_keep HBr.out HX.out
      have HYr : Hid (wr.heap[W.heap.size + 1]? = some (.cells #[.int .i64 0, .slice none 0 0, .slice none 0 0, .slice none 0 0] 27 (0, 0))) := blk_keep HBr.out HY.out
      obtain ⟨G, HG⟩ : ∃ G, Hid (wr.heap.size = G) := ⟨_, rfl⟩
      have hG : W.heap.size + 1 + 1 ≤ G := by rw [← HG.out, ← hz]; exact HBr.out.size
      obtain ⟨w1, HW1, HX1, HB1⟩ := boxed1 wr #[.int .i64 lid, .slice none 0 0, .slice none 0 0, .slice none 0 0] 27
      obtain ⟨w2, HW2, HX2, HB2⟩ := boxed1 w1 #[.bool true] 4
      obtain ⟨w3, HW3, HX3, HB3⟩ := boxed1 w2 #[.bool true] 4
      have z1 : w1.heap.size = G + 1 := by rw [← HW1.out, ← HG.out]; simp
      have z2 : w2.heap.size = G + 1 + 1 := by rw [← HW2.out]; simp [z1]
      have z3 : w3.heap.size = G + 1 + 1 + 1 := by rw [← HW3.out]; simp [z2]
      rw [HG.out] at HX1
      rw [z1] at HX2
      rw [z2] at HX3
      have hb13 := HB2.out.trans (HB3.out.mono HB2.out.size)
      have hbr3 := HB1.out.trans (hb13.mono HB1.out.size)
      have HBW3 : Hid (Below W.heap.size W w3) := HBw.out.trans (hbr3.mono HBw.out.size)
      have HE3 : Hid _ := HEk.out w3 G HBW3.out (by omega) z3 (blk_keep hb13 HX1.out) (blk_keep HB3.out HX2.out) HX3.out
      have HXq : Hid (w3.heap[W.heap.size]? = some (.cells #[.int .i64 lid, .int .i64 kind, .int .i64 mr, .int .i64 md, .slice pa pn pc] 39 (0, 0))) := blk_keep hbr3 HXr.out
      have HYq : Hid (w3.heap[W.heap.size + 1]? = some (.cells #[.int .i64 0, .slice none 0 0, .slice none 0 0, .slice none 0 0] 27 (0, 0))) := blk_keep hbr3 HYr.out
      have HBA : Hid (w3.heap[G + 1]? = some (.cells #[.bool true] 4 (0, 0))) := blk_keep HB3.out HX2.out
      have HBB : Hid (w3.heap[G + 1 + 1]? = some (.cells #[.bool true] 4 (0, 0))) := HX3.out
      obtain ⟨⟨o0, o1, o2, o3, o4⟩, _⟩ := row_five HXr.out
      have HZ3 : Hid _ := z3
      clear hb13 hbr3 HX1 HX2 HX3 HB1 HB2 HB3 hlt
      go_upto_region 11 with fail
      rw [HW1.out, HW2.out, HW3.out, HG.out]
      clear HW1 HW2 HW3 o0 o1 o2 o3 o4 HXr HYr
      obtain ⟨⟨o0, o1, o2, o3, o4⟩, _⟩ := row_five HXq.out
      go_wp2_with fail
      refine Calls.mono HE3.out ?_
      rintro e w4 ⟨rfl, h1, h2⟩
      have HAc : Hid (∃ rv dv vv, AcI G (G + 1 + 1 + 1) lid rv (jR (kpt cs ks)) dv (jD (kpt cs ks)) vv (jV (kpt cs ks)) w4) := h1
      have HD : Hid (DFr G (G + 1 + 1 + 1) w3 w4) := h2
      clear h1 h2 HE3 o0 o1 o2 o3 o4
      obtain ⟨rv, dv, vv, hI⟩ := HAc.out
      obtain ⟨ra, rc, rfl⟩ := own_slC hI.rrow
      obtain ⟨da, dc, rfl⟩ := own_slC hI.drow
      obtain ⟨va, vc, rfl⟩ := own_slC hI.vrow
      have HI : Hid (AcI G (G + 1 + 1 + 1) lid (.slice ra (jR (kpt cs ks)).length rc) (jR (kpt cs ks)) (.slice da (jD (kpt cs ks)).length dc) (jD (kpt cs ks)) (.slice va (jV (kpt cs ks)).length vc) (jV (kpt cs ks)) w4) := hI
      clear hI HAc
      obtain ⟨kk, HKK⟩ : ∃ kk, Hid (kpt cs ks = kk) := ⟨_, rfl⟩
      rw [HKK.out] at HI
      obtain ⟨g0, g1, g2, g3⟩ := row_four HI.out.cell
      obtain ⟨s0, _⟩ := row_oneC (HD.out.box HBA.out (by omega) (by decide))
      obtain ⟨s1, _⟩ := row_oneC (HD.out.box HBB.out (by omega) (by decide))
      have hy := HD.out.box HYq.out (by omega) (by decide)
      obtain ⟨z0, y1, y2, y3⟩ := row_four hy
      obtain ⟨f0, f1, f2, f3⟩ := row_fourA hy
      have HYr : Hid _ := hy
      clear hy
      go_wp2
      have f1' : ∀ p, ra = some p → W.heap.size + 1 < p.block := fun p hp => by have := own_fresh HI.out.rrow rfl p hp; omega
      have f2' : ∀ p, da = some p → W.heap.size + 1 < p.block := fun p hp => by have := own_fresh HI.out.drow rfl p hp; omega
      have f3' : ∀ p, va = some p → W.heap.size + 1 < p.block := fun p hp => by have := own_fresh HI.out.vrow rfl p hp; omega
      have l1 : Lies w4 ra (i64s (jR kk)) := by
       obtain ⟨a', c', he, hl⟩ := lies_own HI.out.rrow
       injection he with e1 _ _; subst e1; exact hl
      have l2 : Lies w4 da (i64s (jD kk)) := by
       obtain ⟨a', c', he, hl⟩ := lies_own HI.out.drow
       injection he with e1 _ _; subst e1; exact hl
      have l3 : LiesV w4 va (jV kk) := by
       obtain ⟨a', c', he, hl⟩ := liesV_own HI.out.vrow
       injection he with e1 _ _; subst e1; exact hl
      have hbw : Below W.heap.size W w4 := HBW3.out.trans (HD.out.below (by have := HZ3.out; omega) (by omega) (by omega))
      exact bodyPost_ret (v := .tuple #[.agg #[.int .i64 lid, .slice ra (jR kk).length rc, .slice da (jD kk).length dc, .slice va (jV kk).length vc], .nilIface]) (results_cR Tryz.results20 _ _ (W.heap.size + 1) 27 #[.int .i64 lid, .slice ra (jR kk).length rc, .slice da (jD kk).length dc, .slice va (jV kk).length vc] (0, 0) _ .nilIface rfl rfl (row_setCell (row_setCell (row_setCell (row_setCell HYr.out _) _) _) _) Tryz.underlying27 rfl (by kernel_rfl)) rfl ⟨.inr ⟨HKl.out, ⟨lid, ra, jR kk, rc, da, jD kk, dc, va, jV kk, vc⟩, rfl, ⟨(((l1.off f1').off f1').off f1').off f1', (((l2.off f2').off f2').off f2').off f2', (((l3.off f3').off f3').off f3').off f3'⟩, rfl, by rw [HKK.out], by rw [HKK.out], by rw [HKK.out]⟩, (((hbw.setCell (by simp) _).setCell (by simp) _).setCell (by simp) _).setCell (by simp) _⟩
 · have q0 : (((cs.length : Nat) : Int) != ((ks.length : Nat) : Int)) = true := by
     simp only [bne_iff_ne, ne_eq]
     omega
   have HKl : Hid _ := hkl
   have hs0 := HES.out w0 HB.out
   have hgN1 : ¬ (0 = W.heap.size + 1) := by omega
   have hgN2 : ¬ (W.heap.size = 0) := by omega
   have hgN3 : ¬ (W.heap = #[]) := fun h => hgN2 (by rw [h]; rfl)
   obtain ⟨z0, z1, z2, z3⟩ := row_four HY.out
   obtain ⟨f0, f1, f2, f3⟩ := row_fourA HY.out
   have HYr : Hid (w0.heap[W.heap.size + 1]? = some (.cells #[.int .i64 0, .slice none 0 0, .slice none 0 0, .slice none 0 0] 27 (0, 0))) := HY.out
   have HBo : Hid (Below W.heap.size W w0) := HB.out
   obtain ⟨sb, HSB⟩ : ∃ sb, Hid ((⟨(chT U kind mr md cs).toArray⟩ : ByteArray) = sb) := ⟨_, rfl⟩
   rw [HSB.out]
   clear hE hLM hLK hcs hU hkl HX HY HB hgN hz
   go_enter Tryz.func20, Tryz.ntmps20
   go_upto_region 2 with fail
   rw [HW0.out]
   go_wp2_with fail
   go_region
   all_goals
    go_wp2
    exact bodyPost_ret (v := .tuple #[.agg #[.int .i64 0, .slice none 0 0, .slice none 0 0, .slice none 0 0], .iface st sp]) (results_cR Tryz.results20 _ _ (W.heap.size + 1) 27 #[.int .i64 0, .slice none 0 0, .slice none 0 0, .slice none 0 0] (0, 0) _ (.iface st sp) rfl rfl (blk_drew (row_setCell (row_setCell (row_setCell (row_setCell HYr.out _) _) _) _)) Tryz.underlying27 rfl (by kernel_rfl)) rfl ⟨.inl ⟨HKl.out, rfl⟩, ((((HBo.out.setCell (by simp) _).setCell (by simp) _).setCell (by simp) _).setCell (by simp) _).drew⟩
theorem st_zr {rs : List Int} {a : Nat} (hz : Zr rs a) (ha : a ≤ rs.length) : StAt rs (cntE 0 (rs.take a) : Nat) a := by
 refine ⟨ha, fun j hj => ?_, fun hl => ?_⟩
 · have := cntE_mono 0 rs (a := j + 1) (b := a) (by omega)
   omega
 · have h := cntE_succ 0 rs a hl
   rw [if_pos (hz _ (List.getElem?_eq_getElem hl))] at h
   omega
theorem take_jR (cs : List Cl) (i : Nat) : (jR cs).take (jR (cs.take i)).length = jR (cs.take i) := by
 rw [jR_split cs i, List.take_left]
theorem zr_part {lid kind mr md : Int} {cs : List Cl} (hg : ∀ p ∈ cs, GoodC lid kind mr md p ∧ p.rs ≠ []) (i : Nat) : Zr (jR cs) (jR (cs.take i)).length := fun x hx => by
 rw [jR_split cs i, List.getElem?_append_right (Nat.le_refl _), Nat.sub_self] at hx
 cases hd : cs.drop i with
 | nil => rw [hd] at hx; simp [jR] at hx
 | cons p r =>
  have hp : p ∈ cs := List.mem_of_mem_drop (by rw [hd]; exact List.mem_cons_self)
  obtain ⟨g1, g2⟩ := hg p hp
  have hfit := g1.1
  rw [Bool.and_eq_true, fitB_iff] at hfit
  obtain ⟨-, -, -, hh, -⟩ := hfit
  rw [headB_iff] at hh
  have hl := List.length_pos_iff.2 g2
  rw [hd, jR_cons, List.getElem?_append_left hl] at hx
  exact hh x hx
theorem st_part {lid kind mr md : Int} {cs : List Cl} (hg : ∀ p ∈ cs, GoodC lid kind mr md p ∧ p.rs ≠ []) (i : Nat) : StAt (jR cs) (cntE 0 (jR (cs.take i)) : Nat) (jR (cs.take i)).length := by
 have h := st_zr (zr_part hg i) (jR_le cs i)
 rw [take_jR] at h
 exact h
theorem cut_mid {α : Type} (x y z : List α) : cutL (x ++ (y ++ z)) x.length (x.length + y.length) = y := by
 unfold cutL
 rw [← List.append_assoc, List.take_left' (by rw [List.length_append]), List.drop_left]
theorem jRD_len {lid kind mr md : Int} : ∀ {cs : List Cl}, (∀ p ∈ cs, GoodC lid kind mr md p ∧ p.rs ≠ []) → (jR cs).length = (jD cs).length ∧ (jV cs).length = cntE md (jD cs)
 | [], _ => by simp [jR, jD, jV, cntE]
 | c :: cs, h => by
  have ih := jRD_len (cs := cs) fun p hp => h p (List.mem_cons_of_mem _ hp)
  have hfit := (h c List.mem_cons_self).1.1
  rw [Bool.and_eq_true, fitB_iff] at hfit
  obtain ⟨-, -, hlen, -, -, -, hv⟩ := hfit
  rw [jR_cons, jD_cons, jV_cons, cntE_app]
  simp only [List.length_append]
  omega
theorem cut_part {lid kind mr md : Int} {cs : List Cl} (hg : ∀ p ∈ cs, GoodC lid kind mr md p ∧ p.rs ≠ []) (i : Nat) (hi : i < cs.length) :
    cutL (jR cs) (jR (cs.take i)).length (jR (cs.take (i + 1))).length = cs[i].rs ∧ cutL (jD cs) (jR (cs.take i)).length (jR (cs.take (i + 1))).length = cs[i].ds ∧ cutL (jV cs) (cntE md ((jD cs).take (jR (cs.take i)).length)) (cntE md ((jD cs).take (jR (cs.take (i + 1))).length)) = cs[i].vs := by
 have hs : ∀ k, ∀ p ∈ cs.take k, GoodC lid kind mr md p ∧ p.rs ≠ [] := fun k p hp => hg p (List.mem_of_mem_take hp)
 have l1 := jRD_len (hs i)
 have l2 := jRD_len (hs (i + 1))
 have e : cs = cs.take i ++ (cs[i] :: cs.drop (i + 1)) := by rw [← List.drop_eq_getElem_cons hi, List.take_append_drop]
 have eR : jR cs = jR (cs.take i) ++ (cs[i].rs ++ jR (cs.drop (i + 1))) := by rw [jR_split cs i, List.drop_eq_getElem_cons hi, jR_cons]
 have eD : jD cs = jD (cs.take i) ++ (cs[i].ds ++ jD (cs.drop (i + 1))) := by rw [jD_split cs i, List.drop_eq_getElem_cons hi, jD_cons]
 have eV : jV cs = jV (cs.take i) ++ (cs[i].vs ++ jV (cs.drop (i + 1))) := by rw [jV_split cs i, List.drop_eq_getElem_cons hi, jV_cons]
 have tD : ∀ k, (jD cs).take (jD (cs.take k)).length = jD (cs.take k) := fun k => by rw [jD_split cs k, List.take_left]
 refine ⟨?_, ?_, ?_⟩
 · rw [jR_succ hi, List.length_append, eR]
   have h := cut_mid (jR (cs.take i)) cs[i].rs (jR (cs.drop (i + 1)))
   exact h
 · rw [l1.1, l2.1, jD_succ hi, List.length_append, eD]
   exact cut_mid _ _ _
 · rw [l1.1, l2.1, tD, tD, ← l1.2, ← l2.2, jV_succ hi, List.length_append, eV]
   exact cut_mid _ _ _
set_option maxHeartbeats 400000 in
theorem coded3_sent (w : World) (A : Nat → Addr) (h : Errs w A) (i : Nat) (hi : i < 8) (c : Int) (b : Bool) (hc : ((i : Int) + 1 == c) = b) :
    Calls Tryz.prog 21 #[errV (A i), .int .i64 c] w fun e w' => e = .returned (.bool b) ∧ Below w.heap.size w w' := by
 have HA : Hid (Errs w A) := h
 clear h
 go_enter Tryz.func21, Tryz.ntmps21
 cases b
 all_goals
  go_wp2_with (go_at_call 33; refine (code_sent w A HA.out i hi).mono ?_; rintro e w1 ⟨rfl, hb1⟩)
  go_ret
  exact ⟨rfl, hb1⟩
def CwT (lid kind mr md : Int) (U : List Vl → List Vl × List Nat) (c : Cl) (most : Int) (t : List UInt8) (ev : Value) : Prop := (∃ et ep, ev = .iface et ep) ∨ (ev = .nilIface ∧ GoodC lid kind mr md c ∧ c.rs ≠ [] ∧ (1 ≤ most ∧ most ≤ 20000) ∧ t = chT U kind mr md (pgs c.rs.length most.toNat md c))
theorem CwT.of {N : Nat} {lid kind mr md : Int} {U : List Vl → List Vl × List Nat} {c : Cl} {most : Int} {sv kv bv : Value} {t : List UInt8} {ev : Value} {w : World} (h : CwR N lid kind mr md U c most sv kv bv t ev w) : CwT lid kind mr md U c most t ev := by
 rcases h with ⟨_, h, _⟩ | ⟨h1, h2, h3, h4, h5⟩
 · exact .inl h
 · exact .inr ⟨h4, h1, h2, h3, h5⟩
theorem Tryz.infoBl : (Tryz.prog.info? 4).map (fun i => (i.zero, i.size, i.bytes)) = some (some (.bool false), 1, 1) := by kernel_rfl
theorem news_b {w : World} {ad : Option Addr} {bs : List Bool} (hl : LiesB w ad bs) : ∀ j u, (bs.map Value.bool)[j]? = some u → ∃ a, ad = some a ∧ w.cell? (a.add j) = some u := fun j u hu => by
 rw [List.getElem?_map, Option.map_eq_some_iff] at hu
 obtain ⟨b, hb, rfl⟩ := hu
 obtain ⟨hj, rfl⟩ := List.getElem?_eq_some_iff.1 hb
 obtain ⟨bl, o, e, hc⟩ := hl j hj
 exact ⟨_, e, by rw [addr_add]; exact hc⟩
theorem one_b (bs : List Bool) : ∀ u ∈ bs.map Value.bool, u.oneCell' = true := fun u hu => by obtain ⟨x, _, rfl⟩ := List.mem_map.1 hu; rfl
theorem liesB_of {w : World} {a : Option Addr} {bs : List Bool} (h : Lies w a ([] ++ bs.map Value.bool)) : LiesB w a bs := fun j hj => by
 obtain ⟨b, o, e, hc⟩ := h j (by simpa using hj)
 exact ⟨b, o, e, by rw [hc]; simp⟩
set_option maxRecDepth 100000 in
set_option maxHeartbeats 12800000 in
theorem chunkPicks_walk (lid kind mr md : Int) (pa : Option Addr) (pc : Nat) (ps : List Int) (c : Cl) (most : Int) (ks : List Bool) (ka : Option Addr) (kc : Nat) (W : World) (A : Nat → Addr) (hE : Errs W A) (hp : Lies W pa (i64s ps)) (hat : c.At W) (hin : ∀ v ∈ c.vs, v.In) (hcb : c.bulk ≤ 1048576) (hkb : LiesB W ka ks) :
    Calls Tryz.prog 5 #[.agg #[.int .i64 lid, .int .i64 kind, .int .i64 mr, .int .i64 md, .slice pa ps.length pc], .agg #[.int .i64 c.id, .slice c.ra c.rs.length c.rc, .slice c.da c.ds.length c.dc, .slice c.va c.vs.length c.vc], .int .i64 most, .slice ka ks.length kc] W fun e w' => e = .returned (.bool true) ∧ Below W.heap.size W w' := by
 obtain ⟨pn, hpn⟩ : ∃ pn, ps.length = pn := ⟨_, rfl⟩
 have HPN : Hid _ := hpn
 rw [hpn]
 clear hpn
 obtain ⟨U, hU⟩ := uq_pick
 have HU : Hid _ := hU
 obtain ⟨w0, HW0, HX, HY, HB⟩ := two_boxes W #[.int .i64 lid, .int .i64 kind, .int .i64 mr, .int .i64 md, .slice pa pn pc] #[.int .i64 c.id, .slice c.ra c.rs.length c.rc, .slice c.da c.ds.length c.dc, .slice c.va c.vs.length c.vc] 24 27
 have HI0 : Hid (LsI W lid kind mr md pa pn pc c w0) := ⟨HX.out, HY.out, HB.out⟩
 have HA0 : Hid (∀ X, Below W.heap.size W X → Errs X A) := fun X hX => hE.keep hX
 have HP : Hid (∀ X, Below W.heap.size W X → Lies X pa (i64s ps)) := fun X hX => hp.keep hX
 have HAT : Hid (∀ X, Below W.heap.size W X → c.At X) := fun X hX => hat.keep hX
 have HIN : Hid (∀ v ∈ c.vs, v.In) := hin
 have HKB : Hid (∀ X, Below W.heap.size W X → LiesB X ka ks) := fun X hX => hkb.keep hX
 clear HX HY HB hE hp hat hin hU hkb
 go_enter Tryz.func5, Tryz.ntmps5
 go_wp2_with fail
 rw [HW0.out]
 clear HW0
 have hE0 := HA0.out _ HI0.out.old
 refine (pair_any w0 _ _ _ _ _ _ _ _ _ _ ⟨ecT hE0 0 (by omega), ecT hE0 1 (by omega), ecT hE0 2 (by omega), ecT hE0 3 (by omega), ecT hE0 6 (by omega)⟩).mono ?_
 clear hE0
 rintro e w1 ⟨rfl, hb1⟩
 have HI1 : Hid (LsI W lid kind mr md pa pn pc c w1) := HI0.out.keep hb1
 clear HI0 hb1
 obtain ⟨⟨p0, p1, p2, p3, p4⟩, _⟩ := row_five HI1.out.lf
 obtain ⟨k0, k1, k2, k3⟩ := row_four HI1.out.co
 go_wp2_with fail
 refine (slim3_any lid kind mr md pa pn pc c hcb w1 (HAT.out _ HI1.out.old)).mono ?_
 obtain ⟨b, HBo⟩ : ∃ b, Hid (slimB c pn = b) := ⟨_, rfl⟩
 rw [HBo.out]
 rintro e w2 ⟨rfl, hb2⟩
 have HI2 : Hid (LsI W lid kind mr md pa pn pc c w2) := HI1.out.keep hb2
 clear HI1 hb2 p0 p1 p2 p3 p4 k0 k1 k2 k3
 obtain ⟨⟨p0, p1, p2, p3, p4⟩, _⟩ := row_five HI2.out.lf
 obtain ⟨k0, k1, k2, k3⟩ := row_four HI2.out.co
 cases b
 · go_wp2
   go_ret
   exact ⟨rfl, HI2.out.old⟩
 have hsl : c.bulk ≤ 2000 ∧ pn ≤ 100 := by have h := HBo.out; unfold slimB at h; simpa using h
 have hsv := sumV_len c.vs
 have hbk : c.rs.length + c.ds.length + c.vs.length ≤ 2000 := by have := hsl.1; unfold Cl.bulk at this; omega
 have hpn : pn ≤ 100 := hsl.2
 clear hsl hsv hcb HBo
 go_wp2_with fail
 refine Calls.mono (rightL_any lid kind mr md pa pn pc w2) ?_
 rintro e wz ⟨⟨b, rfl⟩, hbr⟩
 have HI3 : Hid (LsI W lid kind mr md pa pn pc c wz) := HI2.out.keep hbr
 clear HI2 hbr p0 p1 p2 p3 p4 k0 k1 k2 k3
 obtain ⟨⟨p0, p1, p2, p3, p4⟩, _⟩ := row_five HI3.out.lf
 obtain ⟨k0, k1, k2, k3⟩ := row_four HI3.out.co
 cases b
 · go_wp2
   go_ret
   exact ⟨rfl, HI3.out.old⟩
 by_cases hk5 : 500 < ks.length
 · have q1 : decide ((500 : Int) < ((ks.length : Nat) : Int)) = true := decide_eq_true (by omega)
   have q2 : decide (((ks.length : Nat) : Int) > 500) = true := decide_eq_true (by omega)
   clear hk5
   go_wp2
   go_ret
   exact ⟨rfl, HI3.out.old⟩
 have q1 : decide ((500 : Int) < ((ks.length : Nat) : Int)) = false := decide_eq_false (by omega)
 have q2 : decide (((ks.length : Nat) : Int) > 500) = false := decide_eq_false (by omega)
 go_upto_region 4 with fail
 go_cut [10, 11] (fun x y wx => ∃ t : List UInt8, x = .string ⟨t.toArray⟩ ∧ Hid (Below wz.heap.size wz wx) ∧ Hid (CwT lid kind mr md U c most t y))
 case first =>
  have b0 : Below wz.heap.size wz wz := Below.refl _ _
  have HN : Hid (∀ X, Below wz.heap.size wz X → (X.cell? ⟨W.heap.size, 0, none⟩ = some (.int .i64 lid) ∧ X.cell? ⟨W.heap.size, 1, none⟩ = some (.int .i64 kind) ∧ X.cell? ⟨W.heap.size, 2, none⟩ = some (.int .i64 mr) ∧ X.cell? ⟨W.heap.size, 3, none⟩ = some (.int .i64 md) ∧ X.cell? ⟨W.heap.size, 4, none⟩ = some (.slice pa pn pc)) ∧ (X.cell? ⟨W.heap.size + 1, 0, none⟩ = some (.int .i64 c.id) ∧ X.cell? ⟨W.heap.size + 1, 1, none⟩ = some (.slice c.ra c.rs.length c.rc) ∧ X.cell? ⟨W.heap.size + 1, 2, none⟩ = some (.slice c.da c.ds.length c.dc) ∧ X.cell? ⟨W.heap.size + 1, 3, none⟩ = some (.slice c.va c.vs.length c.vc)) ∧ Below wz.heap.size wz X) := fun X hX => ⟨(row_five (blk_keep hX HI3.out.lf)).1, row_four (blk_keep hX HI3.out.co), hX⟩
  have HO1 : Hid (∀ X, Below wz.heap.size wz X → Calls Tryz.prog 12 #[.agg #[.int .i64 lid, .int .i64 kind, .int .i64 mr, .int .i64 md, .slice pa pn pc]] X fun e w' => (∃ pa' pc', e = .returned (.agg #[.int .i64 lid, .int .i64 kind, .int .i64 mr, .int .i64 md, .slice pa' pn pc'])) ∧ Below wz.heap.size wz w' ∧ Below X.heap.size X w') := fun X hX => (by
   have h := ownLeaf_any lid kind mr md pa pc ps X (by rw [HPN.out]; omega) (HP.out _ (HI3.out.keep hX).old)
   rw [HPN.out] at h
   exact h.mono fun e w' h => ⟨(by obtain ⟨⟨pa', pc', h1, _⟩, _⟩ := h; exact ⟨pa', pc', h1⟩), bel_next hX (Nat.le_refl _) h.2, h.2⟩)
  have HO2 : Hid (∀ X, Below wz.heap.size wz X → Calls Tryz.prog 13 #[.agg #[.int .i64 c.id, .slice c.ra c.rs.length c.rc, .slice c.da c.ds.length c.dc, .slice c.va c.vs.length c.vc]] X fun e w' => (∃ k0 : Cl, e = .returned (.agg #[.int .i64 k0.id, .slice k0.ra k0.rs.length k0.rc, .slice k0.da k0.ds.length k0.dc, .slice k0.va k0.vs.length k0.vc]) ∧ k0.At w' ∧ SameC c k0) ∧ Below wz.heap.size wz w' ∧ Below X.heap.size X w') := fun X hX => (ownColumn_cl c X (by omega) (by omega) (by omega) (HAT.out _ (HI3.out.keep hX).old)).mono fun e w' h => ⟨(by obtain ⟨⟨k, h1, h2, _, h3⟩, _⟩ := h; exact ⟨k, h1, h2, h3⟩), bel_next hX (Nat.le_refl _) h.2, h.2⟩
  have HO3 : Hid (∀ X (k0 : Cl) pa' pc', Below wz.heap.size wz X → k0.At X → SameC c k0 → Calls Tryz.prog 11 #[.agg #[.int .i64 lid, .int .i64 kind, .int .i64 mr, .int .i64 md, .slice pa' pn pc'], .agg #[.int .i64 k0.id, .slice k0.ra k0.rs.length k0.rc, .slice k0.da k0.ds.length k0.dc, .slice k0.va k0.vs.length k0.vc], .int .i64 most] X fun e w' => (∃ (t : List UInt8) (ev : Value), e = .returned (.tuple #[.string ⟨t.toArray⟩, ev]) ∧ CwT lid kind mr md U c most t ev) ∧ Below wz.heap.size wz w') := fun X k0 pa' pc' hX ka0 ks0 => (by
   have hEX := HA0.out _ (HI3.out.keep hX).old
   refine (chWrite_any lid kind mr md pa' pn pc' U HU.out k0 most (by rw [ks0.rs, ks0.ds, ks0.vs]; exact hbk) ks0.cap (by rw [ks0.vs]; exact HIN.out) X _ _ _ _ _ _ (ecT hEX 2 (by omega)) (ecT hEX 3 (by omega)) (ecT hEX 1 (by omega)) ka0).mono fun e w' h => ⟨?_, bel_next hX (Nat.le_refl _) h.2⟩
   obtain ⟨⟨t, ev, h1, h2⟩, _⟩ := h
   exact ⟨t, ev, h1, .of (h2.same ks0)⟩)
  go_region_held3 (fun X => (X.cell? ⟨W.heap.size, 0, none⟩ = some (.int .i64 lid) ∧ X.cell? ⟨W.heap.size, 1, none⟩ = some (.int .i64 kind) ∧ X.cell? ⟨W.heap.size, 2, none⟩ = some (.int .i64 mr) ∧ X.cell? ⟨W.heap.size, 3, none⟩ = some (.int .i64 md) ∧ X.cell? ⟨W.heap.size, 4, none⟩ = some (.slice pa pn pc)) ∧ (X.cell? ⟨W.heap.size + 1, 0, none⟩ = some (.int .i64 c.id) ∧ X.cell? ⟨W.heap.size + 1, 1, none⟩ = some (.slice c.ra c.rs.length c.rc) ∧ X.cell? ⟨W.heap.size + 1, 2, none⟩ = some (.slice c.da c.ds.length c.dc) ∧ X.cell? ⟨W.heap.size + 1, 3, none⟩ = some (.slice c.va c.vs.length c.vc)) ∧ Below wz.heap.size wz X) (with_reducible refine HN.out _ ?_; repeat' (first | with_reducible assumption | with_reducible exact b0.drew | with_reducible exact b0 | with_reducible refine Below.drew ?_ | with_reducible exact Nat.le_refl _ | with_reducible refine Below.setCell ?_ ?_ _ | with_reducible refine Below.alloc ?_ ?_ _ | with_reducible exact Below.size (by assumption) | (simp; done) | (simp; omega) | omega)) (first
   | (go_at_call 12; (with_reducible refine Calls.mono (HO1.out _ ?_) ?_); (repeat' (first | with_reducible assumption | with_reducible exact b0.drew | with_reducible exact b0 | with_reducible refine Below.drew ?_ | with_reducible refine Below.alloc ?_ ?_ _ | with_reducible exact Below.size (by assumption) | with_reducible exact Nat.le_refl _ | (simp; done) | (simp; omega))); rintro e x1 ⟨⟨pa', pc', rfl⟩, hbx1, hraw1⟩; (first | (have HK1 : Hid (k0.At x1) := Cl.At.keep (Hid.out HK0) hraw1; clear HK0; have HK0 : Hid (k0.At x1) := HK1; clear HK1) | skip))
   | (go_at_call 13; (with_reducible refine Calls.mono (HO2.out _ ?_) ?_); (repeat' (first | with_reducible assumption | with_reducible exact b0.drew | with_reducible exact b0 | with_reducible refine Below.drew ?_ | with_reducible refine Below.alloc ?_ ?_ _ | with_reducible exact Below.size (by assumption) | with_reducible exact Nat.le_refl _ | (simp; done) | (simp; omega))); rintro e x2 ⟨⟨k0, rfl, kb0, kt0⟩, hbx2, hraw2⟩; have HK0 : Hid (k0.At x2) := kb0; have HKS0 : Hid _ := kt0; clear kb0 kt0)
   | (go_at_call 11; (with_reducible refine Calls.mono (HO3.out _ k0 pa' pc' ?_ ?_ ?_) ?_); (repeat' (first | with_reducible assumption | with_reducible exact b0.drew | with_reducible exact b0 | with_reducible refine Below.drew ?_ | with_reducible refine Below.alloc ?_ ?_ _ | with_reducible exact Below.size (by assumption) | with_reducible exact Nat.le_refl _ | (simp; done) | (simp; omega))); (first | exact HK0.out | exact HK0.out.keep ((Below.refl _ _).drew)); exact HKS0.out; rintro e x3 ⟨⟨t, ev, rfl, hor⟩, hbx3⟩; have HOR : Hid (CwT lid kind mr md U c most t ev) := hor; have HBX3 : Hid (Below wz.heap.size wz x3) := hbx3; clear hor))
  all_goals
   go_wp2_with fail
   go_meet
   exact ⟨t, rfl, HBX3, HOR⟩
 case rest =>
  obtain ⟨t, rfl, HBw, HBR⟩ := hcut
  rename World => wx
  rename Value => ev
  have HI : Hid (LsI W lid kind mr md pa pn pc c wx) := HI3.out.keep HBw.out
  clear HI3 HBw p0 p1 p2 p3 p4 k0 k1 k2 k3 q1 q2
  rcases HBR.out with ⟨et, ep, rfl⟩ | ⟨rfl, hg, hr, hm, rfl⟩
  · clear HBR
    go_wp2
    go_ret
    exact ⟨rfl, HI.out.old⟩
  clear HBR
  obtain ⟨f1, f2, f3, f4, f5⟩ := pgs_facts most.toNat hg hr HIN.out
  have hcl := cs_le _ fun p hp => (f1 p hp).2.1
  have hcid : c.id = lid := by
   have h := hg.1
   rw [Bool.and_eq_true, fitB_iff] at h
   exact h.2.1
  have hfit := hg.1
  rw [Bool.and_eq_true, fitB_iff] at hfit
  obtain ⟨-, -, hlen, -, -, -, hvl⟩ := hfit
  obtain ⟨cs, HCS⟩ : ∃ cs, Hid (pgs c.rs.length most.toNat md c = cs) := ⟨_, rfl⟩
  rw [HCS.out] at f1 f2 f3 f4 f5 hcl ⊢
  have hsp := fun i => st_part (lid := lid) (kind := kind) (mr := mr) (md := md) (cs := cs) (fun p hp => ⟨(f1 p hp).1, (f1 p hp).2.1⟩) i
  have hcp := fun i hi => cut_part (lid := lid) (kind := kind) (mr := mr) (md := md) (cs := cs) (fun p hp => ⟨(f1 p hp).1, (f1 p hp).2.1⟩) i hi
  rw [f3] at hcl
  rw [f3, f4, f5] at hcp
  rw [f3] at hsp
  have HBk : Hid ((jR cs).length + (jD cs).length + (jV cs).length ≤ 2000) := (by show _ ≤ _; rw [f3, f4, f5]; exact hbk)
  have HMk : Hid (∀ X pa' pc', Below W.heap.size W X → Calls Tryz.prog 17 #[.agg #[.int .i64 lid, .int .i64 kind, .int .i64 mr, .int .i64 md, .slice pa' pn pc'], .string ⟨(chT U kind mr md cs).toArray⟩] X fun e w' => (∃ a d, e = .returned (.tuple #[.slice a cs.length d, .nilIface]) ∧ LiesM w' a (mkOf U kind mr md 0 0 cs)) ∧ Below X.heap.size X w') := fun X pa' pc' hX => (by
   have hEX := HA0.out X hX
   exact (chMarks_any lid kind mr md pa' pn pc' U HU.out cs f1 f2 HBk.out X _ _ _ _ _ _ _ _ _ _ ⟨ecT hEX 0 (by omega), ecT hEX 1 (by omega), ecT hEX 2 (by omega), ecT hEX 3 (by omega), ecT hEX 6 (by omega)⟩).mono fun e w' h => (by
    obtain ⟨⟨a, d, h1, h2, _⟩, h7⟩ := h
    exact ⟨⟨a, d, h1, h2⟩, h7⟩))
  have HPk : Hid (∀ X pa' pc' a d ka' kc', Below W.heap.size W X → LiesM X a (mkOf U kind mr md 0 0 cs) → LiesB X ka' ks → Calls Tryz.prog 20 #[.agg #[.int .i64 lid, .int .i64 kind, .int .i64 mr, .int .i64 md, .slice pa' pn pc'], .string ⟨(chT U kind mr md cs).toArray⟩, .slice a cs.length d, .slice ka' ks.length kc'] X fun e w' => PikR lid cs ks (errV (A 2)) e w' ∧ Below X.heap.size X w') := fun X pa' pc' a d ka' kc' hX h1 h2 => (by
   have hEX := HA0.out X hX
   exact pick_any lid kind mr md pa' pn pc' U HU.out cs f1 HBk.out ks ka' a kc' d X _ _ _ _ _ _ _ _ _ _ ⟨ecT hEX 0 (by omega), ecT hEX 1 (by omega), ecT hEX 2 (by omega), ecT hEX 3 (by omega), ecT hEX 6 (by omega)⟩ h1 h2)
  have HPt : Hid (∀ (i : Nat) (hi : i < cs.length) X, Below W.heap.size W X → Calls Tryz.prog 22 #[.agg #[.int .i64 lid, .int .i64 kind, .int .i64 mr, .int .i64 md, .slice pa pn pc], .agg #[.int .i64 c.id, .slice c.ra c.rs.length c.rc, .slice c.da c.ds.length c.dc, .slice c.va c.vs.length c.vc], .int .i64 (cntE 0 (jR (cs.take i)) : Nat), .int .i64 ((cntE 0 (jR (cs.take i)) : Nat) + (cntE 0 cs[i].rs : Nat))] X fun e w' => (∃ kk : Cl, e = .returned (.agg #[.int .i64 kk.id, .slice kk.ra kk.rs.length kk.rc, .slice kk.da kk.ds.length kk.dc, .slice kk.va kk.vs.length kk.vc]) ∧ kk.At w' ∧ kk.Fr X.heap.size ∧ kk.rs = cs[i].rs ∧ kk.ds = cs[i].ds ∧ kk.vs = cs[i].vs) ∧ Below X.heap.size X w') := fun i hi X hX => (by
   have h1 := hsp i
   have h2 := hsp (i + 1)
   rw [jR_succ hi, cntE_app, Int.natCast_add] at h2
   rw [← jR_succ hi] at h2
   obtain ⟨u1, u2, u3⟩ := hcp i hi
   refine (partOf_f lid kind mr md _ _ pa pn pc c X _ _ (by omega) (by omega) hlen hvl h1 h2 (HAT.out X hX)).mono fun e w' h => ⟨?_, h.2⟩
   obtain ⟨⟨k, y1, y2, y3, _, y4, y5, y6⟩, _⟩ := h
   exact ⟨k, y1, y2, y3, y4.trans u1, y5.trans u2, y6.trans u3⟩)
  obtain ⟨sb, HSB⟩ : ∃ sb, Hid ((⟨(chT U kind mr md cs).toArray⟩ : ByteArray) = sb) := ⟨_, rfl⟩
  rw [HSB.out] at HPk HMk ⊢
  clear f1 f2 f3 f4 f5 hg hr hcid hm hlen hvl hsp hcp HU HCS
  have HO1 : Hid (∀ X, Below wx.heap.size wx X → Calls Tryz.prog 12 #[.agg #[.int .i64 lid, .int .i64 kind, .int .i64 mr, .int .i64 md, .slice pa pn pc]] X fun e w' => (∃ pa' pc', e = .returned (.agg #[.int .i64 lid, .int .i64 kind, .int .i64 mr, .int .i64 md, .slice pa' pn pc'])) ∧ Below wx.heap.size wx w' ∧ Below X.heap.size X w') := fun X hX => (by
   have h := ownLeaf_any lid kind mr md pa pc ps X (by rw [HPN.out]; omega) (HP.out _ (HI.out.keep hX).old)
   rw [HPN.out] at h
   exact h.mono fun e w' h => ⟨(by obtain ⟨⟨pa', pc', h1, _⟩, _⟩ := h; exact ⟨pa', pc', h1⟩), bel_next hX (Nat.le_refl _) h.2, h.2⟩)
  obtain ⟨⟨p0, p1, p2, p3, p4⟩, _⟩ := row_five HI.out.lf
  go_wp2_with fail
  refine Calls.mono (HO1.out wx (Below.refl _ _)) ?_
  rintro e w4 ⟨⟨pa1, pc1, rfl⟩, hb4, _⟩
  have HI4 : Hid (LsI W lid kind mr md pa pn pc c w4) := HI.out.keep hb4
  clear hb4 HO1 p0 p1 p2 p3 p4
  go_wp2_with fail
  refine Calls.mono (HMk.out w4 pa1 pc1 HI4.out.old) ?_
  rintro e w5 ⟨⟨a, d, rfl, hlm⟩, hb5⟩
  have HI5 : Hid (LsI W lid kind mr md pa pn pc c w5) := HI4.out.keep hb5
  have HLM : Hid (LiesM w5 a (mkOf U kind mr md 0 0 cs)) := hlm
  clear hb5 hlm HMk HI4 HI
  obtain ⟨ib, hbi, hb0, hb1, hb2⟩ := info_parts Tryz.infoBl
  have HKa : Hid (LiesB w5 ka ks) := HKB.out w5 HI5.out.old
  go_upto_region 12 with (at_builtin; refine wpList_append_any _ rfl _ _ 58 rfl w5.heap.size 4 ib (.bool false) 1 1 Tryz.underlying58 hbi hb0 hb1 hb2 rfl (by decide) (.slice none 0 0) 0 [] rfl (World.ownsRow_nil _ _ _ _) ka ks.length kc (ks.map Value.bool) rfl (by simp) (news_b HKa.out) (one_b _) (by unfold maxLen; omega) (by omega) (Nat.le_refl _) ?_; intro v1 x1 hown hgr hwh; obtain ⟨a1, c1, hv1, hl1⟩ := lies_own hown; rw [Nat.zero_add] at hown; have HI6 : Hid (LsI W lid kind mr md pa pn pc c x1) := HI5.out.keep ((Below.refl _ _).grown hgr (Nat.le_refl _) (fun k hk => by simp [Value.ownBlock] at hk)); have HLM6 : Hid (LiesM x1 a (mkOf U kind mr md 0 0 cs)) := HLM.out.keep ((Below.refl _ _).grown hgr (Nat.le_refl _) (fun k hk => by simp [Value.ownBlock] at hk)); have HLB6 : Hid (LiesB x1 a1 ks) := liesB_of hl1; (have hv2 : v1 = .slice a1 ks.length c1 := by rw [hv1]; simp); subst hv2; clear hown hgr hwh hv1 hl1)
  clear HI5 HLM HKa hbi hb0 hb1 hb2
  have HO1 : Hid (∀ X, Below x1.heap.size x1 X → Calls Tryz.prog 12 #[.agg #[.int .i64 lid, .int .i64 kind, .int .i64 mr, .int .i64 md, .slice pa pn pc]] X fun e w' => (∃ pa' pc', e = .returned (.agg #[.int .i64 lid, .int .i64 kind, .int .i64 mr, .int .i64 md, .slice pa' pn pc'])) ∧ Below x1.heap.size x1 w' ∧ Below X.heap.size X w') := fun X hX => (by
   have h := ownLeaf_any lid kind mr md pa pc ps X (by rw [HPN.out]; omega) (HP.out _ (HI6.out.keep hX).old)
   rw [HPN.out] at h
   exact h.mono fun e w' h => ⟨(by obtain ⟨⟨pa', pc', h1, _⟩, _⟩ := h; exact ⟨pa', pc', h1⟩), bel_next hX (Nat.le_refl _) h.2, h.2⟩)
  obtain ⟨⟨p0, p1, p2, p3, p4⟩, _⟩ := row_five HI6.out.lf
  go_wp2_with fail
  refine Calls.mono (HO1.out x1 (Below.refl _ _)) ?_
  rintro e w7 ⟨⟨pa2, pc2, rfl⟩, hb7, _⟩
  have HI7 : Hid (LsI W lid kind mr md pa pn pc c w7) := HI6.out.keep hb7
  have HLM7 : Hid (LiesM w7 a (mkOf U kind mr md 0 0 cs)) := HLM6.out.keep hb7
  have HLB7 : Hid (LiesB w7 a1 ks) := HLB6.out.keep hb7
  clear hb7 HO1 HI6 HLM6 HLB6 p0 p1 p2 p3 p4
  go_wp2_with fail
  refine Calls.mono (HPk.out w7 pa2 pc2 a d a1 c1 HI7.out.old HLM7.out HLB7.out) ?_
  rintro e w8 ⟨hpk, hb8⟩
  have HI8 : Hid (LsI W lid kind mr md pa pn pc c w8) := HI7.out.keep hb8
  have HLM8 : Hid (LiesM w8 a (mkOf U kind mr md 0 0 cs)) := HLM7.out.keep hb8
  clear hb8 HPk HI7 HLM7 HLB7
  rcases hpk with ⟨hkl, rfl⟩ | ⟨hkl, k, rfl, hka, k1, k2, k3, k4⟩
  · have q1 : (((ks.length : Nat) : Int) != ((cs.length : Nat) : Int)) = true := by
      simp only [bne_iff_ne, ne_eq]
      omega
    obtain ⟨w9, HW9, HX9, HB9⟩ := boxed1 w8 #[.int .i64 0, .slice none 0 0, .slice none 0 0, .slice none 0 0] 27
    have HI9 : Hid (LsI W lid kind mr md pa pn pc c w9) := HI8.out.keep HB9.out
    have HCd : Hid _ := coded3_sent w9 A (HA0.out _ HI9.out.old) 2 (by omega) 3 true (by decide)
    clear HI8 HB9 hkl
    go_upto_region 13 with fail
    rw [HW9.out]
    clear HW9
    go_wp2_with fail
    refine Calls.mono HCd.out ?_
    rintro e w10 ⟨rfl, hb10⟩
    have HI10 : Hid (LsI W lid kind mr md pa pn pc c w10) := HI9.out.keep hb10
    have HX10 : Hid (w10.heap[w8.heap.size]? = some (.cells #[.int .i64 0, .slice none 0 0, .slice none 0 0, .slice none 0 0] 27 (0, 0))) := blk_keep hb10 HX9.out
    clear hb10 HCd HI9 HX9
    obtain ⟨y0, y1, y2, y3⟩ := row_four HX10.out
    have HSm : Hid (Calls Tryz.prog 18 #[.agg #[.int .i64 0, .slice none 0 0, .slice none 0 0, .slice none 0 0], .agg #[.int .i64 0, .slice none 0 0, .slice none 0 0, .slice none 0 0]] w10 fun e w' => e = .returned (.bool true) ∧ Below w10.heap.size w10 w') := (by
     have h := sameColumn_any 0 0 none none none none none none 0 0 0 0 0 0 [] [] [] [] [] [] w10 (by simp) (by simp) (by simp) (fun j hj => absurd hj (by simp [i64s])) (fun j hj => absurd hj (by simp [i64s])) (fun j hj => absurd hj (by simp [i64s])) (fun j hj => absurd hj (by simp [i64s])) (fun j hj => absurd hj (by simp)) (fun j hj => absurd hj (by simp))
     refine h.mono fun e w' hq => ⟨?_, hq.2⟩
     obtain ⟨b, hb, hbi⟩ := hq.1
     rw [hb, hbi.2 ⟨rfl, rfl, rfl, rfl⟩])
    go_wp2_with fail
    refine Calls.mono HSm.out ?_
    rintro e w11 ⟨rfl, hb11⟩
    have HI11 : Hid (LsI W lid kind mr md pa pn pc c w11) := HI10.out.keep hb11
    clear hb11 HSm HI10 HX10 y0 y1 y2 y3
    go_wp2
    go_ret
    exact ⟨rfl, HI11.out.old⟩
  · have q1 : (((ks.length : Nat) : Int) != ((cs.length : Nat) : Int)) = false := by
      simp only [bne_eq_false_iff_eq]
      omega
    obtain ⟨w9, HW9, HX9, HB9⟩ := boxed1 w8 #[.int .i64 k.id, .slice k.ra k.rs.length k.rc, .slice k.da k.ds.length k.dc, .slice k.va k.vs.length k.vc] 27
    have HI9 : Hid (LsI W lid kind mr md pa pn pc c w9) := HI8.out.keep HB9.out
    have HLM9 : Hid (LiesM w9 a (mkOf U kind mr md 0 0 cs)) := HLM8.out.keep HB9.out
    have HKA9 : Hid (k.At w9) := hka.keep HB9.out
    have HKE : Hid (k.id = lid ∧ k.rs = jR (kpt cs ks) ∧ k.ds = jD (kpt cs ks) ∧ k.vs = jV (kpt cs ks)) := ⟨k1, k2, k3, k4⟩
    have HKl : Hid (ks.length = cs.length) := hkl
    clear HI8 HLM8 HB9 hka k1 k2 k3 k4 hkl
    go_upto_region 15 with fail
    rw [HW9.out]
    clear HW9
    obtain ⟨G, HG⟩ : ∃ G, Hid (w9.heap.size = G) := ⟨_, rfl⟩
    obtain ⟨wB, HWB, HXB, HBB⟩ := boxed1 w9 #[.int .i64 lid, .slice none 0 0, .slice none 0 0, .slice none 0 0] 27
    rw [HG.out] at HXB
    have hzB : wB.heap.size = G + 1 := by rw [← HWB.out, ← HG.out]; simp
    have HIB : Hid (∃ rv dv vv, AcI G (G + 1) lid rv [] dv [] vv [] wB) := ⟨_, _, _, AcI.start HXB.out⟩
    have HUp : Hid (∀ X, DFr G (G + 1) wB X → Below w9.heap.size w9 X) := fun X hX => HBB.out.trans (hX.below (by rw [HG.out, hzB]; omega) (by rw [HG.out]; exact Nat.le_refl _) (by rw [HG.out]; omega))
    have HIX : Hid (∀ X, DFr G (G + 1) wB X → LsI W lid kind mr md pa pn pc c X) := fun X hX => HI9.out.keep (HUp.out X hX)
    have HLX : Hid (∀ X, DFr G (G + 1) wB X → LiesM X a (mkOf U kind mr md 0 0 cs)) := fun X hX => HLM9.out.keep (HUp.out X hX)
    have HKX : Hid (∀ X, DFr G (G + 1) wB X → k.At X) := fun X hX => HKA9.out.keep (HUp.out X hX)
    have HPX : Hid (∀ X, DFr G (G + 1) wB X → X.heap[w8.heap.size]? = some (.cells #[.int .i64 k.id, .slice k.ra k.rs.length k.rc, .slice k.da k.ds.length k.dc, .slice k.va k.vs.length k.vc] 27 (0, 0))) := fun X hX => blk_keep (HUp.out X hX) HX9.out
    have HGg : Hid (w9.heap.size = G) := HG
    obtain ⟨⟨p0, p1, p2, p3, p4⟩, _⟩ := row_five HI9.out.lf
    go_upto_region 16 with fail
    rw [HWB.out, HG.out]
    clear HWB HG p0 p1 p2 p3 p4 HXB HLM9 HKA9 HX9 hzB
    obtain ⟨iv, hvi, hv0, hv1, hv2⟩ := info_parts Tryz.info3
    obtain ⟨iw, hwi, hw0, hw1, hw2⟩ := info_parts Tryz.infoV
    go_wp2_with fail
    go_loopw [16] (fun x wr => ∃ i : Nat, i ≤ cs.length ∧ x = .int .i64 (i : Nat) ∧ Hid (∃ rv dv vv, AcI G (G + 1) lid rv (jR (kpt (cs.take i) (ks.take i))) dv (jD (kpt (cs.take i) (ks.take i))) vv (jV (kpt (cs.take i) (ks.take i))) wr) ∧ Hid (DFr G (G + 1) wB wr)) (fun x _ => cs.length - (intOf x).toNat)
    case atStart => exact ⟨0, Nat.zero_le _, rfl, HIB, DFr.refl _ _ _⟩
    case round =>
     clear HIB
     obtain ⟨i, hi, rfl, HAc, HD⟩ := hrel
     by_cases hlt : i < cs.length
     · have hlk : i < ks.length := by rw [HKl.out]; exact hlt
       have hl2 : i < (mkOf U kind mr md 0 0 cs).length := by rw [mkOf_len]; exact hlt
       obtain ⟨b1, o1, hma, hcm⟩ := HLX.out wr HD.out i hl2
       obtain ⟨b2, o2, hkb, hck⟩ := HKB.out wr (HIX.out wr HD.out).old i hlk
       rw [mkOf_at U kind mr md 0 0 cs i hlt hl2] at hcm
       have HKp : Hid _ := kpt_snoc cs ks i hlt hlk
       obtain ⟨bq, HBq⟩ : ∃ bq : Bool, Hid (ks[i] = bq) := ⟨ks[i], rfl⟩
       rw [HBq.out] at hck HKp
       have HIr : Hid (LsI W lid kind mr md pa pn pc c wr) := HIX.out wr HD.out
       rw [hkb]
       cases bq with
       | false =>
        have HK2 : Hid (kpt (cs.take (i + 1)) (ks.take (i + 1)) = kpt (cs.take i) (ks.take i)) := (by
         show _ = _
         have h := HKp.out
         simpa using h)
        clear hcm
        go_wp2
        go_roundw
        case rel => exact ⟨i + 1, by omega, by go_num, by rw [HK2.out]; exact HAc, HD⟩
        case measure => simp [intOf]; omega
       | true =>
        have HK2 : Hid (kpt (cs.take (i + 1)) (ks.take (i + 1)) = kpt (cs.take i) (ks.take i) ++ [cs[i]]) := (by
         show _ = _
         have h := HKp.out
         simpa using h)
        have HPi : Hid (∀ X, Below wr.heap.size wr X → Calls Tryz.prog 22 #[.agg #[.int .i64 lid, .int .i64 kind, .int .i64 mr, .int .i64 md, .slice pa pn pc], .agg #[.int .i64 c.id, .slice c.ra c.rs.length c.rc, .slice c.da c.ds.length c.dc, .slice c.va c.vs.length c.vc], .int .i64 (cntE 0 (jR (cs.take i)) : Nat), .int .i64 ((cntE 0 (jR (cs.take i)) : Nat) + (cntE 0 cs[i].rs : Nat))] X fun e w' => (∃ kk : Cl, e = .returned (.agg #[.int .i64 kk.id, .slice kk.ra kk.rs.length kk.rc, .slice kk.da kk.ds.length kk.dc, .slice kk.va kk.vs.length kk.vc]) ∧ kk.At w' ∧ kk.Fr X.heap.size ∧ kk.rs = cs[i].rs ∧ kk.ds = cs[i].ds ∧ kk.vs = cs[i].vs) ∧ Below wr.heap.size wr w' ∧ Below X.heap.size X w') := fun X hX => (HPt.out i hlt X (HIr.out.keep hX).old).mono fun e w' h => ⟨h.1, bel_next hX (Nat.le_refl _) h.2, h.2⟩
        have HCm : Hid _ := hcm
        have hcc1 : cntE 0 (jR (cs.take i)) ≤ (jR (cs.take i)).length := List.length_filter_le _ _
        have hcc2 : cntE 0 cs[i].rs ≤ cs[i].rs.length := List.length_filter_le _ _
        have hmj := mem_j (List.getElem_mem hlt)
        have hjl := jR_le cs i
        have hbk2 := HBk.out
        have c2 : wr.cell? ⟨b1, o1 + i * 13 + 2, none⟩ = some (.int .i64 (cntE 0 (jR (cs.take i)) : Nat)) := by
         rw [hcm 2 _ rfl]
         show some (Value.int .i64 ((0 + cntE 0 (jR (cs.take i)) : Nat) : Int)) = _
         rw [Nat.zero_add]
        have c3 : wr.cell? ⟨b1, o1 + i * 13 + 3, none⟩ = some (.int .i64 (cntE 0 cs[i].rs : Nat)) := hcm 3 _ rfl
        have HMk2 : Hid (∀ X, Below wr.heap.size wr X → X.cell? ⟨b1, o1 + i * 13 + 2, none⟩ = some (.int .i64 (cntE 0 (jR (cs.take i)) : Nat)) ∧ X.cell? ⟨b1, o1 + i * 13 + 3, none⟩ = some (.int .i64 (cntE 0 cs[i].rs : Nat))) := fun X hX => ⟨(hX.cell (World.block_lt_of_cell? wr _ c2)).trans c2, (hX.cell (World.block_lt_of_cell? wr _ c3)).trans c3⟩
        obtain ⟨q, HQ⟩ : ∃ q : Nat, Hid (cntE 0 (jR (cs.take i)) = q) := ⟨_, rfl⟩
        obtain ⟨r, HR⟩ : ∃ r : Nat, Hid (cntE 0 cs[i].rs = r) := ⟨cntE 0 cs[i].rs, rfl⟩
        rw [HQ.out] at hcc1 c2
        rw [HR.out] at hcc2 c3
        rw [HQ.out, HR.out] at HPi HMk2
        have hq1 : q + r ≤ 4000 := by have := hmj.1; omega
        have hwr : IntKind.i64.wrap (((q : Nat) : Int) + ((r : Nat) : Int)) = ((q : Nat) : Int) + ((r : Nat) : Int) := by rw [IntKind.wrap_i64]; omega
        obtain ⟨⟨p0, p1, p2, p3, p4⟩, _⟩ := row_five HIr.out.lf
        obtain ⟨k0, k1, k2, k3⟩ := row_four HIr.out.co
        rw [hma]
        clear hcm
        go_upto_region 20 with fail
        go_cut [17] (fun x wx => ∃ (h : Nat) (kk : Cl), x = .pointer (some ⟨h, 0, none⟩) ∧ Hid (wx.heap[h]? = some (.cells #[.int .i64 kk.id, .slice kk.ra kk.rs.length kk.rc, .slice kk.da kk.ds.length kk.dc, .slice kk.va kk.vs.length kk.vc] 27 (0, 0))) ∧ Hid (wr.heap.size ≤ h) ∧ Hid (kk.At wx) ∧ Hid (kk.Fr wr.heap.size) ∧ Hid (kk.rs = cs[i].rs ∧ kk.ds = cs[i].ds ∧ kk.vs = cs[i].vs) ∧ Hid (Below wr.heap.size wr wx))
        case first =>
         have b0 : Below wr.heap.size wr wr := Below.refl _ _
         have HN : Hid (∀ X, Below wr.heap.size wr X → (X.cell? ⟨W.heap.size, 0, none⟩ = some (.int .i64 lid) ∧ X.cell? ⟨W.heap.size, 1, none⟩ = some (.int .i64 kind) ∧ X.cell? ⟨W.heap.size, 2, none⟩ = some (.int .i64 mr) ∧ X.cell? ⟨W.heap.size, 3, none⟩ = some (.int .i64 md) ∧ X.cell? ⟨W.heap.size, 4, none⟩ = some (.slice pa pn pc)) ∧ (X.cell? ⟨W.heap.size + 1, 0, none⟩ = some (.int .i64 c.id) ∧ X.cell? ⟨W.heap.size + 1, 1, none⟩ = some (.slice c.ra c.rs.length c.rc) ∧ X.cell? ⟨W.heap.size + 1, 2, none⟩ = some (.slice c.da c.ds.length c.dc) ∧ X.cell? ⟨W.heap.size + 1, 3, none⟩ = some (.slice c.va c.vs.length c.vc)) ∧ (X.cell? ⟨b1, o1 + i * 13 + 2, none⟩ = some (.int .i64 (q : Nat)) ∧ X.cell? ⟨b1, o1 + i * 13 + 3, none⟩ = some (.int .i64 (r : Nat))) ∧ Below wr.heap.size wr X) := fun X hX => ⟨(row_five (blk_keep hX HIr.out.lf)).1, row_four (blk_keep hX HIr.out.co), HMk2.out X hX, hX⟩
         go_region_held3 (fun X => (X.cell? ⟨W.heap.size, 0, none⟩ = some (.int .i64 lid) ∧ X.cell? ⟨W.heap.size, 1, none⟩ = some (.int .i64 kind) ∧ X.cell? ⟨W.heap.size, 2, none⟩ = some (.int .i64 mr) ∧ X.cell? ⟨W.heap.size, 3, none⟩ = some (.int .i64 md) ∧ X.cell? ⟨W.heap.size, 4, none⟩ = some (.slice pa pn pc)) ∧ (X.cell? ⟨W.heap.size + 1, 0, none⟩ = some (.int .i64 c.id) ∧ X.cell? ⟨W.heap.size + 1, 1, none⟩ = some (.slice c.ra c.rs.length c.rc) ∧ X.cell? ⟨W.heap.size + 1, 2, none⟩ = some (.slice c.da c.ds.length c.dc) ∧ X.cell? ⟨W.heap.size + 1, 3, none⟩ = some (.slice c.va c.vs.length c.vc)) ∧ (X.cell? ⟨b1, o1 + i * 13 + 2, none⟩ = some (.int .i64 (q : Nat)) ∧ X.cell? ⟨b1, o1 + i * 13 + 3, none⟩ = some (.int .i64 (r : Nat))) ∧ Below wr.heap.size wr X) (with_reducible refine HN.out _ ?_; repeat' (first | with_reducible assumption | with_reducible exact b0.drew | with_reducible exact b0 | with_reducible refine Below.drew ?_ | with_reducible exact Nat.le_refl _ | with_reducible refine Below.setCell ?_ ?_ _ | with_reducible refine Below.alloc ?_ ?_ _ | with_reducible exact Below.size (by assumption) | (simp; done) | (simp; omega) | omega)) (first
          | (go_at_call 22; (try rw [hwr]); (with_reducible refine Calls.mono (HPi.out _ ?_) ?_); (repeat' (first | with_reducible assumption | with_reducible exact b0.drew | with_reducible exact b0 | with_reducible refine Below.drew ?_ | with_reducible refine Below.alloc ?_ ?_ _ | with_reducible exact Below.size (by assumption) | with_reducible exact Nat.le_refl _ | (simp; done) | (simp; omega))); rintro e y1 ⟨⟨kk, rfl, ja, jf, je⟩, hby1, hraw1⟩; have HKA : Hid (kk.At y1) := ja; have HKF : Hid (kk.Fr _) := jf; have HKE2 : Hid (kk.rs = cs[i].rs ∧ kk.ds = cs[i].ds ∧ kk.vs = cs[i].vs) := je; have HBY1 : Hid (Below wr.heap.size wr y1) := hby1; clear ja jf je; (first | (have hzz := blk_keep hraw1 hzz0; clear hzz0; have hzz0 := hzz; clear hzz) | (have hzz0 := blk_keep hraw1 (blk_drew (heap_alloc_new _ (.cells #[.int .i64 0, .slice none 0 0, .slice none 0 0, .slice none 0 0] 27)))) | (have hzz0 := blk_keep hraw1 (heap_alloc_new _ (.cells #[.int .i64 0, .slice none 0 0, .slice none 0 0, .slice none 0 0] 27))) | skip); (first | (obtain ⟨z0, z1, z2, z3⟩ := row_four hzz0; obtain ⟨f0, f1, f2, f3⟩ := row_fourA hzz0; have HZZ : Hid _ := hzz0; clear hzz0) | skip)))
         · go_wp2_with fail
           go_meet
           exact ⟨y1.heap.size, kk, rfl, heap_alloc_new _ _, HBY1.out.size, HKA.out.keep ((Below.refl _ _).alloc (Nat.le_refl _) _), HKF.out.low (by first | exact Nat.le_refl _ | simp), HKE2, HBY1.out.alloc HBY1.out.size _⟩
         all_goals
          go_wp2_with fail
          go_meet
          have hq : ∀ (Z : Nat), kk.Fr Z → wr.heap.size < Z → kk.At ((((y1.setCell ⟨wr.heap.size, 0, none⟩ (.int .i64 kk.id)).setCell ⟨wr.heap.size, 1, none⟩ (.slice kk.ra kk.rs.length kk.rc)).setCell ⟨wr.heap.size, 2, none⟩ (.slice kk.da kk.ds.length kk.dc)).setCell ⟨wr.heap.size, 3, none⟩ (.slice kk.va kk.vs.length kk.vc)) := fun Z hf hz => (((HKA.out.off hf hz).off hf hz).off hf hz).off hf hz
          exact ⟨wr.heap.size, kk, rfl, row_setCell (row_setCell (row_setCell (row_setCell HZZ.out _) _) _) _, Nat.le_refl _, hq _ HKF.out (by simp), HKF.out.low (by simp), HKE2, (((HBY1.out.setCell (Nat.le_refl _) _).setCell (Nat.le_refl _) _).setCell (Nat.le_refl _) _).setCell (Nat.le_refl _) _⟩
        case rest =>
         obtain ⟨h, kk, rfl, HC0, HHr, HAT0, HKF, HKE2, HBx⟩ := hcut
         rename World => wx
         obtain ⟨rv, dv, vv, hI⟩ := HAc.out
         obtain ⟨xra, xrc, rfl⟩ := own_slC hI.rrow
         obtain ⟨xda, xdc, rfl⟩ := own_slC hI.drow
         obtain ⟨xva, xvc, rfl⟩ := own_slC hI.vrow
         have lo : ∀ {e s n : Nat} {v : Value} {xs : List Value}, wr.ownsRow (G + 1) e s v n xs → Lo wr.heap.size wx.heap.size v := fun ho c hc => .inl (own_block ho hc).2.1
         have HLo1 : Hid (Lo wr.heap.size wx.heap.size (.slice xra (jR (kpt (cs.take i) (ks.take i))).length xrc)) := lo hI.rrow
         have HLo2 : Hid (Lo wr.heap.size wx.heap.size (.slice xda (jD (kpt (cs.take i) (ks.take i))).length xdc)) := lo hI.drow
         have HLo3 : Hid (Lo wr.heap.size wx.heap.size (.slice xva (jV (kpt (cs.take i) (ks.take i))).length xvc)) := lo hI.vrow
         have HI0 : Hid (AcI G (G + 1) lid (.slice xra (jR (kpt (cs.take i) (ks.take i))).length xrc) (jR (kpt (cs.take i) (ks.take i))) (.slice xda (jD (kpt (cs.take i) (ks.take i))).length xdc) (jD (kpt (cs.take i) (ks.take i))) (.slice xva (jV (kpt (cs.take i) (ks.take i))).length xvc) (jV (kpt (cs.take i) (ks.take i))) wx) := hI.stay HBx.out
         have HGr : Hid (G < wr.heap.size) := lt_of_block hI.cell
         have hne : h ≠ G := by have h1 := HHr.out; have h2 := HGr.out; omega
         have HMid0 : Hid (∀ b, wr.heap.size ≤ b → b < wx.heap.size → wx.heap[b]? = wx.heap[b]?) := fun _ _ _ => rfl
         have HSz0 : Hid (wx.heap.size ≤ wx.heap.size) := Nat.le_refl _
         have HD0 : Hid (DFr G (G + 1) wB wx) := HD.out.trans (.of_below HBx.out)
         have hGx : G + 1 ≤ wx.heap.size := by have h1 := HGr.out; have h2 := HBx.out.size; omega
         have HSm : Hid ((jR (kpt (cs.take i) (ks.take i))).length + kk.rs.length ≤ 1048576 ∧ (jD (kpt (cs.take i) (ks.take i))).length + kk.ds.length ≤ 1048576 ∧ (jV (kpt (cs.take i) (ks.take i))).length + kk.vs.length ≤ 1048576) := (by
          have u1 := kpt_sub (cs.take i) (ks.take i)
          have u3 := jD_le cs i
          have u4 := jV_le cs i
          rw [HKE2.out.1, HKE2.out.2.1, HKE2.out.2.2]
          show _ ∧ _
          omega)
         clear hI lo p0 p1 p2 p3 p4 k0 k1 k2 k3 c2 c3 HPi
         obtain ⟨g0, g1, g2, g3⟩ := row_four HI0.out.cell
         obtain ⟨d0, d1, d2, d3⟩ := row_four HC0.out
         go_wp2_with (first
          | (at_builtin; refine wpList_append_any _ rfl _ _ 22 rfl (G + 1) 3 iv (.int .i64 0) 1 8 Tryz.underlying22 hvi hv0 hv1 hv2 rfl (by decide) _ _ (i64s (jR (kpt (cs.take i) (ks.take i)))) rfl HI0.out.rrow kk.ra kk.rs.length kk.rc (i64s kk.rs) rfl (by rw [i64s_len, Nat.mul_one]) (news_i HAT0.out.r) (one_i _) (by have := HSm.out; unfold maxLen; omega) (by have := HSm.out; omega) (by have := HSz0.out; omega) ?_; intro v1 x1 hown hgr hwh; obtain ⟨j1, j2, j3⟩ := AcI.appR HI0.out hown hgr hwh; have HMid1 : Hid (∀ b, wr.heap.size ≤ b → b < wx.heap.size → (x1.setCell ⟨G, 1, none⟩ v1).heap[b]? = wx.heap[b]?) := mid_next HMid0.out HLo1.out hgr HGr.out HSz0.out; have HSz1 : Hid (wx.heap.size ≤ (x1.setCell ⟨G, 1, none⟩ v1).heap.size) := Nat.le_trans HSz0.out j3.size; obtain ⟨a1, e1, rfl⟩ := own_slC hown; have HI1 : Hid _ := j2; have HD1 : Hid (DFr G (G + 1) wB _) := HD0.out.trans j3; have HC1 : Hid _ := j3.box HC0.out hne (by decide); have HAT1 : Hid (kk.At _) := HAT0.out.same HKF.out HMid1.out; clear hown hgr hwh j2 j3 g0 g1 g2 g3; obtain ⟨g0, g1, g2, g3⟩ := row_four j1; obtain ⟨f0, f1, f2, f3⟩ := row_fourA j1; obtain ⟨d0, d1, d2, d3⟩ := row_four HC1.out; clear j1)
          | (at_builtin; refine wpList_append_any _ rfl _ _ 22 rfl (G + 1) 3 iv (.int .i64 0) 1 8 Tryz.underlying22 hvi hv0 hv1 hv2 rfl (by decide) _ _ (i64s (jD (kpt (cs.take i) (ks.take i)))) rfl HI1.out.drow kk.da kk.ds.length kk.dc (i64s kk.ds) rfl (by rw [i64s_len, Nat.mul_one]) (news_i HAT1.out.d) (one_i _) (by have := HSm.out; unfold maxLen; omega) (by have := HSm.out; omega) (by have := HSz1.out; omega) ?_; intro v2 x2 hown hgr hwh; obtain ⟨j1, j2, j3⟩ := AcI.appD HI1.out hown hgr hwh; have HMid2 : Hid (∀ b, wr.heap.size ≤ b → b < wx.heap.size → (x2.setCell ⟨G, 2, none⟩ v2).heap[b]? = wx.heap[b]?) := mid_next HMid1.out HLo2.out hgr HGr.out HSz1.out; have HSz2 : Hid (wx.heap.size ≤ (x2.setCell ⟨G, 2, none⟩ v2).heap.size) := Nat.le_trans HSz1.out j3.size; obtain ⟨a2, e2, rfl⟩ := own_slC hown; have HI2 : Hid _ := j2; have HD2 : Hid (DFr G (G + 1) wB _) := HD1.out.trans j3; have HC2 : Hid _ := j3.box HC1.out hne (by decide); have HAT2 : Hid (kk.At _) := HAT0.out.same HKF.out HMid2.out; clear hown hgr hwh j2 j3 g0 g1 g2 g3; obtain ⟨g0, g1, g2, g3⟩ := row_four j1; obtain ⟨f0, f1, f2, f3⟩ := row_fourA j1; obtain ⟨d0, d1, d2, d3⟩ := row_four HC2.out; clear j1)
          | (at_builtin; refine wpList_append_any _ rfl _ _ 25 rfl (G + 1) 52 iw (.agg #[.int .i64 0, .int .i64 0, .string ⟨#[]⟩]) 3 32 Tryz.underlying25 hwi hw0 hw1 hw2 rfl (by decide) _ _ (vcells (jV (kpt (cs.take i) (ks.take i)))) rfl HI2.out.vrow kk.va kk.vs.length kk.vc (vcells kk.vs) rfl (vcells_len _) (news_v HAT2.out.v) (one_v _) (by have := HSm.out; unfold maxLen; omega) (by have := HSm.out; omega) (by have := HSz2.out; omega) ?_; intro v3 x3 hown hgr hwh; obtain ⟨j1, j2, j3⟩ := AcI.appV HI2.out hown hgr hwh; have HMid3 : Hid (∀ b, wr.heap.size ≤ b → b < wx.heap.size → (x3.setCell ⟨G, 3, none⟩ v3).heap[b]? = wx.heap[b]?) := mid_next HMid2.out HLo3.out hgr HGr.out HSz2.out; have HSz3 : Hid (wx.heap.size ≤ (x3.setCell ⟨G, 3, none⟩ v3).heap.size) := Nat.le_trans HSz2.out j3.size; obtain ⟨a3, e3, rfl⟩ := own_slC hown; have HI3 : Hid _ := j2; have HD3 : Hid (DFr G (G + 1) wB _) := HD2.out.trans j3; have HC3 : Hid _ := j3.box HC2.out hne (by decide); have HAT3 : Hid (kk.At _) := HAT0.out.same HKF.out HMid3.out; clear hown hgr hwh j2 j3 g0 g1 g2 g3; obtain ⟨g0, g1, g2, g3⟩ := row_four j1; obtain ⟨f0, f1, f2, f3⟩ := row_fourA j1; obtain ⟨d0, d1, d2, d3⟩ := row_four HC3.out; clear j1))
         have e1 : ∀ l : List Cl, jR (l ++ [cs[i]]) = jR l ++ cs[i].rs := fun l => by simp [jR]
         have e2 : ∀ l : List Cl, jD (l ++ [cs[i]]) = jD l ++ cs[i].ds := fun l => by simp [jD]
         have e3 : ∀ l : List Cl, jV (l ++ [cs[i]]) = jV l ++ cs[i].vs := fun l => by simp [jV]
         go_roundw
         case rel => exact ⟨i + 1, by omega, by go_num, ⟨_, _, _, by rw [HK2.out, e1, e2, e3, ← HKE2.out.1, ← HKE2.out.2.1, ← HKE2.out.2.2]; exact HI3.out⟩, HD3⟩
         case measure => simp [intOf]; omega
     · obtain rfl : i = cs.length := by omega
       obtain ⟨rv, dv, vv, hI⟩ := HAc.out
       rw [List.take_length, List.take_of_length_le (by rw [HKl.out]; exact Nat.le_refl _)] at hI
       obtain ⟨ra, rc, rfl⟩ := own_slC hI.rrow
       obtain ⟨da, dc, rfl⟩ := own_slC hI.drow
       obtain ⟨va, vc, rfl⟩ := own_slC hI.vrow
       have hcell := hI.cell
       have l1 : Lies wr ra (i64s (jR (kpt cs ks))) := by
        obtain ⟨a', c', he, hl⟩ := lies_own hI.rrow
        injection he with e1 _ _; subst e1; exact hl
       have l2 : Lies wr da (i64s (jD (kpt cs ks))) := by
        obtain ⟨a', c', he, hl⟩ := lies_own hI.drow
        injection he with e1 _ _; subst e1; exact hl
       have l3 : LiesV wr va (jV (kpt cs ks)) := by
        obtain ⟨a', c', he, hl⟩ := liesV_own hI.vrow
        injection he with e1 _ _; subst e1; exact hl
       have hsb := kpt_sub cs ks
       have hbk2 := HBk.out
       have HIr : Hid (LsI W lid kind mr md pa pn pc c wr) := HIX.out wr HD.out
       obtain ⟨x1e, x2e, x3e, x4e⟩ := HKE.out
       have HSm : Hid (Calls Tryz.prog 18 #[.agg #[.int .i64 k.id, .slice k.ra k.rs.length k.rc, .slice k.da k.ds.length k.dc, .slice k.va k.vs.length k.vc], .agg #[.int .i64 lid, .slice ra (jR (kpt cs ks)).length rc, .slice da (jD (kpt cs ks)).length dc, .slice va (jV (kpt cs ks)).length vc]] wr fun e w' => e = .returned (.bool true) ∧ Below wr.heap.size wr w') := (by
        have hkat := HKX.out wr HD.out
        refine (sameColumn_any k.id lid k.ra ra k.da da k.va va k.rc rc k.dc dc k.vc vc k.rs (jR (kpt cs ks)) k.ds (jD (kpt cs ks)) k.vs (jV (kpt cs ks)) wr (by rw [x2e]; unfold maxLen; omega) (by rw [x3e]; unfold maxLen; omega) (by rw [x4e]; unfold maxLen; omega) hkat.r l1 hkat.d l2 hkat.v l3).mono fun e w' h => ⟨?_, h.2⟩
        obtain ⟨b, hb, hbi⟩ := h.1
        rw [hb, hbi.2 ⟨x1e, x2e, x3e, x4e⟩])
       obtain ⟨g0, g1, g2, g3⟩ := row_four hcell
       obtain ⟨y0, y1, y2, y3⟩ := row_four (HPX.out wr HD.out)
       clear l1 l2 l3 hI hcell x1e x2e x3e x4e
       obtain ⟨kk, HKK⟩ : ∃ kk, Hid (kpt cs ks = kk) := ⟨_, rfl⟩
       rw [HKK.out] at HSm g1 g2 g3
       go_wp2_with fail
       refine Calls.mono HSm.out ?_
       rintro e w10 ⟨rfl, hb10⟩
       have HI10 : Hid (LsI W lid kind mr md pa pn pc c w10) := HIr.out.keep hb10
       clear hb10 HSm g0 g1 g2 g3 y0 y1 y2 y3
       go_wp2
       go_ret
       exact ⟨rfl, HI10.out.old⟩
end Go.Proofs.YtgpfmjbebfmmnaaGreatDoor
namespace Go.Proofs.YtgpfmjbebfmmnaaGreatDoor
open Go.ChangeShapes Go.WideShapes Go.ChangeAt Go.RowKit
theorem Tryz.cellsBl : Tryz.prog.cellsOf 4 = 1 := by kernel_rfl
set_option maxRecDepth 100000 in
theorem open_bools {H : Type} {enc : TypeId × Value → H} {W : World} {base : Nat} {v : Value} {d : DataW H} {ps : List MemPlace} (hv : Value.okWide Tryz.prog W .any base 58 v) (h : DataW.Trod enc Tryz.prog W 0 (fun _ => true) true 58 v d ps) :
    ∃ a n c bs, v = .slice a n c ∧ List.length bs = n ∧ n ≤ maxLen ∧ LiesB W a bs := by
 obtain ⟨a0, len, cap, rfl⟩ := okWide_slice Tryz.underlying58 hv
 obtain ⟨fuel, hf⟩ := h
 rcases Deep.open_slice Tryz.underlying58 hf with ⟨hcs, _⟩ | ⟨a, len', cap', m, n, D, Pl, hcs, _, hl, hm, hmm, _, hx⟩
 · simp [Value.cells] at hcs
   obtain ⟨rfl, rfl, rfl⟩ := hcs
   exact ⟨none, 0, 0, [], rfl, rfl, Nat.zero_le _, fun j hj => absurd hj (by simp)⟩
 · simp [Value.cells] at hcs
   obtain ⟨rfl, rfl, rfl⟩ := hcs
   simp only [if_true] at hmm
   subst hmm
   have each : ∀ i, i < len → ∃ x : Bool, W.cell? (a.add i) = some (.bool x) := fun i hi => by
    obtain ⟨cs', h1, h2⟩ := hx i (by omega)
    rw [Tryz.cellsBl] at h1
    obtain ⟨x, rfl, _⟩ := DataW.trod_bool Tryz.underlying4 h2
    obtain ⟨_, _, hcell⟩ := World.cells?_some h1
    have e0 := hcell 0 (by omega)
    have z : (a.add (i * 1)).add 0 = a.add i := by unfold Addr.add; simp
    rw [z] at e0
    exact ⟨x, by simpa using e0⟩
   obtain ⟨f, hfx⟩ := Deep.choose_lt each
   refine ⟨some a, len, _, (List.range len).map f, rfl, by simp, by omega, fun j hj => ?_⟩
   have hj' : j < len := by simpa using hj
   have h0 := hfx j hj'
   obtain ⟨b, off, spot⟩ := a
   have hspot : spot = none := by
    have := World.cell?_spot (hfx 0 (by omega))
    simpa [Addr.add] using this
   subst hspot
   rw [addr_plus] at h0
   exact ⟨b, off, rfl, by simpa using h0⟩
set_option maxRecDepth 100000 in
theorem shut_bools {H : Type} {enc : TypeId × Value → H} {W W' : World} {v : Value} {d : DataW H} {ps : List MemPlace} (h : DataW.Trod enc Tryz.prog W 0 (fun _ => true) true 58 v d ps) (hb : Below W.heap.size W W') (hlt : ∀ x ∈ ps, x.block < W.heap.size) :
    DataW.Trod enc Tryz.prog W' 0 (fun b => decide (b < W.heap.size)) true 58 v d ps :=
 Below.trod Tryz.laid_ (by kernel_rfl) (of_decide_eq_true (by kernel_rfl)) h hb hlt
end Go.Proofs.YtgpfmjbebfmmnaaGreatDoor
namespace Go.Proofs.YtgpfmjbebfmmnaaGreatDoor
open Go.RowKit
theorem chunkPicks_top {H : Type} (d0 d1 : DataW H) {b2 b3 : Nat} (lid kind mr md : Int) (pa : Option Addr) (pc : Nat) (ps : List Int) (c : Cl) (most : Int) (ka : Option Addr) (kn kc : Nat) (ks : List Bool) (W : World) (hp : Lies W pa (i64s ps)) (hat : c.At W) (hin : ∀ v ∈ c.vs, v.In) (hcb : c.bulk ≤ Rows.uptoBulk d1) (hkn : ks.length = kn) (hkb : LiesB W ka ks) (bulk : Rows.uptoBulk d0 + (Rows.uptoBulk d1 + (b2 + (b3 + 0))) ≤ 1048576) (hL : laidMetH Tryz.prog Rows.chunkPicksUptoRow.laid W) :
    Calls Tryz.prog 5 #[.agg #[.int .i64 lid, .int .i64 kind, .int .i64 mr, .int .i64 md, .slice pa ps.length pc], c.val, .int .i64 most, .slice ka kn kc] W fun e w' => e = .returned (.bool true) ∧ Below W.heap.size W w' := by
 obtain ⟨A, hE⟩ := errs_of hL
 subst hkn
 exact chunkPicks_walk lid kind mr md pa pc ps c most ks ka kc W A hE hp hat hin (by omega) hkb
end Go.Proofs.YtgpfmjbebfmmnaaGreatDoor
