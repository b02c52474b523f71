/-
  The reference's ColumnError: what it answers.
  shred.check: what it answers.
  shred.startOf: where a record begins.
  Appending to nil whatever ints or values; OwnColumn.
  The reference's OwnColumn.
  A column that is put together: its rows grow.
  shred.joined: columns, one behind the other.
  assemble's readers: what one has read, and what is left.
  What Shred leaves, as columns that lie somewhere.
  The reference's OwnColumn, told of a column.
  The reference's OwnColumn, told of a column; OwnColumns.
-/
import Derived.Test.YteonbmaokphleaaGreatDoorHBWriter
import Derived.Test.YteonbmaokphleaaGreatDoorHBSameInts
import Derived.Test.YteonbmaokphleaaGreatDoorHSmall
import Derived.Test.YteonbmaokphleaaGreatDoorHBRow4
import Derived.Test.YteonbmaokphleaaGreatDoorHBPackF
import Derived.Deep.RegionHeld3
import Derived.Test.YteonbmaokphleaaGreatDoorHRefVals
import Derived.BigQuiet
import Derived.Test.YteonbmaokphleaaGreatDoorHBColDf
import Derived.Test.YteonbmaokphleaaGreatDoorHAppAny
import Derived.Test.YteonbmaokphleaaGreatDoorHBIds
import Derived.Test.YteonbmaokphleaaGreatDoorHBLfM
namespace Go.Proofs.YteonbmaokphleaaGreatDoor
open Go.RowKit
theorem fitB_iff {lid mr md cid : Int} {rs ds : List Int} {nv : Nat} : fitB lid mr md cid rs ds nv = true ↔ cid = lid ∧ rs.length = ds.length ∧ headB rs = false ∧ (∀ x ∈ rs, btw 0 x mr = true) ∧ (∀ x ∈ ds, btw 0 x md = true) ∧ nv = cntE md ds := by
 unfold fitB
 by_cases h1 : cid ≠ lid ∨ rs.length ≠ ds.length
 · rw [if_pos h1]
   constructor
   · intro h; cases h
   · rintro ⟨a, b, _⟩; rcases h1 with h | h <;> contradiction
 · rw [if_neg h1]
   have h1' : cid = lid ∧ rs.length = ds.length := by
    constructor
    · exact Decidable.byContradiction fun h => h1 (.inl h)
    · exact Decidable.byContradiction fun h => h1 (.inr h)
   cases hh : headB rs
   · rw [if_neg (by simp)]
     by_cases h2 : (rs.any fun x => !(btw 0 x mr)) = true ∨ (ds.any fun x => !(btw 0 x md)) = true
     · rw [if_pos h2]
       constructor
       · intro h; cases h
       · rintro ⟨_, _, _, a, b, _⟩
         rcases h2 with h | h
         · obtain ⟨x, hx, he⟩ := List.any_eq_true.1 h
           rw [a x hx] at he; cases he
         · obtain ⟨x, hx, he⟩ := List.any_eq_true.1 h
           rw [b x hx] at he; cases he
     · rw [if_neg h2, decide_eq_true_iff]
       constructor
       · intro h
         refine ⟨h1'.1, h1'.2, rfl, fun x hx => ?_, fun x hx => ?_, h⟩
         · cases hb : btw 0 x mr
           · exact absurd (.inl (List.any_eq_true.2 ⟨x, hx, by rw [hb]; rfl⟩)) h2
           · rfl
         · cases hb : btw 0 x md
           · exact absurd (.inr (List.any_eq_true.2 ⟨x, hx, by rw [hb]; rfl⟩)) h2
           · rfl
       · exact fun h => h.2.2.2.2.2
   · rw [if_pos rfl]
     constructor
     · intro h; cases h
     · rintro ⟨_, _, h, _⟩; cases h
theorem ckB {w w' : World} {g : Nat} {v : Value} (h : w.cell? ⟨g, 0, none⟩ = some v) (hb : Below w.heap.size w w') : w'.cell? ⟨g, 0, none⟩ = some v := (hb.cell (World.block_lt_of_cell? w _ h)).trans h
theorem two_boxes (W : World) (c1 c2 : Array Value) (t1 t2 : TypeId) : ∃ w0, Hid ((W.alloc (.cells c1 t1)).alloc (.cells c2 t2) = w0) ∧ Hid (w0.heap[W.heap.size]? = some (.cells c1 t1 (0, 0))) ∧ Hid (w0.heap[W.heap.size + 1]? = some (.cells c2 t2 (0, 0))) ∧ Hid (Below W.heap.size W w0) := by
 refine ⟨_, rfl, blk_alloc (heap_alloc_new W _), ?_, ((Below.refl _ _).alloc (Nat.le_refl _) _).alloc (by simp) _⟩
 have h := heap_alloc_new (W.alloc (.cells c1 t1)) (.cells c2 t2)
 rw [show (W.alloc (.cells c1 t1)).heap.size = W.heap.size + 1 by simp] at h
 exact h
def CkRet (N : Nat) (lid kind mr md cid : Int) (rs ds : List Int) (vs : List Vl) (sv kv : Value) (e : Ending) (w' : World) : Prop :=
 ((isLfB kind mr md && fitB lid mr md cid rs ds vs.length) = false ∧ e = .returned sv) ∨
 ((isLfB kind mr md && fitB lid mr md cid rs ds vs.length) = true ∧ (((∀ j (h : j < vs.length), badV kind vs[j] = false) ∧ e = .returned .nilIface) ∨
  ∃ p : Nat, ∃ hp : p < vs.length, badV kind vs[p] = true ∧ (∀ j (h : j < vs.length), j < p → badV kind vs[j] = false) ∧ ∃ q, N ≤ q ∧ e = .returned (.iface 68 (.pointer (some ⟨q, 0, none⟩))) ∧ w'.cell? ⟨q, 0, none⟩ = some (.int .i64 p) ∧ w'.cell? ⟨q, 1, none⟩ = some kv))
set_option maxRecDepth 100000 in
set_option maxHeartbeats 3200000 in
theorem scheck_any (lid kind mr md cid : Int) (pa ra da va : Option Addr) (pn pc rc dc vc : Nat) (rs ds : List Int) (vs : List Vl) (W : World) (st kt : TypeId) (sp kp : Value)
    (hn : rs.length ≤ 1048576) (hn2 : ds.length ≤ 1048576) (hv : vs.length ≤ 1048576) (hs : W.cell? ⟨1, 0, none⟩ = some (.iface st sp)) (hk : W.cell? ⟨4, 0, none⟩ = some (.iface kt kp))
    (hr : Lies W ra (i64s rs)) (hd : Lies W da (i64s ds)) (hvs : LiesV W va vs) :
    Calls Tryz.prog 75 #[leafV lid kind mr md pa pn pc, colV cid ra rs.length rc da ds.length dc va vs.length vc] W fun e w' => CkRet W.heap.size lid kind mr md cid rs ds vs (.iface st sp) (.iface kt kp) e w' ∧ Below W.heap.size W w' := by
 have hmf : ∀ (fn : Fn) (first cap : Array Value) (W : World), (Instr.makeFunc fn first cap).run Tryz.prog W = .ok (.func fn first cap) W := fun _ _ _ _ => rfl
 unfold leafV colV
 obtain ⟨w0, HW0, HX, HY, HB⟩ := two_boxes W #[.int .i64 lid, .int .i64 kind, .int .i64 mr, .int .i64 md, .slice pa pn pc] #[.int .i64 cid, .slice ra rs.length rc, .slice da ds.length dc, .slice va vs.length vc] 72 50
 have HR : Hid (Lies w0 ra (i64s rs)) := hr.keep HB.out
 have HD : Hid (Lies w0 da (i64s ds)) := hd.keep HB.out
 have HV : Hid (LiesV w0 va vs) := hvs.keep HB.out
 have HS : Hid (w0.cell? ⟨1, 0, none⟩ = some (.iface st sp)) := ckB hs HB.out
 have HK : Hid (w0.cell? ⟨4, 0, none⟩ = some (.iface kt kp)) := ckB hk HB.out
 clear hr hd hvs hs hk
 obtain ⟨b0, H0⟩ : ∃ b, Hid (isLfB kind mr md = b) := ⟨_, rfl⟩
 obtain ⟨b1, H1⟩ : ∃ b, Hid (fitB lid mr md cid rs ds vs.length = b) := ⟨_, rfl⟩
 go_enter Tryz.func75, Tryz.ntmps75
 go_wp2_with fail
 rw [HW0.out]
 refine (sIsLeaf_any lid kind mr md pa pn pc _).mono ?_
 rw [H0.out]
 rintro e w1 ⟨rfl, hb1⟩
 have HB1 : Hid (Below w0.heap.size w0 w1) := hb1
 clear hb1
 obtain ⟨⟨p0, p1, p2, p3, p4⟩, _⟩ := row_five (blk_keep HB1.out HX.out)
 obtain ⟨k0, k1, k2, k3⟩ := row_four (blk_keep HB1.out HY.out)
 have s1 := ckB HS.out HB1.out
 cases b0
 · go_wp2
   go_ret
   exact ⟨.inl ⟨by rw [H0.out]; rfl, rfl⟩, HB.out.trans (HB1.out.mono HB.out.size)⟩
 · go_wp2_with fail
   refine (sfits_any lid kind mr md pa pn pc cid ra rs rc da ds dc va vs.length vc hn hn2 w1 (HR.out.keep HB1.out) (HD.out.keep HB1.out)).mono ?_
   rw [H1.out]
   rintro e w2 ⟨rfl, hb2⟩
   have HB2 : Hid (Below w0.heap.size w0 w2) := HB1.out.trans (hb2.mono HB1.out.size)
   clear hb2 p0 p1 p2 p3 p4 k0 k1 k2 k3 s1
   obtain ⟨⟨p0, p1, p2, p3, p4⟩, _⟩ := row_five (blk_keep HB2.out HX.out)
   obtain ⟨k0, k1, k2, k3⟩ := row_four (blk_keep HB2.out HY.out)
   have s1 := ckB HS.out HB2.out
   cases b1
   · go_wp2
     go_ret
     exact ⟨.inl ⟨by rw [H0.out, H1.out]; rfl, rfl⟩, HB.out.trans (HB2.out.mono HB.out.size)⟩
   · go_wp2_with fail
     refine (idxV_any kind W.heap.size _ _ _ _ va vc vs hv w2 (blk_keep HB2.out HX.out) (HV.out.keep HB2.out)).mono ?_
     rintro e w3 ⟨⟨r, rfl, hr⟩, hb3⟩
     have HB3 : Hid (Below w0.heap.size w0 w3) := HB2.out.trans (hb3.mono HB2.out.size)
     have HI : Hid (Idx (badV kind) vs r) := hr
     clear hb3 p0 p1 p2 p3 p4 k0 k1 k2 k3 s1 hr
     have s2 := ckB HK.out HB3.out
     rcases HI.out with ⟨rfl, hall⟩ | ⟨p, hp, rfl, hbad, hf⟩
     · have HA : Hid _ := hall
       clear hall
       go_wp2
       go_ret
       exact ⟨.inr ⟨by rw [H0.out, H1.out]; rfl, .inl ⟨HA.out, rfl⟩⟩, HB.out.trans (HB3.out.mono HB.out.size)⟩
     · have HA : Hid _ := hbad
       have HF : Hid _ := hf
       clear hbad hf
       have q1 : decide ((0 : Int) ≤ (p : Int)) = true := by rw [decide_eq_true_iff]; omega
       go_wp2
       go_ret
       refine ⟨.inr ⟨by rw [H0.out, H1.out]; rfl, .inr ⟨p, hp, HA.out, fun j h hj => HF.out j hj, w3.heap.size, (HB.out.trans (HB3.out.mono HB.out.size)).size, rfl, ?_, ?_⟩⟩, (HB.out.trans (HB3.out.mono HB.out.size)).alloc (HB.out.trans (HB3.out.mono HB.out.size)).size _⟩
       · exact cell_alloc_at rfl rfl
       · exact cell_alloc_at rfl rfl
theorem cntE_succ (md : Int) (xs : List Int) (i : Nat) (h : i < xs.length) : cntE md (xs.take (i + 1)) = cntE md (xs.take i) + if xs[i] = md then 1 else 0 := by
 rw [cntE, cntE, List.take_succ_eq_append_getElem h, List.filter_append, List.length_append]
 congr 1
 by_cases e : xs[i] = md
 · simp [List.filter, e]
 · have e2 : (xs[i] == md) = false := by simp [e]
   simp [List.filter, e, e2]
theorem cntE_le (md : Int) (xs : List Int) (i : Nat) : cntE md (xs.take i) ≤ i := Nat.le_trans (List.length_filter_le _ _) (by simp; omega)
def StAt (rs : List Int) (rec : Int) (a : Nat) : Prop := a ≤ rs.length ∧ (∀ j, j < a → (cntE 0 (rs.take (j + 1)) : Int) ≤ rec) ∧ (a < rs.length → rec < (cntE 0 (rs.take (a + 1)) : Int))
set_option maxRecDepth 100000 in
set_option maxHeartbeats 1600000 in
theorem startC_any (r rec : Int) (k : Nat) (g g2 : Nat) (W : World) (hk : k ≤ 1048576) (hg : W.heap[g]? = some (.cells #[.int .i64 k] 3 (0, 0))) (hg2 : W.heap[g2]? = some (.cells #[.int .i64 rec] 3 (0, 0))) (hne : g2 < g) :
    Calls Tryz.prog 115 #[.int .i64 r, .pointer (some ⟨g, 0, none⟩), .pointer (some ⟨g2, 0, none⟩)] W fun e w' => e = .returned (.bool (decide (rec < ((k + if r = 0 then 1 else 0 : Nat) : Int)))) ∧ w'.heap[g]? = some (.cells #[.int .i64 ((k + if r = 0 then 1 else 0 : Nat) : Int)] 3 (0, 0)) ∧ Below g W w' := by
 obtain ⟨c0, f0⟩ := row_one hg
 obtain ⟨d0, _⟩ := row_one hg2
 have HG : Hid _ := hg
 have HG2 : Hid _ := hg2
 clear hg hg2
 by_cases hr : r = 0
 · subst hr
   have HE : Hid ((k + if (0 : Int) = 0 then 1 else 0) = k + 1) := (by show _ = _; simp)
   have HS : Hid ((W.setCell ⟨g, 0, none⟩ (.int .i64 ((k : Int) + 1))).heap[g]? = some (.cells #[.int .i64 ((k : Int) + 1)] 3 (0, 0))) := row_setCell HG.out _
   have HB : Hid (Below g W (W.setCell ⟨g, 0, none⟩ (.int .i64 ((k : Int) + 1)))) := (Below.refl _ _).setCell (by simp) _
   obtain ⟨e0, _⟩ := row_one HS.out
   obtain ⟨e1, _⟩ := row_one ((HB.out.block g2 hne).trans HG2.out)
   rw [HE.out]
   go_enter Tryz.func115, Tryz.ntmps115
   go_wp2
   go_ret
   refine ⟨?_, ?_, ?_⟩
   · simp
   · simpa using HS.out
   · exact HB.out
 · have HE : Hid ((k + if r = 0 then 1 else 0) = k) := (by show _ = _; simp [hr])
   rw [HE.out]
   have q : (r == 0) = false := by simp [hr]
   clear hr
   go_enter Tryz.func115, Tryz.ntmps115
   go_wp2
   go_ret
   exact ⟨rfl, HG.out, Below.refl _ _⟩
set_option maxRecDepth 100000 in
set_option maxHeartbeats 1600000 in
theorem idxSt_any (rec : Int) (g g2 : Nat) (a : Option Addr) (c : Nat) (xs : List Int) (hn : xs.length ≤ 1048576) (W : World) (hg : W.heap[g]? = some (.cells #[.int .i64 0] 3 (0, 0))) (hg2 : W.heap[g2]? = some (.cells #[.int .i64 rec] 3 (0, 0))) (hne : g2 < g) (hl : ∀ X, Below g W X → Lies X a (i64s xs)) :
    Calls Tryz.prog (114) #[.slice a xs.length c, .func (.func 115) #[] #[.pointer (some ⟨g, 0, none⟩), .pointer (some ⟨g2, 0, none⟩)]] W fun e w' => (∃ r, e = .returned (.int .i64 r) ∧ ((r = -1 ∧ StAt xs rec xs.length) ∨ ∃ i : Nat, i < xs.length ∧ r = i ∧ StAt xs rec i)) ∧ Below g W w' := by
 have HL : Hid (∀ X, Below g W X → Lies X a (i64s xs)) := hl
 have HG2 : Hid (W.heap[g2]? = some (.cells #[.int .i64 rec] 3 (0, 0))) := hg2
 have HG0 : Hid _ := hg
 clear hl hg2 hg
 go_enter Tryz.func114, Tryz.ntmps114
 go_wp2
 go_loopw [8] (fun x wr => ∃ i : Nat, i ≤ xs.length ∧ x = .int .i64 i ∧ Hid (∀ j, j < i → (cntE 0 (xs.take (j + 1)) : Int) ≤ rec) ∧ Hid (wr.heap[g]? = some (.cells #[.int .i64 (cntE 0 (xs.take i) : Nat)] 3 (0, 0))) ∧ Hid (Below g W wr)) (fun x _ => xs.length - (intOf x).toNat)
 case atStart => exact ⟨0, Nat.zero_le _, rfl, fun j h => absurd h (Nat.not_lt_zero _), HG0, Below.refl _ _⟩
 case round =>
  obtain ⟨i, hi, rfl, HA, HG, HB⟩ := hrel
  by_cases hlt : i < xs.length
  · obtain ⟨b, o, rfl, hc⟩ := lies_ints (HL.out wr HB.out) i hlt
    have HS : Hid (cntE 0 (xs.take (i + 1)) = cntE 0 (xs.take i) + if xs[i] = 0 then 1 else 0) := cntE_succ 0 xs i hlt
    have hle := cntE_le 0 xs i
    obtain ⟨k, HK⟩ : ∃ k, Hid (cntE 0 (xs.take i) = k) := ⟨_, rfl⟩
    rw [HK.out] at hle HS HG
    go_wp2_with fail
    refine (startC_any xs[i] rec k g g2 wr (by omega) HG.out ((HB.out.block g2 hne).trans HG2.out) hne).mono ?_
    rw [← HS.out]
    rintro e w1 ⟨rfl, hg1, hb1⟩
    have HG1 : Hid _ := hg1
    have HB1 : Hid (Below g W w1) := HB.out.trans hb1
    clear hg1 hb1 hc
    by_cases hq : rec < (cntE 0 (xs.take (i + 1)) : Int)
    · have HQ : Hid _ := hq
      have q1 : decide (rec < (cntE 0 (xs.take (i + 1)) : Int)) = true := decide_eq_true hq
      clear hq
      go_wp2
      go_ret
      exact ⟨⟨(i : Int), rfl, .inr ⟨i, hlt, rfl, by omega, HA.out, fun _ => HQ.out⟩⟩, HB1.out⟩
    · have q1 : decide (rec < (cntE 0 (xs.take (i + 1)) : Int)) = false := decide_eq_false hq
      have HN : Hid (∀ j, j < i + 1 → (cntE 0 (xs.take (j + 1)) : Int) ≤ rec) := fun j hj => by
       by_cases e : j = i
       · subst e; omega
       · exact HA.out j (by omega)
      clear hq
      go_wp2
      go_roundw
      case rel => exact ⟨i + 1, by omega, by go_num, HN, HG1, HB1⟩
      case measure => simp [intOf]; omega
  · obtain rfl : i = xs.length := by omega
    go_wp2
    go_ret
    exact ⟨⟨-1, rfl, .inl ⟨rfl, Nat.le_refl _, HA.out, fun h => absurd h (Nat.lt_irrefl _)⟩⟩, HB.out⟩
set_option maxRecDepth 100000 in
set_option maxHeartbeats 1600000 in
theorem startOf_any (id rec : Int) (ra : Option Addr) (rs : List Int) (rc : Nat) (da : Option Addr) (qn dc : Nat) (va : Option Addr) (vn vc : Nat) (hn : rs.length ≤ 1048576) (W : World) (hl : Lies W ra (i64s rs)) :
    Calls Tryz.prog 77 #[colV id ra rs.length rc da qn dc va vn vc, .int .i64 rec] W fun e w' => (∃ a : Nat, e = .returned (.int .i64 a) ∧ StAt rs rec a) ∧ Below W.heap.size W w' := by
 have hmf : ∀ (fn : Fn) (first cap : Array Value) (W : World), (Instr.makeFunc fn first cap).run Tryz.prog W = .ok (.func fn first cap) W := fun _ _ _ _ => rfl
 unfold colV
 obtain ⟨w0, HW0, HX, HY, HB⟩ := two_boxes W #[.int .i64 id, .slice ra rs.length rc, .slice da qn dc, .slice va vn vc] #[.int .i64 rec] 50 3
 have hz : w0.heap.size = W.heap.size + 1 + 1 := by rw [← HW0.out]; simp
 have HA : Hid ((w0.alloc (.cells #[.int .i64 0] 3)).heap[W.heap.size + 1 + 1]? = some (.cells #[.int .i64 0] 3 (0, 0))) := (by
  have h := heap_alloc_new w0 (.cells #[.int .i64 0] 3)
  rw [hz] at h
  exact h)
 have hb1 : Below w0.heap.size w0 (w0.alloc (.cells #[.int .i64 0] 3)) := (Below.refl _ _).alloc (Nat.le_refl _) _
 have HB1 : Hid (Below w0.heap.size w0 (w0.alloc (.cells #[.int .i64 0] 3))) := hb1
 have HC : Hid _ := idxSt_any rec (W.heap.size + 1 + 1) (W.heap.size + 1) ra rc rs hn (w0.alloc (.cells #[.int .i64 0] 3)) HA.out (blk_keep hb1 HY.out) (by omega) (fun X hX => (hl.keep HB.out).keep (hb1.trans (hz ▸ hX)))
 have HZ : Hid _ := hz
 clear hl hb1 hz
 go_enter Tryz.func77, Tryz.ntmps77
 go_wp2_with fail
 rw [HW0.out]
 refine Calls.mono HC.out ?_
 rintro e w1 ⟨⟨r, rfl, hr⟩, hb1⟩
 have HB2 : Hid (Below w0.heap.size w0 w1) := HB1.out.trans (HZ.out ▸ hb1)
 have HB3 : Hid (Below W.heap.size W w1) := HB.out.trans (HB2.out.mono HB.out.size)
 obtain ⟨k0, k1, k2, k3⟩ := row_four (blk_keep HB2.out HX.out)
 clear hb1
 rcases hr with ⟨rfl, hs⟩ | ⟨i, hi, rfl, hs⟩
 · have HS : Hid _ := hs
   clear hs
   go_wp2
   go_ret
   exact ⟨⟨rs.length, rfl, HS.out⟩, HB3.out⟩
 · have HS : Hid _ := hs
   have q1 : decide ((i : Int) < 0) = false := by rw [decide_eq_false_iff_not]; omega
   clear hs
   go_wp2
   go_ret
   exact ⟨⟨i, rfl, HS.out⟩, HB3.out⟩
theorem own_fresh {w : World} {base e size n : Nat} {v : Value} {xs : List Value} (h : w.ownsRow base e size v n xs) {a : Option Addr} {m c : Nat} (hv : v = .slice a m c) : ∀ p, a = some p → base ≤ p.block := by
 rintro p rfl
 rcases h.2 with ⟨h1, _⟩ | ⟨g, cap, cur, h1, hb, _⟩
 · rw [h1] at hv; simp at hv
 · rw [h1] at hv
   simp only [Value.slice.injEq, Option.some.injEq] at hv
   rw [← hv.1]; exact hb
theorem own_capJ {w : World} {B e size n : Nat} {a : Option Addr} {m c : Nat} {xs : List Value} (h : w.ownsRow B e size (.slice a m c) n xs) : n ≤ c := by
 rcases h.2 with ⟨e, rfl⟩ | ⟨g, cap, cur, e, _, _, hc, _⟩
 · exact Nat.zero_le _
 · injection e with _ e1 e2; subst e2; exact hc
theorem cell_off {w : World} {g j b o : Nat} {v : Value} (h : b ≠ g) : (w.setCell ⟨g, j, none⟩ v).cell? ⟨b, o, none⟩ = w.cell? ⟨b, o, none⟩ := by
 simp only [World.cell?]
 rw [Below.heap_setCell w ⟨g, j, none⟩ v b h]
theorem Lies.off {w : World} {a : Option Addr} {cs : List Value} (h : Lies w a cs) {g j : Nat} {v : Value} (hf : ∀ p, a = some p → g < p.block) : Lies (w.setCell ⟨g, j, none⟩ v) a cs := fun i hi => by
 obtain ⟨b, o, rfl, hc⟩ := h i hi
 exact ⟨b, o, rfl, by rw [cell_off (by have := hf _ rfl; simp at this; omega)]; exact hc⟩
theorem LiesV.off {w : World} {a : Option Addr} {vs : List Vl} (h : LiesV w a vs) {g j : Nat} {v : Value} (hf : ∀ p, a = some p → g < p.block) : LiesV (w.setCell ⟨g, j, none⟩ v) a vs := fun i hi => by
 obtain ⟨b, o, rfl, h0, h1, h2⟩ := h i hi
 have hne : b ≠ g := by have := hf _ rfl; simp at this; omega
 exact ⟨b, o, rfl, by rw [cell_off hne]; exact h0, by rw [cell_off hne]; exact h1, by rw [cell_off hne]; exact h2⟩
theorem wp_app0I {ops : Array Oper} {rest : List Oper} {o : Oper} {a : Act} {Q : Exit → Act → World → Prop} (w : World) (hgd : o.guard = none) (s x : Operand)
    (ho : o.op = .call { callee := .builtin .append, args := #[s, x], argTypes := #[25, 25] }) (hty : o.type = 25) (ad : Option Addr) (xs : List Int) (c : Nat)
    (hs : a.eval s = .slice none 0 0) (hx : a.eval x = .slice ad xs.length c) (hl : Lies w ad (i64s xs)) (hn : xs.length ≤ 20000)
    (h : ∀ a' c' w', Lies w' a' (i64s xs) → Below w.heap.size w w' → ((∀ p, a' = some p → w.heap.size ≤ p.block) ∧ xs.length ≤ c') → wpList Tryz.prog ops Q rest (a.put o.dst (.slice a' xs.length c')) w') : wpList Tryz.prog ops Q (o :: rest) a w := by
 obtain ⟨i0, hi, hz0, hz1, hz2⟩ := info_parts Tryz.info3
 cases ad with
 | none =>
  have h0 : xs.length = 0 := by
   by_cases h : 0 < xs.length
   · obtain ⟨b, o, e, _⟩ := hl 0 (by rw [i64s_len]; exact h)
     cases e
   · omega
  obtain rfl : xs = [] := List.eq_nil_of_length_eq_zero h0
  have hap : (Builtin.append_ #[25, 25] 25 #[.slice none 0 0, .slice none 0 c]).run Tryz.prog w = .ok (.slice none 0 0) w := by
   simp [Builtin.append_, run_underlying Tryz.underlying25, sizeOf, typeInfo, hi, Builtin.lenOf, Builtin.firstCells]
  exact Lib.wpList_append_run w hgd s x 25 25 ho _ _ hs hx _ _ (by rw [hty]; exact hap) (h none 0 w hl (Below.refl _ _) ⟨fun p hp => (by cases hp), Nat.le_refl _⟩)
 | some ad =>
  have hn' : ∀ j u, (i64s xs)[j]? = some u → w.cell? (ad.add j) = some u := fun j u hu => by
   obtain ⟨hj, rfl⟩ := List.getElem?_eq_some_iff.1 hu
   obtain ⟨b, o, e, hc⟩ := hl j hj
   obtain rfl := Option.some.inj e
   rw [addr_add]; exact hc
  refine wpList_append_own w hgd s x 25 ho w.heap.size 3 i0 (.int .i64 0) 1 8 Tryz.underlying25 hi hz0 hz1 hz2 rfl (by decide) (.slice none 0 0) 0 [] hs (World.ownsRow_nil w w.heap.size 3 1) ad xs.length c (i64s xs) hx (by rw [i64s_len, Nat.mul_one]) hn' (by intro u hu; obtain ⟨x, _, rfl⟩ := List.mem_map.1 hu; rfl) (by unfold maxLen; omega) (by omega) (Nat.le_refl _) ?_
  intro v' w1 hown hgrow _
  obtain ⟨a', c', hve, hl'⟩ := lies_own hown
  have hfr := own_fresh hown hve
  subst hve
  have hcp := own_capJ hown
  rw [Nat.zero_add] at hcp
  rw [List.nil_append] at hl'
  have h2 := h a' c' w1 hl' ((Below.refl _ _).grown hgrow (Nat.le_refl _) (fun k hk => by simp [Value.ownBlock] at hk)) ⟨hfr, hcp⟩
  rw [List.nil_append, i64s_len]
  exact h2
theorem wp_app0V {ops : Array Oper} {rest : List Oper} {o : Oper} {a : Act} {Q : Exit → Act → World → Prop} (w : World) (hgd : o.guard = none) (s x : Operand)
    (ho : o.op = .call { callee := .builtin .append, args := #[s, x], argTypes := #[48, 48] }) (hty : o.type = 48) (ad : Option Addr) (vs : List Vl) (c : Nat)
    (hs : a.eval s = .slice none 0 0) (hx : a.eval x = .slice ad vs.length c) (hl : LiesV w ad vs) (hn : vs.length ≤ 20000)
    (h : ∀ a' c' w', LiesV w' a' vs → Below w.heap.size w w' → ((∀ p, a' = some p → w.heap.size ≤ p.block) ∧ vs.length ≤ c') → wpList Tryz.prog ops Q rest (a.put o.dst (.slice a' vs.length c')) w') : wpList Tryz.prog ops Q (o :: rest) a w := by
 obtain ⟨i0, hi, hz0, hz1, hz2⟩ := info_parts Tryz.infoV
 cases ad with
 | none =>
  have h0 : vs.length = 0 := by
   by_cases h : 0 < vs.length
   · obtain ⟨b, o, e, _⟩ := hl 0 h
     cases e
   · omega
  obtain rfl : vs = [] := List.eq_nil_of_length_eq_zero h0
  have hap : (Builtin.append_ #[48, 48] 48 #[.slice none 0 0, .slice none 0 c]).run Tryz.prog w = .ok (.slice none 0 0) w := by
   simp [Builtin.append_, run_underlying Tryz.underlying48, sizeOf, typeInfo, hi, Builtin.lenOf, Builtin.firstCells]
  exact Lib.wpList_append_run w hgd s x 48 48 ho _ _ hs hx _ _ (by rw [hty]; exact hap) (h none 0 w hl (Below.refl _ _) ⟨fun p hp => (by cases hp), Nat.le_refl _⟩)
 | some ad =>
  have hn' : ∀ j u, (vcells vs)[j]? = some u → w.cell? (ad.add j) = some u := fun j u hu => by
   obtain ⟨i, r, hi, rfl, hr⟩ := vcells_cell vs j u hu
   obtain ⟨b, o, e, h0, h1, h2⟩ := hl i hi
   obtain rfl := Option.some.inj e
   rw [addr_up]
   rcases hr with ⟨rfl, rfl⟩ | ⟨rfl, rfl⟩ | ⟨rfl, rfl⟩
   · exact h0
   · rw [← Nat.add_assoc]; exact h1
   · rw [← Nat.add_assoc]; exact h2
  refine wpList_append_own w hgd s x 48 ho w.heap.size 54 i0 (.agg #[.int .i64 0, .int .i64 0, .string ⟨#[]⟩]) 3 32 Tryz.underlying48 hi hz0 hz1 hz2 rfl (by decide) (.slice none 0 0) 0 [] hs (World.ownsRow_nil w w.heap.size 54 3) ad vs.length c (vcells vs) hx (vcells_len vs) hn' (by intro u hu; obtain ⟨x, _, hx⟩ := List.mem_flatMap.1 hu; simp at hx; rcases hx with rfl | rfl | rfl <;> rfl) (by unfold maxLen; omega) (by omega) (Nat.le_refl _) ?_
  intro v' w1 hown hgrow _
  rw [List.nil_append] at hown
  obtain ⟨a', c', hve, hl'⟩ := liesV_own hown
  have hfr := own_fresh hown hve
  subst hve
  have hcp := own_capJ hown
  rw [Nat.zero_add] at hcp
  exact h a' c' w1 hl' ((Below.refl _ _).grown hgrow (Nat.le_refl _) (fun k hk => by simp [Value.ownBlock] at hk)) ⟨hfr, hcp⟩
theorem row_fourA {w : World} {g e : Nat} {x0 x1 x2 x3 : Value} (h : w.heap[g]? = some (.cells #[x0, x1, x2, x3] e (0, 0))) :
    w.frozen? ⟨g, 0, none⟩ = false ∧ w.frozen? ⟨g, 1, none⟩ = false ∧ w.frozen? ⟨g, 2, none⟩ = false ∧ w.frozen? ⟨g, 3, none⟩ = false := by
 refine ⟨?_, ?_, ?_, ?_⟩ <;> simp [World.frozen?, h]
structure OCs (W : World) (id : Int) (rv dv vv x1 x2 x3 : Value) (wr : World) : Prop where
 p : wr.heap[W.heap.size]? = some (.cells #[.int .i64 id, rv, dv, vv] 50 (0, 0))
 z : wr.heap[W.heap.size + 1]? = some (.cells #[.int .i64 0, .slice none 0 0, .slice none 0 0, .slice none 0 0] 50 (0, 0))
 o : wr.heap[W.heap.size + 1 + 1]? = some (.cells #[.int .i64 id, x1, x2, x3] 50 (0, 0))
 old : Below W.heap.size W wr
theorem OCs.keep {W : World} {id : Int} {rv dv vv x1 x2 x3 : Value} {wr w' : World} (h : OCs W id rv dv vv x1 x2 x3 wr) (hb : Below wr.heap.size wr w') : OCs W id rv dv vv x1 x2 x3 w' :=
 ⟨blk_keep hb h.p, blk_keep hb h.z, blk_keep hb h.o, h.old.trans (hb.mono h.old.size)⟩
theorem OCs.s1 {W : World} {id : Int} {rv dv vv x1 x2 x3 : Value} {wr : World} (h : OCs W id rv dv vv x1 x2 x3 wr) (v : Value) : OCs W id rv dv vv v x2 x3 (wr.setCell ⟨W.heap.size + 1 + 1, 1, none⟩ v) :=
 ⟨blk_other h.p (by omega) v, blk_other h.z (by omega) v, row_setCell h.o v, h.old.setCell (by simp; omega) _⟩
theorem OCs.s2 {W : World} {id : Int} {rv dv vv x1 x2 x3 : Value} {wr : World} (h : OCs W id rv dv vv x1 x2 x3 wr) (v : Value) : OCs W id rv dv vv x1 v x3 (wr.setCell ⟨W.heap.size + 1 + 1, 2, none⟩ v) :=
 ⟨blk_other h.p (by omega) v, blk_other h.z (by omega) v, row_setCell h.o v, h.old.setCell (by simp; omega) _⟩
theorem OCs.s3 {W : World} {id : Int} {rv dv vv x1 x2 x3 : Value} {wr : World} (h : OCs W id rv dv vv x1 x2 x3 wr) (v : Value) : OCs W id rv dv vv x1 x2 v (wr.setCell ⟨W.heap.size + 1 + 1, 3, none⟩ v) :=
 ⟨blk_other h.p (by omega) v, blk_other h.z (by omega) v, row_setCell h.o v, h.old.setCell (by simp; omega) _⟩
set_option maxRecDepth 100000 in
set_option maxHeartbeats 3200000 in
theorem ownColumn_any (id : Int) (ra da va : Option Addr) (rc dc vc : Nat) (rs ds : List Int) (vs : List Vl) (W : World)
    (mr : rs.length ≤ 20000) (md : ds.length ≤ 20000) (mv : vs.length ≤ 20000) (hr : Lies W ra (i64s rs)) (hd : Lies W da (i64s ds)) (hv : LiesV W va vs) :
    Calls Tryz.prog 19 #[colV id ra rs.length rc da ds.length dc va vs.length vc] W fun e w' => (∃ ra' rc' da' dc' va' vc', e = .returned (colV id ra' rs.length rc' da' ds.length dc' va' vs.length vc') ∧ Lies w' ra' (i64s rs) ∧ Lies w' da' (i64s ds) ∧ LiesV w' va' vs ∧ (rs.length ≤ rc' ∧ ds.length ≤ dc' ∧ vs.length ≤ vc') ∧ (∀ p, ra' = some p → W.heap.size ≤ p.block) ∧ (∀ p, da' = some p → W.heap.size ≤ p.block) ∧ ∀ p, va' = some p → W.heap.size ≤ p.block) ∧ Below W.heap.size W w' := by
 have HO0 : Hid (OCs W id (.slice ra rs.length rc) (.slice da ds.length dc) (.slice va vs.length vc) (.slice none 0 0) (.slice none 0 0) (.slice none 0 0) (((W.alloc (.cells #[.int .i64 id, .slice ra rs.length rc, .slice da ds.length dc, .slice va vs.length vc] 50)).alloc (.cells #[.int .i64 0, .slice none 0 0, .slice none 0 0, .slice none 0 0] 50)).alloc (.cells #[.int .i64 id, .slice none 0 0, .slice none 0 0, .slice none 0 0] 50))) := (by
  refine ⟨blk_alloc (blk_alloc (heap_alloc_new W _)), blk_alloc ?_, ?_, (((Below.refl _ _).alloc (Nat.le_refl _) _).alloc (by simp) _).alloc (by simp; omega) _⟩
  · have h := heap_alloc_new (W.alloc (.cells #[.int .i64 id, .slice ra rs.length rc, .slice da ds.length dc, .slice va vs.length vc] 50)) (.cells #[.int .i64 0, .slice none 0 0, .slice none 0 0, .slice none 0 0] 50)
    rwa [show (W.alloc (.cells #[.int .i64 id, .slice ra rs.length rc, .slice da ds.length dc, .slice va vs.length vc] 50)).heap.size = W.heap.size + 1 by simp] at h
  · have h := heap_alloc_new ((W.alloc (.cells #[.int .i64 id, .slice ra rs.length rc, .slice da ds.length dc, .slice va vs.length vc] 50)).alloc (.cells #[.int .i64 0, .slice none 0 0, .slice none 0 0, .slice none 0 0] 50)) (.cells #[.int .i64 id, .slice none 0 0, .slice none 0 0, .slice none 0 0] 50)
    rwa [show ((W.alloc (.cells #[.int .i64 id, .slice ra rs.length rc, .slice da ds.length dc, .slice va vs.length vc] 50)).alloc (.cells #[.int .i64 0, .slice none 0 0, .slice none 0 0, .slice none 0 0] 50)).heap.size = W.heap.size + 1 + 1 by simp] at h)
 have HR : Hid (Lies W ra (i64s rs)) := hr
 have HD : Hid (Lies W da (i64s ds)) := hd
 have HV : Hid (LiesV W va vs) := hv
 clear hr hd hv
 unfold colV
 go_enter Tryz.func19, Tryz.ntmps19
 go_wp2_with (first | (at_builtin; refine wp_app0I _ rfl _ _ rfl rfl ra rs rc rfl rfl (HR.out.keep HO0.out.old) mr ?_; intro a1 c1 w1 hl1 hb1 hff1; have HCP1 : Hid _ := hff1.2; have hf1 := hff1.1; clear hff1; have HO1 : Hid _ := OCs.keep HO0.out hb1; have HL1 : Hid (Lies w1 a1 (i64s rs)) := hl1; have HF1 : Hid _ := hf1; have HBB1 : Hid _ := hb1; clear hl1 hb1 hf1; obtain ⟨x0, x1, x2, x3⟩ := row_four HO1.out.p; obtain ⟨y0, y1, y2, y3⟩ := row_four HO1.out.o; obtain ⟨z0, z1, z2, z3⟩ := row_fourA HO1.out.o; obtain ⟨m0, m1, m2, m3⟩ := row_fourA HO1.out.z; obtain ⟨e0, e1, e2, e3⟩ := row_four HO1.out.z) | (at_builtin; refine wp_app0I _ rfl _ _ rfl rfl da ds dc rfl rfl (HD.out.keep (OCs.s1 HO1.out _).old) md ?_; intro a2 c2 w2 hl2 hb2 hff2; have HCP2 : Hid _ := hff2.2; have hf2 := hff2.1; clear hff2; have HO2 : Hid _ := OCs.keep (OCs.s1 HO1.out _) hb2; have HL2 : Hid (Lies w2 a2 (i64s ds)) := hl2; have HF2 : Hid _ := hf2; have HBB2 : Hid _ := hb2; clear hl2 hb2 hf2; obtain ⟨x0, x1, x2, x3⟩ := row_four HO2.out.p; obtain ⟨y0, y1, y2, y3⟩ := row_four HO2.out.o; obtain ⟨z0, z1, z2, z3⟩ := row_fourA HO2.out.o; obtain ⟨m0, m1, m2, m3⟩ := row_fourA HO2.out.z; obtain ⟨e0, e1, e2, e3⟩ := row_four HO2.out.z) | (at_builtin; refine wp_app0V _ rfl _ _ rfl rfl va vs vc rfl rfl (HV.out.keep (OCs.s2 HO2.out _).old) mv ?_; intro a3 c3 w3 hl3 hb3 hff3; have HCP3 : Hid _ := hff3.2; have hf3 := hff3.1; clear hff3; have HO3 : Hid _ := OCs.keep (OCs.s2 HO2.out _) hb3; have HL3 : Hid (LiesV w3 a3 vs) := hl3; have HF3 : Hid _ := hf3; have HBB3 : Hid _ := hb3; clear hl3 hb3 hf3; obtain ⟨x0, x1, x2, x3⟩ := row_four HO3.out.p; obtain ⟨y0, y1, y2, y3⟩ := row_four HO3.out.o; obtain ⟨z0, z1, z2, z3⟩ := row_fourA HO3.out.o; obtain ⟨m0, m1, m2, m3⟩ := row_fourA HO3.out.z; obtain ⟨e0, e1, e2, e3⟩ := row_four HO3.out.z))
 have f1 : ∀ p, a1 = some p → W.heap.size + 1 + 1 < p.block := fun p hp => by have := HF1.out p hp; simp at this; omega
 have f2 : ∀ p, a2 = some p → W.heap.size + 1 + 1 < p.block := fun p hp => by have := HF2.out p hp; have h2 := lt_of_block (OCs.s1 HO1.out (.slice a1 rs.length c1)).o; omega
 have f3 : ∀ p, a3 = some p → W.heap.size + 1 + 1 < p.block := fun p hp => by have := HF3.out p hp; have h2 := lt_of_block (OCs.s2 HO2.out (.slice a2 ds.length c2)).o; omega
 have f1' : ∀ p, a1 = some p → W.heap.size + 1 < p.block := fun p hp => by have := f1 p hp; omega
 have f2' : ∀ p, a2 = some p → W.heap.size + 1 < p.block := fun p hp => by have := f2 p hp; omega
 have f3' : ∀ p, a3 = some p → W.heap.size + 1 < p.block := fun p hp => by have := f3 p hp; omega
 exact bodyPost_ret (v := .agg #[.int .i64 id, .slice a1 rs.length c1, .slice a2 ds.length c2, .slice a3 vs.length c3]) (results_cell_row Tryz.results19 _ _ (W.heap.size + 1) 50 #[.int .i64 id, .slice a1 rs.length c1, .slice a2 ds.length c2, .slice a3 vs.length c3] (0, 0) _ rfl (row_setCell (row_setCell (row_setCell (row_setCell (OCs.s3 HO3.out (.slice a3 vs.length c3)).z _) _) _) _) Tryz.underlying50 rfl (by kernel_rfl)) rfl ⟨⟨a1, c1, a2, c2, a3, c3, rfl,
  (((((((HL1.out.off f1).keep HBB2.out).off f1).keep HBB3.out).off f1).off f1').off f1').off f1' |>.off f1', (((((HL2.out.off f2).keep HBB3.out).off f2).off f2').off f2').off f2' |>.off f2', ((((HL3.out.off f3).off f3').off f3').off f3').off f3', ⟨HCP1.out, HCP2.out, HCP3.out⟩, fun p hp => by have := f1 p hp; omega, fun p hp => by have := f2 p hp; omega, fun p hp => by have := f3 p hp; omega⟩, ((((OCs.s3 HO3.out _).old.setCell (by simp) _).setCell (by simp) _).setCell (by simp) _).setCell (by simp) _⟩
theorem news_v {w : World} {ad : Option Addr} {vs : List Vl} (hl : LiesV w ad vs) : ∀ j u, (vcells vs)[j]? = some u → ∃ a, ad = some a ∧ w.cell? (a.add j) = some u := fun j u hu => by
 obtain ⟨i, r, hi, rfl, hr⟩ := vcells_cell vs j u hu
 obtain ⟨b, o, e, h0, h1, h2⟩ := hl i hi
 refine ⟨_, e, ?_⟩
 rw [addr_up]
 rcases hr with ⟨rfl, rfl⟩ | ⟨rfl, rfl⟩ | ⟨rfl, rfl⟩
 · exact h0
 · rw [← Nat.add_assoc]; exact h1
 · rw [← Nat.add_assoc]; exact h2
theorem one_v (vs : List Vl) : ∀ u ∈ vcells vs, u.oneCell' = true := fun u hu => by obtain ⟨x, _, hx⟩ := List.mem_flatMap.1 hu; simp at hx; rcases hx with rfl | rfl | rfl <;> rfl
theorem vcells_app (xs ys : List Vl) : vcells (xs ++ ys) = vcells xs ++ vcells ys := by simp [vcells]
structure AcI (g N : Nat) (id : Int) (rv : Value) (reps : List Int) (dv : Value) (defs : List Int) (vv : Value) (vals : List Vl) (W : World) : Prop where
 cell : W.heap[g]? = some (.cells #[.int .i64 id, rv, dv, vv] 50 (0, 0))
 rrow : W.ownsRow N 3 1 rv reps.length (i64s reps)
 drow : W.ownsRow N 3 1 dv defs.length (i64s defs)
 vrow : W.ownsRow N 54 3 vv vals.length (vcells vals)
 two : ∀ k, rv.ownBlock = some k → dv.ownBlock ≠ some k
theorem AcI.stay {g N : Nat} {id : Int} {rv dv vv : Value} {reps defs : List Int} {vals : List Vl} {W w' : World} (h : AcI g N id rv reps dv defs vv vals W) (hb : Below W.heap.size W w') : AcI g N id rv reps dv defs vv vals w' :=
 ⟨blk_keep hb h.cell, ow_kept h.rrow hb, ow_kept h.drow hb, ow_kept h.vrow hb, h.two⟩
theorem AcI.start {g N : Nat} {id : Int} {W : World} (h : W.heap[g]? = some (.cells #[.int .i64 id, .slice none 0 0, .slice none 0 0, .slice none 0 0] 50 (0, 0))) : AcI g N id (.slice none 0 0) [] (.slice none 0 0) [] (.slice none 0 0) [] W :=
 ⟨h, World.ownsRow_nil W N 3 1, World.ownsRow_nil W N 3 1, World.ownsRow_nil W N 54 3, fun k hk => by simp [Value.ownBlock] at hk⟩
theorem AcI.appR {g N : Nat} {id : Int} {rv dv vv : Value} {reps defs : List Int} {vals : List Vl} {W w1 : World} {x2 : Value} {xs : List Int} (h : AcI g N id rv reps dv defs vv vals W)
    (hown : w1.ownsRow N 3 1 x2 (reps.length + xs.length) (i64s reps ++ i64s xs)) (hg : W.grownBy w1 rv.ownBlock) (hw : x2.ownBlock = rv.ownBlock ∨ x2.ownBlock = some W.heap.size) :
    w1.heap[g]? = some (.cells #[.int .i64 id, rv, dv, vv] 50 (0, 0)) ∧ AcI g N id x2 (reps ++ xs) dv defs vv vals (w1.setCell ⟨g, 1, none⟩ x2) ∧ DFr g N W (w1.setCell ⟨g, 1, none⟩ x2) := by
 have hgl := lt_of_block h.cell
 have hng : some g ≠ rv.ownBlock := own_type h.rrow h.cell (by decide)
 have hng2 : x2.ownBlock ≠ some g := by
  rcases hw with e | e
  · rw [e]; exact fun e2 => hng e2.symm
  · rw [e]; simp; omega
 have eC : w1.heap[g]? = some (.cells #[.int .i64 id, rv, dv, vv] 50 (0, 0)) := by
  rw [hg.block g (by omega) hng]
  exact h.cell
 have hset : ∀ k, k ≠ g → (w1.setCell ⟨g, 1, none⟩ x2).heap[k]? = w1.heap[k]? := fun k hk => Below.heap_setCell _ ⟨g, 1, none⟩ _ _ hk
 have hrow : ∀ {e s n : Nat} {v : Value} {xs : List Value}, W.ownsRow N e s v n xs → e ≠ 50 → (∀ k, v.ownBlock = some k → some k ≠ rv.ownBlock) → (w1.setCell ⟨g, 1, none⟩ x2).ownsRow N e s v n xs := fun hr he hne => own_same hr fun k hk => by
  obtain ⟨q1, q2, cs, q3⟩ := own_block hr hk
  have hkg : k ≠ g := fun e2 => by subst e2; rw [h.cell] at q3; injection q3 with q3; injection q3 with _ q3 _; exact he q3.symm
  rw [hset k hkg, hg.block k q2 (hne k hk)]
 have hty : ∀ {e s n : Nat} {v : Value} {xs : List Value}, W.ownsRow N e s v n xs → 3 ≠ e → ∀ k, v.ownBlock = some k → some k ≠ rv.ownBlock := fun hr he k hk => by
  obtain ⟨_, _, cs, q3⟩ := own_block hr hk
  exact own_type h.rrow q3 he
 refine ⟨eC, ?_, ⟨hg.os, hg.tape, hg.output, by have := hg.size; simp; omega, fun k hk hne ht => ?_⟩⟩
 · refine ⟨?_, ?_, hrow h.drow (by decide) (fun k hk e => h.two k e.symm hk), hrow h.vrow (by decide) (hty h.vrow (by decide)), ?_⟩
   · rw [row_setC eC]; rfl
   · rw [List.length_append, i64s_app]
     exact own_same hown fun k hk => hset k (fun e2 => by subst e2; exact hng2 hk)
   · intro k hk
     rcases hw with e | e
     · rw [e] at hk; exact h.two k hk
     · rw [e] at hk
       simp at hk
       intro e2
       have := (own_block h.drow e2).2.1
       omega
 · rw [hset k hne, hg.block k hk (fun e => ?_)]
   obtain ⟨q1, _, cs, q3⟩ := own_block h.rrow e.symm
   exact absurd rfl (ht q1 cs _ _ q3).1
theorem AcI.appD {g N : Nat} {id : Int} {rv dv vv : Value} {reps defs : List Int} {vals : List Vl} {W w1 : World} {x2 : Value} {xs : List Int} (h : AcI g N id rv reps dv defs vv vals W)
    (hown : w1.ownsRow N 3 1 x2 (defs.length + xs.length) (i64s defs ++ i64s xs)) (hg : W.grownBy w1 dv.ownBlock) (hw : x2.ownBlock = dv.ownBlock ∨ x2.ownBlock = some W.heap.size) :
    w1.heap[g]? = some (.cells #[.int .i64 id, rv, dv, vv] 50 (0, 0)) ∧ AcI g N id rv reps x2 (defs ++ xs) vv vals (w1.setCell ⟨g, 2, none⟩ x2) ∧ DFr g N W (w1.setCell ⟨g, 2, none⟩ x2) := by
 have hgl := lt_of_block h.cell
 have hng : some g ≠ dv.ownBlock := own_type h.drow h.cell (by decide)
 have hng2 : x2.ownBlock ≠ some g := by
  rcases hw with e | e
  · rw [e]; exact fun e2 => hng e2.symm
  · rw [e]; simp; omega
 have eC : w1.heap[g]? = some (.cells #[.int .i64 id, rv, dv, vv] 50 (0, 0)) := by
  rw [hg.block g (by omega) hng]
  exact h.cell
 have hset : ∀ k, k ≠ g → (w1.setCell ⟨g, 2, none⟩ x2).heap[k]? = w1.heap[k]? := fun k hk => Below.heap_setCell _ ⟨g, 2, none⟩ _ _ hk
 have hrow : ∀ {e s n : Nat} {v : Value} {xs : List Value}, W.ownsRow N e s v n xs → e ≠ 50 → (∀ k, v.ownBlock = some k → some k ≠ dv.ownBlock) → (w1.setCell ⟨g, 2, none⟩ x2).ownsRow N e s v n xs := fun hr he hne => own_same hr fun k hk => by
  obtain ⟨q1, q2, cs, q3⟩ := own_block hr hk
  have hkg : k ≠ g := fun e2 => by subst e2; rw [h.cell] at q3; injection q3 with q3; injection q3 with _ q3 _; exact he q3.symm
  rw [hset k hkg, hg.block k q2 (hne k hk)]
 have hty : ∀ {e s n : Nat} {v : Value} {xs : List Value}, W.ownsRow N e s v n xs → 3 ≠ e → ∀ k, v.ownBlock = some k → some k ≠ dv.ownBlock := fun hr he k hk => by
  obtain ⟨_, _, cs, q3⟩ := own_block hr hk
  exact own_type h.drow q3 he
 refine ⟨eC, ?_, ⟨hg.os, hg.tape, hg.output, by have := hg.size; simp; omega, fun k hk hne ht => ?_⟩⟩
 · refine ⟨?_, hrow h.rrow (by decide) (fun k hk e => h.two k hk e.symm), ?_, hrow h.vrow (by decide) (hty h.vrow (by decide)), ?_⟩
   · rw [row_setC eC]; rfl
   · rw [List.length_append, i64s_app]
     exact own_same hown fun k hk => hset k (fun e2 => by subst e2; exact hng2 hk)
   · intro k hk e2
     rcases hw with e | e
     · rw [e] at e2; exact h.two k hk e2
     · rw [e] at e2
       simp at e2
       have := (own_block h.rrow hk).2.1
       omega
 · rw [hset k hne, hg.block k hk (fun e => ?_)]
   obtain ⟨q1, _, cs, q3⟩ := own_block h.drow e.symm
   exact absurd rfl (ht q1 cs _ _ q3).1
theorem AcI.appV {g N : Nat} {id : Int} {rv dv vv : Value} {reps defs : List Int} {vals : List Vl} {W w1 : World} {x2 : Value} {xs : List Vl} (h : AcI g N id rv reps dv defs vv vals W)
    (hown : w1.ownsRow N 54 3 x2 (vals.length + xs.length) (vcells vals ++ vcells xs)) (hg : W.grownBy w1 vv.ownBlock) (hw : x2.ownBlock = vv.ownBlock ∨ x2.ownBlock = some W.heap.size) :
    w1.heap[g]? = some (.cells #[.int .i64 id, rv, dv, vv] 50 (0, 0)) ∧ AcI g N id rv reps dv defs x2 (vals ++ xs) (w1.setCell ⟨g, 3, none⟩ x2) ∧ DFr g N W (w1.setCell ⟨g, 3, none⟩ x2) := by
 have hgl := lt_of_block h.cell
 have hng : some g ≠ vv.ownBlock := own_type h.vrow h.cell (by decide)
 have hng2 : x2.ownBlock ≠ some g := by
  rcases hw with e | e
  · rw [e]; exact fun e2 => hng e2.symm
  · rw [e]; simp; omega
 have eC : w1.heap[g]? = some (.cells #[.int .i64 id, rv, dv, vv] 50 (0, 0)) := by
  rw [hg.block g (by omega) hng]
  exact h.cell
 have hset : ∀ k, k ≠ g → (w1.setCell ⟨g, 3, none⟩ x2).heap[k]? = w1.heap[k]? := fun k hk => Below.heap_setCell _ ⟨g, 3, none⟩ _ _ hk
 have hrow : ∀ {e s n : Nat} {v : Value} {xs : List Value}, W.ownsRow N e s v n xs → e ≠ 50 → (∀ k, v.ownBlock = some k → some k ≠ vv.ownBlock) → (w1.setCell ⟨g, 3, none⟩ x2).ownsRow N e s v n xs := fun hr he hne => own_same hr fun k hk => by
  obtain ⟨q1, q2, cs, q3⟩ := own_block hr hk
  have hkg : k ≠ g := fun e2 => by subst e2; rw [h.cell] at q3; injection q3 with q3; injection q3 with _ q3 _; exact he q3.symm
  rw [hset k hkg, hg.block k q2 (hne k hk)]
 have hty : ∀ {e s n : Nat} {v : Value} {xs : List Value}, W.ownsRow N e s v n xs → 54 ≠ e → ∀ k, v.ownBlock = some k → some k ≠ vv.ownBlock := fun hr he k hk => by
  obtain ⟨_, _, cs, q3⟩ := own_block hr hk
  exact own_type h.vrow q3 he
 refine ⟨eC, ?_, ⟨hg.os, hg.tape, hg.output, by have := hg.size; simp; omega, fun k hk hne ht => ?_⟩⟩
 · refine ⟨?_, hrow h.rrow (by decide) (hty h.rrow (by decide)), hrow h.drow (by decide) (hty h.drow (by decide)), ?_, h.two⟩
   · rw [row_setC eC]; rfl
   · rw [List.length_append, vcells_app]
     exact own_same hown fun k hk => hset k (fun e2 => by subst e2; exact hng2 hk)
 · rw [hset k hne, hg.block k hk (fun e => ?_)]
   obtain ⟨q1, _, cs, q3⟩ := own_block h.vrow e.symm
   exact absurd rfl (ht q1 cs _ _ q3).2
structure Cl where
 id : Int
 ra : Option Addr
 rs : List Int
 rc : Nat
 da : Option Addr
 ds : List Int
 dc : Nat
 va : Option Addr
 vs : List Vl
 vc : Nat
abbrev Cl.val (c : Cl) : Value := colV c.id c.ra c.rs.length c.rc c.da c.ds.length c.dc c.va c.vs.length c.vc
structure Cl.At (w : World) (c : Cl) : Prop where
 r : Lies w c.ra (i64s c.rs)
 d : Lies w c.da (i64s c.ds)
 v : LiesV w c.va c.vs
theorem Cl.At.keep {w w' : World} {c : Cl} (h : c.At w) (hb : Below w.heap.size w w') : c.At w' := ⟨h.r.keep hb, h.d.keep hb, h.v.keep hb⟩
structure Cl.Fr (N : Nat) (c : Cl) : Prop where
 r : ∀ p, c.ra = some p → N ≤ p.block
 d : ∀ p, c.da = some p → N ≤ p.block
 v : ∀ p, c.va = some p → N ≤ p.block
theorem Cl.At.off {w : World} {c : Cl} {N : Nat} (h : c.At w) (hf : c.Fr N) {g j : Nat} {v : Value} (hg : g < N) : c.At (w.setCell ⟨g, j, none⟩ v) :=
 ⟨h.r.off fun p hp => Nat.lt_of_lt_of_le hg (hf.r p hp), h.d.off fun p hp => Nat.lt_of_lt_of_le hg (hf.d p hp), h.v.off fun p hp => Nat.lt_of_lt_of_le hg (hf.v p hp)⟩
def LiesC (w : World) (a : Option Addr) (cs : List Cl) : Prop := ∀ j (h : j < cs.length), (∃ b o, a = some ⟨b, o, none⟩ ∧ w.cell? ⟨b, o + j * 4, none⟩ = some (.int .i64 cs[j].id) ∧ w.cell? ⟨b, o + j * 4 + 1, none⟩ = some (.slice cs[j].ra cs[j].rs.length cs[j].rc) ∧ w.cell? ⟨b, o + j * 4 + 2, none⟩ = some (.slice cs[j].da cs[j].ds.length cs[j].dc) ∧ w.cell? ⟨b, o + j * 4 + 3, none⟩ = some (.slice cs[j].va cs[j].vs.length cs[j].vc)) ∧ cs[j].At w
theorem LiesC.keep {w w' : World} {a : Option Addr} {cs : List Cl} (h : LiesC w a cs) (hb : Below w.heap.size w w') : LiesC w' a cs := fun j hj => by
 obtain ⟨⟨b, o, e, h0, h1, h2, h3⟩, h4⟩ := h j hj
 exact ⟨⟨b, o, e, (hb.cell (World.block_lt_of_cell? w _ h0)).trans h0, (hb.cell (World.block_lt_of_cell? w _ h1)).trans h1, (hb.cell (World.block_lt_of_cell? w _ h2)).trans h2, (hb.cell (World.block_lt_of_cell? w _ h3)).trans h3⟩, h4.keep hb⟩
def jR (cs : List Cl) : List Int := cs.flatMap (·.rs)
def jD (cs : List Cl) : List Int := cs.flatMap (·.ds)
def jV (cs : List Cl) : List Vl := cs.flatMap (·.vs)
theorem jR_succ {cs : List Cl} {i : Nat} (h : i < cs.length) : jR (cs.take (i + 1)) = jR (cs.take i) ++ cs[i].rs := by rw [jR, jR, List.take_succ_eq_append_getElem h, List.flatMap_append]; simp
theorem jD_succ {cs : List Cl} {i : Nat} (h : i < cs.length) : jD (cs.take (i + 1)) = jD (cs.take i) ++ cs[i].ds := by rw [jD, jD, List.take_succ_eq_append_getElem h, List.flatMap_append]; simp
theorem jV_succ {cs : List Cl} {i : Nat} (h : i < cs.length) : jV (cs.take (i + 1)) = jV (cs.take i) ++ cs[i].vs := by rw [jV, jV, List.take_succ_eq_append_getElem h, List.flatMap_append]; simp
theorem jR_split (cs : List Cl) (i : Nat) : jR cs = jR (cs.take i) ++ jR (cs.drop i) := by simp [jR, ← List.flatMap_append]
theorem jD_split (cs : List Cl) (i : Nat) : jD cs = jD (cs.take i) ++ jD (cs.drop i) := by simp [jD, ← List.flatMap_append]
theorem jV_split (cs : List Cl) (i : Nat) : jV cs = jV (cs.take i) ++ jV (cs.drop i) := by simp [jV, ← List.flatMap_append]
theorem jR_le (cs : List Cl) (i : Nat) : (jR (cs.take i)).length ≤ (jR cs).length := by rw [jR_split cs i, List.length_append]; omega
theorem jD_le (cs : List Cl) (i : Nat) : (jD (cs.take i)).length ≤ (jD cs).length := by rw [jD_split cs i, List.length_append]; omega
theorem jV_le (cs : List Cl) (i : Nat) : (jV (cs.take i)).length ≤ (jV cs).length := by rw [jV_split cs i, List.length_append]; omega
def JnI (W w2 : World) (lid : Int) (cs : List Cl) (i : Nat) (wr : World) : Prop := (∃ rv dv vv, AcI (W.heap.size + 1 + 1) (W.heap.size + 1 + 1 + 1) lid rv (jR (cs.take i)) dv (jD (cs.take i)) vv (jV (cs.take i)) wr) ∧ DFr (W.heap.size + 1 + 1) (W.heap.size + 1 + 1 + 1) w2 wr
def Cl.Cap (k : Cl) : Prop := k.rs.length ≤ k.rc ∧ k.ds.length ≤ k.dc ∧ k.vs.length ≤ k.vc
set_option maxRecDepth 100000 in
set_option maxHeartbeats 6400000 in
theorem joined_cap (lid kind mr md : Int) (pa : Option Addr) (pn pc : Nat) (a : Option Addr) (c : Nat) (cs : List Cl) (W : World) (hn : cs.length ≤ 1048576) (hjr : (jR cs).length ≤ 1048576) (hjd : (jD cs).length ≤ 1048576) (hjv : (jV cs).length ≤ 1048576) (hl : LiesC W a cs) :
    Calls Tryz.prog 79 #[leafV lid kind mr md pa pn pc, .slice a cs.length c] W fun e w' => (∃ k : Cl, e = .returned k.val ∧ k.At w' ∧ k.Fr W.heap.size ∧ k.id = lid ∧ k.rs = jR cs ∧ k.ds = jD cs ∧ k.vs = jV cs ∧ k.Cap) ∧ Below W.heap.size W w' := by
 obtain ⟨iv, hvi, hv0, hv1, hv2⟩ := info_parts Tryz.info3
 obtain ⟨iw, hwi, hw0, hw1, hw2⟩ := info_parts Tryz.infoV
 unfold leafV
 obtain ⟨w0, HW0, HX, HY, HB⟩ := two_boxes W #[.int .i64 lid, .int .i64 kind, .int .i64 mr, .int .i64 md, .slice pa pn pc] #[.int .i64 0, .slice none 0 0, .slice none 0 0, .slice none 0 0] 72 50
 have hz : w0.heap.size = W.heap.size + 1 + 1 := by rw [← HW0.out]; simp
 obtain ⟨w2, HW2⟩ : ∃ w2, Hid (w0.alloc (.cells #[.int .i64 lid, .slice none 0 0, .slice none 0 0, .slice none 0 0] 50) = w2) := ⟨_, rfl⟩
 have hz2 : w2.heap.size = W.heap.size + 1 + 1 + 1 := by rw [← HW2.out]; simp [hz]
 have HA : Hid (w2.heap[W.heap.size + 1 + 1]? = some (.cells #[.int .i64 lid, .slice none 0 0, .slice none 0 0, .slice none 0 0] 50 (0, 0))) := (by
  have h := heap_alloc_new w0 (.cells #[.int .i64 lid, .slice none 0 0, .slice none 0 0, .slice none 0 0] 50)
  rw [hz, HW2.out] at h
  exact h)
 have HB2 : Hid (Below W.heap.size W w2) := (by
  have h := HB.out.alloc HB.out.size (.cells #[.int .i64 lid, .slice none 0 0, .slice none 0 0, .slice none 0 0] 50)
  rw [HW2.out] at h
  exact h)
 have HY2 : Hid (w2.heap[W.heap.size + 1]? = some (.cells #[.int .i64 0, .slice none 0 0, .slice none 0 0, .slice none 0 0] 50 (0, 0))) := (by
  have h := blk_alloc (o' := .cells #[.int .i64 lid, .slice none 0 0, .slice none 0 0, .slice none 0 0] 50) HY.out
  rw [HW2.out] at h
  exact h)
 have HL : Hid (∀ wr, DFr (W.heap.size + 1 + 1) (W.heap.size + 1 + 1 + 1) w2 wr → LiesC wr a cs) := fun wr hd => hl.keep (HB2.out.trans (hd.below (by omega) (by omega) (by omega)))
 have HZ2 : Hid _ := hz2
 have p0 := (row_five HX.out).1.1
 clear hl hz hz2
 go_enter Tryz.func79, Tryz.ntmps79
 go_wp2
 rw [HW0.out, HW2.out]
 clear p0
 go_loopw [13] (fun x wr => ∃ i : Nat, i ≤ cs.length ∧ x = .int .i64 i ∧ Hid (JnI W w2 lid cs i wr)) (fun x _ => cs.length - (intOf x).toNat)
 case atStart => exact ⟨0, Nat.zero_le _, rfl, ⟨_, _, _, AcI.start HA.out⟩, DFr.refl _ _ _⟩
 case round =>
  obtain ⟨i, hi, rfl, HJ⟩ := hrel
  have hsz : W.heap.size + 1 + 1 + 1 ≤ wr.heap.size := by have := HJ.out.2.size; rw [HZ2.out] at this; exact this
  obtain ⟨rv, dv, vv, hI⟩ := HJ.out.1
  obtain ⟨ra, rc, rfl⟩ := own_slC hI.rrow
  obtain ⟨da, dc, rfl⟩ := own_slC hI.drow
  obtain ⟨va, vc, rfl⟩ := own_slC hI.vrow
  have HI : Hid _ := hI
  clear hI
  by_cases hlt : i < cs.length
  · obtain ⟨⟨b, o, rfl, c0, c1, c2, c3⟩, hat⟩ := HL.out wr HJ.out.2 i hlt
    have HAT : Hid (∀ X, DFr (W.heap.size + 1 + 1) (W.heap.size + 1 + 1 + 1) w2 X → cs[i].At X) := fun X hX => (HL.out X hX i hlt).2
    have HJr : Hid (jR (cs.take (i + 1)) = jR (cs.take i) ++ cs[i].rs) := jR_succ hlt
    have HJd : Hid (jD (cs.take (i + 1)) = jD (cs.take i) ++ cs[i].ds) := jD_succ hlt
    have HJv : Hid (jV (cs.take (i + 1)) = jV (cs.take i) ++ cs[i].vs) := jV_succ hlt
    have HLr : Hid ((jR (cs.take i)).length + cs[i].rs.length ≤ 1048576) := (by have h := jR_le cs (i + 1); rw [HJr.out, List.length_append] at h; show _ ≤ _; omega)
    have HLd : Hid ((jD (cs.take i)).length + cs[i].ds.length ≤ 1048576) := (by have h := jD_le cs (i + 1); rw [HJd.out, List.length_append] at h; show _ ≤ _; omega)
    have HLv : Hid ((jV (cs.take i)).length + cs[i].vs.length ≤ 1048576) := (by have h := jV_le cs (i + 1); rw [HJv.out, List.length_append] at h; show _ ≤ _; omega)
    generalize cs[i] = k at *
    clear hat
    have hne : wr.heap.size ≠ W.heap.size + 1 + 1 := by omega
    have HB0 : Hid (Below wr.heap.size wr (wr.alloc (.cells #[.int .i64 k.id, .slice k.ra k.rs.length k.rc, .slice k.da k.ds.length k.dc, .slice k.va k.vs.length k.vc] 50))) := (Below.refl _ _).alloc (Nat.le_refl _) _
    have HI0 : Hid _ := HI.out.stay HB0.out
    have HD0 : Hid (DFr (W.heap.size + 1 + 1) (W.heap.size + 1 + 1 + 1) w2 _) := HJ.out.2.trans (.of_below HB0.out)
    have HC0 : Hid _ := heap_alloc_new wr (.cells #[.int .i64 k.id, .slice k.ra k.rs.length k.rc, .slice k.da k.ds.length k.dc, .slice k.va k.vs.length k.vc] 50)
    obtain ⟨g0, g1, g2, g3⟩ := row_four HI0.out.cell
    go_wp2_with (first
     | (at_builtin; refine wpList_append_any _ rfl _ _ 25 rfl (W.heap.size + 1 + 1 + 1) 3 iv (.int .i64 0) 1 8 Tryz.underlying25 hvi hv0 hv1 hv2 rfl (by decide) _ _ (i64s (jR (cs.take i))) rfl HI0.out.rrow k.ra k.rs.length k.rc (i64s k.rs) rfl (by rw [i64s_len, Nat.mul_one]) (news_i (HAT.out _ HD0.out).r) (one_i _) (by have := HLr.out; unfold maxLen; omega) (by have := HLr.out; omega) (by have h5 := HD0.out.size; rw [HZ2.out] at h5; exact h5) ?_; intro v1 x1 hown1 hg1 hw1; obtain ⟨k1, k2, k3⟩ := AcI.appR HI0.out hown1 hg1 hw1; obtain ⟨a1, e1, rfl⟩ := own_slC hown1; have HI1 : Hid _ := k2; have HD1 : Hid (DFr (W.heap.size + 1 + 1) (W.heap.size + 1 + 1 + 1) w2 _) := HD0.out.trans k3; have HC1 : Hid _ := k3.box HC0.out hne (by decide); clear hown1 hg1 hw1 k2 k3 g0 g1 g2 g3; obtain ⟨g0, g1, g2, g3⟩ := row_four k1; obtain ⟨f0, f1, f2, f3⟩ := row_fourA k1; obtain ⟨d0, d1, d2, d3⟩ := row_four HC1.out; clear k1)
     | (at_builtin; refine wpList_append_any _ rfl _ _ 25 rfl (W.heap.size + 1 + 1 + 1) 3 iv (.int .i64 0) 1 8 Tryz.underlying25 hvi hv0 hv1 hv2 rfl (by decide) _ _ (i64s (jD (cs.take i))) rfl HI1.out.drow k.da k.ds.length k.dc (i64s k.ds) rfl (by rw [i64s_len, Nat.mul_one]) (news_i (HAT.out _ HD1.out).d) (one_i _) (by have := HLd.out; unfold maxLen; omega) (by have := HLd.out; omega) (by have h5 := HD1.out.size; rw [HZ2.out] at h5; exact h5) ?_; intro v2 x2 hown2 hg2 hw2; obtain ⟨k1, k2, k3⟩ := AcI.appD HI1.out hown2 hg2 hw2; obtain ⟨a2, e2, rfl⟩ := own_slC hown2; have HI2 : Hid _ := k2; have HD2 : Hid (DFr (W.heap.size + 1 + 1) (W.heap.size + 1 + 1 + 1) w2 _) := HD1.out.trans k3; have HC2 : Hid _ := k3.box HC1.out hne (by decide); clear hown2 hg2 hw2 k2 k3 g0 g1 g2 g3; obtain ⟨g0, g1, g2, g3⟩ := row_four k1; obtain ⟨f0, f1, f2, f3⟩ := row_fourA k1; obtain ⟨d0, d1, d2, d3⟩ := row_four HC2.out; clear k1)
     | (at_builtin; refine wpList_append_any _ rfl _ _ 48 rfl (W.heap.size + 1 + 1 + 1) 54 iw (.agg #[.int .i64 0, .int .i64 0, .string ⟨#[]⟩]) 3 32 Tryz.underlying48 hwi hw0 hw1 hw2 rfl (by decide) _ _ (vcells (jV (cs.take i))) rfl HI2.out.vrow k.va k.vs.length k.vc (vcells k.vs) rfl (vcells_len _) (news_v (HAT.out _ HD2.out).v) (one_v _) (by have := HLv.out; unfold maxLen; omega) (by have := HLv.out; omega) (by have h5 := HD2.out.size; rw [HZ2.out] at h5; exact h5) ?_; intro v3 x3 hown3 hg3 hw3; obtain ⟨k1, k2, k3⟩ := AcI.appV HI2.out hown3 hg3 hw3; obtain ⟨a3, e3, rfl⟩ := own_slC hown3; have HI3 : Hid _ := k2; have HD3 : Hid (DFr (W.heap.size + 1 + 1) (W.heap.size + 1 + 1 + 1) w2 _) := HD2.out.trans k3; have HC3 : Hid _ := k3.box HC2.out hne (by decide); clear hown3 hg3 hw3 k2 k3 g0 g1 g2 g3; obtain ⟨g0, g1, g2, g3⟩ := row_four k1; obtain ⟨f0, f1, f2, f3⟩ := row_fourA k1; obtain ⟨d0, d1, d2, d3⟩ := row_four HC3.out; clear k1))
    go_roundw
    case rel => exact ⟨i + 1, by omega, by go_num, ⟨_, _, _, by rw [HJr.out, HJd.out, HJv.out]; exact HI3.out⟩, HD3.out⟩
    case measure => simp [intOf]; omega
  · obtain rfl : i = cs.length := by omega
    obtain ⟨g0, g1, g2, g3⟩ := row_four HI.out.cell
    have hy := HJ.out.2.box HY2.out (by omega) (by decide)
    obtain ⟨z0, z1, z2, z3⟩ := row_four hy
    obtain ⟨f0, f1, f2, f3⟩ := row_fourA hy
    have HYr : Hid _ := hy
    clear hy
    go_wp2
    have f1 := own_fresh HI.out.rrow rfl
    have f2 := own_fresh HI.out.drow rfl
    have f3 := own_fresh HI.out.vrow rfl
    have f1' : ∀ p, ra = some p → W.heap.size + 1 < p.block := fun p hp => by have := f1 p hp; omega
    have f2' : ∀ p, da = some p → W.heap.size + 1 < p.block := fun p hp => by have := f2 p hp; omega
    have f3' : ∀ p, va = some p → W.heap.size + 1 < p.block := fun p hp => by have := f3 p hp; omega
    have l1 : Lies wr ra (i64s (jR (cs.take cs.length))) := by
     obtain ⟨a', c', he, hl⟩ := lies_own HI.out.rrow
     injection he with e1 _ _; subst e1; exact hl
    have l2 : Lies wr da (i64s (jD (cs.take cs.length))) := by
     obtain ⟨a', c', he, hl⟩ := lies_own HI.out.drow
     injection he with e1 _ _; subst e1; exact hl
    have l3 : LiesV wr va (jV (cs.take cs.length)) := by
     obtain ⟨a', c', he, hl⟩ := liesV_own HI.out.vrow
     injection he with e1 _ _; subst e1; exact hl
    rw [List.take_length] at l1 l2 l3
    have cap1 : (jR cs).length ≤ rc := by have h := own_capJ HI.out.rrow; rw [List.take_length] at h; simpa using h
    have cap2 : (jD cs).length ≤ dc := by have h := own_capJ HI.out.drow; rw [List.take_length] at h; simpa using h
    have cap3 : (jV cs).length ≤ vc := by have h := own_capJ HI.out.vrow; rw [List.take_length] at h; simpa using h
    have hbw : Below W.heap.size W wr := HB2.out.trans (HJ.out.2.below (by have := HZ2.out; omega) (by omega) (by omega))
    exact bodyPost_ret (v := .agg #[.int .i64 lid, .slice ra (jR cs).length rc, .slice da (jD cs).length dc, .slice va (jV cs).length vc]) (results_cell_row Tryz.results79 _ _ (W.heap.size + 1) 50 #[.int .i64 lid, .slice ra (jR cs).length rc, .slice da (jD cs).length dc, .slice va (jV cs).length vc] (0, 0) _ rfl (row_setCell (row_setCell (row_setCell (row_setCell HYr.out _) _) _) _) Tryz.underlying50 rfl (by kernel_rfl)) rfl ⟨⟨⟨lid, ra, jR cs, rc, da, jD cs, dc, va, jV cs, vc⟩, rfl, ⟨(((l1.off f1').off f1').off f1').off f1', (((l2.off f2').off f2').off f2').off f2', (((l3.off f3').off f3').off f3').off f3'⟩, ⟨fun p hp => by have := f1' p hp; omega, fun p hp => by have := f2' p hp; omega, fun p hp => by have := f3' p hp; omega⟩, rfl, rfl, rfl, rfl, ⟨cap1, cap2, cap3⟩⟩, (((hbw.setCell (by simp) _).setCell (by simp) _).setCell (by simp) _).setCell (by simp) _⟩
theorem joined_any (lid kind mr md : Int) (pa : Option Addr) (pn pc : Nat) (a : Option Addr) (c : Nat) (cs : List Cl) (W : World) (hn : cs.length ≤ 1048576) (hjr : (jR cs).length ≤ 1048576) (hjd : (jD cs).length ≤ 1048576) (hjv : (jV cs).length ≤ 1048576) (hl : LiesC W a cs) :
    Calls Tryz.prog 79 #[leafV lid kind mr md pa pn pc, .slice a cs.length c] W fun e w' => (∃ k : Cl, e = .returned k.val ∧ k.At w' ∧ k.Fr W.heap.size ∧ k.id = lid ∧ k.rs = jR cs ∧ k.ds = jD cs ∧ k.vs = jV cs) ∧ Below W.heap.size W w' :=
 (joined_cap lid kind mr md pa pn pc a c cs W hn hjr hjd hjv hl).mono fun _ _ h => by
  obtain ⟨⟨k, h1, h2, h3, h4, h5, h6, h7, _⟩, hb⟩ := h
  exact ⟨⟨k, h1, h2, h3, h4, h5, h6, h7⟩, hb⟩
structure AFr (G : List Nat) (W w' : World) : Prop where
 os : w'.os = W.os
 tape : w'.tape = W.tape
 output : w'.output = W.output
 size : W.heap.size ≤ w'.heap.size
 keep : ∀ k, k < W.heap.size → k ∉ G → w'.heap[k]? = W.heap[k]?
theorem AFr.refl (G : List Nat) (W : World) : AFr G W W := ⟨rfl, rfl, rfl, Nat.le_refl _, fun _ _ _ => rfl⟩
theorem AFr.trans {G : List Nat} {W w1 w2 : World} (h : AFr G W w1) (h2 : AFr G w1 w2) : AFr G W w2 :=
 ⟨h2.os.trans h.os, h2.tape.trans h.tape, h2.output.trans h.output, Nat.le_trans h.size h2.size, fun k hk hn => by rw [h2.keep k (Nat.lt_of_lt_of_le hk h.size) hn, h.keep k hk hn]⟩
theorem AFr.of_below {G : List Nat} {W w' : World} (hb : Below W.heap.size W w') : AFr G W w' := ⟨hb.os, hb.tape, hb.output, hb.size, fun k hk _ => hb.block k hk⟩
theorem AFr.more {G H : List Nat} {W w' : World} (h : AFr G W w') (hs : ∀ g ∈ G, g ∈ H) : AFr H W w' := ⟨h.os, h.tape, h.output, h.size, fun k hk hn => h.keep k hk (fun hg => hn (hs k hg))⟩
theorem AFr.drew {G : List Nat} {W w' : World} (h : AFr G W w') (n : Nat) : AFr G W (w'.drewN n) := ⟨h.os, h.tape, h.output, h.size, h.keep⟩
theorem AFr.below {G : List Nat} {N : Nat} {W w' : World} (h : AFr G W w') (hN : N ≤ W.heap.size) (hg : ∀ g ∈ G, N ≤ g) : Below N W w' := ⟨h.os, h.tape, h.output, h.size, fun k hk => h.keep k (by omega) (fun hm => by have := hg k hm; omega)⟩
theorem AFr.box {G : List Nat} {k : Nat} {W w' : World} {o : Obj} (h : AFr G W w') (hk : W.heap[k]? = some o) (hn : k ∉ G) : w'.heap[k]? = some o := (h.keep k (lt_of_block hk) hn).trans hk
theorem AFr.setIn {G : List Nat} {W w' : World} {g j : Nat} {v : Value} (h : AFr G W w') (hg : g ∈ G) : AFr G W (w'.setCell ⟨g, j, none⟩ v) := ⟨h.os, h.tape, h.output, by simpa using h.size, fun k hk hn => (Below.heap_setCell w' ⟨g, j, none⟩ v k (fun e => hn (by rw [e]; exact hg))).trans (h.keep k hk hn)⟩
theorem AFr.setNew {G : List Nat} {W w' : World} {g j : Nat} {v : Value} (h : AFr G W w') (hg : W.heap.size ≤ g) : AFr G W (w'.setCell ⟨g, j, none⟩ v) := ⟨h.os, h.tape, h.output, by simpa using h.size, fun k hk hn => (Below.heap_setCell w' ⟨g, j, none⟩ v k (by show k ≠ g; omega)).trans (h.keep k hk hn)⟩
structure Cl.Lw (N : Nat) (c : Cl) : Prop where
 r : 0 < (i64s c.rs).length → ∀ b o, c.ra = some ⟨b, o, none⟩ → b < N
 d : 0 < (i64s c.ds).length → ∀ b o, c.da = some ⟨b, o, none⟩ → b < N
 v : 0 < c.vs.length → ∀ b o, c.va = some ⟨b, o, none⟩ → b < N
theorem Lies.lw {N : Nat} {w w' : World} {a : Option Addr} {cs : List Value} (h : Lies w a cs) (hl : 0 < cs.length → ∀ b o, a = some ⟨b, o, none⟩ → b < N) (hs : ∀ b, b < N → w'.heap[b]? = w.heap[b]?) : Lies w' a cs := fun j hj => by
 obtain ⟨b, o, e, hc⟩ := h j hj
 exact ⟨b, o, e, cell_stay hc (hs b (hl (by omega) b o e))⟩
theorem LiesV.lw {N : Nat} {w w' : World} {a : Option Addr} {cs : List Vl} (h : LiesV w a cs) (hl : 0 < cs.length → ∀ b o, a = some ⟨b, o, none⟩ → b < N) (hs : ∀ b, b < N → w'.heap[b]? = w.heap[b]?) : LiesV w' a cs := fun j hj => by
 obtain ⟨b, o, e, h0, h1, h2⟩ := h j hj
 have hb := hl (by omega) b o e
 exact ⟨b, o, e, cell_stay h0 (hs b hb), cell_stay h1 (hs b hb), cell_stay h2 (hs b hb)⟩
theorem Cl.At.lw {w : World} {c : Cl} (h : c.At w) : c.Lw w.heap.size := by
 have key : ∀ (a : Option Addr) (b o b1 o1 : Nat), a = some ⟨b, o, none⟩ → a = some ⟨b1, o1, none⟩ → b = b1 := fun a b o b1 o1 e1 e2 => by
  have e := e1.symm.trans e2
  injection e with e
  injection e
 refine ⟨fun h0 b o e => ?_, fun h0 b o e => ?_, fun h0 b o e => ?_⟩
 · obtain ⟨b1, o1, e1, hc⟩ := h.r 0 h0
   rw [key _ _ _ _ _ e e1]
   exact World.block_lt_of_cell? w _ hc
 · obtain ⟨b1, o1, e1, hc⟩ := h.d 0 h0
   rw [key _ _ _ _ _ e e1]
   exact World.block_lt_of_cell? w _ hc
 · obtain ⟨b1, o1, e1, hc, _⟩ := h.v 0 h0
   rw [key _ _ _ _ _ e e1]
   exact World.block_lt_of_cell? w _ hc
structure RdS (w : World) (N g : Nat) (c : Cl) (done rem : List Ent) : Prop where
 cell : w.heap[g]? = some (.cells #[.int .i64 c.id, .slice c.ra c.rs.length c.rc, .slice c.da c.ds.length c.dc, .slice c.va c.vs.length c.vc, .int .i64 (done.length : Nat), .int .i64 ((eV done).length : Nat)] 109 (0, 0))
 col : c.At w
 r : c.rs = eR (done ++ rem)
 d : c.ds = eD (done ++ rem)
 v : c.vs = eV (done ++ rem)
 len : (done ++ rem).length ≤ 20000
 lw : c.Lw N
 hi : N ≤ g
def RdL (w : World) (N g : Nat) (rem : List Ent) : Prop := ∃ c done, RdS w N g c done rem
theorem RdS.keep {w w' : World} {N g : Nat} {c : Cl} {done rem : List Ent} (h : RdS w N g c done rem) (hg : w'.heap[g]? = w.heap[g]?) (hs : ∀ b, b < N → w'.heap[b]? = w.heap[b]?) : RdS w' N g c done rem :=
 ⟨hg.trans h.cell, ⟨h.col.r.lw h.lw.r hs, h.col.d.lw h.lw.d hs, h.col.v.lw h.lw.v hs⟩, h.r, h.d, h.v, h.len, h.lw, h.hi⟩
theorem RdL.keep {w w' : World} {N g : Nat} {rem : List Ent} (h : RdL w N g rem) (hg : w'.heap[g]? = w.heap[g]?) (hs : ∀ b, b < N → w'.heap[b]? = w.heap[b]?) : RdL w' N g rem := by
 obtain ⟨c, done, h⟩ := h
 exact ⟨c, done, h.keep hg hs⟩
theorem RdL.below {w w' : World} {N g : Nat} {rem : List Ent} (h : RdL w N g rem) (hb : Below w.heap.size w w') : RdL w' N g rem := by
 obtain ⟨c, done, h1⟩ := h
 have hlt := lt_of_block h1.cell
 have hh := h1.hi
 exact ⟨c, done, h1.keep (hb.block g hlt) (fun b hb' => hb.block b (by omega))⟩
theorem row_sixG {w : World} {g e : Nat} {x0 x1 x2 x3 x4 x5 : Value} (h : w.heap[g]? = some (.cells #[x0, x1, x2, x3, x4, x5] e (0, 0))) : w.frozen? ⟨g, 4, none⟩ = false ∧ w.frozen? ⟨g, 5, none⟩ = false := by
 refine ⟨?_, ?_⟩ <;> simp [World.frozen?, h]
def hdR : List Ent → Int
 | [] => 0
 | e :: _ => e.rep
set_option maxRecDepth 100000 in
set_option maxHeartbeats 1600000 in
theorem ended_any (N g : Nat) (rem : List Ent) (W : World) (h : RdL W N g rem) :
    Calls Tryz.prog (53) #[.pointer (some ⟨g, 0, none⟩)] W fun e w' => e = .returned (.bool (decide (rem = []))) ∧ ∃ m, w' = W.drewN m := by
 obtain ⟨c, done, h⟩ := h
 obtain ⟨p0, p1, p2, p3, p4, p5⟩ := row_six h.cell
 obtain ⟨b, HB⟩ := hid_name (decide (rem = []))
 have q : ((done.length : Int) == (c.rs.length : Int)) = b := by
  rw [← HB.out, h.r, eR_len, List.length_append, Bool.eq_iff_iff, beq_iff_eq, decide_eq_true_iff, ← List.length_eq_zero_iff]
  omega
 have q2 : (done.length == c.rs.length) = b := by
  rw [← q, Bool.eq_iff_iff, beq_iff_eq, beq_iff_eq]
  omega
 rw [HB.out]
 clear h
 go_enter Tryz.func53, Tryz.ntmps53
 go_wp2_with fail
 go_quiet (fail)
 go_wp2
 go_ret
 exact ⟨by first | rfl | (rw [← q]; rfl) | (rw [← q2]; rfl), _, rfl⟩
set_option maxRecDepth 100000 in
set_option maxHeartbeats 1600000 in
theorem arep_any (N g : Nat) (rem : List Ent) (W : World) (h : RdL W N g rem) :
    Calls Tryz.prog (132) #[.pointer (some ⟨g, 0, none⟩)] W fun e w' => e = .returned (.int .i64 (hdR rem)) ∧ ∃ m, w' = W.drewN m := by
 have HE : Hid _ := ended_any N g rem W h
 obtain ⟨c, done, h⟩ := h
 obtain ⟨p0, p1, p2, p3, p4, p5⟩ := row_six h.cell
 cases rem with
 | nil =>
  clear h
  rw [show hdR [] = 0 from rfl]
  rw [show decide (([] : List Ent) = []) = true from rfl] at HE
  go_enter Tryz.func132, Tryz.ntmps132
  go_wp2_with fail
  refine Calls.mono HE.out ?_
  rintro e w1 ⟨rfl, k, rfl⟩
  go_wp2
  go_ret
  exact ⟨rfl, _, rfl⟩
 | cons x t =>
  rw [show decide ((x :: t : List Ent) = []) = false by simp] at HE
  have hlt : done.length < c.rs.length := by rw [h.r, eR_len]; simp
  have hlen : c.rs.length ≤ 20000 := by rw [h.r, eR_len]; exact h.len
  obtain ⟨b, o, hra, hc⟩ := h.col.r done.length (by simpa [i64s] using hlt)
  have hx : (i64s c.rs)[done.length]'(by simpa [i64s] using hlt) = .int .i64 x.rep := by simp [i64s, h.r, eR]
  rw [hx] at hc
  rw [hra] at p1
  obtain ⟨xr, HXr⟩ := hid_name x.rep
  rw [show hdR (x :: t) = x.rep from rfl, HXr.out]
  rw [HXr.out] at hc
  have q0 : (0 : Int) ≤ (done.length : Int) := by omega
  have q1 : (done.length : Int) < (c.rs.length : Int) := by omega
  clear h hx hra
  go_enter Tryz.func132, Tryz.ntmps132
  go_wp2_with fail
  refine Calls.mono HE.out ?_
  rintro e w1 ⟨rfl, k, rfl⟩
  go_wp2_with fail
  go_quiet (fail)
  go_wp2
  go_ret
  exact ⟨rfl, _, World.drewN_drewN _ _ _⟩
set_option maxRecDepth 100000 in
set_option maxHeartbeats 1600000 in
theorem adef_any (N g : Nat) (x : Ent) (t : List Ent) (W : World) (h : RdL W N g (x :: t)) :
    Calls Tryz.prog (131) #[.pointer (some ⟨g, 0, none⟩)] W fun e w' => e = .returned (.int .i64 x.dfn) ∧ ∃ m, w' = W.drewN m := by
 obtain ⟨c, done, h⟩ := h
 obtain ⟨p0, p1, p2, p3, p4, p5⟩ := row_six h.cell
 have hlt : done.length < c.ds.length := by rw [h.d, eD_len]; simp
 have hlen : c.ds.length ≤ 20000 := by rw [h.d, eD_len]; exact h.len
 obtain ⟨b, o, hra, hc⟩ := h.col.d done.length (by simpa [i64s] using hlt)
 have hx : (i64s c.ds)[done.length]'(by simpa [i64s] using hlt) = .int .i64 x.dfn := by simp [i64s, h.d, eD]
 rw [hx] at hc
 rw [hra] at p2
 obtain ⟨xr, HXr⟩ := hid_name x.dfn
 rw [HXr.out]
 rw [HXr.out] at hc
 have q0 : (0 : Int) ≤ (done.length : Int) := by omega
 have q1 : (done.length : Int) < (c.ds.length : Int) := by omega
 clear h hx hra
 go_enter Tryz.func131, Tryz.ntmps131
 go_wp2_with fail
 go_quiet (fail)
 go_wp2
 go_ret
 exact ⟨rfl, _, rfl⟩
set_option maxRecDepth 100000 in
set_option maxHeartbeats 1600000 in
theorem pass_any (N g : Nat) (x : Ent) (t : List Ent) (hv : x.v = none) (W : World) (h : RdL W N g (x :: t)) :
    Calls Tryz.prog (119) #[.pointer (some ⟨g, 0, none⟩)] W fun e w' => e = .returned (.tuple #[]) ∧ RdL w' N g t ∧ AFr [g] W w' := by
 obtain ⟨c, done, h⟩ := h
 obtain ⟨p0, p1, p2, p3, p4, p5⟩ := row_six h.cell
 obtain ⟨f4, f5⟩ := row_sixG h.cell
 have HH : Hid (RdS W N g c done (x :: t)) := h
 have hlen : done.length ≤ 20000 := by have := h.len; rw [List.length_append] at this; omega
 have HV : Hid ((eV (done ++ [x])).length = (eV done).length) := (by show _ = _; unfold eV; rw [List.filterMap_append]; simp [hv])
 have HN : Hid (RdS (W.setCell ⟨g, 4, none⟩ (.int .i64 ((done.length : Int) + 1))) N g c (done ++ [x]) t) := (by
  have e : done ++ (x :: t) = (done ++ [x]) ++ t := by simp
  have hst : ∀ b, b < N → (W.setCell ⟨g, 4, none⟩ (.int .i64 ((done.length : Int) + 1))).heap[b]? = W.heap[b]? := fun b hb => Below.heap_setCell W ⟨g, 4, none⟩ _ b (by have := h.hi; show b ≠ g; omega)
  refine ⟨?_, ⟨h.col.r.lw h.lw.r hst, h.col.d.lw h.lw.d hst, h.col.v.lw h.lw.v hst⟩, by rw [← e]; exact h.r, by rw [← e]; exact h.d, by rw [← e]; exact h.v, by rw [← e]; exact h.len, h.lw, h.hi⟩
  rw [HV.out, List.length_append]
  exact row_setC h.cell)
 clear h
 go_enter Tryz.func119, Tryz.ntmps119
 go_wp2
 go_end0
 exact ⟨rfl, ⟨c, _, HN.out⟩, (AFr.refl _ _).setIn (by simp)⟩
instance : Inhabited Cl := ⟨⟨0, none, [], 0, none, [], 0, none, [], 0⟩⟩
theorem ColQ.cl {W : World} {N : Nat} {c : Col} {q : Value × Value × Value} (h : ColQ W N c q) : ∃ k : Cl, k.id = c.id ∧ k.rs = c.reps ∧ k.ds = c.defs ∧ k.vs = c.vals ∧ k.Cap ∧ k.At W ∧ q = (.slice k.ra k.rs.length k.rc, .slice k.da k.ds.length k.dc, .slice k.va k.vs.length k.vc) := by
 obtain ⟨hr, hd, hv⟩ := h
 obtain ⟨q1, q2, q3⟩ := q
 obtain ⟨ra, rc, rfl⟩ := own_sl hr
 obtain ⟨da, dc, rfl⟩ := own_sl hd
 obtain ⟨va', vc', e, hlv⟩ := liesV_own hv
 have e' : q3 = .slice va' c.vals.length vc' := e
 subst e'
 exact ⟨⟨c.id, ra, c.reps, rc, da, c.defs, dc, va', c.vals, vc'⟩, rfl, rfl, rfl, rfl, ⟨(own_cap hr).2, (own_cap hd).2, (own_cap hv).2⟩, ⟨own_liesX hr, own_liesX hd, hlv⟩, rfl⟩
theorem zip4_at : ∀ (cs : List Col) (qs : List (Value × Value × Value)) (j i : Nat), qs.length = cs.length → i < 4 → ∀ (h : j < cs.length) (h' : j < qs.length), ((List.zipWith colC cs qs).flatten)[j * 4 + i]? = (colC cs[j] qs[j])[i]?
 | [], _, j, _, _, _, h, _ => by simp at h
 | _ :: _, [], j, _, _, _, _, h' => by simp at h'
 | c :: cs, q :: qs, 0, i, _, hi, _, _ => by
  rw [List.zipWith_cons_cons, List.flatten_cons, List.getElem?_append_left (by simp [colC]; omega)]
  simp
 | c :: cs, q :: qs, j + 1, i, hl, hi, h, h' => by
  rw [List.zipWith_cons_cons, List.flatten_cons, List.getElem?_append_right (by simp [colC]; omega), show (j + 1) * 4 + i - (colC c q).length = j * 4 + i by simp [colC]; omega]
  simpa using zip4_at cs qs j i (by simpa using hl) hi (by simpa using h) (by simpa using h')
theorem ColR.cls {W : World} {N : Nat} {ov : Value} {cs : List Col} (h : ColR W N ov cs) : ∃ (a : Option Addr) (c : Nat) (ks : List Cl), ks.length = cs.length ∧ ov = .slice a ks.length c ∧ LiesC W a ks ∧ ∀ j (h : j < ks.length) (h' : j < cs.length), ks[j].id = cs[j].id ∧ ks[j].rs = cs[j].reps ∧ ks[j].ds = cs[j].defs ∧ ks[j].vs = cs[j].vals ∧ ks[j].Cap := by
 obtain ⟨qs, hl, hr, hq⟩ := h
 have each : ∀ i, i < cs.length → ∃ k : Cl, (∀ (h : i < cs.length) (h' : i < qs.length), (k.id = cs[i].id ∧ k.rs = cs[i].reps ∧ k.ds = cs[i].defs ∧ k.vs = cs[i].vals ∧ k.Cap) ∧ k.At W ∧ qs[i] = (.slice k.ra k.rs.length k.rc, .slice k.da k.ds.length k.dc, .slice k.va k.vs.length k.vc)) := fun i hi => by
  obtain ⟨k, h0, h1, h2, h3, h4, h5, h6⟩ := (hq i hi (by omega)).cl
  exact ⟨k, fun _ _ => ⟨⟨h0, h1, h2, h3, h4⟩, h5, h6⟩⟩
 obtain ⟨f, hf⟩ := Deep.choose_lt each
 obtain ⟨a, c, e⟩ := own_sl hr
 refine ⟨a, c, (List.range cs.length).map f, by simp, by rw [e]; simp, fun j hj => ?_, fun j hj hj' => ?_⟩
 · have hj2 : j < cs.length := by simpa using hj
   obtain ⟨⟨h0, _⟩, h1, h2⟩ := hf j hj2 hj2 (by omega)
   have ek : ((List.range cs.length).map f)[j] = f j := by simp
   rw [ek]
   refine ⟨?_, h1⟩
   rcases hr.2 with ⟨_, hz⟩ | ⟨g, cap, cur, hv, rest⟩
   · omega
   · rw [e] at hv
     injection hv with ha _ _
     have hc : ∀ i u, (colC cs[j] (qs[j]'(by omega)))[i]? = some u → i < 4 → W.cell? ⟨g, 0 + j * 4 + i, none⟩ = some u := fun i u hu hi => by
      have h1 := hr.cells (g := g) (by rw [e, ha]; rfl) (j * 4 + i) u (by rw [zip4_at cs qs j i hl hi hj2 (by omega)]; exact hu)
      rw [addr_plus] at h1
      rw [Nat.add_assoc]
      exact h1
     rw [h2] at hc
     have c0 := hc 0 _ rfl (by omega)
     have c1 := hc 1 _ rfl (by omega)
     have c2 := hc 2 _ rfl (by omega)
     have c3 := hc 3 _ rfl (by omega)
     rw [← h0] at c0
     exact ⟨g, 0, ha, c0, c1, c2, c3⟩
 · have hj2 : j < cs.length := by simpa using hj
   have ek : ((List.range cs.length).map f)[j] = f j := by simp
   rw [ek]
   exact (hf j hj2 hj2 (by omega)).1
structure SameC (c k : Cl) : Prop where
 id : k.id = c.id
 rs : k.rs = c.rs
 ds : k.ds = c.ds
 vs : k.vs = c.vs
 cap : k.rs.length ≤ k.rc ∧ k.ds.length ≤ k.dc ∧ k.vs.length ≤ k.vc
theorem ownColumn_cl (c : Cl) (W : World) (mr : c.rs.length ≤ 20000) (md : c.ds.length ≤ 20000) (mv : c.vs.length ≤ 20000) (h : c.At W) :
    Calls Tryz.prog 19 #[.agg #[.int .i64 c.id, .slice c.ra c.rs.length c.rc, .slice c.da c.ds.length c.dc, .slice c.va c.vs.length c.vc]] W fun e w' => (∃ k : Cl, e = .returned (.agg #[.int .i64 k.id, .slice k.ra k.rs.length k.rc, .slice k.da k.ds.length k.dc, .slice k.va k.vs.length k.vc]) ∧ k.At w' ∧ k.Fr W.heap.size ∧ SameC c k) ∧ Below W.heap.size W w' :=
 (ownColumn_any c.id c.ra c.da c.va c.rc c.dc c.vc c.rs c.ds c.vs W mr md mv h.r h.d h.v).mono fun e w' h => by
  obtain ⟨⟨ra, rc, da, dc, va, vc, rfl, h1, h2, h3, h4, h5, h6, h7⟩, hb⟩ := h
  exact ⟨⟨⟨c.id, ra, c.rs, rc, da, c.ds, dc, va, c.vs, vc⟩, rfl, ⟨h1, h2, h3⟩, ⟨h5, h6, h7⟩, rfl, rfl, rfl, rfl, h4⟩, hb⟩
def clvC (k : Cl) : List Value := [.int .i64 k.id, .slice k.ra k.rs.length k.rc, .slice k.da k.ds.length k.dc, .slice k.va k.vs.length k.vc]
def clCs (ks : List Cl) : List Value := ks.flatMap clvC
theorem clCs_at (ks : List Cl) (j : Nat) (h : j < ks.length) : (clCs ks)[j * 4]? = some (.int .i64 ks[j].id) ∧ (clCs ks)[j * 4 + 1]? = some (.slice ks[j].ra ks[j].rs.length ks[j].rc) ∧ (clCs ks)[j * 4 + 2]? = some (.slice ks[j].da ks[j].ds.length ks[j].dc) ∧ (clCs ks)[j * 4 + 3]? = some (.slice ks[j].va ks[j].vs.length ks[j].vc) := by
 induction ks generalizing j with
 | nil => simp at h
 | cons k ks ih =>
  have hc : clCs (k :: ks) = clvC k ++ clCs ks := by simp [clCs]
  cases j with
  | zero => rw [hc]; simp [clvC]
  | succ j =>
   have := ih j (by simpa using h)
   have e1 : (j + 1) * 4 = j * 4 + 4 := by omega
   have e2 : (j + 1) * 4 + 1 = j * 4 + 1 + 4 := by omega
   have e3 : (j + 1) * 4 + 2 = j * 4 + 2 + 4 := by omega
   have e4 : (j + 1) * 4 + 3 = j * 4 + 3 + 4 := by omega
   rw [hc, e2, e3, e4, e1]
   rw [List.getElem?_append_right (by simp [clvC]), List.getElem?_append_right (by simp [clvC]), List.getElem?_append_right (by simp [clvC]), List.getElem?_append_right (by simp [clvC])]
   simpa [clvC] using this
def Agr (w : World) (v : Value) (X : World) : Prop := ∀ k, k < w.heap.size → some k ≠ v.ownBlock → X.heap[k]? = w.heap[k]?
theorem at_agr {w X : World} {v : Value} {k : Cl} (h : k.At w) (hX : Agr w v X) (hne : ∀ p, (k.ra = some p ∨ k.da = some p ∨ k.va = some p) → some p.block ≠ v.ownBlock) : k.At X := by
 refine ⟨fun j hj => ?_, fun j hj => ?_, fun j hj => ?_⟩
 · obtain ⟨b, o, e, hc⟩ := h.r j hj
   exact ⟨b, o, e, by rw [World.cell?_of_block (hX b (World.block_lt_of_cell? w _ hc) (hne _ (.inl e)))]; exact hc⟩
 · obtain ⟨b, o, e, hc⟩ := h.d j hj
   exact ⟨b, o, e, by rw [World.cell?_of_block (hX b (World.block_lt_of_cell? w _ hc) (hne _ (.inr (.inl e))))]; exact hc⟩
 · obtain ⟨b, o, e, h0, h1, h2⟩ := h.v j hj
   have hb := hX b (World.block_lt_of_cell? w _ h0) (hne _ (.inr (.inr e)))
   exact ⟨b, o, e, by rw [World.cell?_of_block hb]; exact h0, by rw [World.cell?_of_block hb]; exact h1, by rw [World.cell?_of_block hb]; exact h2⟩
structure OwC (W : World) (cs : List Cl) (i : Nat) (v : Value) (ks : List Cl) (wr : World) : Prop where
 len : ks.length = i
 row : wr.ownsRow W.heap.size 50 4 v ks.length (clCs ks)
 old : Below W.heap.size W wr
 same : ∀ j (h : j < ks.length) (h' : j < cs.length), SameC cs[j] ks[j]
 at_ : ∀ j (h : j < ks.length) X, Agr wr v X → ks[j].At X
theorem OwC.next {W : World} {cs : List Cl} {i : Nat} {v v' : Value} {ks : List Cl} {wr w1 w2 w3 : World} {k : Cl} (h : OwC W cs i v ks wr) (hb : Below wr.heap.size wr w1) (hk : k.At w1) (hf : k.Fr wr.heap.size) (hs : ∀ h' : i < cs.length, SameC cs[i] k)
    (hw2 : Below w1.heap.size w1 w2) (hown : w3.ownsRow W.heap.size 50 4 v' (ks.length + 1) (clCs ks ++ clvC k)) (hg : w2.grownBy w3 v.ownBlock) (hw : v'.ownBlock = v.ownBlock ∨ v'.ownBlock = some w2.heap.size) : OwC W cs (i + 1) v' (ks ++ [k]) w3 := by
 have h12 : Below wr.heap.size wr w2 := hb.trans (hw2.mono hb.size)
 have hagr : ∀ X, Agr w3 v' X → Agr w2 v X := fun X hX b hbl hne => by
  rw [← hg.block b hbl hne]
  refine hX b (Nat.lt_of_lt_of_le hbl hg.size) fun e => ?_
  rcases hw with e2 | e2
  · rw [e2] at e; exact hne e
  · rw [e2] at e; injection e with e; omega
 refine ⟨by simp [h.len], ?_, ?_, fun j hj hj' => ?_, fun j hj X hX => ?_⟩
 · rw [List.length_append, show clCs (ks ++ [k]) = clCs ks ++ clvC k by simp [clCs]]
   exact hown
 · exact (h.old.trans (h12.mono h.old.size)).grown hg (Nat.le_trans h.old.size h12.size) fun b hbe => (own_block h.row hbe).1
 · by_cases hl : j < ks.length
   · rw [List.getElem_append_left hl]; exact h.same j hl hj'
   · have e : j = i := by have := h.len; simp at hj; omega
     subst e
     have : (ks ++ [k])[j] = k := by rw [List.getElem_append_right (by omega)]; simp
     rw [this]; exact hs hj'
 · have hX2 := hagr X hX
   by_cases hl : j < ks.length
   · rw [List.getElem_append_left hl]
     exact h.at_ j hl X fun b hbl hne => (hX2 b (Nat.lt_of_lt_of_le hbl h12.size) hne).trans (h12.block b hbl)
   · have : (ks ++ [k])[j] = k := by rw [List.getElem_append_right (by omega)]; simp
     rw [this]
     refine at_agr (hk.keep hw2) hX2 fun p hp e => ?_
     have h1 := (own_block h.row e.symm).2.1
     rcases hp with e | e | e
     · have := hf.r p e; omega
     · have := hf.d p e; omega
     · have := hf.v p e; omega
set_option maxRecDepth 100000 in
set_option maxHeartbeats 3200000 in
theorem ownColumns_any (a : Option Addr) (c : Nat) (cs : List Cl) (W : World) (hn : cs.length ≤ 1000) (hca : ∀ j (h : j < cs.length), cs[j].rs.length ≤ 20000 ∧ cs[j].ds.length ≤ 20000 ∧ cs[j].vs.length ≤ 20000) (hl : LiesC W a cs) :
    Calls Tryz.prog 11 #[.slice a cs.length c] W fun e w' => (∃ a' c' ks, e = .returned (.slice a' ks.length c') ∧ LiesC w' a' ks ∧ ks.length = cs.length ∧ ∀ j (h : j < ks.length) (h' : j < cs.length), SameC cs[j] ks[j]) ∧ Below W.heap.size W w' := by
 obtain ⟨iv, hvi, hv0, hv1, hv2⟩ := info_parts Tryz.infoC
 have HL : Hid (LiesC W a cs) := hl
 have HCA : Hid _ := hca
 clear hl hca
 go_enter Tryz.func11, Tryz.ntmps11
 go_wp2
 go_loopw [3, 4] (fun v x wr => ∃ (i : Nat) (ks : List Cl), i ≤ cs.length ∧ x = .int .i64 i ∧ Hid (OwC W cs i v ks wr)) (fun _ x _ => cs.length - (intOf x).toNat)
 case atStart => exact ⟨0, [], Nat.zero_le _, rfl, rfl, World.ownsRow_nil W W.heap.size 50 4, Below.refl _ _, fun j h => absurd h (by simp), fun j h => absurd h (by simp)⟩
 case round =>
  obtain ⟨i, ks, hi, rfl, HI⟩ := hrel
  obtain ⟨va, vc, rfl⟩ := own_slC HI.out.row
  by_cases hlt : i < cs.length
  · obtain ⟨⟨b, o, rfl, c0, c1, c2, c3⟩, hat⟩ := (HL.out.keep HI.out.old) i hlt
    obtain ⟨hc1, hc2, hc3⟩ := HCA.out i hlt
    have HO : Hid _ := ownColumn_cl cs[i] wr hc1 hc2 hc3 hat
    clear hat
    go_wp2_with fail
    refine Calls.mono HO.out ?_
    rintro e w1 ⟨⟨k, rfl, kat, kfr, ksm⟩, hb1⟩
    have HKA : Hid _ := kat
    have HKF : Hid _ := kfr
    have HKS : Hid _ := ksm
    have HB1 : Hid _ := hb1
    clear kat kfr ksm hb1
    go_wp2_with (at_builtin; (refine wpList_append_any _ rfl _ _ 30 rfl W.heap.size 50 iv (.agg #[.int .i64 0, .slice none 0 0, .slice none 0 0, .slice none 0 0]) 4 80 Tryz.underlying30 hvi hv0 hv1 hv2 rfl (by decide) _ _ (clCs ks) rfl (ow_kept HI.out.row (HB1.out.alloc HB1.out.size _)) (some ⟨w1.heap.size, 0, none⟩) 1 1 (clvC k) rfl (by simp [clvC]) (fun j u hu => ⟨_, rfl, by have h := cell_of_row (w1.alloc (.cells #[.int .i64 k.id, .slice k.ra k.rs.length k.rc, .slice k.da k.ds.length k.dc, .slice k.va k.vs.length k.vc] 50)) w1.heap.size j _ _ _ (heap_alloc_new _ _); rw [addr_add, Nat.zero_add, h, ← hu]; simp [clvC]⟩) (by intro u hu; simp [clvC] at hu; rcases hu with rfl | rfl | rfl | rfl <;> rfl) (by have h9 := HI.out.len; unfold maxLen; omega) (by have h9 := HI.out.len; omega) (by have h1 := HI.out.old.size; have h2 := HB1.out.size; simp; omega) ?_); intro v2 w2 hown2 hg2 hw2)
    have HN : Hid _ := HI.out.next HB1.out HKA.out HKF.out (fun _ => HKS.out) ((Below.refl _ _).alloc (Nat.le_refl _) _) hown2 hg2 hw2
    clear hown2 hg2 hw2
    go_wp2
    go_roundw
    case rel => exact ⟨i + 1, _, by omega, by go_num, HN⟩
    case measure => simp [intOf]; omega
  · obtain rfl : i = cs.length := by omega
    have hlen := HI.out.len
    go_wp2
    go_ret
    refine ⟨⟨va, vc, ks, rfl, fun j hj => ⟨?_, HI.out.at_ j hj _ fun _ _ _ => rfl⟩, hlen, HI.out.same⟩, HI.out.old⟩
    rcases HI.out.row.2 with ⟨_, h0⟩ | ⟨g, cap, cur, he, _⟩
    · omega
    · obtain ⟨h0, h1, h2, h3⟩ := clCs_at ks j hj
      injection he with he _ _
      subst he
      have e0 := HI.out.row.cells (g := g) rfl _ _ h0
      have e1 := HI.out.row.cells (g := g) rfl _ _ h1
      have e2 := HI.out.row.cells (g := g) rfl _ _ h2
      have e3 := HI.out.row.cells (g := g) rfl _ _ h3
      rw [addr_up] at e0 e1 e2 e3
      exact ⟨g, 0, rfl, e0, by rw [Nat.add_assoc]; exact e1, by rw [Nat.add_assoc]; exact e2, by rw [Nat.add_assoc]; exact e3⟩
end Go.Proofs.YteonbmaokphleaaGreatDoor
