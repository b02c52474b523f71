/-
  assemble's branches in memory; what the closures answer; take.
  assemble: take; nothing.
  assemble: nothing is there of a node.
  assemble: rows of data that are filled while readers read; the fields' readers.
-/
import Derived.Test.YteonbmaokphleaaGreatDoorHBStBase
import Derived.Test.YteonbmaokphleaaGreatDoorHBOwnDt
import Derived.Deep.RegionLaw
import Derived.Deep.DeepCutAuto
namespace Go.Proofs.YteonbmaokphleaaGreatDoor
open Go.RowKit
def dfN (t : Tr) (df : Nat) : Nat := if t.rep = 1 then df else df + 1
def lsN (t : Tr) (ls : Nat) : Nat := if t.rep = 3 then ls + 1 else ls
inductive BrAt (w : World) : Nat → Tr → Nat → Nat → List Nat → Prop where
 | leaf (b : Nat) (t : Tr) (df ls g : Nat) (ra : Option Addr) (rc : Nat) (hk : t.kind ≠ 0) (cell : w.heap[b]? = some (.cells #[.int .i64 t.rep, .int .i64 (df : Nat), .int .i64 (lsN t ls : Nat), .slice none 0 0, .slice ra 1 rc] 105 (0, 0))) (hr : Lies w ra (ptrs [g])) : BrAt w b t df ls [g]
 | group (b : Nat) (t : Tr) (df ls : Nat) (fa : Option Addr) (fc : Nat) (ra : Option Addr) (rc : Nat) (FB : Nat → Nat) (FG : Nat → List Nat) (G : List Nat) (hk : t.kind = 0) (h0 : 0 < t.sub.length) (cell : w.heap[b]? = some (.cells #[.int .i64 t.rep, .int .i64 (df : Nat), .int .i64 (lsN t ls : Nat), .slice fa t.sub.length fc, .slice ra G.length rc] 105 (0, 0))) (hf : Lies w fa (ptrs ((List.range t.sub.length).map FB))) (each : ∀ j (h : j < t.sub.length), BrAt w (FB j) t.sub[j] (dfN t df) (lsN t ls) (FG j)) (hr : Lies w ra (ptrs G)) (hG : G = (List.range t.sub.length).flatMap FG) : BrAt w b t df ls G
def BrB (w : World) (k : Nat) : Prop := (∃ cs z, w.heap[k]? = some (.cells cs 105 z)) ∨ ∃ o a, w.cell? ⟨k, o, none⟩ = some (.pointer a)
theorem ptrs_stay {w w' : World} {a : Option Addr} {G : List Nat} (h : Lies w a (ptrs G)) (hs : ∀ k, k < w.heap.size → BrB w k → w'.heap[k]? = w.heap[k]?) : Lies w' a (ptrs G) := fun j hj => by
 obtain ⟨b, o, e, hc⟩ := h j hj
 refine ⟨b, o, e, cell_stay hc (hs b (World.block_lt_of_cell? w _ hc) (.inr ⟨o + j, ?_⟩))⟩
 rw [ptrs_len] at hj
 rw [ptrs_at G j _ hj] at hc
 exact ⟨_, hc⟩
theorem BrAt.stay {w w' : World} {b : Nat} {t : Tr} {df ls : Nat} {G : List Nat} (hs : ∀ k, k < w.heap.size → BrB w k → w'.heap[k]? = w.heap[k]?) (h : BrAt w b t df ls G) : BrAt w' b t df ls G := by
 induction h with
 | leaf b t df ls g ra rc hk cell hr => exact .leaf b t df ls g ra rc hk ((hs b (lt_of_block cell) (.inl ⟨_, _, cell⟩)).trans cell) (ptrs_stay hr hs)
 | group b t df ls fa fc ra rc FB FG G hk h0 cell hf each hr hG ih => exact .group b t df ls fa fc ra rc FB FG G hk h0 ((hs b (lt_of_block cell) (.inl ⟨_, _, cell⟩)).trans cell) (ptrs_stay hf hs) ih (ptrs_stay hr hs) hG
theorem BrAt.kept {w w' : World} {b : Nat} {t : Tr} {df ls : Nat} {G : List Nat} (h : BrAt w b t df ls G) (hb : Below w.heap.size w w') : BrAt w' b t df ls G := h.stay fun k hk _ => hb.block k hk
theorem RdL.noB {w : World} {N g : Nat} {rem : List Ent} (h : RdL w N g rem) : ¬ BrB w g := by
 obtain ⟨c, done, h⟩ := h
 rintro (⟨cs, z, e⟩ | ⟨o, a, e⟩)
 · rw [h.cell] at e
   injection e with e
   injection e with _ e _
   exact absurd e (by decide)
 · unfold World.cell? at e
   rw [h.cell] at e
   simp only at e
   rcases o with _ | _ | _ | _ | _ | _ | o <;> simp at e
def RdAll (w : World) (N : Nat) (G : List Nat) (R : List (List Ent)) : Prop := G.length = R.length ∧ ∀ j (h : j < G.length) (h' : j < R.length), RdL w N G[j] R[j]
theorem RdAll.mem {w : World} {N : Nat} {G : List Nat} {R : List (List Ent)} (h : RdAll w N G R) : ∀ g ∈ G, ∃ rem, RdL w N g rem := fun g hg => by
 obtain ⟨j, hj, rfl⟩ := List.getElem_of_mem hg
 exact ⟨_, h.2 j hj (by rw [← h.1]; exact hj)⟩
theorem RdL.hi {w : World} {N g : Nat} {rem : List Ent} (h : RdL w N g rem) : N ≤ g ∧ g < w.heap.size := by
 obtain ⟨c, done, h⟩ := h
 exact ⟨h.hi, lt_of_block h.cell⟩
theorem RdAll.below {w w' : World} {N : Nat} {G : List Nat} {R : List (List Ent)} (h : RdAll w N G R) (hb : Below w.heap.size w w') : RdAll w' N G R := ⟨h.1, fun j h1 h2 => (h.2 j h1 h2).below hb⟩
theorem BrAt.fr {w w' : World} {b : Nat} {t : Tr} {df ls N : Nat} {G H : List Nat} {R : List (List Ent)} (h : BrAt w b t df ls G) (hf : AFr H w w') (hH : RdAll w N H R) : BrAt w' b t df ls G := h.stay fun k hk hb => hf.keep k hk fun hm => by
 obtain ⟨rem, h2⟩ := hH.mem k hm
 exact h2.noB hb
theorem RdL.fr {w w' : World} {N g : Nat} {rem : List Ent} {H : List Nat} (h : RdL w N g rem) (hf : AFr H w w') (hg : g ∉ H) (hH : ∀ k ∈ H, N ≤ k) : RdL w' N g rem := h.keep (hf.keep g h.hi.2 hg) (fun b hb => hf.keep b (by have := h.hi; omega) (fun hm => by have := hH b hm; omega))
theorem BrAt.len {w : World} {b : Nat} {t : Tr} {df ls : Nat} {G : List Nat} (h : BrAt w b t df ls G) : G.length = lvC t := by
 induction h with
 | leaf b t df ls g ra rc hk cell hr => rw [lvC_eq, if_neg hk]; rfl
 | group b t df ls fa fc ra rc FB FG G hk h0 cell hf each hr hG ih =>
  rw [lvC_eq, if_pos hk, hG]
  have hx : ∀ n, n ≤ t.sub.length → ((List.range n).flatMap FG).length = lvCL (t.sub.take n) := by
   intro n
   induction n with
   | zero => intro _; simp [lvCL]
   | succ n ihn =>
    intro hn
    rw [List.range_succ, List.flatMap_append, List.length_append, ihn (by omega), List.take_succ_eq_append_getElem (by omega), lvCL_app]
    simp [lvCL, ih n (by omega)]
  rw [hx t.sub.length (Nat.le_refl _), List.take_length]
set_option maxRecDepth 100000 in
set_option maxHeartbeats 1600000 in
theorem clE (N g : Nat) (rem : List Ent) (v : Bool) (hv : v = !decide (rem = [])) (W : World) (h : RdL W N g rem) :
    Calls Tryz.prog (52) #[.pointer (some ⟨g, 0, none⟩)] W fun e w' => e = .returned (.bool v) ∧ Below W.heap.size W w' := by
 have HE : Hid _ := ended_any N g rem W h
 obtain ⟨b, HBb⟩ := hid_name (decide (rem = []))
 rw [HBb.out] at HE hv
 subst hv
 clear h
 go_enter Tryz.func52, Tryz.ntmps52
 go_wp2_with fail
 refine Calls.mono HE.out ?_
 rintro e w1 ⟨rfl, k, rfl⟩
 go_wp2
 go_ret
 exact ⟨rfl, below_dN (Below.refl _ _) k⟩
theorem row_fiveB {w : World} {g e : Nat} {x0 x1 x2 x3 x4 : Value} (h : w.heap[g]? = some (.cells #[x0, x1, x2, x3, x4] e (0, 0))) : w.cell? ⟨g, 0, none⟩ = some x0 ∧ w.cell? ⟨g, 1, none⟩ = some x1 ∧ w.cell? ⟨g, 2, none⟩ = some x2 ∧ w.cell? ⟨g, 3, none⟩ = some x3 ∧ w.cell? ⟨g, 4, none⟩ = some x4 := (row_five h).1
set_option maxRecDepth 100000 in
set_option maxHeartbeats 1600000 in
theorem clI (N b g df : Nat) (x : Ent) (r : List Ent) (v : Bool) (hv : v = decide ((df : Int) < x.dfn)) (W : World) (hb : W.cell? ⟨b, 1, none⟩ = some (.int .i64 (df : Nat))) (h : RdL W N g (x :: r)) :
    Calls Tryz.prog (120) #[.pointer (some ⟨b, 0, none⟩), .pointer (some ⟨g, 0, none⟩)] W fun e w' => e = .returned (.bool v) ∧ Below W.heap.size W w' := by
 have HC : Hid (∀ n, Calls Tryz.prog (131) #[.pointer (some ⟨g, 0, none⟩)] (W.drewN n) fun e w' => e = .returned (.int .i64 x.dfn) ∧ ∃ m, w' = (W.drewN n).drewN m) := fun n => adef_any N g x r (W.drewN n) (h.below (below_dN (Below.refl _ _) n))
 obtain ⟨y, HY⟩ := hid_name x.dfn
 rw [HY.out] at HC hv
 have q : decide ((df : Int) < y) = v := hv.symm
 clear h hv
 go_enter Tryz.func120, Tryz.ntmps120
 go_wp2_with fail
 go_quiet ((go_at_call 131; exact Calls.quiet_of (HC.out _)))
 go_wp2
 go_ret
 exact ⟨rfl, below_dN (Below.refl _ _) _⟩
set_option maxRecDepth 100000 in
set_option maxHeartbeats 1600000 in
theorem clL (N b q g ls : Nat) (rem : List Ent) (v : Bool) (hv : v = decide (hdR rem = (ls : Int))) (W : World) (hq : W.cell? ⟨q, 0, none⟩ = some (.pointer (some ⟨b, 0, none⟩))) (hb : W.cell? ⟨b, 2, none⟩ = some (.int .i64 (ls : Nat))) (h : RdL W N g rem) :
    Calls Tryz.prog (133) #[.pointer (some ⟨g, 0, none⟩), .pointer (some ⟨q, 0, none⟩)] W fun e w' => e = .returned (.bool v) ∧ Below W.heap.size W w' := by
 have HC : Hid (∀ n, Calls Tryz.prog (132) #[.pointer (some ⟨g, 0, none⟩)] (W.drewN n) fun e w' => e = .returned (.int .i64 (hdR rem)) ∧ ∃ m, w' = (W.drewN n).drewN m) := fun n => arep_any N g rem (W.drewN n) (h.below (below_dN (Below.refl _ _) n))
 obtain ⟨y, HY⟩ := hid_name (hdR rem)
 rw [HY.out] at HC hv
 have q1 : (y == (ls : Int)) = v := by rw [hv, Bool.eq_iff_iff, beq_iff_eq, decide_eq_true_iff]
 clear h hv
 go_enter Tryz.func133, Tryz.ntmps133
 go_wp2_with fail
 go_quiet ((go_at_call 132; exact Calls.quiet_of (HC.out _)))
 go_wp2
 go_ret
 exact ⟨rfl, below_dN (Below.refl _ _) _⟩
set_option maxRecDepth 100000 in
set_option maxHeartbeats 1600000 in
theorem pass_raw (g : Nat) (x0 x1 x2 x3 x5 : Value) (n : Nat) (hn : n ≤ 20000) (W : World) (h : W.heap[g]? = some (.cells #[x0, x1, x2, x3, .int .i64 (n : Nat), x5] 109 (0, 0))) :
    Calls Tryz.prog (119) #[.pointer (some ⟨g, 0, none⟩)] W fun e w' => e = .returned (.tuple #[]) ∧ w' = W.setCell ⟨g, 4, none⟩ (.int .i64 ((n : Int) + 1)) := by
 obtain ⟨p0, p1, p2, p3, p4, p5⟩ := row_six h
 obtain ⟨f4, f5⟩ := row_sixG h
 clear h
 go_enter Tryz.func119, Tryz.ntmps119
 go_wp2
 go_end0
 exact ⟨rfl, rfl⟩
theorem row_threeX {w : World} {g e : Nat} {x0 x1 x2 : Value} (h : w.heap[g]? = some (.cells #[x0, x1, x2] e (0, 0))) : (w.cell? ⟨g, 0, none⟩ = some x0 ∧ w.cell? ⟨g, 1, none⟩ = some x1 ∧ w.cell? ⟨g, 2, none⟩ = some x2) ∧ w.frozen? ⟨g, 0, none⟩ = false ∧ w.frozen? ⟨g, 1, none⟩ = false ∧ w.frozen? ⟨g, 2, none⟩ = false := by
 refine ⟨⟨cell_of_row w g 0 _ _ _ h, cell_of_row w g 1 _ _ _ h, cell_of_row w g 2 _ _ _ h⟩, ?_, ?_, ?_⟩ <;> simp [World.frozen?, h]
set_option maxRecDepth 100000 in
set_option maxHeartbeats 6400000 in
theorem atake_any (N g : Nat) (x : Ent) (v : Vl) (t : List Ent) (hv : x.v = some v) (W : World) (h : RdL W N g (x :: t)) :
    Calls Tryz.prog (82) #[.pointer (some ⟨g, 0, none⟩)] W fun e w' => e = .returned (.agg #[.int .i64 v.k, .int .i64 v.n, .string v.s]) ∧ RdL w' N g t ∧ AFr [g] W w' := by
 obtain ⟨c, done, h⟩ := h
 have hglt := lt_of_block h.cell
 obtain ⟨p0, p1, p2, p3, p4, p5⟩ := row_six h.cell
 have hlen : done.length ≤ 20000 := by have := h.len; rw [List.length_append] at this; omega
 have hve : c.vs = eV done ++ (v :: eV t) := by
  rw [h.v]
  unfold eV
  rw [List.filterMap_append, List.filterMap_cons]
  simp [hv]
 have hvl : (eV done).length < c.vs.length := by rw [hve]; simp
 have hvn : c.vs.length ≤ 20000 := by
  rw [h.v]
  have := List.length_filterMap_le Ent.v (done ++ (x :: t))
  have h2 := h.len
  unfold eV
  omega
 obtain ⟨b, o, hva, hc0, hc1, hc2⟩ := h.col.v (eV done).length hvl
 have hx : c.vs[(eV done).length] = v := by simp [hve]
 rw [hx] at hc0 hc1 hc2
 rw [hva] at p3
 obtain ⟨w0, HW0, HX, HB⟩ := one_box W #[.int .i64 0, .int .i64 0, .string ⟨#[]⟩] 54
 have kp : ∀ (ad : Addr) (u : Value), W.cell? ad = some u → w0.cell? ad = some u := fun ad u hu => (HB.out.cell (World.block_lt_of_cell? W _ hu)).trans hu
 have HRS : Hid (RdS W N g c done (x :: t)) := h
 replace p0 := kp _ _ p0
 replace p1 := kp _ _ p1
 replace p2 := kp _ _ p2
 replace p3 := kp _ _ p3
 replace p4 := kp _ _ p4
 replace p5 := kp _ _ p5
 replace hc0 := kp _ _ hc0
 replace hc1 := kp _ _ hc1
 replace hc2 := kp _ _ hc2
 obtain ⟨m, HM⟩ := hid_name (eV done).length
 rw [HM.out] at p5 hc0 hc1 hc2 hvl
 have q0 : (0 : Int) ≤ (m : Int) := by omega
 have q1 : (m : Int) < (c.vs.length : Int) := by omega
 have ka : ∀ (ad : Addr) (u : Value), w0.cell? ad = some u → ∀ ob : Obj, (w0.alloc ob).cell? ad = some u := fun ad u hu ob => (((Below.refl w0.heap.size w0).alloc (Nat.le_refl _) ob).cell (World.block_lt_of_cell? w0 _ hu)).trans hu
 have a3 := ka _ _ p3
 have a5 := ka _ _ p5
 have b0 := ka _ _ hc0
 have b1 := ka _ _ hc1
 have b2 := ka _ _ hc2
 clear h hve hx hva kp ka
 go_enter Tryz.func82, Tryz.ntmps82
 go_upto_region 1 with fail
 rw [HW0.out]
 go_cut [3] (fun x wx => x = .pointer (some ⟨w0.heap.size, 0, none⟩) ∧ Hid (wx = (w0.alloc (.cells #[.int .i64 v.k, .int .i64 v.n, .string v.s] 54)).drew))
 case first =>
  go_region_law (fail)
  all_goals (go_wp2; go_meet; exact ⟨rfl, rfl⟩)
 case rest =>
  obtain ⟨rfl, HWx⟩ := hcut
  rename World => wx
  have h0 := HRS.out
  have hb2 : Below w0.heap.size w0 wx := by rw [HWx.out]; exact ((Below.refl _ _).alloc (Nat.le_refl _) _).drew
  have hw0s : W.heap.size < w0.heap.size := lt_of_block HX.out
  have HB2 : Hid (Below W.heap.size W wx) := HB.out.trans (hb2.mono (by omega))
  have HX2 : Hid _ := blk_keep hb2 HX.out
  have HY2 : Hid (wx.heap[w0.heap.size]? = some (.cells #[.int .i64 v.k, .int .i64 v.n, .string v.s] 54 (0, 0))) := (by
   show wx.heap[_]? = _
   rw [HWx.out]
   exact heap_alloc_new w0 _)
  have HG2 : Hid _ := blk_keep HB2.out h0.cell
  have hgne : g ≠ W.heap.size := by omega
  obtain ⟨q, HQ⟩ := hid_name w0.heap.size
  rw [HQ.out] at HY2
  have hgq : g < q := by have := HQ.out; omega
  have hwq : W.heap.size < q := by have := HQ.out; omega
  clear p0 p1 p2 p3 p4 p5 hc0 hc1 hc2 a3 a5 b0 b1 b2 hb2 HWx h0
  obtain ⟨p0, p1, p2, p3, p4, p5⟩ := row_six HG2.out
  rw [HM.out] at p5
  obtain ⟨f4, f5⟩ := row_sixG HG2.out
  have st5 : ∀ b, b ≠ g → (wx.setCell ⟨g, 5, none⟩ (.int .i64 ((m : Int) + 1))).heap[b]? = wx.heap[b]? := fun b hb => Below.heap_setCell wx ⟨g, 5, none⟩ _ b hb
  have HG3 : Hid ((wx.setCell ⟨g, 5, none⟩ (.int .i64 ((m : Int) + 1))).heap[g]? = some (.cells #[.int .i64 c.id, .slice c.ra c.rs.length c.rc, .slice c.da c.ds.length c.dc, .slice c.va c.vs.length c.vc, .int .i64 (done.length : Nat), .int .i64 ((m : Int) + 1)] 109 (0, 0))) := row_setC HG2.out
  have HX3 : Hid _ := (st5 W.heap.size (by omega)).trans HX2.out
  have HY3 : Hid _ := (st5 q (by omega)).trans HY2.out
  have HF3 : Hid (AFr [g] W (wx.setCell ⟨g, 5, none⟩ (.int .i64 ((m : Int) + 1)))) := (AFr.of_below HB2.out).setIn (by simp)
  obtain ⟨w3, HW3⟩ := hid_name (wx.setCell ⟨g, 5, none⟩ (.int .i64 ((m : Int) + 1)))
  rw [HW3.out] at HG3 HX3 HY3 HF3
  have HP : Hid _ := pass_raw g _ _ _ _ _ done.length hlen w3 HG3.out
  clear st5
  rw [HQ.out]
  go_upto_region 3 with fail
  rw [HW3.out]
  clear p0 p1 p2 p3 p4 p5 f4 f5
  go_wp2_with fail
  refine Calls.mono HP.out ?_
  rintro e w4 ⟨rfl, hw4⟩
  have st4 : ∀ b, b ≠ g → w4.heap[b]? = w3.heap[b]? := fun b hb => by rw [hw4]; exact Below.heap_setCell w3 ⟨g, 4, none⟩ _ b hb
  have HG4 : Hid (w4.heap[g]? = some (.cells #[.int .i64 c.id, .slice c.ra c.rs.length c.rc, .slice c.da c.ds.length c.dc, .slice c.va c.vs.length c.vc, .int .i64 ((done.length : Int) + 1), .int .i64 ((m : Int) + 1)] 109 (0, 0))) := (by show w4.heap[g]? = _; rw [hw4]; exact row_setC HG3.out)
  have HX4 : Hid _ := (st4 W.heap.size (by omega)).trans HX3.out
  have HY4 : Hid _ := (st4 q (by omega)).trans HY3.out
  have HF4 : Hid (AFr [g] W w4) := (by rw [hw4]; exact HF3.out.setIn (by simp))
  clear st4 hw4
  obtain ⟨⟨z0, z1, z2⟩, y0, y1, y2⟩ := row_threeX HX4.out
  obtain ⟨⟨u0, u1, u2⟩, _⟩ := row_threeX HY4.out
  have sx : ∀ (X : World) (b : Nat) (v0 v1 v2 : Value), b ≠ W.heap.size → (((X.setCell ⟨W.heap.size, 0, none⟩ v0).setCell ⟨W.heap.size, 1, none⟩ v1).setCell ⟨W.heap.size, 2, none⟩ v2).heap[b]? = X.heap[b]? := fun X b v0 v1 v2 hb => by
   rw [Below.heap_setCell _ ⟨W.heap.size, 2, none⟩ _ b hb, Below.heap_setCell _ ⟨W.heap.size, 1, none⟩ _ b hb, Below.heap_setCell _ ⟨W.heap.size, 0, none⟩ _ b hb]
  have HRn : Hid (RdL (((w4.setCell ⟨W.heap.size, 0, none⟩ (.int .i64 v.k)).setCell ⟨W.heap.size, 1, none⟩ (.int .i64 v.n)).setCell ⟨W.heap.size, 2, none⟩ (.string v.s)) N g t) := (by
   have h := HRS.out
   have e : done ++ (x :: t) = (done ++ [x]) ++ t := by simp
   have hevl : (eV (done ++ [x])).length = m + 1 := by
    rw [← HM.out]
    unfold eV
    rw [List.filterMap_append]
    simp [hv]
   have hst : ∀ b, b < N → (((w4.setCell ⟨W.heap.size, 0, none⟩ (.int .i64 v.k)).setCell ⟨W.heap.size, 1, none⟩ (.int .i64 v.n)).setCell ⟨W.heap.size, 2, none⟩ (.string v.s)).heap[b]? = W.heap[b]? := fun b hb => by
    have := h.hi
    rw [sx _ _ _ _ _ (by omega)]
    exact HF4.out.keep b (by omega) (by simp; omega)
   refine ⟨c, done ++ [x], ?_, ⟨h.col.r.lw h.lw.r hst, h.col.d.lw h.lw.d hst, h.col.v.lw h.lw.v hst⟩, by rw [← e]; exact h.r, by rw [← e]; exact h.d, by rw [← e]; exact h.v, by rw [← e]; exact h.len, h.lw, h.hi⟩
   rw [sx _ _ _ _ _ hgne, HG4.out, hevl, List.length_append]
   rfl)
  have HFn : Hid (AFr [g] W (((w4.setCell ⟨W.heap.size, 0, none⟩ (.int .i64 v.k)).setCell ⟨W.heap.size, 1, none⟩ (.int .i64 v.n)).setCell ⟨W.heap.size, 2, none⟩ (.string v.s))) := ((HF4.out.setNew (Nat.le_refl _)).setNew (Nat.le_refl _)).setNew (Nat.le_refl _)
  clear sx
  go_wp2
  exact bodyPost_ret (v := .agg #[.int .i64 v.k, .int .i64 v.n, .string v.s]) (results_cell_row Tryz.results82 _ _ W.heap.size 54 #[.int .i64 v.k, .int .i64 v.n, .string v.s] (0, 0) _ rfl (row_setC (row_setC (row_setC HX4.out))) Tryz.underlying54 rfl (by kernel_rfl)) rfl ⟨rfl, HRn.out, HFn.out⟩
theorem BrAt.box {w : World} {b : Nat} {t : Tr} {df ls : Nat} {G : List Nat} (h : BrAt w b t df ls G) : ∃ fv ra rc, w.heap[b]? = some (.cells #[.int .i64 t.rep, .int .i64 (df : Nat), .int .i64 (lsN t ls : Nat), fv, .slice ra G.length rc] 105 (0, 0)) ∧ Lies w ra (ptrs G) ∧ (∃ fa n fc, fv = .slice fa n fc ∧ (n = 0 ↔ t.kind ≠ 0)) := by
 cases h with
 | leaf b t df ls g ra rc hk cell hr => exact ⟨_, ra, rc, cell, hr, none, 0, 0, rfl, by simp [hk]⟩
 | group b t df ls fa fc ra rc FB FG G hk h0 cell hf each hr hG => exact ⟨_, ra, rc, cell, hr, fa, _, fc, rfl, ⟨fun h => by omega, fun h => absurd hk h⟩⟩
theorem RdAll.lt {w : World} {N : Nat} {G : List Nat} {R : List (List Ent)} (h : RdAll w N G R) : ∀ g ∈ G, N ≤ g ∧ g < w.heap.size := fun g hg => by
 obtain ⟨rem, h2⟩ := h.mem g hg
 exact h2.hi
theorem sixK (x : World) (g b : Nat) (h : b ≠ g) (v0 v1 v2 v3 v4 v5 : Value) : ((((((x.setCell ⟨g, 0, none⟩ v0).setCell ⟨g, 1, none⟩ v1).setCell ⟨g, 2, none⟩ v2).setCell ⟨g, 3, none⟩ v3).setCell ⟨g, 4, none⟩ v4).setCell ⟨g, 5, none⟩ v5).heap[b]? = x.heap[b]? := by
 have st : ∀ (Y : World) (j : Nat) (v : Value), (Y.setCell ⟨g, j, none⟩ v).heap[b]? = Y.heap[b]? := fun Y j v => Below.heap_setCell Y ⟨g, j, none⟩ v b h
 rw [st, st, st, st, st, st]
theorem sixA {G : List Nat} {W x : World} {g : Nat} (h : AFr G W x) (hg : W.heap.size ≤ g) (v0 v1 v2 v3 v4 v5 : Value) : AFr G W ((((((x.setCell ⟨g, 0, none⟩ v0).setCell ⟨g, 1, none⟩ v1).setCell ⟨g, 2, none⟩ v2).setCell ⟨g, 3, none⟩ v3).setCell ⟨g, 4, none⟩ v4).setCell ⟨g, 5, none⟩ v5) := (((((h.setNew hg).setNew hg).setNew hg).setNew hg).setNew hg).setNew hg
theorem RdAll.six {w : World} {N g : Nat} {G : List Nat} {R : List (List Ent)} (h : RdAll w N G R) (hg : g ∉ G) (hN : N ≤ g) (v0 v1 v2 v3 v4 v5 : Value) : RdAll ((((((w.setCell ⟨g, 0, none⟩ v0).setCell ⟨g, 1, none⟩ v1).setCell ⟨g, 2, none⟩ v2).setCell ⟨g, 3, none⟩ v3).setCell ⟨g, 4, none⟩ v4).setCell ⟨g, 5, none⟩ v5) N G R := ⟨h.1, fun j h1 h2 => (h.2 j h1 h2).keep (sixK _ _ _ (fun e => hg (by rw [← e]; exact List.getElem_mem _)) _ _ _ _ _ _) (fun b hb => sixK _ _ _ (by omega) _ _ _ _ _ _)⟩
theorem RdAll.drew {w : World} {N : Nat} {G : List Nat} {R : List (List Ent)} (h : RdAll w N G R) (n : Nat) : RdAll (w.drewN n) N G R := h.below (below_dN (Below.refl _ _) n)
set_option maxRecDepth 100000 in
set_option maxHeartbeats 6400000 in
theorem nothing_any (t : Tr) (df ls b N : Nat) (G : List Nat) (rep : Int) (rest : List (List Ent)) (W : World) (hb : BrAt W b t df ls G) (hnd : G.Nodup) (hG : G.length ≤ 1000) (hls : ls ≤ 1000) (hrl : rest.length = G.length) (hR : RdAll W N G (zipA (absE t df rep) rest)) (hh : ∀ es ∈ rest, hdR es ≤ (ls : Int)) :
    Calls Tryz.prog (121) #[.pointer (some ⟨b, 0, none⟩)] W fun e w' => e = .returned (.tuple #[.agg #[.bool (!decide (t.rep = 3)), .int .i64 0, .int .i64 0, .string ⟨#[]⟩, .slice none 0 0, .slice none 0 0], .nilIface]) ∧ RdAll w' N G rest ∧ AFr G W w' := by
 obtain ⟨fv, ra, rc, hcell, hra, _⟩ := hb.box
 have hlen := hb.len
 have hlt := hR.lt
 have hGz : W.heap.size ∉ G := fun h => by have := hlt _ h; omega
 obtain ⟨w0, HW0, HX, HB⟩ := one_box W #[.bool false, .int .i64 0, .int .i64 0, .string ⟨#[]⟩, .slice none 0 0, .slice none 0 0] 56
 have hw0 : W.heap.size < w0.heap.size := lt_of_block HX.out
 have HSt : Hid (∀ j (h : j < G.length), RdL w0 N G[j] (⟨rep, (df : Int), none⟩ :: rest.getD j [])) := (by
  intro j h
  have h1 := hR.2 j h (by rw [← hR.1]; exact h)
  rw [zipA_at _ _ j _ (by unfold absE; rw [List.length_replicate, ← hlen]; exact h) (by omega)] at h1
  have e : (absE t df rep)[j]'(by unfold absE; rw [List.length_replicate, ← hlen]; exact h) = [⟨rep, (df : Int), none⟩] := by unfold absE; simp
  rw [e] at h1
  have e2 : rest.getD j [] = rest[j]'(by omega) := by simp [List.getD, show j < rest.length by omega]
  rw [e2]
  exact h1.below HB.out)
 have HRa : Hid (Lies w0 ra (ptrs G)) := hra.keep HB.out
 have HNd : Hid G.Nodup := hnd
 have HHd : Hid (∀ j, j < G.length → hdR (rest.getD j []) ≤ (ls : Int)) := fun j h => by
  have e2 : rest.getD j [] = rest[j]'(by omega) := by simp [List.getD, show j < rest.length by omega]
  rw [e2]
  exact hh _ (List.getElem_mem _)
 have HLt : Hid _ := hlt
 have HGz : Hid _ := hGz
 have HRl : Hid (rest.length = G.length) := hrl
 have HNb : Hid (∀ g ∈ G, ¬ BrB w0 g) := fun g hg => by
  obtain ⟨rem, h2⟩ := (hR.below HB.out).mem g hg
  exact h2.noB
 have HFr0 : Hid (AFr G w0 w0) := AFr.refl _ _
 obtain ⟨c0, c1, c2, c3, c4⟩ := row_fiveB (blk_keep HB.out hcell)
 obtain ⟨b3, HB3⟩ := hid_name (decide (t.rep = 3))
 have q3 : (t.rep == 3) = b3 := by
  rw [← HB3.out, Bool.eq_iff_iff, beq_iff_eq, decide_eq_true_iff]
 have HLs : Hid ((lsN t ls : Nat) = if b3 = true then ls + 1 else ls) := (by
  show lsN t ls = _
  unfold lsN
  rw [← HB3.out]
  by_cases h : t.rep = 3 <;> simp [h])
 rw [HLs.out] at c2
 rw [HB3.out]
 clear hb hnd hrl hR hh hlt hra hlen hcell
 go_enter Tryz.func121, Tryz.ntmps121
 go_upto_region 1 with fail
 rw [HW0.out]
 cases b3 with
 | true =>
  have HQ : ((ls + 1 : Nat) : Int) - 1 = (ls : Int) := by omega
  rw [if_pos rfl] at c2
  go_wp2_with fail
  go_loopw [25] (fun x wr => ∃ i : Nat, i ≤ G.length ∧ x = .int .i64 i ∧ Hid (∀ j (h : j < G.length), RdL wr N G[j] (if j < i then rest.getD j [] else ⟨rep, (df : Int), none⟩ :: rest.getD j [])) ∧ Hid (AFr G w0 wr)) (fun x _ => G.length - (intOf x).toNat)
  case atStart => exact ⟨0, Nat.zero_le _, rfl, fun j h => by rw [if_neg (by omega)]; exact HSt.out j h, HFr0.out⟩
  case round =>
   clear HSt HFr0
   obtain ⟨i, hik, rfl, HS, HF⟩ := hrel
   have HXr : Hid _ := HF.out.box HX.out HGz.out
   by_cases hlt : i < G.length
   · have HRi : Hid (Lies wr ra (ptrs G)) := ptrs_stay HRa.out (fun k hk hbk => HF.out.keep k hk (fun hm => by
       obtain ⟨jj, hjj, ej⟩ := List.getElem_of_mem hm
       have hx := HS.out jj hjj
       have hw := (HLt.out k hm).2
       exact (HNb.out k hm) hbk))
     obtain ⟨bb, oo, ea, hc⟩ := HRi.out i (by rw [ptrs_len]; exact hlt)
     rw [ptrs_at G i _ hlt] at hc
     subst ea
     have h1 := HS.out i hlt
     rw [if_neg (by omega)] at h1
     have HP : Hid _ := pass_any N G[i] _ _ rfl wr h1
     obtain ⟨g, HGn⟩ := hid_name G[i]
     rw [HGn.out] at HP hc
     have q0 : (0 : Int) ≤ (i : Int) := by omega
     have q1 : (i : Int) < (G.length : Int) := by omega
     clear h1
     go_wp2_with fail
     refine Calls.mono HP.out ?_
     rintro e w1 ⟨rfl, hr1, hf1⟩
     have HR1 : Hid _ := hr1
     have HC : Hid _ := arep_any N g _ w1 hr1
     have HHi : Hid _ := HHd.out i hlt
     have HS1 : Hid (∀ j (h : j < G.length), RdL w1 N G[j] (if j < i + 1 then rest.getD j [] else ⟨rep, (df : Int), none⟩ :: rest.getD j [])) := (by
      intro j hj
      by_cases e : j = i
      · subst e
        rw [if_pos (by omega), HGn.out]
        exact hr1
      · have h2 := HS.out j hj
        have hne : G[j] ∉ [g] := by
         rw [← HGn.out]
         simp only [List.mem_singleton]
         exact fun hh => e ((List.getElem_inj HNd.out).1 hh)
        have h3 := h2.fr hf1 hne (fun k hk => by rw [List.mem_singleton] at hk; rw [hk]; exact hr1.hi.1)
        by_cases hji : j < i
        · rw [if_pos hji] at h3
          rw [if_pos (by omega)]
          exact h3
        · rw [if_neg hji] at h3
          rw [if_neg (by omega)]
          exact h3)
     have HF1 : Hid (AFr G w0 w1) := HF.out.trans (hf1.more (fun k hk => by rw [List.mem_singleton] at hk; rw [hk, ← HGn.out]; exact List.getElem_mem _))
     clear hr1 hf1
     obtain ⟨hr, HHr⟩ := hid_name (hdR (rest.getD i []))
     rw [HHr.out] at HC HHi
     have q2 : decide ((ls : Int) < hr) = false := by have := HHi.out; rw [decide_eq_false_iff_not]; omega
     go_wp2_with fail
     refine Calls.mono HC.out ?_
     rintro e w2 ⟨rfl, k, rfl⟩
     have HS2 : Hid (∀ j (h : j < G.length), RdL (w1.drewN k) N G[j] (if j < i + 1 then rest.getD j [] else ⟨rep, (df : Int), none⟩ :: rest.getD j [])) := fun j h => (HS1.out j h).below (below_dN (Below.refl _ _) k)
     have HF2 : Hid (AFr G w0 (w1.drewN k)) := HF1.out.drew k
     go_wp2
     go_roundw
     case rel => exact ⟨i + 1, by omega, by go_num, HS2, HF2⟩
     case measure => simp [intOf]; omega
   · obtain rfl : i = G.length := by omega
     have HRn : Hid (RdAll wr N G rest) := ⟨HRl.out.symm, fun j h1 h2 => by
      have h3 := HS.out j h1
      rw [if_pos h1] at h3
      have e2 : rest.getD j [] = rest[j] := by simp [List.getD, h2]
      rw [e2] at h3
      exact h3⟩
     obtain ⟨z0, z1, z2, z3, z4, z5⟩ := row_six HXr.out
     obtain ⟨y0, y1, y2, y3, y4, y5⟩ := row_six_z HXr.out
     have hNW : G.length = 0 ∨ N ≤ W.heap.size := by
      rcases Nat.eq_zero_or_pos G.length with h | h
      · exact .inl h
      · have := HLt.out G[0] (List.getElem_mem _)
        exact .inr (by omega)
     go_wp2
     refine bodyPost_ret (v := .tuple #[.agg #[.bool false, .int .i64 0, .int .i64 0, .string ⟨#[]⟩, .slice none 0 0, .slice none 0 0], .nilIface]) (results_cS Tryz.results121 _ _ W.heap.size 56 #[.bool false, .int .i64 0, .int .i64 0, .string ⟨#[]⟩, .slice none 0 0, .slice none 0 0] (0, 0) _ .nilIface rfl rfl (row_setC (row_setC (row_setC (row_setC (row_setC (row_setC HXr.out)))))) Tryz.underlying56 rfl (by kernel_rfl)) rfl ⟨rfl, ?_, ?_⟩
     · rcases hNW with h | h
       · exact ⟨HRn.out.1, fun j h1 _ => absurd h1 (by omega)⟩
       · exact HRn.out.six HGz.out h _ _ _ _ _ _
     · exact sixA ((AFr.of_below HB.out).trans HF.out) (Nat.le_refl _) _ _ _ _ _ _
 | false =>
  rw [if_neg (by simp)] at c2
  go_wp2_with fail
  go_loopw [25] (fun x wr => ∃ i : Nat, i ≤ G.length ∧ x = .int .i64 i ∧ Hid (∀ j (h : j < G.length), RdL wr N G[j] (if j < i then rest.getD j [] else ⟨rep, (df : Int), none⟩ :: rest.getD j [])) ∧ Hid (AFr G w0 wr)) (fun x _ => G.length - (intOf x).toNat)
  case atStart => exact ⟨0, Nat.zero_le _, rfl, fun j h => by rw [if_neg (by omega)]; exact HSt.out j h, HFr0.out⟩
  case round =>
   clear HSt HFr0
   obtain ⟨i, hik, rfl, HS, HF⟩ := hrel
   have HXr : Hid _ := HF.out.box HX.out HGz.out
   by_cases hlt : i < G.length
   · have HRi : Hid (Lies wr ra (ptrs G)) := ptrs_stay HRa.out (fun k hk hbk => HF.out.keep k hk (fun hm => by
       obtain ⟨jj, hjj, ej⟩ := List.getElem_of_mem hm
       have hx := HS.out jj hjj
       have hw := (HLt.out k hm).2
       exact (HNb.out k hm) hbk))
     obtain ⟨bb, oo, ea, hc⟩ := HRi.out i (by rw [ptrs_len]; exact hlt)
     rw [ptrs_at G i _ hlt] at hc
     subst ea
     have h1 := HS.out i hlt
     rw [if_neg (by omega)] at h1
     have HP : Hid _ := pass_any N G[i] _ _ rfl wr h1
     obtain ⟨g, HGn⟩ := hid_name G[i]
     rw [HGn.out] at HP hc
     have q0 : (0 : Int) ≤ (i : Int) := by omega
     have q1 : (i : Int) < (G.length : Int) := by omega
     clear h1
     go_wp2_with fail
     refine Calls.mono HP.out ?_
     rintro e w1 ⟨rfl, hr1, hf1⟩
     have HR1 : Hid _ := hr1
     have HC : Hid _ := arep_any N g _ w1 hr1
     have HHi : Hid _ := HHd.out i hlt
     have HS1 : Hid (∀ j (h : j < G.length), RdL w1 N G[j] (if j < i + 1 then rest.getD j [] else ⟨rep, (df : Int), none⟩ :: rest.getD j [])) := (by
      intro j hj
      by_cases e : j = i
      · subst e
        rw [if_pos (by omega), HGn.out]
        exact hr1
      · have h2 := HS.out j hj
        have hne : G[j] ∉ [g] := by
         rw [← HGn.out]
         simp only [List.mem_singleton]
         exact fun hh => e ((List.getElem_inj HNd.out).1 hh)
        have h3 := h2.fr hf1 hne (fun k hk => by rw [List.mem_singleton] at hk; rw [hk]; exact hr1.hi.1)
        by_cases hji : j < i
        · rw [if_pos hji] at h3
          rw [if_pos (by omega)]
          exact h3
        · rw [if_neg hji] at h3
          rw [if_neg (by omega)]
          exact h3)
     have HF1 : Hid (AFr G w0 w1) := HF.out.trans (hf1.more (fun k hk => by rw [List.mem_singleton] at hk; rw [hk, ← HGn.out]; exact List.getElem_mem _))
     clear hr1 hf1
     obtain ⟨hr, HHr⟩ := hid_name (hdR (rest.getD i []))
     rw [HHr.out] at HC HHi
     have q2 : decide ((ls : Int) < hr) = false := by have := HHi.out; rw [decide_eq_false_iff_not]; omega
     go_wp2_with fail
     refine Calls.mono HC.out ?_
     rintro e w2 ⟨rfl, k, rfl⟩
     have HS2 : Hid (∀ j (h : j < G.length), RdL (w1.drewN k) N G[j] (if j < i + 1 then rest.getD j [] else ⟨rep, (df : Int), none⟩ :: rest.getD j [])) := fun j h => (HS1.out j h).below (below_dN (Below.refl _ _) k)
     have HF2 : Hid (AFr G w0 (w1.drewN k)) := HF1.out.drew k
     go_wp2
     go_roundw
     case rel => exact ⟨i + 1, by omega, by go_num, HS2, HF2⟩
     case measure => simp [intOf]; omega
   · obtain rfl : i = G.length := by omega
     have HRn : Hid (RdAll wr N G rest) := ⟨HRl.out.symm, fun j h1 h2 => by
      have h3 := HS.out j h1
      rw [if_pos h1] at h3
      have e2 : rest.getD j [] = rest[j] := by simp [List.getD, h2]
      rw [e2] at h3
      exact h3⟩
     obtain ⟨z0, z1, z2, z3, z4, z5⟩ := row_six HXr.out
     obtain ⟨y0, y1, y2, y3, y4, y5⟩ := row_six_z HXr.out
     have hNW : G.length = 0 ∨ N ≤ W.heap.size := by
      rcases Nat.eq_zero_or_pos G.length with h | h
      · exact .inl h
      · have := HLt.out G[0] (List.getElem_mem _)
        exact .inr (by omega)
     go_wp2
     refine bodyPost_ret (v := .tuple #[.agg #[.bool true, .int .i64 0, .int .i64 0, .string ⟨#[]⟩, .slice none 0 0, .slice none 0 0], .nilIface]) (results_cS Tryz.results121 _ _ W.heap.size 56 #[.bool true, .int .i64 0, .int .i64 0, .string ⟨#[]⟩, .slice none 0 0, .slice none 0 0] (0, 0) _ .nilIface rfl rfl (row_setC (row_setC (row_setC (row_setC (row_setC (row_setC HXr.out)))))) Tryz.underlying56 rfl (by kernel_rfl)) rfl ⟨rfl, ?_, ?_⟩
     · rcases hNW with h | h
       · exact ⟨HRn.out.1, fun j h1 _ => absurd h1 (by omega)⟩
       · exact HRn.out.six HGz.out h _ _ _ _ _ _
     · exact sixA ((AFr.of_below HB.out).trans HF.out) (Nat.le_refl _) _ _ _ _ _ _
def DatA (t : Tr) (df ls : Nat) (d : Dt) : Prop := ∀ (N b : Nat) (G : List Nat) (rep : Int) (rest : List (List Ent)) (W : World), BrAt W b t df ls G → G.Nodup → G.length ≤ 1000 → rest.length = G.length → RdAll W N G (zipA (en false t df ls rep d) rest) → (∀ es ∈ rest, hdR es ≤ (ls : Int)) →
 Calls Tryz.prog (83) #[.pointer (some ⟨b, 0, none⟩)] W fun e w' => ∃ al cl af cf, e = .returned (.tuple #[.agg #[.bool d.no, .int .i64 d.v.k, .int .i64 d.v.n, .string d.v.s, .slice al d.l.length cl, .slice af d.f.length cf], .nilIface]) ∧ LiesD w' (fun b => W.heap.size ≤ b) al d.l ∧ LiesD w' (fun b => W.heap.size ≤ b) af d.f ∧ RdAll w' N G rest ∧ AFr G W w'
def OneA (t : Tr) (df ls : Nat) (d : Dt) : Prop := ∀ (N b : Nat) (G : List Nat) (rep : Int) (rest : List (List Ent)) (W : World), BrAt W b t df ls G → G.Nodup → G.length ≤ 1000 → rest.length = G.length → RdAll W N G (zipA (en true t (dfN t df) (lsN t ls) rep d) rest) → (∀ es ∈ rest, hdR es ≤ (lsN t ls : Int)) →
 Calls Tryz.prog (54) #[.pointer (some ⟨b, 0, none⟩)] W fun e w' => ∃ al cl af cf, e = .returned (.tuple #[.agg #[.bool d.no, .int .i64 d.v.k, .int .i64 d.v.n, .string d.v.s, .slice al d.l.length cl, .slice af d.f.length cf], .nilIface]) ∧ LiesD w' (fun b => W.heap.size ≤ b) al d.l ∧ LiesD w' (fun b => W.heap.size ≤ b) af d.f ∧ RdAll w' N G rest ∧ AFr G W w'
structure AgI (W : World) (G : List Nat) (ds : List Dt) (wr : World) (i : Nat) (l : Value) (ncs : List (List Value)) : Prop where
 len : ncs.length = i
 le : i ≤ ds.length
 six : ∀ x ∈ ncs, x.length = 6
 row : wr.ownsRow W.heap.size 56 6 l i ncs.flatten
 each : ∀ j (h : j < ncs.length) (h' : j < ds.length), DtC wr (fun b => W.heap.size ≤ b ∧ l.ownBlock ≠ some b) ds[j] ncs[j]
 fr : AFr G W wr
 lt : ∀ g ∈ G, g < W.heap.size
theorem AgI.start {W wr : World} {G : List Nat} (ds : List Dt) (hf : AFr G W wr) (hr : ∀ g ∈ G, g < W.heap.size) : AgI W G ds wr 0 (.slice none 0 0) [] := ⟨rfl, Nat.zero_le _, fun x hx => by simp at hx, World.ownsRow_nil _ _ _ _, fun j h => absurd h (by simp), hf, hr⟩
theorem AgI.shape {W : World} {G : List Nat} {ds : List Dt} {wr : World} {i : Nat} {l : Value} {ncs : List (List Value)} (h : AgI W G ds wr i l ncs) : ∃ a' c', l = .slice a' i c' := by
 rcases h.row.2 with ⟨rfl, rfl⟩ | ⟨g, cap, cur, rfl, _⟩
 · exact ⟨none, 0, rfl⟩
 · exact ⟨_, cap, rfl⟩
theorem row_af {G : List Nat} {B e sz n : Nat} {W w' : World} {v : Value} {xs : List Value} (h : W.ownsRow B e sz v n xs) (hf : AFr G W w') (hr : ∀ g ∈ G, g < B) : w'.ownsRow B e sz v n xs := by
 refine ⟨h.1, ?_⟩
 rcases h.2 with hn | ⟨g, cap, cur, rfl, hbg, hg, rest⟩
 · exact .inl hn
 · exact .inr ⟨g, cap, cur, rfl, hbg, hf.box hg (fun hm => by have := hr g hm; omega), rest⟩
theorem af_grow {G : List Nat} {W w1 w2 : World} {ob : Obj} {v : Value} (h : AFr G W w1) (hg : (w1.alloc ob).grownBy w2 v.ownBlock) (hv : ∀ k, v.ownBlock = some k → W.heap.size ≤ k) : AFr G W w2 ∧ ∀ k, k < W.heap.size → w2.heap[k]? = w1.heap[k]? := by
 have hs := h.size
 have hgs := hg.size
 simp only [World.size_alloc] at hgs
 have hS : ∀ b, b < W.heap.size → w2.heap[b]? = w1.heap[b]? := fun b hb => by
  rw [hg.block b (by simp; omega) (fun e => by have := hv b e.symm; omega), heap_alloc_old w1 ob (by omega)]
 exact ⟨⟨hg.os.trans h.os, hg.tape.trans h.tape, hg.output.trans h.output, by omega, fun k hk hne => by rw [hS k hk, h.keep k hk hne]⟩, hS⟩
theorem AgI.go {W : World} {G : List Nat} {ds : List Dt} {wr w1 : World} {i : Nat} {l : Value} {ncs : List (List Value)} (h : AgI W G ds wr i l ncs) (hf : AFr G wr w1) : AgI W G ds w1 i l ncs := by
 have hlt := h.lt
 exact ⟨h.len, h.le, h.six, row_af h.row hf h.lt, fun j hj hj' => (h.each j hj hj').stay (fun _ h _ => h) (fun b hb hl => hf.keep b hl (fun hm => by have := hlt b hm; omega)), h.fr.trans hf, h.lt⟩
theorem AgI.push {W : World} {G : List Nat} {ds : List Dt} {wr w1 w2 : World} {i : Nat} {l l' : Value} {ncs : List (List Value)} {al af : Option Addr} {cl cf : Nat} (h : AgI W G ds wr i l ncs) (hi : i < ds.length) (hf : AFr G wr w1) (hll : LiesD w1 (fun b => wr.heap.size ≤ b) al ds[i].l) (hlf : LiesD w1 (fun b => wr.heap.size ≤ b) af ds[i].f) {ob : Obj}
    (hown : w2.ownsRow W.heap.size 56 6 l' (i + 1) (ncs.flatten ++ [.bool ds[i].no, .int .i64 ds[i].v.k, .int .i64 ds[i].v.n, .string ds[i].v.s, .slice al ds[i].l.length cl, .slice af ds[i].f.length cf])) (hg : (w1.alloc ob).grownBy w2 l.ownBlock) (hw : l'.ownBlock = l.ownBlock ∧ l.ownBlock ≠ none ∨ l'.ownBlock = some (w1.alloc ob).heap.size) :
    AgI W G ds w2 (i + 1) l' (ncs ++ [[.bool ds[i].no, .int .i64 ds[i].v.k, .int .i64 ds[i].v.n, .string ds[i].v.s, .slice al ds[i].l.length cl, .slice af ds[i].f.length cf]]) := by
 have hrs := h.fr.size
 have hbs := hf.size
 have hgs := hg.size
 simp only [World.size_alloc] at hgs
 have hlt := h.lt
 have hlb : ∀ k, l.ownBlock = some k → W.heap.size ≤ k ∧ k < wr.heap.size := fun k hk => h.row.lt k hk
 have hS2 : ∀ b, b < w1.heap.size → some b ≠ l.ownBlock → w2.heap[b]? = w1.heap[b]? := fun b hb hne => by
  rw [hg.block b (by simp; omega) hne, heap_alloc_old w1 ob hb]
 refine ⟨by rw [List.length_append, h.len]; rfl, hi, fun x hx => ?_, ?_, fun j hj hj' => ?_, (af_grow (h.fr.trans hf) hg (fun k hk => (hlb k hk).1)).1, hlt⟩
 · rcases List.mem_append.1 hx with hx | hx
   · exact h.six x hx
   · rw [List.mem_singleton.1 hx]; rfl
 · rw [List.flatten_append]
   simp only [List.flatten_cons, List.flatten_nil, List.append_nil]
   exact hown
 · by_cases hjl : j < ncs.length
   · rw [List.getElem_append_left hjl]
     have hQ : ∀ b, (W.heap.size ≤ b ∧ l.ownBlock ≠ some b) → b < wr.heap.size → (W.heap.size ≤ b ∧ l'.ownBlock ≠ some b) := fun b hP hlt => by
      refine ⟨hP.1, ?_⟩
      rcases hw with ⟨e, _⟩ | e
      · rw [e]; exact hP.2
      · rw [e]; simp; omega
     have hS : ∀ b, (W.heap.size ≤ b ∧ l.ownBlock ≠ some b) → b < wr.heap.size → w2.heap[b]? = wr.heap[b]? := fun b hP hb => by
      rw [hS2 b (by omega) (fun e => hP.2 e.symm), hf.keep b hb (fun hm => by have := hlt b hm; omega)]
     exact (h.each j hjl hj').stay hQ hS
   · have hje : j = ncs.length := by rw [List.length_append] at hj; simp at hj; omega
     have hji : j = i := by rw [hje, h.len]
     subst hji
     have ee : (ncs ++ [[.bool ds[j].no, .int .i64 ds[j].v.k, .int .i64 ds[j].v.n, .string ds[j].v.s, .slice al ds[j].l.length cl, .slice af ds[j].f.length cf]])[j] = [.bool ds[j].no, .int .i64 ds[j].v.k, .int .i64 ds[j].v.n, .string ds[j].v.s, .slice al ds[j].l.length cl, .slice af ds[j].f.length cf] := by
      rw [List.getElem_append_right (by omega)]
      simp
     rw [ee]
     have hQ : ∀ b, wr.heap.size ≤ b → b < w1.heap.size → (W.heap.size ≤ b ∧ l'.ownBlock ≠ some b) := fun b hP hlt => by
      refine ⟨by omega, ?_⟩
      rcases hw with ⟨e, hne⟩ | e
      · rw [e]
        intro e2
        have := (hlb b e2).2
        omega
      · rw [e]; simp; omega
     have hS : ∀ b, wr.heap.size ≤ b → b < w1.heap.size → w2.heap[b]? = w1.heap[b]? := fun b hP hb => hS2 b hb (fun e => by have := (hlb b e.symm).2; omega)
     exact DtC.join cl cf (hll.stay hQ hS) (hlf.stay hQ hS)
theorem AgI.lies {W : World} {G : List Nat} {ds : List Dt} {wr : World} {a' : Option Addr} {c' : Nat} {ncs : List (List Value)} (h : AgI W G ds wr ds.length (.slice a' ds.length c') ncs) : LiesD wr (fun b => W.heap.size ≤ b) a' ds := by
 refine ⟨fun j => ncs.getD j [], fun j hj => ?_, fun j hj => ?_⟩
 · have hjn : j < ncs.length := by rw [h.len]; exact hj
   have e : ncs.getD j [] = ncs[j] := by simp [List.getD, hjn]
   show DtAt wr _ a' j (ncs.getD j [])
   rw [e]
   have h6 := h.six ncs[j] (List.getElem_mem hjn)
   rcases h.row.2 with ⟨_, h0⟩ | ⟨g, cap, cur, hv, hbg, _⟩
   · exact absurd hj (by omega)
   · have hv' := hv
     injection hv' with ha _ _
     subst ha
     have hc : ∀ k u, ncs[j][k]? = some u → k < 6 → wr.cell? ⟨g, j * 6 + k, none⟩ = some u := fun k u hu hk => by
      have h1 := h.row.cells (g := g) rfl (j * 6 + k) u (by rw [flat6 ncs h.six j k hk, List.getElem?_eq_getElem hjn]; exact hu)
      rw [addr_plus, Nat.zero_add] at h1
      exact h1
     generalize ncs[j] = cs at *
     match cs, h6 with
     | [x0, x1, x2, x3, x4, x5], _ =>
      have c0 := hc 0 x0 rfl (by omega)
      have c1 := hc 1 x1 rfl (by omega)
      have c2 := hc 2 x2 rfl (by omega)
      have c3 := hc 3 x3 rfl (by omega)
      have c4 := hc 4 x4 rfl (by omega)
      have c5 := hc 5 x5 rfl (by omega)
      exact ⟨g, 0, x0, x1, x2, x3, x4, x5, rfl, by omega, rfl, by simpa using c0, by simpa using c1, by simpa using c2, by simpa using c3, by simpa using c4, by simpa using c5⟩
 · have hjn : j < ncs.length := by rw [h.len]; exact hj
   have e : ncs.getD j [] = ncs[j] := by simp [List.getD, hjn]
   show DtC wr _ ds[j] (ncs.getD j [])
   rw [e]
   exact (h.each j hjn hj).stay (fun b hP _ => hP.1) (fun _ _ _ => rfl)
theorem fl_split (FG : Nat → List Nat) (j : Nat) : ∀ n, j < n → ∃ tl, (List.range n).flatMap FG = (List.range j).flatMap FG ++ (FG j ++ tl)
 | 0, h => absurd h (Nat.not_lt_zero _)
 | n + 1, h => by
  rw [List.range_succ, List.flatMap_append]
  by_cases e : j = n
  · subst e
    exact ⟨[], by simp⟩
  · obtain ⟨tl, h1⟩ := fl_split FG j n (by omega)
    exact ⟨tl ++ [n].flatMap FG, by rw [h1]; simp only [List.append_assoc]⟩
theorem fl_in (FG : Nat → List Nat) (k : Nat) : ∀ n, k < ((List.range n).flatMap FG).length → ∃ j i, j < n ∧ i < (FG j).length ∧ k = ((List.range j).flatMap FG).length + i
 | 0, h => by simp at h
 | n + 1, h => by
  rw [List.range_succ, List.flatMap_append, List.length_append] at h
  by_cases hk : k < ((List.range n).flatMap FG).length
  · obtain ⟨j, i, h1, h2, h3⟩ := fl_in FG k n hk
    exact ⟨j, i, by omega, h2, h3⟩
  · simp at h
    exact ⟨n, k - ((List.range n).flatMap FG).length, by omega, by simp at hk ⊢; omega, by simp at hk ⊢; omega⟩
theorem enF_split (df ls : Nat) (rep : Int) : ∀ (j : Nat) (ts : List Tr) (ds : List Dt) (h : j < ts.length) (h' : j < ds.length), ∃ tl, enF ts df ls rep ds = enF (ts.take j) df ls rep (ds.take j) ++ (en false ts[j] df ls rep ds[j] ++ tl)
 | _, [], _, h, _ => absurd h (Nat.not_lt_zero _)
 | _, _ :: _, [], _, h => absurd h (Nat.not_lt_zero _)
 | 0, t :: ts, d :: ds, _, _ => ⟨enF ts df ls rep ds, by simp [enF]⟩
 | j + 1, t :: ts, d :: ds, h, h' => by
  obtain ⟨tl, h1⟩ := enF_split df ls rep j ts ds (by simpa using h) (by simpa using h')
  exact ⟨tl, by rw [enF, h1]; simp [enF, List.append_assoc]⟩
def ptR (ts : List Tr) (rest : List (List Ent)) (j : Nat) : List (List Ent) := (rest.drop (lvCL (ts.take j))).take (lvC (ts.getD j default))
theorem off_eq {FG : Nat → List Nat} {ts : List Tr} (hl : ∀ j (h : j < ts.length), (FG j).length = lvC ts[j]) : ∀ j, j ≤ ts.length → ((List.range j).flatMap FG).length = lvCL (ts.take j)
 | 0, _ => by simp [lvCL]
 | j + 1, h => by
  rw [List.range_succ, List.flatMap_append, List.length_append, off_eq hl j (by omega), List.take_succ_eq_append_getElem (by omega), lvCL_app]
  simp [lvCL, hl j (by omega)]
theorem ptR_len {FG : Nat → List Nat} {ts : List Tr} (hl : ∀ j (h : j < ts.length), (FG j).length = lvC ts[j]) (rest : List (List Ent)) (hr : rest.length = ((List.range ts.length).flatMap FG).length) (j : Nat) (hj : j < ts.length) : (ptR ts rest j).length = (FG j).length := by
 obtain ⟨tl, h⟩ := fl_split FG j ts.length hj
 have h2 := congrArg List.length h
 rw [List.length_append, List.length_append, off_eq hl j (by omega)] at h2
 unfold ptR
 have e : ts.getD j default = ts[j] := by simp [List.getD, hj]
 rw [e, List.length_take, List.length_drop, ← hl j hj]
 omega
theorem ptR_at (ts : List Tr) (rest : List (List Ent)) (j k : Nat) (h : k < (ptR ts rest j).length) : ∃ h2, (ptR ts rest j)[k] = rest[lvCL (ts.take j) + k]'h2 := by
 have h' := h
 unfold ptR at h'
 rw [List.length_take, List.length_drop] at h'
 refine ⟨by omega, ?_⟩
 unfold ptR
 simp
theorem ptR_mem {ts : List Tr} {rest : List (List Ent)} {j : Nat} {es : List Ent} (h : es ∈ ptR ts rest j) : es ∈ rest := List.mem_of_mem_drop (List.mem_of_mem_take h)
theorem rdAll_part {w : World} {N : Nat} {FG : Nat → List Nat} {ts : List Tr} (hl : ∀ j (h : j < ts.length), (FG j).length = lvC ts[j]) {rest : List (List Ent)} {df ls : Nat} {rep : Int} {ds : List Dt} (hdl : ds.length = ts.length) (hck : ∀ j (h : j < ts.length) (h' : j < ds.length), chk false ts[j] ds[j] = 0) (hr : rest.length = ((List.range ts.length).flatMap FG).length) (h : RdAll w N ((List.range ts.length).flatMap FG) (zipA (enF ts df ls rep ds) rest)) (j : Nat) (hj : j < ts.length) (hj' : j < ds.length) : RdAll w N (FG j) (zipA (en false ts[j] df ls rep ds[j]) (ptR ts rest j)) := by
 have hpl := ptR_len hl rest hr j hj
 have hel := en_len ds[j] false ts[j] df ls rep (hck j hj hj')
 have hll := hl j hj
 refine ⟨by rw [zipA_len _ _ (by rw [hel, hpl, hll]), hel, hll], fun k h1 h2 => ?_⟩
 obtain ⟨tl, hG⟩ := fl_split FG j ts.length hj
 obtain ⟨tl2, hE⟩ := enF_split df ls rep j ts ds hj hj'
 have hoff := off_eq hl j (by omega)
 have hoffE : (enF (ts.take j) df ls rep (ds.take j)).length = lvCL (ts.take j) := enF_len _ _ _ _ _ (by simp [hdl]) (fun i h1 h2 => by
  rw [List.length_take] at h1 h2
  simp only [List.getElem_take]
  exact hck i (by omega) (by omega))
 have hk2 : lvCL (ts.take j) + k < ((List.range ts.length).flatMap FG).length := by
  have := congrArg List.length hG
  rw [List.length_append, List.length_append, hoff] at this
  omega
 have hx := h.2 (lvCL (ts.take j) + k) hk2 (by rw [← h.1]; exact hk2)
 have hEl : (enF ts df ls rep ds).length = lvCL ts := enF_len _ _ _ _ _ hdl hck
 have hfl := off_eq hl ts.length (Nat.le_refl _)
 rw [List.take_length] at hfl
 rw [zipA_at _ _ _ _ (by rw [hEl]; omega) (by omega)] at hx
 have eG : ((List.range ts.length).flatMap FG)[lvCL (ts.take j) + k] = (FG j)[k] := by
  have : ((List.range ts.length).flatMap FG)[lvCL (ts.take j) + k]? = (FG j)[k]? := by
   rw [hG, List.getElem?_append_right (by omega), hoff, Nat.add_sub_cancel_left, List.getElem?_append_left h1]
  rw [List.getElem?_eq_getElem hk2, List.getElem?_eq_getElem h1] at this
  exact Option.some.inj this
 have eE : (enF ts df ls rep ds)[lvCL (ts.take j) + k]'(by rw [hEl]; omega) = (en false ts[j] df ls rep ds[j])[k]'(by omega) := by
  have : (enF ts df ls rep ds)[lvCL (ts.take j) + k]? = (en false ts[j] df ls rep ds[j])[k]? := by
   rw [hE, List.getElem?_append_right (by omega), hoffE, Nat.add_sub_cancel_left, List.getElem?_append_left (by omega)]
  rw [List.getElem?_eq_getElem (by rw [hEl]; omega), List.getElem?_eq_getElem (by omega)] at this
  exact Option.some.inj this
 obtain ⟨h3, hp⟩ := ptR_at ts rest j k (by omega)
 rw [eG, eE] at hx
 rw [zipA_at _ _ _ _ (by omega) (by omega), hp]
 exact hx
theorem rdAll_whole {w : World} {N : Nat} {FG : Nat → List Nat} {ts : List Tr} (hl : ∀ j (h : j < ts.length), (FG j).length = lvC ts[j]) {rest : List (List Ent)} (hr : rest.length = ((List.range ts.length).flatMap FG).length) (h : ∀ j, j < ts.length → RdAll w N (FG j) (ptR ts rest j)) : RdAll w N ((List.range ts.length).flatMap FG) rest := by
 refine ⟨hr.symm, fun k h1 h2 => ?_⟩
 obtain ⟨j, i, hj, hi, e⟩ := fl_in FG k ts.length h1
 obtain ⟨tl, hG⟩ := fl_split FG j ts.length hj
 have hoff := off_eq hl j (by omega)
 have hpl := ptR_len hl rest hr j hj
 have hx := (h j hj).2 i hi (by omega)
 obtain ⟨h3, hp⟩ := ptR_at ts rest j i (by omega)
 have eG : ((List.range ts.length).flatMap FG)[k] = (FG j)[i] := by
  have : ((List.range ts.length).flatMap FG)[k]? = (FG j)[i]? := by
   rw [hG, e, List.getElem?_append_right (by omega), Nat.add_sub_cancel_left, List.getElem?_append_left hi]
  rw [List.getElem?_eq_getElem h1, List.getElem?_eq_getElem hi] at this
  exact Option.some.inj this
 have eR : rest[k] = rest[lvCL (ts.take j) + i]'h3 := by
  congr 1
  omega
 rw [eG, eR, ← hp]
 exact hx
end Go.Proofs.YteonbmaokphleaaGreatDoor
