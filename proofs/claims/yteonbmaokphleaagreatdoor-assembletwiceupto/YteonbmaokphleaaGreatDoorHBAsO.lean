/-
  assemble: a leaf's column is found by its number; branches with the blocks they lie in.
  assemble: the branch of a leaf.
  assemble: what branchOf's loop holds: fields, readers, in two rows of its own.
  assemble: lists of branches and readers put side by side; what a row's growing leaves.
  assemble: the branch of a group.
  assemble: branchOf of whatever right node.
  assemble: the entries of all leaves are what Shred writes, leaf by leaf: mathematics.
  assemble: which leaf stands where.
  assemble: check finds right columns right.
  assemble: check of right columns.
  assemble.Assemble: what Shred wrote of right records is put together again.
-/
import Derived.Test.YteonbmaokphleaaGreatDoorHBAsH
import Derived.Test.YteonbmaokphleaaGreatDoorHBOwnN
import Derived.Test.YteonbmaokphleaaGreatDoorHBLfM
import Derived.Test.YteonbmaokphleaaGreatDoorHBColS
import Derived.Test.YteonbmaokphleaaGreatDoorHBStBase
import Derived.Test.YteonbmaokphleaaGreatDoorHBColDf
namespace Go.Proofs.YteonbmaokphleaaGreatDoor
open Go.RowKit
set_option maxRecDepth 100000 in
set_option maxHeartbeats 1600000 in
theorem clC (k : Cl) (p : Nat) (nid : Int) (v : Bool) (hv : v = (k.id == nid)) (W : World) (hp : W.cell? ⟨p, 0, none⟩ = some (.int .i64 nid)) :
    Calls Tryz.prog (50) #[k.val, .pointer (some ⟨p, 0, none⟩)] W fun e w' => e = .returned (.bool v) ∧ Below W.heap.size W w' := by
 unfold Cl.val colV
 obtain ⟨w0, HW0, HX, HB⟩ := one_box W #[.int .i64 k.id, .slice k.ra k.rs.length k.rc, .slice k.da k.ds.length k.dc, .slice k.va k.vs.length k.vc] 50
 have c0 := cell_of_row w0 W.heap.size 0 _ _ _ HX.out
 have hp0 := (HB.out.cell (World.block_lt_of_cell? W _ hp)).trans hp
 obtain ⟨x, HXn⟩ := hid_name k.id
 rw [HXn.out] at hv c0 HX HW0 ⊢
 have q : (x == nid) = v := hv.symm
 clear hp hv
 go_enter Tryz.func50, Tryz.ntmps50
 go_upto_region 1 with fail
 rw [HW0.out]
 go_wp2
 go_ret
 exact ⟨rfl, HB.out⟩
set_option maxRecDepth 100000 in
set_option maxHeartbeats 3200000 in
theorem ixC (z : Nat) (nid : Int) (cs : List Cl) (hcs : cs.length ≤ 1000) (a : Option Addr) (c : Nat) (W : World) (hl : LiesC W a cs) (hp : W.cell? ⟨z, 0, none⟩ = some (.int .i64 nid)) (k : Nat) (hk : k < cs.length) (he : cs[k].id = nid) (hf : ∀ j (h : j < k), (cs[j]'(Nat.lt_trans h hk)).id ≠ nid) :
    Calls Tryz.prog (49) #[.slice a cs.length c, .func (.func 50) #[] #[.pointer (some ⟨z, 0, none⟩)]] W fun e w' => e = .returned (.int .i64 (k : Nat)) ∧ Below W.heap.size W w' := by
 have HL : Hid (LiesC W a cs) := hl
 have HP : Hid _ := hp
 have HE : Hid (∀ j (h : j < cs.length), j ≤ k → (cs[j].id == nid) = decide (j = k)) := fun j h hj => by
  by_cases e : j = k
  · subst e
    simp [he]
  · rw [decide_eq_false e, beq_eq_false_iff_ne]
    exact hf j (by omega)
 clear hl hp he hf
 go_enter Tryz.func49, Tryz.ntmps49
 go_wp2_with fail
 go_loopw [8] (fun x wr => ∃ i : Nat, i ≤ k ∧ x = .int .i64 i ∧ Hid (Below W.heap.size W wr)) (fun x _ => k - (intOf x).toNat)
 case atStart => exact ⟨0, Nat.zero_le _, rfl, Below.refl _ _⟩
 case round =>
  obtain ⟨i, hik, rfl, HB⟩ := hrel
  have hlt : i < cs.length := by omega
  obtain ⟨⟨bb, oo, ea, h0, h1, h2, h3⟩, hat⟩ := (HL.out.keep HB.out) i hlt
  subst ea
  have HC : Hid _ := clC cs[i] z nid (decide (i = k)) (HE.out i hlt hik).symm wr ((HB.out.cell (World.block_lt_of_cell? W _ HP.out)).trans HP.out)
  clear hat
  obtain ⟨x, HXn⟩ := hid_name cs[i]
  rw [HXn.out] at h0 h1 h2 h3 HC
  unfold Cl.val colV at HC
  have q0 : (0 : Int) ≤ (i : Int) := by omega
  have q1 : (i : Int) < (cs.length : Int) := by omega
  by_cases e : i = k
  · rw [decide_eq_true e] at HC
    subst e
    go_wp2_with fail
    refine Calls.mono HC.out ?_
    rintro e1 w1 ⟨rfl, hb1⟩
    have HB1 : Hid (Below W.heap.size W w1) := HB.out.trans (hb1.mono HB.out.size)
    clear hb1 HC h0 h1 h2 h3
    go_wp2
    go_ret
    exact ⟨rfl, HB1.out⟩
  · rw [decide_eq_false e] at HC
    go_wp2_with fail
    refine Calls.mono HC.out ?_
    rintro e1 w1 ⟨rfl, hb1⟩
    have HB1 : Hid (Below W.heap.size W w1) := HB.out.trans (hb1.mono HB.out.size)
    clear hb1 HC h0 h1 h2 h3
    go_wp2
    go_roundw
    case rel => exact ⟨i + 1, by omega, by go_num, HB1⟩
    case measure => simp [intOf]; omega
mutual
def lvI : Tr → List Int
 | .node id _ _ kind sub => if kind = 0 then lvIL sub else [id]
def lvIL : List Tr → List Int
 | [] => []
 | t :: ts => lvI t ++ lvIL ts
end
theorem lvI_eq (t : Tr) : lvI t = if t.kind = 0 then lvIL t.sub else [t.id] := by
 cases t with
 | node id nm rep kind sub => rw [lvI]; rfl
theorem lvIL_app : ∀ a b : List Tr, lvIL (a ++ b) = lvIL a ++ lvIL b
 | [], b => by rw [List.nil_append, lvIL]; rfl
 | t :: a, b => by rw [List.cons_append, lvIL, lvIL, lvIL_app a b, List.append_assoc]
inductive BrI (w : World) (P : Nat → Prop) : Nat → Tr → Nat → Nat → List Nat → Prop where
 | leaf (b : Nat) (t : Tr) (df ls g : Nat) (ra : Option Addr) (rc : Nat) (hk : t.kind ≠ 0) (hb : P b) (cell : w.heap[b]? = some (.cells #[.int .i64 t.rep, .int .i64 (df : Nat), .int .i64 (lsN t ls : Nat), .slice none 0 0, .slice ra 1 rc] 105 (0, 0))) (hr : Lies w ra (ptrs [g])) (hra : ∀ a o, ra = some ⟨a, o, none⟩ → P a) : BrI w P b t df ls [g]
 | group (b : Nat) (t : Tr) (df ls : Nat) (fa : Option Addr) (fc : Nat) (ra : Option Addr) (rc : Nat) (FB : Nat → Nat) (FG : Nat → List Nat) (G : List Nat) (hk : t.kind = 0) (h0 : 0 < t.sub.length) (hb : P b) (cell : w.heap[b]? = some (.cells #[.int .i64 t.rep, .int .i64 (df : Nat), .int .i64 (lsN t ls : Nat), .slice fa t.sub.length fc, .slice ra G.length rc] 105 (0, 0))) (hf : Lies w fa (ptrs ((List.range t.sub.length).map FB))) (hfa : ∀ a o, fa = some ⟨a, o, none⟩ → P a) (each : ∀ j (h : j < t.sub.length), BrI w P (FB j) t.sub[j] (dfN t df) (lsN t ls) (FG j)) (hr : Lies w ra (ptrs G)) (hra : ∀ a o, ra = some ⟨a, o, none⟩ → P a) (hG : G = (List.range t.sub.length).flatMap FG) : BrI w P b t df ls G
theorem BrI.at_ {w : World} {P : Nat → Prop} {b : Nat} {t : Tr} {df ls : Nat} {G : List Nat} (h : BrI w P b t df ls G) : BrAt w b t df ls G := by
 induction h with
 | leaf b t df ls g ra rc hk hb cell hr hra => exact .leaf b t df ls g ra rc hk cell hr
 | group b t df ls fa fc ra rc FB FG G hk h0 hb cell hf hfa each hr hra hG ih => exact .group b t df ls fa fc ra rc FB FG G hk h0 cell hf ih hr hG
theorem ptrs_pst {w w' : World} {P : Nat → Prop} {a : Option Addr} {G : List Nat} (h : Lies w a (ptrs G)) (hp : ∀ b o, a = some ⟨b, o, none⟩ → P b) (hs : ∀ k, P k → k < w.heap.size → w'.heap[k]? = w.heap[k]?) : Lies w' a (ptrs G) := fun j hj => by
 obtain ⟨b, o, e, hc⟩ := h j hj
 exact ⟨b, o, e, cell_stay hc (hs b (hp b o e) (World.block_lt_of_cell? w _ hc))⟩
theorem BrI.stay {w w' : World} {P Q : Nat → Prop} {b : Nat} {t : Tr} {df ls : Nat} {G : List Nat} (hQ : ∀ k, P k → k < w.heap.size → Q k) (hs : ∀ k, P k → k < w.heap.size → w'.heap[k]? = w.heap[k]?) (h : BrI w P b t df ls G) : BrI w' Q b t df ls G := by
 have hq : ∀ (a : Option Addr) (G : List Nat), 0 < (ptrs G).length → Lies w a (ptrs G) → (∀ b o, a = some ⟨b, o, none⟩ → P b) → ∀ b o, a = some ⟨b, o, none⟩ → Q b := fun a G h0 hl hp b o e => by
  obtain ⟨b1, o1, e1, hc⟩ := hl 0 h0
  have e2 := e.symm.trans e1
  injection e2 with e2
  injection e2 with e2 _ _
  exact hQ b (hp b o e) (by rw [e2]; exact World.block_lt_of_cell? w _ hc)
 induction h with
 | leaf b t df ls g ra rc hk hb cell hr hra => exact .leaf b t df ls g ra rc hk (hQ b hb (lt_of_block cell)) ((hs b hb (lt_of_block cell)).trans cell) (ptrs_pst hr hra hs) (hq ra [g] (by simp [ptrs]) hr hra)
 | group b t df ls fa fc ra rc FB FG G hk h0 hb cell hf hfa each hr hra hG ih =>
  refine .group b t df ls fa fc ra rc FB FG G hk h0 (hQ b hb (lt_of_block cell)) ((hs b hb (lt_of_block cell)).trans cell) (ptrs_pst hf hfa hs) (hq fa _ (by rw [ptrs_len]; simpa using h0) hf hfa) ih (ptrs_pst hr hra hs) (hq ra G ?_ hr hra) hG
  rw [ptrs_len]
  obtain ⟨tl, e⟩ := fl_split FG 0 t.sub.length h0
  have := (each 0 h0).at_.pos
  rw [hG, e]
  simp only [List.length_append]
  omega
theorem BrI.kept {w w' : World} {P : Nat → Prop} {b : Nat} {t : Tr} {df ls : Nat} {G : List Nat} (h : BrI w P b t df ls G) (hb : Below w.heap.size w w') : BrI w' P b t df ls G := h.stay (fun _ h _ => h) (fun k _ hk => hb.block k hk)
def ColFor (N : Nat) (cs : List Cl) (En : Int → List Ent) (x : Int) : Prop := ∃ k, ∃ h : k < cs.length, cs[k].id = x ∧ (∀ j (h' : j < k), (cs[j]'(Nat.lt_trans h' h)).id ≠ x) ∧ cs[k].rs = eR (En x) ∧ cs[k].ds = eD (En x) ∧ cs[k].vs = eV (En x) ∧ (En x).length ≤ 20000 ∧ cs[k].Lw N
def BoA (t : Tr) : Prop := ∀ (df ls N : Nat) (cs : List Cl) (En : Int → List Ent) (na : Option Addr) (nc : Nat) (a : Option Addr) (c : Nat) (W : World), df + t.cnt ≤ 1000 → ls + t.cnt ≤ 1000 → cs.length ≤ 1000 → LiesC W a cs → N ≤ W.heap.size → LiesN W (fun _ => True) na t.sub → (∀ x ∈ lvI t, ColFor N cs En x) →
 Calls Tryz.prog 29 #[nodeV t na nc, .int .i64 (df : Nat), .int .i64 (ls : Nat), .slice a cs.length c] W fun e w' => ∃ b G, e = .returned (.pointer (some ⟨b, 0, none⟩)) ∧ BrI w' (fun k => W.heap.size ≤ k) b t df ls G ∧ G.Nodup ∧ (∀ g ∈ G, W.heap.size ≤ g) ∧ RdAll w' N G ((lvI t).map En) ∧ Below W.heap.size W w'
set_option maxRecDepth 100000 in
set_option maxHeartbeats 3200000 in
theorem bo_leaf (t : Tr) (hk : t.kind ≠ 0) : BoA t := by
 intro df ls N cs En na nc a c W hdf hls hcs hlc hN hln hcf
 obtain ⟨k, hkl, hid, hfst, hrs, hds, hvs, hen, hlw⟩ := hcf t.id (by rw [lvI_eq, if_neg hk]; simp)
 have HLv : Hid (lvI t = [t.id]) := (by show lvI t = _; rw [lvI_eq, if_neg hk])
 have hct : 1 ≤ t.cnt := by rw [Tr.cnt_eq]; omega
 obtain ⟨w0, HW0, HP, HB⟩ := one_box W #[.int .i64 t.id, .string t.nm, .int .i64 t.rep, .int .i64 t.kind, .slice na t.sub.length nc] 24
 obtain ⟨w1, HW1, HX, HB1⟩ := one_box w0 #[.int .i64 t.rep, .int .i64 (df : Nat), .int .i64 (ls : Nat), .slice none 0 0, .slice none 0 0] 105
 have hs0 : W.heap.size < w0.heap.size := lt_of_block HP.out
 have HBb : Hid (Below W.heap.size W w1) := HB.out.trans (HB1.out.mono (by omega))
 have HPb : Hid _ := blk_keep HB1.out HP.out
 obtain ⟨b, HBn⟩ := hid_name w0.heap.size
 rw [HBn.out] at HX hs0
 obtain ⟨p, HPn⟩ := hid_name W.heap.size
 rw [HPn.out] at HP HPb hs0
 have HLC : Hid (LiesC W a cs) := hlc
 have HFs : Hid _ := hfst
 have HCk : Hid (cs[k].rs = eR (En t.id) ∧ cs[k].ds = eD (En t.id) ∧ cs[k].vs = eV (En t.id) ∧ (En t.id).length ≤ 20000 ∧ cs[k].Lw N) := ⟨hrs, hds, hvs, hen, hlw⟩
 have HId : Hid (cs[k].id = t.id) := hid
 have hkb : (t.kind != 0) = true := by rw [bne_iff_ne]; exact hk
 clear hlc hln hcf hrs hds hvs hen hlw hfst hid
 unfold nodeV
 obtain ⟨⟨n0, n1, n2, n3, n4⟩, _⟩ := row_five HP.out
 obtain ⟨⟨m0, m1, m2, m3, m4⟩, _⟩ := row_five HPb.out
 obtain ⟨⟨x0, x1, x2, x3, x4⟩, _, _, f2, _, _⟩ := row_five HX.out
 go_enter Tryz.func29, Tryz.ntmps29
 go_upto_region 1 with fail
 rw [HW0.out, HPn.out]
 go_upto_region 2 with fail
 rw [HW1.out, HBn.out]
 clear n0 n1 n2 n3 n4
 go_upto_if 22 with fail
 go_cut [] (fun wx => Hid (Below W.heap.size W wx) ∧ Hid (wx.heap[p]? = some (.cells #[.int .i64 t.id, .string t.nm, .int .i64 t.rep, .int .i64 t.kind, .slice na t.sub.length nc] 24 (0, 0))) ∧ Hid (wx.heap[b]? = some (.cells #[.int .i64 t.rep, .int .i64 (df : Nat), .int .i64 (lsN t ls : Nat), .slice none 0 0, .slice none 0 0] 105 (0, 0))))
 case first =>
  have HL : Hid (lsN t ls = if t.rep = 3 then ls + 1 else ls) := rfl
  by_cases h3 : t.rep = 3
  · have q3 : (t.rep == 3) = true := by rw [beq_iff_eq]; exact h3
    have HL2 : Hid (((lsN t ls : Nat) : Int) = (ls : Int) + 1) := (by show _ = _; rw [HL.out, if_pos h3]; omega)
    clear h3
    go_wp2
    go_meet
    exact ⟨HBb.out.setCell (by show W.heap.size ≤ b; have := HPn.out; omega) _, (Below.heap_setCell w1 ⟨b, 2, none⟩ _ p (by show p ≠ b; omega)).trans HPb.out, by rw [HL2.out]; exact row_setC HX.out⟩
  · have q3 : (t.rep == 3) = false := by rw [beq_eq_false_iff_ne]; exact h3
    have HL2 : Hid (lsN t ls = ls) := (by show _ = _; rw [HL.out, if_neg h3])
    clear h3
    go_wp2
    go_meet
    exact ⟨HBb.out, HPb.out, by rw [HL2.out]; exact HX.out⟩
 case rest =>
  obtain ⟨HB2, HP2, HX2⟩ := hcut
  rename World => w2
  clear m0 m1 m2 m3 m4 x0 x1 x2 x3 x4 f2
  obtain ⟨⟨m0, m1, m2, m3, m4⟩, _⟩ := row_five HP2.out
  go_upto_if 32 with fail
  go_cut [1] (fun x wx => x = .int .i64 (dfN t df : Nat) ∧ Hid (wx = w2))
  case first =>
   have HL : Hid (dfN t df = if t.rep = 1 then df else df + 1) := rfl
   by_cases h3 : t.rep = 1
   · have q3 : (t.rep != 1) = false := by rw [bne_eq_false_iff_eq]; exact h3
     have HL2 : Hid (dfN t df = df) := (by show _ = _; rw [HL.out, if_pos h3])
     clear h3
     go_wp2
     go_meet
     exact ⟨by rw [HL2.out], rfl⟩
   · have q3 : (t.rep != 1) = true := by rw [bne_iff_ne]; exact h3
     have HL2 : Hid (((dfN t df : Nat) : Int) = (df : Int) + 1) := (by show _ = _; rw [HL.out, if_neg h3]; omega)
     clear h3
     go_wp2
     go_meet
     exact ⟨by rw [HL2.out], rfl⟩
  case rest =>
   obtain ⟨rfl, HWc⟩ := hcut
   rename World => w3
   rw [HWc.out]
   have HC : Hid _ := ixC p t.id cs hcs a c w2 (HLC.out.keep HB2.out) m0 k hkl HId.out HFs.out
   go_wp2_with fail
   refine Calls.mono HC.out ?_
   rintro e w4 ⟨rfl, hb4⟩
   have HB4 : Hid (Below W.heap.size W w4) := HB2.out.trans (hb4.mono HB2.out.size)
   have HX4 : Hid _ := blk_keep hb4 HX2.out
   obtain ⟨⟨bb, oo, ea, h0, h1, h2, h3⟩, hat⟩ := (HLC.out.keep HB4.out) k hkl
   have HAt : Hid _ := hat
   subst ea
   obtain ⟨x, HXn⟩ := hid_name cs[k]
   rw [HXn.out] at h0 h1 h2 h3 HAt HCk
   obtain ⟨w5, HW5, HG, HB5⟩ := one_box w4 #[.int .i64 x.id, .slice x.ra x.rs.length x.rc, .slice x.da x.ds.length x.dc, .slice x.va x.vs.length x.vc, .int .i64 0, .int .i64 0] 109
   obtain ⟨w6, HW6, HA, HB6⟩ := one_box w5 #[.pointer (some ⟨w4.heap.size, 0, none⟩)] 107
   have q0 : (0 : Int) ≤ (k : Int) := by omega
   have q1 : (k : Int) < (cs.length : Int) := by omega
   have HX6 : Hid _ := blk_keep HB6.out (blk_keep HB5.out HX4.out)
   have y4 := (row_five HX6.out).1.2.2.2.2
   have yf := (row_five HX6.out).2.2.2.2.2
   rw [← HW6.out, ← HW5.out] at y4 yf
   clear HW5 HG HB5 HW6 HA HB6 HX6
   clear w6 w5
   have hb4s := HB4.out.size
   have hbl : b < w4.heap.size := lt_of_block HX4.out
   obtain ⟨w7, HW7⟩ := hid_name (w4.setCell ⟨b, 4, none⟩ (.slice (some ⟨w4.heap.size + 1, 0, none⟩) 1 1))
   have h7s : w7.heap.size = w4.heap.size := by rw [← HW7.out]; simp
   obtain ⟨w5, HW5, HG, HB5⟩ := one_box w7 #[.int .i64 x.id, .slice x.ra x.rs.length x.rc, .slice x.da x.ds.length x.dc, .slice x.va x.vs.length x.vc, .int .i64 0, .int .i64 0] 109
   obtain ⟨w6, HW6, HA, HB6⟩ := one_box w5 #[.pointer (some ⟨w4.heap.size, 0, none⟩)] 107
   have h5s : w5.heap.size = w4.heap.size + 1 := by rw [← HW5.out]; simp [h7s]
   rw [h7s] at HG HB5
   rw [h5s] at HA HB6
   have HX7 : Hid (w7.heap[b]? = some (.cells #[.int .i64 t.rep, .int .i64 (df : Nat), .int .i64 (lsN t ls : Nat), .slice none 0 0, .slice (some ⟨w4.heap.size + 1, 0, none⟩) 1 1] 105 (0, 0))) := (by show w7.heap[b]? = _; rw [← HW7.out]; exact row_setC HX4.out)
   have HB7 : Hid (Below W.heap.size W w7) := (by rw [← HW7.out]; exact HB4.out.setCell (by show W.heap.size ≤ b; have := HPn.out; omega) _)
   have HB9 : Hid (Below W.heap.size W w6) := HB7.out.trans ((HB5.out.mono (by omega)).trans (HB6.out.mono (by omega)))
   have st7 : ∀ k, k ≠ b → w7.heap[k]? = w4.heap[k]? := fun k hk => by rw [← HW7.out]; exact Below.heap_setCell w4 ⟨b, 4, none⟩ _ k hk
   have HFin : Hid (BrI w6 (fun k => W.heap.size ≤ k) b t df ls [w4.heap.size] ∧ RdAll w6 N [w4.heap.size] ((lvI t).map En)) := (by
    have hWp := HPn.out
    have hlow : ∀ k, k < N → w6.heap[k]? = w4.heap[k]? := fun k hk => by
     rw [HB6.out.block k (by omega), HB5.out.block k (by omega), st7 k (by omega)]
    have hkeep : ∀ k, k < w4.heap.size → w6.heap[k]? = w7.heap[k]? := fun k hk => by
     rw [HB6.out.block k (by omega), HB5.out.block k (by omega)]
    refine ⟨.leaf b t df ls w4.heap.size (some ⟨w4.heap.size + 1, 0, none⟩) 1 hk (by show W.heap.size ≤ b; omega) ((hkeep b hbl).trans HX7.out) ?_ (fun a o e => by injection e with e; injection e with e _ _; show W.heap.size ≤ a; omega), ⟨by rw [HLv.out]; rfl, fun j h1 h2 => ?_⟩⟩
    · intro j hj
      have hj0 : j = 0 := by rw [ptrs_len] at hj; simp at hj; omega
      subst hj0
      refine ⟨w4.heap.size + 1, 0, rfl, ?_⟩
      rw [ptrs_at _ 0 _ (by simp), List.getElem_cons_zero]
      exact (row_one HA.out).1
    · have hj0 : j = 0 := by simp at h1; omega
      subst hj0
      have e : ((lvI t).map En)[0] = En t.id := by simp [HLv.out]
      rw [e]
      obtain ⟨hrs, hds, hvs, hen, hlw⟩ := HCk.out
      exact ⟨x, [], ⟨(HB6.out.block _ (by simp)).trans HG.out, ⟨HAt.out.r.lw hlw.r hlow, HAt.out.d.lw hlw.d hlow, HAt.out.v.lw hlw.v hlow⟩, hrs, hds, hvs, hen, hlw, by simp; omega⟩⟩)
   clear hb4 hat HC m0 m1 m2 m3 m4 h5s h7s st7
   go_wp2
   rw [HW7.out, HW5.out, HW6.out]
   go_ret
   exact ⟨b, [w4.heap.size], rfl, HFin.out.1, by simp, fun g hg => by rw [List.mem_singleton] at hg; rw [hg]; exact hb4s, HFin.out.2, HB9.out⟩
theorem ownB_type {w : World} {B e sz n k e2 : Nat} {v : Value} {xs : List Value} {cs : Array Value} {z : Nat × Nat} (hown : w.ownsRow B e sz v n xs) (h : w.heap[k]? = some (.cells cs e2 z)) (hne : e2 ≠ e) : v.ownBlock ≠ some k := fun e3 => by
 rcases hown.2 with ⟨rfl, _⟩ | ⟨g9, cap, cur, rfl, _, hg9, _⟩
 · simp [Value.ownBlock] at e3
 · simp [Value.ownBlock] at e3
   subst e3
   rw [hg9] at h
   injection h with h
   injection h with _ h _
   exact hne h.symm
theorem ownB_ne {w : World} {B e sz n B2 e2 sz2 n2 : Nat} {v v2 : Value} {xs xs2 : List Value} (h1 : w.ownsRow B e sz v n xs) (h2 : w.ownsRow B2 e2 sz2 v2 n2 xs2) (hne : e2 ≠ e) : ∀ k, v2.ownBlock = some k → v.ownBlock ≠ some k := fun k hk => by
 rcases h2.2 with ⟨rfl, _⟩ | ⟨g9, cap, cur, rfl, _, hg9, _⟩
 · simp [Value.ownBlock] at hk
 · simp [Value.ownBlock] at hk
   subst hk
   exact ownB_type h1 hg9 hne
theorem ownB_same {w w' : World} {B e sz n : Nat} {v : Value} {xs : List Value} (h : w.ownsRow B e sz v n xs) (hs : ∀ k, v.ownBlock = some k → w'.heap[k]? = w.heap[k]?) : w'.ownsRow B e sz v n xs := by
 refine ⟨h.1, ?_⟩
 rcases h.2 with hn | ⟨g, cap, cur, rfl, hbg, hg, rest⟩
 · exact .inl hn
 · exact .inr ⟨g, cap, cur, rfl, hbg, (hs g (by simp [Value.ownBlock])).trans hg, rest⟩
structure BoS (b df ls N : Nat) (t : Tr) (En : Int → List Ent) (w : World) (lf lr : Value) (FBs : List Nat) (FGs : List (List Nat)) (FR GR : List Nat) : Prop where
 rowF : w.ownsRow (b + 1) 77 1 lf FR.length (ptrs FR)
 rowR : w.ownsRow (b + 1) 107 1 lr GR.length (ptrs GR)
 len : FBs.length = FGs.length
 le : FBs.length ≤ t.sub.length
 each : ∀ j (h1 : j < FBs.length) (h2 : j < FGs.length) (h3 : j < t.sub.length), BrI w (fun k => b < k ∧ lf.ownBlock ≠ some k ∧ lr.ownBlock ≠ some k) FBs[j] t.sub[j] df ls FGs[j] ∧ RdAll w N FGs[j] ((lvI t.sub[j]).map En)
 nod : FGs.flatten.Nodup
 lt : ∀ g ∈ FGs.flatten, b < g ∧ g < w.heap.size
 nb : N ≤ b
theorem RdAll.typ {w : World} {N : Nat} {G : List Nat} {R : List (List Ent)} (h : RdAll w N G R) : ∀ g ∈ G, ∃ cs z, w.heap[g]? = some (.cells cs 109 z) := fun g hg => by
 obtain ⟨rem, c, done, h2⟩ := h.mem g hg
 exact ⟨_, _, h2.cell⟩
theorem BoS.all {b df ls N : Nat} {t : Tr} {En : Int → List Ent} {w : World} {lf lr : Value} {FBs : List Nat} {FGs : List (List Nat)} {FR GR : List Nat} (h : BoS b df ls N t En w lf lr FBs FGs FR GR) : ∀ g ∈ FGs.flatten, ∃ cs z, w.heap[g]? = some (.cells cs 109 z) := fun g hg => by
 obtain ⟨G, hG, hg⟩ := List.mem_flatten.1 hg
 obtain ⟨j, hj, rfl⟩ := List.getElem_of_mem hG
 exact ((h.each j (by rw [h.len]; exact hj) hj (by have := h.len; have := h.le; omega)).2).typ g hg
theorem BoS.start {b df ls N : Nat} {t : Tr} {En : Int → List Ent} {w : World} (hN : N ≤ b) : BoS b df ls N t En w (.slice none 0 0) (.slice none 0 0) [] [] [] [] :=
 ⟨World.ownsRow_nil _ _ _ _, World.ownsRow_nil _ _ _ _, rfl, Nat.zero_le _, fun j h => absurd h (by simp), by simp, fun g hg => by simp at hg, hN⟩
theorem BoS.call {b df ls N : Nat} {t : Tr} {En : Int → List Ent} {w w' : World} {lf lr : Value} {FBs : List Nat} {FGs : List (List Nat)} {FR GR : List Nat} (h : BoS b df ls N t En w lf lr FBs FGs FR GR) (hbw : b < w.heap.size) (hb : Below w.heap.size w w') (bn : Nat) (Gn : List Nat) (hi : FBs.length < t.sub.length) (hbr : BrI w' (fun k => w.heap.size ≤ k) bn t.sub[FBs.length] df ls Gn) (hnd : Gn.Nodup) (hg : ∀ g ∈ Gn, w.heap.size ≤ g) (hr : RdAll w' N Gn ((lvI t.sub[FBs.length]).map En)) : BoS b df ls N t En w' lf lr (FBs ++ [bn]) (FGs ++ [Gn]) FR GR := by
 have hF : ∀ k, lf.ownBlock = some k → b + 1 ≤ k ∧ k < w.heap.size := fun k hk => h.rowF.lt k hk
 have hR : ∀ k, lr.ownBlock = some k → b + 1 ≤ k ∧ k < w.heap.size := fun k hk => h.rowR.lt k hk
 refine ⟨ownB_same h.rowF (fun k hk => hb.block k (hF k hk).2), ownB_same h.rowR (fun k hk => hb.block k (hR k hk).2), by simp [h.len], by simp; omega, fun j h1 h2 h3 => ?_, ?_, fun g hm => ?_, h.nb⟩
 · by_cases hj : j < FBs.length
   · have hj2 : j < FGs.length := by rw [← h.len]; exact hj
     rw [List.getElem_append_left hj, List.getElem_append_left hj2]
     exact ⟨(h.each j hj hj2 h3).1.kept hb, (h.each j hj hj2 h3).2.below hb⟩
   · have e : j = FBs.length := by simp at h1; omega
     subst e
     have e2 : (FGs ++ [Gn])[FBs.length]'h2 = Gn := by rw [List.getElem_append_right (by rw [h.len]; exact Nat.le_refl _)]; simp
     have e1 : (FBs ++ [bn])[FBs.length]'h1 = bn := by rw [List.getElem_append_right (Nat.le_refl _)]; simp
     rw [e1, e2]
     exact ⟨hbr.stay (fun k hk _ => ⟨by omega, fun e => by have := (hF k e).2; omega, fun e => by have := (hR k e).2; omega⟩) (fun _ _ _ => rfl), hr⟩
 · rw [List.flatten_append, List.nodup_append]
   refine ⟨h.nod, by simpa using hnd, fun x hx y hy => ?_⟩
   have := (h.lt x hx).2
   have := hg y (by simpa using hy)
   omega
 · rw [List.flatten_append, List.mem_append] at hm
   rcases hm with hm | hm
   · have := h.lt g hm; have := hb.size; omega
   · have hm' : g ∈ Gn := by simpa using hm
     have := hg g hm'
     have := (hr.lt g hm').2
     omega
theorem BoS.turnF {b df ls N : Nat} {t : Tr} {En : Int → List Ent} {w w' : World} {lf lr lf' : Value} {FBs : List Nat} {FGs : List (List Nat)} {FR GR FR' : List Nat} (h : BoS b df ls N t En w lf lr FBs FGs FR GR) (hsz : w.heap.size ≤ w'.heap.size) (hk : ∀ k, k < w.heap.size → k ≠ b → lf.ownBlock ≠ some k → w'.heap[k]? = w.heap[k]?) (hw : lf'.ownBlock = lf.ownBlock ∨ ∃ k, lf'.ownBlock = some k ∧ w.heap.size ≤ k) (hrow : w'.ownsRow (b + 1) 77 1 lf' FR'.length (ptrs FR')) : BoS b df ls N t En w' lf' lr FBs FGs FR' GR := by
 have hF : ∀ k, lf.ownBlock = some k → b + 1 ≤ k ∧ k < w.heap.size := fun k hk => h.rowF.lt k hk
 have hR : ∀ k, lr.ownBlock = some k → b + 1 ≤ k ∧ k < w.heap.size := fun k hk => h.rowR.lt k hk
 refine ⟨hrow, ownB_same h.rowR (fun k hk2 => hk k (hR k hk2).2 (by have := (hR k hk2).1; omega) (ownB_ne h.rowF h.rowR (by decide) k hk2)), h.len, h.le, fun j h1 h2 h3 => ⟨(h.each j h1 h2 h3).1.stay (fun k hP hl => ⟨hP.1, ?_, hP.2.2⟩) (fun k hP hl => hk k hl (by have := hP.1; omega) hP.2.1), ⟨(h.each j h1 h2 h3).2.1, fun i h4 h5 => ((h.each j h1 h2 h3).2.2 i h4 h5).keep ?_ (fun a ha => hk a ?_ (by have := h.nb; omega) (fun e => by have := (hF a e).1; have := h.nb; omega))⟩⟩, h.nod, fun g hm => by have := h.lt g hm; omega, h.nb⟩
 · rcases hw with e | ⟨k', e, hge⟩
   · rw [e]; exact hP.2.1
   · rw [e]; simp; omega
 · have hm : FGs[j][i] ∈ FGs.flatten := List.mem_flatten.2 ⟨_, List.getElem_mem h2, List.getElem_mem h4⟩
   obtain ⟨cs, z, hc⟩ := h.all _ hm
   exact hk _ (h.lt _ hm).2 (by have := (h.lt _ hm).1; omega) (ownB_type h.rowF hc (by decide))
 · have hm : FGs[j][i] ∈ FGs.flatten := List.mem_flatten.2 ⟨_, List.getElem_mem h2, List.getElem_mem h4⟩
   have := h.lt _ hm
   have := h.nb
   omega
theorem BoS.turnR {b df ls N : Nat} {t : Tr} {En : Int → List Ent} {w w' : World} {lf lr lr' : Value} {FBs : List Nat} {FGs : List (List Nat)} {FR GR GR' : List Nat} (h : BoS b df ls N t En w lf lr FBs FGs FR GR) (hsz : w.heap.size ≤ w'.heap.size) (hk : ∀ k, k < w.heap.size → k ≠ b → lr.ownBlock ≠ some k → w'.heap[k]? = w.heap[k]?) (hw : lr'.ownBlock = lr.ownBlock ∨ ∃ k, lr'.ownBlock = some k ∧ w.heap.size ≤ k) (hrow : w'.ownsRow (b + 1) 107 1 lr' GR'.length (ptrs GR')) : BoS b df ls N t En w' lf lr' FBs FGs FR GR' := by
 have hF : ∀ k, lf.ownBlock = some k → b + 1 ≤ k ∧ k < w.heap.size := fun k hk => h.rowF.lt k hk
 have hR : ∀ k, lr.ownBlock = some k → b + 1 ≤ k ∧ k < w.heap.size := fun k hk => h.rowR.lt k hk
 refine ⟨ownB_same h.rowF (fun k hk2 => hk k (hF k hk2).2 (by have := (hF k hk2).1; omega) (ownB_ne h.rowR h.rowF (by decide) k hk2)), hrow, h.len, h.le, fun j h1 h2 h3 => ⟨(h.each j h1 h2 h3).1.stay (fun k hP hl => ⟨hP.1, hP.2.1, ?_⟩) (fun k hP hl => hk k hl (by have := hP.1; omega) hP.2.2), ⟨(h.each j h1 h2 h3).2.1, fun i h4 h5 => ((h.each j h1 h2 h3).2.2 i h4 h5).keep ?_ (fun a ha => hk a ?_ (by have := h.nb; omega) (fun e => by have := (hR a e).1; have := h.nb; omega))⟩⟩, h.nod, fun g hm => by have := h.lt g hm; omega, h.nb⟩
 · rcases hw with e | ⟨k', e, hge⟩
   · rw [e]; exact hP.2.2
   · rw [e]; simp; omega
 · have hm : FGs[j][i] ∈ FGs.flatten := List.mem_flatten.2 ⟨_, List.getElem_mem h2, List.getElem_mem h4⟩
   obtain ⟨cs, z, hc⟩ := h.all _ hm
   exact hk _ (h.lt _ hm).2 (by have := (h.lt _ hm).1; omega) (ownB_type h.rowR hc (by decide))
 · have hm : FGs[j][i] ∈ FGs.flatten := List.mem_flatten.2 ⟨_, List.getElem_mem h2, List.getElem_mem h4⟩
   have := h.lt _ hm
   have := h.nb
   omega
theorem grow_keepA {w w' : World} {ob : Obj} {v : Option Nat} (h : (w.alloc ob).grownBy w' v) (k : Nat) (hk : k < w.heap.size) (hn : v ≠ some k) : w'.heap[k]? = w.heap[k]? := by
 rw [h.block k (by simp; omega) (fun e => hn e.symm), heap_alloc_old w ob hk]
theorem grow_belowB {N : Nat} {W w w' : World} {v : Option Nat} (h : Below N W w) (hN : N ≤ W.heap.size) (hg : w.grownBy w' v) (hv : ∀ k, v = some k → N ≤ k) : Below N W w' :=
 ⟨hg.os.trans h.os, hg.tape.trans h.tape, hg.output.trans h.output, Nat.le_trans h.size hg.size, fun k hk => (hg.block k (Nat.lt_of_lt_of_le hk (Nat.le_trans hN h.size)) (fun e => by have := hv k e.symm; omega)).trans (h.block k hk)⟩
mutual
theorem lvC_le : ∀ t : Tr, lvC t ≤ t.cnt
 | .node id nm rep kind sub => by
  rw [lvC, Tr.cnt_eq]
  have := lvCL_le sub
  simp only [Tr.sub]
  split <;> omega
theorem lvCL_le : ∀ ts : List Tr, lvCL ts ≤ cntL ts
 | [] => by rw [lvCL, cntL]; exact Nat.le_refl _
 | t :: ts => by
  rw [lvCL, cntL]
  have := lvC_le t
  have := lvCL_le ts
  omega
end
theorem lvCL_take (ts : List Tr) (i : Nat) : lvCL (ts.take i) ≤ lvCL ts := by
 have h := lvCL_app (ts.take i) (ts.drop i)
 rw [List.take_append_drop] at h
 omega
theorem flat_app (a : List (List Nat)) (b : List Nat) : (a ++ [b]).flatten = a.flatten ++ b := by rw [List.flatten_append]; simp
theorem BoS.flen {b df ls N : Nat} {t : Tr} {En : Int → List Ent} {w : World} {lf lr : Value} {FBs : List Nat} {FGs : List (List Nat)} {FR GR : List Nat} (h : BoS b df ls N t En w lf lr FBs FGs FR GR) : FGs.flatten.length ≤ cntL t.sub := by
 have hx : ∀ n, n ≤ FGs.length → (FGs.take n).flatten.length = lvCL (t.sub.take n) := by
  intro n
  induction n with
  | zero => intro _; simp [lvCL]
  | succ n ih =>
   intro hn
   have hl := h.len
   have hle := h.le
   rw [List.take_succ_eq_append_getElem (by omega), flat_app, List.length_append, ih (by omega), List.take_succ_eq_append_getElem (by omega), lvCL_app, ((h.each n (by omega) (by omega) (by omega)).1.at_.len)]
   simp [lvCL]
 have := hx FGs.length (Nat.le_refl _)
 rw [List.take_length] at this
 rw [this]
 exact Nat.le_trans (lvCL_take _ _) (lvCL_le _)
theorem RdAll.app {w : World} {N : Nat} {G G2 : List Nat} {R R2 : List (List Ent)} (h : RdAll w N G R) (h2 : RdAll w N G2 R2) : RdAll w N (G ++ G2) (R ++ R2) := by
 refine ⟨by rw [List.length_append, List.length_append, h.1, h2.1], fun j h3 h4 => ?_⟩
 by_cases hj : j < G.length
 · rw [List.getElem_append_left hj, List.getElem_append_left (by rw [← h.1]; exact hj)]
   exact h.2 j hj _
 · rw [List.getElem_append_right (by omega), List.getElem_append_right (by rw [← h.1]; omega)]
   have e : j - R.length = j - G.length := by rw [h.1]
   have h5 := h2.2 (j - G.length) (by simp at h3; omega) (by rw [← h2.1]; simp at h3; omega)
   simpa only [e] using h5
theorem flat_rdAll {w : World} {N : Nat} (En : Int → List Ent) : ∀ (FGs : List (List Nat)) (ts : List Tr), FGs.length = ts.length → (∀ j (h1 : j < FGs.length) (h2 : j < ts.length), RdAll w N FGs[j] ((lvI ts[j]).map En)) → RdAll w N FGs.flatten ((lvIL ts).map En)
 | [], [], _, _ => ⟨rfl, fun j h => absurd h (by simp)⟩
 | [], _ :: _, h, _ => by simp at h
 | _ :: _, [], h, _ => by simp at h
 | G :: FGs, t :: ts, hl, h => by
  rw [lvIL, List.map_append, List.flatten_cons]
  exact (h 0 (by simp) (by simp)).app (flat_rdAll En FGs ts (by simpa using hl) (fun j h1 h2 => h (j + 1) (by simpa using h1) (by simpa using h2)))
theorem map_getD (FBs : List Nat) : (List.range FBs.length).map (fun j => FBs.getD j 0) = FBs := by
 apply List.ext_getElem (by simp)
 intro j h1 h2
 simp [List.getD, h2]
theorem flatMap_getD (FGs : List (List Nat)) : (List.range FGs.length).flatMap (fun j => FGs.getD j []) = FGs.flatten := by
 have h : (List.range FGs.length).map (fun j => FGs.getD j []) = FGs := by
  apply List.ext_getElem (by simp)
  intro j h1 h2
  simp [List.getD, h2]
 rw [List.flatMap_def, h]
theorem Tryz.infoBr : (Tryz.prog.info? 77).map (fun i => (i.zero, i.size, i.bytes)) = some (some (.pointer none), 1, 8) := by kernel_rfl
theorem Tryz.infoRd : (Tryz.prog.info? 107).map (fun i => (i.zero, i.size, i.bytes)) = some (some (.pointer none), 1, 8) := by kernel_rfl
theorem lvIL_mem : ∀ (ts : List Tr) (i : Nat) (h : i < ts.length) (x : Int), x ∈ lvI ts[i] → x ∈ lvIL ts
 | [], _, h, _, _ => absurd h (Nat.not_lt_zero _)
 | t :: ts, 0, _, x, hx => by rw [lvIL]; exact List.mem_append_left _ hx
 | t :: ts, i + 1, h, x, hx => by rw [lvIL]; exact List.mem_append_right _ (lvIL_mem ts i (by simpa using h) x (by simpa using hx))
theorem own_shp {w : World} {B e sz n : Nat} {v : Value} {xs : List Value} (h : w.ownsRow B e sz v n xs) : ∃ a c, v = .slice a n c := by
 rcases h.2 with ⟨rfl, rfl⟩ | ⟨g, cap, cur, rfl, _⟩
 · exact ⟨none, 0, rfl⟩
 · exact ⟨_, cap, rfl⟩
theorem ptrs_app (a b : List Nat) : ptrs (a ++ b) = ptrs a ++ ptrs b := List.map_append
set_option maxRecDepth 100000 in
set_option maxHeartbeats 6400000 in
theorem bo_group (t : Tr) (hk : t.kind = 0) (h0 : 0 < t.sub.length) (each : ∀ j (h : j < t.sub.length), BoA t.sub[j]) : BoA t := by
 intro df ls N cs En na nc a c W hdf hls hcs hlc hN hln hcf
 obtain ⟨iv, hvi, hv0, hv1, hv2⟩ := info_parts Tryz.infoBr
 obtain ⟨iw, hwi, hwz, hwo, hwt⟩ := info_parts Tryz.infoRd
 have hct : t.cnt = 1 + cntL t.sub := Tr.cnt_eq t
 have hsl : t.sub.length ≤ 1000 := by
  have h : ∀ ts : List Tr, ts.length ≤ cntL ts := fun ts => by
   induction ts with
   | nil => simp
   | cons x xs ih => rw [cntL, List.length_cons]; have := Tr.cnt_eq x; omega
  have := h t.sub
  omega
 obtain ⟨w0, HW0, HP, HB⟩ := one_box W #[.int .i64 t.id, .string t.nm, .int .i64 t.rep, .int .i64 t.kind, .slice na t.sub.length nc] 24
 obtain ⟨w1, HW1, HX, HB1⟩ := one_box w0 #[.int .i64 t.rep, .int .i64 (df : Nat), .int .i64 (ls : Nat), .slice none 0 0, .slice none 0 0] 105
 have hs0 : W.heap.size < w0.heap.size := lt_of_block HP.out
 have HBb : Hid (Below W.heap.size W w1) := HB.out.trans (HB1.out.mono (by omega))
 have HPb : Hid _ := blk_keep HB1.out HP.out
 obtain ⟨b, HBn⟩ := hid_name w0.heap.size
 rw [HBn.out] at HX hs0
 obtain ⟨p, HPn⟩ := hid_name W.heap.size
 rw [HPn.out] at HP HPb hs0
 have HLC : Hid (LiesC W a cs) := hlc
 have HLN : Hid (LiesN W (fun _ => True) na t.sub) := hln
 have HNb : Hid (N ≤ b) := (by have := HPn.out; show N ≤ b; omega)
 have HWb : Hid (W.heap.size ≤ b) := (by have := HPn.out; show _ ≤ b; omega)
 have HEach : Hid (∀ i (h : i < t.sub.length) (X : World) (a1 : Option Addr) (c1 : Nat), Below W.heap.size W X → LiesN X (fun _ => True) a1 t.sub[i].sub → Calls Tryz.prog 29 #[.agg #[.int .i64 t.sub[i].id, .string t.sub[i].nm, .int .i64 t.sub[i].rep, .int .i64 t.sub[i].kind, .slice a1 t.sub[i].sub.length c1], .int .i64 (dfN t df : Nat), .int .i64 (lsN t ls : Nat), .slice a cs.length c] X fun e w' => ∃ b G, e = .returned (.pointer (some ⟨b, 0, none⟩)) ∧ BrI w' (fun k => X.heap.size ≤ k) b t.sub[i] (dfN t df) (lsN t ls) G ∧ G.Nodup ∧ (∀ g ∈ G, X.heap.size ≤ g) ∧ RdAll w' N G ((lvI t.sub[i]).map En) ∧ Below X.heap.size X w') := fun i h X a1 c1 hX hl => by
  have hlt := asub_cnt i h
  have hd : dfN t df ≤ df + 1 := by unfold dfN; split <;> omega
  have hl2 := (lsN_ge t ls).2
  exact each i h (dfN t df) (lsN t ls) N cs En a1 c1 a c X (by omega) (by omega) hcs (hlc.keep hX) (Nat.le_trans hN hX.size) hl (fun x hx => hcf x (by rw [lvI_eq, if_pos hk]; exact lvIL_mem _ i h x hx))
 have hkb : (t.kind != 0) = false := by rw [bne_eq_false_iff_eq]; exact hk
 have HK : Hid (t.kind = 0) := hk
 have HCt : Hid (cntL t.sub ≤ 1000) := (by show _ ≤ _; omega)
 clear hlc hln hcf each hct hk
 unfold nodeV
 obtain ⟨⟨n0, n1, n2, n3, n4⟩, _⟩ := row_five HP.out
 obtain ⟨⟨m0, m1, m2, m3, m4⟩, _⟩ := row_five HPb.out
 obtain ⟨⟨x0, x1, x2, x3, x4⟩, _, _, f2, _, _⟩ := row_five HX.out
 go_enter Tryz.func29, Tryz.ntmps29
 go_upto_region 1 with fail
 rw [HW0.out, HPn.out]
 go_upto_region 2 with fail
 rw [HW1.out, HBn.out]
 clear n0 n1 n2 n3 n4
 go_upto_if 22 with fail
 go_cut [] (fun wx => Hid (Below W.heap.size W wx) ∧ Hid (wx.heap[p]? = some (.cells #[.int .i64 t.id, .string t.nm, .int .i64 t.rep, .int .i64 t.kind, .slice na t.sub.length nc] 24 (0, 0))) ∧ Hid (wx.heap[b]? = some (.cells #[.int .i64 t.rep, .int .i64 (df : Nat), .int .i64 (lsN t ls : Nat), .slice none 0 0, .slice none 0 0] 105 (0, 0))))
 case first =>
  have HL : Hid (lsN t ls = if t.rep = 3 then ls + 1 else ls) := rfl
  by_cases h3 : t.rep = 3
  · have q3 : (t.rep == 3) = true := by rw [beq_iff_eq]; exact h3
    have HL2 : Hid (((lsN t ls : Nat) : Int) = (ls : Int) + 1) := (by show _ = _; rw [HL.out, if_pos h3]; omega)
    clear h3
    go_wp2
    go_meet
    exact ⟨HBb.out.setCell (by show W.heap.size ≤ b; have := HPn.out; omega) _, (Below.heap_setCell w1 ⟨b, 2, none⟩ _ p (by show p ≠ b; omega)).trans HPb.out, by rw [HL2.out]; exact row_setC HX.out⟩
  · have q3 : (t.rep == 3) = false := by rw [beq_eq_false_iff_ne]; exact h3
    have HL2 : Hid (lsN t ls = ls) := (by show _ = _; rw [HL.out, if_neg h3])
    clear h3
    go_wp2
    go_meet
    exact ⟨HBb.out, HPb.out, by rw [HL2.out]; exact HX.out⟩
 case rest =>
  obtain ⟨HB2, HP2, HX2⟩ := hcut
  rename World => w2
  clear m0 m1 m2 m3 m4 x0 x1 x2 x3 x4 f2
  obtain ⟨⟨m0, m1, m2, m3, m4⟩, _⟩ := row_five HP2.out
  go_upto_if 32 with fail
  go_cut [1] (fun x wx => x = .int .i64 (dfN t df : Nat) ∧ Hid (wx = w2))
  case first =>
   have HL : Hid (dfN t df = if t.rep = 1 then df else df + 1) := rfl
   by_cases h3 : t.rep = 1
   · have q3 : (t.rep != 1) = false := by rw [bne_eq_false_iff_eq]; exact h3
     have HL2 : Hid (dfN t df = df) := (by show _ = _; rw [HL.out, if_pos h3])
     clear h3
     go_wp2
     go_meet
     exact ⟨by rw [HL2.out], rfl⟩
   · have q3 : (t.rep != 1) = true := by rw [bne_iff_ne]; exact h3
     have HL2 : Hid (((dfN t df : Nat) : Int) = (df : Int) + 1) := (by show _ = _; rw [HL.out, if_neg h3]; omega)
     clear h3
     go_wp2
     go_meet
     exact ⟨by rw [HL2.out], rfl⟩
  case rest =>
   obtain ⟨rfl, HWc⟩ := hcut
   rename World => w3
   rw [HWc.out]
   have HX3 : Hid _ := HX2.out
   have HS0 : Hid (BoS b (dfN t df) (lsN t ls) N t En w2 (.slice none 0 0) (.slice none 0 0) [] [] [] ([] : List (List Nat)).flatten) := BoS.start HNb.out
   go_wp2_with fail
   go_loopw [55] (fun x wr => ∃ (i : Nat) (lf lr : Value) (FBs : List Nat) (FGs : List (List Nat)), FBs.length = i ∧ i ≤ t.sub.length ∧ x = .int .i64 i ∧ Hid (Below W.heap.size W wr) ∧ Hid (wr.heap[b]? = some (.cells #[.int .i64 t.rep, .int .i64 (df : Nat), .int .i64 (lsN t ls : Nat), lf, lr] 105 (0, 0))) ∧ Hid (BoS b (dfN t df) (lsN t ls) N t En wr lf lr FBs FGs FBs FGs.flatten)) (fun x _ => t.sub.length - (intOf x).toNat)
   case atStart => exact ⟨0, _, _, [], [], rfl, Nat.zero_le _, rfl, HB2, HX3, HS0⟩
   case round =>
    clear HS0 HX3 m0 m1 m2 m3 m4
    obtain ⟨i, lf, lr, FBs, FGs, rfl, hik, rfl, HBr, HXr, HS⟩ := hrel
    obtain ⟨fa, fc, rfl⟩ := own_shp HS.out.rowF
    obtain ⟨ra, rc, rfl⟩ := own_shp HS.out.rowR
    have hbr : b < wr.heap.size := lt_of_block HXr.out
    obtain ⟨m, HM⟩ := hid_name FGs.flatten.length
    rw [HM.out] at HXr HS
    by_cases hlt : FBs.length < t.sub.length
    · obtain ⟨bb, o, a1, c1, rfl, d0, d1, d2, d3, d4, hl1⟩ := (HLN.out.keep HBr.out).at_ FBs.length hlt
      obtain ⟨w5, HW5, HZ5, HB5⟩ := one_box wr #[.int .i64 t.sub[FBs.length].id, .string t.sub[FBs.length].nm, .int .i64 t.sub[FBs.length].rep, .int .i64 t.sub[FBs.length].kind, .slice a1 t.sub[FBs.length].sub.length c1] 24
      have HBw5 : Hid (Below W.heap.size W w5) := HBr.out.trans (HB5.out.mono HBr.out.size)
      have HC : Hid _ := HEach.out FBs.length hlt w5.drew a1 c1 HBw5.out.drew ((hl1.keep HB5.out).stay (fun _ h _ => h) (fun _ _ _ => rfl))
      have HX5 : Hid _ := blk_keep HB5.out HXr.out
      obtain ⟨x, HXn⟩ := hid_name t.sub[FBs.length]
      have q0 : (0 : Int) ≤ (FBs.length : Int) := by omega
      have q1 : (FBs.length : Int) < (t.sub.length : Int) := by omega
      rw [HXn.out] at HC HW5 HZ5 d0 d1 d2 d3 d4
      clear hl1
      go_upto_region 13 with fail
      rw [HW5.out]
      clear d0 d1 d2 d3 d4
      obtain ⟨⟨n0, n1, n2, n3, n4⟩, _⟩ := row_five HZ5.out
      obtain ⟨⟨x0, x1, x2, x3, x4⟩, _⟩ := row_five HX5.out
      go_cut [13] (fun y wx => ∃ (bn : Nat) (Gn : List Nat), y = .pointer (some ⟨bn, 0, none⟩) ∧ Hid (BrI wx (fun k => wr.heap.size ≤ k) bn x (dfN t df) (lsN t ls) Gn) ∧ Hid (Gn.Nodup ∧ (∀ g ∈ Gn, wr.heap.size ≤ g)) ∧ Hid (RdAll wx N Gn ((lvI x).map En)) ∧ Hid (Below wr.heap.size wr wx))
      case first =>
       go_region_law (go_simp; refine Calls.mono HC.out ?_; rintro e wx ⟨bn, Gn, rfl, hbr1, hnd1, hg1, hr1, hb1⟩)
       all_goals
        go_wp2
        go_meet
        have hs5 : wr.heap.size ≤ w5.heap.size := HB5.out.size
        exact ⟨bn, Gn, rfl, hbr1.stay (fun k h _ => Nat.le_trans hs5 h) (fun _ _ _ => rfl), ⟨hnd1, fun g hg => Nat.le_trans hs5 (hg1 g hg)⟩, hr1, HB5.out.drew.trans (hb1.mono hs5)⟩
      case rest =>
       obtain ⟨bn, Gn, rfl, HBn2, HGn, HRd, HBw⟩ := hcut
       rename World => w6
       clear n0 n1 n2 n3 n4 x0 x1 x2 x3 x4 HC
       have HS6 : Hid (BoS b (dfN t df) (lsN t ls) N t En w6 (.slice fa FBs.length fc) (.slice ra m rc) (FBs ++ [bn]) (FGs ++ [Gn]) FBs FGs.flatten) := HS.out.call hbr HBw.out bn Gn hlt (by rw [HXn.out]; exact HBn2.out) HGn.out.1 HGn.out.2 (by rw [HXn.out]; exact HRd.out)
       have HX6 : Hid _ := blk_keep HBw.out HXr.out
       have HB6 : Hid (Below W.heap.size W w6) := HBr.out.trans (HBw.out.mono HBr.out.size)
       have hb6 : b < w6.heap.size := lt_of_block HX6.out
       obtain ⟨⟨x0, x1, x2, x3, x4⟩, _⟩ := row_five HX6.out
       go_upto_region 15 with (at_builtin; refine wpList_append_where _ rfl _ _ 102 rfl (b + 1) 77 iv (.pointer none) 1 8 Tryz.underlying102 hvi hv0 hv1 hv2 rfl (by decide) _ FBs.length (ptrs FBs) rfl (HS6.out.rowF.alloc _) ⟨_, 0, none⟩ 1 1 [.pointer (some ⟨bn, 0, none⟩)] rfl rfl (cell_one_new _ _ _) (by intro u hu; simp at hu; subst hu; rfl) (by unfold maxLen; omega) (by omega) (by simp; omega) (by decide) ?_; intro lf' w7 hown7 hgrow7 hwh7; obtain ⟨fa', fc', rfl⟩ := own_shp hown7; have HX7 : Hid _ := (grow_keepA hgrow7 b hb6 (fun e => by have := (HS6.out.rowF.lt b e).1; omega)).trans HX6.out; clear x0 x1 x2 x3 x4; obtain ⟨⟨x0, x1, x2, x3, x4⟩, _, _, _, f3, _⟩ := row_five HX7.out; have HOw7 : Hid (w7.ownsRow (b + 1) 77 1 (.slice fa' (FBs.length + 1) fc') (FBs.length + 1) (ptrs FBs ++ [.pointer (some ⟨bn, 0, none⟩)])) := hown7; have HGr7 : Hid _ := hgrow7; have HWh7 : Hid _ := hwh7; clear hown7 hgrow7 hwh7)
       obtain ⟨w8, HW8⟩ := hid_name (w7.setCell ⟨b, 3, none⟩ (.slice fa' (FBs.length + 1) fc'))
       have h78 : w8.heap.size = w7.heap.size := by rw [← HW8.out]; simp
       have h67 : w6.heap.size ≤ w7.heap.size := by have := HGr7.out.size; simp at this; omega
       have HS8 : Hid (BoS b (dfN t df) (lsN t ls) N t En w8 (.slice fa' (FBs.length + 1) fc') (.slice ra m rc) (FBs ++ [bn]) (FGs ++ [Gn]) (FBs ++ [bn]) FGs.flatten) := HS6.out.turnF (by omega) (fun k hk hkb ho => by
        rw [← HW8.out, Below.heap_setCell w7 ⟨b, 3, none⟩ _ k hkb]
        exact grow_keepA HGr7.out k hk ho) (by
        rcases HWh7.out with ⟨e, _⟩ | e
        · exact .inl e
        · exact .inr ⟨_, e, by simp⟩) (by
        have h := HOw7.out
        rw [ptrs_app, List.length_append]
        refine ownB_same h (fun k hk => ?_)
        have := (h.lt k hk).1
        rw [← HW8.out]
        exact Below.heap_setCell w7 ⟨b, 3, none⟩ _ k (by show k ≠ b; omega))
       have HX8 : Hid (w8.heap[b]? = some (.cells #[.int .i64 t.rep, .int .i64 (df : Nat), .int .i64 (lsN t ls : Nat), .slice fa' (FBs.length + 1) fc', .slice ra m rc] 105 (0, 0))) := (by show w8.heap[b]? = _; rw [← HW8.out]; exact row_setC HX7.out)
       have HB8 : Hid (Below W.heap.size W w8) := (by
        rw [← HW8.out]
        exact (grow_belowB (HB6.out.alloc HB6.out.size _) (Nat.le_refl _) HGr7.out (fun k hk => by have := (HS6.out.rowF.lt k hk).1; have := HWb.out; omega)).setCell HWb.out _)
       have hEl : (FBs ++ [bn])[FBs.length]'(by simp) = bn := by rw [List.getElem_append_right (Nat.le_refl _)]; simp
       have hlen8 := HS.out.len
       have hEg : (FGs ++ [Gn])[FBs.length]'(by simp [hlen8]) = Gn := by rw [List.getElem_append_right (by rw [hlen8]; exact Nat.le_refl _)]; simp [hlen8]
       have hbx := (HS8.out.each FBs.length (by simp) (by simp [hlen8]) hlt).1.at_
       rw [hEl, hEg] at hbx
       have hpos := hbx.pos
       obtain ⟨fv, ra2, rc2, hcell2, hra2, _⟩ := hbx.box
       have c4 := (row_fiveB hcell2).2.2.2.2
       obtain ⟨rb, ro, e2, _⟩ := hra2 0 (by rw [ptrs_len]; exact hpos)
       subst e2
       have HNews : Hid (∀ j u, (ptrs Gn)[j]? = some u → w8.drew.cell? ((⟨rb, ro, none⟩ : Addr).add j) = some u) := fun j u hu => by
        obtain ⟨hj, e⟩ := List.getElem?_eq_some_iff.1 hu
        obtain ⟨b3, o3, e3, h3⟩ := hra2 j hj
        injection e3 with e3
        injection e3 with e3 e4 _
        subst e3
        subst e4
        rw [addr_plus, ← e]
        exact h3
       have hfl := HS8.out.flen
       rw [flat_app, List.length_append, HM.out] at hfl
       have HRowR : Hid (w8.drew.ownsRow (b + 1) 107 1 (.slice ra m rc) m (ptrs FGs.flatten)) := (by
        have h : w8.drew.ownsRow _ _ _ _ _ _ := ownB_same HS8.out.rowR (fun _ _ => rfl)
        rw [HM.out] at h
        exact h)
       have hct := HCt.out
       have hb8 : b < w8.heap.size := lt_of_block HX8.out
       clear x0 x1 x2 x3 x4 f3 hbx hra2 hcell2 hEl hEg h78
       rw [HW8.out]
       obtain ⟨⟨x0, x1, x2, x3, x4⟩, _⟩ := row_five HX8.out
       go_region_law (refine step_own_where _ rfl _ _ 103 rfl (b + 1) 107 iw (.pointer none) 1 8 Tryz.underlying103 hwi hwz hwo hwt rfl (by decide) (.slice ra m rc) m (ptrs FGs.flatten) rfl HRowR.out ⟨rb, ro, none⟩ Gn.length rc2 (ptrs Gn) rfl (by rw [ptrs_len]; omega) HNews.out (by intro u hu; obtain ⟨g, _, rfl⟩ := List.mem_map.1 hu; rfl) (by unfold maxLen; omega) (by omega) (by show b + 1 ≤ w8.heap.size; omega) hpos ?_; intro lr' w9 hown9 hgrow9 hwh9; obtain ⟨ra', rc', rfl⟩ := own_shp hown9; have HX9 : Hid _ := (hgrow9.block b hb8 (fun e => by have := (HS8.out.rowR.lt b e.symm).1; omega)).trans HX8.out; clear x0 x1 x2 x3 x4; obtain ⟨⟨x0, x1, x2, x3, x4⟩, _, _, _, _, f4⟩ := row_five HX9.out; have HOw9 : Hid (w9.ownsRow (b + 1) 107 1 (.slice ra' (m + Gn.length) rc') (m + Gn.length) (ptrs FGs.flatten ++ ptrs Gn)) := hown9; have HGr9 : Hid _ := hgrow9; have HWh9 : Hid _ := hwh9; clear hown9 hgrow9 hwh9)
       all_goals
        have HXz : Hid ((w9.setCell ⟨b, 4, none⟩ (.slice ra' (m + Gn.length) rc')).heap[b]? = some (.cells #[.int .i64 t.rep, .int .i64 (df : Nat), .int .i64 (lsN t ls : Nat), .slice fa' (FBs.length + 1) fc', .slice ra' (m + Gn.length) rc'] 105 (0, 0))) := row_setC HX9.out
        have HBz : Hid (Below W.heap.size W (w9.setCell ⟨b, 4, none⟩ (.slice ra' (m + Gn.length) rc'))) := (grow_belowB HB8.out.drew (Nat.le_refl _) HGr9.out (fun k hk => by have := (HS8.out.rowR.lt k hk).1; have := HWb.out; omega)).setCell HWb.out _
        have HSz : Hid (BoS b (dfN t df) (lsN t ls) N t En (w9.setCell ⟨b, 4, none⟩ (.slice ra' (m + Gn.length) rc')) (.slice fa' (FBs.length + 1) fc') (.slice ra' (m + Gn.length) rc') (FBs ++ [bn]) (FGs ++ [Gn]) (FBs ++ [bn]) (FGs ++ [Gn]).flatten) := (by
         refine HS8.out.turnR ?_ (fun k hk hkb ho => ?_) ?_ ?_
         · have := HGr9.out.size
           simpa using this
         · rw [Below.heap_setCell w9 ⟨b, 4, none⟩ _ k hkb]
           exact HGr9.out.block k hk (fun e => ho e.symm)
         · rcases HWh9.out with ⟨e, _⟩ | e
           · exact .inl e
           · exact .inr ⟨_, e, Nat.le_refl _⟩
         · rw [flat_app, ptrs_app, List.length_append, HM.out]
           refine ownB_same HOw9.out (fun k hk => ?_)
           have h9 := HOw9.out
           have := (h9.lt k hk).1
           exact Below.heap_setCell w9 ⟨b, 4, none⟩ _ k (by show k ≠ b; omega))
        go_wp2
        go_roundw
        case rel => exact ⟨FBs.length + 1, _, _, FBs ++ [bn], FGs ++ [Gn], by simp, hlt, by go_num, HBz, HXz, HSz⟩
        case measure => simp [intOf]; omega
    · have hn : FBs.length = t.sub.length := by omega
      have hlen8 := HS.out.len
      have HFin : Hid (BrI wr (fun k => W.heap.size ≤ k) b t df ls FGs.flatten ∧ RdAll wr N FGs.flatten ((lvI t).map En)) := (by
       have hS := HS.out
       have hX := HXr.out
       rw [hn, ← HM.out] at hX
       have hfl : Lies wr fa (ptrs FBs) := own_liesX hS.rowF
       have hrl : Lies wr ra (ptrs FGs.flatten) := (by
        have h := hS.rowR
        rw [HM.out] at h
        exact own_liesX h)
       have hWb := HWb.out
       refine ⟨.group b t df ls fa fc ra rc (fun j => FBs.getD j 0) (fun j => FGs.getD j []) FGs.flatten HK.out h0 hWb hX (by rw [← hn, map_getD]; exact hfl) (fun a o e => ?_) (fun j h => ?_) hrl (fun a o e => ?_) (by rw [← hn, hlen8, flatMap_getD]), by rw [lvI_eq, if_pos HK.out]; exact flat_rdAll En FGs t.sub (by omega) (fun j h1 h2 => (hS.each j (by omega) h1 h2).2)⟩
       · have := (hS.rowF.lt a (by rw [e]; rfl)).1
         show W.heap.size ≤ a
         omega
       · have e1 : FBs.getD j 0 = FBs[j]'(by omega) := by simp [List.getD, show j < FBs.length by omega]
         have e2 : FGs.getD j [] = FGs[j]'(by omega) := by simp [List.getD, show j < FGs.length by omega]
         show BrI _ _ (FBs.getD j 0) _ _ _ (FGs.getD j [])
         rw [e1, e2]
         exact (hS.each j (by omega) (by omega) h).1.stay (fun k hk _ => by have := hk.1; omega) (fun _ _ _ => rfl)
       · have := (hS.rowR.lt a (by rw [e]; rfl)).1
         show W.heap.size ≤ a
         omega)
      have HLt : Hid (∀ g ∈ FGs.flatten, W.heap.size ≤ g) := fun g hg => by have := (HS.out.lt g hg).1; have := HWb.out; omega
      go_wp2
      go_ret
      exact ⟨b, FGs.flatten, rfl, HFin.out.1, HS.out.nod, HLt.out, HFin.out.2, HBr.out⟩
theorem bo_any : ∀ (n : Nat) (t : Tr), SizeOf.sizeOf t < n → (∀ y ∈ ndT t, y.kind = 0 → 0 < y.sub.length) → BoA t
 | 0, t, h => absurd h (Nat.not_lt_zero _)
 | n + 1, t, hsz => fun hs => by
  by_cases hk : t.kind = 0
  · refine bo_group t hk (hs t (by rw [ndT_eq]; exact List.mem_cons_self) hk) (fun j h => bo_any n t.sub[j] ?_ (fun y hy => hs y (nd_sub (List.getElem_mem h) hy)))
    have h1 := List.sizeOf_lt_of_mem (List.getElem_mem h)
    have h2 : SizeOf.sizeOf t.sub < SizeOf.sizeOf t := by
     cases t with
     | node id nm rep kind sub => simp only [Tr.sub, Tr.node.sizeOf_spec]; omega
    omega
  · exact bo_leaf t hk
theorem right_grp {t : Tr} (hs : shpT t = true) : ∀ y ∈ ndT t, (1 ≤ y.rep ∧ y.rep ≤ 3) ∧ (y.kind = 0 → 0 < y.sub.length) := fun y hy => by
 rw [shp_all, Bool.and_eq_true] at hs
 have h : shpOk y = true := by
  rw [ndT_eq] at hy
  rcases List.mem_cons.1 hy with rfl | hy
  · exact hs.1
  · exact List.all_eq_true.1 hs.2 y hy
 unfold shpOk at h
 simp only [Bool.and_eq_true, decide_eq_true_iff] at h
 refine ⟨h.1.1, fun hk => ?_⟩
 have h2 := h.2
 rw [hk] at h2
 simpa using h2
def lix : Tr → List Tr → Nat
 | _, [] => 0
 | t, x :: q => lvCL (t.sub.take (ixO t.sub x.id)) + lix x q
theorem lix_lt : ∀ (q : List Tr) (t : Tr), Chn t q → lix t q < lvC t
 | [], t, h => by
  have hk : t.kind ≠ 0 := h
  rw [lix, lvC_eq, if_neg hk]
  omega
 | x :: q, t, h => by
  obtain ⟨hk, ⟨i, hi, e, hf⟩, hq⟩ := h
  have ih := lix_lt q x hq
  rw [lix, ixO_at hi e hf, lvC_eq, if_pos hk]
  have h1 : lvCL (t.sub.take (i + 1)) = lvCL (t.sub.take i) + lvC x := by
   rw [List.take_succ_eq_append_getElem hi, lvCL_app, e]
   simp [lvCL]
  have h2 := lvCL_take t.sub (i + 1)
  omega
theorem zipA_get {A B : List (List Ent)} {k : Nat} {a b : List Ent} (h1 : A[k]? = some a) (h2 : B[k]? = some b) : (zipA A B)[k]? = some (a ++ b) := by
 unfold zipA
 rw [List.getElem?_zipWith, h1, h2]
theorem abs_get (t : Tr) (df : Nat) (rep : Int) (k : Nat) (h : k < lvC t) : (absE t df rep)[k]? = some [⟨rep, (df : Int), none⟩] := by
 unfold absE
 rw [List.getElem?_replicate, if_pos h]
theorem enF_at (df ls : Nat) (rep : Int) (ts : List Tr) (ds : List Dt) (hl : ds.length = ts.length) (hck : ∀ j (h : j < ts.length) (h' : j < ds.length), chk false ts[j] ds[j] = 0) (i : Nat) (h : i < ts.length) (h' : i < ds.length) (k : Nat) (hk : k < lvC ts[i]) : (enF ts df ls rep ds)[lvCL (ts.take i) + k]? = (en false ts[i] df ls rep ds[i])[k]? := by
 obtain ⟨tl, e⟩ := enF_split df ls rep i ts ds h h'
 have h1 : (enF (ts.take i) df ls rep (ds.take i)).length = lvCL (ts.take i) := enF_len _ _ _ _ _ (by simp [hl]) (fun j h1 h2 => by
  rw [List.length_take] at h1 h2
  simp only [List.getElem_take]
  exact hck j (by omega) (by omega))
 have h2 := en_len ds[i] false ts[i] df ls rep (hck i h h')
 rw [e, List.getElem?_append_right (by omega), h1, Nat.add_sub_cancel_left, List.getElem?_append_left (by omega)]
theorem enL_get (x : Tr) (df ls k : Nat) (F : Dt → Int → List Ent) (hk : k < lvC x) : ∀ (es : List Dt), (∀ e ∈ es, (en true x df ls (ls : Int) e)[k]? = some (F e (ls : Int))) → (enL x df ls (ls : Int) es)[k]? = some (es.flatMap fun y => F y (ls : Int))
 | [], _ => by rw [enL, List.getElem?_replicate, if_pos hk]; rfl
 | e :: es, h => by
  rw [enL, List.flatMap_cons]
  exact zipA_get (h e List.mem_cons_self) (enL_get x df ls k F hk es (fun y hy => h y (List.mem_cons_of_mem _ hy)))
theorem en_dn : ∀ (q : List Tr) (t : Tr) (md df ls : Nat) (rep : Int) (d : Dt), Chn t q → chk true t d = 0 → df + lvD q = md → (en true t df ls rep d)[lix t q]? = some (dn md (stq t q df ls) d rep)
 | [], t, md, df, ls, rep, d, hc, h, hm => by
  have hk : t.kind ≠ 0 := hc
  have e : md = df := by rw [← hm]; rfl
  rw [en_eq, if_neg (by simp), if_neg (by simp), if_neg hk, stq, dn, lix, e]
  simp
 | x :: q, t, md, df, ls, rep, d, hc, h, hm => by
  obtain ⟨hk, ⟨i, hi, e, hf⟩, hq⟩ := hc
  obtain ⟨_, _, hl, h4⟩ := chk_grp hk h
  have hi' : i < d.f.length := by omega
  have hix := ixO_at hi e hf
  have hlt := lix_lt q x hq
  have hck := h4 i hi hi'
  have hgd : d.f.getD i default = d.f[i] := getD_at hi'
  rw [lvD_cq] at hm
  rw [e] at hck
  rw [en_eq, if_neg (by simp), if_neg (by simp), if_pos hk, if_pos (Or.inl rfl), lix, hix, enF_at df ls rep t.sub d.f hl h4 i hi hi' _ (by rw [e]; exact hlt), e, stq, dn, hix]
  simp only [hgd]
  by_cases h3 : x.rep = 3
  · have h1 : ¬ x.rep = 1 := by omega
    rw [if_neg h1] at hm
    simp only [h3, if_true]
    rw [en_eq, if_pos ⟨rfl, h3⟩]
    have hel := (chk_lst h3 hck).2
    cases hll : d.f[i].l with
    | nil =>
     rw [if_pos (by simp)]
     exact abs_get x df rep _ hlt
    | cons y ys =>
     rw [if_neg (by simp), enL]
     rw [hll] at hel
     exact zipA_get (en_dn q x md (df + 1) (ls + 1) rep y hq (hel y List.mem_cons_self) (by omega)) (enL_get x (df + 1) (ls + 1) _ (fun y r => dn md (stq x q (df + 1) (ls + 1)) y r) hlt ys (fun y hy => en_dn q x md (df + 1) (ls + 1) _ y hq (hel y (List.mem_cons_of_mem _ hy)) (by omega)))
  · simp only [if_neg h3]
    by_cases hn : d.f[i].no = true
    · rw [if_pos hn, en_eq, if_neg (by simp [h3]), if_pos ⟨rfl, hn⟩]
      exact abs_get x df rep _ hlt
    · have hn' : d.f[i].no = false := by simpa using hn
      rw [if_neg hn, en_one h3 hn']
      have h5 := en_dn q x md (dfN x df) (lsN x ls) rep d.f[i] hq (chk_yes h3 hn' hck) (by unfold dfN; split at hm <;> simp_all <;> omega)
      unfold dfN lsN at h5 ⊢
      rw [if_neg h3] at h5 ⊢
      exact h5
theorem enL_dn (q : List Tr) (t : Tr) (md : Nat) (hc : Chn t q) (hm : lvD q = md) (ds : List Dt) (h : ∀ d ∈ ds, chk true t d = 0) : (enL t 0 0 0 ds)[lix t q]? = some (ents md (stq t q 0 0) ds) :=
 enL_get t 0 0 (lix t q) (fun d r => dn md (stq t q 0 0) d r) (lix_lt q t hc) ds (fun d hd => en_dn q t md 0 0 _ d hc (h d hd) (by omega))
mutual
theorem lvT_I : ∀ (t : Tr) (p : List Tr), (∀ y ∈ ndT t, y.kind ≠ 0 → y.sub = []) → (lvT p t).map Lf.id = lvI t
 | .node id nm rep kind sub, p, h => by
  rw [lvT, lvI, List.map_append]
  have ih := lvL_I sub (p ++ [.node id nm rep kind sub]) (fun y hy => h y (by rw [ndT]; exact List.mem_cons_of_mem _ hy))
  by_cases hk : kind = 0
  · rw [if_pos hk, if_pos hk, ih]; rfl
  · have hs : sub = [] := h (.node id nm rep kind sub) (by rw [ndT]; exact List.mem_cons_self) hk
    subst hs
    rw [if_neg hk, if_neg hk, lvL]
    rfl
theorem lvL_I : ∀ (ts : List Tr) (p : List Tr), (∀ y ∈ ndL ts, y.kind ≠ 0 → y.sub = []) → (lvL p ts).map Lf.id = lvIL ts
 | [], p, _ => rfl
 | t :: ts, p, h => by
  rw [lvL, lvIL, List.map_append, lvT_I t p (fun y hy => h y (by rw [ndL]; exact List.mem_append_left _ hy)), lvL_I ts p (fun y hy => h y (by rw [ndL]; exact List.mem_append_right _ hy))]
end
theorem lvs_I {t : Tr} (hv : vldN t = 0) : (lvsT t).map Lf.id = lvI t := by
 obtain ⟨_, hr, hs, _, _⟩ := right_parts hv
 have hk0 : t.kind = 0 := (of_decide_eq_true hr).2.2.2
 rw [lvs_right t hk0, lvI_eq, if_pos hk0]
 exact lvL_I t.sub [] (fun y hy => right_lfs hs y (by rw [ndT_eq]; exact List.mem_cons_of_mem _ hy))
mutual
theorem lvI_len : ∀ t : Tr, (lvI t).length = lvC t
 | .node id nm rep kind sub => by
  rw [lvI, lvC]
  by_cases h : kind = 0
  · rw [if_pos h, if_pos h, lvIL_len sub]
  · rw [if_neg h, if_neg h]; rfl
theorem lvIL_len : ∀ ts : List Tr, (lvIL ts).length = lvCL ts
 | [] => rfl
 | t :: ts => by rw [lvIL, lvCL, List.length_append, lvI_len t, lvIL_len ts]
end
theorem lvIL_at (ts : List Tr) (i : Nat) (h : i < ts.length) (k : Nat) (hk : k < lvC ts[i]) : (lvIL ts)[lvCL (ts.take i) + k]? = (lvI ts[i])[k]? := by
 have e : ts = ts.take i ++ (ts[i] :: ts.drop (i + 1)) := by rw [← List.drop_eq_getElem_cons h, List.take_append_drop]
 have e2 : lvIL ts = lvIL (ts.take i) ++ (lvI ts[i] ++ lvIL (ts.drop (i + 1))) := by
  rw [← lvIL, ← lvIL_app, ← e]
 rw [e2, List.getElem?_append_right (by rw [lvIL_len]; omega), lvIL_len, Nat.add_sub_cancel_left, List.getElem?_append_left (by rw [lvI_len]; exact hk)]
theorem lvI_lix : ∀ (q : List Tr) (t z : Tr), Chn t q → (t :: q).getLast? = some z → (lvI t)[lix t q]? = some z.id
 | [], t, z, hc, hz => by
  have hk : t.kind ≠ 0 := hc
  have e : t = z := by simpa using hz
  rw [lvI_eq, if_neg hk, lix, e]
  rfl
 | x :: q, t, z, hc, hz => by
  obtain ⟨hk, ⟨i, hi, e, hf⟩, hq⟩ := hc
  rw [List.getLast?_cons_cons] at hz
  rw [lvI_eq, if_pos hk, lix, ixO_at hi e hf, lvIL_at t.sub i hi _ (by rw [e]; exact lix_lt q x hq), e]
  exact lvI_lix q x z hq hz
theorem lix_is {t : Tr} (hv : vldN t = 0) (j : Nat) (h : j < (lvsT t).length) {q : List Tr} {z : Tr} (hw : LfW t (lvsT t)[j] q z) : lix t q = j := by
 have h1 := lvI_lix q t z hw.way hw.last
 rw [← lvs_I hv, List.getElem?_map] at h1
 cases hx : (lvsT t)[lix t q]? with
 | none => rw [hx] at h1; simp at h1
 | some y =>
  rw [hx] at h1
  obtain ⟨h2, e⟩ := List.getElem?_eq_some_iff.1 hx
  have h3 : (lvsT t)[lix t q].id = (lvsT t)[j].id := by
   rw [e, hw.id]
   simpa using h1
  rcases Nat.lt_trichotomy (lix t q) j with h4 | h4 | h4
  · exact absurd h3 (lvs_ne hv _ _ h2 h h4)
  · exact h4
  · exact absurd h3.symm (lvs_ne hv _ _ h h2 h4)
theorem en_cols {t : Tr} (hv : vldN t = 0) (QF : Nat → List Tr) (ZF : Nat → Tr) (hq : ∀ j (h : j < (lvsT t).length), LfG t (lvsT t)[j] (QF j) (ZF j)) (ds : List Dt) (hd : ∀ d ∈ ds, chk true t d = 0) (j : Nat) (h : j < (lvsT t).length) : (enL t 0 0 0 ds)[j]? = some (ents (lvsT t)[j].md (stq t (QF j) 0 0) ds) := by
 have hw := (hq j h).w
 have h1 := enL_dn (QF j) t (lvsT t)[j].md hw.way (by rw [hw.md]) ds hd
 rw [lix_is hv j h hw] at h1
 exact h1
set_option maxRecDepth 100000 in
set_option maxHeartbeats 1600000 in
theorem eqC (x kind mr md : Int) (pa : Option Addr) (pn pc : Nat) (k : Cl) (h : k.id = x) (W : World) :
    Calls Tryz.prog (44) #[leafV x kind mr md pa pn pc, k.val] W fun e w' => e = .returned (.bool true) ∧ Below W.heap.size W w' := by
 unfold leafV Cl.val colV
 rw [h]
 obtain ⟨w0, HW0, HX, HB⟩ := one_box W #[.int .i64 x, .int .i64 kind, .int .i64 mr, .int .i64 md, .slice pa pn pc] 72
 obtain ⟨w1, HW1, HY, HB1⟩ := one_box w0 #[.int .i64 x, .slice k.ra k.rs.length k.rc, .slice k.da k.ds.length k.dc, .slice k.va k.vs.length k.vc] 50
 have hs0 : W.heap.size < w0.heap.size := lt_of_block HX.out
 have hw0s : w0.heap.size = W.heap.size + 1 := by rw [← HW0.out]; simp
 have HBb : Hid (Below W.heap.size W w1) := HB.out.trans (HB1.out.mono (by omega))
 have c0 := cell_of_row w1 W.heap.size 0 _ _ _ (blk_keep HB1.out HX.out)
 rw [hw0s] at HY
 have c1 := cell_of_row w1 (W.heap.size + 1) 0 _ _ _ HY.out
 have q : (x == x) = true := by simp
 clear hw0s hs0
 go_enter Tryz.func44, Tryz.ntmps44
 go_upto_region 1 with fail
 rw [HW0.out, HW1.out]
 go_wp2
 go_ret
 exact ⟨rfl, HBb.out⟩
set_option maxRecDepth 100000 in
set_option maxHeartbeats 1600000 in
theorem bigC (k : Cl) (h : k.rs.length ≤ 20000) (W : World) :
    Calls Tryz.prog (48) #[k.val] W fun e w' => e = .returned (.bool false) ∧ Below W.heap.size W w' := by
 unfold Cl.val colV
 obtain ⟨w0, HW0, HX, HB⟩ := one_box W #[.int .i64 k.id, .slice k.ra k.rs.length k.rc, .slice k.da k.ds.length k.dc, .slice k.va k.vs.length k.vc] 50
 have c1 := cell_of_row w0 W.heap.size 1 _ _ _ HX.out
 obtain ⟨n, HN⟩ := hid_name k.rs.length
 rw [HN.out] at c1 HW0 h ⊢
 have q : decide ((20000 : Int) < (n : Int)) = false := by rw [decide_eq_false_iff_not]; omega
 go_enter Tryz.func48, Tryz.ntmps48
 go_upto_region 1 with fail
 rw [HW0.out]
 go_wp2
 go_ret
 exact ⟨by first | rfl | (simp; omega), HB.out⟩
set_option maxRecDepth 100000 in
set_option maxHeartbeats 3200000 in
theorem ixB (cs : List Cl) (hcs : cs.length ≤ 1000) (a : Option Addr) (c : Nat) (W : World) (hl : LiesC W a cs) (hn : ∀ k ∈ cs, k.rs.length ≤ 20000) :
    Calls Tryz.prog (49) #[.slice a cs.length c, .func (.func 48) #[] #[]] W fun e w' => e = .returned (.int .i64 (-1)) ∧ Below W.heap.size W w' := by
 have HL : Hid (LiesC W a cs) := hl
 have HE : Hid _ := hn
 clear hl hn
 go_enter Tryz.func49, Tryz.ntmps49
 go_wp2_with fail
 go_loopw [8] (fun x wr => ∃ i : Nat, i ≤ cs.length ∧ x = .int .i64 i ∧ Hid (Below W.heap.size W wr)) (fun x _ => cs.length - (intOf x).toNat)
 case atStart => exact ⟨0, Nat.zero_le _, rfl, Below.refl _ _⟩
 case round =>
  obtain ⟨i, hik, rfl, HB⟩ := hrel
  by_cases hlt : i < cs.length
  · obtain ⟨⟨bb, oo, ea, h0, h1, h2, h3⟩, hat⟩ := (HL.out.keep HB.out) i hlt
    subst ea
    have HC : Hid _ := bigC cs[i] (HE.out _ (List.getElem_mem hlt)) wr
    clear hat
    obtain ⟨x, HXn⟩ := hid_name cs[i]
    rw [HXn.out] at h0 h1 h2 h3 HC
    unfold Cl.val colV at HC
    have q0 : (0 : Int) ≤ (i : Int) := by omega
    have q1 : (i : Int) < (cs.length : Int) := by omega
    go_wp2_with fail
    refine Calls.mono HC.out ?_
    rintro e1 w1 ⟨rfl, hb1⟩
    have HB1 : Hid (Below W.heap.size W w1) := HB.out.trans (hb1.mono HB.out.size)
    clear hb1 HC h0 h1 h2 h3
    go_wp2
    go_roundw
    case rel => exact ⟨i + 1, by omega, by go_num, HB1⟩
    case measure => simp [intOf]; omega
  · obtain rfl : i = cs.length := by omega
    go_wp2
    go_ret
    exact ⟨rfl, HB.out⟩
set_option maxRecDepth 100000 in
set_option maxHeartbeats 1600000 in
theorem ctB (cs : List Cl) (hcs : cs.length ≤ 1000) (a : Option Addr) (c : Nat) (W : World) (hl : LiesC W a cs) (hn : ∀ k ∈ cs, k.rs.length ≤ 20000) :
    Calls Tryz.prog (47) #[.slice a cs.length c, .func (.func 48) #[] #[]] W fun e w' => e = .returned (.bool false) ∧ Below W.heap.size W w' := by
 have HC : Hid _ := ixB cs hcs a c W hl hn
 clear hl hn
 go_enter Tryz.func47, Tryz.ntmps47
 go_wp2_with fail
 refine Calls.mono HC.out ?_
 rintro e w1 ⟨rfl, hb1⟩
 have HB1 : Hid _ := hb1
 clear hb1
 go_wp2
 go_ret
 exact ⟨rfl, HB1.out⟩
set_option maxRecDepth 100000 in
set_option maxHeartbeats 3200000 in
theorem eqlC (ls : List Lf) (cs : List Cl) (hcl : cs.length = ls.length) (hcs : ls.length ≤ 1000) (hid : ∀ j (h : j < ls.length) (h' : j < cs.length), cs[j].id = ls[j].id) (N : Nat) (la : Option Addr) (lc : Nat) (a : Option Addr) (c : Nat) (W : World) (hv : LvR W N (.slice la ls.length lc) ls) (hl : LiesC W a cs) :
    Calls Tryz.prog (45) #[.slice la ls.length lc, .slice a cs.length c, .func (.func 44) #[] #[]] W fun e w' => e = .returned (.bool true) ∧ Below W.heap.size W w' := by
 have HL : Hid (LiesC W a cs) := hl
 have HV : Hid (∀ X, Below W.heap.size W X → LvR X N (.slice la ls.length lc) ls) := fun X hX => LvX.keep hv hX
 have HI : Hid _ := hid
 have HCl : Hid (cs.length = ls.length) := hcl
 have q5 : ((ls.length : Int) != (cs.length : Int)) = false := by rw [hcl]; simp
 have q6 : (ls.length != cs.length) = false := by rw [hcl]; simp
 clear hl hv hid hcl
 go_enter Tryz.func45, Tryz.ntmps45
 go_wp2_with fail
 go_loopw [17] (fun x wr => ∃ i : Nat, i ≤ ls.length ∧ x = .int .i64 i ∧ Hid (Below W.heap.size W wr)) (fun x _ => ls.length - (intOf x).toNat)
 case atStart => exact ⟨0, Nat.zero_le _, rfl, Below.refl _ _⟩
 case round =>
  obtain ⟨i, hik, rfl, HB⟩ := hrel
  by_cases hlt : i < ls.length
  · have hlc : i < cs.length := by have := HCl.out; omega
    obtain ⟨⟨bb, oo, ea, h0, h1, h2, h3⟩, hat⟩ := (HL.out.keep HB.out) i hlc
    subst ea
    obtain ⟨lb, cap, pa, pc, e2, ⟨d0, d1, d2, d3, d4⟩, _⟩ := (HV.out wr HB.out).at_ i hlt
    injection e2 with e2 _ e3
    subst e2
    subst e3
    have hii := HI.out i hlt hlc
    clear hat
    obtain ⟨x, HXn⟩ := hid_name cs[i]
    obtain ⟨f, HFn⟩ := hid_name ls[i]
    rw [HXn.out] at h0 h1 h2 h3 hii
    rw [HFn.out] at d0 d1 d2 d3 d4 hii
    have HC : Hid (∀ X, _) := fun X => eqC f.id f.kind (f.mr : Nat) (f.md : Nat) pa f.path.length pc x hii X
    unfold leafV Cl.val colV at HC
    clear hii
    obtain ⟨w1, HW1, HX1, HB1⟩ := one_box wr #[.int .i64 f.id, .int .i64 f.kind, .int .i64 (f.mr : Nat), .int .i64 (f.md : Nat), .slice pa f.path.length pc] 72
    obtain ⟨w2, HW2, HX2, HB2⟩ := one_box w1 #[.int .i64 x.id, .slice x.ra x.rs.length x.rc, .slice x.da x.ds.length x.dc, .slice x.va x.vs.length x.vc] 50
    have q0 : (0 : Int) ≤ (i : Int) := by omega
    have q1 : (i : Int) < (ls.length : Int) := by omega
    have q2 : (i : Int) < (cs.length : Int) := by omega
    have HBw2 : Hid (Below W.heap.size W w2) := (HB.out.trans (HB1.out.mono HB.out.size)).trans (HB2.out.mono (by have := HB.out.size; have := HB1.out.size; omega))
    have k0 := ((HB1.out.cell (World.block_lt_of_cell? wr _ h0)).trans h0)
    have k1 := ((HB1.out.cell (World.block_lt_of_cell? wr _ h1)).trans h1)
    have k2 := ((HB1.out.cell (World.block_lt_of_cell? wr _ h2)).trans h2)
    have k3 := ((HB1.out.cell (World.block_lt_of_cell? wr _ h3)).trans h3)
    go_upto_region 6 with fail
    rw [HW1.out]
    clear h0 h1 h2 h3 d0 d1 d2 d3 d4
    go_upto_region 7 with fail
    rw [HW2.out]
    obtain ⟨⟨n0, n1, n2, n3, n4⟩, _⟩ := row_five (blk_keep HB2.out HX1.out)
    have m0 := cell_of_row w2 _ 0 _ _ _ HX2.out
    have m1 := cell_of_row w2 _ 1 _ _ _ HX2.out
    have m2 := cell_of_row w2 _ 2 _ _ _ HX2.out
    have m3 := cell_of_row w2 _ 3 _ _ _ HX2.out
    clear k0 k1 k2 k3
    go_wp2_with fail
    refine Calls.mono (HC.out w2) ?_
    rintro e1 w3 ⟨rfl, hb3⟩
    have HB3 : Hid (Below W.heap.size W w3) := HBw2.out.trans (hb3.mono HBw2.out.size)
    clear hb3 HC n0 n1 n2 n3 n4 m0 m1 m2 m3
    go_wp2
    go_roundw
    case rel => exact ⟨i + 1, by omega, by go_num, HB3⟩
    case measure => simp [intOf]; omega
  · obtain rfl : i = ls.length := by omega
    go_wp2
    go_ret
    exact ⟨rfl, HB.out⟩
theorem apart_good (lid kind mr md : Int) (pa : Option Addr) (pn pc : Nat) (c : Cl) (W : World) (st kt bt : TypeId) (sp kp bp : Value)
    (hg : GoodC lid kind mr md c) (hn : c.rs.length ≤ 1048576) (hn2 : c.ds.length ≤ 1048576) (hv : c.vs.length ≤ 1048576) (hcap : c.Cap)
    (hs : W.cell? ⟨1, 0, none⟩ = some (.iface st sp)) (hk : W.cell? ⟨4, 0, none⟩ = some (.iface kt kp)) (hbd : W.cell? ⟨0, 0, none⟩ = some (.iface bt bp)) (hat : c.At W) :
    Calls Tryz.prog 46 #[leafV lid kind mr md pa pn pc, c.val, .int .i64 0, .int .i64 0] W fun e w' => (∃ k : Cl, e = .returned (.tuple #[k.val, .nilIface])) ∧ Below W.heap.size W w' := by
 refine (part_any lid kind mr md 0 0 pa pn pc c W st kt bt sp kp bp hn hn2 hv hcap.1 hcap.2.1 hcap.2.2 hs hk hbd hat).mono ?_
 rintro e w' ⟨h, hb⟩
 refine ⟨?_, hb⟩
 rcases h with (⟨h, _⟩ | ⟨_, p, hp, h, _⟩) | ⟨_, h, _⟩ | ⟨_, _, k, _, _, h, _⟩
 · rw [hg.1] at h; exact absurd h (by simp)
 · rw [hg.2 p hp] at h; exact absurd h (by simp)
 · exact absurd ⟨Int.le_refl _, Int.le_refl _, Int.natCast_nonneg _⟩ h
 · exact ⟨k, h⟩
theorem row_fourZ {w : World} {g e : Nat} {x0 x1 x2 x3 : Value} (h : w.heap[g]? = some (.cells #[x0, x1, x2, x3] e (0, 0))) : (w.cell? ⟨g, 0, none⟩ = some x0 ∧ w.cell? ⟨g, 1, none⟩ = some x1 ∧ w.cell? ⟨g, 2, none⟩ = some x2 ∧ w.cell? ⟨g, 3, none⟩ = some x3) ∧ w.frozen? ⟨g, 0, none⟩ = false ∧ w.frozen? ⟨g, 1, none⟩ = false ∧ w.frozen? ⟨g, 2, none⟩ = false ∧ w.frozen? ⟨g, 3, none⟩ = false :=
 ⟨⟨cell_of_row w g 0 _ e _ h, cell_of_row w g 1 _ e _ h, cell_of_row w g 2 _ e _ h, cell_of_row w g 3 _ e _ h⟩, frozen_of_row w g 0 _ e h, frozen_of_row w g 1 _ e h, frozen_of_row w g 2 _ e h, frozen_of_row w g 3 _ e h⟩
set_option maxRecDepth 100000 in
set_option maxHeartbeats 6400000 in
theorem acheck_of (ls : List Lf) (cs : List Cl) (hcl : cs.length = ls.length) (hcs : ls.length ≤ 1000) (hid : ∀ j (h : j < ls.length) (h' : j < cs.length), cs[j].id = ls[j].id) (hgood : ∀ j (h : j < ls.length) (h' : j < cs.length), GoodC ls[j].id ls[j].kind (ls[j].mr : Nat) (ls[j].md : Nat) cs[j]) (hln : ∀ k ∈ cs, k.rs.length ≤ 20000 ∧ k.ds.length ≤ 20000 ∧ k.vs.length ≤ 20000 ∧ k.Cap) (N : Nat) (la : Option Addr) (lc : Nat) (a : Option Addr) (c : Nat) (W : World) (st kt bt : TypeId) (sp kp bp : Value)
    (hs : W.cell? ⟨1, 0, none⟩ = some (.iface st sp)) (hk : W.cell? ⟨4, 0, none⟩ = some (.iface kt kp)) (hbd : W.cell? ⟨0, 0, none⟩ = some (.iface bt bp)) (hv : LvR W N (.slice la ls.length lc) ls) (hl : LiesC W a cs) :
    Calls Tryz.prog (28) #[.slice la ls.length lc, .slice a cs.length c] W fun e w' => e = .returned .nilIface ∧ Below W.heap.size W w' := by
 have HEq : Hid _ := eqlC ls cs hcl hcs hid N la lc a c W hv hl
 have HBig : Hid (∀ X, Below W.heap.size W X → _) := fun X hX => ctB cs (by omega) a c X (hl.keep hX) (fun k hk => (hln k hk).1)
 have HPt : Hid (∀ j (h : j < ls.length) (h' : j < cs.length) (pa : Option Addr) (pn pc : Nat) (X : World), Below W.heap.size W X → Calls Tryz.prog 46 #[leafV ls[j].id ls[j].kind (ls[j].mr : Nat) (ls[j].md : Nat) pa pn pc, cs[j].val, .int .i64 0, .int .i64 0] X fun e w' => (∃ k : Cl, e = .returned (.tuple #[k.val, .nilIface])) ∧ Below X.heap.size X w') := fun j h h' pa pn pc X hX => by
  have h1 := hln _ (List.getElem_mem h')
  exact apart_good _ _ _ _ pa pn pc cs[j] X st kt bt sp kp bp (hgood j h h') (by omega) (by omega) (by omega) h1.2.2.2 ((hX.cell (World.block_lt_of_cell? W _ hs)).trans hs) ((hX.cell (World.block_lt_of_cell? W _ hk)).trans hk) ((hX.cell (World.block_lt_of_cell? W _ hbd)).trans hbd) ((hl.keep hX) j h').2
 have HL : Hid (LiesC W a cs) := hl
 have HV : Hid (∀ X, Below W.heap.size W X → LvR X N (.slice la ls.length lc) ls) := fun X hX => LvX.keep hv hX
 have HCl : Hid (cs.length = ls.length) := hcl
 clear hcl hid hgood hln hs hk hbd hv hl
 go_enter Tryz.func28, Tryz.ntmps28
 go_wp2_with fail
 refine Calls.mono HEq.out ?_
 rintro e w0 ⟨rfl, hb0⟩
 have HB0 : Hid _ := hb0
 clear hb0
 go_wp2_with fail
 go_loopw [18] (fun x wr => ∃ i : Nat, i ≤ ls.length ∧ x = .int .i64 i ∧ Hid (Below W.heap.size W wr)) (fun x _ => ls.length - (intOf x).toNat)
 case atStart => exact ⟨0, Nat.zero_le _, rfl, HB0⟩
 case round =>
  obtain ⟨i, hik, rfl, HB⟩ := hrel
  by_cases hlt : i < ls.length
  · have hlc : i < cs.length := by have := HCl.out; omega
    obtain ⟨⟨bb, oo, ea, h0, h1, h2, h3⟩, hat⟩ := (HL.out.keep HB.out) i hlc
    subst ea
    obtain ⟨lb, cap, pa, pc, e2, ⟨d0, d1, d2, d3, d4⟩, _⟩ := (HV.out wr HB.out).at_ i hlt
    injection e2 with e2 _ e3
    subst e2
    subst e3
    clear hat
    have HC : Hid (∀ X, Below W.heap.size W X → _) := fun X hX => HPt.out i hlt hlc pa ls[i].path.length pc X hX
    obtain ⟨x, HXn⟩ := hid_name cs[i]
    obtain ⟨f, HFn⟩ := hid_name ls[i]
    rw [HXn.out] at h0 h1 h2 h3 HC
    rw [HFn.out] at d0 d1 d2 d3 d4 HC
    unfold leafV Cl.val colV at HC
    obtain ⟨w1, HW1, HX1, HB1⟩ := one_box wr #[.int .i64 f.id, .int .i64 f.kind, .int .i64 (f.mr : Nat), .int .i64 (f.md : Nat), .slice pa f.path.length pc] 72
    have q0 : (0 : Int) ≤ (i : Int) := by omega
    have q1 : (i : Int) < (ls.length : Int) := by omega
    have q2 : (i : Int) < (cs.length : Int) := by omega
    have HBw1 : Hid (Below W.heap.size W w1) := HB.out.trans (HB1.out.mono HB.out.size)
    have k0 := ((HB1.out.cell (World.block_lt_of_cell? wr _ h0)).trans h0)
    have k1 := ((HB1.out.cell (World.block_lt_of_cell? wr _ h1)).trans h1)
    have k2 := ((HB1.out.cell (World.block_lt_of_cell? wr _ h2)).trans h2)
    have k3 := ((HB1.out.cell (World.block_lt_of_cell? wr _ h3)).trans h3)
    go_upto_region 7 with fail
    rw [HW1.out]
    obtain ⟨⟨n0, n1, n2, n3, n4⟩, _⟩ := row_five HX1.out
    clear h0 h1 h2 h3 d0 d1 d2 d3 d4
    go_cut [9] (fun y wx => y = .nilIface ∧ Hid (Below W.heap.size W wx))
    case first =>
     have b0 : Below W.heap.size W w1 := HBw1.out
     have hsz := b0.size
     have ka : ∀ (ad : Addr) (u : Value), w1.cell? ad = some u → ∀ ob : Obj, (w1.alloc ob).cell? ad = some u := fun ad u hu ob => (((Below.refl w1.heap.size w1).alloc (Nat.le_refl _) ob).cell (World.block_lt_of_cell? w1 _ hu)).trans hu
     have kk0 := ka _ _ k0
     have kk1 := ka _ _ k1
     have kk2 := ka _ _ k2
     have kk3 := ka _ _ k3
     have nn0 := ka _ _ n0
     have nn1 := ka _ _ n1
     have nn2 := ka _ _ n2
     have nn3 := ka _ _ n3
     have nn4 := ka _ _ n4
     clear ka
     go_region_law (go_simp; (with_reducible refine Calls.mono (HC.out _ ?_) ?_); (repeat' (first | with_reducible assumption | with_reducible exact b0.drew | with_reducible exact b0 | with_reducible refine Below.drew ?_ | with_reducible refine Below.alloc ?_ ?_ _ | with_reducible exact Nat.le_refl _ | (simp; done) | (simp; omega))); rintro e w3 ⟨⟨k, rfl⟩, hb3⟩; have hbw : Below W.heap.size W w3 := (by first | exact b0.drew.trans (hb3.mono b0.drew.size) | exact (b0.drew.alloc b0.drew.size _).trans (hb3.mono (b0.drew.alloc b0.drew.size _).size)); first | (have hzz := row_fourZ (blk_keep hb3 (heap_alloc_new _ (.cells #[.int .i64 0, .slice none 0 0, .slice none 0 0, .slice none 0 0] 50))); obtain ⟨⟨t0, t1, t2, t3⟩, s0, s1, s2, s3⟩ := hzz) | skip)
     all_goals
      go_wp2
      go_meet
      refine ⟨rfl, ?_⟩
      first | exact hbw.alloc hbw.size _ | exact (((hbw.setCell hsz _).setCell hsz _).setCell hsz _).setCell hsz _
    case rest =>
     obtain ⟨rfl, HBx⟩ := hcut
     rename World => wx
     go_wp2
     go_roundw
     case rel => exact ⟨i + 1, by omega, by go_num, HBx⟩
     case measure => simp [intOf]; omega
  · obtain rfl : i = ls.length := by omega
    go_wp2_with fail
    refine Calls.mono (HBig.out wr HB.out) ?_
    rintro e w3 ⟨rfl, hb3⟩
    have HB3 : Hid (Below W.heap.size W w3) := HB.out.trans (hb3.mono HB.out.size)
    clear hb3
    go_wp2
    go_ret
    exact ⟨rfl, HB3.out⟩
structure AsCols (t : Tr) (QF : Nat → List Tr) (ds : List Dt) (cs : List Cl) : Prop where
 len : cs.length = (lvsT t).length
 each : ∀ j (h : j < (lvsT t).length) (h' : j < cs.length), cs[j].id = (lvsT t)[j].id ∧ cs[j].rs = eR (ents (lvsT t)[j].md (stq t (QF j) 0 0) ds) ∧ cs[j].ds = eD (ents (lvsT t)[j].md (stq t (QF j) 0 0) ds) ∧ cs[j].vs = eV (ents (lvsT t)[j].md (stq t (QF j) 0 0) ds) ∧ (ents (lvsT t)[j].md (stq t (QF j) 0 0) ds).length ≤ 20000
 cap : ∀ k ∈ cs, k.Cap
theorem lvs_len1 {t : Tr} (hv : vldN t = 0) : (lvsT t).length ≤ 1000 := by
 obtain ⟨hb, hr, _⟩ := right_parts hv
 have hc := (inB_cnt t 0 [] hb).2.1
 have h := wkT_more stL (fun s : List Lf => s.length) (fun s path t => by unfold stL; split <;> simp) t [] []
 unfold lvsT
 simp at h
 omega
theorem en_of {t : Tr} (hv : vldN t = 0) (F : Nat → List Ent) : ∃ En : Int → List Ent, ∀ j (h : j < (lvsT t).length), En (lvsT t)[j].id = F j := by
 refine ⟨fun x => F ((lvsT t).findIdx fun f => f.id == x), fun j h => ?_⟩
 have e : (lvsT t).findIdx (fun f => f.id == (lvsT t)[j].id) = j := by
  rw [List.findIdx_eq h]
  refine ⟨by simp, fun i hi => ?_⟩
  have := lvs_ne hv i j (by omega) h hi
  simp [this]
 show F _ = F j
 rw [e]
theorem eV_le (es : List Ent) : (eV es).length ≤ es.length := List.length_filterMap_le Ent.v es
set_option maxRecDepth 100000 in
set_option maxHeartbeats 3200000 in
theorem assemble_right (eb es ek en : TypeId × Value) (t : Tr) (n : Nat) (hd : t.Dp n) (hn : n ≤ 1100000) (hs : t.Sm) (hv : vldN t = 0) (QF : Nat → List Tr) (ZF : Nat → Tr) (hq : ∀ j (h : j < (lvsT t).length), LfG t (lvsT t)[j] (QF j) (ZF j)) (ds : List Dt) (hdl : ds.length ≤ 100000) (hck : ∀ d ∈ ds, chk true t d = 0) (cs : List Cl)
    (na : Option Addr) (nc : Nat) (hcap : t.sub.length ≤ nc) (a : Option Addr) (c : Nat) (P : Nat → Prop) (W : World) (hcs : AsCols t QF ds cs) (he : EC W eb es ek) (hen : W.cell? ⟨5, 0, none⟩ = some (.iface en.1 en.2)) (hl : LiesN W P na t.sub) (hlc : LiesC W a cs) :
    Calls Tryz.prog 10 #[nodeV t na nc, .slice a cs.length c] W fun e w' => (∃ al cl, e = .returned (.tuple #[.slice al ds.length cl, .nilIface]) ∧ LiesD w' (fun b => W.heap.size ≤ b) al ds) ∧ Below W.heap.size W w' := by
 obtain ⟨hb, hr, hsh, _, _⟩ := right_parts hv
 have hk0 : t.kind = 0 := (of_decide_eq_true hr).2.2.2
 have h1 : t.rep = 1 := (of_decide_eq_true hr).2.2.1
 have hcn : t.cnt ≤ 1000 := by have := (inB_cnt t 0 [] hb).2.1; omega
 have hlen := lvs_len1 hv
 obtain ⟨En, hEn⟩ := en_of hv (fun j => ents ((lvsT t).getD j ⟨0, 0, 0, 0, []⟩).md (stq t (QF j) 0 0) ds)
 have hEn2 : ∀ j (h : j < (lvsT t).length), En (lvsT t)[j].id = ents (lvsT t)[j].md (stq t (QF j) 0 0) ds := fun j h => by
  rw [hEn j h]
  simp [List.getD, h]
 have hmap : (lvI t).map En = enL t 0 0 0 ds := by
  have hl1 := enL_len ds t 0 0 0 (fun j h => hck _ (List.getElem_mem h))
  rw [← lvs_I hv, List.map_map]
  apply List.ext_getElem
  · rw [List.length_map, hl1, ← lvI_len, ← lvs_I hv, List.length_map]
  · intro j h2 h3
    have hj : j < (lvsT t).length := by simpa using h2
    have h4 := en_cols hv QF ZF hq ds hck j hj
    rw [List.getElem?_eq_getElem h3] at h4
    rw [List.getElem_map, Option.some.inj h4]
    exact hEn2 j hj
 have hcf : ∀ x ∈ lvI t, ColFor W.heap.size cs En x := fun x hx => by
  rw [← lvs_I hv] at hx
  obtain ⟨f, hf, rfl⟩ := List.mem_map.1 hx
  obtain ⟨j, hj, rfl⟩ := List.getElem_of_mem hf
  have hj2 : j < cs.length := by rw [hcs.len]; exact hj
  obtain ⟨e0, e1, e2, e3, e4⟩ := hcs.each j hj hj2
  refine ⟨j, hj2, e0, fun i hi => ?_, by rw [hEn2 j hj]; exact e1, by rw [hEn2 j hj]; exact e2, by rw [hEn2 j hj]; exact e3, by rw [hEn2 j hj]; exact e4, (hlc j hj2).2.lw⟩
  rw [(hcs.each i (by omega) (by omega)).1]
  exact lvs_ne hv i j (by omega) hj hi
 obtain ⟨w0, HW0, HX, HB⟩ := one_box W #[.int .i64 t.id, .string t.nm, .int .i64 t.rep, .int .i64 t.kind, .slice na t.sub.length nc] 24
 have HLv : Hid (Calls Tryz.prog 24 #[.agg #[.int .i64 t.id, .string t.nm, .int .i64 t.rep, .int .i64 t.kind, .slice na t.sub.length nc]] w0 fun e w' => (∃ lv, e = .returned (.tuple #[lv, .nilIface]) ∧ LvR w' w0.heap.size lv (lvsT t)) ∧ Below w0.heap.size w0 w') := leaves_right t n hd hn hs na nc P w0 (hl.keep HB.out) hcap eb es en (he.keep HB.out).b (he.keep HB.out).s ((HB.out.cell (World.block_lt_of_cell? W _ hen)).trans hen) hv
 have HCk : Hid (∀ (la : Option Addr) (lc N : Nat) (X : World), Below W.heap.size W X → LvR X N (.slice la (lvsT t).length lc) (lvsT t) → Calls Tryz.prog (28) #[.slice la (lvsT t).length lc, .slice a cs.length c] X fun e w' => e = .returned .nilIface ∧ Below X.heap.size X w') := fun la lc N X hX hlv => by
  have heX := he.keep hX
  refine acheck_of (lvsT t) cs hcs.len hlen (fun j h h' => (hcs.each j h h').1) (fun j h h' => ?_) (fun k hk => ?_) N la lc a c X es.1 ek.1 eb.1 es.2 ek.2 eb.2 heX.s heX.k heX.b hlv (hlc.keep hX)
  · obtain ⟨e0, e1, e2, e3, _⟩ := hcs.each j h h'
    exact (col_good (hq j h) ds hck cs[j] e0 e1 e2 e3).1
  · obtain ⟨j, hj, rfl⟩ := List.getElem_of_mem hk
    obtain ⟨_, e1, e2, e3, e4⟩ := hcs.each j (by rw [← hcs.len]; exact hj) hj
    rw [e1, e2, e3, eR_len, eD_len]
    exact ⟨e4, e4, Nat.le_trans (eV_le _) e4, hcs.cap _ hk⟩
 have HBo : Hid (∀ X, Below W.heap.size W X → Calls Tryz.prog 29 #[.agg #[.int .i64 t.id, .string t.nm, .int .i64 t.rep, .int .i64 t.kind, .slice na t.sub.length nc], .int .i64 0, .int .i64 0, .slice a cs.length c] X fun e w' => ∃ b G, e = .returned (.pointer (some ⟨b, 0, none⟩)) ∧ BrI w' (fun k => X.heap.size ≤ k) b t 0 0 G ∧ G.Nodup ∧ (∀ g ∈ G, X.heap.size ≤ g) ∧ RdAll w' W.heap.size G ((lvI t).map En) ∧ Below X.heap.size X w') := fun X hX =>
  bo_any _ t (Nat.lt_succ_self _) (fun y hy hk => (right_grp hsh y hy).2 hk) 0 0 W.heap.size cs En na nc a c X (by omega) (by omega) (by rw [hcs.len]; exact hlen) (hlc.keep hX) hX.size ((hl.keep hX).stay (fun _ _ _ => trivial) (fun _ _ _ => rfl)) hcf
 have HRec : Hid (∀ X b G, BrAt X b t 0 0 G → G.Nodup → RdAll X W.heap.size G ((lvI t).map En) → Calls Tryz.prog (30) #[.pointer (some ⟨b, 0, none⟩)] X fun e w' => ∃ al cl, e = .returned (.tuple #[.slice al ds.length cl, .nilIface]) ∧ LiesD w' (fun b => X.heap.size ≤ b) al ds ∧ AFr G X w') := fun X b G hbr hnd hrd => by
  have hG : G.length ≤ 1000 := by rw [hbr.len, ← lvI_len, ← lvs_I hv, List.length_map]; exact hlen
  rw [hmap] at hrd
  exact records_of t h1 ds hdl (fun j h => hck _ (List.getElem_mem h)) (fun j h => (das_any _ ds[j] (Nat.lt_succ_self _) t 0 0 hs (fun y hy => (right_grp hsh y hy).1) (by omega)).1 (hck _ (List.getElem_mem h))) W.heap.size b G X hbr hnd hG hrd
 obtain ⟨⟨n0, n1, n2, n3, n4⟩, _⟩ := row_five HX.out
 have HNX : Hid _ := HX.out
 clear hd hn hs hv hq hck hcs he hen hl hlc hb hr hsh hk0 h1 hcn hlen hEn hEn2 hmap hcf
 unfold nodeV
 go_enter Tryz.func10, Tryz.ntmps10
 go_upto_region 1 with fail
 rw [HW0.out]
 go_wp2_with fail
 refine Calls.mono HLv.out ?_
 rintro e w1 ⟨⟨lv, rfl, hlv⟩, hb1⟩
 obtain ⟨la, lc, rfl⟩ : ∃ la lc, lv = .slice la (lvsT t).length lc := by
  obtain ⟨pvs, _, h2, _⟩ := hlv
  exact own_shp h2
 have HB1 : Hid (Below W.heap.size W w1) := HB.out.trans (hb1.mono HB.out.size)
 have HX1 : Hid _ := blk_keep hb1 HX.out
 have HC1 : Hid _ := HCk.out la lc _ w1 HB1.out hlv
 obtain ⟨m, HM⟩ := hid_name (lvsT t).length
 rw [HM.out] at HC1 ⊢
 clear hlv hb1 n0 n1 n2 n3 n4
 go_wp2_with fail
 refine Calls.mono HC1.out ?_
 rintro e w2 ⟨rfl, hb2⟩
 have HB2 : Hid (Below W.heap.size W w2) := HB1.out.trans (hb2.mono HB1.out.size)
 obtain ⟨⟨n0, n1, n2, n3, n4⟩, _⟩ := row_five (blk_keep hb2 HX1.out)
 have HC2 : Hid _ := HBo.out w2 HB2.out
 clear hb2 HC1
 go_wp2_with fail
 refine Calls.mono HC2.out ?_
 rintro e w3 ⟨b, G, rfl, hbr, hnd, hg, hrd, hb3⟩
 have HC3 : Hid _ := HRec.out w3 b G hbr.at_ hnd hrd
 have HB3 : Hid (Below W.heap.size W w3) := HB2.out.trans (hb3.mono HB2.out.size)
 have HGg : Hid (∀ g ∈ G, W.heap.size ≤ g) := fun g h => Nat.le_trans HB2.out.size (hg g h)
 clear hbr hnd hg hrd hb3 HC2 n0 n1 n2 n3 n4
 go_wp2_with fail
 refine Calls.mono HC3.out ?_
 rintro e w4 ⟨al, cl, rfl, hl4, hf4⟩
 have HL4 : Hid (LiesD w4 (fun b => W.heap.size ≤ b) al ds) := hl4.stay (fun b h _ => Nat.le_trans HB3.out.size h) (fun _ _ _ => rfl)
 have HB4 : Hid (Below W.heap.size W w4) := HB3.out.trans (hf4.below HB3.out.size HGg.out)
 clear hl4 hf4 HC3
 go_wp2
 go_ret2
 exact ⟨⟨al, cl, rfl, HL4.out⟩, HB4.out⟩
end Go.Proofs.YteonbmaokphleaaGreatDoor
