/-
  assemble: lists of branches and readers put side by side; what a row's growing leaves.
  assemble: the branch of a group.
  assemble: branchOf of whatever right node.
  The entries that a right record makes on the way to a leaf: their levels, their values, how many.
  assemble: the entries of all leaves are what Shred writes, leaf by leaf: mathematics.
-/
import Derived.Test.YtbicfjimlpdnkaaGreatDoorHBSpM
import Derived.Test.YtbicfjimlpdnkaaGreatDoorHLvX
import Derived.Test.YtbicfjimlpdnkaaGreatDoorHBChkD
namespace Go.Proofs.YtbicfjimlpdnkaaGreatDoor
open Go.RowKit
theorem grow_keepA {w w' : World} {ob : Obj} {v : Option Nat} (h : (w.alloc ob).grownBy w' v) (k : Nat) (hk : k < w.heap.size) (hn : v ≠ some k) : w'.heap[k]? = w.heap[k]? := by
  rw [h.block k (by simp; omega) (fun e => hn e.symm), heap_alloc_old w ob hk]
theorem grow_belowB {N : Nat} {W w w' : World} {v : Option Nat} (h : Below N W w) (hN : N ≤ W.heap.size) (hg : w.grownBy w' v) (hv : ∀ k, v = some k → N ≤ k) : Below N W w' :=
  ⟨hg.os.trans h.os, hg.tape.trans h.tape, hg.output.trans h.output, Nat.le_trans h.size hg.size, fun k hk => (hg.block k (Nat.lt_of_lt_of_le hk (Nat.le_trans hN h.size)) (fun e => by have := hv k e.symm; omega)).trans (h.block k hk)⟩
mutual
theorem lvC_le : ∀ t : Tr, lvC t ≤ t.cnt
  | .node id nm rep kind sub => by
    rw [lvC, Tr.cnt_eq]
    have := lvCL_le sub
    simp only [Tr.sub]
    split <;> omega
theorem lvCL_le : ∀ ts : List Tr, lvCL ts ≤ cntL ts
  | [] => by rw [lvCL, cntL]; exact Nat.le_refl _
  | t :: ts => by
    rw [lvCL, cntL]
    have := lvC_le t
    have := lvCL_le ts
    omega
end
theorem lvCL_take (ts : List Tr) (i : Nat) : lvCL (ts.take i) ≤ lvCL ts := by
  have h := lvCL_app (ts.take i) (ts.drop i)
  rw [List.take_append_drop] at h
  omega
theorem flat_app (a : List (List Nat)) (b : List Nat) : (a ++ [b]).flatten = a.flatten ++ b := by rw [List.flatten_append]; simp
theorem BoS.flen {b df ls N : Nat} {t : Tr} {En : Int → List Ent} {w : World} {lf lr : Value} {FBs : List Nat} {FGs : List (List Nat)} {FR GR : List Nat} (h : BoS b df ls N t En w lf lr FBs FGs FR GR) : FGs.flatten.length ≤ cntL t.sub := by
  have hx : ∀ n, n ≤ FGs.length → (FGs.take n).flatten.length = lvCL (t.sub.take n) := by
    intro n
    induction n with
    | zero => intro _; simp [lvCL]
    | succ n ih =>
      intro hn
      have hl := h.len
      have hle := h.le
      rw [List.take_succ_eq_append_getElem (by omega), flat_app, List.length_append, ih (by omega), List.take_succ_eq_append_getElem (by omega), lvCL_app, ((h.each n (by omega) (by omega) (by omega)).1.at_.len)]
      simp [lvCL]
  have := hx FGs.length (Nat.le_refl _)
  rw [List.take_length] at this
  rw [this]
  exact Nat.le_trans (lvCL_take _ _) (lvCL_le _)
theorem RdAll.app {w : World} {N : Nat} {G G2 : List Nat} {R R2 : List (List Ent)} (h : RdAll w N G R) (h2 : RdAll w N G2 R2) : RdAll w N (G ++ G2) (R ++ R2) := by
  refine ⟨by rw [List.length_append, List.length_append, h.1, h2.1], fun j h3 h4 => ?_⟩
  by_cases hj : j < G.length
  · rw [List.getElem_append_left hj, List.getElem_append_left (by rw [← h.1]; exact hj)]
    exact h.2 j hj _
  · rw [List.getElem_append_right (by omega), List.getElem_append_right (by rw [← h.1]; omega)]
    have e : j - R.length = j - G.length := by rw [h.1]
    have h5 := h2.2 (j - G.length) (by simp at h3; omega) (by rw [← h2.1]; simp at h3; omega)
    simpa only [e] using h5
theorem flat_rdAll {w : World} {N : Nat} (En : Int → List Ent) : ∀ (FGs : List (List Nat)) (ts : List Tr), FGs.length = ts.length → (∀ j (h1 : j < FGs.length) (h2 : j < ts.length), RdAll w N FGs[j] ((lvI ts[j]).map En)) → RdAll w N FGs.flatten ((lvIL ts).map En)
  | [], [], _, _ => ⟨rfl, fun j h => absurd h (by simp)⟩
  | [], _ :: _, h, _ => by simp at h
  | _ :: _, [], h, _ => by simp at h
  | G :: FGs, t :: ts, hl, h => by
    rw [lvIL, List.map_append, List.flatten_cons]
    exact (h 0 (by simp) (by simp)).app (flat_rdAll En FGs ts (by simpa using hl) (fun j h1 h2 => h (j + 1) (by simpa using h1) (by simpa using h2)))
theorem map_getD (FBs : List Nat) : (List.range FBs.length).map (fun j => FBs.getD j 0) = FBs := by
  apply List.ext_getElem (by simp)
  intro j h1 h2
  simp [List.getD, h2]
theorem flatMap_getD (FGs : List (List Nat)) : (List.range FGs.length).flatMap (fun j => FGs.getD j []) = FGs.flatten := by
  have h : (List.range FGs.length).map (fun j => FGs.getD j []) = FGs := by
    apply List.ext_getElem (by simp)
    intro j h1 h2
    simp [List.getD, h2]
  rw [List.flatMap_def, h]
end Go.Proofs.YtbicfjimlpdnkaaGreatDoor

namespace Go.Proofs.YtbicfjimlpdnkaaGreatDoor
open Go.RowKit
theorem Tryz.infoBr : (Tryz.prog.info? 88).map (fun i => (i.zero, i.size, i.bytes)) = some (some (.pointer none), 1, 8) := by kernel_rfl
theorem Tryz.infoRd : (Tryz.prog.info? 113).map (fun i => (i.zero, i.size, i.bytes)) = some (some (.pointer none), 1, 8) := by kernel_rfl
theorem lvIL_mem : ∀ (ts : List Tr) (i : Nat) (h : i < ts.length) (x : Int), x ∈ lvI ts[i] → x ∈ lvIL ts
  | [], _, h, _, _ => absurd h (Nat.not_lt_zero _)
  | t :: ts, 0, _, x, hx => by rw [lvIL]; exact List.mem_append_left _ hx
  | t :: ts, i + 1, h, x, hx => by rw [lvIL]; exact List.mem_append_right _ (lvIL_mem ts i (by simpa using h) x (by simpa using hx))
theorem own_shp {w : World} {B e sz n : Nat} {v : Value} {xs : List Value} (h : w.ownsRow B e sz v n xs) : ∃ a c, v = .slice a n c := by
  rcases h.2 with ⟨rfl, rfl⟩ | ⟨g, cap, cur, rfl, _⟩
  · exact ⟨none, 0, rfl⟩
  · exact ⟨_, cap, rfl⟩
theorem ptrs_app (a b : List Nat) : ptrs (a ++ b) = ptrs a ++ ptrs b := List.map_append
set_option maxRecDepth 100000 in
set_option maxHeartbeats 6400000 in
theorem bo_group (t : Tr) (hk : t.kind = 0) (h0 : 0 < t.sub.length) (each : ∀ j (h : j < t.sub.length), BoA t.sub[j]) : BoA t := by
  intro df ls N cs En na nc a c W hdf hls hcs hlc hN hln hcf
  obtain ⟨iv, hvi, hv0, hv1, hv2⟩ := info_parts Tryz.infoBr
  obtain ⟨iw, hwi, hwz, hwo, hwt⟩ := info_parts Tryz.infoRd
  have hct : t.cnt = 1 + cntL t.sub := Tr.cnt_eq t
  have hsl : t.sub.length ≤ 1000 := by
    have h : ∀ ts : List Tr, ts.length ≤ cntL ts := fun ts => by
      induction ts with
      | nil => simp
      | cons x xs ih => rw [cntL, List.length_cons]; have := Tr.cnt_eq x; omega
    have := h t.sub
    omega
  obtain ⟨w0, HW0, HP, HB⟩ := one_box W #[.int .i64 t.id, .string t.nm, .int .i64 t.rep, .int .i64 t.kind, .slice na t.sub.length nc] 24
  obtain ⟨w1, HW1, HX, HB1⟩ := one_box w0 #[.int .i64 t.rep, .int .i64 (df : Nat), .int .i64 (ls : Nat), .slice none 0 0, .slice none 0 0] 111
  have hs0 : W.heap.size < w0.heap.size := lt_of_block HP.out
  have HBb : Hid (Below W.heap.size W w1) := HB.out.trans (HB1.out.mono (by omega))
  have HPb : Hid _ := blk_keep HB1.out HP.out
  obtain ⟨b, HBn⟩ := hid_name w0.heap.size
  rw [HBn.out] at HX hs0
  obtain ⟨p, HPn⟩ := hid_name W.heap.size
  rw [HPn.out] at HP HPb hs0
  have HLC : Hid (LiesC W a cs) := hlc
  have HLN : Hid (LiesN W (fun _ => True) na t.sub) := hln
  have HNb : Hid (N ≤ b) := (by have := HPn.out; show N ≤ b; omega)
  have HWb : Hid (W.heap.size ≤ b) := (by have := HPn.out; show _ ≤ b; omega)
  have HEach : Hid (∀ i (h : i < t.sub.length) (X : World) (a1 : Option Addr) (c1 : Nat), Below W.heap.size W X → LiesN X (fun _ => True) a1 t.sub[i].sub → Calls Tryz.prog 35 #[.agg #[.int .i64 t.sub[i].id, .string t.sub[i].nm, .int .i64 t.sub[i].rep, .int .i64 t.sub[i].kind, .slice a1 t.sub[i].sub.length c1], .int .i64 (dfN t df : Nat), .int .i64 (lsN t ls : Nat), .slice a cs.length c] X fun e w' => ∃ b G, e = .returned (.pointer (some ⟨b, 0, none⟩)) ∧ BrI w' (fun k => X.heap.size ≤ k) b t.sub[i] (dfN t df) (lsN t ls) G ∧ G.Nodup ∧ (∀ g ∈ G, X.heap.size ≤ g) ∧ RdAll w' N G ((lvI t.sub[i]).map En) ∧ Below X.heap.size X w') := fun i h X a1 c1 hX hl => by
    have hlt := asub_cnt i h
    have hd : dfN t df ≤ df + 1 := by unfold dfN; split <;> omega
    have hl2 := (lsN_ge t ls).2
    exact each i h (dfN t df) (lsN t ls) N cs En a1 c1 a c X (by omega) (by omega) hcs (hlc.keep hX) (Nat.le_trans hN hX.size) hl (fun x hx => hcf x (by rw [lvI_eq, if_pos hk]; exact lvIL_mem _ i h x hx))
  have hkb : (t.kind != 0) = false := by rw [bne_eq_false_iff_eq]; exact hk
  have HK : Hid (t.kind = 0) := hk
  have HCt : Hid (cntL t.sub ≤ 1000) := (by show _ ≤ _; omega)
  clear hlc hln hcf each hct hk
  unfold nodeV
  obtain ⟨⟨n0, n1, n2, n3, n4⟩, _⟩ := row_five HP.out
  obtain ⟨⟨m0, m1, m2, m3, m4⟩, _⟩ := row_five HPb.out
  obtain ⟨⟨x0, x1, x2, x3, x4⟩, _, _, f2, _, _⟩ := row_five HX.out
  go_enter Tryz.func35, Tryz.ntmps35
  go_upto_region 1 with fail
  rw [HW0.out, HPn.out]
  go_upto_region 2 with fail
  rw [HW1.out, HBn.out]
  clear n0 n1 n2 n3 n4
  go_upto_if 22 with fail
  go_cut [] (fun wx => Hid (Below W.heap.size W wx) ∧ Hid (wx.heap[p]? = some (.cells #[.int .i64 t.id, .string t.nm, .int .i64 t.rep, .int .i64 t.kind, .slice na t.sub.length nc] 24 (0, 0))) ∧ Hid (wx.heap[b]? = some (.cells #[.int .i64 t.rep, .int .i64 (df : Nat), .int .i64 (lsN t ls : Nat), .slice none 0 0, .slice none 0 0] 111 (0, 0))))
  case first =>
    have HL : Hid (lsN t ls = if t.rep = 3 then ls + 1 else ls) := rfl
    by_cases h3 : t.rep = 3
    · have q3 : (t.rep == 3) = true := by rw [beq_iff_eq]; exact h3
      have HL2 : Hid (((lsN t ls : Nat) : Int) = (ls : Int) + 1) := (by show _ = _; rw [HL.out, if_pos h3]; omega)
      clear h3
      go_wp2
      go_meet
      exact ⟨HBb.out.setCell (by show W.heap.size ≤ b; have := HPn.out; omega) _, (Below.heap_setCell w1 ⟨b, 2, none⟩ _ p (by show p ≠ b; omega)).trans HPb.out, by rw [HL2.out]; exact row_setC HX.out⟩
    · have q3 : (t.rep == 3) = false := by rw [beq_eq_false_iff_ne]; exact h3
      have HL2 : Hid (lsN t ls = ls) := (by show _ = _; rw [HL.out, if_neg h3])
      clear h3
      go_wp2
      go_meet
      exact ⟨HBb.out, HPb.out, by rw [HL2.out]; exact HX.out⟩
  case rest =>
    obtain ⟨HB2, HP2, HX2⟩ := hcut
    rename World => w2
    clear m0 m1 m2 m3 m4 x0 x1 x2 x3 x4 f2
    obtain ⟨⟨m0, m1, m2, m3, m4⟩, _⟩ := row_five HP2.out
    go_upto_if 32 with fail
    go_cut [1] (fun x wx => x = .int .i64 (dfN t df : Nat) ∧ Hid (wx = w2))
    case first =>
      have HL : Hid (dfN t df = if t.rep = 1 then df else df + 1) := rfl
      by_cases h3 : t.rep = 1
      · have q3 : (t.rep != 1) = false := by rw [bne_eq_false_iff_eq]; exact h3
        have HL2 : Hid (dfN t df = df) := (by show _ = _; rw [HL.out, if_pos h3])
        clear h3
        go_wp2
        go_meet
        exact ⟨by rw [HL2.out], rfl⟩
      · have q3 : (t.rep != 1) = true := by rw [bne_iff_ne]; exact h3
        have HL2 : Hid (((dfN t df : Nat) : Int) = (df : Int) + 1) := (by show _ = _; rw [HL.out, if_neg h3]; omega)
        clear h3
        go_wp2
        go_meet
        exact ⟨by rw [HL2.out], rfl⟩
    case rest =>
      obtain ⟨rfl, HWc⟩ := hcut
      rename World => w3
      rw [HWc.out]
      have HX3 : Hid _ := HX2.out
      have HS0 : Hid (BoS b (dfN t df) (lsN t ls) N t En w2 (.slice none 0 0) (.slice none 0 0) [] [] [] ([] : List (List Nat)).flatten) := BoS.start HNb.out
      go_wp2_with fail
      go_loopw [55] (fun x wr => ∃ (i : Nat) (lf lr : Value) (FBs : List Nat) (FGs : List (List Nat)), FBs.length = i ∧ i ≤ t.sub.length ∧ x = .int .i64 i ∧ Hid (Below W.heap.size W wr) ∧ Hid (wr.heap[b]? = some (.cells #[.int .i64 t.rep, .int .i64 (df : Nat), .int .i64 (lsN t ls : Nat), lf, lr] 111 (0, 0))) ∧ Hid (BoS b (dfN t df) (lsN t ls) N t En wr lf lr FBs FGs FBs FGs.flatten)) (fun x _ => t.sub.length - (intOf x).toNat)
      case atStart => exact ⟨0, _, _, [], [], rfl, Nat.zero_le _, rfl, HB2, HX3, HS0⟩
      case round =>
        clear HS0 HX3 m0 m1 m2 m3 m4
        obtain ⟨i, lf, lr, FBs, FGs, rfl, hik, rfl, HBr, HXr, HS⟩ := hrel
        obtain ⟨fa, fc, rfl⟩ := own_shp HS.out.rowF
        obtain ⟨ra, rc, rfl⟩ := own_shp HS.out.rowR
        have hbr : b < wr.heap.size := lt_of_block HXr.out
        obtain ⟨m, HM⟩ := hid_name FGs.flatten.length
        rw [HM.out] at HXr HS
        by_cases hlt : FBs.length < t.sub.length
        · obtain ⟨bb, o, a1, c1, rfl, d0, d1, d2, d3, d4, hl1⟩ := (HLN.out.keep HBr.out).at_ FBs.length hlt
          obtain ⟨w5, HW5, HZ5, HB5⟩ := one_box wr #[.int .i64 t.sub[FBs.length].id, .string t.sub[FBs.length].nm, .int .i64 t.sub[FBs.length].rep, .int .i64 t.sub[FBs.length].kind, .slice a1 t.sub[FBs.length].sub.length c1] 24
          have HBw5 : Hid (Below W.heap.size W w5) := HBr.out.trans (HB5.out.mono HBr.out.size)
          have HC : Hid _ := HEach.out FBs.length hlt w5.drew a1 c1 HBw5.out.drew ((hl1.keep HB5.out).stay (fun _ h _ => h) (fun _ _ _ => rfl))
          have HX5 : Hid _ := blk_keep HB5.out HXr.out
          obtain ⟨x, HXn⟩ := hid_name t.sub[FBs.length]
          have q0 : (0 : Int) ≤ (FBs.length : Int) := by omega
          have q1 : (FBs.length : Int) < (t.sub.length : Int) := by omega
          rw [HXn.out] at HC HW5 HZ5 d0 d1 d2 d3 d4
          clear hl1
          go_upto_region 13 with fail
          rw [HW5.out]
          clear d0 d1 d2 d3 d4
          obtain ⟨⟨n0, n1, n2, n3, n4⟩, _⟩ := row_five HZ5.out
          obtain ⟨⟨x0, x1, x2, x3, x4⟩, _⟩ := row_five HX5.out
          go_cut [13] (fun y wx => ∃ (bn : Nat) (Gn : List Nat), y = .pointer (some ⟨bn, 0, none⟩) ∧ Hid (BrI wx (fun k => wr.heap.size ≤ k) bn x (dfN t df) (lsN t ls) Gn) ∧ Hid (Gn.Nodup ∧ (∀ g ∈ Gn, wr.heap.size ≤ g)) ∧ Hid (RdAll wx N Gn ((lvI x).map En)) ∧ Hid (Below wr.heap.size wr wx))
          case first =>
            go_region_law (go_simp; refine Calls.mono HC.out ?_; rintro e wx ⟨bn, Gn, rfl, hbr1, hnd1, hg1, hr1, hb1⟩)
            all_goals
              go_wp2
              go_meet
              have hs5 : wr.heap.size ≤ w5.heap.size := HB5.out.size
              exact ⟨bn, Gn, rfl, hbr1.stay (fun k h _ => Nat.le_trans hs5 h) (fun _ _ _ => rfl), ⟨hnd1, fun g hg => Nat.le_trans hs5 (hg1 g hg)⟩, hr1, HB5.out.drew.trans (hb1.mono hs5)⟩
          case rest =>
            obtain ⟨bn, Gn, rfl, HBn2, HGn, HRd, HBw⟩ := hcut
            rename World => w6
            clear n0 n1 n2 n3 n4 x0 x1 x2 x3 x4 HC
            have HS6 : Hid (BoS b (dfN t df) (lsN t ls) N t En w6 (.slice fa FBs.length fc) (.slice ra m rc) (FBs ++ [bn]) (FGs ++ [Gn]) FBs FGs.flatten) := HS.out.call hbr HBw.out bn Gn hlt (by rw [HXn.out]; exact HBn2.out) HGn.out.1 HGn.out.2 (by rw [HXn.out]; exact HRd.out)
            have HX6 : Hid _ := blk_keep HBw.out HXr.out
            have HB6 : Hid (Below W.heap.size W w6) := HBr.out.trans (HBw.out.mono HBr.out.size)
            have hb6 : b < w6.heap.size := lt_of_block HX6.out
            obtain ⟨⟨x0, x1, x2, x3, x4⟩, _⟩ := row_five HX6.out
            go_upto_region 15 with (at_builtin; refine wpList_append_where _ rfl _ _ 108 rfl (b + 1) 88 iv (.pointer none) 1 8 Tryz.underlying108 hvi hv0 hv1 hv2 rfl (by decide) _ FBs.length (ptrs FBs) rfl (HS6.out.rowF.alloc _) ⟨_, 0, none⟩ 1 1 [.pointer (some ⟨bn, 0, none⟩)] rfl rfl (cell_one_new _ _ _) (by intro u hu; simp at hu; subst hu; rfl) (by unfold maxLen; omega) (by omega) (by simp; omega) (by decide) ?_; intro lf' w7 hown7 hgrow7 hwh7; obtain ⟨fa', fc', rfl⟩ := own_shp hown7; have HX7 : Hid _ := (grow_keepA hgrow7 b hb6 (fun e => by have := (HS6.out.rowF.lt b e).1; omega)).trans HX6.out; clear x0 x1 x2 x3 x4; obtain ⟨⟨x0, x1, x2, x3, x4⟩, _, _, _, f3, _⟩ := row_five HX7.out; have HOw7 : Hid (w7.ownsRow (b + 1) 88 1 (.slice fa' (FBs.length + 1) fc') (FBs.length + 1) (ptrs FBs ++ [.pointer (some ⟨bn, 0, none⟩)])) := hown7; have HGr7 : Hid _ := hgrow7; have HWh7 : Hid _ := hwh7; clear hown7 hgrow7 hwh7)
            obtain ⟨w8, HW8⟩ := hid_name (w7.setCell ⟨b, 3, none⟩ (.slice fa' (FBs.length + 1) fc'))
            have h78 : w8.heap.size = w7.heap.size := by rw [← HW8.out]; simp
            have h67 : w6.heap.size ≤ w7.heap.size := by have := HGr7.out.size; simp at this; omega
            have HS8 : Hid (BoS b (dfN t df) (lsN t ls) N t En w8 (.slice fa' (FBs.length + 1) fc') (.slice ra m rc) (FBs ++ [bn]) (FGs ++ [Gn]) (FBs ++ [bn]) FGs.flatten) := HS6.out.turnF (by omega) (fun k hk hkb ho => by
              rw [← HW8.out, Below.heap_setCell w7 ⟨b, 3, none⟩ _ k hkb]
              exact grow_keepA HGr7.out k hk ho) (by
              rcases HWh7.out with ⟨e, _⟩ | e
              · exact .inl e
              · exact .inr ⟨_, e, by simp⟩) (by
              have h := HOw7.out
              rw [ptrs_app, List.length_append]
              refine ownB_same h (fun k hk => ?_)
              have := (h.lt k hk).1
              rw [← HW8.out]
              exact Below.heap_setCell w7 ⟨b, 3, none⟩ _ k (by show k ≠ b; omega))
            have HX8 : Hid (w8.heap[b]? = some (.cells #[.int .i64 t.rep, .int .i64 (df : Nat), .int .i64 (lsN t ls : Nat), .slice fa' (FBs.length + 1) fc', .slice ra m rc] 111 (0, 0))) := (by show w8.heap[b]? = _; rw [← HW8.out]; exact row_setC HX7.out)
            have HB8 : Hid (Below W.heap.size W w8) := (by
              rw [← HW8.out]
              exact (grow_belowB (HB6.out.alloc HB6.out.size _) (Nat.le_refl _) HGr7.out (fun k hk => by have := (HS6.out.rowF.lt k hk).1; have := HWb.out; omega)).setCell HWb.out _)
            have hEl : (FBs ++ [bn])[FBs.length]'(by simp) = bn := by rw [List.getElem_append_right (Nat.le_refl _)]; simp
            have hlen8 := HS.out.len
            have hEg : (FGs ++ [Gn])[FBs.length]'(by simp [hlen8]) = Gn := by rw [List.getElem_append_right (by rw [hlen8]; exact Nat.le_refl _)]; simp [hlen8]
            have hbx := (HS8.out.each FBs.length (by simp) (by simp [hlen8]) hlt).1.at_
            rw [hEl, hEg] at hbx
            have hpos := hbx.pos
            obtain ⟨fv, ra2, rc2, hcell2, hra2, _⟩ := hbx.box
            have c4 := (row_fiveB hcell2).2.2.2.2
            obtain ⟨rb, ro, e2, _⟩ := hra2 0 (by rw [ptrs_len]; exact hpos)
            subst e2
            have HNews : Hid (∀ j u, (ptrs Gn)[j]? = some u → w8.drew.cell? ((⟨rb, ro, none⟩ : Addr).add j) = some u) := fun j u hu => by
              obtain ⟨hj, e⟩ := List.getElem?_eq_some_iff.1 hu
              obtain ⟨b3, o3, e3, h3⟩ := hra2 j hj
              injection e3 with e3
              injection e3 with e3 e4 _
              subst e3
              subst e4
              rw [addr_plus, ← e]
              exact h3
            have hfl := HS8.out.flen
            rw [flat_app, List.length_append, HM.out] at hfl
            have HRowR : Hid (w8.drew.ownsRow (b + 1) 113 1 (.slice ra m rc) m (ptrs FGs.flatten)) := (by
              have h : w8.drew.ownsRow _ _ _ _ _ _ := ownB_same HS8.out.rowR (fun _ _ => rfl)
              rw [HM.out] at h
              exact h)
            have hct := HCt.out
            have hb8 : b < w8.heap.size := lt_of_block HX8.out
            clear x0 x1 x2 x3 x4 f3 hbx hra2 hcell2 hEl hEg h78
            rw [HW8.out]
            obtain ⟨⟨x0, x1, x2, x3, x4⟩, _⟩ := row_five HX8.out
            go_region_law (refine step_own_where _ rfl _ _ 109 rfl (b + 1) 113 iw (.pointer none) 1 8 Tryz.underlying109 hwi hwz hwo hwt rfl (by decide) (.slice ra m rc) m (ptrs FGs.flatten) rfl HRowR.out ⟨rb, ro, none⟩ Gn.length rc2 (ptrs Gn) rfl (by rw [ptrs_len]; omega) HNews.out (by intro u hu; obtain ⟨g, _, rfl⟩ := List.mem_map.1 hu; rfl) (by unfold maxLen; omega) (by omega) (by show b + 1 ≤ w8.heap.size; omega) hpos ?_; intro lr' w9 hown9 hgrow9 hwh9; obtain ⟨ra', rc', rfl⟩ := own_shp hown9; have HX9 : Hid _ := (hgrow9.block b hb8 (fun e => by have := (HS8.out.rowR.lt b e.symm).1; omega)).trans HX8.out; clear x0 x1 x2 x3 x4; obtain ⟨⟨x0, x1, x2, x3, x4⟩, _, _, _, _, f4⟩ := row_five HX9.out; have HOw9 : Hid (w9.ownsRow (b + 1) 113 1 (.slice ra' (m + Gn.length) rc') (m + Gn.length) (ptrs FGs.flatten ++ ptrs Gn)) := hown9; have HGr9 : Hid _ := hgrow9; have HWh9 : Hid _ := hwh9; clear hown9 hgrow9 hwh9)
            all_goals
              have HXz : Hid ((w9.setCell ⟨b, 4, none⟩ (.slice ra' (m + Gn.length) rc')).heap[b]? = some (.cells #[.int .i64 t.rep, .int .i64 (df : Nat), .int .i64 (lsN t ls : Nat), .slice fa' (FBs.length + 1) fc', .slice ra' (m + Gn.length) rc'] 111 (0, 0))) := row_setC HX9.out
              have HBz : Hid (Below W.heap.size W (w9.setCell ⟨b, 4, none⟩ (.slice ra' (m + Gn.length) rc'))) := (grow_belowB HB8.out.drew (Nat.le_refl _) HGr9.out (fun k hk => by have := (HS8.out.rowR.lt k hk).1; have := HWb.out; omega)).setCell HWb.out _
              have HSz : Hid (BoS b (dfN t df) (lsN t ls) N t En (w9.setCell ⟨b, 4, none⟩ (.slice ra' (m + Gn.length) rc')) (.slice fa' (FBs.length + 1) fc') (.slice ra' (m + Gn.length) rc') (FBs ++ [bn]) (FGs ++ [Gn]) (FBs ++ [bn]) (FGs ++ [Gn]).flatten) := (by
                refine HS8.out.turnR ?_ (fun k hk hkb ho => ?_) ?_ ?_
                · have := HGr9.out.size
                  simpa using this
                · rw [Below.heap_setCell w9 ⟨b, 4, none⟩ _ k hkb]
                  exact HGr9.out.block k hk (fun e => ho e.symm)
                · rcases HWh9.out with ⟨e, _⟩ | e
                  · exact .inl e
                  · exact .inr ⟨_, e, Nat.le_refl _⟩
                · rw [flat_app, ptrs_app, List.length_append, HM.out]
                  refine ownB_same HOw9.out (fun k hk => ?_)
                  have h9 := HOw9.out
                  have := (h9.lt k hk).1
                  exact Below.heap_setCell w9 ⟨b, 4, none⟩ _ k (by show k ≠ b; omega))
              go_wp2
              go_roundw
              case rel => exact ⟨FBs.length + 1, _, _, FBs ++ [bn], FGs ++ [Gn], by simp, hlt, by go_num, HBz, HXz, HSz⟩
              case measure => simp [intOf]; omega
        · have hn : FBs.length = t.sub.length := by omega
          have hlen8 := HS.out.len
          have HFin : Hid (BrI wr (fun k => W.heap.size ≤ k) b t df ls FGs.flatten ∧ RdAll wr N FGs.flatten ((lvI t).map En)) := (by
            have hS := HS.out
            have hX := HXr.out
            rw [hn, ← HM.out] at hX
            have hfl : Lies wr fa (ptrs FBs) := own_liesX hS.rowF
            have hrl : Lies wr ra (ptrs FGs.flatten) := (by
              have h := hS.rowR
              rw [HM.out] at h
              exact own_liesX h)
            have hWb := HWb.out
            refine ⟨.group b t df ls fa fc ra rc (fun j => FBs.getD j 0) (fun j => FGs.getD j []) FGs.flatten HK.out h0 hWb hX (by rw [← hn, map_getD]; exact hfl) (fun a o e => ?_) (fun j h => ?_) hrl (fun a o e => ?_) (by rw [← hn, hlen8, flatMap_getD]), by rw [lvI_eq, if_pos HK.out]; exact flat_rdAll En FGs t.sub (by omega) (fun j h1 h2 => (hS.each j (by omega) h1 h2).2)⟩
            · have := (hS.rowF.lt a (by rw [e]; rfl)).1
              show W.heap.size ≤ a
              omega
            · have e1 : FBs.getD j 0 = FBs[j]'(by omega) := by simp [List.getD, show j < FBs.length by omega]
              have e2 : FGs.getD j [] = FGs[j]'(by omega) := by simp [List.getD, show j < FGs.length by omega]
              show BrI _ _ (FBs.getD j 0) _ _ _ (FGs.getD j [])
              rw [e1, e2]
              exact (hS.each j (by omega) (by omega) h).1.stay (fun k hk _ => by have := hk.1; omega) (fun _ _ _ => rfl)
            · have := (hS.rowR.lt a (by rw [e]; rfl)).1
              show W.heap.size ≤ a
              omega)
          have HLt : Hid (∀ g ∈ FGs.flatten, W.heap.size ≤ g) := fun g hg => by have := (HS.out.lt g hg).1; have := HWb.out; omega
          go_wp2
          go_ret
          exact ⟨b, FGs.flatten, rfl, HFin.out.1, HS.out.nod, HLt.out, HFin.out.2, HBr.out⟩
end Go.Proofs.YtbicfjimlpdnkaaGreatDoor

namespace Go.Proofs.YtbicfjimlpdnkaaGreatDoor
open Go.RowKit
theorem bo_any : ∀ (n : Nat) (t : Tr), SizeOf.sizeOf t < n → (∀ y ∈ ndT t, y.kind = 0 → 0 < y.sub.length) → BoA t
  | 0, t, h => absurd h (Nat.not_lt_zero _)
  | n + 1, t, hsz => fun hs => by
    by_cases hk : t.kind = 0
    · refine bo_group t hk (hs t (by rw [ndT_eq]; exact List.mem_cons_self) hk) (fun j h => bo_any n t.sub[j] ?_ (fun y hy => hs y (nd_sub (List.getElem_mem h) hy)))
      have h1 := List.sizeOf_lt_of_mem (List.getElem_mem h)
      have h2 : SizeOf.sizeOf t.sub < SizeOf.sizeOf t := by
        cases t with
        | node id nm rep kind sub => simp only [Tr.sub, Tr.node.sizeOf_spec]; omega
      omega
    · exact bo_leaf t hk
/-- A right schema's groups have nodes. -/
theorem right_grp {t : Tr} (hs : shpT t = true) : ∀ y ∈ ndT t, (1 ≤ y.rep ∧ y.rep ≤ 3) ∧ (y.kind = 0 → 0 < y.sub.length) := fun y hy => by
  rw [shp_all, Bool.and_eq_true] at hs
  have h : shpOk y = true := by
    rw [ndT_eq] at hy
    rcases List.mem_cons.1 hy with rfl | hy
    · exact hs.1
    · exact List.all_eq_true.1 hs.2 y hy
  unfold shpOk at h
  simp only [Bool.and_eq_true, decide_eq_true_iff] at h
  refine ⟨h.1.1, fun hk => ?_⟩
  have h2 := h.2
  rw [hk] at h2
  simpa using h2
end Go.Proofs.YtbicfjimlpdnkaaGreatDoor

namespace Go.Proofs.YtbicfjimlpdnkaaGreatDoor
open Go.RowKit
theorem chkL_at : ∀ (ds : List Dt) (t : Tr), chkL t ds = 0 → ∀ d ∈ ds, chk true t d = 0
  | [], t, _, d, hd => by simp at hd
  | x :: ds, t, h, d, hd => by
    rw [chkL] at h
    split at h
    · rename_i h1
      rcases List.mem_cons.1 hd with rfl | hd
      · exact h1
      · exact chkL_at ds t h d hd
    · rename_i h1; exact absurd h h1
theorem chkF_at : ∀ (ds : List Dt) (ts : List Tr), ds.length = ts.length → chkF ts ds = 0 → ∀ j (h : j < ts.length) (h' : j < ds.length), chk false ts[j] ds[j] = 0
  | [], ts, hl, _, j, _, h' => by simp at h'
  | x :: ds, [], hl, _, j, h, _ => by simp at h
  | x :: ds, t :: ts, hl, h, j, hj, hj' => by
    rw [chkF] at h
    split at h
    · rename_i h1
      cases j with
      | zero => exact h1
      | succ j => exact chkF_at ds ts (by simpa using hl) h j (by simpa using hj) (by simpa using hj')
    · rename_i h1; exact absurd h h1
/-- A right group. -/
theorem chk_grp {t : Tr} {d : Dt} (hk : t.kind = 0) (h : chk true t d = 0) : d.no = false ∧ d.l = [] ∧ d.f.length = t.sub.length ∧ ∀ j (h : j < t.sub.length) (h' : j < d.f.length), chk false t.sub[j] d.f[j] = 0 := by
  rw [chk_group t d hk, grpEr] at h
  split at h
  · omega
  · rename_i h1
    simp only [Bool.or_eq_true, not_or, Bool.not_eq_true, Bool.not_eq_false', decide_eq_true_iff] at h1
    have hl : d.f.length = t.sub.length := by simpa using h1.2
    exact ⟨h1.1.1.1, List.eq_nil_of_length_eq_zero (by have := h1.1.2; simpa using this), hl, fun j hj hj' => chkF_at _ _ hl h j hj hj'⟩
/-- A right list. -/
theorem chk_lst {t : Tr} {d : Dt} (hr : t.rep = 3) (h : chk false t d = 0) : d.l.length ≤ 40 ∧ ∀ e ∈ d.l, chk true t e = 0 := by
  rw [chk_list t d hr, lstEr] at h
  split at h
  · omega
  · split at h
    · omega
    · exact ⟨by omega, chkL_at _ _ h⟩
/-- A right leaf. -/
theorem chk_lf {t : Tr} {d : Dt} (hk : t.kind ≠ 0) (h : chk true t d = 0) : d.no = false ∧ badV t.kind d.v = false := by
  rw [chk_leaf t d hk, leafEr] at h
  split at h
  · omega
  · rename_i h1
    split at h
    · omega
    · rename_i h2
      simp only [Bool.or_eq_true, not_or, Bool.not_eq_true] at h1 h2
      refine ⟨h1.1.1, ?_⟩
      unfold badV
      rw [Bool.or_eq_false_iff]
      refine ⟨?_, h2.2⟩
      have := h2.1
      simp only [Bool.not_eq_false', decide_eq_true_iff] at this
      simp [this]
/-- What is not there is so of an Optional alone. -/
theorem chk_no {t : Tr} {d : Dt} (h3 : t.rep ≠ 3) (hn : d.no = true) (h : chk false t d = 0) : t.rep = 2 := by
  by_cases h2 : t.rep = 2
  · exact h2
  · exfalso
    rw [chk_one t d h3 (fun e => h2 e.1)] at h
    by_cases hk : t.kind = 0
    · have := (chk_grp hk h).1; rw [hn] at this; cases this
    · have := (chk_lf hk h).1; rw [hn] at this; cases this
theorem chk_yes {t : Tr} {d : Dt} (h3 : t.rep ≠ 3) (hn : d.no = false) (h : chk false t d = 0) : chk true t d = 0 := by
  rw [chk_one t d h3 (fun e => by rw [hn] at e; exact absurd e.2 (by simp))] at h
  exact h
theorem getD_at {l : List Dt} {i : Nat} (h : i < l.length) : l.getD i default = l[i] := by simp [List.getD, h]
/-- The field that a way goes on into. -/
theorem chk_in {t x : Tr} {q : List Tr} {d : Dt} (hc : Chn t (x :: q)) (h : chk true t d = 0) : ixO t.sub x.id < d.f.length ∧ chk false x (d.f.getD (ixO t.sub x.id) default) = 0 ∧ Chn x q := by
  obtain ⟨hk, ⟨i, hi, e, hf⟩, hq⟩ := hc
  obtain ⟨_, _, hl, h4⟩ := chk_grp hk h
  have hi' : i < d.f.length := by omega
  rw [ixO_at hi e hf]
  refine ⟨hi', ?_, hq⟩
  rw [getD_at hi', ← e]
  exact h4 i hi hi'
/-- A right record has what the steps lead to. -/
theorem chn_fit : ∀ (q : List Tr) (t : Tr) (df ls : Nat) (d : Dt), Chn t q → chk true t d = 0 → FitS (stq t q df ls) d
  | [], t, df, ls, d, _, _ => by rw [stq, FitS]; trivial
  | x :: q, t, df, ls, d, hc, h => by
    obtain ⟨h1, h2, h3⟩ := chk_in hc h
    rw [stq, FitS]
    refine ⟨h1, fun hr e he => ?_, fun hr hn => ?_⟩
    · exact chn_fit q x _ _ e h3 ((chk_lst hr h2).2 e he)
    · exact chn_fit q x _ _ _ h3 (chk_yes hr hn h2)
/-- Entries that begin with a level: each other one is above a bound, up to another one; those with a value are at the deepest level, and no others. -/
structure EnOk (md lo hi : Nat) (kind rep : Int) (es : List Ent) : Prop where
  first : ∃ e tl, es = e :: tl ∧ e.rep = rep ∧ ∀ x ∈ tl, (lo : Int) < x.rep ∧ x.rep ≤ (hi : Int)
  each : ∀ e ∈ es, 0 ≤ e.dfn ∧ e.dfn ≤ (md : Int) ∧ (e.v = none → e.dfn ≠ (md : Int)) ∧ ∀ v, e.v = some v → e.dfn = (md : Int) ∧ badV kind v = false
theorem enOk_none {md lo hi df : Nat} {kind rep : Int} (h : df < md) : EnOk md lo hi kind rep [⟨rep, (df : Nat), none⟩] :=
  ⟨⟨_, _, rfl, rfl, fun x hx => by simp at hx⟩, fun e he => by
    rw [List.mem_singleton] at he
    subst he
    exact ⟨by simp, by simp; omega, fun _ => by simp; omega, fun v hv => by simp at hv⟩⟩
theorem dn_ok : ∀ (q : List Tr) (t : Tr) (md df ls : Nat) (z : Tr) (d : Dt) (rep : Int), Chn t q → (t :: q).getLast? = some z → df + lvD q = md → chk true t d = 0 → EnOk md ls (ls + lvR q) z.kind rep (dn md (stq t q df ls) d rep)
  | [], t, md, df, ls, z, d, rep, hc, hz, hm, h => by
    rw [stq, dn]
    have e : t = z := by simpa using hz
    subst e
    exact ⟨⟨_, _, rfl, rfl, fun x hx => by simp at hx⟩, fun e he => by
      rw [List.mem_singleton] at he
      subst he
      refine ⟨by simp, by simp, fun hv => by simp at hv, fun v hv => ⟨rfl, ?_⟩⟩
      obtain rfl : d.v = v := by simpa using hv
      exact (chk_lf hc h).2⟩
  | x :: q, t, md, df, ls, z, d, rep, hc, hz, hm, h => by
    obtain ⟨h1, h2, h3⟩ := chk_in hc h
    rw [List.getLast?_cons_cons] at hz
    rw [lvD_cq] at hm
    rw [stq, lvR_cq]
    by_cases hr : x.rep = 3
    · have hr1 : ¬ x.rep = 1 := by rw [hr]; decide
      simp only [if_neg hr1] at hm ⊢
      simp only [if_pos hr]
      by_cases hn : (d.f.getD (ixO t.sub x.id) default).l = []
      · rw [dn_nil md _ _ d rep hr hn]
        exact enOk_none (df := df) (by omega)
      · rw [dn]
        rw [if_pos hr]
        obtain ⟨e0, es, he⟩ : ∃ e0 es, (d.f.getD (ixO t.sub x.id) default).l = e0 :: es := by
          cases hl : (d.f.getD (ixO t.sub x.id) default).l with
          | nil => exact absurd hl hn
          | cons e0 es => exact ⟨e0, es, rfl⟩
        have hl := (chk_lst hr h2).2
        rw [he] at hl
        have H : ∀ e ∈ e0 :: es, ∀ rep, EnOk md (ls + 1) (ls + 1 + lvR q) z.kind rep (dn md (stq x q (df + 1) (ls + 1)) e rep) := fun e hm' rep => dn_ok q x md (df + 1) (ls + 1) z e rep h3 hz (by omega) (hl e hm')
        simp only [he]
        obtain ⟨⟨a, tl, ea, er, et⟩, hea⟩ := H e0 (by simp) rep
        refine ⟨⟨a, tl ++ es.flatMap (fun y => dn md (stq x q (df + 1) (ls + 1)) y ((ls + 1 : Nat) : Int)), by rw [ea, List.cons_append], er, fun y hy => ?_⟩, fun e hme => ?_⟩
        · rcases List.mem_append.1 hy with hy | hy
          · have := et y hy; omega
          · obtain ⟨e, hme, hy⟩ := List.mem_flatMap.1 hy
            obtain ⟨⟨a', tl', ea', er', et'⟩, _⟩ := H e (List.mem_cons_of_mem _ hme) ((ls + 1 : Nat) : Int)
            rw [ea'] at hy
            rcases List.mem_cons.1 hy with rfl | hy
            · rw [er']; omega
            · have := et' y hy; omega
        · rcases List.mem_append.1 hme with hme | hme
          · exact hea e hme
          · obtain ⟨e', hme', hy⟩ := List.mem_flatMap.1 hme
            exact (H e' (List.mem_cons_of_mem _ hme') ((ls + 1 : Nat) : Int)).each e hy
    · simp only [if_neg hr]
      rw [Nat.zero_add]
      by_cases hn : (d.f.getD (ixO t.sub x.id) default).no = true
      · rw [dn_none md _ _ d rep hr hn]
        have h2r := chk_no hr hn h2
        have hr1 : ¬ x.rep = 1 := by rw [h2r]; decide
        rw [if_neg hr1] at hm
        exact enOk_none (df := df) (by omega)
      · rw [Bool.not_eq_true] at hn
        rw [dn_one md _ _ d rep hr hn]
        exact dn_ok q x md _ ls z _ rep h3 hz (by by_cases h1 : x.rep = 1 <;> simp only [h1, if_true, if_false] at hm ⊢ <;> omega) (chk_yes hr hn h2)
/-- No more entries than a record is heavy. -/
theorem wt_fld {d : Dt} {i : Nat} (h : i < d.f.length) : wt d.f[i] + 1 ≤ wt d := by
  rw [wt_eq d]
  have t1 := wtL_take d.f i h
  have t2 := wtL_part d.f (i + 1)
  omega
theorem wt_pos (d : Dt) : 1 ≤ wt d := by rw [wt_eq]; omega
theorem dn_len : ∀ (sts : List Stp) (md : Nat) (d : Dt) (rep : Int), FitS sts d → (dn md sts d rep).length ≤ wt d
  | [], md, d, rep, _ => by rw [dn]; simpa using wt_pos d
  | s :: sts, md, d, rep, hf => by
    obtain ⟨h1, h2, h3⟩ := hf
    have hw := wt_fld h1
    rw [getD_at h1] at h2 h3
    by_cases hr : s.rep = 3
    · by_cases hn : (d.f.getD s.field default).l = []
      · rw [dn_nil md s sts d rep hr hn]; simpa using wt_pos d
      · rw [dn, if_pos hr]
        rw [getD_at h1] at hn ⊢
        have hl := h2 hr
        have hw2 := wt_eq d.f[s.field]
        have H : ∀ (es : List Dt), (∀ e ∈ es, FitS sts e) → (es.flatMap fun y => dn md sts y s.lists).length ≤ wtL es := fun es => by
          induction es with
          | nil => intro _; simp
          | cons e es ih =>
            intro hh
            have h1 := dn_len sts md e s.lists (hh e (by simp))
            have h2 := ih fun y hy => hh y (by simp [hy])
            rw [List.flatMap_cons, List.length_append, wtL]
            omega
        match hm : d.f[s.field].l, hn with
        | e :: es, _ =>
          rw [hm] at hl hw2
          have h1 := dn_len sts md e rep (hl e (by simp))
          have h2 := H es fun y hy => hl y (by simp [hy])
          simp only [List.length_append]
          rw [wtL] at hw2
          omega
    · by_cases hn : (d.f.getD s.field default).no = true
      · rw [dn_none md s sts d rep hr hn]; simpa using wt_pos d
      · rw [Bool.not_eq_true] at hn
        rw [dn_one md s sts d rep hr hn]
        rw [getD_at h1] at hn ⊢
        have := dn_len sts md d.f[s.field] rep (h3 hr hn)
        omega
theorem ents_len (sts : List Stp) (md : Nat) : ∀ (ds : List Dt), (∀ d ∈ ds, FitS sts d) → (ents md sts ds).length ≤ wtL ds
  | [], _ => by simp [ents, wtL]
  | d :: ds, h => by
    have h1 := dn_len sts md d 0 (h d (by simp))
    have h2 := ents_len sts md ds fun y hy => h y (by simp [hy])
    unfold ents at h2 ⊢
    rw [List.flatMap_cons, List.length_append, wtL]
    omega
end Go.Proofs.YtbicfjimlpdnkaaGreatDoor

namespace Go.Proofs.YtbicfjimlpdnkaaGreatDoor
open Go.RowKit
/-- Where a leaf stands among the leaves of a node. -/
def lix : Tr → List Tr → Nat
  | _, [] => 0
  | t, x :: q => lvCL (t.sub.take (ixO t.sub x.id)) + lix x q
theorem lix_lt : ∀ (q : List Tr) (t : Tr), Chn t q → lix t q < lvC t
  | [], t, h => by
    have hk : t.kind ≠ 0 := h
    rw [lix, lvC_eq, if_neg hk]
    omega
  | x :: q, t, h => by
    obtain ⟨hk, ⟨i, hi, e, hf⟩, hq⟩ := h
    have ih := lix_lt q x hq
    rw [lix, ixO_at hi e hf, lvC_eq, if_pos hk]
    have h1 : lvCL (t.sub.take (i + 1)) = lvCL (t.sub.take i) + lvC x := by
      rw [List.take_succ_eq_append_getElem hi, lvCL_app, e]
      simp [lvCL]
    have h2 := lvCL_take t.sub (i + 1)
    omega
theorem zipA_get {A B : List (List Ent)} {k : Nat} {a b : List Ent} (h1 : A[k]? = some a) (h2 : B[k]? = some b) : (zipA A B)[k]? = some (a ++ b) := by
  unfold zipA
  rw [List.getElem?_zipWith, h1, h2]
theorem abs_get (t : Tr) (df : Nat) (rep : Int) (k : Nat) (h : k < lvC t) : (absE t df rep)[k]? = some [⟨rep, (df : Int), none⟩] := by
  unfold absE
  rw [List.getElem?_replicate, if_pos h]
theorem enF_at (df ls : Nat) (rep : Int) (ts : List Tr) (ds : List Dt) (hl : ds.length = ts.length) (hck : ∀ j (h : j < ts.length) (h' : j < ds.length), chk false ts[j] ds[j] = 0) (i : Nat) (h : i < ts.length) (h' : i < ds.length) (k : Nat) (hk : k < lvC ts[i]) : (enF ts df ls rep ds)[lvCL (ts.take i) + k]? = (en false ts[i] df ls rep ds[i])[k]? := by
  obtain ⟨tl, e⟩ := enF_split df ls rep i ts ds h h'
  have h1 : (enF (ts.take i) df ls rep (ds.take i)).length = lvCL (ts.take i) := enF_len _ _ _ _ _ (by simp [hl]) (fun j h1 h2 => by
    rw [List.length_take] at h1 h2
    simp only [List.getElem_take]
    exact hck j (by omega) (by omega))
  have h2 := en_len ds[i] false ts[i] df ls rep (hck i h h')
  rw [e, List.getElem?_append_right (by omega), h1, Nat.add_sub_cancel_left, List.getElem?_append_left (by omega)]
theorem enL_get (x : Tr) (df ls k : Nat) (F : Dt → Int → List Ent) (hk : k < lvC x) : ∀ (es : List Dt), (∀ e ∈ es, (en true x df ls (ls : Int) e)[k]? = some (F e (ls : Int))) → (enL x df ls (ls : Int) es)[k]? = some (es.flatMap fun y => F y (ls : Int))
  | [], _ => by rw [enL, List.getElem?_replicate, if_pos hk]; rfl
  | e :: es, h => by
    rw [enL, List.flatMap_cons]
    exact zipA_get (h e List.mem_cons_self) (enL_get x df ls k F hk es (fun y hy => h y (List.mem_cons_of_mem _ hy)))
theorem en_dn : ∀ (q : List Tr) (t : Tr) (md df ls : Nat) (rep : Int) (d : Dt), Chn t q → chk true t d = 0 → df + lvD q = md → (en true t df ls rep d)[lix t q]? = some (dn md (stq t q df ls) d rep)
  | [], t, md, df, ls, rep, d, hc, h, hm => by
    have hk : t.kind ≠ 0 := hc
    have e : md = df := by rw [← hm]; rfl
    rw [en_eq, if_neg (by simp), if_neg (by simp), if_neg hk, stq, dn, lix, e]
    simp
  | x :: q, t, md, df, ls, rep, d, hc, h, hm => by
    obtain ⟨hk, ⟨i, hi, e, hf⟩, hq⟩ := hc
    obtain ⟨_, _, hl, h4⟩ := chk_grp hk h
    have hi' : i < d.f.length := by omega
    have hix := ixO_at hi e hf
    have hlt := lix_lt q x hq
    have hck := h4 i hi hi'
    have hgd : d.f.getD i default = d.f[i] := getD_at hi'
    rw [lvD_cq] at hm
    rw [e] at hck
    rw [en_eq, if_neg (by simp), if_neg (by simp), if_pos hk, if_pos (Or.inl rfl), lix, hix, enF_at df ls rep t.sub d.f hl h4 i hi hi' _ (by rw [e]; exact hlt), e, stq, dn, hix]
    simp only [hgd]
    by_cases h3 : x.rep = 3
    · have h1 : ¬ x.rep = 1 := by omega
      rw [if_neg h1] at hm
      simp only [h3, if_true]
      rw [en_eq, if_pos ⟨rfl, h3⟩]
      have hel := (chk_lst h3 hck).2
      cases hll : d.f[i].l with
      | nil =>
        rw [if_pos (by simp)]
        exact abs_get x df rep _ hlt
      | cons y ys =>
        rw [if_neg (by simp), enL]
        rw [hll] at hel
        exact zipA_get (en_dn q x md (df + 1) (ls + 1) rep y hq (hel y List.mem_cons_self) (by omega)) (enL_get x (df + 1) (ls + 1) _ (fun y r => dn md (stq x q (df + 1) (ls + 1)) y r) hlt ys (fun y hy => en_dn q x md (df + 1) (ls + 1) _ y hq (hel y (List.mem_cons_of_mem _ hy)) (by omega)))
    · simp only [if_neg h3]
      by_cases hn : d.f[i].no = true
      · rw [if_pos hn, en_eq, if_neg (by simp [h3]), if_pos ⟨rfl, hn⟩]
        exact abs_get x df rep _ hlt
      · have hn' : d.f[i].no = false := by simpa using hn
        rw [if_neg hn, en_one h3 hn']
        have h5 := en_dn q x md (dfN x df) (lsN x ls) rep d.f[i] hq (chk_yes h3 hn' hck) (by unfold dfN; split at hm <;> simp_all <;> omega)
        unfold dfN lsN at h5 ⊢
        rw [if_neg h3] at h5 ⊢
        exact h5
/-- .. of many records. -/
theorem enL_dn (q : List Tr) (t : Tr) (md : Nat) (hc : Chn t q) (hm : lvD q = md) (ds : List Dt) (h : ∀ d ∈ ds, chk true t d = 0) : (enL t 0 0 0 ds)[lix t q]? = some (ents md (stq t q 0 0) ds) :=
  enL_get t 0 0 (lix t q) (fun d r => dn md (stq t q 0 0) d r) (lix_lt q t hc) ds (fun d hd => en_dn q t md 0 0 _ d hc (h d hd) (by omega))
end Go.Proofs.YtbicfjimlpdnkaaGreatDoor
