/-
  auto.Machine.run: which leaves are read.
-/
import Derived.Test.YtbicfjimlpdnkaaGreatDoorHBStBase
import Derived.Test.YtbicfjimlpdnkaaGreatDoorHBAutoK
import Derived.Laws.MakeOwn
namespace Go.Proofs.YtbicfjimlpdnkaaGreatDoor
open Go.RowKit
def tlLen : Value → Nat
  | .slice _ n _ => n
  | _ => 0
/-- Whether a record is left. -/
theorem WlkR.left {X : Nat → Int → Nat} {n N : Nat} {E : List (List Ent)} {Rm : Nat → List (List Ent)} {Sc : Nat → List Nat} (h : WlkR X n N E Rm Sc) (hn : 0 < n) (i : Nat) (hi : i ≤ N) : decide ((((E.getD 0 []).length - ((Rm i).getD 0 []).length : Nat) : Int) < ((E.getD 0 []).length : Int)) = decide (i < N) := by
  have hl := h.len i
  have hs := (h.sfE i hi).2 0
  have hE : E.length = n := by rw [← h.first]; exact h.len 0
  obtain ⟨d, r, e1, e2⟩ := hs (E[0]'(by omega)) (List.getElem?_eq_getElem _)
  have e3 : E.getD 0 [] = d ++ r := by rw [← e2]; simp [List.getD, show 0 < E.length by omega]
  have e4 : (Rm i).getD 0 [] = r := by simp [List.getD, e1]
  rw [e3, e4, List.length_append]
  by_cases hlt : i < N
  · obtain ⟨x, r2, e5⟩ := h.some_ i hlt r (List.mem_of_getElem? e1)
    rw [decide_eq_true hlt, decide_eq_true_iff, e5]
    simp
    omega
  · obtain rfl : i = N := by omega
    rw [h.last] at e1
    have e5 : r = [] := by
      rw [List.getElem?_replicate] at e1
      split at e1
      · exact (Option.some.inj e1).symm
      · omega
    rw [decide_eq_false hlt, decide_eq_false_iff_not, e5]
    simp
set_option maxRecDepth 100000 in
set_option maxHeartbeats 6400000 in
theorem run_any (L : List (List Int)) (E : List (List Ent)) (cs : List Cl) (N : Nat) (Rm : Nat → List (List Ent)) (Sc : Nat → List Nat) (hw : WlkR (XK L) L.length N E Rm Sc) (hL0 : 0 < L.length) (hL : L.length ≤ 1000) (hLv : LvlB E L) (hc : cs.length = L.length) (hrs : ∀ j (h : j < cs.length) (es : List Ent), E[j]? = some es → cs[j].rs = eR es) (h20 : ∀ es ∈ E, es.length ≤ 20000) (hT : (Ttr Sc N).length ≤ 100000000)
    (la : Option Addr) (lc : Nat) (ca : Option Addr) (cc : Nat) (W : World) (hlst : LstR W la ((List.range L.length).map (nxtR L))) (hlc : LiesC W ca cs) :
    Calls Tryz.prog (21) #[.agg #[.slice la L.length lc], .slice ca cs.length cc] W fun e w' => (∃ lv, e = .returned lv ∧ w'.ownsRow (W.heap.size + 2) 3 1 lv (Ttr Sc N).length (i64s ((Ttr Sc N).map fun x => ((x : Nat) : Int)))) ∧ Below W.heap.size W w' := by
  obtain ⟨iv, hvi, hv0, hv1, hv2⟩ := info_parts Tryz.infoI
  have hEl : E.length = L.length := by rw [← hw.first]; exact hw.len 0
  obtain ⟨M, hM⟩ : ∃ M, M = madeCells (Value.int .i64 0).cells (((cs.length : Nat) : Int).toNat * iv.size) := ⟨_, rfl⟩
  have hMs : M.size = cs.length := by rw [hM, size_madeCells, hv1]; simp
  have hMz : M = rdv E E := rdv_start E M (by omega) fun j hj => by
    have h1 : j < M.size := by omega
    rw [Array.getElem?_eq_getElem h1]
    subst hM
    congr 1
    simp [madeCells, Value.cells, Nat.mod_one]
  have hmk : ∀ W : World, (Instr.makeSlice 36 (.int .i64 (cs.length : Int)) (.int .i64 (cs.length : Int))).run Tryz.prog W = .ok (.slice (some ⟨W.heap.size, 0, none⟩) cs.length cs.length) (W.alloc (.cells (rdv E E) 3)) := fun W => by
    have h := run_make (P := Tryz.prog) W 36 3 iv (.int .i64 0) Tryz.underlying36 hvi hv0 .i64 .i64 (cs.length : Int) (cs.length : Int) (by omega) (by omega) (by rw [hv2]; omega) (by omega)
    rw [← hM, hMz] at h
    simpa using h
  obtain ⟨nL, HnL⟩ := hid_name L.length
  obtain ⟨w0, HW0, HX, HB⟩ := one_box W #[.slice la nL lc] 46
  have hs0 : w0.heap.size = W.heap.size + 1 := by rw [← HW0.out]; simp
  have HS : Hid (TrS W.heap.size la nL lc W E E [] (.slice none 0 0) (w0.alloc (.cells (rdv E E) 3))) := ⟨blk_alloc HX.out, by rw [← hs0]; exact heap_alloc_new w0 _, World.ownsRow_nil _ _ _ _, HB.out.alloc (by omega) _⟩
  have HLs : Hid (LstR W la ((List.range nL).map (nxtR L))) := by show LstR _ _ _; rw [← HnL.out]; exact hlst
  have HLC : Hid (LiesC W ca cs) := hlc
  have HWk : Hid (WlkR (XK L) nL N E Rm Sc) := by show WlkR _ _ _ _ _ _; rw [← HnL.out]; exact hw
  have HLv : Hid (LvlB E L) := hLv
  have HRs : Hid (∀ j (h : j < cs.length) (es : List Ent), E[j]? = some es → cs[j].rs = eR es) := hrs
  have H20 : Hid (∀ es ∈ E, es.length ≤ 20000) := h20
  have HEl : Hid (E.length = nL) := by show _ = _; rw [hEl, HnL.out]
  have HEL : Hid (E.length = L.length) := hEl
  have HcL : Hid (cs.length = nL) := by show _ = _; rw [hc, HnL.out]
  have HT : Hid ((Ttr Sc N).length ≤ 100000000) := hT
  rw [hc] at hmk ⊢
  rw [HnL.out] at hmk hL0 hL ⊢
  clear hM hMs hMz hlst hlc hw hLv hrs h20 hEl hc hT HX
  go_enter Tryz.func21, Tryz.ntmps21
  go_wp2_with fail
  rw [HW0.out]
  clear hmk
  go_loopw [5] (fun x wr => ∃ i : Nat, i ≤ N ∧ Hid (TrS W.heap.size la nL lc W E (Rm i) (Ttr Sc i) x wr)) (fun x _ => (Ttr Sc N).length - (tlLen x))
  case atStart => exact ⟨0, Nat.zero_le _, by show TrS _ _ _ _ _ _ _ _ _ _; rw [HWk.out.first]; exact HS.out⟩
  case round =>
    clear HS
    obtain ⟨i, hi, HO⟩ := hrel
    obtain ⟨la1, lc1, hx1⟩ := own_slC HO.out.row
    subst hx1
    obtain ⟨cb, co, eca, ec0, ec1, ec2, ec3⟩ := ((HLC.out.keep HO.out.old) 0 (by rw [HcL.out]; exact hL0)).1
    subst eca
    have hE0 : 0 < E.length := by rw [HEl.out]; exact hL0
    have hrs0 : (cs[0]'(by rw [HcL.out]; exact hL0)).rs.length = (E.getD 0 []).length := by
      rw [HRs.out 0 _ E[0] (List.getElem?_eq_getElem hE0), eR_len]
      simp [List.getD, hE0]
    rw [hrs0] at ec1
    have r0 : wr.cell? ⟨W.heap.size + 1, 0, none⟩ = some (.int .i64 (((E.getD 0 []).length - ((Rm i).getD 0 []).length : Nat) : Int)) := by rw [cell_of_row _ _ _ _ _ _ HO.out.read]; exact rdv_at E (Rm i) 0 hE0
    have q := HWk.out.left hL0 i hi
    obtain ⟨d0, Hd0⟩ := hid_name ((E.getD 0 []).length - ((Rm i).getD 0 []).length)
    rw [Hd0.out] at r0 q
    obtain ⟨e0, He0⟩ := hid_name (E.getD 0 []).length
    rw [He0.out] at ec1 q
    obtain ⟨bx, hbx1⟩ := row_one HO.out.box
    clear hrs0 hE0
    by_cases hlt : i < N
    · rw [decide_eq_true hlt] at q
      have q2 : decide (d0 < e0) = true := by simpa using q
      go_upto_region 3 with fail
      go_quiet (fail)
      have HO2 : Hid (∀ m, TrS W.heap.size la nL lc W E (Rm i) (Ttr Sc i) (.slice la1 (Ttr Sc i).length lc1) (wr.drewN m)) := fun m => HO.out.keep (below_dN (Below.refl _ _) _)
      clear q q2 r0 ec0 ec1 ec2 ec3 bx
      go_wp2_with fail
      go_loopw [5, 7] (fun x y wr => ∃ (R : List (List Ent)) (k : Nat) (D S2 : List Nat), D ++ S2 = Sc i ∧ y = .int .i64 k ∧ Hid (Rn (XK L) k R S2 nL (Rm (i + 1))) ∧ Hid (TrS W.heap.size la nL lc W E R (Ttr Sc i ++ D) x wr) ∧ Hid (SfE E R)) (fun x _ _ => (Ttr Sc (i + 1)).length - tlLen x)
      case atStart => exact ⟨Rm i, 0, [], Sc i, rfl, rfl, HWk.out.go i hlt, by rw [List.append_nil]; exact HO2.out _, HWk.out.sfE i hi⟩
      case round =>
        clear HO HO2
        obtain ⟨R, k, D, S2, hDS, rfl, HR, HO, HSf⟩ := hrel
        have HDS : Hid (D ++ S2 = Sc i) := hDS
        clear hDS
        obtain ⟨la2, lc2, hx2⟩ := own_slC HO.out.row
        subst hx2
        obtain ⟨bx, _⟩ := row_one HO.out.box
        rcases HR.out.inv with ⟨rfl, hk, rfl⟩ | ⟨x, r, S3, rfl, hx, ht⟩
        · have hk := hk.symm
          subst hk
          have q : decide ((nL : Int) < (nL : Int)) = false := by simp
          have HO3 : Hid (TrS W.heap.size la nL lc W E (Rm (i + 1)) (Ttr Sc (i + 1)) (.slice la2 (Ttr Sc i ++ D).length lc2) wr) := by
            show TrS _ _ _ _ _ _ _ _ _ _
            rw [Ttr_succ, ← HDS.out, List.append_nil]
            exact HO.out
          have HM1 : Hid ((Ttr Sc i).length < (Ttr Sc i ++ D).length) := by
            show _ < _
            have h := HWk.out.go i hlt
            rw [← HDS.out, List.append_nil] at h
            cases D with
            | nil =>
              rcases h.inv with ⟨_, h1, _⟩ | ⟨_, _, _, h1, _⟩
              · omega
              · cases h1
            | cons y D => simp
          have HM2 : Hid ((Ttr Sc i ++ D).length ≤ (Ttr Sc N).length) := by
            show _ ≤ _
            have h := Ttr_le Sc (i + 1) (N - (i + 1))
            rw [show i + 1 + (N - (i + 1)) = N by omega, Ttr_succ, ← HDS.out, List.append_nil] at h
            exact h
          clear HO HDS HR
          go_wp2
          go_roundw
          case rel => exact ⟨i + 1, hlt, HO3⟩
          case measure =>
            have h1 := HM1.out
            have h2 := HM2.out
            simp only [tlLen]
            omega
        · skip
          obtain ⟨d, hh, hst⟩ := step_at (rs := (cs.getD k ⟨0, none, [], 0, none, [], 0, none, [], 0⟩).rs) HSf.out hx HLv.out HEL.out (fun es he => by
            have hk := (List.getElem?_eq_some_iff.1 hx).1
            have hk2 : k < cs.length := by rw [HcL.out, ← HEl.out, ← HSf.out.1]; exact hk
            have e : cs.getD k ⟨0, none, [], 0, none, [], 0, none, [], 0⟩ = cs[k] := by simp [List.getD, hk2]
            rw [e]
            exact HRs.out k hk2 es he)
          have hkn : k < nL := by have := hst.lt; rw [HnL.out] at this; exact this
          have hd20 : d + 1 ≤ 20000 := by
            have hkE : k < E.length := by rw [HEl.out]; exact hkn
            have h1 := H20.out _ (List.getElem_mem hkE)
            have h2 := hst.len
            have e : E.getD k [] = E[k] := by simp [List.getD, hkE]
            rw [e] at h2
            omega
          have HTl : Hid ((Ttr Sc i ++ D).length + 1 ≤ (Ttr Sc (i + 1)).length) := by
            show _ ≤ _
            rw [Ttr_succ, ← HDS.out]
            simp
            omega
          have HTN : Hid ((Ttr Sc (i + 1)).length ≤ 100000000) := by
            show _ ≤ _
            have h := Ttr_le Sc (i + 1) (N - (i + 1))
            rw [show i + 1 + (N - (i + 1)) = N by omega] at h
            exact Nat.le_trans h HT.out
          have HSt : Hid _ := hst
          have HRn : Hid (Rn (XK L) (XK L k (hdR r)) (R.set k r) S3 nL (Rm (i + 1))) := ht
          have HHx : Hid (R[k]? = some (x :: r)) := hx
          clear hst ht HR
          have q : decide ((k : Int) < (nL : Int)) = true := by simp; omega
          obtain ⟨T, HTe⟩ := hid_name (Ttr Sc i ++ D)
          rw [HTe.out] at HO HTl ⊢
          have hTl2 : T.length ≤ 100000000 := Nat.le_trans (Nat.le_trans (Nat.le_succ _) HTl.out) HTN.out
          have HRow : Hid ((wr.alloc (.cells #[.int .i64 (k : Nat)] 3)).ownsRow (W.heap.size + 2) 3 1 (.slice la2 T.length lc2) T.length (i64s (T.map fun x => ((x : Nat) : Int)))) := HO.out.row.alloc _
          clear hx
          go_wp2_with (at_builtin; refine wpList_append_where _ rfl _ _ 36 rfl (W.heap.size + 2) 3 iv (.int .i64 0) 1 8 Tryz.underlying36 hvi hv0 hv1 hv2 rfl (by decide) (.slice la2 T.length lc2) T.length (i64s (T.map fun x => ((x : Nat) : Int))) rfl HRow.out ⟨wr.heap.size, 0, none⟩ 1 1 [.int .i64 (k : Nat)] rfl rfl (cell_one_new _ _ _) (by intro u hu; simp at hu; subst hu; rfl) (by unfold maxLen; omega) (by omega) (by have := lt_of_block HO.out.read; simp; omega) (by decide) ?_; intro l2 w2 hown2 hgr2 _; have HP : Hid _ := HO.out.push hown2 hgr2; obtain ⟨a9, c9, rfl⟩ := own_slC hown2; obtain ⟨r7, f7⟩ := HP.out.at_ HEL.out HSt.out HHx.out)
          have HT3 : Hid (TrS W.heap.size la nL lc W E (R.set k r) (T ++ [k]) (.slice a9 (T.length + 1) c9) (w2.setCell ⟨W.heap.size + 1, k, none⟩ (.int .i64 ((d : Int) + 1)))) := HP.out.tick (by rw [HEl.out]; exact hkn) HHx.out HSt.out.len
          obtain ⟨w3, HW3⟩ := hid_name (w2.setCell ⟨W.heap.size + 1, k, none⟩ (.int .i64 ((d : Int) + 1)))
          rw [HW3.out] at HT3 ⊢
          have r8 : w3.cell? ⟨W.heap.size + 1, k, none⟩ = some (.int .i64 ((d : Int) + 1)) := by
            rw [cell_of_row _ _ _ _ _ _ HT3.out.read, rdv_at E (R.set k r) k (by rw [HEl.out]; exact hkn)]
            have e : (E.getD k []).length - ((R.set k r).getD k []).length = d + 1 := by
              have hk := (List.getElem?_eq_some_iff.1 HHx.out).1
              have e1 : (R.set k r).getD k [] = r := by simp [List.getD, hk]
              rw [e1, HSt.out.len]
              omega
            rw [e]
            rfl
          obtain ⟨b8, _⟩ := row_one HT3.out.box
          have HLk : Hid ((nxtR L k).length ≤ 1000) := by
            obtain ⟨_, _, _, _, _, _, _, h4⟩ := HLs.out k (by simp; exact hkn)
            show _ ≤ _
            simpa using h4
          obtain ⟨lb, lo, pa, pc, hla, n8, hli, _⟩ := HLs.out k (by simp; exact hkn)
          simp only [List.getElem_map, List.getElem_range] at n8 hli
          subst hla
          obtain ⟨pb, po, hpa, p8⟩ := hli.1 hh (by rw [i64s_len]; exact HSt.out.hlt)
          subst hpa
          have hp8 : (i64s (nxtR L k))[hh]'(by rw [i64s_len]; exact HSt.out.hlt) = .int .i64 ((XK L k (hdR r) : Nat) : Int) := by
            have h := HSt.out.nxt
            obtain ⟨h1, h2⟩ := List.getElem?_eq_some_iff.1 h
            simp [i64s, h2]
          rw [hp8] at p8
          have hbW3 := HT3.out.old
          have n8' := (hbW3.cell (World.block_lt_of_cell? W _ n8)).trans n8
          have p8' := (hbW3.cell (World.block_lt_of_cell? W _ p8)).trans p8
          have hkc : k < cs.length := by rw [HcL.out]; exact hkn
          obtain ⟨⟨cb2, co2, hca, e0, e1, e2, e3⟩, hat⟩ := (HLC.out.keep hbW3) k hkc
          have hca2 : cb2 = cb ∧ co2 = co := by injection hca with h; injection h with h1 h2 _; exact ⟨h1.symm, h2.symm⟩
          obtain ⟨rfl, rfl⟩ := hca2
          clear hca n8 p8 hp8 hli
          have hlvl : lvA cs[k].rs (d + 1) = ((hh : Nat) : Int) := by
            have h := HSt.out.lvl
            have e : cs.getD k ⟨0, none, [], 0, none, [], 0, none, [], 0⟩ = cs[k] := by simp [List.getD, hkc]
            rw [e] at h
            exact h
          obtain ⟨kc, HKc⟩ := hid_name cs[k]
          rw [HKc.out] at e0 e1 e2 e3 hat hlvl
          have HAt : Hid (kc.At w3) := hat
          have HLvl : Hid (lvA kc.rs (d + 1) = ((hh : Nat) : Int)) := hlvl
          clear hat hlvl
          obtain ⟨nx, HNx⟩ := hid_name (XK L k (hdR r))
          rw [HNx.out] at p8' HRn
          have hm := HSt.out.hlt
          obtain ⟨m, HMm⟩ := hid_name (nxtR L k).length
          rw [HMm.out] at n8' hm HLk
          have hm1 := HLk.out
          have HC : Hid (∀ X, Below w3.heap.size w3 X → Calls Tryz.prog 37 #[.agg #[.int .i64 kc.id, .slice kc.ra kc.rs.length kc.rc, .slice kc.da kc.ds.length kc.dc, .slice kc.va kc.vs.length kc.vc], .int .i64 ((d : Int) + 1)] X fun e w' => e = .returned (.int .i64 ((hh : Nat) : Int)) ∧ Below X.heap.size X w') := fun X hX => by
            have h := levelAt_any kc (d + 1) X (HAt.out.keep hX)
            rw [HLvl.out] at h
            exact h
          have HN : Hid (∀ X, Below w3.heap.size w3 X → (X.cell? ⟨W.heap.size, 0, none⟩ = some (.slice (some ⟨lb, lo, none⟩) nL lc) ∧ X.cell? ⟨lb, lo + k, none⟩ = some (.slice (some ⟨pb, po, none⟩) m pc) ∧ X.cell? ⟨pb, po + hh, none⟩ = some (.int .i64 (nx : Nat)) ∧ X.cell? ⟨W.heap.size + 1, k, none⟩ = some (.int .i64 ((d : Int) + 1))) ∧ (X.cell? ⟨cb2, co2 + k * 4, none⟩ = some (.int .i64 kc.id) ∧ X.cell? ⟨cb2, co2 + k * 4 + 1, none⟩ = some (.slice kc.ra kc.rs.length kc.rc) ∧ X.cell? ⟨cb2, co2 + k * 4 + 2, none⟩ = some (.slice kc.da kc.ds.length kc.dc) ∧ X.cell? ⟨cb2, co2 + k * 4 + 3, none⟩ = some (.slice kc.va kc.vs.length kc.vc)) ∧ Below w3.heap.size w3 X) := fun X hX => (by
            have kk : ∀ (ad : Addr) (u : Value), w3.cell? ad = some u → X.cell? ad = some u := fun ad u h => (hX.cell (World.block_lt_of_cell? w3 _ h)).trans h
            exact ⟨⟨kk _ _ b8, kk _ _ n8', kk _ _ p8', kk _ _ r8⟩, ⟨kk _ _ e0, kk _ _ e1, kk _ _ e2, kk _ _ e3⟩, hX⟩)
          have b0 : Below w3.heap.size w3 w3 := Below.refl _ _
          clear hbW3 r7 f7
          go_region_held3 (fun X => (X.cell? ⟨W.heap.size, 0, none⟩ = some (.slice (some ⟨lb, lo, none⟩) nL lc) ∧ X.cell? ⟨lb, lo + k, none⟩ = some (.slice (some ⟨pb, po, none⟩) m pc) ∧ X.cell? ⟨pb, po + hh, none⟩ = some (.int .i64 (nx : Nat)) ∧ X.cell? ⟨W.heap.size + 1, k, none⟩ = some (.int .i64 ((d : Int) + 1))) ∧ (X.cell? ⟨cb2, co2 + k * 4, none⟩ = some (.int .i64 kc.id) ∧ X.cell? ⟨cb2, co2 + k * 4 + 1, none⟩ = some (.slice kc.ra kc.rs.length kc.rc) ∧ X.cell? ⟨cb2, co2 + k * 4 + 2, none⟩ = some (.slice kc.da kc.ds.length kc.dc) ∧ X.cell? ⟨cb2, co2 + k * 4 + 3, none⟩ = some (.slice kc.va kc.vs.length kc.vc)) ∧ Below w3.heap.size w3 X) (first | (with_reducible refine HN.out _ ?_; repeat' (first | with_reducible assumption | with_reducible exact b0.drew | with_reducible exact b0))) (first | (go_at_call 37; refine Calls.mono (HC.out _ (by first | exact (Below.refl _ _).drew | exact Below.refl _ _)) ?_; rintro e w4 ⟨rfl, hb4'⟩; have hb4 : Below w3.heap.size w3 w4 := (Below.refl _ _).drew.trans hb4'; clear hb4'))
          have HT4 : Hid _ := HT3.out.keep hb4
          go_wp2
          go_roundw
          case rel => exact ⟨R.set k r, nx, D ++ [k], S3, by rw [List.append_assoc]; exact HDS.out, rfl, HRn, by show TrS _ _ _ _ _ _ _ _ _ _; rw [← List.append_assoc, HTe.out]; exact HT4.out, HSf.out.set HHx.out⟩
          case measure =>
            have h1 := HTl.out
            simp only [tlLen]
            omega
    · rw [decide_eq_false hlt] at q
      obtain rfl : i = N := by omega
      have q2 : decide (d0 < e0) = false := by simpa using q
      go_upto_region 3 with fail
      go_quiet (fail)
      go_wp2
      go_ret
      exact ⟨⟨_, rfl, (HO.out.keep (below_dN (Below.refl _ _) _)).row⟩, (HO.out.keep (below_dN (Below.refl _ _) _)).old⟩
end Go.Proofs.YtbicfjimlpdnkaaGreatDoor
