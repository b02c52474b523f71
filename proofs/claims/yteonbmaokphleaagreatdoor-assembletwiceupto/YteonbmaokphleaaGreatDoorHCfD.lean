/-
  The reference's CutOf of a group, if it is so at each field; of whatever right datum.
-/
import Derived.Test.YteonbmaokphleaaGreatDoorHBShredX
namespace Go.Proofs.YteonbmaokphleaaGreatDoor
open Go.RowKit
set_option maxRecDepth 100000 in
set_option maxHeartbeats 12800000 in
theorem cutOf_group0 (p t : Tr) (one : Bool) (d : Dt) (hk : t.kind = 0) (hno : d.no = false) (h3 : ¬ t.rep = 3) (he : cfT p t one d = .mk false zV [] (cutF p.sub t d)) (hpl : p.sub.length ≤ 1048576) (htl : t.sub.length ≤ 1048576)
    (hx : ∀ k (h : k < p.sub.length), ∃ ix, ∃ h1 : ix < t.sub.length, ∃ h2 : ix < d.f.length, ixO t.sub p.sub[k].id = ix ∧ (∀ i (hi : i < t.sub.length), t.sub[i].id = p.sub[k].id ↔ i = ix) ∧ CfP p.sub[k] t.sub[ix] false d.f[ix]) : CfP p t one d := fun P Q R ta tc pa pc al cl af cf W hlt hlp hdl hdf => by
 obtain ⟨iv, hvi, hv0, hv1, hv2⟩ := info_parts Tryz.infoD
 obtain ⟨w0, HW0, HT, HP, HD, HR, HB, HSz⟩ := four_boxesF W #[.int .i64 t.id, .string t.nm, .int .i64 t.rep, .int .i64 t.kind, .slice ta t.sub.length tc] #[.int .i64 p.id, .string p.nm, .int .i64 p.rep, .int .i64 p.kind, .slice pa p.sub.length pc] #[.bool false, .int .i64 d.v.k, .int .i64 d.v.n, .string d.v.s, .slice al d.l.length cl, .slice af d.f.length cf] #[.bool false, .int .i64 0, .int .i64 0, .string ⟨#[]⟩, .slice none 0 0, .slice none 0 0] 24 24 56 56
 obtain ⟨w1, HW1, HO, HB1⟩ := one_box w0 #[.bool false, .int .i64 0, .int .i64 0, .string ⟨#[]⟩, .slice none 0 0, .slice none 0 0] 56
 have hs1 : w1.heap.size = w0.heap.size + 1 := by rw [← HW1.out]; simp
 have HS : Hid (CuK false w0.heap.size w1 (cutF (p.sub.take 0) t d) w1 (.slice none 0 0) []) := by
  show CuK _ _ _ _ _ _ _
  rw [List.take_zero, cutF]
  exact ⟨HO.out, rfl, fun x hx => by simp at hx, World.ownsRow_nil _ _ _ _, fun j h => absurd h (by simp), Below.refl _ _, by omega⟩
 have HLT : Hid (LiesN W P ta t.sub) := hlt
 have HLP : Hid (LiesN W Q pa p.sub) := hlp
 have HDF : Hid (LiesD W R af d.f) := hdf
 have HX : Hid _ := hx
 unfold cfT at he
 rw [he]
 have q1 : (t.kind == 0) = true := by simp [hk]
 have q3 : (t.kind != 0) = false := by simp [hk]
 obtain ⟨⟨p0, p1, p2, p3, p4⟩, _⟩ := row_five HT.out
 obtain ⟨d0, d1, d2, d3, d4, d5⟩ := row_six HD.out
 have hb1 := HB1.out
 have p2' := (hb1.cell (World.block_lt_of_cell? w0 _ p2)).trans p2
 have HSt : Hid (∀ (k : Nat) (h : k < p.sub.length) (ix : Nat) (h1 : ix < t.sub.length) (h2 : ix < d.f.length), ixO t.sub p.sub[k].id = ix → cutF (p.sub.take (k + 1)) t d = cutF (p.sub.take k) t d ++ [cutT p.sub[k] t.sub[ix] d.f[ix]]) := fun k h ix h1 h2 e => by
  rw [cutF_take p.sub t d k h, e, getD_at' h1, getD_at' h2]
 clear hlt hlp hdl hdf hx he hk
 unfold nodeV datumV
 rw [hno]
 clear hno
 have q2 : (t.rep == 3) = false := by simp [h3]
 clear h3
 go_enter Tryz.func21, Tryz.ntmps21
 go_upto_region 1 with fail
 rw [HW0.out]
 go_upto_region 4 with fail
 rw [HW1.out]
 clear p0 p1 p2 p3 p4 d0 d1 d2 d3 d4 d5 hb1
 go_wp2_with fail
 go_loopw [11] (fun x wr => ∃ (k : Nat) (l : Value) (ncs : List (List Value)), k ≤ p.sub.length ∧ x = .int .i64 k ∧ Hid (CuK false w0.heap.size w1 (cutF (p.sub.take k) t d) wr l ncs)) (fun x _ => p.sub.length - (intOf x).toNat)
 case atStart => exact ⟨0, _, [], Nat.zero_le _, rfl, HS⟩
 case round =>
  clear HS p2'
  obtain ⟨k, l, ncs, hkk, rfl, HC⟩ := hrel
  have hfl : (cutF (p.sub.take k) t d).length = k := by rw [cutF_len, List.length_take]; omega
  have hbw : Below w0.heap.size w1 wr := HC.out.old
  have HBr : Hid (Below W.heap.size W wr) := HB.out.trans ((HB1.out.mono HB.out.size).trans (hbw.mono HB.out.size))
  have HP2 : Hid _ := (hbw.block (W.heap.size + 1) (by have := HSz.out; omega)).trans (blk_keep HB1.out HP.out)
  have HR2 : Hid _ := (hbw.block (W.heap.size + 1 + 1 + 1) (by have := HSz.out; omega)).trans (blk_keep HB1.out HR.out)
  obtain ⟨⟨i0, i1, i2, i3, i4⟩, _⟩ := row_five HP2.out
  by_cases hlt : k < p.sub.length
  · obtain ⟨ix, h1, h2, hixo, huniq, hcf⟩ := HX.out k hlt
    have HCf : Hid (CfP p.sub[k] t.sub[ix] false d.f[ix]) := hcf
    have HUq : Hid (∀ i (hi : i < t.sub.length), t.sub[i].id = p.sub[k].id ↔ i = ix) := huniq
    have HTk : Hid _ := HSt.out k hlt ix h1 h2 hixo
    have HC0 : Hid (CuK false w0.heap.size w1 (cutF (p.sub.take (if ix < 0 then k + 1 else k)) t d) wr l ncs) := by
     show CuK _ _ _ _ _ _ _
     rw [if_neg (Nat.not_lt_zero _)]
     exact HC.out
    clear hcf huniq HC hbw HP2 HR2
    go_wp2_with fail
    go_loopw [12] (fun x wr => ∃ (i : Nat) (l : Value) (ncs : List (List Value)), i ≤ t.sub.length ∧ x = .int .i64 i ∧ Hid (CuK false w0.heap.size w1 (cutF (p.sub.take (if ix < i then k + 1 else k)) t d) wr l ncs)) (fun x _ => t.sub.length - (intOf x).toNat)
    case atStart => exact ⟨0, _, _, Nat.zero_le _, rfl, HC0⟩
    case round =>
     clear HC0 HBr i0 i1 i2 i3 i4 hfl
     obtain ⟨i, l, ncs, hii, rfl, HC⟩ := hrel
     have hbw : Below w0.heap.size w1 wr := HC.out.old
     have HBr : Hid (Below W.heap.size W wr) := HB.out.trans ((HB1.out.mono HB.out.size).trans (hbw.mono HB.out.size))
     have HT2 : Hid _ := (hbw.block W.heap.size (by have := HSz.out; omega)).trans (blk_keep HB1.out HT.out)
     have HP2 : Hid _ := (hbw.block (W.heap.size + 1) (by have := HSz.out; omega)).trans (blk_keep HB1.out HP.out)
     have HD2 : Hid _ := (hbw.block (W.heap.size + 1 + 1) (by have := HSz.out; omega)).trans (blk_keep HB1.out HD.out)
     obtain ⟨⟨p0, p1, p2, p3, p4⟩, _⟩ := row_five HT2.out
     obtain ⟨⟨i0, i1, i2, i3, i4⟩, _⟩ := row_five HP2.out
     obtain ⟨d0, d1, d2, d3, d4, d5⟩ := row_six HD2.out
     by_cases hlti : i < t.sub.length
     · obtain ⟨nb, no_, na, nc, hna, n0, n1, n2, n3, n4, hn5⟩ := (HLT.out.keep HBr.out).at_ i hlti
       obtain ⟨mb, mo, ma, mc, hma, m0, m1, m2, m3, m4, hm5⟩ := (HLP.out.keep HBr.out).at_ k hlt
       subst hna hma
       by_cases hie : i = ix
       · subst hie
         have q5 : (t.sub[i].id == p.sub[k].id) = true := by have := (HUq.out i hlti).2 rfl; simp [this]
         have hC1 : CuK false w0.heap.size w1 (cutF (p.sub.take k) t d) wr l ncs := by
          have h := HC.out
          rw [if_neg (Nat.lt_irrefl _)] at h
          exact h
         have hfl : (cutF (p.sub.take k) t d).length = k := by rw [cutF_len, List.length_take]; omega
         obtain ⟨la, lc, hlv⟩ := hC1.shape
         rw [hfl] at hlv
         subst hlv
         have HC1 : Hid _ := hC1
         obtain ⟨o0, o1, o2, o3, o4, o5⟩ := row_six hC1.out
         clear hC1 HC
         obtain ⟨fb, fo, fa1, fc1, fa2, fc2, hfa, ⟨e0, e1, e2, e3, e4, e5⟩, hf1, hf2⟩ := (HDF.out.keep HBr.out).at_ i h2
         subst hfa
         obtain ⟨y, HY⟩ := hid_name (cutT p.sub[k] t.sub[i] d.f[i])
         have hC : ∀ X, Below wr.heap.size wr X → Calls Tryz.prog 21 #[nodeV t.sub[i] na nc, nodeV p.sub[k] ma mc, datumV d.f[i] fa1 fc1 fa2 fc2, .bool false] X fun e w' => (∃ al' cl' af' cf', e = .returned (datumV y al' cl' af' cf') ∧ LiesD w' (fun b => wr.heap.size ≤ b) al' y.l ∧ LiesD w' (fun b => wr.heap.size ≤ b) af' y.f) ∧ Below wr.heap.size wr w' := fun X hX => by
          have h := HCf.out _ _ R na nc ma mc fa1 fc1 fa2 fc2 X (hn5.keep hX) (hm5.keep hX) (hf1.keep hX) (hf2.keep hX)
          rw [if_neg (by simp), HY.out] at h
          refine h.mono ?_
          rintro e w' ⟨⟨al', cl', af', cf', e1, g1, g2⟩, g3⟩
          exact ⟨⟨al', cl', af', cf', e1, g1.stay (fun b h _ => Nat.le_trans hX.size h) (fun _ _ _ => rfl), g2.stay (fun b h _ => Nat.le_trans hX.size h) (fun _ _ _ => rfl)⟩, hX.trans (g3.mono hX.size)⟩
         unfold nodeV datumV at hC
         obtain ⟨z, HZn⟩ := hid_name d.f[i]
         rw [HZn.out] at hC e0 e1 e2 e3 e4 e5
         obtain ⟨nd, HNd⟩ := hid_name t.sub[i]
         rw [HNd.out] at hC n0 n1 n2 n3 n4 q5
         obtain ⟨md, HMd⟩ := hid_name p.sub[k]
         rw [HMd.out] at hC m0 m1 m2 m3 m4 q5
         have HCa : Hid (∀ X, Below wr.heap.size wr X → Calls Tryz.prog 21 #[.agg #[.int .i64 nd.id, .string nd.nm, .int .i64 nd.rep, .int .i64 nd.kind, .slice na nd.sub.length nc], .agg #[.int .i64 md.id, .string md.nm, .int .i64 md.rep, .int .i64 md.kind, .slice ma md.sub.length mc], .agg #[.bool z.no, .int .i64 z.v.k, .int .i64 z.v.n, .string z.v.s, .slice fa1 z.l.length fc1, .slice fa2 z.f.length fc2], .bool false] X fun e w' => (∃ al' cl' af' cf', e = .returned (.agg #[.bool y.no, .int .i64 y.v.k, .int .i64 y.v.n, .string y.v.s, .slice al' y.l.length cl', .slice af' y.f.length cf']) ∧ LiesD w' (fun b => wr.heap.size ≤ b) al' y.l ∧ LiesD w' (fun b => wr.heap.size ≤ b) af' y.f) ∧ Below wr.heap.size wr w') := hC
         clear hC hn5 hm5 hf1 hf2
         have HRow : Hid (wr.ownsRow (w0.heap.size + 1) 56 6 (.slice la k lc) k ncs.flatten) := (by have h := HC1.out.row; rw [hfl] at h; exact h)
         have HPu : Hid (∀ (wx w3 : World) (l' : Value) (al af : Option Addr) (cl cf : Nat) (ob : Obj), Below wr.heap.size wr wx → LiesD wx (fun b => wr.heap.size ≤ b) al y.l → LiesD wx (fun b => wr.heap.size ≤ b) af y.f → w3.ownsRow (w0.heap.size + 1) 56 6 l' (k + 1) (ncs.flatten ++ [.bool y.no, .int .i64 y.v.k, .int .i64 y.v.n, .string y.v.s, .slice al y.l.length cl, .slice af y.f.length cf]) → (wx.alloc ob).grownBy w3 (Value.slice la k lc).ownBlock → (l'.ownBlock = (Value.slice la k lc).ownBlock ∧ (Value.slice la k lc).ownBlock ≠ none ∨ l'.ownBlock = some (wx.alloc ob).heap.size) → ∃ ncs', CuK false w0.heap.size w1 (cutF (p.sub.take (if i < i + 1 then k + 1 else k)) t d) (w3.setCell ⟨w0.heap.size, 5, none⟩ l') l' ncs') := fun wx w3 l' al af cl cf ob g1 g2 g3 g4 g5 g6 => (by
          have h := HC1.out.push (x := y) (w1 := wx) (w2 := w3) (l' := l') (al := al) (af := af) (cl := cl) (cf := cf) g1 g2 g3 (ob := ob) (by rw [hfl]; exact g4) g5 g6
          have e := HTk.out
          rw [HY.out] at e
          rw [if_pos (Nat.lt_succ_self _), e]
          exact ⟨_, h⟩)
         have HTh : Hid (∀ (wx w3 : World) (ob : Obj), Below wr.heap.size wr wx → (wx.alloc ob).grownBy w3 (Value.slice la k lc).ownBlock → w3.heap[w0.heap.size]? = some (.cells #[.bool false, .int .i64 0, .int .i64 0, .string ⟨#[]⟩, .slice none 0 0, .slice la k lc] 56 (0, 0))) := fun wx w3 ob g1 g2 => (HC1.out.three g1 g2 (Nat.lt_succ_self _)).trans HC1.out.out
         have hgs : w0.heap.size < wr.heap.size := lt_of_block HC1.out.out
         have HGw : Hid (∀ (wx w3 : World) (ob : Obj), Below wr.heap.size wr wx → (wx.alloc ob).grownBy w3 (Value.slice la k lc).ownBlock → KcB w0.heap.size wr w3) := fun wx w3 ob g1 g2 => fun b hb => HC1.out.three g1 g2 (by omega)
         have HKB : Hid (∀ X, Below wr.heap.size wr X → KcB w0.heap.size wr X) := fun X hX => KcB.below hX (Nat.le_of_lt hgs)
         have hnb : nb < w0.heap.size := by
          obtain ⟨b2, o2, _, _, e9, z0, _⟩ := HLT.out.at_ i hlti
          injection e9 with e9
          injection e9 with e9 _ _
          have h9 : b2 < W.heap.size := World.block_lt_of_cell? W _ z0
          have hz := HSz.out
          omega
         have hmb : mb < w0.heap.size := by
          obtain ⟨b2, o2, _, _, e9, z0, _⟩ := HLP.out.at_ k hlt
          injection e9 with e9
          injection e9 with e9 _ _
          have h9 : b2 < W.heap.size := World.block_lt_of_cell? W _ z0
          have hz := HSz.out
          omega
         have hfb : fb < w0.heap.size := by
          obtain ⟨b2, o2, _, _, _, _, e9, ⟨z0, _⟩, _⟩ := HDF.out.at_ i h2
          injection e9 with e9
          injection e9 with e9 _ _
          have h9 : b2 < W.heap.size := World.block_lt_of_cell? W _ z0
          have hz := HSz.out
          omega
         have HN : Hid (∀ X, KcB w0.heap.size wr X → (X.cell? ⟨W.heap.size, 0, none⟩ = some (.int .i64 t.id) ∧ X.cell? ⟨W.heap.size, 1, none⟩ = some (.string t.nm) ∧ X.cell? ⟨W.heap.size, 2, none⟩ = some (.int .i64 t.rep) ∧ X.cell? ⟨W.heap.size, 3, none⟩ = some (.int .i64 t.kind) ∧ X.cell? ⟨W.heap.size, 4, none⟩ = some (.slice (some ⟨nb, no_, none⟩) t.sub.length tc)) ∧ (X.cell? ⟨W.heap.size + 1, 0, none⟩ = some (.int .i64 p.id) ∧ X.cell? ⟨W.heap.size + 1, 1, none⟩ = some (.string p.nm) ∧ X.cell? ⟨W.heap.size + 1, 2, none⟩ = some (.int .i64 p.rep) ∧ X.cell? ⟨W.heap.size + 1, 3, none⟩ = some (.int .i64 p.kind) ∧ X.cell? ⟨W.heap.size + 1, 4, none⟩ = some (.slice (some ⟨mb, mo, none⟩) p.sub.length pc)) ∧ (X.cell? ⟨W.heap.size + 1 + 1, 0, none⟩ = some (.bool false) ∧ X.cell? ⟨W.heap.size + 1 + 1, 1, none⟩ = some (.int .i64 d.v.k) ∧ X.cell? ⟨W.heap.size + 1 + 1, 2, none⟩ = some (.int .i64 d.v.n) ∧ X.cell? ⟨W.heap.size + 1 + 1, 3, none⟩ = some (.string d.v.s) ∧ X.cell? ⟨W.heap.size + 1 + 1, 4, none⟩ = some (.slice al d.l.length cl) ∧ X.cell? ⟨W.heap.size + 1 + 1, 5, none⟩ = some (.slice (some ⟨fb, fo, none⟩) d.f.length cf)) ∧ (X.cell? ⟨nb, no_ + i * 5, none⟩ = some (.int .i64 nd.id) ∧ X.cell? ⟨nb, no_ + i * 5 + 1, none⟩ = some (.string nd.nm) ∧ X.cell? ⟨nb, no_ + i * 5 + 2, none⟩ = some (.int .i64 nd.rep) ∧ X.cell? ⟨nb, no_ + i * 5 + 3, none⟩ = some (.int .i64 nd.kind) ∧ X.cell? ⟨nb, no_ + i * 5 + 4, none⟩ = some (.slice na nd.sub.length nc)) ∧ (X.cell? ⟨mb, mo + k * 5, none⟩ = some (.int .i64 md.id) ∧ X.cell? ⟨mb, mo + k * 5 + 1, none⟩ = some (.string md.nm) ∧ X.cell? ⟨mb, mo + k * 5 + 2, none⟩ = some (.int .i64 md.rep) ∧ X.cell? ⟨mb, mo + k * 5 + 3, none⟩ = some (.int .i64 md.kind) ∧ X.cell? ⟨mb, mo + k * 5 + 4, none⟩ = some (.slice ma md.sub.length mc)) ∧ (X.cell? ⟨fb, fo + i * 6, none⟩ = some (.bool z.no) ∧ X.cell? ⟨fb, fo + i * 6 + 1, none⟩ = some (.int .i64 z.v.k) ∧ X.cell? ⟨fb, fo + i * 6 + 2, none⟩ = some (.int .i64 z.v.n) ∧ X.cell? ⟨fb, fo + i * 6 + 3, none⟩ = some (.string z.v.s) ∧ X.cell? ⟨fb, fo + i * 6 + 4, none⟩ = some (.slice fa1 z.l.length fc1) ∧ X.cell? ⟨fb, fo + i * 6 + 5, none⟩ = some (.slice fa2 z.f.length fc2))) := fun X hX => (by
          have hz := HSz.out
          have kk : ∀ (bb oo : Nat) (u : Value), bb < w0.heap.size → wr.cell? ⟨bb, oo, none⟩ = some u → X.cell? ⟨bb, oo, none⟩ = some u := fun bb oo u hb h => by
           rw [World.cell?_of_block (hX bb hb)]
           exact h
          exact ⟨⟨kk _ _ _ (by omega) p0, kk _ _ _ (by omega) p1, kk _ _ _ (by omega) p2, kk _ _ _ (by omega) p3, kk _ _ _ (by omega) p4⟩, ⟨kk _ _ _ (by omega) i0, kk _ _ _ (by omega) i1, kk _ _ _ (by omega) i2, kk _ _ _ (by omega) i3, kk _ _ _ (by omega) i4⟩, ⟨kk _ _ _ (by omega) d0, kk _ _ _ (by omega) d1, kk _ _ _ (by omega) d2, kk _ _ _ (by omega) d3, kk _ _ _ (by omega) d4, kk _ _ _ (by omega) d5⟩, ⟨kk _ _ _ hnb n0, kk _ _ _ hnb n1, kk _ _ _ hnb n2, kk _ _ _ hnb n3, kk _ _ _ hnb n4⟩, ⟨kk _ _ _ hmb m0, kk _ _ _ hmb m1, kk _ _ _ hmb m2, kk _ _ _ hmb m3, kk _ _ _ hmb m4⟩, ⟨kk _ _ _ hfb e0, kk _ _ _ hfb e1, kk _ _ _ hfb e2, kk _ _ _ hfb e3, kk _ _ _ hfb e4, kk _ _ _ hfb e5⟩⟩)
         go_upto_region 16 with fail
         go_quiet (fail)
         go_wp2_with fail
         clear p0 p1 p2 p3 p4 i0 i1 i2 i3 i4 d0 d1 d2 d3 d4 d5 e0 e1 e2 e3 e4 e5 n0 n1 n2 n3 n4 m0 m1 m2 m3 m4
         refine wp_region_held_drew (S := (KcB w0.heap.size wr)) (by kernel_rfl) (KcB.drew (KcB.refl _ _)) (fun hH0 => ?_)
         refine wpAnyH_take (i := 0) (oi := { dst := some 78, op := Go.Op.fieldAddr 56 (Go.Operand.tmp 9) 3, type := 0, pos := "data.go:365", after := #[], guard := none }) (v := ?vc0) rfl (by kernel_rfl) (by kernel_rfl) (by kernel_rfl) (fun _ _ _ h => h) (Or.inl ⟨by rfl, ?hyc0⟩) hH0 ?_
         case hyc0 => (intro w hSw; obtain ⟨⟨p0, p1, p2, p3, p4⟩, ⟨i0, i1, i2, i3, i4⟩, ⟨d0, d1, d2, d3, d4, d5⟩, ⟨n0, n1, n2, n3, n4⟩, ⟨m0, m1, m2, m3, m4⟩, ⟨e0, e1, e2, e3, e4, e5⟩⟩ := HN.out w hSw; go_simp; (first | done | with_reducible rfl))
         (try simp only [Act.put, List.setIfInBounds_toArray, List.set_cons_zero, List.set_cons_succ])
         refine wpAnyH_take (i := 2) (oi := { dst := some 80, op := Go.Op.fieldAddr 24 (Go.Operand.tmp 4) 4, type := 0, pos := "data.go:365", after := #[], guard := none }) (v := ?vc2) rfl (by kernel_rfl) (by kernel_rfl) (by kernel_rfl) (fun _ _ _ h => h) (Or.inl ⟨by rfl, ?hyc2⟩) hH0 ?_
         case hyc2 => (intro w hSw; obtain ⟨⟨p0, p1, p2, p3, p4⟩, ⟨i0, i1, i2, i3, i4⟩, ⟨d0, d1, d2, d3, d4, d5⟩, ⟨n0, n1, n2, n3, n4⟩, ⟨m0, m1, m2, m3, m4⟩, ⟨e0, e1, e2, e3, e4, e5⟩⟩ := HN.out w hSw; go_simp; (first | done | with_reducible rfl))
         (try simp only [Act.put, List.setIfInBounds_toArray, List.set_cons_zero, List.set_cons_succ])
         refine wpAnyH_take (i := 3) (oi := { dst := some 81, op := Go.Op.load 22 (Go.Operand.tmp 80), type := 22, pos := "data.go:365", after := #[{ on := 2, ground := Go.Ground.data }], guard := none }) (v := ?vc3) rfl (by kernel_rfl) (by kernel_rfl) (by kernel_rfl) (fun _ _ _ h => h) (Or.inl ⟨by rfl, ?hyc3⟩) hH0 ?_
         case hyc3 => (intro w hSw; obtain ⟨⟨p0, p1, p2, p3, p4⟩, ⟨i0, i1, i2, i3, i4⟩, ⟨d0, d1, d2, d3, d4, d5⟩, ⟨n0, n1, n2, n3, n4⟩, ⟨m0, m1, m2, m3, m4⟩, ⟨e0, e1, e2, e3, e4, e5⟩⟩ := HN.out w hSw; go_simp; (first | done | with_reducible rfl))
         (try simp only [Act.put, List.setIfInBounds_toArray, List.set_cons_zero, List.set_cons_succ])
         refine wpAnyH_take (i := 4) (oi := { dst := some 82, op := Go.Op.move (Go.Operand.tmp 12), type := 3, pos := "data.go:365", after := #[], guard := none }) (v := ?vc4) rfl (by kernel_rfl) (by kernel_rfl) (by kernel_rfl) (fun _ _ _ h => h) (Or.inl ⟨by rfl, ?hyc4⟩) hH0 ?_
         case hyc4 => (intro w hSw; obtain ⟨⟨p0, p1, p2, p3, p4⟩, ⟨i0, i1, i2, i3, i4⟩, ⟨d0, d1, d2, d3, d4, d5⟩, ⟨n0, n1, n2, n3, n4⟩, ⟨m0, m1, m2, m3, m4⟩, ⟨e0, e1, e2, e3, e4, e5⟩⟩ := HN.out w hSw; go_simp; (first | done | with_reducible rfl))
         (try simp only [Act.put, List.setIfInBounds_toArray, List.set_cons_zero, List.set_cons_succ])
         refine wpAnyH_take (i := 5) (oi := { dst := some 83, op := Go.Op.indexAddr 22 (Go.Operand.tmp 81) (Go.Operand.tmp 82), type := 0, pos := "data.go:365", after := #[{ on := 3, ground := Go.Ground.data }, { on := 4, ground := Go.Ground.data }], guard := none }) (v := ?vc5) rfl (by kernel_rfl) (by kernel_rfl) (by kernel_rfl) (fun _ _ _ h => h) (Or.inl ⟨by rfl, ?hyc5⟩) hH0 ?_
         case hyc5 => (intro w hSw; obtain ⟨⟨p0, p1, p2, p3, p4⟩, ⟨i0, i1, i2, i3, i4⟩, ⟨d0, d1, d2, d3, d4, d5⟩, ⟨n0, n1, n2, n3, n4⟩, ⟨m0, m1, m2, m3, m4⟩, ⟨e0, e1, e2, e3, e4, e5⟩⟩ := HN.out w hSw; go_simp; (first | done | with_reducible rfl))
         (try simp only [Act.put, List.setIfInBounds_toArray, List.set_cons_zero, List.set_cons_succ])
         refine wpAnyH_take (i := 6) (oi := { dst := some 84, op := Go.Op.load 24 (Go.Operand.tmp 83), type := 24, pos := "data.go:365", after := #[{ on := 5, ground := Go.Ground.data }], guard := none }) (v := ?vc6) rfl (by kernel_rfl) (by kernel_rfl) (by kernel_rfl) (fun _ _ _ h => h) (Or.inl ⟨by rfl, ?hyc6⟩) hH0 ?_
         case hyc6 => (intro w hSw; obtain ⟨⟨p0, p1, p2, p3, p4⟩, ⟨i0, i1, i2, i3, i4⟩, ⟨d0, d1, d2, d3, d4, d5⟩, ⟨n0, n1, n2, n3, n4⟩, ⟨m0, m1, m2, m3, m4⟩, ⟨e0, e1, e2, e3, e4, e5⟩⟩ := HN.out w hSw; go_simp; (first | done | with_reducible rfl))
         (try simp only [Act.put, List.setIfInBounds_toArray, List.set_cons_zero, List.set_cons_succ])
         refine wpAnyH_take (i := 7) (oi := { dst := some 85, op := Go.Op.fieldAddr 24 (Go.Operand.tmp 5) 4, type := 0, pos := "data.go:365", after := #[], guard := none }) (v := ?vc7) rfl (by kernel_rfl) (by kernel_rfl) (by kernel_rfl) (fun _ _ _ h => h) (Or.inl ⟨by rfl, ?hyc7⟩) hH0 ?_
         case hyc7 => (intro w hSw; obtain ⟨⟨p0, p1, p2, p3, p4⟩, ⟨i0, i1, i2, i3, i4⟩, ⟨d0, d1, d2, d3, d4, d5⟩, ⟨n0, n1, n2, n3, n4⟩, ⟨m0, m1, m2, m3, m4⟩, ⟨e0, e1, e2, e3, e4, e5⟩⟩ := HN.out w hSw; go_simp; (first | done | with_reducible rfl))
         (try simp only [Act.put, List.setIfInBounds_toArray, List.set_cons_zero, List.set_cons_succ])
         refine wpAnyH_take (i := 8) (oi := { dst := some 86, op := Go.Op.load 22 (Go.Operand.tmp 85), type := 22, pos := "data.go:365", after := #[{ on := 7, ground := Go.Ground.data }], guard := none }) (v := ?vc8) rfl (by kernel_rfl) (by kernel_rfl) (by kernel_rfl) (fun _ _ _ h => h) (Or.inl ⟨by rfl, ?hyc8⟩) hH0 ?_
         case hyc8 => (intro w hSw; obtain ⟨⟨p0, p1, p2, p3, p4⟩, ⟨i0, i1, i2, i3, i4⟩, ⟨d0, d1, d2, d3, d4, d5⟩, ⟨n0, n1, n2, n3, n4⟩, ⟨m0, m1, m2, m3, m4⟩, ⟨e0, e1, e2, e3, e4, e5⟩⟩ := HN.out w hSw; go_simp; (first | done | with_reducible rfl))
         (try simp only [Act.put, List.setIfInBounds_toArray, List.set_cons_zero, List.set_cons_succ])
         refine wpAnyH_take (i := 9) (oi := { dst := some 87, op := Go.Op.move (Go.Operand.tmp 11), type := 3, pos := "data.go:365", after := #[], guard := none }) (v := ?vc9) rfl (by kernel_rfl) (by kernel_rfl) (by kernel_rfl) (fun _ _ _ h => h) (Or.inl ⟨by rfl, ?hyc9⟩) hH0 ?_
         case hyc9 => (intro w hSw; obtain ⟨⟨p0, p1, p2, p3, p4⟩, ⟨i0, i1, i2, i3, i4⟩, ⟨d0, d1, d2, d3, d4, d5⟩, ⟨n0, n1, n2, n3, n4⟩, ⟨m0, m1, m2, m3, m4⟩, ⟨e0, e1, e2, e3, e4, e5⟩⟩ := HN.out w hSw; go_simp; (first | done | with_reducible rfl))
         (try simp only [Act.put, List.setIfInBounds_toArray, List.set_cons_zero, List.set_cons_succ])
         refine wpAnyH_take (i := 10) (oi := { dst := some 88, op := Go.Op.indexAddr 22 (Go.Operand.tmp 86) (Go.Operand.tmp 87), type := 0, pos := "data.go:365", after := #[{ on := 8, ground := Go.Ground.data }, { on := 9, ground := Go.Ground.data }], guard := none }) (v := ?vc10) rfl (by kernel_rfl) (by kernel_rfl) (by kernel_rfl) (fun _ _ _ h => h) (Or.inl ⟨by rfl, ?hyc10⟩) hH0 ?_
         case hyc10 => (intro w hSw; obtain ⟨⟨p0, p1, p2, p3, p4⟩, ⟨i0, i1, i2, i3, i4⟩, ⟨d0, d1, d2, d3, d4, d5⟩, ⟨n0, n1, n2, n3, n4⟩, ⟨m0, m1, m2, m3, m4⟩, ⟨e0, e1, e2, e3, e4, e5⟩⟩ := HN.out w hSw; go_simp; (first | done | with_reducible rfl))
         (try simp only [Act.put, List.setIfInBounds_toArray, List.set_cons_zero, List.set_cons_succ])
         refine wpAnyH_take (i := 11) (oi := { dst := some 89, op := Go.Op.load 24 (Go.Operand.tmp 88), type := 24, pos := "data.go:365", after := #[{ on := 10, ground := Go.Ground.data }], guard := none }) (v := ?vc11) rfl (by kernel_rfl) (by kernel_rfl) (by kernel_rfl) (fun _ _ _ h => h) (Or.inl ⟨by rfl, ?hyc11⟩) hH0 ?_
         case hyc11 => (intro w hSw; obtain ⟨⟨p0, p1, p2, p3, p4⟩, ⟨i0, i1, i2, i3, i4⟩, ⟨d0, d1, d2, d3, d4, d5⟩, ⟨n0, n1, n2, n3, n4⟩, ⟨m0, m1, m2, m3, m4⟩, ⟨e0, e1, e2, e3, e4, e5⟩⟩ := HN.out w hSw; go_simp; (first | done | with_reducible rfl))
         (try simp only [Act.put, List.setIfInBounds_toArray, List.set_cons_zero, List.set_cons_succ])
         refine wpAnyH_take (i := 12) (oi := { dst := some 90, op := Go.Op.fieldAddr 56 (Go.Operand.tmp 6) 3, type := 0, pos := "data.go:365", after := #[], guard := none }) (v := ?vc12) rfl (by kernel_rfl) (by kernel_rfl) (by kernel_rfl) (fun _ _ _ h => h) (Or.inl ⟨by rfl, ?hyc12⟩) hH0 ?_
         case hyc12 => (intro w hSw; obtain ⟨⟨p0, p1, p2, p3, p4⟩, ⟨i0, i1, i2, i3, i4⟩, ⟨d0, d1, d2, d3, d4, d5⟩, ⟨n0, n1, n2, n3, n4⟩, ⟨m0, m1, m2, m3, m4⟩, ⟨e0, e1, e2, e3, e4, e5⟩⟩ := HN.out w hSw; go_simp; (first | done | with_reducible rfl))
         (try simp only [Act.put, List.setIfInBounds_toArray, List.set_cons_zero, List.set_cons_succ])
         refine wpAnyH_take (i := 13) (oi := { dst := some 91, op := Go.Op.load 26 (Go.Operand.tmp 90), type := 26, pos := "data.go:365", after := #[{ on := 12, ground := Go.Ground.data }], guard := none }) (v := ?vc13) rfl (by kernel_rfl) (by kernel_rfl) (by kernel_rfl) (fun _ _ _ h => h) (Or.inl ⟨by rfl, ?hyc13⟩) hH0 ?_
         case hyc13 => (intro w hSw; obtain ⟨⟨p0, p1, p2, p3, p4⟩, ⟨i0, i1, i2, i3, i4⟩, ⟨d0, d1, d2, d3, d4, d5⟩, ⟨n0, n1, n2, n3, n4⟩, ⟨m0, m1, m2, m3, m4⟩, ⟨e0, e1, e2, e3, e4, e5⟩⟩ := HN.out w hSw; go_simp; (first | done | with_reducible rfl))
         (try simp only [Act.put, List.setIfInBounds_toArray, List.set_cons_zero, List.set_cons_succ])
         refine wpAnyH_take (i := 14) (oi := { dst := some 92, op := Go.Op.move (Go.Operand.tmp 12), type := 3, pos := "data.go:365", after := #[], guard := none }) (v := ?vc14) rfl (by kernel_rfl) (by kernel_rfl) (by kernel_rfl) (fun _ _ _ h => h) (Or.inl ⟨by rfl, ?hyc14⟩) hH0 ?_
         case hyc14 => (intro w hSw; obtain ⟨⟨p0, p1, p2, p3, p4⟩, ⟨i0, i1, i2, i3, i4⟩, ⟨d0, d1, d2, d3, d4, d5⟩, ⟨n0, n1, n2, n3, n4⟩, ⟨m0, m1, m2, m3, m4⟩, ⟨e0, e1, e2, e3, e4, e5⟩⟩ := HN.out w hSw; go_simp; (first | done | with_reducible rfl))
         (try simp only [Act.put, List.setIfInBounds_toArray, List.set_cons_zero, List.set_cons_succ])
         refine wpAnyH_take (i := 15) (oi := { dst := some 93, op := Go.Op.indexAddr 26 (Go.Operand.tmp 91) (Go.Operand.tmp 92), type := 0, pos := "data.go:365", after := #[{ on := 13, ground := Go.Ground.data }, { on := 14, ground := Go.Ground.data }], guard := none }) (v := ?vc15) rfl (by kernel_rfl) (by kernel_rfl) (by kernel_rfl) (fun _ _ _ h => h) (Or.inl ⟨by rfl, ?hyc15⟩) hH0 ?_
         case hyc15 => (intro w hSw; obtain ⟨⟨p0, p1, p2, p3, p4⟩, ⟨i0, i1, i2, i3, i4⟩, ⟨d0, d1, d2, d3, d4, d5⟩, ⟨n0, n1, n2, n3, n4⟩, ⟨m0, m1, m2, m3, m4⟩, ⟨e0, e1, e2, e3, e4, e5⟩⟩ := HN.out w hSw; go_simp; (first | done | with_reducible rfl))
         (try simp only [Act.put, List.setIfInBounds_toArray, List.set_cons_zero, List.set_cons_succ])
         refine wpAnyH_take (i := 16) (oi := { dst := some 94, op := Go.Op.load 56 (Go.Operand.tmp 93), type := 56, pos := "data.go:365", after := #[{ on := 15, ground := Go.Ground.data }], guard := none }) (v := ?vc16) rfl (by kernel_rfl) (by kernel_rfl) (by kernel_rfl) (fun _ _ _ h => h) (Or.inl ⟨by rfl, ?hyc16⟩) hH0 ?_
         case hyc16 => (intro w hSw; obtain ⟨⟨p0, p1, p2, p3, p4⟩, ⟨i0, i1, i2, i3, i4⟩, ⟨d0, d1, d2, d3, d4, d5⟩, ⟨n0, n1, n2, n3, n4⟩, ⟨m0, m1, m2, m3, m4⟩, ⟨e0, e1, e2, e3, e4, e5⟩⟩ := HN.out w hSw; go_simp; (first | done | with_reducible rfl))
         (try simp only [Act.put, List.setIfInBounds_toArray, List.set_cons_zero, List.set_cons_succ])
         refine wpAnyH_ready (rs := [1, 17]) (by kernel_rfl) (by simp) ?_
         refine AllReadyH.cons (o := { dst := some 79, op := Go.Op.load 26 (Go.Operand.tmp 78), type := 26, pos := "data.go:365", after := #[{ on := 0, ground := Go.Ground.data }], guard := none }) rfl (fun K hK => ?_) ?_
         · go_simp
           refine hK.out _ _ hH0 (fun hH1 => ?_)
           (try simp only [Act.put, List.setIfInBounds_toArray, List.set_cons_zero, List.set_cons_succ])
           refine wpAnyH_ready (rs := [17]) (by kernel_rfl) (by simp) ?_
           refine AllReadyH.cons (o := { dst := some 95, op := Go.Op.call { callee := Go.Callee.value (Go.Operand.func 21), args := #[Go.Operand.tmp 84, Go.Operand.tmp 89, Go.Operand.tmp 94, Go.Operand.const (Go.Value.bool false)], argTypes := #[24, 24, 56, 4] }, type := 56, pos := "data.go:365", after := #[{ on := 6, ground := Go.Ground.data }, { on := 11, ground := Go.Ground.data }, { on := 16, ground := Go.Ground.data }], guard := none }) rfl (fun K hK => ?_) AllReadyH.nil
           go_simp
           (go_at_call 21; refine Calls.mono (HCa.out _ (below_dN (Below.refl _ _) _).drew) ?_; rintro e w4 ⟨⟨yl, ycl, yf, ycf, rfl, hyl, hyf⟩, hb4⟩)
           have HYL : Hid (LiesD w4 (fun b => wr.heap.size ≤ b) yl y.l) := hyl
           have HYF : Hid (LiesD w4 (fun b => wr.heap.size ≤ b) yf y.f) := hyf
           have HB4 : Hid (Below wr.heap.size wr w4) := hb4
           clear hyl hyf hb4
           have hK4 : KcB w0.heap.size wr w4 := HKB.out w4 HB4.out
           have r5a : w4.cell? ⟨w0.heap.size, 5, none⟩ = some (.slice la k lc) := (HB4.out.cell (World.block_lt_of_cell? wr _ o5)).trans o5
           go_wp2_with fail
           refine hK.out _ _ hK4 (fun hH2 => ?_)
           (try simp only [Act.put, List.setIfInBounds_toArray, List.set_cons_zero, List.set_cons_succ])
           refine wpAnyH_ready (rs := [18]) (by kernel_rfl) (by simp) ?_
           refine AllReadyH.cons (o := { dst := some 96, op := Go.Op.buildSlice 26 1 #[(0, Go.Operand.tmp 95)], type := 26, pos := "data.go:365", after := #[{ on := 17, ground := Go.Ground.data }], guard := none }) rfl (fun K hK => ?_) AllReadyH.nil
           go_simp
           have hB5 : Below wr.heap.size wr (w4.alloc (.cells #[.bool y.no, .int .i64 y.v.k, .int .i64 y.v.n, .string y.v.s, .slice yl y.l.length ycl, .slice yf y.f.length ycf] 56)) := HB4.out.alloc HB4.out.size _
           have r5b : (w4.alloc (.cells #[.bool y.no, .int .i64 y.v.k, .int .i64 y.v.n, .string y.v.s, .slice yl y.l.length ycl, .slice yf y.f.length ycf] 56)).cell? ⟨w0.heap.size, 5, none⟩ = some (.slice la k lc) := (hB5.cell (World.block_lt_of_cell? wr _ o5)).trans o5
           refine hK.out _ _ (HKB.out _ hB5) (fun hH3 => ?_)
           (try simp only [Act.put, List.setIfInBounds_toArray, List.set_cons_zero, List.set_cons_succ])
           refine wpAnyH_ready (rs := [19]) (by kernel_rfl) (by simp) ?_
           refine AllReadyH.cons (o := { dst := some 97, op := Go.Op.call { callee := Go.Callee.builtin Go.Builtin.append, args := #[Go.Operand.tmp 79, Go.Operand.tmp 96], argTypes := #[26, 26] }, type := 26, pos := "data.go:365", after := #[{ on := 1, ground := Go.Ground.data }, { on := 18, ground := Go.Ground.data }, { on := 17, ground := Go.Ground.chain }], guard := none }) rfl (fun K hK => ?_) AllReadyH.nil
           (refine step_own_where _ rfl _ _ 26 rfl (w0.heap.size + 1) 56 iv (.agg #[.bool false, .int .i64 0, .int .i64 0, .string ⟨#[]⟩, .slice none 0 0, .slice none 0 0]) 6 88 Tryz.underlying26 hvi hv0 hv1 hv2 rfl (by decide) _ k ncs.flatten rfl ((ow_kept HRow.out HB4.out).alloc _) ⟨w4.heap.size, 0, none⟩ 1 1 [.bool y.no, .int .i64 y.v.k, .int .i64 y.v.n, .string y.v.s, .slice yl y.l.length ycl, .slice yf y.f.length ycf] rfl rfl six_cells (by intro u hu; simp at hu; rcases hu with rfl | rfl | rfl | rfl | rfl | rfl <;> rfl) (by unfold maxLen; omega) (by omega) (by have := HB4.out.size; simp; omega) (by decide) ?_; intro l' w5 hown5 hgrow5 hwh5)
           obtain ⟨ncs', hdn⟩ := HPu.out _ _ _ _ _ _ _ _ HB4.out HYL.out HYF.out hown5 hgrow5 hwh5
           have HDn : Hid _ := hdn
           obtain ⟨a9, c9, hl9⟩ := own_sh6 hown5
           subst hl9
           have hO5 := HTh.out _ _ _ HB4.out hgrow5
           obtain ⟨y0, y1, y2, y3, y4, y5⟩ := row_six hO5
           obtain ⟨q0, q1, q2, q3, q4, q5⟩ := row_six_z hO5
           have hK5 : KcB w0.heap.size wr w5 := HGw.out _ _ _ HB4.out hgrow5
           clear hown5 hgrow5 hwh5 hO5 hdn
           refine hK.out _ _ hK5 (fun hH4 => ?_)
           (try simp only [Act.put, List.setIfInBounds_toArray, List.set_cons_zero, List.set_cons_succ])
           refine wpAnyH_take (i := 20) (oi := { dst := some 98, op := Go.Op.fieldAddr 56 (Go.Operand.tmp 9) 3, type := 0, pos := "data.go:365", after := #[{ on := 0, ground := Go.Ground.phase }, { on := 1, ground := Go.Ground.phase }, { on := 2, ground := Go.Ground.phase }, { on := 3, ground := Go.Ground.phase }, { on := 4, ground := Go.Ground.phase }, { on := 5, ground := Go.Ground.phase }, { on := 6, ground := Go.Ground.phase }, { on := 7, ground := Go.Ground.phase }, { on := 8, ground := Go.Ground.phase }, { on := 9, ground := Go.Ground.phase }, { on := 10, ground := Go.Ground.phase }, { on := 11, ground := Go.Ground.phase }, { on := 12, ground := Go.Ground.phase }, { on := 13, ground := Go.Ground.phase }, { on := 14, ground := Go.Ground.phase }, { on := 15, ground := Go.Ground.phase }, { on := 16, ground := Go.Ground.phase }, { on := 17, ground := Go.Ground.phase }, { on := 18, ground := Go.Ground.phase }, { on := 19, ground := Go.Ground.phase }], guard := none }) (v := .pointer (some ⟨w0.heap.size, 5, none⟩)) rfl (by kernel_rfl) (by kernel_rfl) (by kernel_rfl) (fun _ _ _ h => h) (Or.inl ⟨by rfl, (by intro w hSw; go_simp; done)⟩) hH4 ?_
           (try simp only [Act.put, List.setIfInBounds_toArray, List.set_cons_zero, List.set_cons_succ])
           refine wpAnyH_ready (rs := [21]) (by kernel_rfl) (by simp) ?_
           refine AllReadyH.cons (o := { dst := none, op := Go.Op.store 26 (Go.Operand.tmp 98) (Go.Operand.tmp 97), type := 0, pos := "data.go:365", after := #[{ on := 20, ground := Go.Ground.data }, { on := 19, ground := Go.Ground.data }, { on := 19, ground := Go.Ground.chain }, { on := 0, ground := Go.Ground.phase }, { on := 1, ground := Go.Ground.phase }, { on := 2, ground := Go.Ground.phase }, { on := 3, ground := Go.Ground.phase }, { on := 4, ground := Go.Ground.phase }, { on := 5, ground := Go.Ground.phase }, { on := 6, ground := Go.Ground.phase }, { on := 7, ground := Go.Ground.phase }, { on := 8, ground := Go.Ground.phase }, { on := 9, ground := Go.Ground.phase }, { on := 10, ground := Go.Ground.phase }, { on := 11, ground := Go.Ground.phase }, { on := 12, ground := Go.Ground.phase }, { on := 13, ground := Go.Ground.phase }, { on := 14, ground := Go.Ground.phase }, { on := 15, ground := Go.Ground.phase }, { on := 16, ground := Go.Ground.phase }, { on := 17, ground := Go.Ground.phase }, { on := 18, ground := Go.Ground.phase }, { on := 19, ground := Go.Ground.phase }], guard := none }) rfl (fun K hK => ?_) AllReadyH.nil
           go_simp
           refine hK.out _ _ (KcB.put hK5 _) (fun hH5 => ?_)
           (try simp only [Act.put, List.setIfInBounds_toArray, List.set_cons_zero, List.set_cons_succ])
           refine wpAnyH_done (by kernel_rfl) ?_ _
           go_wp2
           go_roundw
           case rel => exact ⟨i + 1, _, _, hlti, by go_num, HDn⟩
           case measure => simp [intOf]; omega
         refine AllReadyH.cons (o := { dst := some 95, op := Go.Op.call { callee := Go.Callee.value (Go.Operand.func 21), args := #[Go.Operand.tmp 84, Go.Operand.tmp 89, Go.Operand.tmp 94, Go.Operand.const (Go.Value.bool false)], argTypes := #[24, 24, 56, 4] }, type := 56, pos := "data.go:365", after := #[{ on := 6, ground := Go.Ground.data }, { on := 11, ground := Go.Ground.data }, { on := 16, ground := Go.Ground.data }], guard := none }) rfl (fun K hK => ?_) AllReadyH.nil
         go_simp
         (go_at_call 21; refine Calls.mono (HCa.out _ (below_dN (Below.refl _ _) _).drew) ?_; rintro e w4 ⟨⟨yl, ycl, yf, ycf, rfl, hyl, hyf⟩, hb4⟩)
         have HYL : Hid (LiesD w4 (fun b => wr.heap.size ≤ b) yl y.l) := hyl
         have HYF : Hid (LiesD w4 (fun b => wr.heap.size ≤ b) yf y.f) := hyf
         have HB4 : Hid (Below wr.heap.size wr w4) := hb4
         clear hyl hyf hb4
         have hK4 : KcB w0.heap.size wr w4 := HKB.out w4 HB4.out
         have r5a : w4.cell? ⟨w0.heap.size, 5, none⟩ = some (.slice la k lc) := (HB4.out.cell (World.block_lt_of_cell? wr _ o5)).trans o5
         go_wp2_with fail
         refine hK.out _ _ hK4 (fun hH2 => ?_)
         (try simp only [Act.put, List.setIfInBounds_toArray, List.set_cons_zero, List.set_cons_succ])
         refine wpAnyH_ready (rs := [1, 18]) (by kernel_rfl) (by simp) ?_
         refine AllReadyH.cons (o := { dst := some 79, op := Go.Op.load 26 (Go.Operand.tmp 78), type := 26, pos := "data.go:365", after := #[{ on := 0, ground := Go.Ground.data }], guard := none }) rfl (fun K hK => ?_) ?_
         · go_simp
           refine hK.out _ _ hK4 (fun hH1 => ?_)
           (try simp only [Act.put, List.setIfInBounds_toArray, List.set_cons_zero, List.set_cons_succ])
           refine wpAnyH_ready (rs := [18]) (by kernel_rfl) (by simp) ?_
           refine AllReadyH.cons (o := { dst := some 96, op := Go.Op.buildSlice 26 1 #[(0, Go.Operand.tmp 95)], type := 26, pos := "data.go:365", after := #[{ on := 17, ground := Go.Ground.data }], guard := none }) rfl (fun K hK => ?_) AllReadyH.nil
           go_simp
           have hB5 : Below wr.heap.size wr (w4.alloc (.cells #[.bool y.no, .int .i64 y.v.k, .int .i64 y.v.n, .string y.v.s, .slice yl y.l.length ycl, .slice yf y.f.length ycf] 56)) := HB4.out.alloc HB4.out.size _
           have r5b : (w4.alloc (.cells #[.bool y.no, .int .i64 y.v.k, .int .i64 y.v.n, .string y.v.s, .slice yl y.l.length ycl, .slice yf y.f.length ycf] 56)).cell? ⟨w0.heap.size, 5, none⟩ = some (.slice la k lc) := (hB5.cell (World.block_lt_of_cell? wr _ o5)).trans o5
           refine hK.out _ _ (HKB.out _ hB5) (fun hH3 => ?_)
           (try simp only [Act.put, List.setIfInBounds_toArray, List.set_cons_zero, List.set_cons_succ])
           refine wpAnyH_ready (rs := [19]) (by kernel_rfl) (by simp) ?_
           refine AllReadyH.cons (o := { dst := some 97, op := Go.Op.call { callee := Go.Callee.builtin Go.Builtin.append, args := #[Go.Operand.tmp 79, Go.Operand.tmp 96], argTypes := #[26, 26] }, type := 26, pos := "data.go:365", after := #[{ on := 1, ground := Go.Ground.data }, { on := 18, ground := Go.Ground.data }, { on := 17, ground := Go.Ground.chain }], guard := none }) rfl (fun K hK => ?_) AllReadyH.nil
           (refine step_own_where _ rfl _ _ 26 rfl (w0.heap.size + 1) 56 iv (.agg #[.bool false, .int .i64 0, .int .i64 0, .string ⟨#[]⟩, .slice none 0 0, .slice none 0 0]) 6 88 Tryz.underlying26 hvi hv0 hv1 hv2 rfl (by decide) _ k ncs.flatten rfl ((ow_kept HRow.out HB4.out).alloc _) ⟨w4.heap.size, 0, none⟩ 1 1 [.bool y.no, .int .i64 y.v.k, .int .i64 y.v.n, .string y.v.s, .slice yl y.l.length ycl, .slice yf y.f.length ycf] rfl rfl six_cells (by intro u hu; simp at hu; rcases hu with rfl | rfl | rfl | rfl | rfl | rfl <;> rfl) (by unfold maxLen; omega) (by omega) (by have := HB4.out.size; simp; omega) (by decide) ?_; intro l' w5 hown5 hgrow5 hwh5)
           obtain ⟨ncs', hdn⟩ := HPu.out _ _ _ _ _ _ _ _ HB4.out HYL.out HYF.out hown5 hgrow5 hwh5
           have HDn : Hid _ := hdn
           obtain ⟨a9, c9, hl9⟩ := own_sh6 hown5
           subst hl9
           have hO5 := HTh.out _ _ _ HB4.out hgrow5
           obtain ⟨y0, y1, y2, y3, y4, y5⟩ := row_six hO5
           obtain ⟨q0, q1, q2, q3, q4, q5⟩ := row_six_z hO5
           have hK5 : KcB w0.heap.size wr w5 := HGw.out _ _ _ HB4.out hgrow5
           clear hown5 hgrow5 hwh5 hO5 hdn
           refine hK.out _ _ hK5 (fun hH4 => ?_)
           (try simp only [Act.put, List.setIfInBounds_toArray, List.set_cons_zero, List.set_cons_succ])
           refine wpAnyH_take (i := 20) (oi := { dst := some 98, op := Go.Op.fieldAddr 56 (Go.Operand.tmp 9) 3, type := 0, pos := "data.go:365", after := #[{ on := 0, ground := Go.Ground.phase }, { on := 1, ground := Go.Ground.phase }, { on := 2, ground := Go.Ground.phase }, { on := 3, ground := Go.Ground.phase }, { on := 4, ground := Go.Ground.phase }, { on := 5, ground := Go.Ground.phase }, { on := 6, ground := Go.Ground.phase }, { on := 7, ground := Go.Ground.phase }, { on := 8, ground := Go.Ground.phase }, { on := 9, ground := Go.Ground.phase }, { on := 10, ground := Go.Ground.phase }, { on := 11, ground := Go.Ground.phase }, { on := 12, ground := Go.Ground.phase }, { on := 13, ground := Go.Ground.phase }, { on := 14, ground := Go.Ground.phase }, { on := 15, ground := Go.Ground.phase }, { on := 16, ground := Go.Ground.phase }, { on := 17, ground := Go.Ground.phase }, { on := 18, ground := Go.Ground.phase }, { on := 19, ground := Go.Ground.phase }], guard := none }) (v := .pointer (some ⟨w0.heap.size, 5, none⟩)) rfl (by kernel_rfl) (by kernel_rfl) (by kernel_rfl) (fun _ _ _ h => h) (Or.inl ⟨by rfl, (by intro w hSw; go_simp; done)⟩) hH4 ?_
           (try simp only [Act.put, List.setIfInBounds_toArray, List.set_cons_zero, List.set_cons_succ])
           refine wpAnyH_ready (rs := [21]) (by kernel_rfl) (by simp) ?_
           refine AllReadyH.cons (o := { dst := none, op := Go.Op.store 26 (Go.Operand.tmp 98) (Go.Operand.tmp 97), type := 0, pos := "data.go:365", after := #[{ on := 20, ground := Go.Ground.data }, { on := 19, ground := Go.Ground.data }, { on := 19, ground := Go.Ground.chain }, { on := 0, ground := Go.Ground.phase }, { on := 1, ground := Go.Ground.phase }, { on := 2, ground := Go.Ground.phase }, { on := 3, ground := Go.Ground.phase }, { on := 4, ground := Go.Ground.phase }, { on := 5, ground := Go.Ground.phase }, { on := 6, ground := Go.Ground.phase }, { on := 7, ground := Go.Ground.phase }, { on := 8, ground := Go.Ground.phase }, { on := 9, ground := Go.Ground.phase }, { on := 10, ground := Go.Ground.phase }, { on := 11, ground := Go.Ground.phase }, { on := 12, ground := Go.Ground.phase }, { on := 13, ground := Go.Ground.phase }, { on := 14, ground := Go.Ground.phase }, { on := 15, ground := Go.Ground.phase }, { on := 16, ground := Go.Ground.phase }, { on := 17, ground := Go.Ground.phase }, { on := 18, ground := Go.Ground.phase }, { on := 19, ground := Go.Ground.phase }], guard := none }) rfl (fun K hK => ?_) AllReadyH.nil
           go_simp
           refine hK.out _ _ (KcB.put hK5 _) (fun hH5 => ?_)
           (try simp only [Act.put, List.setIfInBounds_toArray, List.set_cons_zero, List.set_cons_succ])
           refine wpAnyH_done (by kernel_rfl) ?_ _
           go_wp2
           go_roundw
           case rel => exact ⟨i + 1, _, _, hlti, by go_num, HDn⟩
           case measure => simp [intOf]; omega
         refine AllReadyH.cons (o := { dst := some 96, op := Go.Op.buildSlice 26 1 #[(0, Go.Operand.tmp 95)], type := 26, pos := "data.go:365", after := #[{ on := 17, ground := Go.Ground.data }], guard := none }) rfl (fun K hK => ?_) AllReadyH.nil
         go_simp
         have hB5 : Below wr.heap.size wr (w4.alloc (.cells #[.bool y.no, .int .i64 y.v.k, .int .i64 y.v.n, .string y.v.s, .slice yl y.l.length ycl, .slice yf y.f.length ycf] 56)) := HB4.out.alloc HB4.out.size _
         have r5b : (w4.alloc (.cells #[.bool y.no, .int .i64 y.v.k, .int .i64 y.v.n, .string y.v.s, .slice yl y.l.length ycl, .slice yf y.f.length ycf] 56)).cell? ⟨w0.heap.size, 5, none⟩ = some (.slice la k lc) := (hB5.cell (World.block_lt_of_cell? wr _ o5)).trans o5
         refine hK.out _ _ (HKB.out _ hB5) (fun hH3 => ?_)
         (try simp only [Act.put, List.setIfInBounds_toArray, List.set_cons_zero, List.set_cons_succ])
         refine wpAnyH_ready (rs := [1]) (by kernel_rfl) (by simp) ?_
         refine AllReadyH.cons (o := { dst := some 79, op := Go.Op.load 26 (Go.Operand.tmp 78), type := 26, pos := "data.go:365", after := #[{ on := 0, ground := Go.Ground.data }], guard := none }) rfl (fun K hK => ?_) AllReadyH.nil
         go_simp
         refine hK.out _ _ (HKB.out _ hB5) (fun hH1 => ?_)
         (try simp only [Act.put, List.setIfInBounds_toArray, List.set_cons_zero, List.set_cons_succ])
         refine wpAnyH_ready (rs := [19]) (by kernel_rfl) (by simp) ?_
         refine AllReadyH.cons (o := { dst := some 97, op := Go.Op.call { callee := Go.Callee.builtin Go.Builtin.append, args := #[Go.Operand.tmp 79, Go.Operand.tmp 96], argTypes := #[26, 26] }, type := 26, pos := "data.go:365", after := #[{ on := 1, ground := Go.Ground.data }, { on := 18, ground := Go.Ground.data }, { on := 17, ground := Go.Ground.chain }], guard := none }) rfl (fun K hK => ?_) AllReadyH.nil
         (refine step_own_where _ rfl _ _ 26 rfl (w0.heap.size + 1) 56 iv (.agg #[.bool false, .int .i64 0, .int .i64 0, .string ⟨#[]⟩, .slice none 0 0, .slice none 0 0]) 6 88 Tryz.underlying26 hvi hv0 hv1 hv2 rfl (by decide) _ k ncs.flatten rfl ((ow_kept HRow.out HB4.out).alloc _) ⟨w4.heap.size, 0, none⟩ 1 1 [.bool y.no, .int .i64 y.v.k, .int .i64 y.v.n, .string y.v.s, .slice yl y.l.length ycl, .slice yf y.f.length ycf] rfl rfl six_cells (by intro u hu; simp at hu; rcases hu with rfl | rfl | rfl | rfl | rfl | rfl <;> rfl) (by unfold maxLen; omega) (by omega) (by have := HB4.out.size; simp; omega) (by decide) ?_; intro l' w5 hown5 hgrow5 hwh5)
         obtain ⟨ncs', hdn⟩ := HPu.out _ _ _ _ _ _ _ _ HB4.out HYL.out HYF.out hown5 hgrow5 hwh5
         have HDn : Hid _ := hdn
         obtain ⟨a9, c9, hl9⟩ := own_sh6 hown5
         subst hl9
         have hO5 := HTh.out _ _ _ HB4.out hgrow5
         obtain ⟨y0, y1, y2, y3, y4, y5⟩ := row_six hO5
         obtain ⟨q0, q1, q2, q3, q4, q5⟩ := row_six_z hO5
         have hK5 : KcB w0.heap.size wr w5 := HGw.out _ _ _ HB4.out hgrow5
         clear hown5 hgrow5 hwh5 hO5 hdn
         refine hK.out _ _ hK5 (fun hH4 => ?_)
         (try simp only [Act.put, List.setIfInBounds_toArray, List.set_cons_zero, List.set_cons_succ])
         refine wpAnyH_take (i := 20) (oi := { dst := some 98, op := Go.Op.fieldAddr 56 (Go.Operand.tmp 9) 3, type := 0, pos := "data.go:365", after := #[{ on := 0, ground := Go.Ground.phase }, { on := 1, ground := Go.Ground.phase }, { on := 2, ground := Go.Ground.phase }, { on := 3, ground := Go.Ground.phase }, { on := 4, ground := Go.Ground.phase }, { on := 5, ground := Go.Ground.phase }, { on := 6, ground := Go.Ground.phase }, { on := 7, ground := Go.Ground.phase }, { on := 8, ground := Go.Ground.phase }, { on := 9, ground := Go.Ground.phase }, { on := 10, ground := Go.Ground.phase }, { on := 11, ground := Go.Ground.phase }, { on := 12, ground := Go.Ground.phase }, { on := 13, ground := Go.Ground.phase }, { on := 14, ground := Go.Ground.phase }, { on := 15, ground := Go.Ground.phase }, { on := 16, ground := Go.Ground.phase }, { on := 17, ground := Go.Ground.phase }, { on := 18, ground := Go.Ground.phase }, { on := 19, ground := Go.Ground.phase }], guard := none }) (v := .pointer (some ⟨w0.heap.size, 5, none⟩)) rfl (by kernel_rfl) (by kernel_rfl) (by kernel_rfl) (fun _ _ _ h => h) (Or.inl ⟨by rfl, (by intro w hSw; go_simp; done)⟩) hH4 ?_
         (try simp only [Act.put, List.setIfInBounds_toArray, List.set_cons_zero, List.set_cons_succ])
         refine wpAnyH_ready (rs := [21]) (by kernel_rfl) (by simp) ?_
         refine AllReadyH.cons (o := { dst := none, op := Go.Op.store 26 (Go.Operand.tmp 98) (Go.Operand.tmp 97), type := 0, pos := "data.go:365", after := #[{ on := 20, ground := Go.Ground.data }, { on := 19, ground := Go.Ground.data }, { on := 19, ground := Go.Ground.chain }, { on := 0, ground := Go.Ground.phase }, { on := 1, ground := Go.Ground.phase }, { on := 2, ground := Go.Ground.phase }, { on := 3, ground := Go.Ground.phase }, { on := 4, ground := Go.Ground.phase }, { on := 5, ground := Go.Ground.phase }, { on := 6, ground := Go.Ground.phase }, { on := 7, ground := Go.Ground.phase }, { on := 8, ground := Go.Ground.phase }, { on := 9, ground := Go.Ground.phase }, { on := 10, ground := Go.Ground.phase }, { on := 11, ground := Go.Ground.phase }, { on := 12, ground := Go.Ground.phase }, { on := 13, ground := Go.Ground.phase }, { on := 14, ground := Go.Ground.phase }, { on := 15, ground := Go.Ground.phase }, { on := 16, ground := Go.Ground.phase }, { on := 17, ground := Go.Ground.phase }, { on := 18, ground := Go.Ground.phase }, { on := 19, ground := Go.Ground.phase }], guard := none }) rfl (fun K hK => ?_) AllReadyH.nil
         go_simp
         refine hK.out _ _ (KcB.put hK5 _) (fun hH5 => ?_)
         (try simp only [Act.put, List.setIfInBounds_toArray, List.set_cons_zero, List.set_cons_succ])
         refine wpAnyH_done (by kernel_rfl) ?_ _
         go_wp2
         go_roundw
         case rel => exact ⟨i + 1, _, _, hlti, by go_num, HDn⟩
         case measure => simp [intOf]; omega
       · have q5 : (t.sub[i].id == p.sub[k].id) = false := by
           have h := mt (HUq.out i hlti).1 hie
           simp [h]
         have HCs : Hid (CuK false w0.heap.size w1 (cutF (p.sub.take (if ix < i + 1 then k + 1 else k)) t d) wr l ncs) := by
          have h := HC.out
          have e : (if ix < i + 1 then k + 1 else k) = (if ix < i then k + 1 else k) := by
           by_cases h5 : ix < i
           · rw [if_pos h5, if_pos (by omega)]
           · rw [if_neg h5, if_neg (by omega)]
          show CuK _ _ _ _ _ _ _
          rw [e]
          exact h
         clear HC hn5 hm5
         go_upto_region 16 with fail
         go_quiet (fail)
         go_wp2
         all_goals go_roundw
         case rel => exact ⟨i + 1, _, _, hlti, by go_num, HCs.out.keep (below_dN (Below.refl _ _) _)⟩
         case measure => simp [intOf]; omega
     · obtain rfl : i = t.sub.length := by omega
       have HCe : Hid (CuK false w0.heap.size w1 (cutF (p.sub.take (k + 1)) t d) wr l ncs) := by
        have h := HC.out
        rw [if_pos h1] at h
        exact h
       clear HC
       go_wp2
       go_roundw
       case rel => exact ⟨k + 1, _, _, hlt, by go_num, HCe⟩
       case measure => simp [intOf]; omega
  · obtain rfl : k = p.sub.length := by omega
    obtain ⟨ra, rc, hlv⟩ := HC.out.shape
    rw [hfl] at hlv
    subst hlv
    have HLe : Hid (LiesD wr (fun b => w0.heap.size ≤ b) ra (cutF p.sub t d)) := (by
     have h := HC.out
     rw [List.take_length] at h
     rw [← cutF_len p.sub t d] at h
     exact h.lies.stay (fun b h _ => by omega) (fun _ _ _ => rfl))
    obtain ⟨o0, o1, o2, o3, o4, o5⟩ := row_six HC.out.out
    obtain ⟨s0, s1, s2, s3, s4, s5⟩ := row_six HR2.out
    obtain ⟨f0, f1, f2, f3, f4, f5⟩ := row_six_z HR2.out
    go_wp2
    refine bodyPost_ret (v := .agg #[.bool false, .int .i64 0, .int .i64 0, .string ⟨#[]⟩, .slice none 0 0, .slice ra p.sub.length rc]) (results_cell_row Tryz.results21 _ _ (W.heap.size + 1 + 1 + 1) 56 #[.bool false, .int .i64 0, .int .i64 0, .string ⟨#[]⟩, .slice none 0 0, .slice ra p.sub.length rc] (0, 0) _ rfl (row_setCell (row_setCell (row_setCell (row_setCell (row_setCell (row_setCell HR2.out _) _) _) _) _) _) Tryz.underlying56 rfl (by kernel_rfl)) rfl ⟨⟨none, 0, ra, rc, ?_, ?_, ?_⟩, ?_⟩
    · show _ = Ending.returned (.agg #[.bool false, .int .i64 0, .int .i64 0, .string ⟨#[]⟩, .slice none 0 0, .slice ra (cutF p.sub t d).length rc])
      rw [cutF_len]
    · exact liesD_none _ _
    · have hz := HSz.out
      have fr : ∀ b, w0.heap.size ≤ b → b ≠ W.heap.size + 1 + 1 + 1 := fun b h => by omega
      exact ((((((HLe.out.off fr).off fr).off fr).off fr).off fr).off fr).stay (fun b h _ => by omega) (fun _ _ _ => rfl)
    · exact (((((HBr.out.setCell (by simp; omega) _).setCell (by simp; omega) _).setCell (by simp; omega) _).setCell (by simp; omega) _).setCell (by simp; omega) _).setCell (by simp; omega) _
set_option maxRecDepth 100000 in
set_option maxHeartbeats 12800000 in
theorem cutOf_group3 (p t : Tr) (d : Dt) (hk : t.kind = 0) (hno : d.no = false) (h3 : t.rep = 3) (he : cfT p t true d = .mk false zV [] (cutF p.sub t d)) (hpl : p.sub.length ≤ 1048576) (htl : t.sub.length ≤ 1048576)
    (hx : ∀ k (h : k < p.sub.length), ∃ ix, ∃ h1 : ix < t.sub.length, ∃ h2 : ix < d.f.length, ixO t.sub p.sub[k].id = ix ∧ (∀ i (hi : i < t.sub.length), t.sub[i].id = p.sub[k].id ↔ i = ix) ∧ CfP p.sub[k] t.sub[ix] false d.f[ix]) : CfP p t true d := fun P Q R ta tc pa pc al cl af cf W hlt hlp hdl hdf => by
 obtain ⟨iv, hvi, hv0, hv1, hv2⟩ := info_parts Tryz.infoD
 obtain ⟨w0, HW0, HT, HP, HD, HR, HB, HSz⟩ := four_boxesF W #[.int .i64 t.id, .string t.nm, .int .i64 t.rep, .int .i64 t.kind, .slice ta t.sub.length tc] #[.int .i64 p.id, .string p.nm, .int .i64 p.rep, .int .i64 p.kind, .slice pa p.sub.length pc] #[.bool false, .int .i64 d.v.k, .int .i64 d.v.n, .string d.v.s, .slice al d.l.length cl, .slice af d.f.length cf] #[.bool false, .int .i64 0, .int .i64 0, .string ⟨#[]⟩, .slice none 0 0, .slice none 0 0] 24 24 56 56
 obtain ⟨w1, HW1, HO, HB1⟩ := one_box w0 #[.bool false, .int .i64 0, .int .i64 0, .string ⟨#[]⟩, .slice none 0 0, .slice none 0 0] 56
 have hs1 : w1.heap.size = w0.heap.size + 1 := by rw [← HW1.out]; simp
 have HS : Hid (CuK false w0.heap.size w1 (cutF (p.sub.take 0) t d) w1 (.slice none 0 0) []) := by
  show CuK _ _ _ _ _ _ _
  rw [List.take_zero, cutF]
  exact ⟨HO.out, rfl, fun x hx => by simp at hx, World.ownsRow_nil _ _ _ _, fun j h => absurd h (by simp), Below.refl _ _, by omega⟩
 have HLT : Hid (LiesN W P ta t.sub) := hlt
 have HLP : Hid (LiesN W Q pa p.sub) := hlp
 have HDF : Hid (LiesD W R af d.f) := hdf
 have HX : Hid _ := hx
 unfold cfT at he
 rw [he]
 have q1 : (t.kind == 0) = true := by simp [hk]
 have q3 : (t.kind != 0) = false := by simp [hk]
 obtain ⟨⟨p0, p1, p2, p3, p4⟩, _⟩ := row_five HT.out
 obtain ⟨d0, d1, d2, d3, d4, d5⟩ := row_six HD.out
 have hb1 := HB1.out
 have p2' := (hb1.cell (World.block_lt_of_cell? w0 _ p2)).trans p2
 have HSt : Hid (∀ (k : Nat) (h : k < p.sub.length) (ix : Nat) (h1 : ix < t.sub.length) (h2 : ix < d.f.length), ixO t.sub p.sub[k].id = ix → cutF (p.sub.take (k + 1)) t d = cutF (p.sub.take k) t d ++ [cutT p.sub[k] t.sub[ix] d.f[ix]]) := fun k h ix h1 h2 e => by
  rw [cutF_take p.sub t d k h, e, getD_at' h1, getD_at' h2]
 clear hlt hlp hdl hdf hx he hk
 unfold nodeV datumV
 rw [hno]
 clear hno
 have q2 : (t.rep == 3) = true := by simp [h3]
 clear h3
 go_enter Tryz.func21, Tryz.ntmps21
 go_upto_region 1 with fail
 rw [HW0.out]
 go_upto_region 4 with fail
 rw [HW1.out]
 clear p0 p1 p2 p3 p4 d0 d1 d2 d3 d4 d5 hb1
 go_wp2_with fail
 go_loopw [11] (fun x wr => ∃ (k : Nat) (l : Value) (ncs : List (List Value)), k ≤ p.sub.length ∧ x = .int .i64 k ∧ Hid (CuK false w0.heap.size w1 (cutF (p.sub.take k) t d) wr l ncs)) (fun x _ => p.sub.length - (intOf x).toNat)
 case atStart => exact ⟨0, _, [], Nat.zero_le _, rfl, HS⟩
 case round =>
  clear HS p2'
  obtain ⟨k, l, ncs, hkk, rfl, HC⟩ := hrel
  have hfl : (cutF (p.sub.take k) t d).length = k := by rw [cutF_len, List.length_take]; omega
  have hbw : Below w0.heap.size w1 wr := HC.out.old
  have HBr : Hid (Below W.heap.size W wr) := HB.out.trans ((HB1.out.mono HB.out.size).trans (hbw.mono HB.out.size))
  have HP2 : Hid _ := (hbw.block (W.heap.size + 1) (by have := HSz.out; omega)).trans (blk_keep HB1.out HP.out)
  have HR2 : Hid _ := (hbw.block (W.heap.size + 1 + 1 + 1) (by have := HSz.out; omega)).trans (blk_keep HB1.out HR.out)
  obtain ⟨⟨i0, i1, i2, i3, i4⟩, _⟩ := row_five HP2.out
  by_cases hlt : k < p.sub.length
  · obtain ⟨ix, h1, h2, hixo, huniq, hcf⟩ := HX.out k hlt
    have HCf : Hid (CfP p.sub[k] t.sub[ix] false d.f[ix]) := hcf
    have HUq : Hid (∀ i (hi : i < t.sub.length), t.sub[i].id = p.sub[k].id ↔ i = ix) := huniq
    have HTk : Hid _ := HSt.out k hlt ix h1 h2 hixo
    have HC0 : Hid (CuK false w0.heap.size w1 (cutF (p.sub.take (if ix < 0 then k + 1 else k)) t d) wr l ncs) := by
     show CuK _ _ _ _ _ _ _
     rw [if_neg (Nat.not_lt_zero _)]
     exact HC.out
    clear hcf huniq HC hbw HP2 HR2
    go_wp2_with fail
    go_loopw [12] (fun x wr => ∃ (i : Nat) (l : Value) (ncs : List (List Value)), i ≤ t.sub.length ∧ x = .int .i64 i ∧ Hid (CuK false w0.heap.size w1 (cutF (p.sub.take (if ix < i then k + 1 else k)) t d) wr l ncs)) (fun x _ => t.sub.length - (intOf x).toNat)
    case atStart => exact ⟨0, _, _, Nat.zero_le _, rfl, HC0⟩
    case round =>
     clear HC0 HBr i0 i1 i2 i3 i4 hfl
     obtain ⟨i, l, ncs, hii, rfl, HC⟩ := hrel
     have hbw : Below w0.heap.size w1 wr := HC.out.old
     have HBr : Hid (Below W.heap.size W wr) := HB.out.trans ((HB1.out.mono HB.out.size).trans (hbw.mono HB.out.size))
     have HT2 : Hid _ := (hbw.block W.heap.size (by have := HSz.out; omega)).trans (blk_keep HB1.out HT.out)
     have HP2 : Hid _ := (hbw.block (W.heap.size + 1) (by have := HSz.out; omega)).trans (blk_keep HB1.out HP.out)
     have HD2 : Hid _ := (hbw.block (W.heap.size + 1 + 1) (by have := HSz.out; omega)).trans (blk_keep HB1.out HD.out)
     obtain ⟨⟨p0, p1, p2, p3, p4⟩, _⟩ := row_five HT2.out
     obtain ⟨⟨i0, i1, i2, i3, i4⟩, _⟩ := row_five HP2.out
     obtain ⟨d0, d1, d2, d3, d4, d5⟩ := row_six HD2.out
     by_cases hlti : i < t.sub.length
     · obtain ⟨nb, no_, na, nc, hna, n0, n1, n2, n3, n4, hn5⟩ := (HLT.out.keep HBr.out).at_ i hlti
       obtain ⟨mb, mo, ma, mc, hma, m0, m1, m2, m3, m4, hm5⟩ := (HLP.out.keep HBr.out).at_ k hlt
       subst hna hma
       by_cases hie : i = ix
       · subst hie
         have q5 : (t.sub[i].id == p.sub[k].id) = true := by have := (HUq.out i hlti).2 rfl; simp [this]
         have hC1 : CuK false w0.heap.size w1 (cutF (p.sub.take k) t d) wr l ncs := by
          have h := HC.out
          rw [if_neg (Nat.lt_irrefl _)] at h
          exact h
         have hfl : (cutF (p.sub.take k) t d).length = k := by rw [cutF_len, List.length_take]; omega
         obtain ⟨la, lc, hlv⟩ := hC1.shape
         rw [hfl] at hlv
         subst hlv
         have HC1 : Hid _ := hC1
         obtain ⟨o0, o1, o2, o3, o4, o5⟩ := row_six hC1.out
         clear hC1 HC
         obtain ⟨fb, fo, fa1, fc1, fa2, fc2, hfa, ⟨e0, e1, e2, e3, e4, e5⟩, hf1, hf2⟩ := (HDF.out.keep HBr.out).at_ i h2
         subst hfa
         obtain ⟨y, HY⟩ := hid_name (cutT p.sub[k] t.sub[i] d.f[i])
         have hC : ∀ X, Below wr.heap.size wr X → Calls Tryz.prog 21 #[nodeV t.sub[i] na nc, nodeV p.sub[k] ma mc, datumV d.f[i] fa1 fc1 fa2 fc2, .bool false] X fun e w' => (∃ al' cl' af' cf', e = .returned (datumV y al' cl' af' cf') ∧ LiesD w' (fun b => wr.heap.size ≤ b) al' y.l ∧ LiesD w' (fun b => wr.heap.size ≤ b) af' y.f) ∧ Below wr.heap.size wr w' := fun X hX => by
          have h := HCf.out _ _ R na nc ma mc fa1 fc1 fa2 fc2 X (hn5.keep hX) (hm5.keep hX) (hf1.keep hX) (hf2.keep hX)
          rw [if_neg (by simp), HY.out] at h
          refine h.mono ?_
          rintro e w' ⟨⟨al', cl', af', cf', e1, g1, g2⟩, g3⟩
          exact ⟨⟨al', cl', af', cf', e1, g1.stay (fun b h _ => Nat.le_trans hX.size h) (fun _ _ _ => rfl), g2.stay (fun b h _ => Nat.le_trans hX.size h) (fun _ _ _ => rfl)⟩, hX.trans (g3.mono hX.size)⟩
         unfold nodeV datumV at hC
         obtain ⟨z, HZn⟩ := hid_name d.f[i]
         rw [HZn.out] at hC e0 e1 e2 e3 e4 e5
         obtain ⟨nd, HNd⟩ := hid_name t.sub[i]
         rw [HNd.out] at hC n0 n1 n2 n3 n4 q5
         obtain ⟨md, HMd⟩ := hid_name p.sub[k]
         rw [HMd.out] at hC m0 m1 m2 m3 m4 q5
         have HCa : Hid (∀ X, Below wr.heap.size wr X → Calls Tryz.prog 21 #[.agg #[.int .i64 nd.id, .string nd.nm, .int .i64 nd.rep, .int .i64 nd.kind, .slice na nd.sub.length nc], .agg #[.int .i64 md.id, .string md.nm, .int .i64 md.rep, .int .i64 md.kind, .slice ma md.sub.length mc], .agg #[.bool z.no, .int .i64 z.v.k, .int .i64 z.v.n, .string z.v.s, .slice fa1 z.l.length fc1, .slice fa2 z.f.length fc2], .bool false] X fun e w' => (∃ al' cl' af' cf', e = .returned (.agg #[.bool y.no, .int .i64 y.v.k, .int .i64 y.v.n, .string y.v.s, .slice al' y.l.length cl', .slice af' y.f.length cf']) ∧ LiesD w' (fun b => wr.heap.size ≤ b) al' y.l ∧ LiesD w' (fun b => wr.heap.size ≤ b) af' y.f) ∧ Below wr.heap.size wr w') := hC
         clear hC hn5 hm5 hf1 hf2
         have HRow : Hid (wr.ownsRow (w0.heap.size + 1) 56 6 (.slice la k lc) k ncs.flatten) := (by have h := HC1.out.row; rw [hfl] at h; exact h)
         have HPu : Hid (∀ (wx w3 : World) (l' : Value) (al af : Option Addr) (cl cf : Nat) (ob : Obj), Below wr.heap.size wr wx → LiesD wx (fun b => wr.heap.size ≤ b) al y.l → LiesD wx (fun b => wr.heap.size ≤ b) af y.f → w3.ownsRow (w0.heap.size + 1) 56 6 l' (k + 1) (ncs.flatten ++ [.bool y.no, .int .i64 y.v.k, .int .i64 y.v.n, .string y.v.s, .slice al y.l.length cl, .slice af y.f.length cf]) → (wx.alloc ob).grownBy w3 (Value.slice la k lc).ownBlock → (l'.ownBlock = (Value.slice la k lc).ownBlock ∧ (Value.slice la k lc).ownBlock ≠ none ∨ l'.ownBlock = some (wx.alloc ob).heap.size) → ∃ ncs', CuK false w0.heap.size w1 (cutF (p.sub.take (if i < i + 1 then k + 1 else k)) t d) (w3.setCell ⟨w0.heap.size, 5, none⟩ l') l' ncs') := fun wx w3 l' al af cl cf ob g1 g2 g3 g4 g5 g6 => (by
          have h := HC1.out.push (x := y) (w1 := wx) (w2 := w3) (l' := l') (al := al) (af := af) (cl := cl) (cf := cf) g1 g2 g3 (ob := ob) (by rw [hfl]; exact g4) g5 g6
          have e := HTk.out
          rw [HY.out] at e
          rw [if_pos (Nat.lt_succ_self _), e]
          exact ⟨_, h⟩)
         have HTh : Hid (∀ (wx w3 : World) (ob : Obj), Below wr.heap.size wr wx → (wx.alloc ob).grownBy w3 (Value.slice la k lc).ownBlock → w3.heap[w0.heap.size]? = some (.cells #[.bool false, .int .i64 0, .int .i64 0, .string ⟨#[]⟩, .slice none 0 0, .slice la k lc] 56 (0, 0))) := fun wx w3 ob g1 g2 => (HC1.out.three g1 g2 (Nat.lt_succ_self _)).trans HC1.out.out
         have hgs : w0.heap.size < wr.heap.size := lt_of_block HC1.out.out
         have HGw : Hid (∀ (wx w3 : World) (ob : Obj), Below wr.heap.size wr wx → (wx.alloc ob).grownBy w3 (Value.slice la k lc).ownBlock → KcB w0.heap.size wr w3) := fun wx w3 ob g1 g2 => fun b hb => HC1.out.three g1 g2 (by omega)
         have HKB : Hid (∀ X, Below wr.heap.size wr X → KcB w0.heap.size wr X) := fun X hX => KcB.below hX (Nat.le_of_lt hgs)
         have hnb : nb < w0.heap.size := by
          obtain ⟨b2, o2, _, _, e9, z0, _⟩ := HLT.out.at_ i hlti
          injection e9 with e9
          injection e9 with e9 _ _
          have h9 : b2 < W.heap.size := World.block_lt_of_cell? W _ z0
          have hz := HSz.out
          omega
         have hmb : mb < w0.heap.size := by
          obtain ⟨b2, o2, _, _, e9, z0, _⟩ := HLP.out.at_ k hlt
          injection e9 with e9
          injection e9 with e9 _ _
          have h9 : b2 < W.heap.size := World.block_lt_of_cell? W _ z0
          have hz := HSz.out
          omega
         have hfb : fb < w0.heap.size := by
          obtain ⟨b2, o2, _, _, _, _, e9, ⟨z0, _⟩, _⟩ := HDF.out.at_ i h2
          injection e9 with e9
          injection e9 with e9 _ _
          have h9 : b2 < W.heap.size := World.block_lt_of_cell? W _ z0
          have hz := HSz.out
          omega
         have HN : Hid (∀ X, KcB w0.heap.size wr X → (X.cell? ⟨W.heap.size, 0, none⟩ = some (.int .i64 t.id) ∧ X.cell? ⟨W.heap.size, 1, none⟩ = some (.string t.nm) ∧ X.cell? ⟨W.heap.size, 2, none⟩ = some (.int .i64 t.rep) ∧ X.cell? ⟨W.heap.size, 3, none⟩ = some (.int .i64 t.kind) ∧ X.cell? ⟨W.heap.size, 4, none⟩ = some (.slice (some ⟨nb, no_, none⟩) t.sub.length tc)) ∧ (X.cell? ⟨W.heap.size + 1, 0, none⟩ = some (.int .i64 p.id) ∧ X.cell? ⟨W.heap.size + 1, 1, none⟩ = some (.string p.nm) ∧ X.cell? ⟨W.heap.size + 1, 2, none⟩ = some (.int .i64 p.rep) ∧ X.cell? ⟨W.heap.size + 1, 3, none⟩ = some (.int .i64 p.kind) ∧ X.cell? ⟨W.heap.size + 1, 4, none⟩ = some (.slice (some ⟨mb, mo, none⟩) p.sub.length pc)) ∧ (X.cell? ⟨W.heap.size + 1 + 1, 0, none⟩ = some (.bool false) ∧ X.cell? ⟨W.heap.size + 1 + 1, 1, none⟩ = some (.int .i64 d.v.k) ∧ X.cell? ⟨W.heap.size + 1 + 1, 2, none⟩ = some (.int .i64 d.v.n) ∧ X.cell? ⟨W.heap.size + 1 + 1, 3, none⟩ = some (.string d.v.s) ∧ X.cell? ⟨W.heap.size + 1 + 1, 4, none⟩ = some (.slice al d.l.length cl) ∧ X.cell? ⟨W.heap.size + 1 + 1, 5, none⟩ = some (.slice (some ⟨fb, fo, none⟩) d.f.length cf)) ∧ (X.cell? ⟨nb, no_ + i * 5, none⟩ = some (.int .i64 nd.id) ∧ X.cell? ⟨nb, no_ + i * 5 + 1, none⟩ = some (.string nd.nm) ∧ X.cell? ⟨nb, no_ + i * 5 + 2, none⟩ = some (.int .i64 nd.rep) ∧ X.cell? ⟨nb, no_ + i * 5 + 3, none⟩ = some (.int .i64 nd.kind) ∧ X.cell? ⟨nb, no_ + i * 5 + 4, none⟩ = some (.slice na nd.sub.length nc)) ∧ (X.cell? ⟨mb, mo + k * 5, none⟩ = some (.int .i64 md.id) ∧ X.cell? ⟨mb, mo + k * 5 + 1, none⟩ = some (.string md.nm) ∧ X.cell? ⟨mb, mo + k * 5 + 2, none⟩ = some (.int .i64 md.rep) ∧ X.cell? ⟨mb, mo + k * 5 + 3, none⟩ = some (.int .i64 md.kind) ∧ X.cell? ⟨mb, mo + k * 5 + 4, none⟩ = some (.slice ma md.sub.length mc)) ∧ (X.cell? ⟨fb, fo + i * 6, none⟩ = some (.bool z.no) ∧ X.cell? ⟨fb, fo + i * 6 + 1, none⟩ = some (.int .i64 z.v.k) ∧ X.cell? ⟨fb, fo + i * 6 + 2, none⟩ = some (.int .i64 z.v.n) ∧ X.cell? ⟨fb, fo + i * 6 + 3, none⟩ = some (.string z.v.s) ∧ X.cell? ⟨fb, fo + i * 6 + 4, none⟩ = some (.slice fa1 z.l.length fc1) ∧ X.cell? ⟨fb, fo + i * 6 + 5, none⟩ = some (.slice fa2 z.f.length fc2))) := fun X hX => (by
          have hz := HSz.out
          have kk : ∀ (bb oo : Nat) (u : Value), bb < w0.heap.size → wr.cell? ⟨bb, oo, none⟩ = some u → X.cell? ⟨bb, oo, none⟩ = some u := fun bb oo u hb h => by
           rw [World.cell?_of_block (hX bb hb)]
           exact h
          exact ⟨⟨kk _ _ _ (by omega) p0, kk _ _ _ (by omega) p1, kk _ _ _ (by omega) p2, kk _ _ _ (by omega) p3, kk _ _ _ (by omega) p4⟩, ⟨kk _ _ _ (by omega) i0, kk _ _ _ (by omega) i1, kk _ _ _ (by omega) i2, kk _ _ _ (by omega) i3, kk _ _ _ (by omega) i4⟩, ⟨kk _ _ _ (by omega) d0, kk _ _ _ (by omega) d1, kk _ _ _ (by omega) d2, kk _ _ _ (by omega) d3, kk _ _ _ (by omega) d4, kk _ _ _ (by omega) d5⟩, ⟨kk _ _ _ hnb n0, kk _ _ _ hnb n1, kk _ _ _ hnb n2, kk _ _ _ hnb n3, kk _ _ _ hnb n4⟩, ⟨kk _ _ _ hmb m0, kk _ _ _ hmb m1, kk _ _ _ hmb m2, kk _ _ _ hmb m3, kk _ _ _ hmb m4⟩, ⟨kk _ _ _ hfb e0, kk _ _ _ hfb e1, kk _ _ _ hfb e2, kk _ _ _ hfb e3, kk _ _ _ hfb e4, kk _ _ _ hfb e5⟩⟩)
         go_upto_region 16 with fail
         go_quiet (fail)
         go_wp2_with fail
         clear p0 p1 p2 p3 p4 i0 i1 i2 i3 i4 d0 d1 d2 d3 d4 d5 e0 e1 e2 e3 e4 e5 n0 n1 n2 n3 n4 m0 m1 m2 m3 m4
         refine wp_region_held_drew (S := (KcB w0.heap.size wr)) (by kernel_rfl) (KcB.drew (KcB.refl _ _)) (fun hH0 => ?_)
         refine wpAnyH_take (i := 0) (oi := { dst := some 78, op := Go.Op.fieldAddr 56 (Go.Operand.tmp 9) 3, type := 0, pos := "data.go:365", after := #[], guard := none }) (v := ?vc0) rfl (by kernel_rfl) (by kernel_rfl) (by kernel_rfl) (fun _ _ _ h => h) (Or.inl ⟨by rfl, ?hyc0⟩) hH0 ?_
         case hyc0 => (intro w hSw; obtain ⟨⟨p0, p1, p2, p3, p4⟩, ⟨i0, i1, i2, i3, i4⟩, ⟨d0, d1, d2, d3, d4, d5⟩, ⟨n0, n1, n2, n3, n4⟩, ⟨m0, m1, m2, m3, m4⟩, ⟨e0, e1, e2, e3, e4, e5⟩⟩ := HN.out w hSw; go_simp; (first | done | with_reducible rfl))
         (try simp only [Act.put, List.setIfInBounds_toArray, List.set_cons_zero, List.set_cons_succ])
         refine wpAnyH_take (i := 2) (oi := { dst := some 80, op := Go.Op.fieldAddr 24 (Go.Operand.tmp 4) 4, type := 0, pos := "data.go:365", after := #[], guard := none }) (v := ?vc2) rfl (by kernel_rfl) (by kernel_rfl) (by kernel_rfl) (fun _ _ _ h => h) (Or.inl ⟨by rfl, ?hyc2⟩) hH0 ?_
         case hyc2 => (intro w hSw; obtain ⟨⟨p0, p1, p2, p3, p4⟩, ⟨i0, i1, i2, i3, i4⟩, ⟨d0, d1, d2, d3, d4, d5⟩, ⟨n0, n1, n2, n3, n4⟩, ⟨m0, m1, m2, m3, m4⟩, ⟨e0, e1, e2, e3, e4, e5⟩⟩ := HN.out w hSw; go_simp; (first | done | with_reducible rfl))
         (try simp only [Act.put, List.setIfInBounds_toArray, List.set_cons_zero, List.set_cons_succ])
         refine wpAnyH_take (i := 3) (oi := { dst := some 81, op := Go.Op.load 22 (Go.Operand.tmp 80), type := 22, pos := "data.go:365", after := #[{ on := 2, ground := Go.Ground.data }], guard := none }) (v := ?vc3) rfl (by kernel_rfl) (by kernel_rfl) (by kernel_rfl) (fun _ _ _ h => h) (Or.inl ⟨by rfl, ?hyc3⟩) hH0 ?_
         case hyc3 => (intro w hSw; obtain ⟨⟨p0, p1, p2, p3, p4⟩, ⟨i0, i1, i2, i3, i4⟩, ⟨d0, d1, d2, d3, d4, d5⟩, ⟨n0, n1, n2, n3, n4⟩, ⟨m0, m1, m2, m3, m4⟩, ⟨e0, e1, e2, e3, e4, e5⟩⟩ := HN.out w hSw; go_simp; (first | done | with_reducible rfl))
         (try simp only [Act.put, List.setIfInBounds_toArray, List.set_cons_zero, List.set_cons_succ])
         refine wpAnyH_take (i := 4) (oi := { dst := some 82, op := Go.Op.move (Go.Operand.tmp 12), type := 3, pos := "data.go:365", after := #[], guard := none }) (v := ?vc4) rfl (by kernel_rfl) (by kernel_rfl) (by kernel_rfl) (fun _ _ _ h => h) (Or.inl ⟨by rfl, ?hyc4⟩) hH0 ?_
         case hyc4 => (intro w hSw; obtain ⟨⟨p0, p1, p2, p3, p4⟩, ⟨i0, i1, i2, i3, i4⟩, ⟨d0, d1, d2, d3, d4, d5⟩, ⟨n0, n1, n2, n3, n4⟩, ⟨m0, m1, m2, m3, m4⟩, ⟨e0, e1, e2, e3, e4, e5⟩⟩ := HN.out w hSw; go_simp; (first | done | with_reducible rfl))
         (try simp only [Act.put, List.setIfInBounds_toArray, List.set_cons_zero, List.set_cons_succ])
         refine wpAnyH_take (i := 5) (oi := { dst := some 83, op := Go.Op.indexAddr 22 (Go.Operand.tmp 81) (Go.Operand.tmp 82), type := 0, pos := "data.go:365", after := #[{ on := 3, ground := Go.Ground.data }, { on := 4, ground := Go.Ground.data }], guard := none }) (v := ?vc5) rfl (by kernel_rfl) (by kernel_rfl) (by kernel_rfl) (fun _ _ _ h => h) (Or.inl ⟨by rfl, ?hyc5⟩) hH0 ?_
         case hyc5 => (intro w hSw; obtain ⟨⟨p0, p1, p2, p3, p4⟩, ⟨i0, i1, i2, i3, i4⟩, ⟨d0, d1, d2, d3, d4, d5⟩, ⟨n0, n1, n2, n3, n4⟩, ⟨m0, m1, m2, m3, m4⟩, ⟨e0, e1, e2, e3, e4, e5⟩⟩ := HN.out w hSw; go_simp; (first | done | with_reducible rfl))
         (try simp only [Act.put, List.setIfInBounds_toArray, List.set_cons_zero, List.set_cons_succ])
         refine wpAnyH_take (i := 6) (oi := { dst := some 84, op := Go.Op.load 24 (Go.Operand.tmp 83), type := 24, pos := "data.go:365", after := #[{ on := 5, ground := Go.Ground.data }], guard := none }) (v := ?vc6) rfl (by kernel_rfl) (by kernel_rfl) (by kernel_rfl) (fun _ _ _ h => h) (Or.inl ⟨by rfl, ?hyc6⟩) hH0 ?_
         case hyc6 => (intro w hSw; obtain ⟨⟨p0, p1, p2, p3, p4⟩, ⟨i0, i1, i2, i3, i4⟩, ⟨d0, d1, d2, d3, d4, d5⟩, ⟨n0, n1, n2, n3, n4⟩, ⟨m0, m1, m2, m3, m4⟩, ⟨e0, e1, e2, e3, e4, e5⟩⟩ := HN.out w hSw; go_simp; (first | done | with_reducible rfl))
         (try simp only [Act.put, List.setIfInBounds_toArray, List.set_cons_zero, List.set_cons_succ])
         refine wpAnyH_take (i := 7) (oi := { dst := some 85, op := Go.Op.fieldAddr 24 (Go.Operand.tmp 5) 4, type := 0, pos := "data.go:365", after := #[], guard := none }) (v := ?vc7) rfl (by kernel_rfl) (by kernel_rfl) (by kernel_rfl) (fun _ _ _ h => h) (Or.inl ⟨by rfl, ?hyc7⟩) hH0 ?_
         case hyc7 => (intro w hSw; obtain ⟨⟨p0, p1, p2, p3, p4⟩, ⟨i0, i1, i2, i3, i4⟩, ⟨d0, d1, d2, d3, d4, d5⟩, ⟨n0, n1, n2, n3, n4⟩, ⟨m0, m1, m2, m3, m4⟩, ⟨e0, e1, e2, e3, e4, e5⟩⟩ := HN.out w hSw; go_simp; (first | done | with_reducible rfl))
         (try simp only [Act.put, List.setIfInBounds_toArray, List.set_cons_zero, List.set_cons_succ])
         refine wpAnyH_take (i := 8) (oi := { dst := some 86, op := Go.Op.load 22 (Go.Operand.tmp 85), type := 22, pos := "data.go:365", after := #[{ on := 7, ground := Go.Ground.data }], guard := none }) (v := ?vc8) rfl (by kernel_rfl) (by kernel_rfl) (by kernel_rfl) (fun _ _ _ h => h) (Or.inl ⟨by rfl, ?hyc8⟩) hH0 ?_
         case hyc8 => (intro w hSw; obtain ⟨⟨p0, p1, p2, p3, p4⟩, ⟨i0, i1, i2, i3, i4⟩, ⟨d0, d1, d2, d3, d4, d5⟩, ⟨n0, n1, n2, n3, n4⟩, ⟨m0, m1, m2, m3, m4⟩, ⟨e0, e1, e2, e3, e4, e5⟩⟩ := HN.out w hSw; go_simp; (first | done | with_reducible rfl))
         (try simp only [Act.put, List.setIfInBounds_toArray, List.set_cons_zero, List.set_cons_succ])
         refine wpAnyH_take (i := 9) (oi := { dst := some 87, op := Go.Op.move (Go.Operand.tmp 11), type := 3, pos := "data.go:365", after := #[], guard := none }) (v := ?vc9) rfl (by kernel_rfl) (by kernel_rfl) (by kernel_rfl) (fun _ _ _ h => h) (Or.inl ⟨by rfl, ?hyc9⟩) hH0 ?_
         case hyc9 => (intro w hSw; obtain ⟨⟨p0, p1, p2, p3, p4⟩, ⟨i0, i1, i2, i3, i4⟩, ⟨d0, d1, d2, d3, d4, d5⟩, ⟨n0, n1, n2, n3, n4⟩, ⟨m0, m1, m2, m3, m4⟩, ⟨e0, e1, e2, e3, e4, e5⟩⟩ := HN.out w hSw; go_simp; (first | done | with_reducible rfl))
         (try simp only [Act.put, List.setIfInBounds_toArray, List.set_cons_zero, List.set_cons_succ])
         refine wpAnyH_take (i := 10) (oi := { dst := some 88, op := Go.Op.indexAddr 22 (Go.Operand.tmp 86) (Go.Operand.tmp 87), type := 0, pos := "data.go:365", after := #[{ on := 8, ground := Go.Ground.data }, { on := 9, ground := Go.Ground.data }], guard := none }) (v := ?vc10) rfl (by kernel_rfl) (by kernel_rfl) (by kernel_rfl) (fun _ _ _ h => h) (Or.inl ⟨by rfl, ?hyc10⟩) hH0 ?_
         case hyc10 => (intro w hSw; obtain ⟨⟨p0, p1, p2, p3, p4⟩, ⟨i0, i1, i2, i3, i4⟩, ⟨d0, d1, d2, d3, d4, d5⟩, ⟨n0, n1, n2, n3, n4⟩, ⟨m0, m1, m2, m3, m4⟩, ⟨e0, e1, e2, e3, e4, e5⟩⟩ := HN.out w hSw; go_simp; (first | done | with_reducible rfl))
         (try simp only [Act.put, List.setIfInBounds_toArray, List.set_cons_zero, List.set_cons_succ])
         refine wpAnyH_take (i := 11) (oi := { dst := some 89, op := Go.Op.load 24 (Go.Operand.tmp 88), type := 24, pos := "data.go:365", after := #[{ on := 10, ground := Go.Ground.data }], guard := none }) (v := ?vc11) rfl (by kernel_rfl) (by kernel_rfl) (by kernel_rfl) (fun _ _ _ h => h) (Or.inl ⟨by rfl, ?hyc11⟩) hH0 ?_
         case hyc11 => (intro w hSw; obtain ⟨⟨p0, p1, p2, p3, p4⟩, ⟨i0, i1, i2, i3, i4⟩, ⟨d0, d1, d2, d3, d4, d5⟩, ⟨n0, n1, n2, n3, n4⟩, ⟨m0, m1, m2, m3, m4⟩, ⟨e0, e1, e2, e3, e4, e5⟩⟩ := HN.out w hSw; go_simp; (first | done | with_reducible rfl))
         (try simp only [Act.put, List.setIfInBounds_toArray, List.set_cons_zero, List.set_cons_succ])
         refine wpAnyH_take (i := 12) (oi := { dst := some 90, op := Go.Op.fieldAddr 56 (Go.Operand.tmp 6) 3, type := 0, pos := "data.go:365", after := #[], guard := none }) (v := ?vc12) rfl (by kernel_rfl) (by kernel_rfl) (by kernel_rfl) (fun _ _ _ h => h) (Or.inl ⟨by rfl, ?hyc12⟩) hH0 ?_
         case hyc12 => (intro w hSw; obtain ⟨⟨p0, p1, p2, p3, p4⟩, ⟨i0, i1, i2, i3, i4⟩, ⟨d0, d1, d2, d3, d4, d5⟩, ⟨n0, n1, n2, n3, n4⟩, ⟨m0, m1, m2, m3, m4⟩, ⟨e0, e1, e2, e3, e4, e5⟩⟩ := HN.out w hSw; go_simp; (first | done | with_reducible rfl))
         (try simp only [Act.put, List.setIfInBounds_toArray, List.set_cons_zero, List.set_cons_succ])
         refine wpAnyH_take (i := 13) (oi := { dst := some 91, op := Go.Op.load 26 (Go.Operand.tmp 90), type := 26, pos := "data.go:365", after := #[{ on := 12, ground := Go.Ground.data }], guard := none }) (v := ?vc13) rfl (by kernel_rfl) (by kernel_rfl) (by kernel_rfl) (fun _ _ _ h => h) (Or.inl ⟨by rfl, ?hyc13⟩) hH0 ?_
         case hyc13 => (intro w hSw; obtain ⟨⟨p0, p1, p2, p3, p4⟩, ⟨i0, i1, i2, i3, i4⟩, ⟨d0, d1, d2, d3, d4, d5⟩, ⟨n0, n1, n2, n3, n4⟩, ⟨m0, m1, m2, m3, m4⟩, ⟨e0, e1, e2, e3, e4, e5⟩⟩ := HN.out w hSw; go_simp; (first | done | with_reducible rfl))
         (try simp only [Act.put, List.setIfInBounds_toArray, List.set_cons_zero, List.set_cons_succ])
         refine wpAnyH_take (i := 14) (oi := { dst := some 92, op := Go.Op.move (Go.Operand.tmp 12), type := 3, pos := "data.go:365", after := #[], guard := none }) (v := ?vc14) rfl (by kernel_rfl) (by kernel_rfl) (by kernel_rfl) (fun _ _ _ h => h) (Or.inl ⟨by rfl, ?hyc14⟩) hH0 ?_
         case hyc14 => (intro w hSw; obtain ⟨⟨p0, p1, p2, p3, p4⟩, ⟨i0, i1, i2, i3, i4⟩, ⟨d0, d1, d2, d3, d4, d5⟩, ⟨n0, n1, n2, n3, n4⟩, ⟨m0, m1, m2, m3, m4⟩, ⟨e0, e1, e2, e3, e4, e5⟩⟩ := HN.out w hSw; go_simp; (first | done | with_reducible rfl))
         (try simp only [Act.put, List.setIfInBounds_toArray, List.set_cons_zero, List.set_cons_succ])
         refine wpAnyH_take (i := 15) (oi := { dst := some 93, op := Go.Op.indexAddr 26 (Go.Operand.tmp 91) (Go.Operand.tmp 92), type := 0, pos := "data.go:365", after := #[{ on := 13, ground := Go.Ground.data }, { on := 14, ground := Go.Ground.data }], guard := none }) (v := ?vc15) rfl (by kernel_rfl) (by kernel_rfl) (by kernel_rfl) (fun _ _ _ h => h) (Or.inl ⟨by rfl, ?hyc15⟩) hH0 ?_
         case hyc15 => (intro w hSw; obtain ⟨⟨p0, p1, p2, p3, p4⟩, ⟨i0, i1, i2, i3, i4⟩, ⟨d0, d1, d2, d3, d4, d5⟩, ⟨n0, n1, n2, n3, n4⟩, ⟨m0, m1, m2, m3, m4⟩, ⟨e0, e1, e2, e3, e4, e5⟩⟩ := HN.out w hSw; go_simp; (first | done | with_reducible rfl))
         (try simp only [Act.put, List.setIfInBounds_toArray, List.set_cons_zero, List.set_cons_succ])
         refine wpAnyH_take (i := 16) (oi := { dst := some 94, op := Go.Op.load 56 (Go.Operand.tmp 93), type := 56, pos := "data.go:365", after := #[{ on := 15, ground := Go.Ground.data }], guard := none }) (v := ?vc16) rfl (by kernel_rfl) (by kernel_rfl) (by kernel_rfl) (fun _ _ _ h => h) (Or.inl ⟨by rfl, ?hyc16⟩) hH0 ?_
         case hyc16 => (intro w hSw; obtain ⟨⟨p0, p1, p2, p3, p4⟩, ⟨i0, i1, i2, i3, i4⟩, ⟨d0, d1, d2, d3, d4, d5⟩, ⟨n0, n1, n2, n3, n4⟩, ⟨m0, m1, m2, m3, m4⟩, ⟨e0, e1, e2, e3, e4, e5⟩⟩ := HN.out w hSw; go_simp; (first | done | with_reducible rfl))
         (try simp only [Act.put, List.setIfInBounds_toArray, List.set_cons_zero, List.set_cons_succ])
         refine wpAnyH_ready (rs := [1, 17]) (by kernel_rfl) (by simp) ?_
         refine AllReadyH.cons (o := { dst := some 79, op := Go.Op.load 26 (Go.Operand.tmp 78), type := 26, pos := "data.go:365", after := #[{ on := 0, ground := Go.Ground.data }], guard := none }) rfl (fun K hK => ?_) ?_
         · go_simp
           refine hK.out _ _ hH0 (fun hH1 => ?_)
           (try simp only [Act.put, List.setIfInBounds_toArray, List.set_cons_zero, List.set_cons_succ])
           refine wpAnyH_ready (rs := [17]) (by kernel_rfl) (by simp) ?_
           refine AllReadyH.cons (o := { dst := some 95, op := Go.Op.call { callee := Go.Callee.value (Go.Operand.func 21), args := #[Go.Operand.tmp 84, Go.Operand.tmp 89, Go.Operand.tmp 94, Go.Operand.const (Go.Value.bool false)], argTypes := #[24, 24, 56, 4] }, type := 56, pos := "data.go:365", after := #[{ on := 6, ground := Go.Ground.data }, { on := 11, ground := Go.Ground.data }, { on := 16, ground := Go.Ground.data }], guard := none }) rfl (fun K hK => ?_) AllReadyH.nil
           go_simp
           (go_at_call 21; refine Calls.mono (HCa.out _ (below_dN (Below.refl _ _) _).drew) ?_; rintro e w4 ⟨⟨yl, ycl, yf, ycf, rfl, hyl, hyf⟩, hb4⟩)
           have HYL : Hid (LiesD w4 (fun b => wr.heap.size ≤ b) yl y.l) := hyl
           have HYF : Hid (LiesD w4 (fun b => wr.heap.size ≤ b) yf y.f) := hyf
           have HB4 : Hid (Below wr.heap.size wr w4) := hb4
           clear hyl hyf hb4
           have hK4 : KcB w0.heap.size wr w4 := HKB.out w4 HB4.out
           have r5a : w4.cell? ⟨w0.heap.size, 5, none⟩ = some (.slice la k lc) := (HB4.out.cell (World.block_lt_of_cell? wr _ o5)).trans o5
           go_wp2_with fail
           refine hK.out _ _ hK4 (fun hH2 => ?_)
           (try simp only [Act.put, List.setIfInBounds_toArray, List.set_cons_zero, List.set_cons_succ])
           refine wpAnyH_ready (rs := [18]) (by kernel_rfl) (by simp) ?_
           refine AllReadyH.cons (o := { dst := some 96, op := Go.Op.buildSlice 26 1 #[(0, Go.Operand.tmp 95)], type := 26, pos := "data.go:365", after := #[{ on := 17, ground := Go.Ground.data }], guard := none }) rfl (fun K hK => ?_) AllReadyH.nil
           go_simp
           have hB5 : Below wr.heap.size wr (w4.alloc (.cells #[.bool y.no, .int .i64 y.v.k, .int .i64 y.v.n, .string y.v.s, .slice yl y.l.length ycl, .slice yf y.f.length ycf] 56)) := HB4.out.alloc HB4.out.size _
           have r5b : (w4.alloc (.cells #[.bool y.no, .int .i64 y.v.k, .int .i64 y.v.n, .string y.v.s, .slice yl y.l.length ycl, .slice yf y.f.length ycf] 56)).cell? ⟨w0.heap.size, 5, none⟩ = some (.slice la k lc) := (hB5.cell (World.block_lt_of_cell? wr _ o5)).trans o5
           refine hK.out _ _ (HKB.out _ hB5) (fun hH3 => ?_)
           (try simp only [Act.put, List.setIfInBounds_toArray, List.set_cons_zero, List.set_cons_succ])
           refine wpAnyH_ready (rs := [19]) (by kernel_rfl) (by simp) ?_
           refine AllReadyH.cons (o := { dst := some 97, op := Go.Op.call { callee := Go.Callee.builtin Go.Builtin.append, args := #[Go.Operand.tmp 79, Go.Operand.tmp 96], argTypes := #[26, 26] }, type := 26, pos := "data.go:365", after := #[{ on := 1, ground := Go.Ground.data }, { on := 18, ground := Go.Ground.data }, { on := 17, ground := Go.Ground.chain }], guard := none }) rfl (fun K hK => ?_) AllReadyH.nil
           (refine step_own_where _ rfl _ _ 26 rfl (w0.heap.size + 1) 56 iv (.agg #[.bool false, .int .i64 0, .int .i64 0, .string ⟨#[]⟩, .slice none 0 0, .slice none 0 0]) 6 88 Tryz.underlying26 hvi hv0 hv1 hv2 rfl (by decide) _ k ncs.flatten rfl ((ow_kept HRow.out HB4.out).alloc _) ⟨w4.heap.size, 0, none⟩ 1 1 [.bool y.no, .int .i64 y.v.k, .int .i64 y.v.n, .string y.v.s, .slice yl y.l.length ycl, .slice yf y.f.length ycf] rfl rfl six_cells (by intro u hu; simp at hu; rcases hu with rfl | rfl | rfl | rfl | rfl | rfl <;> rfl) (by unfold maxLen; omega) (by omega) (by have := HB4.out.size; simp; omega) (by decide) ?_; intro l' w5 hown5 hgrow5 hwh5)
           obtain ⟨ncs', hdn⟩ := HPu.out _ _ _ _ _ _ _ _ HB4.out HYL.out HYF.out hown5 hgrow5 hwh5
           have HDn : Hid _ := hdn
           obtain ⟨a9, c9, hl9⟩ := own_sh6 hown5
           subst hl9
           have hO5 := HTh.out _ _ _ HB4.out hgrow5
           obtain ⟨y0, y1, y2, y3, y4, y5⟩ := row_six hO5
           obtain ⟨q0, q1, q2, q3, q4, q5⟩ := row_six_z hO5
           have hK5 : KcB w0.heap.size wr w5 := HGw.out _ _ _ HB4.out hgrow5
           clear hown5 hgrow5 hwh5 hO5 hdn
           refine hK.out _ _ hK5 (fun hH4 => ?_)
           (try simp only [Act.put, List.setIfInBounds_toArray, List.set_cons_zero, List.set_cons_succ])
           refine wpAnyH_take (i := 20) (oi := { dst := some 98, op := Go.Op.fieldAddr 56 (Go.Operand.tmp 9) 3, type := 0, pos := "data.go:365", after := #[{ on := 0, ground := Go.Ground.phase }, { on := 1, ground := Go.Ground.phase }, { on := 2, ground := Go.Ground.phase }, { on := 3, ground := Go.Ground.phase }, { on := 4, ground := Go.Ground.phase }, { on := 5, ground := Go.Ground.phase }, { on := 6, ground := Go.Ground.phase }, { on := 7, ground := Go.Ground.phase }, { on := 8, ground := Go.Ground.phase }, { on := 9, ground := Go.Ground.phase }, { on := 10, ground := Go.Ground.phase }, { on := 11, ground := Go.Ground.phase }, { on := 12, ground := Go.Ground.phase }, { on := 13, ground := Go.Ground.phase }, { on := 14, ground := Go.Ground.phase }, { on := 15, ground := Go.Ground.phase }, { on := 16, ground := Go.Ground.phase }, { on := 17, ground := Go.Ground.phase }, { on := 18, ground := Go.Ground.phase }, { on := 19, ground := Go.Ground.phase }], guard := none }) (v := .pointer (some ⟨w0.heap.size, 5, none⟩)) rfl (by kernel_rfl) (by kernel_rfl) (by kernel_rfl) (fun _ _ _ h => h) (Or.inl ⟨by rfl, (by intro w hSw; go_simp; done)⟩) hH4 ?_
           (try simp only [Act.put, List.setIfInBounds_toArray, List.set_cons_zero, List.set_cons_succ])
           refine wpAnyH_ready (rs := [21]) (by kernel_rfl) (by simp) ?_
           refine AllReadyH.cons (o := { dst := none, op := Go.Op.store 26 (Go.Operand.tmp 98) (Go.Operand.tmp 97), type := 0, pos := "data.go:365", after := #[{ on := 20, ground := Go.Ground.data }, { on := 19, ground := Go.Ground.data }, { on := 19, ground := Go.Ground.chain }, { on := 0, ground := Go.Ground.phase }, { on := 1, ground := Go.Ground.phase }, { on := 2, ground := Go.Ground.phase }, { on := 3, ground := Go.Ground.phase }, { on := 4, ground := Go.Ground.phase }, { on := 5, ground := Go.Ground.phase }, { on := 6, ground := Go.Ground.phase }, { on := 7, ground := Go.Ground.phase }, { on := 8, ground := Go.Ground.phase }, { on := 9, ground := Go.Ground.phase }, { on := 10, ground := Go.Ground.phase }, { on := 11, ground := Go.Ground.phase }, { on := 12, ground := Go.Ground.phase }, { on := 13, ground := Go.Ground.phase }, { on := 14, ground := Go.Ground.phase }, { on := 15, ground := Go.Ground.phase }, { on := 16, ground := Go.Ground.phase }, { on := 17, ground := Go.Ground.phase }, { on := 18, ground := Go.Ground.phase }, { on := 19, ground := Go.Ground.phase }], guard := none }) rfl (fun K hK => ?_) AllReadyH.nil
           go_simp
           refine hK.out _ _ (KcB.put hK5 _) (fun hH5 => ?_)
           (try simp only [Act.put, List.setIfInBounds_toArray, List.set_cons_zero, List.set_cons_succ])
           refine wpAnyH_done (by kernel_rfl) ?_ _
           go_wp2
           go_roundw
           case rel => exact ⟨i + 1, _, _, hlti, by go_num, HDn⟩
           case measure => simp [intOf]; omega
         refine AllReadyH.cons (o := { dst := some 95, op := Go.Op.call { callee := Go.Callee.value (Go.Operand.func 21), args := #[Go.Operand.tmp 84, Go.Operand.tmp 89, Go.Operand.tmp 94, Go.Operand.const (Go.Value.bool false)], argTypes := #[24, 24, 56, 4] }, type := 56, pos := "data.go:365", after := #[{ on := 6, ground := Go.Ground.data }, { on := 11, ground := Go.Ground.data }, { on := 16, ground := Go.Ground.data }], guard := none }) rfl (fun K hK => ?_) AllReadyH.nil
         go_simp
         (go_at_call 21; refine Calls.mono (HCa.out _ (below_dN (Below.refl _ _) _).drew) ?_; rintro e w4 ⟨⟨yl, ycl, yf, ycf, rfl, hyl, hyf⟩, hb4⟩)
         have HYL : Hid (LiesD w4 (fun b => wr.heap.size ≤ b) yl y.l) := hyl
         have HYF : Hid (LiesD w4 (fun b => wr.heap.size ≤ b) yf y.f) := hyf
         have HB4 : Hid (Below wr.heap.size wr w4) := hb4
         clear hyl hyf hb4
         have hK4 : KcB w0.heap.size wr w4 := HKB.out w4 HB4.out
         have r5a : w4.cell? ⟨w0.heap.size, 5, none⟩ = some (.slice la k lc) := (HB4.out.cell (World.block_lt_of_cell? wr _ o5)).trans o5
         go_wp2_with fail
         refine hK.out _ _ hK4 (fun hH2 => ?_)
         (try simp only [Act.put, List.setIfInBounds_toArray, List.set_cons_zero, List.set_cons_succ])
         refine wpAnyH_ready (rs := [1, 18]) (by kernel_rfl) (by simp) ?_
         refine AllReadyH.cons (o := { dst := some 79, op := Go.Op.load 26 (Go.Operand.tmp 78), type := 26, pos := "data.go:365", after := #[{ on := 0, ground := Go.Ground.data }], guard := none }) rfl (fun K hK => ?_) ?_
         · go_simp
           refine hK.out _ _ hK4 (fun hH1 => ?_)
           (try simp only [Act.put, List.setIfInBounds_toArray, List.set_cons_zero, List.set_cons_succ])
           refine wpAnyH_ready (rs := [18]) (by kernel_rfl) (by simp) ?_
           refine AllReadyH.cons (o := { dst := some 96, op := Go.Op.buildSlice 26 1 #[(0, Go.Operand.tmp 95)], type := 26, pos := "data.go:365", after := #[{ on := 17, ground := Go.Ground.data }], guard := none }) rfl (fun K hK => ?_) AllReadyH.nil
           go_simp
           have hB5 : Below wr.heap.size wr (w4.alloc (.cells #[.bool y.no, .int .i64 y.v.k, .int .i64 y.v.n, .string y.v.s, .slice yl y.l.length ycl, .slice yf y.f.length ycf] 56)) := HB4.out.alloc HB4.out.size _
           have r5b : (w4.alloc (.cells #[.bool y.no, .int .i64 y.v.k, .int .i64 y.v.n, .string y.v.s, .slice yl y.l.length ycl, .slice yf y.f.length ycf] 56)).cell? ⟨w0.heap.size, 5, none⟩ = some (.slice la k lc) := (hB5.cell (World.block_lt_of_cell? wr _ o5)).trans o5
           refine hK.out _ _ (HKB.out _ hB5) (fun hH3 => ?_)
           (try simp only [Act.put, List.setIfInBounds_toArray, List.set_cons_zero, List.set_cons_succ])
           refine wpAnyH_ready (rs := [19]) (by kernel_rfl) (by simp) ?_
           refine AllReadyH.cons (o := { dst := some 97, op := Go.Op.call { callee := Go.Callee.builtin Go.Builtin.append, args := #[Go.Operand.tmp 79, Go.Operand.tmp 96], argTypes := #[26, 26] }, type := 26, pos := "data.go:365", after := #[{ on := 1, ground := Go.Ground.data }, { on := 18, ground := Go.Ground.data }, { on := 17, ground := Go.Ground.chain }], guard := none }) rfl (fun K hK => ?_) AllReadyH.nil
           (refine step_own_where _ rfl _ _ 26 rfl (w0.heap.size + 1) 56 iv (.agg #[.bool false, .int .i64 0, .int .i64 0, .string ⟨#[]⟩, .slice none 0 0, .slice none 0 0]) 6 88 Tryz.underlying26 hvi hv0 hv1 hv2 rfl (by decide) _ k ncs.flatten rfl ((ow_kept HRow.out HB4.out).alloc _) ⟨w4.heap.size, 0, none⟩ 1 1 [.bool y.no, .int .i64 y.v.k, .int .i64 y.v.n, .string y.v.s, .slice yl y.l.length ycl, .slice yf y.f.length ycf] rfl rfl six_cells (by intro u hu; simp at hu; rcases hu with rfl | rfl | rfl | rfl | rfl | rfl <;> rfl) (by unfold maxLen; omega) (by omega) (by have := HB4.out.size; simp; omega) (by decide) ?_; intro l' w5 hown5 hgrow5 hwh5)
           obtain ⟨ncs', hdn⟩ := HPu.out _ _ _ _ _ _ _ _ HB4.out HYL.out HYF.out hown5 hgrow5 hwh5
           have HDn : Hid _ := hdn
           obtain ⟨a9, c9, hl9⟩ := own_sh6 hown5
           subst hl9
           have hO5 := HTh.out _ _ _ HB4.out hgrow5
           obtain ⟨y0, y1, y2, y3, y4, y5⟩ := row_six hO5
           obtain ⟨q0, q1, q2, q3, q4, q5⟩ := row_six_z hO5
           have hK5 : KcB w0.heap.size wr w5 := HGw.out _ _ _ HB4.out hgrow5
           clear hown5 hgrow5 hwh5 hO5 hdn
           refine hK.out _ _ hK5 (fun hH4 => ?_)
           (try simp only [Act.put, List.setIfInBounds_toArray, List.set_cons_zero, List.set_cons_succ])
           refine wpAnyH_take (i := 20) (oi := { dst := some 98, op := Go.Op.fieldAddr 56 (Go.Operand.tmp 9) 3, type := 0, pos := "data.go:365", after := #[{ on := 0, ground := Go.Ground.phase }, { on := 1, ground := Go.Ground.phase }, { on := 2, ground := Go.Ground.phase }, { on := 3, ground := Go.Ground.phase }, { on := 4, ground := Go.Ground.phase }, { on := 5, ground := Go.Ground.phase }, { on := 6, ground := Go.Ground.phase }, { on := 7, ground := Go.Ground.phase }, { on := 8, ground := Go.Ground.phase }, { on := 9, ground := Go.Ground.phase }, { on := 10, ground := Go.Ground.phase }, { on := 11, ground := Go.Ground.phase }, { on := 12, ground := Go.Ground.phase }, { on := 13, ground := Go.Ground.phase }, { on := 14, ground := Go.Ground.phase }, { on := 15, ground := Go.Ground.phase }, { on := 16, ground := Go.Ground.phase }, { on := 17, ground := Go.Ground.phase }, { on := 18, ground := Go.Ground.phase }, { on := 19, ground := Go.Ground.phase }], guard := none }) (v := .pointer (some ⟨w0.heap.size, 5, none⟩)) rfl (by kernel_rfl) (by kernel_rfl) (by kernel_rfl) (fun _ _ _ h => h) (Or.inl ⟨by rfl, (by intro w hSw; go_simp; done)⟩) hH4 ?_
           (try simp only [Act.put, List.setIfInBounds_toArray, List.set_cons_zero, List.set_cons_succ])
           refine wpAnyH_ready (rs := [21]) (by kernel_rfl) (by simp) ?_
           refine AllReadyH.cons (o := { dst := none, op := Go.Op.store 26 (Go.Operand.tmp 98) (Go.Operand.tmp 97), type := 0, pos := "data.go:365", after := #[{ on := 20, ground := Go.Ground.data }, { on := 19, ground := Go.Ground.data }, { on := 19, ground := Go.Ground.chain }, { on := 0, ground := Go.Ground.phase }, { on := 1, ground := Go.Ground.phase }, { on := 2, ground := Go.Ground.phase }, { on := 3, ground := Go.Ground.phase }, { on := 4, ground := Go.Ground.phase }, { on := 5, ground := Go.Ground.phase }, { on := 6, ground := Go.Ground.phase }, { on := 7, ground := Go.Ground.phase }, { on := 8, ground := Go.Ground.phase }, { on := 9, ground := Go.Ground.phase }, { on := 10, ground := Go.Ground.phase }, { on := 11, ground := Go.Ground.phase }, { on := 12, ground := Go.Ground.phase }, { on := 13, ground := Go.Ground.phase }, { on := 14, ground := Go.Ground.phase }, { on := 15, ground := Go.Ground.phase }, { on := 16, ground := Go.Ground.phase }, { on := 17, ground := Go.Ground.phase }, { on := 18, ground := Go.Ground.phase }, { on := 19, ground := Go.Ground.phase }], guard := none }) rfl (fun K hK => ?_) AllReadyH.nil
           go_simp
           refine hK.out _ _ (KcB.put hK5 _) (fun hH5 => ?_)
           (try simp only [Act.put, List.setIfInBounds_toArray, List.set_cons_zero, List.set_cons_succ])
           refine wpAnyH_done (by kernel_rfl) ?_ _
           go_wp2
           go_roundw
           case rel => exact ⟨i + 1, _, _, hlti, by go_num, HDn⟩
           case measure => simp [intOf]; omega
         refine AllReadyH.cons (o := { dst := some 96, op := Go.Op.buildSlice 26 1 #[(0, Go.Operand.tmp 95)], type := 26, pos := "data.go:365", after := #[{ on := 17, ground := Go.Ground.data }], guard := none }) rfl (fun K hK => ?_) AllReadyH.nil
         go_simp
         have hB5 : Below wr.heap.size wr (w4.alloc (.cells #[.bool y.no, .int .i64 y.v.k, .int .i64 y.v.n, .string y.v.s, .slice yl y.l.length ycl, .slice yf y.f.length ycf] 56)) := HB4.out.alloc HB4.out.size _
         have r5b : (w4.alloc (.cells #[.bool y.no, .int .i64 y.v.k, .int .i64 y.v.n, .string y.v.s, .slice yl y.l.length ycl, .slice yf y.f.length ycf] 56)).cell? ⟨w0.heap.size, 5, none⟩ = some (.slice la k lc) := (hB5.cell (World.block_lt_of_cell? wr _ o5)).trans o5
         refine hK.out _ _ (HKB.out _ hB5) (fun hH3 => ?_)
         (try simp only [Act.put, List.setIfInBounds_toArray, List.set_cons_zero, List.set_cons_succ])
         refine wpAnyH_ready (rs := [1]) (by kernel_rfl) (by simp) ?_
         refine AllReadyH.cons (o := { dst := some 79, op := Go.Op.load 26 (Go.Operand.tmp 78), type := 26, pos := "data.go:365", after := #[{ on := 0, ground := Go.Ground.data }], guard := none }) rfl (fun K hK => ?_) AllReadyH.nil
         go_simp
         refine hK.out _ _ (HKB.out _ hB5) (fun hH1 => ?_)
         (try simp only [Act.put, List.setIfInBounds_toArray, List.set_cons_zero, List.set_cons_succ])
         refine wpAnyH_ready (rs := [19]) (by kernel_rfl) (by simp) ?_
         refine AllReadyH.cons (o := { dst := some 97, op := Go.Op.call { callee := Go.Callee.builtin Go.Builtin.append, args := #[Go.Operand.tmp 79, Go.Operand.tmp 96], argTypes := #[26, 26] }, type := 26, pos := "data.go:365", after := #[{ on := 1, ground := Go.Ground.data }, { on := 18, ground := Go.Ground.data }, { on := 17, ground := Go.Ground.chain }], guard := none }) rfl (fun K hK => ?_) AllReadyH.nil
         (refine step_own_where _ rfl _ _ 26 rfl (w0.heap.size + 1) 56 iv (.agg #[.bool false, .int .i64 0, .int .i64 0, .string ⟨#[]⟩, .slice none 0 0, .slice none 0 0]) 6 88 Tryz.underlying26 hvi hv0 hv1 hv2 rfl (by decide) _ k ncs.flatten rfl ((ow_kept HRow.out HB4.out).alloc _) ⟨w4.heap.size, 0, none⟩ 1 1 [.bool y.no, .int .i64 y.v.k, .int .i64 y.v.n, .string y.v.s, .slice yl y.l.length ycl, .slice yf y.f.length ycf] rfl rfl six_cells (by intro u hu; simp at hu; rcases hu with rfl | rfl | rfl | rfl | rfl | rfl <;> rfl) (by unfold maxLen; omega) (by omega) (by have := HB4.out.size; simp; omega) (by decide) ?_; intro l' w5 hown5 hgrow5 hwh5)
         obtain ⟨ncs', hdn⟩ := HPu.out _ _ _ _ _ _ _ _ HB4.out HYL.out HYF.out hown5 hgrow5 hwh5
         have HDn : Hid _ := hdn
         obtain ⟨a9, c9, hl9⟩ := own_sh6 hown5
         subst hl9
         have hO5 := HTh.out _ _ _ HB4.out hgrow5
         obtain ⟨y0, y1, y2, y3, y4, y5⟩ := row_six hO5
         obtain ⟨q0, q1, q2, q3, q4, q5⟩ := row_six_z hO5
         have hK5 : KcB w0.heap.size wr w5 := HGw.out _ _ _ HB4.out hgrow5
         clear hown5 hgrow5 hwh5 hO5 hdn
         refine hK.out _ _ hK5 (fun hH4 => ?_)
         (try simp only [Act.put, List.setIfInBounds_toArray, List.set_cons_zero, List.set_cons_succ])
         refine wpAnyH_take (i := 20) (oi := { dst := some 98, op := Go.Op.fieldAddr 56 (Go.Operand.tmp 9) 3, type := 0, pos := "data.go:365", after := #[{ on := 0, ground := Go.Ground.phase }, { on := 1, ground := Go.Ground.phase }, { on := 2, ground := Go.Ground.phase }, { on := 3, ground := Go.Ground.phase }, { on := 4, ground := Go.Ground.phase }, { on := 5, ground := Go.Ground.phase }, { on := 6, ground := Go.Ground.phase }, { on := 7, ground := Go.Ground.phase }, { on := 8, ground := Go.Ground.phase }, { on := 9, ground := Go.Ground.phase }, { on := 10, ground := Go.Ground.phase }, { on := 11, ground := Go.Ground.phase }, { on := 12, ground := Go.Ground.phase }, { on := 13, ground := Go.Ground.phase }, { on := 14, ground := Go.Ground.phase }, { on := 15, ground := Go.Ground.phase }, { on := 16, ground := Go.Ground.phase }, { on := 17, ground := Go.Ground.phase }, { on := 18, ground := Go.Ground.phase }, { on := 19, ground := Go.Ground.phase }], guard := none }) (v := .pointer (some ⟨w0.heap.size, 5, none⟩)) rfl (by kernel_rfl) (by kernel_rfl) (by kernel_rfl) (fun _ _ _ h => h) (Or.inl ⟨by rfl, (by intro w hSw; go_simp; done)⟩) hH4 ?_
         (try simp only [Act.put, List.setIfInBounds_toArray, List.set_cons_zero, List.set_cons_succ])
         refine wpAnyH_ready (rs := [21]) (by kernel_rfl) (by simp) ?_
         refine AllReadyH.cons (o := { dst := none, op := Go.Op.store 26 (Go.Operand.tmp 98) (Go.Operand.tmp 97), type := 0, pos := "data.go:365", after := #[{ on := 20, ground := Go.Ground.data }, { on := 19, ground := Go.Ground.data }, { on := 19, ground := Go.Ground.chain }, { on := 0, ground := Go.Ground.phase }, { on := 1, ground := Go.Ground.phase }, { on := 2, ground := Go.Ground.phase }, { on := 3, ground := Go.Ground.phase }, { on := 4, ground := Go.Ground.phase }, { on := 5, ground := Go.Ground.phase }, { on := 6, ground := Go.Ground.phase }, { on := 7, ground := Go.Ground.phase }, { on := 8, ground := Go.Ground.phase }, { on := 9, ground := Go.Ground.phase }, { on := 10, ground := Go.Ground.phase }, { on := 11, ground := Go.Ground.phase }, { on := 12, ground := Go.Ground.phase }, { on := 13, ground := Go.Ground.phase }, { on := 14, ground := Go.Ground.phase }, { on := 15, ground := Go.Ground.phase }, { on := 16, ground := Go.Ground.phase }, { on := 17, ground := Go.Ground.phase }, { on := 18, ground := Go.Ground.phase }, { on := 19, ground := Go.Ground.phase }], guard := none }) rfl (fun K hK => ?_) AllReadyH.nil
         go_simp
         refine hK.out _ _ (KcB.put hK5 _) (fun hH5 => ?_)
         (try simp only [Act.put, List.setIfInBounds_toArray, List.set_cons_zero, List.set_cons_succ])
         refine wpAnyH_done (by kernel_rfl) ?_ _
         go_wp2
         go_roundw
         case rel => exact ⟨i + 1, _, _, hlti, by go_num, HDn⟩
         case measure => simp [intOf]; omega
       · have q5 : (t.sub[i].id == p.sub[k].id) = false := by
           have h := mt (HUq.out i hlti).1 hie
           simp [h]
         have HCs : Hid (CuK false w0.heap.size w1 (cutF (p.sub.take (if ix < i + 1 then k + 1 else k)) t d) wr l ncs) := by
          have h := HC.out
          have e : (if ix < i + 1 then k + 1 else k) = (if ix < i then k + 1 else k) := by
           by_cases h5 : ix < i
           · rw [if_pos h5, if_pos (by omega)]
           · rw [if_neg h5, if_neg (by omega)]
          show CuK _ _ _ _ _ _ _
          rw [e]
          exact h
         clear HC hn5 hm5
         go_upto_region 16 with fail
         go_quiet (fail)
         go_wp2
         all_goals go_roundw
         case rel => exact ⟨i + 1, _, _, hlti, by go_num, HCs.out.keep (below_dN (Below.refl _ _) _)⟩
         case measure => simp [intOf]; omega
     · obtain rfl : i = t.sub.length := by omega
       have HCe : Hid (CuK false w0.heap.size w1 (cutF (p.sub.take (k + 1)) t d) wr l ncs) := by
        have h := HC.out
        rw [if_pos h1] at h
        exact h
       clear HC
       go_wp2
       go_roundw
       case rel => exact ⟨k + 1, _, _, hlt, by go_num, HCe⟩
       case measure => simp [intOf]; omega
  · obtain rfl : k = p.sub.length := by omega
    obtain ⟨ra, rc, hlv⟩ := HC.out.shape
    rw [hfl] at hlv
    subst hlv
    have HLe : Hid (LiesD wr (fun b => w0.heap.size ≤ b) ra (cutF p.sub t d)) := (by
     have h := HC.out
     rw [List.take_length] at h
     rw [← cutF_len p.sub t d] at h
     exact h.lies.stay (fun b h _ => by omega) (fun _ _ _ => rfl))
    obtain ⟨o0, o1, o2, o3, o4, o5⟩ := row_six HC.out.out
    obtain ⟨s0, s1, s2, s3, s4, s5⟩ := row_six HR2.out
    obtain ⟨f0, f1, f2, f3, f4, f5⟩ := row_six_z HR2.out
    go_wp2
    refine bodyPost_ret (v := .agg #[.bool false, .int .i64 0, .int .i64 0, .string ⟨#[]⟩, .slice none 0 0, .slice ra p.sub.length rc]) (results_cell_row Tryz.results21 _ _ (W.heap.size + 1 + 1 + 1) 56 #[.bool false, .int .i64 0, .int .i64 0, .string ⟨#[]⟩, .slice none 0 0, .slice ra p.sub.length rc] (0, 0) _ rfl (row_setCell (row_setCell (row_setCell (row_setCell (row_setCell (row_setCell HR2.out _) _) _) _) _) _) Tryz.underlying56 rfl (by kernel_rfl)) rfl ⟨⟨none, 0, ra, rc, ?_, ?_, ?_⟩, ?_⟩
    · show _ = Ending.returned (.agg #[.bool false, .int .i64 0, .int .i64 0, .string ⟨#[]⟩, .slice none 0 0, .slice ra (cutF p.sub t d).length rc])
      rw [cutF_len]
    · exact liesD_none _ _
    · have hz := HSz.out
      have fr : ∀ b, w0.heap.size ≤ b → b ≠ W.heap.size + 1 + 1 + 1 := fun b h => by omega
      exact ((((((HLe.out.off fr).off fr).off fr).off fr).off fr).off fr).stay (fun b h _ => by omega) (fun _ _ _ => rfl)
    · exact (((((HBr.out.setCell (by simp; omega) _).setCell (by simp; omega) _).setCell (by simp; omega) _).setCell (by simp; omega) _).setCell (by simp; omega) _).setCell (by simp; omega) _
theorem cutOf_group (p t : Tr) (one : Bool) (d : Dt) (hk : t.kind = 0) (hno : d.no = false) (h3 : ¬ (t.rep = 3 ∧ one = false)) (he : cfT p t one d = .mk false zV [] (cutF p.sub t d)) (hpl : p.sub.length ≤ 1048576) (htl : t.sub.length ≤ 1048576)
    (hx : ∀ k (h : k < p.sub.length), ∃ ix, ∃ h1 : ix < t.sub.length, ∃ h2 : ix < d.f.length, ixO t.sub p.sub[k].id = ix ∧ (∀ i (hi : i < t.sub.length), t.sub[i].id = p.sub[k].id ↔ i = ix) ∧ CfP p.sub[k] t.sub[ix] false d.f[ix]) : CfP p t one d := by
 by_cases hr : t.rep = 3
 · cases one with
   | true => exact cutOf_group3 p t d hk hno hr he hpl htl hx
   | false => exact absurd ⟨hr, rfl⟩ h3
 · exact cutOf_group0 p t one d hk hno hr he hpl htl hx
end Go.Proofs.YteonbmaokphleaaGreatDoor
