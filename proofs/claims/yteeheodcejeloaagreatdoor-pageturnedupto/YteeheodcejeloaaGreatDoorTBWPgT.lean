/-
  The walk of the law PageTurned.
  PageTurned, for whatever leaf, column and number.
-/
import Derived.Test.YteeheodcejeloaaGreatDoorTBPgD
import Derived.Test.YteeheodcejeloaaGreatDoorTBColS
import Derived.Test.YteeheodcejeloaaGreatDoorTBColO
import Derived.Test.YteeheodcejeloaaGreatDoorTBRpI
import Derived.Test.YteeheodcejeloaaGreatDoorTBRsC
import Derived.Test.YteeheodcejeloaaGreatDoorTTRow
namespace Go.Proofs.YteeheodcejeloaaGreatDoor
open Go.RowKit
set_option maxRecDepth 100000 in
set_option maxHeartbeats 12800000 in
theorem pageTurned_walk (lid kind mr md : Int) (pa : Option Addr) (pc : Nat) (ps : List Int) (c : Cl) (pos : Int) (W : World) (tt bt st kt ut : TypeId) (tp bp sp kp up : Value) (hE : Er5 W tt bt st kt ut tp bp sp kp up) (hp : Lies W pa (i64s ps)) (hat : c.At W) (hin : ∀ v ∈ c.vs, v.In) (hcb : c.bulk ≤ 1048576) (hpl : pos ≤ 9223372036854775807) :
    Calls Tryz.prog 5 #[.agg #[.int .i64 lid, .int .i64 kind, .int .i64 mr, .int .i64 md, .slice pa ps.length pc], .agg #[.int .i64 c.id, .slice c.ra c.rs.length c.rc, .slice c.da c.ds.length c.dc, .slice c.va c.vs.length c.vc], .int .i64 pos] W fun e w' => e = .returned (.bool true) ∧ Below W.heap.size W w' := by
  obtain ⟨pn, hpn⟩ : ∃ pn, ps.length = pn := ⟨_, rfl⟩
  have HPN : Hid _ := hpn
  rw [hpn]
  clear hpn
  obtain ⟨us, qs, hu⟩ := Uq.ex c.vs.length c.vs rfl
  have HUq : Hid (Uq c.vs us qs) := hu
  obtain ⟨w0, HW0, HX, HY, HB⟩ := two_boxes W #[.int .i64 lid, .int .i64 kind, .int .i64 mr, .int .i64 md, .slice pa pn pc] #[.int .i64 c.id, .slice c.ra c.rs.length c.rc, .slice c.da c.ds.length c.dc, .slice c.va c.vs.length c.vc] 24 29
  have HI0 : Hid (LsI W lid kind mr md pa pn pc c w0) := ⟨HX.out, HY.out, HB.out⟩
  have HA0 : Hid (∀ X, Below W.heap.size W X → Er5 X tt bt st kt ut tp bp sp kp up) := fun X hX => hE.keep hX
  have HP : Hid (∀ X, Below W.heap.size W X → Lies X pa (i64s ps)) := fun X hX => hp.keep hX
  have HAT : Hid (∀ X, Below W.heap.size W X → c.At X) := fun X hX => hat.keep hX
  have HIN : Hid (∀ v ∈ c.vs, v.In) := hin
  clear HX HY HB hE hp hat hin hu
  go_enter Tryz.func5, Tryz.ntmps5
  go_wp2_with fail
  rw [HW0.out]
  clear HW0
  have hE0 := HA0.out _ HI0.out.old
  refine (byte80_any w0 _ _ _ _ _ _ hE0.k hE0.s hE0.b).mono ?_
  clear hE0
  rintro e w1 ⟨rfl, hb1⟩
  have HI1 : Hid (LsI W lid kind mr md pa pn pc c w1) := HI0.out.keep hb1
  clear HI0 hb1
  obtain ⟨⟨p0, p1, p2, p3, p4⟩, _⟩ := row_five HI1.out.lf
  obtain ⟨k0, k1, k2, k3⟩ := row_four HI1.out.co
  go_wp2_with fail
  refine (slim3_any lid kind mr md pa pn pc c hcb w1 (HAT.out _ HI1.out.old)).mono ?_
  obtain ⟨b, HBo⟩ : ∃ b, Hid (slimB c pn = b) := ⟨_, rfl⟩
  rw [HBo.out]
  rintro e w2 ⟨rfl, hb2⟩
  have HI2 : Hid (LsI W lid kind mr md pa pn pc c w2) := HI1.out.keep hb2
  clear HI1 hb2 p0 p1 p2 p3 p4 k0 k1 k2 k3
  obtain ⟨⟨p0, p1, p2, p3, p4⟩, _⟩ := row_five HI2.out.lf
  obtain ⟨k0, k1, k2, k3⟩ := row_four HI2.out.co
  cases b
  · go_wp2
    go_ret
    exact ⟨rfl, HI2.out.old⟩
  have hsl : c.bulk ≤ 2000 ∧ pn ≤ 100 := by have h := HBo.out; unfold slimB at h; simpa using h
  have hsv := sumV_len c.vs
  have hbk : c.rs.length + c.ds.length + c.vs.length ≤ 2000 := by have := hsl.1; unfold Cl.bulk at this; omega
  have hpn : pn ≤ 100 := hsl.2
  clear hsl hsv hcb HBo
  go_wp2_with fail
  refine Calls.mono (rightL_any lid kind mr md pa pn pc w2) ?_
  rintro e wz ⟨⟨b, rfl⟩, hbr⟩
  have HI3 : Hid (LsI W lid kind mr md pa pn pc c wz) := HI2.out.keep hbr
  clear HI2 hbr p0 p1 p2 p3 p4 k0 k1 k2 k3
  obtain ⟨⟨p0, p1, p2, p3, p4⟩, _⟩ := row_five HI3.out.lf
  obtain ⟨k0, k1, k2, k3⟩ := row_four HI3.out.co
  cases b
  · go_wp2
    go_ret
    exact ⟨rfl, HI3.out.old⟩
  by_cases hneg : pos < 0
  · have q1 : decide (pos < 0) = true := decide_eq_true hneg
    clear hneg
    go_wp2
    go_ret
    exact ⟨rfl, HI3.out.old⟩
  have q1 : decide (pos < 0) = false := decide_eq_false hneg
  obtain ⟨a, rfl⟩ := Int.eq_ofNat_of_zero_le (by omega : 0 ≤ pos)
  clear hneg
  go_upto_region 4 with fail
  go_cut [8, 9] (fun x y wx => ∃ t : List UInt8, x = .string ⟨t.toArray⟩ ∧ Hid (Below wz.heap.size wz wx) ∧ Hid (WrT lid kind mr md c us qs t y))
  case first =>
    have b0 : Below wz.heap.size wz wz := Below.refl _ _
    have HN : Hid (∀ X, Below wz.heap.size wz X → (X.cell? ⟨W.heap.size, 0, none⟩ = some (.int .i64 lid) ∧ X.cell? ⟨W.heap.size, 1, none⟩ = some (.int .i64 kind) ∧ X.cell? ⟨W.heap.size, 2, none⟩ = some (.int .i64 mr) ∧ X.cell? ⟨W.heap.size, 3, none⟩ = some (.int .i64 md) ∧ X.cell? ⟨W.heap.size, 4, none⟩ = some (.slice pa pn pc)) ∧ (X.cell? ⟨W.heap.size + 1, 0, none⟩ = some (.int .i64 c.id) ∧ X.cell? ⟨W.heap.size + 1, 1, none⟩ = some (.slice c.ra c.rs.length c.rc) ∧ X.cell? ⟨W.heap.size + 1, 2, none⟩ = some (.slice c.da c.ds.length c.dc) ∧ X.cell? ⟨W.heap.size + 1, 3, none⟩ = some (.slice c.va c.vs.length c.vc)) ∧ Below wz.heap.size wz X) := fun X hX => ⟨(row_five (blk_keep hX HI3.out.lf)).1, row_four (blk_keep hX HI3.out.co), hX⟩
    have HO1 : Hid (∀ X, Below wz.heap.size wz X → Calls Tryz.prog 9 #[.agg #[.int .i64 lid, .int .i64 kind, .int .i64 mr, .int .i64 md, .slice pa pn pc]] X fun e w' => (∃ pa' pc', e = .returned (.agg #[.int .i64 lid, .int .i64 kind, .int .i64 mr, .int .i64 md, .slice pa' pn pc'])) ∧ Below wz.heap.size wz w' ∧ Below X.heap.size X w') := fun X hX => (by
      have h := ownLeaf_any lid kind mr md pa pc ps X (by rw [HPN.out]; omega) (HP.out _ (HI3.out.keep hX).old)
      rw [HPN.out] at h
      exact h.mono fun e w' h => ⟨(by obtain ⟨⟨pa', pc', h1, _⟩, _⟩ := h; exact ⟨pa', pc', h1⟩), bel_next hX (Nat.le_refl _) h.2, h.2⟩)
    have HO2 : Hid (∀ X, Below wz.heap.size wz X → Calls Tryz.prog 18 #[.agg #[.int .i64 c.id, .slice c.ra c.rs.length c.rc, .slice c.da c.ds.length c.dc, .slice c.va c.vs.length c.vc]] X fun e w' => (∃ k0 : Cl, e = .returned (.agg #[.int .i64 k0.id, .slice k0.ra k0.rs.length k0.rc, .slice k0.da k0.ds.length k0.dc, .slice k0.va k0.vs.length k0.vc]) ∧ k0.At w' ∧ SameC c k0) ∧ Below wz.heap.size wz w' ∧ Below X.heap.size X w') := fun X hX => (ownColumn_cl c X (by omega) (by omega) (by omega) (HAT.out _ (HI3.out.keep hX).old)).mono fun e w' h => ⟨(by obtain ⟨⟨k, h1, h2, _, h3⟩, _⟩ := h; exact ⟨k, h1, h2, h3⟩), bel_next hX (Nat.le_refl _) h.2, h.2⟩
    have HO3 : Hid (∀ X (k0 : Cl) pa' pc', Below wz.heap.size wz X → k0.At X → SameC c k0 → Calls Tryz.prog 17 #[.agg #[.int .i64 lid, .int .i64 kind, .int .i64 mr, .int .i64 md, .slice pa' pn pc'], .agg #[.int .i64 k0.id, .slice k0.ra k0.rs.length k0.rc, .slice k0.da k0.ds.length k0.dc, .slice k0.va k0.vs.length k0.vc]] X fun e w' => (∃ (t : List UInt8) (ev : Value), e = .returned (.tuple #[.string ⟨t.toArray⟩, ev]) ∧ WrT lid kind mr md c us qs t ev) ∧ Below wz.heap.size wz w') := fun X k0 pa' pc' hX ka ks => (by
      have hEX := HA0.out _ (HI3.out.keep hX).old
      refine (pgWrite_any lid kind mr md pa' pn pc' k0 us qs (by rw [ks.vs]; exact HUq.out) (by rw [ks.rs, ks.ds, ks.vs]; exact hbk) ks.cap.1 ks.cap.2.1 ks.cap.2.2 (by rw [ks.vs]; exact HIN.out) X _ _ _ _ _ _ hEX.k hEX.s hEX.b ka).mono fun e w' h => ⟨?_, bel_next hX (Nat.le_refl _) h.2⟩
      obtain ⟨⟨t, ev, h1, h2⟩, _⟩ := h
      exact ⟨t, ev, h1, .of (h2.sameP ks)⟩)
    go_region_held3 (fun X => (X.cell? ⟨W.heap.size, 0, none⟩ = some (.int .i64 lid) ∧ X.cell? ⟨W.heap.size, 1, none⟩ = some (.int .i64 kind) ∧ X.cell? ⟨W.heap.size, 2, none⟩ = some (.int .i64 mr) ∧ X.cell? ⟨W.heap.size, 3, none⟩ = some (.int .i64 md) ∧ X.cell? ⟨W.heap.size, 4, none⟩ = some (.slice pa pn pc)) ∧ (X.cell? ⟨W.heap.size + 1, 0, none⟩ = some (.int .i64 c.id) ∧ X.cell? ⟨W.heap.size + 1, 1, none⟩ = some (.slice c.ra c.rs.length c.rc) ∧ X.cell? ⟨W.heap.size + 1, 2, none⟩ = some (.slice c.da c.ds.length c.dc) ∧ X.cell? ⟨W.heap.size + 1, 3, none⟩ = some (.slice c.va c.vs.length c.vc)) ∧ Below wz.heap.size wz X) (with_reducible refine HN.out _ ?_; repeat' (first | with_reducible assumption | with_reducible exact b0.drew | with_reducible exact b0 | with_reducible refine Below.drew ?_ | with_reducible exact Nat.le_refl _ | with_reducible refine Below.setCell ?_ ?_ _ | with_reducible refine Below.alloc ?_ ?_ _ | with_reducible exact Below.size (by assumption) | (simp; done) | (simp; omega) | omega)) (first
      | (go_at_call 9; (with_reducible refine Calls.mono (HO1.out _ ?_) ?_); (repeat' (first | with_reducible assumption | with_reducible exact b0.drew | with_reducible exact b0 | with_reducible refine Below.drew ?_ | with_reducible refine Below.alloc ?_ ?_ _ | with_reducible exact Below.size (by assumption) | with_reducible exact Nat.le_refl _ | (simp; done) | (simp; omega))); rintro e x1 ⟨⟨pa', pc', rfl⟩, hbx1, hraw1⟩; (first | (have HK1 : Hid (k0.At x1) := Cl.At.keep (Hid.out HK0) hraw1; clear HK0; have HK0 : Hid (k0.At x1) := HK1; clear HK1) | skip))
      | (go_at_call 18; (with_reducible refine Calls.mono (HO2.out _ ?_) ?_); (repeat' (first | with_reducible assumption | with_reducible exact b0.drew | with_reducible exact b0 | with_reducible refine Below.drew ?_ | with_reducible refine Below.alloc ?_ ?_ _ | with_reducible exact Below.size (by assumption) | with_reducible exact Nat.le_refl _ | (simp; done) | (simp; omega))); rintro e x2 ⟨⟨k0, rfl, ka0, ks0⟩, hbx2, hraw2⟩; have HK0 : Hid (k0.At x2) := ka0; have HKS0 : Hid _ := ks0; clear ka0 ks0)
      | (go_at_call 17; (with_reducible refine Calls.mono (HO3.out _ k0 pa' pc' ?_ ?_ ?_) ?_); (repeat' (first | with_reducible assumption | with_reducible exact b0.drew | with_reducible exact b0 | with_reducible refine Below.drew ?_ | with_reducible refine Below.alloc ?_ ?_ _ | with_reducible exact Below.size (by assumption) | with_reducible exact Nat.le_refl _ | (simp; done) | (simp; omega))); (first | exact HK0.out | exact HK0.out.keep ((Below.refl _ _).drew)); exact HKS0.out; rintro e x3 ⟨⟨t, ev, rfl, hor⟩, hbx3⟩; have HOR : Hid (WrT lid kind mr md c us qs t ev) := hor; have HBX3 : Hid (Below wz.heap.size wz x3) := hbx3; clear hor))
    all_goals
      go_wp2_with fail
      go_meet
      exact ⟨t, rfl, HBX3, HOR⟩
  case rest =>
    obtain ⟨t, rfl, HBw, HBR⟩ := hcut
    rename World => wx
    rename Value => ev
    have HI : Hid (LsI W lid kind mr md pa pn pc c wx) := HI3.out.keep HBw.out
    clear HI3 HBw p0 p1 p2 p3 p4 k0 k1 k2 k3 q1
    rcases HBR.out with ⟨et, ep, rfl⟩ | ⟨rfl, hg, hr, rfl⟩
    · clear HBR
      go_wp2
      go_ret
      exact ⟨rfl, HI.out.old⟩
    have hbl := bodyW_len (us := us) (ps := qs) hg HIN.out hbk
    clear HBR hg hr
    generalize bodyW kind mr md c us qs = bd at hbl ⊢
    have hpl2 := pgB_len bd
    have hul := Um.uv_ten (n := bd.length) (by omega)
    obtain ⟨s, HS⟩ : ∃ s, Hid (pgB bd = s) := ⟨_, rfl⟩
    rw [HS.out] at hpl2
    rw [HS.out]
    have hs3 : s.length ≤ 300000 := by omega
    clear hpl2 hul
    have hsz : (⟨s.toArray⟩ : ByteArray).size = s.length := by simp [ByteArray.size]
    by_cases hle : s.length ≤ a / 8
    · have q3 : decide ((s.length : Int) ≤ (a : Int) / 8) = true := by simp; omega
      clear hle
      go_wp2
      go_ret
      exact ⟨rfl, HI.out.old⟩
    have q3 : decide ((s.length : Int) ≤ (a : Int) / 8) = false := by simp; omega
    have hjl : a / 8 < s.length := by omega
    clear hle
    have hcv := run_bytes_of_string (P := Tryz.prog) wx 9 58 5 ⟨s.toArray⟩ Tryz.underlying9 Tryz.underlying58 Tryz.underlying5
    rw [hsz] at hcv
    generalize grownCap wx s.length 0 5 = cp at hcv
    have HR0 : Hid (TRow s wx.heap.size wx (wx.alloc (.cells (bytesRow ⟨s.toArray⟩ cp) 5 ((bytesRow ⟨s.toArray⟩ cp).size, (bytesRow ⟨s.toArray⟩ cp).size + 1))).drew) := TRow.start s cp wx
    go_upto_region 8 with fail
    generalize (wx.alloc (.cells (bytesRow ⟨s.toArray⟩ cp) 5 ((bytesRow ⟨s.toArray⟩ cp).size, (bytesRow ⟨s.toArray⟩ cp).size + 1))).drew = wb at HR0 ⊢
    clear hcv
    have hc := HR0.out.cell (a / 8) hjl
    have hf := HR0.out.froz (a / 8) hjl
    have hjd : ((a / 8 : Nat) : Int) < (s.length : Int) := by omega
    have hjd2 : (a : Int) / 8 < (s.length : Int) := by omega
    obtain ⟨x, hx, hxb⟩ := turn_byte s[a / 8] (a % 8) (by omega)
    go_cut [] (fun wy => Hid (TRow (s.set (a / 8) x) wx.heap.size wx wy))
    case first =>
      go_region
      all_goals
        go_wp2_with fail
        go_meet
        rw [← hx]
        exact (HR0.out.turn (Nat.le_refl _) hjl x).drew
    case rest =>
      rename World => wy
      have HRw : Hid (TRow (s.set (a / 8) x) wx.heap.size wx wy) := hcut
      have HI4 : Hid (LsI W lid kind mr md pa pn pc c wy) := HI.out.keep HRw.out.old
      have HTN : Hid (∀ n k, PgOk ⟨(s.set (a / 8) x).toArray⟩ n k → k + 5 + n ≠ s.length) := fun n k h hu => (by
        have hS := HS.out
        subst hS
        exact turned_none (by omega) hjl (by omega) hx h.1 h.2 hu)
      have hln : (s.set (a / 8) x).length = s.length := List.length_set ..
      clear hcut hc hf hjd hjd2 hx hxb HR0 HI HS
      generalize s.set (a / 8) x = t' at *
      go_upto_region 9 with fail
      go_cut [11, 12, 9] (fun p u y wv => ∃ g : Nat, p = .pointer (some ⟨g, 0, none⟩) ∧ Hid (Below wy.heap.size wy wv) ∧ ∃ x : Cl, Hid (wv.heap[g]? = some (.cells #[.int .i64 x.id, .slice x.ra x.rs.length x.rc, .slice x.da x.ds.length x.dc, .slice x.va x.vs.length x.vc] 29 (0, 0))) ∧ ((u = .int .i64 0 ∧ (∃ et ep, y = .iface et ep) ∧ x.rs.length = 0) ∨ (∃ m : Nat, u = .int .i64 (m : Nat) ∧ y = .nilIface ∧ m ≠ s.length)))
      case first =>
        have b0 : Below wy.heap.size wy wy := Below.refl _ _
        have HN : Hid (∀ X, Below wy.heap.size wy X → (X.cell? ⟨W.heap.size, 0, none⟩ = some (.int .i64 lid) ∧ X.cell? ⟨W.heap.size, 1, none⟩ = some (.int .i64 kind) ∧ X.cell? ⟨W.heap.size, 2, none⟩ = some (.int .i64 mr) ∧ X.cell? ⟨W.heap.size, 3, none⟩ = some (.int .i64 md) ∧ X.cell? ⟨W.heap.size, 4, none⟩ = some (.slice pa pn pc)) ∧ (convert 58 9 (.slice (some ⟨wx.heap.size, 0, none⟩) s.length cp)).run Tryz.prog X = .ok (.string ⟨t'.toArray⟩) X ∧ Below wy.heap.size wy X) := fun X hX => ⟨(row_five (blk_keep hX HI4.out.lf)).1, (HRw.out.keep hX).conv hln, hX⟩
        have HO1 : Hid (∀ X, Below wy.heap.size wy X → Calls Tryz.prog 9 #[.agg #[.int .i64 lid, .int .i64 kind, .int .i64 mr, .int .i64 md, .slice pa pn pc]] X fun e w' => (∃ pa' pc', e = .returned (.agg #[.int .i64 lid, .int .i64 kind, .int .i64 mr, .int .i64 md, .slice pa' pn pc'])) ∧ Below wy.heap.size wy w' ∧ Below X.heap.size X w') := fun X hX => (by
      have h := ownLeaf_any lid kind mr md pa pc ps X (by rw [HPN.out]; omega) (HP.out _ (HI4.out.keep hX).old)
      rw [HPN.out] at h
      exact h.mono fun e w' h => ⟨(by obtain ⟨⟨pa', pc', h1, _⟩, _⟩ := h; exact ⟨pa', pc', h1⟩), bel_next hX (Nat.le_refl _) h.2, h.2⟩)
        have HO3 : Hid (∀ X pa' pc', Below wy.heap.size wy X → Calls Tryz.prog 8 #[.agg #[.int .i64 lid, .int .i64 kind, .int .i64 mr, .int .i64 md, .slice pa' pn pc'], .string ⟨t'.toArray⟩] X fun e w' => (∃ (x : Cl) (u y : Value), e = .returned (.tuple #[.agg #[.int .i64 x.id, .slice x.ra x.rs.length x.rc, .slice x.da x.ds.length x.dc, .slice x.va x.vs.length x.vc], u, y]) ∧ ((u = .int .i64 0 ∧ (∃ et ep, y = .iface et ep) ∧ x.rs.length = 0) ∨ (∃ m : Nat, u = .int .i64 (m : Nat) ∧ y = .nilIface ∧ m ≠ s.length))) ∧ Below wy.heap.size wy w' ∧ Below X.heap.size X w') := fun X pa' pc' hX => (by
          have hEX := HA0.out _ (HI4.out.keep hX).old
          refine (pgRead_any lid kind mr md pa' pn pc' ⟨t'.toArray⟩ (by show t'.toArray.size ≤ _; simp; omega) X _ _ _ _ _ _ _ _ _ _ hEX.s hEX.k hEX.b hEX.t hEX.u).mono fun e w' h => ⟨?_, bel_next hX (Nat.le_refl _) h.2, h.2⟩
          rcases h.1 with ⟨ev, h1, rfl⟩ | ⟨_, n, k, hok, ⟨p, d, x, _, _, _, _, rfl, _⟩ | ⟨_, rfl⟩⟩
          · exact ⟨⟨0, none, [], 0, none, [], 0, none, [], 0⟩, _, _, rfl, .inl ⟨rfl, noPg_iface h1, rfl⟩⟩
          · exact ⟨x, _, _, rfl, .inr ⟨_, rfl, rfl, HTN.out n k hok⟩⟩
          · exact ⟨⟨0, none, [], 0, none, [], 0, none, [], 0⟩, _, _, rfl, .inl ⟨rfl, ⟨_, _, rfl⟩, rfl⟩⟩)
        go_region_held3 (fun X => (X.cell? ⟨W.heap.size, 0, none⟩ = some (.int .i64 lid) ∧ X.cell? ⟨W.heap.size, 1, none⟩ = some (.int .i64 kind) ∧ X.cell? ⟨W.heap.size, 2, none⟩ = some (.int .i64 mr) ∧ X.cell? ⟨W.heap.size, 3, none⟩ = some (.int .i64 md) ∧ X.cell? ⟨W.heap.size, 4, none⟩ = some (.slice pa pn pc)) ∧ (convert 58 9 (.slice (some ⟨wx.heap.size, 0, none⟩) s.length cp)).run Tryz.prog X = .ok (.string ⟨t'.toArray⟩) X ∧ Below wy.heap.size wy X) (with_reducible refine HN.out _ ?_; repeat' (first | with_reducible assumption | with_reducible exact b0.drew | with_reducible exact b0 | with_reducible refine Below.drew ?_ | with_reducible exact Nat.le_refl _ | with_reducible refine Below.setCell ?_ ?_ _ | with_reducible refine Below.alloc ?_ ?_ _ | with_reducible exact Below.size (by assumption) | (simp; done) | (simp; omega) | omega)) (first
          | (go_at_call 9; (with_reducible refine Calls.mono (HO1.out _ ?_) ?_); (repeat' (first | with_reducible assumption | with_reducible exact b0.drew | with_reducible exact b0 | with_reducible refine Below.drew ?_ | with_reducible refine Below.alloc ?_ ?_ _ | with_reducible exact Below.size (by assumption) | with_reducible exact Nat.le_refl _ | (simp; done) | (simp; omega))); rintro e x1 ⟨⟨pa', pc', rfl⟩, hbx1, hraw1⟩; (first | (have hzz := blk_keep hraw1 hzz0; clear hzz0; have hzz0 := hzz; clear hzz) | (have hzz0 := blk_keep hraw1 (blk_drew (heap_alloc_new _ (.cells #[.int .i64 0, .slice none 0 0, .slice none 0 0, .slice none 0 0] 29)))) | (have hzz0 := blk_keep hraw1 (heap_alloc_new _ (.cells #[.int .i64 0, .slice none 0 0, .slice none 0 0, .slice none 0 0] 29))) | skip))
          | (go_at_call 8; (with_reducible refine Calls.mono (HO3.out _ pa' pc' ?_) ?_); (repeat' (first | with_reducible assumption | with_reducible exact b0.drew | with_reducible exact b0 | with_reducible refine Below.drew ?_ | with_reducible refine Below.alloc ?_ ?_ _ | with_reducible exact Below.size (by assumption) | with_reducible exact Nat.le_refl _ | (simp; done) | (simp; omega))); rintro e x3 ⟨⟨⟨xid, xra, xrs, xrc, xda, xds, xdc, xva, xvs, xvc⟩, u, y, rfl, hor⟩, hbx3, hraw3⟩; have HOR : Hid _ := hor; have HBX3 : Hid _ := hbx3; clear hor; (first | (have hzz := blk_keep hraw3 hzz0; clear hzz0; have hzz0 := hzz; clear hzz) | (have hzz0 := blk_keep hraw3 (blk_drew (heap_alloc_new _ (.cells #[.int .i64 0, .slice none 0 0, .slice none 0 0, .slice none 0 0] 29)))) | (have hzz0 := blk_keep hraw3 (heap_alloc_new _ (.cells #[.int .i64 0, .slice none 0 0, .slice none 0 0, .slice none 0 0] 29))) | skip); (first | (obtain ⟨z0, z1, z2, z3⟩ := row_four hzz0; obtain ⟨z4, z5, z6, z7⟩ := row_fourA hzz0; have HZZ : Hid _ := hzz0; clear hzz0) | skip)))
        · go_wp2_with fail
          go_meet
          exact ⟨x3.heap.size, rfl, HBX3.out.alloc HBX3.out.size _, ⟨xid, xra, xrs, xrc, xda, xds, xdc, xva, xvs, xvc⟩, heap_alloc_new _ _, HOR.out⟩
        all_goals
          go_wp2_with fail
          go_meet
          exact ⟨_, rfl, (((HBX3.out.setCell (by first | exact Nat.le_refl _ | exact Below.size (by assumption)) _).setCell (by first | exact Nat.le_refl _ | exact Below.size (by assumption)) _).setCell (by first | exact Nat.le_refl _ | exact Below.size (by assumption)) _).setCell (by first | exact Nat.le_refl _ | exact Below.size (by assumption)) _, ⟨xid, xra, xrs, xrc, xda, xds, xdc, xva, xvs, xvc⟩, row_setCell (row_setCell (row_setCell (row_setCell HZZ.out _) _) _) _, HOR.out⟩
      case rest =>
        obtain ⟨g, rfl, HBv, x, HXb, hor⟩ := hcut
        rename World => wv
        have HI5 : Hid (LsI W lid kind mr md pa pn pc c wv) := HI4.out.keep HBv.out
        obtain ⟨z0, z1, z2, z3⟩ := row_four HXb.out
        rcases hor with ⟨rfl, ⟨et, ep, rfl⟩, hx0⟩ | ⟨m, rfl, rfl, hm⟩
        · rw [hx0] at z1
          clear hx0
          go_wp2
          go_ret
          exact ⟨rfl, HI5.out.old⟩
        · have q4 : ((m : Int) != (s.length : Int)) = true := by simp; omega
          clear hm
          go_wp2
          go_ret
          exact ⟨rfl, HI5.out.old⟩
end Go.Proofs.YteeheodcejeloaaGreatDoor

namespace Go.Proofs.YteeheodcejeloaaGreatDoor
open Go.RowKit
theorem pageTurned_top {H : Type} (d0 d1 : DataW H) {b2 : Nat} (lid kind mr md : Int) (pa : Option Addr) (pc : Nat) (ps : List Int) (c : Cl) (pos : Int) (W : World) (hp : Lies W pa (i64s ps)) (hat : c.At W) (hin : ∀ v ∈ c.vs, v.In) (hcb : c.bulk ≤ Rows.uptoBulk d1) (hw : (Lit.int .i64 pos).wf = true) (bulk : Rows.uptoBulk d0 + (Rows.uptoBulk d1 + (b2 + 0)) ≤ 1048576) (hL : laidMetH Tryz.prog Rows.pageTurnedUptoRow.laid W) :
    Calls Tryz.prog 5 #[.agg #[.int .i64 lid, .int .i64 kind, .int .i64 mr, .int .i64 md, .slice pa ps.length pc], c.val, .int .i64 pos] W fun e w' => e = .returned (.bool true) ∧ Below W.heap.size W w' := by
  obtain ⟨tt, bt, st, kt, ut, tp, bp, sp, kp, up, hE⟩ := five_of hL
  exact pageTurned_walk lid kind mr md pa pc ps c pos W tt bt st kt ut tp bp sp kp up hE hp hat hin (by omega) (bounds_i64 hw).2
end Go.Proofs.YteeheodcejeloaaGreatDoor
