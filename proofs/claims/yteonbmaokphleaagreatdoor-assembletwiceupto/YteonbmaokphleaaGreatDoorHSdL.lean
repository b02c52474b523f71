/-
  The reference's SameDatum of one record in two places.
-/
import Derived.Test.YteonbmaokphleaaGreatDoorHBOwnDt
import Derived.Deep.RegionHeld3
import Derived.Deep.DeepCutAuto
namespace Go.Proofs.YteonbmaokphleaaGreatDoor
open Go.RowKit
def SdOK (d : Dt) : Prop := ∀ (P P' : Nat → Prop) (al : Option Addr) (cl : Nat) (af : Option Addr) (cf : Nat) (al' : Option Addr) (cl' : Nat) (af' : Option Addr) (cf' : Nat) (W : World), LiesD W P al d.l → LiesD W P af d.f → LiesD W P' al' d.l → LiesD W P' af' d.f →
 Calls Tryz.prog 20 #[datumV d al cl af cf, datumV d al' cl' af' cf'] W fun e w' => e = .returned (.bool true) ∧ Below W.heap.size W w'
set_option maxRecDepth 100000 in
set_option maxHeartbeats 6400000 in
theorem sl_of (ds : List Dt) (hlen : ds.length ≤ 1048576) (each : ∀ j (h : j < ds.length), SdOK ds[j]) (P P' : Nat → Prop) (a : Option Addr) (c : Nat) (a' : Option Addr) (c' : Nat) (W : World) (hl : LiesD W P a ds) (hl' : LiesD W P' a' ds) :
    Calls Tryz.prog 12 #[.slice a ds.length c, .slice a' ds.length c'] W fun e w' => e = .returned (.bool true) ∧ Below W.heap.size W w' := by
 have HL : Hid (LiesD W P a ds) := hl
 have HL' : Hid (LiesD W P' a' ds) := hl'
 have HT : Hid _ := each
 clear hl hl' each
 go_enter Tryz.func12, Tryz.ntmps12
 go_wp2_with fail
 go_loopw [5] (fun x wr => ∃ i : Nat, i ≤ ds.length ∧ x = .int .i64 i ∧ Hid (Below W.heap.size W wr)) (fun x _ => ds.length - (intOf x).toNat)
 case atStart => exact ⟨0, Nat.zero_le _, rfl, Below.refl _ _⟩
 case round =>
  obtain ⟨i, hik, rfl, HB⟩ := hrel
  by_cases hlt : i < ds.length
  · obtain ⟨b, o, a1, c1, a2, c2, rfl, ⟨d0, d1, d2, d3, d4, d5⟩, hl1, hl2⟩ := (HL.out.keep HB.out).at_ i hlt
    obtain ⟨b', o', a3, c3, a4, c4, rfl, ⟨e0, e1, e2, e3, e4, e5⟩, hl3, hl4⟩ := (HL'.out.keep HB.out).at_ i hlt
    have HC : Hid _ := HT.out i hlt P P' a1 c1 a2 c2 a3 c3 a4 c4 wr.drew (hl1.stay (fun _ h _ => h) (fun _ _ _ => rfl)) (hl2.stay (fun _ h _ => h) (fun _ _ _ => rfl)) (hl3.stay (fun _ h _ => h) (fun _ _ _ => rfl)) (hl4.stay (fun _ h _ => h) (fun _ _ _ => rfl))
    clear hl1 hl2 hl3 hl4
    obtain ⟨y, HYn⟩ := hid_name ds[i]
    rw [HYn.out] at HC d0 d1 d2 d3 d4 d5 e0 e1 e2 e3 e4 e5
    have b10 : Below wr.heap.size wr wr := Below.refl _ _
    have HN : Hid (∀ X, Below wr.heap.size wr X → (X.cell? ⟨b, o + i * 6, none⟩ = some (.bool y.no) ∧ X.cell? ⟨b, o + i * 6 + 1, none⟩ = some (.int .i64 y.v.k) ∧ X.cell? ⟨b, o + i * 6 + 2, none⟩ = some (.int .i64 y.v.n) ∧ X.cell? ⟨b, o + i * 6 + 3, none⟩ = some (.string y.v.s) ∧ X.cell? ⟨b, o + i * 6 + 4, none⟩ = some (.slice a1 y.l.length c1) ∧ X.cell? ⟨b, o + i * 6 + 5, none⟩ = some (.slice a2 y.f.length c2)) ∧ (X.cell? ⟨b', o' + i * 6, none⟩ = some (.bool y.no) ∧ X.cell? ⟨b', o' + i * 6 + 1, none⟩ = some (.int .i64 y.v.k) ∧ X.cell? ⟨b', o' + i * 6 + 2, none⟩ = some (.int .i64 y.v.n) ∧ X.cell? ⟨b', o' + i * 6 + 3, none⟩ = some (.string y.v.s) ∧ X.cell? ⟨b', o' + i * 6 + 4, none⟩ = some (.slice a3 y.l.length c3) ∧ X.cell? ⟨b', o' + i * 6 + 5, none⟩ = some (.slice a4 y.f.length c4)) ∧ Below wr.heap.size wr X) := fun X hX => (by
     have k : ∀ (ad : Addr) (v : Value), wr.cell? ad = some v → X.cell? ad = some v := fun ad v h => (hX.cell (World.block_lt_of_cell? wr _ h)).trans h
     exact ⟨⟨k _ _ d0, k _ _ d1, k _ _ d2, k _ _ d3, k _ _ d4, k _ _ d5⟩, ⟨k _ _ e0, k _ _ e1, k _ _ e2, k _ _ e3, k _ _ e4, k _ _ e5⟩, hX⟩)
    unfold datumV at HC
    go_upto_region 6 with fail
    go_region_held3 (fun X => (X.cell? ⟨b, o + i * 6, none⟩ = some (.bool y.no) ∧ X.cell? ⟨b, o + i * 6 + 1, none⟩ = some (.int .i64 y.v.k) ∧ X.cell? ⟨b, o + i * 6 + 2, none⟩ = some (.int .i64 y.v.n) ∧ X.cell? ⟨b, o + i * 6 + 3, none⟩ = some (.string y.v.s) ∧ X.cell? ⟨b, o + i * 6 + 4, none⟩ = some (.slice a1 y.l.length c1) ∧ X.cell? ⟨b, o + i * 6 + 5, none⟩ = some (.slice a2 y.f.length c2)) ∧ (X.cell? ⟨b', o' + i * 6, none⟩ = some (.bool y.no) ∧ X.cell? ⟨b', o' + i * 6 + 1, none⟩ = some (.int .i64 y.v.k) ∧ X.cell? ⟨b', o' + i * 6 + 2, none⟩ = some (.int .i64 y.v.n) ∧ X.cell? ⟨b', o' + i * 6 + 3, none⟩ = some (.string y.v.s) ∧ X.cell? ⟨b', o' + i * 6 + 4, none⟩ = some (.slice a3 y.l.length c3) ∧ X.cell? ⟨b', o' + i * 6 + 5, none⟩ = some (.slice a4 y.f.length c4)) ∧ Below wr.heap.size wr X) (first | (with_reducible refine HN.out _ ?_; repeat' (first | with_reducible assumption | with_reducible exact b10.drew | with_reducible exact b10))) (first | (go_at_call 20; refine Calls.mono HC.out ?_; rintro e w1 ⟨rfl, hb1⟩; have hbb : Below wr.heap.size wr w1 := (Below.refl _ _).drew.trans hb1))
    all_goals
     have HBn : Hid (Below W.heap.size W w1) := HB.out.trans (hbb.mono HB.out.size)
     clear hbb
     go_wp2
     go_roundw
     case rel => exact ⟨i + 1, by omega, by go_num, HBn⟩
     case measure => simp [intOf]; omega
  · obtain rfl : i = ds.length := by omega
    go_wp2
    go_ret
    exact ⟨rfl, HB.out⟩
set_option maxRecDepth 100000 in
set_option maxHeartbeats 6400000 in
theorem sd_of (d : Dt) (hll : d.l.length ≤ 1048576) (hlf : d.f.length ≤ 1048576) (el : ∀ j (h : j < d.l.length), SdOK d.l[j]) (ef : ∀ j (h : j < d.f.length), SdOK d.f[j]) : SdOK d := fun P P' al cl af cf al' cl' af' cf' W h1 h2 h3 h4 => by
 obtain ⟨w0, HW0, HX, HY, HB⟩ := two_boxesS W #[.bool d.no, .int .i64 d.v.k, .int .i64 d.v.n, .string d.v.s, .slice al d.l.length cl, .slice af d.f.length cf] #[.bool d.no, .int .i64 d.v.k, .int .i64 d.v.n, .string d.v.s, .slice al' d.l.length cl', .slice af' d.f.length cf'] 56 56
 have HC1 : Hid (∀ X, Below w0.heap.size w0 X → Calls Tryz.prog 12 #[.slice al d.l.length cl, .slice al' d.l.length cl'] X fun e w' => e = .returned (.bool true) ∧ Below X.heap.size X w') := fun X hX => sl_of d.l hll el P P' al cl al' cl' X ((h1.keep HB.out).keep hX) ((h3.keep HB.out).keep hX)
 have HC2 : Hid (∀ X, Below w0.heap.size w0 X → Calls Tryz.prog 12 #[.slice af d.f.length cf, .slice af' d.f.length cf'] X fun e w' => e = .returned (.bool true) ∧ Below X.heap.size X w') := fun X hX => sl_of d.f hlf ef P P' af cf af' cf' X ((h2.keep HB.out).keep hX) ((h4.keep HB.out).keep hX)
 obtain ⟨p0, p1, p2, p3, p4, p5⟩ := row_six HX.out
 obtain ⟨q0, q1, q2, q3, q4, q5⟩ := row_six HY.out
 clear h1 h2 h3 h4 el ef
 unfold datumV
 go_enter Tryz.func20, Tryz.ntmps20
 go_upto_region 1 with fail
 rw [HW0.out]
 go_wp2_with fail
 refine Calls.mono (HC1.out _ (Below.refl _ _)) ?_
 rintro e w1 ⟨rfl, hb1⟩
 have HB1 : Hid (Below w0.heap.size w0 w1) := hb1
 clear p0 p1 p2 p3 p4 p5 q0 q1 q2 q3 q4 q5
 obtain ⟨p0, p1, p2, p3, p4, p5⟩ := row_six (blk_keep hb1 HX.out)
 obtain ⟨q0, q1, q2, q3, q4, q5⟩ := row_six (blk_keep hb1 HY.out)
 clear hb1
 go_wp2_with fail
 refine Calls.mono (HC2.out _ HB1.out) ?_
 rintro e w2 ⟨rfl, hb2⟩
 have HB2 : Hid (Below W.heap.size W w2) := (HB.out.trans (HB1.out.mono HB.out.size)).trans (hb2.mono (Nat.le_trans HB.out.size HB1.out.size))
 clear hb2
 go_wp2
 go_ret
 exact ⟨rfl, HB2.out⟩
theorem sd_any : ∀ (n : Nat) (d : Dt), SizeOf.sizeOf d < n → d.Sm → SdOK d
 | 0, d, h => absurd h (Nat.not_lt_zero _)
 | n + 1, d, hsz => fun hsm => by
  obtain ⟨hl, hf, el, ef⟩ : d.l.length ≤ 1048576 ∧ d.f.length ≤ 1048576 ∧ (∀ j (h : j < d.l.length), d.l[j].Sm) ∧ ∀ j (h : j < d.f.length), d.f[j].Sm := by cases hsm with | mk no v l f hs hl hf el ef => exact ⟨hl, hf, el, ef⟩
  exact sd_of d hl hf (fun j h => sd_any n d.l[j] (by have := d.l_size j h; omega) (el j h)) (fun j h => sd_any n d.f[j] (by have := d.f_size j h; omega) (ef j h))
end Go.Proofs.YteonbmaokphleaaGreatDoor
