/-
  The law's weight: how many data and bytes a record is.
-/
import Derived.Test.YteonbmaokphleaaGreatDoorHBOpenVals
import Derived.Test.YteonbmaokphleaaGreatDoorHOwn
import Derived.RegionTactic
namespace Go.Proofs.YteonbmaokphleaaGreatDoor
open Go.RowKit
theorem wtL_app : ∀ (xs ys : List Dt), wtL (xs ++ ys) = wtL xs + wtL ys
 | [], ys => by simp [wtL]
 | x :: xs, ys => by rw [List.cons_append, wtL, wtL, wtL_app xs ys]; omega
theorem wtL_take (ds : List Dt) (i : Nat) (hi : i < ds.length) : wtL (ds.take (i + 1)) = wtL (ds.take i) + wt ds[i] := by
 rw [List.take_succ_eq_append_getElem hi, wtL_app, wtL, wtL]
 omega
theorem wtL_part (ds : List Dt) (i : Nat) : wtL (ds.take i) ≤ wtL ds := by
 have h := wtL_app (ds.take i) (ds.drop i)
 rw [List.take_append_drop] at h
 omega
theorem Dt.l_size (d : Dt) (j : Nat) (hj : j < d.l.length) : SizeOf.sizeOf d.l[j] < SizeOf.sizeOf d := by
 cases d with
 | mk no v l f =>
  have h := List.sizeOf_lt_of_mem (List.getElem_mem (l := l) (n := j) hj)
  show SizeOf.sizeOf l[j] < _
  simp only [Dt.mk.sizeOf_spec]
  omega
theorem Dt.f_size (d : Dt) (j : Nat) (hj : j < d.f.length) : SizeOf.sizeOf d.f[j] < SizeOf.sizeOf d := by
 cases d with
 | mk no v l f =>
  have h := List.sizeOf_lt_of_mem (List.getElem_mem (l := f) (n := j) hj)
  show SizeOf.sizeOf f[j] < _
  simp only [Dt.mk.sizeOf_spec]
  omega
abbrev datumV (d : Dt) (al : Option Addr) (cl : Nat) (af : Option Addr) (cf : Nat) : Value := .agg #[.bool d.no, .int .i64 d.v.k, .int .i64 d.v.n, .string d.v.s, .slice al d.l.length cl, .slice af d.f.length cf]
theorem row_six {w : World} {g e : Nat} {x0 x1 x2 x3 x4 x5 : Value} (h : w.heap[g]? = some (.cells #[x0, x1, x2, x3, x4, x5] e (0, 0))) :
    w.cell? ⟨g, 0, none⟩ = some x0 ∧ w.cell? ⟨g, 1, none⟩ = some x1 ∧ w.cell? ⟨g, 2, none⟩ = some x2 ∧ w.cell? ⟨g, 3, none⟩ = some x3 ∧ w.cell? ⟨g, 4, none⟩ = some x4 ∧ w.cell? ⟨g, 5, none⟩ = some x5 :=
 ⟨cell_of_row w g 0 _ e _ h, cell_of_row w g 1 _ e _ h, cell_of_row w g 2 _ e _ h, cell_of_row w g 3 _ e _ h, cell_of_row w g 4 _ e _ h, cell_of_row w g 5 _ e _ h⟩
set_option maxRecDepth 100000 in
set_option maxHeartbeats 1600000 in
theorem weight_any : ∀ (n : Nat) (d : Dt), SizeOf.sizeOf d < n → wt d ≤ 1048576 → d.l.length ≤ 1048576 → d.f.length ≤ 1048576 → d.Sm → ∀ (P : Nat → Prop) (al : Option Addr) (cl : Nat) (af : Option Addr) (cf : Nat) (W : World), LiesD W P al d.l → LiesD W P af d.f →
    Calls Tryz.prog 23 #[datumV d al cl af cf] W fun e w' => e = .returned (.int .i64 (wt d : Nat)) ∧ Below W.heap.size W w'
 | 0, d, h => absurd h (Nat.not_lt_zero _)
 | n + 1, d, hsz => fun hwt hll hlf hsm P al cl af cf W hl hf => by
  have HL : Hid (LiesD W P al d.l) := hl
  have HF : Hid (LiesD W P af d.f) := hf
  have HWT : Hid (wt d = 1 + d.v.s.size + wtL d.l + wtL d.f) := wt_eq d
  have hw2 := wt_eq d
  obtain ⟨el, ef⟩ : (∀ j (h : j < d.l.length), d.l[j].Sm) ∧ ∀ j (h : j < d.f.length), d.f[j].Sm := by cases hsm with | mk no v l f hs hl hf el ef => exact ⟨el, ef⟩
  have smL : ∀ x : Dt, x.Sm → x.l.length ≤ 1048576 ∧ x.f.length ≤ 1048576 := fun x hx => by cases hx with | mk no v l f hs hl hf el ef => exact ⟨hl, hf⟩
  have HIL : Hid (∀ j (hj : j < d.l.length) (al : Option Addr) (cl : Nat) (af : Option Addr) (cf : Nat) (W : World), LiesD W P al d.l[j].l → LiesD W P af d.l[j].f → Calls Tryz.prog 23 #[datumV d.l[j] al cl af cf] W fun e w' => e = .returned (.int .i64 (wt d.l[j] : Nat)) ∧ Below W.heap.size W w') := fun j hj al cl af cf W h1 h2 => by
   have t1 := wtL_take d.l j hj
   have t2 := wtL_part d.l (j + 1)
   exact weight_any n d.l[j] (by have := d.l_size j hj; omega) (by omega) (smL _ (el j hj)).1 (smL _ (el j hj)).2 (el j hj) P al cl af cf W h1 h2
  have HIF : Hid (∀ j (hj : j < d.f.length) (al : Option Addr) (cl : Nat) (af : Option Addr) (cf : Nat) (W : World), LiesD W P al d.f[j].l → LiesD W P af d.f[j].f → Calls Tryz.prog 23 #[datumV d.f[j] al cl af cf] W fun e w' => e = .returned (.int .i64 (wt d.f[j] : Nat)) ∧ Below W.heap.size W w') := fun j hj al cl af cf W h1 h2 => by
   have t1 := wtL_take d.f j hj
   have t2 := wtL_part d.f (j + 1)
   exact weight_any n d.f[j] (by have := d.f_size j hj; omega) (by omega) (smL _ (ef j hj)).1 (smL _ (ef j hj)).2 (ef j hj) P al cl af cf W h1 h2
  obtain ⟨A, HA⟩ : ∃ A, Hid (A = 1 + d.v.s.size) := ⟨_, rfl⟩
  have hai : (1 : Int) + (d.v.s.size : Int) = (A : Int) := by rw [HA.out]; omega
  have HTot : Hid (A + wtL d.l + wtL d.f ≤ 1048576) := by show _ ≤ _; rw [HA.out]; omega
  have hAb : A ≤ 1048576 := by have := HTot.out; omega
  have hwa : wrap64 (A : Int) = (A : Int) := by unfold wrap64; omega
  clear hl hf hsm el ef smL hsz hw2 hwt
  have hb0 : Below W.heap.size W (W.alloc (.cells #[.bool d.no, .int .i64 d.v.k, .int .i64 d.v.n, .string d.v.s, .slice al d.l.length cl, .slice af d.f.length cf] 56)) := (Below.refl _ _).alloc (Nat.le_refl _) _
  have HB0 : Hid ((W.alloc (.cells #[.bool d.no, .int .i64 d.v.k, .int .i64 d.v.n, .string d.v.s, .slice al d.l.length cl, .slice af d.f.length cf] 56)).heap[W.heap.size]? = some (.cells #[.bool d.no, .int .i64 d.v.k, .int .i64 d.v.n, .string d.v.s, .slice al d.l.length cl, .slice af d.f.length cf] 56 (0, 0))) := heap_alloc_new W _
  unfold datumV
  go_enter Tryz.func23, Tryz.ntmps23
  go_wp2_with fail
  go_loopw [3, 4] (fun y x wr => ∃ i m : Nat, i ≤ d.l.length ∧ x = .int .i64 i ∧ y = .int .i64 (m : Nat) ∧ m ≤ 1048576 ∧ Hid (m = A + wtL (d.l.take i)) ∧ Hid (wr.heap[W.heap.size]? = some (.cells #[.bool d.no, .int .i64 d.v.k, .int .i64 d.v.n, .string d.v.s, .slice al d.l.length cl, .slice af d.f.length cf] 56 (0, 0))) ∧ Below W.heap.size W wr) (fun _ x _ => d.l.length - (intOf x).toNat)
  case atStart => exact ⟨0, A, Nat.zero_le _, rfl, rfl, by have := HTot.out; omega, by show _ = _; simp [wtL], HB0, hb0⟩
  case round =>
   clear HB0 hb0
   obtain ⟨i, m, hik, rfl, rfl, hm, HM, HB, hb⟩ := hrel
   obtain ⟨p0, p1, p2, p3, p4, p5⟩ := row_six HB.out
   by_cases hlt : i < d.l.length
   · obtain ⟨b, o, a1, c1, a2, c2, rfl, ⟨d0, e1, d2, d3, d4, d5⟩, hl1, hl2⟩ := (HL.out.keep hb).at_ i hlt
     have HC : Hid _ := HIL.out i hlt a1 c1 a2 c2 wr hl1 hl2
     have t1 := wtL_take d.l i hlt
     have t2 := wtL_part d.l (i + 1)
     have HN : Hid (m + wt d.l[i] = A + wtL (d.l.take (i + 1))) := by show _ = _; have := HM.out; omega
     have hnb : m + wt d.l[i] ≤ 1048576 := by have := HN.out; have := HTot.out; omega
     clear hl1 hl2 t1 t2
     go_wp2_with fail
     refine Calls.mono HC.out ?_
     rintro e w1 ⟨rfl, hb1⟩
     have HB1 : Hid _ := blk_keep hb1 HB.out
     have hbb := hb.trans (hb1.mono hb.size)
     generalize wt d.l[i] = q at *
     go_wp2
     go_roundw
     case rel => exact ⟨i + 1, m + q, by omega, by go_num, by go_num, hnb, HN, HB1, hbb⟩
     case measure => simp [intOf]; omega
   · obtain rfl : i = d.l.length := by omega
     have HM1 : Hid (m = A + wtL d.l) := by show _ = _; rw [HM.out, List.take_length]
     clear HM
     go_wp2_with fail
     go_loopw [3, 5] (fun y x wr => ∃ i m : Nat, i ≤ d.f.length ∧ x = .int .i64 i ∧ y = .int .i64 (m : Nat) ∧ m ≤ 1048576 ∧ Hid (m = A + wtL d.l + wtL (d.f.take i)) ∧ Hid (wr.heap[W.heap.size]? = some (.cells #[.bool d.no, .int .i64 d.v.k, .int .i64 d.v.n, .string d.v.s, .slice al d.l.length cl, .slice af d.f.length cf] 56 (0, 0))) ∧ Below W.heap.size W wr) (fun _ x _ => d.f.length - (intOf x).toNat)
     case atStart => exact ⟨0, m, Nat.zero_le _, rfl, rfl, hm, by show _ = _; rw [HM1.out]; simp [wtL], HB, hb⟩
     case round =>
      clear p0 p1 p2 p3 p4 p5 hm HM1 HB hb
      obtain ⟨i, m, hik, rfl, rfl, hm, HM, HB, hb⟩ := hrel
      obtain ⟨p0, p1, p2, p3, p4, p5⟩ := row_six HB.out
      by_cases hlt : i < d.f.length
      · obtain ⟨b, o, a1, c1, a2, c2, rfl, ⟨d0, e1, d2, d3, d4, d5⟩, hl1, hl2⟩ := (HF.out.keep hb).at_ i hlt
        have HC : Hid _ := HIF.out i hlt a1 c1 a2 c2 wr hl1 hl2
        have t1 := wtL_take d.f i hlt
        have t2 := wtL_part d.f (i + 1)
        have HN : Hid (m + wt d.f[i] = A + wtL d.l + wtL (d.f.take (i + 1))) := by show _ = _; have := HM.out; omega
        have hnb : m + wt d.f[i] ≤ 1048576 := by have := HN.out; have := HTot.out; omega
        clear hl1 hl2 t1 t2
        go_wp2_with fail
        refine Calls.mono HC.out ?_
        rintro e w1 ⟨rfl, hb1⟩
        have HB1 : Hid _ := blk_keep hb1 HB.out
        have hbb := hb.trans (hb1.mono hb.size)
        generalize wt d.f[i] = q at *
        go_wp2
        go_roundw
        case rel => exact ⟨i + 1, m + q, by omega, by go_num, by go_num, hnb, HN, HB1, hbb⟩
        case measure => simp [intOf]; omega
      · obtain rfl : i = d.f.length := by omega
        have HM2 : Hid (m = wt d) := by show _ = _; rw [HM.out, List.take_length, HWT.out, HA.out]
        go_wp2
        go_ret
        exact ⟨by rw [HM2.out]; rfl, hb⟩
end Go.Proofs.YteonbmaokphleaaGreatDoor
