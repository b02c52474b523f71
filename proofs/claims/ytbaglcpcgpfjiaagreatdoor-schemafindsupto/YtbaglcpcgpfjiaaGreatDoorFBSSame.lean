/-
  The reference's SameNode of one schema in two places.
  The law's closed fact: a schema of one leaf is read, and written.
-/
import Derived.Test.YtbaglcpcgpfjiaaGreatDoorFBSRight
namespace Go.Proofs.YtbaglcpcgpfjiaaGreatDoor
open Go.RowKit
def SnOK (t : Tr) : Prop := ∀ (P P' : Nat → Prop) (a : Option Addr) (c : Nat) (a' : Option Addr) (c' : Nat) (W : World), LiesN W P a t.sub → LiesN W P' a' t.sub → t.sub.length ≤ c → t.sub.length ≤ c' →
  Calls Tryz.prog 26 #[nodeV t a c, nodeV t a' c'] W fun e w' => e = .returned (.bool true) ∧ Below W.heap.size W w'
set_option maxRecDepth 100000 in
set_option maxHeartbeats 6400000 in
theorem sn_of (t : Tr) (hs : t.sub.length ≤ 1048576) (hts : ∀ x ∈ t.sub, SnOK x) : SnOK t := fun P P' a c a' c' W hl hl' hc hc' => by
  obtain ⟨w0, HW0, HX, HY, HB⟩ := two_boxesS W #[.int .i64 t.id, .string t.nm, .int .i64 t.rep, .int .i64 t.kind, .slice a t.sub.length c] #[.int .i64 t.id, .string t.nm, .int .i64 t.rep, .int .i64 t.kind, .slice a' t.sub.length c'] 24 24
  have HL : Hid (LiesN w0 P a t.sub) := hl.keep HB.out
  have HL' : Hid (LiesN w0 P' a' t.sub) := hl'.keep HB.out
  have HT : Hid (∀ x ∈ t.sub, SnOK x) := hts
  obtain ⟨⟨p0, p1, p2, p3, p4⟩, _⟩ := row_five HX.out
  obtain ⟨⟨q0, q1, q2, q3, q4⟩, _⟩ := row_five HY.out
  clear hl hl' hts
  unfold nodeV
  go_enter Tryz.func26, Tryz.ntmps26
  go_wp2_with fail
  rw [HW0.out]
  go_wp2_with fail
  clear p0 p1 p2 p3 p4 q0 q1 q2 q3 q4
  go_loopw [5] (fun x wr => ∃ i : Nat, i ≤ t.sub.length ∧ x = .int .i64 i ∧ Hid (Below w0.heap.size w0 wr)) (fun x _ => t.sub.length - (intOf x).toNat)
  case atStart => exact ⟨0, Nat.zero_le _, rfl, Below.refl _ _⟩
  case round =>
    obtain ⟨i, hik, rfl, HBr⟩ := hrel
    have HXr : Hid (wr.heap[W.heap.size]? = some (.cells #[.int .i64 t.id, .string t.nm, .int .i64 t.rep, .int .i64 t.kind, .slice a t.sub.length c] 24 (0, 0))) := blk_keep HBr.out HX.out
    have HYr : Hid (wr.heap[W.heap.size + 1]? = some (.cells #[.int .i64 t.id, .string t.nm, .int .i64 t.rep, .int .i64 t.kind, .slice a' t.sub.length c'] 24 (0, 0))) := blk_keep HBr.out HY.out
    obtain ⟨⟨p0, p1, p2, p3, p4⟩, _⟩ := row_five HXr.out
    obtain ⟨⟨q0, q1, q2, q3, q4⟩, _⟩ := row_five HYr.out
    by_cases hlt : i < t.sub.length
    · obtain ⟨b, o, a1, c1, rfl, d0, d1, d2, d3, d4, hl1, hc1⟩ := (HL.out.keep HBr.out).at2 i hlt
      obtain ⟨b', o', a2, c2, rfl, e0, e1, e2, e3, e4, hl2, hc2⟩ := (HL'.out.keep HBr.out).at2 i hlt
      have HC : Hid _ := HT.out t.sub[i] (List.getElem_mem hlt) P P' a1 c1 a2 c2 wr.drew (hl1.stay (fun _ h _ => h) (fun _ _ _ => rfl)) (hl2.stay (fun _ h _ => h) (fun _ _ _ => rfl)) hc1 hc2
      clear hl1 hl2
      obtain ⟨tid, htid⟩ := hid_name t.sub[i].id
      have b10 : Below wr.heap.size wr wr := Below.refl _ _
      have HN : Hid (∀ X, Below wr.heap.size wr X → (X.cell? ⟨W.heap.size, 4, none⟩ = some (.slice (some ⟨b, o, none⟩) t.sub.length c) ∧ X.cell? ⟨W.heap.size + 1, 4, none⟩ = some (.slice (some ⟨b', o', none⟩) t.sub.length c')) ∧ (X.cell? ⟨b, o + i * 5, none⟩ = some (.int .i64 t.sub[i].id) ∧ X.cell? ⟨b, o + i * 5 + 1, none⟩ = some (.string t.sub[i].nm) ∧ X.cell? ⟨b, o + i * 5 + 2, none⟩ = some (.int .i64 t.sub[i].rep) ∧ X.cell? ⟨b, o + i * 5 + 3, none⟩ = some (.int .i64 t.sub[i].kind) ∧ X.cell? ⟨b, o + i * 5 + 4, none⟩ = some (.slice a1 t.sub[i].sub.length c1)) ∧ (X.cell? ⟨b', o' + i * 5, none⟩ = some (.int .i64 t.sub[i].id) ∧ X.cell? ⟨b', o' + i * 5 + 1, none⟩ = some (.string t.sub[i].nm) ∧ X.cell? ⟨b', o' + i * 5 + 2, none⟩ = some (.int .i64 t.sub[i].rep) ∧ X.cell? ⟨b', o' + i * 5 + 3, none⟩ = some (.int .i64 t.sub[i].kind) ∧ X.cell? ⟨b', o' + i * 5 + 4, none⟩ = some (.slice a2 t.sub[i].sub.length c2)) ∧ Below wr.heap.size wr X) := fun X hX => (by
        have k : ∀ (ad : Addr) (v : Value), wr.cell? ad = some v → X.cell? ad = some v := fun ad v h => (hX.cell (World.block_lt_of_cell? wr _ h)).trans h
        exact ⟨⟨k _ _ p4, k _ _ q4⟩, ⟨k _ _ d0, k _ _ d1, k _ _ d2, k _ _ d3, k _ _ d4⟩, ⟨k _ _ e0, k _ _ e1, k _ _ e2, k _ _ e3, k _ _ e4⟩, hX⟩)
      go_upto_region 6 with fail
      go_region_held3 (fun X => (X.cell? ⟨W.heap.size, 4, none⟩ = some (.slice (some ⟨b, o, none⟩) t.sub.length c) ∧ X.cell? ⟨W.heap.size + 1, 4, none⟩ = some (.slice (some ⟨b', o', none⟩) t.sub.length c')) ∧ (X.cell? ⟨b, o + i * 5, none⟩ = some (.int .i64 t.sub[i].id) ∧ X.cell? ⟨b, o + i * 5 + 1, none⟩ = some (.string t.sub[i].nm) ∧ X.cell? ⟨b, o + i * 5 + 2, none⟩ = some (.int .i64 t.sub[i].rep) ∧ X.cell? ⟨b, o + i * 5 + 3, none⟩ = some (.int .i64 t.sub[i].kind) ∧ X.cell? ⟨b, o + i * 5 + 4, none⟩ = some (.slice a1 t.sub[i].sub.length c1)) ∧ (X.cell? ⟨b', o' + i * 5, none⟩ = some (.int .i64 t.sub[i].id) ∧ X.cell? ⟨b', o' + i * 5 + 1, none⟩ = some (.string t.sub[i].nm) ∧ X.cell? ⟨b', o' + i * 5 + 2, none⟩ = some (.int .i64 t.sub[i].rep) ∧ X.cell? ⟨b', o' + i * 5 + 3, none⟩ = some (.int .i64 t.sub[i].kind) ∧ X.cell? ⟨b', o' + i * 5 + 4, none⟩ = some (.slice a2 t.sub[i].sub.length c2)) ∧ Below wr.heap.size wr X) (first | (with_reducible refine HN.out _ ?_; repeat' (first | with_reducible assumption | with_reducible exact b10.drew | with_reducible exact b10))) (first | (go_at_call 26; refine Calls.mono HC.out ?_; rintro e w1 ⟨rfl, hb1⟩; have hbb : Below wr.heap.size wr w1 := (Below.refl _ _).drew.trans hb1))
      all_goals
        have HBn : Hid (Below w0.heap.size w0 w1) := HBr.out.trans (hbb.mono HBr.out.size)
        clear hbb
        go_wp2
        go_roundw
        case rel => exact ⟨i + 1, by omega, by go_num, HBn⟩
        case measure => simp [intOf]; omega
    · obtain rfl : i = t.sub.length := by omega
      go_wp2
      go_ret
      exact ⟨rfl, HB.out.trans (HBr.out.mono HB.out.size)⟩
theorem sn_ok : ∀ (n : Nat) (t : Tr), SizeOf.sizeOf t < n → t.Sm → SnOK t
  | 0, t, h => absurd h (Nat.not_lt_zero _)
  | n + 1, t, hsz => fun hsm => sn_of t hsm.len fun x hx => by
      obtain ⟨j, hj, rfl⟩ := List.getElem_of_mem hx
      exact sn_ok n _ (by have := t.sub_size j hj; omega) (hsm.at_ j hj)
end Go.Proofs.YtbaglcpcgpfjiaaGreatDoor

namespace Go.Proofs.YtbaglcpcgpfjiaaGreatDoor
open Go.RowKit
def lfX : Tr := .node 1 ⟨#[97]⟩ 1 2 []
def lfT : Tr := .node 0 ⟨#[114, 111, 111, 116]⟩ 1 0 [lfX]
def lfS : ByteArray := ⟨#[114, 101, 113, 117, 105, 114, 101, 100, 32, 105, 110, 116, 32, 97, 32, 35, 49, 59]⟩
theorem lf_itoa : Lib.itoa 1 = [49] := by
  unfold Lib.itoa
  rw [if_neg (by omega)]
  rw [show (1 : Int).toNat = 1 from rfl, Lib.decDigits_one (by omega)]
  rfl
theorem lf_hd : hdTx 1 ⟨#[97]⟩ 1 2 = [114, 101, 113, 117, 105, 114, 101, 100, 32, 105, 110, 116, 32, 97, 32, 35, 49] := by
  rw [hdTx, lf_itoa]
  rfl
theorem lf_tx : ntL [] lfT.sub = [114, 101, 113, 117, 105, 114, 101, 100, 32, 105, 110, 116, 32, 97, 32, 35, 49, 59, 10] := by
  show ntL [] [lfX] = _
  rw [ntL, ntL, lfX, ntT, lf_hd]
  rfl
theorem lf_rd : RdL lfS 2 0 18 [lfX] := by
  have q1 : lfS.data.toList = [] ++ ([] ++ (hdTx 1 ⟨#[97]⟩ 1 2 ++ [59])) := by rw [lf_hd]; rfl
  have hh := hd_at q1 (by decide) Bls.nil (by omega) (by decide) (by omega) (by omega) (fun c t e => by injection e with e1 _; rw [← e1]; decide)
  rw [lf_hd] at hh
  have q2 : lfS.data.toList = [114, 101, 113, 117, 105, 114, 101, 100, 32, 105, 110, 116, 32, 97, 32, 35, 49] ++ ([] ++ ([59] ++ [])) := rfl
  have w5 := wd_tok q2 (by decide) Bls.nil (one_tok 59 _ (by decide) (by decide)) (fun c t e => by injection e with e1 _; rw [← e1]; decide)
  have e5 := ext_tok q2
  exact .cons (.leaf (rep := 0) (kind := 2) hh (by omega) (by omega) (by omega) w5 (by decide) (by rw [e5]; decide)) .nil
theorem lf_end : WdAt lfS 18 lfS.size lfS.size := by
  have q2 : lfS.data.toList = [114, 101, 113, 117, 105, 114, 101, 100, 32, 105, 110, 116, 32, 97, 32, 35, 49, 59] ++ ([] ++ ([] ++ [])) := rfl
  exact wd_tok q2 (by decide) Bls.nil (.inl ⟨rfl, rfl⟩) (fun c t e => by cases e)
theorem lf_dp : lfT.Dp 2 := .mk 1 _ _ _ _ _ fun j hj => by
  have h : j = 0 := by have : j < 1 := hj; omega
  subst h
  exact .mk 0 _ _ _ _ _ fun j hj => absurd hj (Nat.not_lt_zero _)
theorem lf_sm : lfT.Sm := .mk _ _ _ _ _ (by omega) (by decide) (by decide) fun j hj => by
  have h : j = 0 := by have : j < 1 := hj; omega
  subst h
  exact .mk _ _ _ _ _ (by omega) (by decide) (by decide) fun j hj => absurd hj (Nat.not_lt_zero _)
theorem lf_right : vldN lfT = 0 := by
  have h1 : inB lfT = true := rfl
  have h2 : isRootB lfT = true := by
    rw [isRootB, decide_eq_true_iff, Lib.toList_data]
    exact ⟨rfl, rfl, rfl, rfl⟩
  have h3 : shpT lfT = true := rfl
  have h4 : nmsT lfT = true := rfl
  have h5 : idsT lfT = true := rfl
  simp [vldN, h1, h2, h3, h4, h5]
set_option maxRecDepth 100000 in
set_option maxHeartbeats 3200000 in
theorem leaf_any (W : World) (eb es en : TypeId × Value) (he : Er3 W eb es en) (htab : Lib.TabIs Tryz.prog W "internal/strconv.uint64pow10" .u64 Lib.pow10Tab) :
    Calls Tryz.prog 4 #[] W fun e w' => e = .returned (.bool true) ∧ Below W.heap.size W w' := by
  have HR : Hid (Calls Tryz.prog 15 #[.string ⟨#[114, 101, 113, 117, 105, 114, 101, 100, 32, 105, 110, 116, 32, 97, 32, 35, 49, 59]⟩] W fun e w' => (∃ a' c', e = .returned (.tuple #[.agg #[.int .i64 0, .string ⟨#[114, 111, 111, 116]⟩, .int .i64 1, .int .i64 0, .slice a' 1 c'], .nilIface]) ∧ LiesN w' (fun b => W.heap.size ≤ b) a' [lfX] ∧ 1 ≤ c') ∧ Below W.heap.size W w') := read_right lfS (by decide) [lfX] 18 lf_rd lf_end _ rfl 2 lf_dp (by omega) lf_sm W eb es en he lf_right
  have HT : Hid (∀ (w : World) (P : Nat → Prop) (a : Option Addr) (c : Nat), Below W.heap.size W w → LiesN w P a [lfX] → 1 ≤ c → Calls Tryz.prog 16 #[.agg #[.int .i64 0, .string ⟨#[114, 111, 111, 116]⟩, .int .i64 1, .int .i64 0, .slice a 1 c]] w fun e w' => e = .returned (.tuple #[.string ⟨#[114, 101, 113, 117, 105, 114, 101, 100, 32, 105, 110, 116, 32, 97, 32, 35, 49, 59, 10]⟩, .nilIface]) ∧ Below w.heap.size w w') := fun w P a c hb hl hc => (by
    have h := text_right lfT 2 lf_dp (by omega) lf_sm a c P w hl hc eb es en ⟨(hb.cell (World.block_lt_of_cell? W _ he.b)).trans he.b, (hb.cell (World.block_lt_of_cell? W _ he.s)).trans he.s, (hb.cell (World.block_lt_of_cell? W _ he.n)).trans he.n⟩ (tab_keep htab hb) lf_right
    rw [lf_tx] at h
    exact h)
  clear he htab
  go_enter Tryz.func4, Tryz.ntmps4
  go_wp2_with fail
  refine Calls.mono HR.out ?_
  rintro e w1 ⟨⟨a1, c1, rfl, hl1, hc1⟩, hb1⟩
  obtain ⟨w2, HW2, HX2, HB2⟩ := one_box w1 #[.int .i64 0, .string ⟨#[114, 111, 111, 116]⟩, .int .i64 1, .int .i64 0, .slice a1 1 c1] 24
  have HB1 : Hid (Below W.heap.size W w2) := hb1.trans (HB2.out.mono hb1.size)
  have HL2 : Hid (LiesN w2 (fun b => W.heap.size ≤ b) a1 [lfX]) := hl1.keep HB2.out
  obtain ⟨⟨p0, p1, p2, p3, p4⟩, _⟩ := row_five HX2.out
  clear hl1 hb1
  go_wp2_with fail
  rw [HW2.out]
  go_wp2_with fail
  refine Calls.mono (HT.out w2 _ a1 c1 HB1.out HL2.out hc1) ?_
  rintro e w3 ⟨rfl, hb3⟩
  have HB3 : Hid (Below W.heap.size W w3) := HB1.out.trans (hb3.mono HB1.out.size)
  clear hb3
  go_wp2
  go_ret
  exact ⟨rfl, HB3.out⟩
end Go.Proofs.YtbaglcpcgpfjiaaGreatDoor
