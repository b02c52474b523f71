/-
  The reference's SchemaError: exact.
  The reference's SameNode of one schema in two places.
  The law's closed fact: a schema of one leaf is read, and written.
-/
import Derived.Test.YtajaoglnembkpaaGreatDoorPSErrM
import Derived.Test.YtajaoglnembkpaaGreatDoorPSRead
namespace Go.Proofs.YtajaoglnembkpaaGreatDoor
open Go.RowKit
set_option maxRecDepth 100000 in
set_option maxHeartbeats 3200000 in
theorem refName_any (s : ByteArray) (hs : s.size ≤ 1048576) (W : World) : Calls Tryz.prog 15 #[.string s] W fun e w' => e = .returned (.bool (nameOk s)) ∧ w' = W := by
  have hsz : Hid (s.data.toList.length = s.size) := (by show _ = _; simp)
  go_enter Tryz.func15, Tryz.ntmps15
  go_wp2
  go_loop [3] (fun x => ∃ i : Nat, i ≤ s.size ∧ x = .int .i64 i ∧ Hid (∀ j (h : j < s.data.toList.length), j < i → smallB s.data.toList[j] = true)) (fun x => s.size - (intOf x).toNat)
  case atStart => exact ⟨0, Nat.zero_le _, rfl, fun j _ h => absurd h (Nat.not_lt_zero _)⟩
  case round =>
    obtain ⟨i, hi, rfl, HA⟩ := hrel
    by_cases hlt : i < s.size
    · have hlt' : i < s.data.toList.length := by rw [hsz.out]; exact hlt
      have eb : s[i] = s.data.toList[i] := rfl
      by_cases hb : smallB s.data.toList[i] = true
      · have hb' : 97 ≤ s[i].toNat ∧ s[i].toNat ≤ 122 := of_decide_eq_true hb
        have q1 : decide ((s[i].toNat : Int) < 97) = false := by simp; omega
        have q2 : decide ((122 : Int) < (s[i].toNat : Int)) = false := by simp; omega
        have HN : Hid (∀ j (h : j < s.data.toList.length), j < i + 1 → smallB s.data.toList[j] = true) := fun j h hj => by
          by_cases e : j = i
          · subst e; exact hb
          · exact HA.out j h (by omega)
        clear hb hb' eb
        go_wp2
        go_round
        case rel => exact ⟨i + 1, by omega, by go_num, HN⟩
        case measure => simp [intOf]; omega
      · have hb' : ¬ (97 ≤ s[i].toNat ∧ s[i].toNat ≤ 122) := fun h => hb (decide_eq_true h)
        have HT : Hid (nameOk s = false) := (by
          show _ = _
          rw [nameOk, Bool.and_eq_false_iff]
          right
          rw [List.all_eq_false]
          exact ⟨_, List.getElem_mem hlt', hb⟩)
        by_cases h1 : s[i].toNat < 97
        · have q1 : decide ((s[i].toNat : Int) < 97) = true := by simp; omega
          clear hb hb' eb
          go_wp2
          all_goals go_ret
          all_goals exact ⟨by rw [HT.out]; rfl, rfl⟩
        · have q1 : decide ((s[i].toNat : Int) < 97) = false := by simp; omega
          have q2 : decide ((122 : Int) < (s[i].toNat : Int)) = true := by simp; omega
          clear hb hb' eb
          go_wp2
          all_goals go_ret
          all_goals exact ⟨by rw [HT.out]; rfl, rfl⟩
    · obtain rfl : i = s.size := by omega
      have HT : Hid (nameOk s = decide (1 ≤ s.size ∧ s.size ≤ 12)) := (by
        show _ = _
        rw [nameOk, show s.data.toList.all smallB = true from List.all_eq_true.2 fun x hx => by
          obtain ⟨j, hj, rfl⟩ := List.getElem_of_mem hx
          exact HA.out j hj (by rw [← hsz.out]; exact hj), Bool.and_true])
      by_cases h1 : 1 ≤ s.size
      · have q1 : decide ((0 : Int) < (s.size : Int)) = true := by simp; omega
        by_cases h2 : s.size ≤ 12
        · have q2 : decide ((s.size : Int) ≤ 12) = true := by simp; omega
          go_wp2
          all_goals go_ret
          all_goals exact ⟨by rw [HT.out]; simp [h1, h2], rfl⟩
        · have q2 : decide ((s.size : Int) ≤ 12) = false := by simp; omega
          go_wp2
          all_goals go_ret
          all_goals exact ⟨by rw [HT.out]; simp [h2], rfl⟩
      · have q1 : decide ((0 : Int) < (s.size : Int)) = false := by rw [decide_eq_false_iff_not]; omega
        go_wp2
        all_goals go_ret
        all_goals exact ⟨by rw [HT.out]; simp [h1], rfl⟩
end Go.Proofs.YtajaoglnembkpaaGreatDoor

namespace Go.Proofs.YtajaoglnembkpaaGreatDoor
open Go.RowKit
end Go.Proofs.YtajaoglnembkpaaGreatDoor

namespace Go.Proofs.YtajaoglnembkpaaGreatDoor
open Go.RowKit
def lfX : Tr := .node 1 ⟨#[97]⟩ 1 2 []
def lfT : Tr := .node 0 ⟨#[114, 111, 111, 116]⟩ 1 0 [lfX]
def lfS : ByteArray := ⟨#[114, 101, 113, 117, 105, 114, 101, 100, 32, 105, 110, 116, 32, 97, 32, 35, 49, 59]⟩
theorem lf_itoa : Lib.itoa 1 = [49] := by
  unfold Lib.itoa
  rw [if_neg (by omega)]
  rw [show (1 : Int).toNat = 1 from rfl, Lib.decDigits_one (by omega)]
  rfl
theorem lf_hd : hdTx 1 ⟨#[97]⟩ 1 2 = [114, 101, 113, 117, 105, 114, 101, 100, 32, 105, 110, 116, 32, 97, 32, 35, 49] := by
  rw [hdTx, lf_itoa]
  rfl
theorem lf_tx : ntL [] lfT.sub = [114, 101, 113, 117, 105, 114, 101, 100, 32, 105, 110, 116, 32, 97, 32, 35, 49, 59, 10] := by
  show ntL [] [lfX] = _
  rw [ntL, ntL, lfX, ntT, lf_hd]
  rfl
theorem lf_rd : RdL lfS 2 0 18 [lfX] := by
  have q1 : lfS.data.toList = [] ++ ([] ++ (hdTx 1 ⟨#[97]⟩ 1 2 ++ [59])) := by rw [lf_hd]; rfl
  have hh := hd_at q1 (by decide) Bls.nil (by omega) (by decide) (by omega) (by omega) (fun c t e => by injection e with e1 _; rw [← e1]; decide)
  rw [lf_hd] at hh
  have q2 : lfS.data.toList = [114, 101, 113, 117, 105, 114, 101, 100, 32, 105, 110, 116, 32, 97, 32, 35, 49] ++ ([] ++ ([59] ++ [])) := rfl
  have w5 := wd_tok q2 (by decide) Bls.nil (one_tok 59 _ (by decide) (by decide)) (fun c t e => by injection e with e1 _; rw [← e1]; decide)
  have e5 := ext_tok q2
  exact .cons (.leaf (rep := 0) (kind := 2) hh (by omega) (by omega) (by omega) w5 (by decide) (by rw [e5]; decide)) .nil
theorem lf_end : WdAt lfS 18 lfS.size lfS.size := by
  have q2 : lfS.data.toList = [114, 101, 113, 117, 105, 114, 101, 100, 32, 105, 110, 116, 32, 97, 32, 35, 49, 59] ++ ([] ++ ([] ++ [])) := rfl
  exact wd_tok q2 (by decide) Bls.nil (.inl ⟨rfl, rfl⟩) (fun c t e => by cases e)
theorem lf_dp : lfT.Dp 2 := .mk 1 _ _ _ _ _ fun j hj => by
  have h : j = 0 := by have : j < 1 := hj; omega
  subst h
  exact .mk 0 _ _ _ _ _ fun j hj => absurd hj (Nat.not_lt_zero _)
theorem lf_sm : lfT.Sm := .mk _ _ _ _ _ (by omega) (by decide) (by decide) fun j hj => by
  have h : j = 0 := by have : j < 1 := hj; omega
  subst h
  exact .mk _ _ _ _ _ (by omega) (by decide) (by decide) fun j hj => absurd hj (Nat.not_lt_zero _)
theorem lf_right : vldN lfT = 0 := by
  have h1 : inB lfT = true := rfl
  have h2 : isRootB lfT = true := by
    rw [isRootB, decide_eq_true_iff, Lib.toList_data]
    exact ⟨rfl, rfl, rfl, rfl⟩
  have h3 : shpT lfT = true := rfl
  have h4 : nmsT lfT = true := rfl
  have h5 : idsT lfT = true := rfl
  simp [vldN, h1, h2, h3, h4, h5]
set_option maxRecDepth 100000 in
set_option maxHeartbeats 3200000 in
theorem leaf_any (W : World) (eb es en : TypeId × Value) (he : Er3 W eb es en) (htab : Lib.TabIs Tryz.prog W "internal/strconv.uint64pow10" .u64 Lib.pow10Tab) :
    Calls Tryz.prog 4 #[] W fun e w' => e = .returned (.bool true) ∧ Below W.heap.size W w' := by
  have HR : Hid (Calls Tryz.prog 12 #[.string ⟨#[114, 101, 113, 117, 105, 114, 101, 100, 32, 105, 110, 116, 32, 97, 32, 35, 49, 59]⟩] W fun e w' => (∃ a' c', e = .returned (.tuple #[.agg #[.int .i64 0, .string ⟨#[114, 111, 111, 116]⟩, .int .i64 1, .int .i64 0, .slice a' 1 c'], .nilIface]) ∧ LiesN w' (fun b => W.heap.size ≤ b) a' [lfX] ∧ 1 ≤ c') ∧ Below W.heap.size W w') := read_right lfS (by decide) [lfX] 18 lf_rd lf_end _ rfl 2 lf_dp (by omega) lf_sm W eb es en he lf_right
  have HT : Hid (∀ (w : World) (P : Nat → Prop) (a : Option Addr) (c : Nat), Below W.heap.size W w → LiesN w P a [lfX] → 1 ≤ c → Calls Tryz.prog 13 #[.agg #[.int .i64 0, .string ⟨#[114, 111, 111, 116]⟩, .int .i64 1, .int .i64 0, .slice a 1 c]] w fun e w' => e = .returned (.tuple #[.string ⟨#[114, 101, 113, 117, 105, 114, 101, 100, 32, 105, 110, 116, 32, 97, 32, 35, 49, 59, 10]⟩, .nilIface]) ∧ Below w.heap.size w w') := fun w P a c hb hl hc => (by
    have h := text_right lfT 2 lf_dp (by omega) lf_sm a c P w hl hc eb es en ⟨(hb.cell (World.block_lt_of_cell? W _ he.b)).trans he.b, (hb.cell (World.block_lt_of_cell? W _ he.s)).trans he.s, (hb.cell (World.block_lt_of_cell? W _ he.n)).trans he.n⟩ (tab_keep htab hb) lf_right
    rw [lf_tx] at h
    exact h)
  clear he htab
  go_enter Tryz.func4, Tryz.ntmps4
  go_wp2_with fail
  refine Calls.mono HR.out ?_
  rintro e w1 ⟨⟨a1, c1, rfl, hl1, hc1⟩, hb1⟩
  obtain ⟨w2, HW2, HX2, HB2⟩ := one_box w1 #[.int .i64 0, .string ⟨#[114, 111, 111, 116]⟩, .int .i64 1, .int .i64 0, .slice a1 1 c1] 24
  have HB1 : Hid (Below W.heap.size W w2) := hb1.trans (HB2.out.mono hb1.size)
  have HL2 : Hid (LiesN w2 (fun b => W.heap.size ≤ b) a1 [lfX]) := hl1.keep HB2.out
  obtain ⟨⟨p0, p1, p2, p3, p4⟩, _⟩ := row_five HX2.out
  clear hl1 hb1
  go_wp2_with fail
  rw [HW2.out]
  go_wp2_with fail
  refine Calls.mono (HT.out w2 _ a1 c1 HB1.out HL2.out hc1) ?_
  rintro e w3 ⟨rfl, hb3⟩
  have HB3 : Hid (Below W.heap.size W w3) := HB1.out.trans (hb3.mono HB1.out.size)
  clear hb3
  go_wp2
  go_ret
  exact ⟨rfl, HB3.out⟩
end Go.Proofs.YtajaoglnembkpaaGreatDoor
