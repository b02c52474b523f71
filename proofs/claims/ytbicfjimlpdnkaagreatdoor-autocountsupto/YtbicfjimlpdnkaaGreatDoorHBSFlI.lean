/-
  The flat list of a schema in memory.
  auto.common: exact.
  auto.firstIn: exact.
  auto.nextOf: exact.
-/
import Derived.Test.YtbicfjimlpdnkaaGreatDoorHBChkD
import Derived.Deep.DeepCutAuto
import Derived.Deep.RegionHeld3
import Derived.Deep.RegionLaw
import Derived.Test.YtbicfjimlpdnkaaGreatDoorHBLfM
import Derived.Test.YtbicfjimlpdnkaaGreatDoorHAppAny
import Derived.Test.YtbicfjimlpdnkaaGreatDoorHLvX
namespace Go.Proofs.YtbicfjimlpdnkaaGreatDoor
open Go.RowKit
/-- The flat list in memory. -/
structure FlI (t : Tr) (ps : List Pn) (g : Nat) (w1 : World) : Prop where
  co : ps.map Pn.core = fl t
  cell : ∀ X, Below w1.heap.size w1 X → ∀ i (h : i < ps.length) k u, k < 7 → (pnc ps[i])[k]? = some u → X.cell? ⟨g, i * 7 + k, none⟩ = some u
theorem FlI.len {t : Tr} {ps : List Pn} {g : Nat} {w1 : World} (h : FlI t ps g w1) : ps.length = (fl t).length := by rw [← h.co, List.length_map]
theorem FlI.at_ {t : Tr} {ps : List Pn} {g : Nat} {w1 : World} (h : FlI t ps g w1) (i : Nat) (hi : i < ps.length) : (fl t)[i]'(by rw [← h.len]; exact hi) = ps[i].core := by simp only [← h.co, List.getElem_map]
theorem FlI.tail {t : Tr} {ps : List Pn} {g : Nat} {w1 : World} (h : FlI t ps g w1) (i : Nat) (hi : i + 1 < ps.length) : ∃ hh : i < (fl t).tail.length, (fl t).tail[i] = ps[i + 1].core := by
  have h1 : i < (fl t).tail.length := by rw [List.length_tail, ← h.len]; omega
  exact ⟨h1, by rw [List.getElem_tail]; exact h.at_ (i + 1) hi⟩
theorem FlI.tl {t : Tr} {ps : List Pn} {g : Nat} {w1 : World} (h : FlI t ps g w1) (i : Nat) (h1 : 1 ≤ i) (hi : i < ps.length) : ∃ hh : i - 1 < (fl t).tail.length, (fl t).tail[i - 1] = ps[i].core := by
  obtain ⟨j, rfl⟩ : ∃ j, i = j + 1 := ⟨i - 1, by omega⟩
  exact h.tail j hi
end Go.Proofs.YtbicfjimlpdnkaaGreatDoor

namespace Go.Proofs.YtbicfjimlpdnkaaGreatDoor
open Go.RowKit
/-- A slice of slices of ints. -/
def LiesLL (W : World) (a : Option Addr) (L : List (List Int)) : Prop := ∀ j (h : j < L.length), ∃ b o pa pc, a = some ⟨b, o, none⟩ ∧ W.cell? ⟨b, o + j, none⟩ = some (.slice pa L[j].length pc) ∧ Lies W pa (i64s L[j]) ∧ L[j].length ≤ 1000
theorem LiesLL.keep {W w' : World} {a : Option Addr} {L : List (List Int)} (h : LiesLL W a L) (hb : Below W.heap.size W w') : LiesLL w' a L := fun j hj => by
  obtain ⟨b, o, pa, pc, e, hc, hl, hm⟩ := h j hj
  exact ⟨b, o, pa, pc, e, (hb.cell (World.block_lt_of_cell? W _ hc)).trans hc, hl.keep hb, hm⟩
set_option maxRecDepth 100000 in
set_option maxHeartbeats 6400000 in
theorem common_any (a : Option Addr) (c : Nat) (L : List (List Int)) (k : Nat) (hk : k < L.length) (hm : L.length ≤ 1000) (W : World) (hl : LiesLL W a L) :
    Calls Tryz.prog 44 #[.slice a L.length c, .int .i64 (k : Nat)] W fun e w' => e = .returned (.int .i64 (cmnK L k : Nat)) ∧ Below W.heap.size W w' := by
  by_cases hk1 : k + 1 = L.length
  · have q1 : (((k : Int) + 1) == (L.length : Int)) = true := by simp; omega
    have HE : Hid (cmnK L k = 0) := (by show _ = _; rw [cmnK, if_neg (by omega)])
    go_enter Tryz.func44, Tryz.ntmps44
    go_wp2
    go_ret
    exact ⟨by rw [HE.out]; rfl, Below.refl _ _⟩
  · have hk2 : k + 1 < L.length := by omega
    have q1 : (((k : Int) + 1) == (L.length : Int)) = false := by simp; omega
    obtain ⟨b, o, pa, pc, rfl, d1, hl1, hm1⟩ := hl k hk
    obtain ⟨b', o', qa, qc, hab, d2, hl2, hm2⟩ := hl (k + 1) hk2
    simp only [Option.some.injEq, Addr.mk.injEq, and_true] at hab
    obtain ⟨rfl, rfl⟩ := hab
    have HE : Hid (cmnK L k = cmnL L[k] L[k + 1]) := (by
      show _ = _
      rw [cmnK, if_pos hk2]
      simp [List.getD, hk, hk2])
    obtain ⟨xs, HXs⟩ := hid_name L[k]
    obtain ⟨ys, HYs⟩ := hid_name L[k + 1]
    rw [HXs.out] at HE d1 hl1 hm1
    rw [HYs.out] at HE d2 hl2 hm2
    have HL1 : Hid (Lies W pa (i64s xs)) := hl1
    have HL2 : Hid (Lies W qa (i64s ys)) := hl2
    have HCl : Hid _ := cmnL_le xs ys
    have qw : IntKind.i64.wrap ((k : Int) + 1) = (k : Int) + 1 := by rw [IntKind.wrap_i64]; omega
    have qb1 : ((k : Int) + 1).toNat = k + 1 := by omega
    have qb2 : (0 : Int) ≤ (k : Int) + 1 := by omega
    have qb3 : (k : Int) + 1 < (L.length : Int) := by omega
    have d2' : W.cell? ⟨b, o + k + 1, none⟩ = some (.slice qa ys.length qc) := (by rw [Nat.add_assoc]; exact d2)
    clear hl hl1 hl2
    go_enter Tryz.func44, Tryz.ntmps44
    go_wp2_with fail
    go_loopw [5] (fun x wr => ∃ m : Nat, m ≤ cmnL xs ys ∧ x = .int .i64 m ∧ Hid (Below W.heap.size W wr)) (fun x _ => cmnL xs ys - (intOf x).toNat)
    case atStart => exact ⟨0, Nat.zero_le _, rfl, Below.refl _ _⟩
    case round =>
      obtain ⟨m, hmc, rfl, HB⟩ := hrel
      have hw1 := (HB.out.cell (World.block_lt_of_cell? W _ d1)).trans d1
      have hw2 := (HB.out.cell (World.block_lt_of_cell? W _ d2)).trans d2
      have hw3 := (HB.out.cell (World.block_lt_of_cell? W _ d2')).trans d2'
      have hcl := HCl.out
      have HAt : Hid _ := cmnL_at xs ys m hmc
      by_cases hmx : m < xs.length
      · by_cases hmy : m < ys.length
        · have q2 : decide ((m : Int) < if ys.length < xs.length then (ys.length : Int) else (xs.length : Int)) = true := by rw [decide_eq_true_iff]; split <;> omega
          obtain ⟨b1, o1, rfl, e1⟩ := (HL1.out.keep HB.out) m (by rw [i64s_len]; exact hmx)
          obtain ⟨b2, o2, rfl, e2⟩ := (HL2.out.keep HB.out) m (by rw [i64s_len]; exact hmy)
          have g1 : wr.cell? ⟨b1, o1 + m, none⟩ = some (.int .i64 xs[m]) := by simpa [i64s] using e1
          have g2 : wr.cell? ⟨b2, o2 + m, none⟩ = some (.int .i64 ys[m]) := by simpa [i64s] using e2
          clear e1 e2
          obtain ⟨x, HX⟩ := hid_name xs[m]
          obtain ⟨y, HY⟩ := hid_name ys[m]
          rw [HX.out] at g1
          rw [HY.out] at g2
          by_cases he : x = y
          · have q3 : (x == y) = true := by simp [he]
            have HN : Hid (m + 1 ≤ cmnL xs ys) := (by
              have h := HAt.out
              have hne : ¬ m = cmnL xs ys := fun e => (h.1 e) ⟨hmx, hmy, by rw [List.getElem?_eq_getElem hmx, List.getElem?_eq_getElem hmy, HX.out, HY.out, he]⟩
              show _ ≤ _
              omega)
            clear he hcl
            go_upto_region 4 with fail
            go_quiet (fail)
            go_wp2
            go_roundw
            case rel => exact ⟨m + 1, HN.out, by go_num, below_dN HB.out _⟩
            case measure => have := HN.out; simp [intOf]; omega
          · have q3 : (x == y) = false := by simp [he]
            have HM : Hid (m = cmnL xs ys) := (HAt.out.2 fun h => he (by
              have h2 := h.2.2
              rw [List.getElem?_eq_getElem hmx, List.getElem?_eq_getElem hmy, HX.out, HY.out] at h2
              exact Option.some.inj h2))
            clear he hcl
            go_upto_region 4 with fail
            go_quiet (fail)
            go_wp2
            all_goals go_ret
            all_goals exact ⟨by rw [HE.out, ← HM.out]; rfl, below_dN HB.out _⟩
        · have q2 : decide ((m : Int) < if ys.length < xs.length then (ys.length : Int) else (xs.length : Int)) = false := by rw [decide_eq_false_iff_not]; split <;> omega
          have HM : Hid (m = cmnL xs ys) := HAt.out.2 fun h => hmy h.2.1
          clear hcl
          go_upto_region 4 with fail
          go_quiet (fail)
          go_wp2
          all_goals go_ret
          all_goals exact ⟨by rw [HE.out, ← HM.out]; rfl, below_dN HB.out _⟩
      · have q2 : decide ((m : Int) < if ys.length < xs.length then (ys.length : Int) else (xs.length : Int)) = false := by rw [decide_eq_false_iff_not]; split <;> omega
        have HM : Hid (m = cmnL xs ys) := HAt.out.2 fun h => hmx h.1
        clear hcl
        go_upto_region 4 with fail
        go_quiet (fail)
        go_wp2
        all_goals go_ret
        all_goals exact ⟨by rw [HE.out, ← HM.out]; rfl, below_dN HB.out _⟩
end Go.Proofs.YtbicfjimlpdnkaaGreatDoor

namespace Go.Proofs.YtbicfjimlpdnkaaGreatDoor
open Go.RowKit
set_option maxRecDepth 100000 in
set_option maxHeartbeats 1600000 in
theorem containsI_any (a : Option Addr) (c : Nat) (xs : List Int) (n : Int) (W : World) (hl : Lies W a (i64s xs)) (hm : xs.length ≤ 1000) :
    Calls Tryz.prog (79) #[.slice a xs.length c, .int .i64 n] W fun e w' => e = .returned (.bool (decide (n ∈ xs))) ∧ w' = W := by
  have HI : Hid (Calls Tryz.prog (96) #[.slice a xs.length c, .int .i64 n] W fun e w' => (∃ r : Int, e = .returned (.int .i64 r) ∧ (0 ≤ r ↔ n ∈ xs)) ∧ w' = W) := (by
    have HL : Hid (Lies W a (i64s xs)) := hl
    clear hl
    show Calls _ _ _ _ _
    go_enter Tryz.func96, Tryz.ntmps96
    go_wp2_with fail
    go_loop [8] (fun x => ∃ i : Nat, i ≤ xs.length ∧ x = .int .i64 i ∧ Hid (∀ j (h : j < xs.length), j < i → xs[j] ≠ n)) (fun x => xs.length - (intOf x).toNat)
    case atStart => exact ⟨0, Nat.zero_le _, rfl, fun j _ h => absurd h (Nat.not_lt_zero _)⟩
    case round =>
      obtain ⟨i, hik, rfl, HA⟩ := hrel
      by_cases hlt : i < xs.length
      · obtain ⟨b, o, rfl, hc⟩ := HL.out i (by rw [i64s_len]; exact hlt)
        have hc2 : W.cell? ⟨b, o + i, none⟩ = some (.int .i64 xs[i]) := by simpa [i64s] using hc
        clear hc
        obtain ⟨x, HX⟩ := hid_name xs[i]
        rw [HX.out] at hc2
        by_cases he : n = x
        · have q1 : (n == x) = true := by simp [he]
          have HE : Hid (decide (n ∈ xs) = true) := (by
            show _ = _
            rw [decide_eq_true_iff, he, ← HX.out]
            exact List.getElem_mem hlt)
          clear he
          go_wp2
          go_ret
          exact ⟨⟨(i : Int), rfl, ⟨fun _ => of_decide_eq_true HE.out, fun _ => by omega⟩⟩, rfl⟩
        · have q1 : (n == x) = false := by simp [he]
          have HN : Hid (∀ j (h : j < xs.length), j < i + 1 → xs[j] ≠ n) := fun j h hj => (by
            by_cases e : j = i
            · subst e; rw [HX.out]; exact fun h => he h.symm
            · exact HA.out j h (by omega))
          clear he
          go_wp2
          go_round
          case rel => exact ⟨i + 1, by omega, by go_num, HN⟩
          case measure => simp [intOf]; omega
      · obtain rfl : i = xs.length := by omega
        have HE : Hid (decide (n ∈ xs) = false) := (by
          show _ = _
          rw [decide_eq_false_iff_not]
          intro h
          obtain ⟨j, hj, e⟩ := List.getElem_of_mem h
          exact HA.out j hj hj e)
        go_wp2
        go_ret
        exact ⟨⟨-1, rfl, ⟨fun h => absurd h (by omega), fun h => absurd h (of_decide_eq_false HE.out)⟩⟩, rfl⟩)
  clear hl
  go_enter Tryz.func79, Tryz.ntmps79
  go_wp2_with fail
  refine Calls.mono HI.out ?_
  rintro e w1 ⟨⟨r, rfl, hr⟩, hw⟩
  obtain rfl := hw.symm
  have HR : Hid _ := hr
  clear hr
  go_wp2
  go_ret
  exact ⟨by rw [show decide (n ∈ xs) = decide (0 ≤ r) from decide_eq_decide.2 HR.out.symm]; rfl, rfl⟩
theorem fstI_at (L : List (List Int)) (n : Int) (i : Nat) (hi : i < L.length) (h1 : n ∈ L[i]) (h2 : ∀ j (h : j < L.length), j < i → n ∉ L[j]) : fstI L n = i := by
  unfold fstI
  rw [List.findIdx_eq hi]
  exact ⟨by simpa using h1, fun j hj => by simpa using h2 j (by omega) hj⟩
set_option maxRecDepth 100000 in
set_option maxHeartbeats 3200000 in
theorem firstIn_any (a : Option Addr) (c : Nat) (L : List (List Int)) (n : Int) (hn : ∃ l ∈ L, n ∈ l) (hm : L.length ≤ 1000) (W : World) (hl : LiesLL W a L) :
    Calls Tryz.prog 45 #[.slice a L.length c, .int .i64 n] W fun e w' => e = .returned (.int .i64 (fstI L n : Nat)) ∧ Below W.heap.size W w' := by
  obtain ⟨w0, HW0, HX, HB⟩ := one_box W #[.int .i64 n] 3
  have HI : Hid (Calls Tryz.prog (77) #[.slice a L.length c, .func (.func 78) #[] #[.pointer (some ⟨W.heap.size, 0, none⟩)]] w0 fun e w' => e = .returned (.int .i64 (fstI L n : Nat)) ∧ Below w0.heap.size w0 w') := (by
    have HL : Hid (LiesLL w0 a L) := hl.keep HB.out
    have HN : Hid (∃ l ∈ L, n ∈ l) := hn
    clear hl hn
    show Calls _ _ _ _ _
    go_enter Tryz.func77, Tryz.ntmps77
    go_wp2_with fail
    go_loopw [8] (fun x wr => ∃ i : Nat, i ≤ L.length ∧ x = .int .i64 i ∧ Hid (∀ j (h : j < L.length), j < i → n ∉ L[j]) ∧ Hid (Below w0.heap.size w0 wr)) (fun x _ => L.length - (intOf x).toNat)
    case atStart => exact ⟨0, Nat.zero_le _, rfl, fun j _ h => absurd h (Nat.not_lt_zero _), Below.refl _ _⟩
    case round =>
      obtain ⟨i, hik, rfl, HA, HBr⟩ := hrel
      by_cases hlt : i < L.length
      · obtain ⟨b, o, pa, pc, rfl, d1, hl1, hm1⟩ := (HL.out.keep HBr.out) i hlt
        obtain ⟨x0, _⟩ := row_one (blk_keep HBr.out HX.out)
        obtain ⟨xs, HXs⟩ := hid_name L[i]
        rw [HXs.out] at d1 hl1 hm1
        have HC : Hid (Calls Tryz.prog 78 #[.slice pa xs.length pc, .pointer (some ⟨W.heap.size, 0, none⟩)] wr fun e w' => e = .returned (.bool (decide (n ∈ xs))) ∧ Below wr.heap.size wr w') := (by
          have HCt : Hid _ := containsI_any pa pc xs n wr hl1 hm1
          clear hl1 hm1
          show Calls _ _ _ _ _
          go_enter Tryz.func78, Tryz.ntmps78
          go_wp2_with fail
          refine Calls.mono HCt.out ?_
          rintro e w1 ⟨rfl, hw⟩
          obtain rfl := hw.symm
          obtain ⟨bb, HBb⟩ := hid_name (decide (n ∈ xs))
          rw [HBb.out]
          go_wp2
          go_ret
          exact ⟨by rw [HBb.out]; rfl, Below.refl _ _⟩)
        clear hl1
        go_wp2_with fail
        refine Calls.mono HC.out ?_
        rintro e w1 ⟨rfl, hb1⟩
        have HB1 : Hid (Below w0.heap.size w0 w1) := HBr.out.trans (hb1.mono HBr.out.size)
        clear hb1
        by_cases hin : n ∈ xs
        · have HE : Hid (fstI L n = i) := fstI_at L n i hlt (by rw [HXs.out]; exact hin) HA.out
          rw [decide_eq_true hin]
          clear hin
          go_wp2
          go_ret
          exact ⟨by rw [HE.out]; rfl, HB1.out⟩
        · have HA2 : Hid (∀ j (h : j < L.length), j < i + 1 → n ∉ L[j]) := fun j h hj => (by
            by_cases e : j = i
            · subst e; rw [HXs.out]; exact hin
            · exact HA.out j h (by omega))
          rw [decide_eq_false hin]
          clear hin
          go_wp2
          go_roundw
          case rel => exact ⟨i + 1, by omega, by go_num, HA2, HB1⟩
          case measure => simp [intOf]; omega
      · exfalso
        obtain ⟨l, h1, h2⟩ := HN.out
        obtain ⟨j, hj, rfl⟩ := List.getElem_of_mem h1
        exact HA.out j hj (by omega) h2)
  clear hl hn
  go_enter Tryz.func45, Tryz.ntmps45
  go_wp2_with fail
  rw [HW0.out]
  refine Calls.mono HI.out ?_
  rintro e w1 ⟨rfl, hb1⟩
  have HB1 : Hid (Below W.heap.size W w1) := HB.out.trans (hb1.mono HB.out.size)
  clear hb1
  go_wp2
  go_ret
  exact ⟨rfl, HB1.out⟩
end Go.Proofs.YtbicfjimlpdnkaaGreatDoor

namespace Go.Proofs.YtbicfjimlpdnkaaGreatDoor
open Go.RowKit
/-- The first so many levels. -/
def nxtP (L : List (List Int)) (k m : Nat) : List Int := (List.range m).map fun r => ((nxtK L k r : Nat) : Int)
theorem nxtP_succ (L : List (List Int)) (k m : Nat) : nxtP L k (m + 1) = nxtP L k m ++ [((nxtK L k m : Nat) : Int)] := by simp [nxtP, List.range_succ]
set_option maxRecDepth 100000 in
set_option maxHeartbeats 6400000 in
theorem nextOf_any (a : Option Addr) (c : Nat) (L : List (List Int)) (k : Nat) (hk : k < L.length) (hm : L.length ≤ 1000) (W : World) (hl : LiesLL W a L) :
    Calls Tryz.prog 25 #[.slice a L.length c, .int .i64 (k : Nat)] W fun e w' => (∃ lv, e = .returned lv ∧ w'.ownsRow W.heap.size 3 1 lv (nxtR L k).length (i64s (nxtR L k))) ∧ Below W.heap.size W w' := by
  obtain ⟨iv, hvi, hv0, hv1, hv2⟩ := info_parts Tryz.infoI
  have HL : Hid (LiesLL W a L) := hl
  obtain ⟨b, o, pa, pc, rfl, d1, hl1, hm1⟩ := hl k hk
  have HC : Hid _ := common_any (some ⟨b, o, none⟩) c L k hk hm W HL.out
  have HG : Hid (L.getD k [] = L[k]) := (by show _ = _; simp [List.getD, hk])
  have HF : Hid (∀ (j : Nat) (hj : j < L[k].length) (w : World), Below W.heap.size W w → Calls Tryz.prog 45 #[.slice (some ⟨b, o, none⟩) L.length c, .int .i64 L[k][j]] w fun e w' => e = .returned (.int .i64 (fstI L L[k][j] : Nat)) ∧ Below w.heap.size w w') := fun j hj w hb => firstIn_any _ c L L[k][j] ⟨L[k], List.getElem_mem hk, List.getElem_mem hj⟩ hm w (HL.out.keep hb)
  have HL1 : Hid (Lies W pa (i64s L[k])) := hl1
  have HFl : Hid (∀ (j : Nat) (hj : j < L[k].length), fstI L L[k][j] < L.length) := fun j hj => fstI_lt L _ ⟨L[k], List.getElem_mem hk, List.getElem_mem hj⟩
  obtain ⟨cm, HCm⟩ := hid_name (cmnK L k)
  rw [HCm.out] at HC
  clear hl hl1
  go_enter Tryz.func25, Tryz.ntmps25
  go_wp2_with fail
  refine Calls.mono HC.out ?_
  rintro e w1 ⟨rfl, hb1⟩
  have HB1 : Hid (Below W.heap.size W w1) := hb1
  have d1a := (hb1.cell (World.block_lt_of_cell? W _ d1)).trans d1
  clear hb1 HC
  go_wp2_with fail
  go_loopw [5, 17] (fun y x wr => ∃ i : Nat, i ≤ L[k].length + 1 ∧ x = .int .i64 i ∧ Hid (wr.ownsRow W.heap.size 3 1 y i (i64s (nxtP L k i))) ∧ Hid (Below W.heap.size W wr)) (fun _ x _ => L[k].length + 1 - (intOf x).toNat)
  case atStart => exact ⟨0, Nat.zero_le _, rfl, World.ownsRow_nil _ _ _ _, HB1⟩
  case round =>
    obtain ⟨i, hik, rfl, HRow, HBr⟩ := hrel
    obtain ⟨la, lc, hlv⟩ := own_slC HRow.out
    subst hlv
    have e1 := (HBr.out.cell (World.block_lt_of_cell? W _ d1)).trans d1
    by_cases hlt : i < L[k].length + 1
    · have ql : decide ((i : Int) < (L[k].length : Int) + 1) = true := by rw [decide_eq_true_iff]; omega
      have HPush : Hid (∀ (z : Int) (wx : World) (l2 : Value) (w2 : World) (ob : Obj), z = ((nxtK L k i : Nat) : Int) → Below wr.heap.size wr wx → w2.ownsRow W.heap.size 3 1 l2 (i + 1) (i64s (nxtP L k i) ++ [.int .i64 z]) → (wx.alloc ob).grownBy w2 (Value.slice la i lc).ownBlock → w2.ownsRow W.heap.size 3 1 l2 (i + 1) (i64s (nxtP L k (i + 1))) ∧ Below W.heap.size W w2) := fun z wx l2 w2 ob hz hbx h1 h2 => (by
        have hbw := HBr.out.trans (hbx.mono HBr.out.size)
        refine ⟨?_, (hbw.alloc hbw.size ob).grown h2 (by have := hbw.size; simp; omega) (fun k hk => (HRow.out.lt k hk).1)⟩
        rw [nxtP_succ, i64s_app, ← hz]
        exact h1)
      by_cases hic : i ≤ cm
      · have q2 : decide (i ≤ cm) = true := by simp; omega
        have HZ : Hid (((k : Int) + 1) = ((nxtK L k i : Nat) : Int)) := (by show _ = _; rw [nxtK, HCm.out, if_pos hic]; simp)
        have HR2 : Hid ((wr.alloc (.cells #[.int .i64 ((k : Int) + 1)] 3)).ownsRow W.heap.size 3 1 (.slice la i lc) i (i64s (nxtP L k i))) := HRow.out.alloc _
        clear hic
        go_wp2_with (at_builtin; refine wpList_append_where _ rfl _ _ 36 rfl W.heap.size 3 iv (.int .i64 0) 1 8 Tryz.underlying36 hvi hv0 hv1 hv2 rfl (by decide) (.slice la i lc) i (i64s (nxtP L k i)) rfl HR2.out ⟨wr.heap.size, 0, none⟩ 1 1 [.int .i64 ((k : Int) + 1)] rfl rfl (cell_one_new _ _ _) (by intro u hu; simp at hu; subst hu; rfl) (by unfold maxLen; omega) (by omega) (by have := HBr.out.size; simp; omega) (by decide) ?_; intro l2 w2 hown2 hgr2 _; have HF2 : Hid _ := HPush.out _ _ _ _ _ HZ.out (Below.refl _ _) hown2 hgr2; obtain ⟨a9, c9, rfl⟩ := own_slC hown2)
        go_roundw
        case rel => exact ⟨i + 1, by omega, by go_num, HF2.out.1, HF2.out.2⟩
        case measure => simp [intOf]; omega
      · have q2 : decide (i ≤ cm) = false := by simp; omega
        have hi1 : i - 1 < L[k].length := by omega
        obtain ⟨b1, o1, rfl, e2⟩ := (HL1.out.keep HBr.out) (i - 1) (by rw [i64s_len]; exact hi1)
        have g1 : wr.cell? ⟨b1, o1 + (i - 1), none⟩ = some (.int .i64 L[k][i - 1]) := by simpa [i64s] using e2
        clear e2
        have HCf : Hid _ := HF.out (i - 1) hi1 wr HBr.out
        have HFt := HFl.out (i - 1) hi1
        have HZ : Hid (((fstI L L[k][i - 1] : Nat) : Int) = ((nxtK L k i : Nat) : Int)) := (by
          show _ = _
          rw [nxtK, HCm.out, if_neg hic, HG.out]
          simp [List.getD, hi1])
        obtain ⟨nn, HNn⟩ := hid_name L[k][i - 1]
        rw [HNn.out] at HCf HZ g1 HFt
        obtain ⟨ff, HFf⟩ := hid_name (fstI L nn)
        rw [HFf.out] at HCf HZ HFt
        have qi : ((i : Int) - 1).toNat = i - 1 := by omega
        have qi2 : (i : Int) - 1 = ((i - 1 : Nat) : Int) := by omega
        obtain ⟨j, HJ⟩ := hid_name (i - 1)
        rw [HJ.out] at g1 qi qi2 hi1
        have qw : IntKind.i64.wrap (j : Int) = (j : Int) := by rw [IntKind.wrap_i64]; omega
        go_wp2_with fail
        refine Calls.mono HCf.out ?_
        rintro e w3 ⟨rfl, hb3⟩
        have HB3 : Hid (Below wr.heap.size wr w3) := hb3
        have HR2 : Hid ((w3.alloc (.cells #[.int .i64 (ff : Nat)] 3)).ownsRow W.heap.size 3 1 (.slice la i lc) i (i64s (nxtP L k i))) := (ow_kept HRow.out hb3).alloc _
        clear hb3
        go_wp2_with (at_builtin; refine wpList_append_where _ rfl _ _ 36 rfl W.heap.size 3 iv (.int .i64 0) 1 8 Tryz.underlying36 hvi hv0 hv1 hv2 rfl (by decide) (.slice la i lc) i (i64s (nxtP L k i)) rfl HR2.out ⟨w3.heap.size, 0, none⟩ 1 1 [.int .i64 (ff : Nat)] rfl rfl (cell_one_new _ _ _) (by intro u hu; simp at hu; subst hu; rfl) (by unfold maxLen; omega) (by omega) (by have := HBr.out.size; have := HB3.out.size; simp; omega) (by decide) ?_; intro l2 w2 hown2 hgr2 _; have HF2 : Hid _ := HPush.out _ _ _ _ _ HZ.out HB3.out hown2 hgr2; obtain ⟨a9, c9, rfl⟩ := own_slC hown2)
        go_roundw
        case rel => exact ⟨i + 1, by omega, by go_num, HF2.out.1, HF2.out.2⟩
        case measure => simp [intOf]; omega
    · obtain rfl : i = L[k].length + 1 := by omega
      have ql : decide (((L[k].length + 1 : Nat) : Int) < (L[k].length : Int) + 1) = false := by rw [decide_eq_false_iff_not]; omega
      have HE : Hid (wr.ownsRow W.heap.size 3 1 (.slice la (L[k].length + 1) lc) (nxtR L k).length (i64s (nxtR L k))) := (by
        rw [nxtR_len, HG.out]
        have e : nxtR L k = nxtP L k (L[k].length + 1) := by unfold nxtR nxtP; rw [HG.out]
        rw [e]
        exact HRow.out)
      go_wp2
      go_ret
      exact ⟨⟨_, rfl, HE.out⟩, HBr.out⟩
end Go.Proofs.YtbicfjimlpdnkaaGreatDoor
