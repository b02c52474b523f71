/-
  The walk of the law EncPrefix.
-/
import Derived.Test.YtjpdghpkbpdmeaaDoorEOpenStrs
import Derived.Test.YtjpdghpkbpdmeaaDoorEPrefOf
import Derived.Test.YtjpdghpkbpdmeaaDoorEFour
import Derived.Test.YtjpdghpkbpdmeaaDoorELaid8
namespace Go.Proofs.YtjpdghpkbpdmeaaDoor
open Go.RowKit
theorem ec' {w : World} {A : Nat → Addr} (h : Errs w A) (i : Nat) (hi : i < 8) : w.cell? ⟨errG i, 0, none⟩ = some (errV (A i)) := (h.at_ i hi).var
/-- Is one of the first so many too long? -/
def LongB (ts : List ByteArray) (i : Nat) (b : Bool) : Prop := b = true ↔ ∃ j, ∃ h : j < ts.length, j < i ∧ 100 < ts[j].size
/-- 'append(own, l...)', own nil: a copy. -/
theorem copyS (a : Option Addr) (c : Nat) (ts : List ByteArray) (w : World) (hn : ts.length ≤ 20000) (h : LiesS w a ts) :
    ∃ v' w' a' c', (Builtin.append_ #[44, 44] 44 #[.slice none 0 0, .slice a ts.length c]).run Tryd.prog w = .ok v' w' ∧ v' = .slice a' ts.length c' ∧ LiesS w' a' ts ∧ Below w.heap.size w w' := by
  obtain ⟨i0, hi, hz0, hz1, hz2⟩ := info_parts Tryd.infoSt
  cases a with
  | none =>
    have h0 : ts.length = 0 := by
      by_cases h1 : 0 < ts.length
      · obtain ⟨b, o, e, _⟩ := h 0 h1
        cases e
      · omega
    obtain rfl : ts = [] := List.eq_nil_of_length_eq_zero h0
    exact ⟨.slice none 0 0, w, none, 0, by simp [Builtin.append_, run_underlying Tryd.underlying44, sizeOf, typeInfo, hi, Builtin.lenOf, Builtin.firstCells], rfl, fun j hj => absurd hj (by simp), Below.refl _ _⟩
  | some ad =>
    have hn' : ∀ j u, (strsC ts)[j]? = some u → w.cell? (ad.add j) = some u := fun j u hu => by
      obtain ⟨hj, rfl⟩ := List.getElem?_eq_some_iff.1 hu
      rw [strsC_len] at hj
      obtain ⟨b, o, e, hc⟩ := h j hj
      obtain rfl := Option.some.inj e
      rw [addr_pl, hc]
      simp [strsC]
    obtain ⟨v', w', hr, hown, hgrow, _⟩ := run_append_own (P := Tryd.prog) w w.heap.size 44 44 9 i0 (.string ⟨#[]⟩) 1 16 Tryd.underlying44 hi hz0 hz1 hz2 rfl (by decide) (.slice none 0 0) 0 [] (World.ownsRow_nil w w.heap.size 9 1) ad ts.length c (strsC ts) (by rw [strsC_len, Nat.mul_one]) hn' (by intro u hu; obtain ⟨x, _, rfl⟩ := List.mem_map.1 hu; rfl) (by unfold maxLen; omega) (by omega) (Nat.le_refl _)
    rw [List.nil_append] at hown
    obtain ⟨a', c', rfl, hl⟩ := liesS_own hown
    exact ⟨_, w', a', c', hr, rfl, hl, (Below.refl _ _).grown hgrow (Nat.le_refl _) (fun k hk => by simp [Value.ownBlock] at hk)⟩
set_option maxRecDepth 100000 in
set_option maxHeartbeats 800000 in
theorem encPrefix_none (a : Option Addr) (n c : Nat) (w : World) (A : Nat → Addr) (hE : Errs w A) (hm : n ≤ maxLen) (h2 : 200 < n) :
    Calls Tryd.prog 7 #[.slice a n c] w fun e w' => e = .returned (.bool true) ∧ Below w.heap.size w w' := by
  unfold maxLen at hm
  have HA : Hid (Errs w A) := hE
  clear hE
  go_enter Tryd.func7, Tryd.ntmps7
  go_wp2_with fail
  refine (four_any _ _ _ _ _ (ec' HA.out 3 (by omega)) (ec' HA.out 2 (by omega))).mono ?_
  rintro e w1 ⟨rfl, hb1⟩
  go_wp2_with fail
  go_ret
  exact ⟨rfl, hb1⟩
set_option maxRecDepth 100000 in
set_option maxHeartbeats 3200000 in
theorem encPrefix_walk (a : Option Addr) (c : Nat) (ts : List ByteArray) (w : World) (A : Nat → Addr) (hE : Errs w A) (h2 : ts.length ≤ 200) (hl : LiesS w a ts) (hmx : ∀ t ∈ ts, t.size ≤ maxLen) :
    Calls Tryd.prog 7 #[.slice a ts.length c] w fun e w' => e = .returned (.bool true) ∧ Below w.heap.size w w' := by
  obtain ⟨i0, hi, hz0, hz1, hz2⟩ := info_parts Tryd.infoSt
  have HA : Hid (Errs w A) := hE
  have HL : Hid (LiesS w a ts) := hl
  have HM : Hid (∀ t ∈ ts, t.size ≤ maxLen) := hmx
  clear hE hl hmx
  go_enter Tryd.func7, Tryd.ntmps7
  go_wp2_with fail
  refine (four_any _ _ _ _ _ (ec' HA.out 3 (by omega)) (ec' HA.out 2 (by omega))).mono ?_
  rintro e w1 ⟨rfl, hb1⟩
  have HL1 : Hid (LiesS w1 a ts) := HL.out.keep hb1
  go_wp2_with fail
  go_loop [4, 5, 6] (fun n g x => ∃ (m : Int) (b : Bool) (i : Nat), i ≤ ts.length ∧ x = .int .i64 i ∧ n = .int .i64 m ∧ g = .bool b ∧ Hid (LongB ts i b)) (fun _ _ x => ts.length - (intOf x).toNat)
  case atStart => exact ⟨0, false, 0, Nat.zero_le _, rfl, rfl, rfl, ⟨fun h => (by cases h), fun ⟨j, _, h, _⟩ => absurd h (by omega)⟩⟩
  case round =>
    obtain ⟨m, g, i, hik, rfl, rfl, rfl, HB⟩ := hrel
    by_cases hlt : i < ts.length
    · obtain ⟨b, o, rfl, hc⟩ := HL1.out i hlt
      have hmm := HM.out _ (List.getElem_mem hlt)
      unfold maxLen at hmm
      cases g with
      | true =>
        go_wp2
        go_round
        case rel => exact ⟨_, true, i + 1, by omega, by go_num, rfl, rfl, ⟨fun _ => by obtain ⟨j, h, h1, h2⟩ := HB.out.1 rfl; exact ⟨j, h, by omega, h2⟩, fun _ => rfl⟩⟩
        case measure => simp [intOf]; omega
      | false =>
        by_cases hlo : 100 < ts[i].size
        · have HO : Hid (100 < ts[i].size) := hlo
          go_wp2
          go_round
          case rel => exact ⟨_, true, i + 1, by omega, by go_num, rfl, by simp; omega, ⟨fun _ => ⟨i, hlt, by omega, HO.out⟩, fun _ => rfl⟩⟩
          case measure => simp [intOf]; omega
        · have HO : Hid (¬ 100 < ts[i].size) := hlo
          go_wp2
          go_round
          case rel => exact ⟨_, false, i + 1, by omega, by go_num, rfl, by simp; omega, ⟨fun h => (by cases h), fun ⟨j, h, h1, h2⟩ => if e : j = i then absurd (by subst e; exact h2) HO.out else HB.out.2 ⟨j, h, by omega, h2⟩⟩⟩
          case measure => simp [intOf]; omega
    · obtain rfl : i = ts.length := by omega
      by_cases hm8 : 8000 < m
      · go_wp2
        go_ret
        exact ⟨rfl, hb1⟩
      · have hcp := copyS a c ts w1 (by omega) HL1.out
        obtain ⟨v', w2, a2, c2, hap, rfl, hl2, hb2⟩ := hcp
        have hb12 := hb1.trans (hb2.mono hb1.size)
        have HL2 : Hid (LiesS w2 a2 ts) := hl2
        clear hl2
        obtain ⟨p, hp1, hp2, hp3⟩ := first_long ts
        go_wp2_with (at_builtin; refine Lib.wpList_append_run _ rfl _ _ 44 44 rfl _ _ rfl rfl _ _ hap ?_)
        refine (prefix_gen a2 ts c2 p w2 _ (ec' (HA.out.keep hb12) 1 (by omega)) (by omega) HM.out HL2.out hp1 hp2 hp3).mono ?_
        rintro e w3 ⟨rfl, hb3⟩
        have hb13 := hb12.trans (hb3.mono hb12.size)
        cases g with
        | true =>
          have hpl : ¬ p = ts.length := fun e => by
            obtain ⟨j, h, h1, h2⟩ := HB.out.1 rfl
            have := hp2 j h (by omega)
            omega
          rw [if_neg hpl]
          go_wp2_with fail
          refine (coded_sent w3 A (HA.out.keep hb13) 1 (by omega) 2 true (by decide)).mono ?_
          rintro e w4 ⟨rfl, hb4⟩
          go_wp2
          go_ret
          exact ⟨rfl, hb13.trans (hb4.mono hb13.size)⟩
        | false =>
          have hpl : p = ts.length := by
            by_cases h : p < ts.length
            · exact absurd (HB.out.2 ⟨p, h, h, hp3 h⟩) (by simp)
            · omega
          rw [if_pos hpl]
          go_wp2_with fail
          refine (prefixOf_any a ts c w3 (by omega) (HL.out.keep hb13) (fun t ht => ?_)).mono ?_
          · obtain ⟨j, hj, rfl⟩ := List.getElem_of_mem ht
            exact hp2 j hj (by omega)
          rintro e w4 ⟨rfl, hb4⟩
          go_wp2
          go_ret
          exact ⟨ret_b (by unfold mk; simp), hb13.trans (hb4.mono hb13.size)⟩
end Go.Proofs.YtjpdghpkbpdmeaaDoor
