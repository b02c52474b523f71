/-
  enc.ReadDelta: the numbers that bytes say by their differences; they are what writes the same bytes.
-/
import Derived.Test.YtjpdghpkbpdmeaaDoorGRdSteps
import Derived.Test.YtjpdghpkbpdmeaaDoorGRdBools
namespace Go.Proofs.YtjpdghpkbpdmeaaDoor
open Go.RowKit
/-- Which numbers bytes are, by their differences. -/
def IsDl (kd : Int) (s : List UInt8) (n : Nat) (vs : List Vl) : Prop := ∃ xs, rdSteps s n = some xs ∧ xs.length = n ∧ vs = kvs kd xs ∧ (∀ x ∈ xs, -9223372036854775808 ≤ x ∧ x ≤ 9223372036854775807) ∧ (∀ j (h : j < vs.length), vs[j].Ok kd) ∧ deltaB vs = s
theorem bytes_back (s : ByteArray) (l : List UInt8) (h : (⟨l.toArray⟩ : ByteArray) = s) : l = s.data.toList := by
  subst h
  simp
theorem bytes_to (s : ByteArray) (l : List UInt8) (h : l = s.data.toList) : (⟨l.toArray⟩ : ByteArray) = s := by
  subst h
  rfl
set_option maxRecDepth 100000 in
set_option maxHeartbeats 1600000 in
theorem readDelta_any (kd : Int) (s : ByteArray) (n : Nat) (w : World) (st kt : TypeId) (sp kp : Value) (hg : w.cell? ⟨0, 0, none⟩ = some (.iface st sp)) (hgk : w.cell? ⟨2, 0, none⟩ = some (.iface kt kp)) (hs : s.size ≤ 1000000) (hn : n ≤ 20000) (hk : kd = 2 ∨ kd = 3) :
    Calls Tryd.prog 25 #[.int .i64 kd, .string s, .int .i64 n] w fun e w' => RetRd (IsDl kd s.data.toList n) n (.iface st sp) e w' ∧ Below w.heap.size w w' := by
  have HG : Hid _ := hg
  have HGK : Hid _ := hgk
  have HK : Hid (kd = 2 ∨ kd = 3) := hk
  have hd : decide (kd = 2 ∨ kd = 3) = true := by simp [hk]
  have hk1 : 1 ≤ kd ∧ kd ≤ 5 := by omega
  clear hg hgk hk
  go_enter Tryd.func25, Tryd.ntmps25
  go_wp2_with fail
  refine (checkCount_fine kd n w hk1.1 hk1.2 (by omega) (by omega)).mono ?_
  rintro e w1 ⟨rfl, hw⟩
  obtain rfl := hw.symm
  go_wp2_with fail
  refine (hasDelta_any kd _).mono ?_
  rw [hd]
  rintro e w2 ⟨rfl, hw⟩
  obtain rfl := hw.symm
  go_wp2_with fail
  refine (readSteps_any kd s n w st sp HG.out hs hn).mono ?_
  rintro e w1 ⟨⟨xs, a, c, ho, hxl, hin, rfl, hl⟩ | ⟨ho, rfl⟩, hb1⟩
  · have hgk1 := (hb1.cell (World.block_lt_of_cell? w _ HGK.out)).trans HGK.out
    have hg1 := (hb1.cell (World.block_lt_of_cell? w _ HG.out)).trans HG.out
    have HG1 : Hid _ := hg1
    have HL1 : Hid (LiesV w1 a (kvs kd xs)) := hl
    have hvl : (kvs kd xs).length = n := by rw [kvs_len, hxl]
    have HX1 : Hid (∀ j (h : j < (kvs kd xs).length), -9223372036854775808 ≤ (kvs kd xs)[j].n ∧ (kvs kd xs)[j].n ≤ 9223372036854775807) := fun j h => by
      simp only [kvs, List.getElem_map]
      exact hin _ (List.getElem_mem _)
    have HO : Hid (rdSteps s.data.toList n = some xs) := ho
    have HI : Hid (xs.length = n ∧ ∀ x ∈ xs, -9223372036854775808 ≤ x ∧ x ≤ 9223372036854775807) := ⟨hxl, hin⟩
    have HGK1 : Hid _ := hgk1
    clear hg1 hl hin ho hxl hgk1
    by_cases hok : ∀ j (h : j < (kvs kd xs).length), (kvs kd xs)[j].Ok kd
    · have hdr := delta_right a (kvs kd xs) c kd w1 kt kp HGK1.out (by omega) HK.out HL1.out hok HX1.out
      rw [hvl] at hdr
      have HOK : Hid _ := hok
      clear hok
      go_wp2_with fail
      refine hdr.mono ?_
      clear hdr
      rintro e w2 ⟨rfl, hb2⟩
      have hb12 := hb1.trans (hb2.mono hb1.size)
      have hg2 := (hb2.cell (World.block_lt_of_cell? w1 _ HG1.out)).trans HG1.out
      by_cases hq : (⟨(deltaB (kvs kd xs)).toArray⟩ : ByteArray) = s
      · have HI2 : Hid (IsDl kd s.data.toList n (kvs kd xs)) := ⟨xs, HO.out, HI.out.1, rfl, HI.out.2, HOK.out, bytes_back s _ hq⟩
        rw [hq]
        clear hq
        have HL2 : Hid _ := LiesV.keep HL1.out hb2
        go_wp2
        go_ret2
        exact ⟨Or.inl ⟨_, a, c, HI2.out, rfl, HL2.out⟩, hb12⟩
      · have HI2 : Hid (¬ ∃ vs, IsDl kd s.data.toList n vs) := fun ⟨vs, ys, h1, h2, h3, h4, h5, h6⟩ => by
          rw [HO.out] at h1
          injection h1 with h1
          subst h1 h3
          exact hq (bytes_to s _ h6)
        have hq2 : ((⟨(deltaB (kvs kd xs)).toArray⟩ : ByteArray).toList == s.toList) = false := by simp only [beq_eq_false_iff_ne, ne_eq]; exact fun h => hq (str_ext h)
        clear hq
        generalize (⟨(deltaB (kvs kd xs)).toArray⟩ : ByteArray) = t at *
        go_wp2
        go_quiet (fail)
        go_wp2
        go_ret2
        exact ⟨Or.inr ⟨HI2.out, rfl⟩, dN hb12 _⟩
    · have hdf : Calls Tryd.prog 24 #[.int .i64 kd, .slice a n c] w1 fun e w' => (∃ p, e = .returned (.tuple #[.string ⟨#[]⟩, .iface 96 (.pointer (some ⟨p, 0, none⟩))])) ∧ Below w1.heap.size w1 w' := by
        rw [← hvl]
        refine (delta_fault a (kvs kd xs) c kd w1 kt kp HGK1.out (by omega) hk1 HL1.out hok).mono ?_
        rintro e w2 ⟨⟨i, p, hi, rfl, _, _, _, _⟩, hb2⟩
        exact ⟨⟨p, rfl⟩, hb2⟩
      have HI2 : Hid (¬ ∃ vs, IsDl kd s.data.toList n vs) := fun ⟨vs, ys, h1, h2, h3, h4, h5, h6⟩ => by
        rw [HO.out] at h1
        injection h1 with h1
        subst h1 h3
        exact hok h5
      clear hok
      go_wp2_with fail
      refine hdf.mono ?_
      clear hdf
      rintro e w2 ⟨⟨p, rfl⟩, hb2⟩
      have hb12 := hb1.trans (hb2.mono hb1.size)
      have hg2 := (hb2.cell (World.block_lt_of_cell? w1 _ HG1.out)).trans HG1.out
      go_wp2
      go_quiet (fail)
      go_wp2
      go_ret2
      exact ⟨Or.inr ⟨HI2.out, rfl⟩, dN hb12 _⟩
  · have HI2 : Hid (¬ ∃ vs, IsDl kd s.data.toList n vs) := fun ⟨vs, ys, h1, _⟩ => by
      rw [ho] at h1
      cases h1
    clear ho
    go_wp2
    go_ret2
    exact ⟨Or.inr ⟨HI2.out, rfl⟩, hb1⟩
set_option maxRecDepth 100000 in
/-- ReadDelta at a kind that has none. -/
theorem readDelta_kind (kd : Int) (s : ByteArray) (n : Nat) (w : World) (kt : TypeId) (kp : Value) (hgk : w.cell? ⟨2, 0, none⟩ = some (.iface kt kp)) (hn : n ≤ 20000) (hk1 : 1 ≤ kd ∧ kd ≤ 5) (hk : ¬ (kd = 2 ∨ kd = 3)) :
    Calls Tryd.prog 25 #[.int .i64 kd, .string s, .int .i64 n] w fun e w' => e = .returned (.tuple #[.slice none 0 0, .iface kt kp]) ∧ Below w.heap.size w w' := by
  have HGK : Hid _ := hgk
  have hd : decide (kd = 2 ∨ kd = 3) = false := by simp only [decide_eq_false_iff_not]; exact hk
  clear hk
  go_enter Tryd.func25, Tryd.ntmps25
  go_wp2_with fail
  refine (checkCount_fine kd n w hk1.1 hk1.2 (by omega) (by omega)).mono ?_
  rintro e w1 ⟨rfl, hw⟩
  obtain rfl := hw.symm
  go_wp2_with fail
  refine (hasDelta_any kd _).mono ?_
  rw [hd]
  rintro e w2 ⟨rfl, hw⟩
  obtain rfl := hw.symm
  go_wp2
  go_quiet (fail)
  go_wp2
  go_ret2
  exact ⟨rfl, dN (Below.refl _ _) _⟩
set_option maxRecDepth 100000 in
/-- ReadDelta at a kind or a count that is none. -/
theorem readDelta_none (kd : Int) (s : ByteArray) (n : Int) (w : World) (kt bt : TypeId) (kp bp : Value) (hgk : w.cell? ⟨2, 0, none⟩ = some (.iface kt kp)) (hgb : w.cell? ⟨3, 0, none⟩ = some (.iface bt bp)) (h : ¬ ((1 ≤ kd ∧ kd ≤ 5) ∧ 0 ≤ n ∧ n ≤ 20000)) :
    Calls Tryd.prog 25 #[.int .i64 kd, .string s, .int .i64 n] w fun e w' => e = .returned (.tuple #[.slice none 0 0, if 1 ≤ kd ∧ kd ≤ 5 then .iface bt bp else .iface kt kp]) ∧ w' = w := by
  have HGK : Hid _ := hgk
  have HGB : Hid _ := hgb
  have HN : Hid (¬ ((1 ≤ kd ∧ kd ≤ 5) ∧ 0 ≤ n ∧ n ≤ 20000)) := h
  clear hgk hgb h
  by_cases hk : 1 ≤ kd ∧ kd ≤ 5
  · rw [if_pos hk]
    have HK : Hid (1 ≤ kd ∧ kd ≤ 5) := hk
    clear hk
    go_enter Tryd.func25, Tryd.ntmps25
    go_wp2_with fail
    refine (checkCount_bound kd n w _ HGB.out HK.out.1 HK.out.2 (fun h => HN.out ⟨HK.out, h⟩)).mono ?_
    rintro e w1 ⟨rfl, hw⟩
    obtain rfl := hw.symm
    go_wp2
    go_ret2
    exact ⟨rfl, rfl⟩
  · rw [if_neg hk]
    have HK : Hid (¬ (1 ≤ kd ∧ kd ≤ 5)) := hk
    clear hk
    go_enter Tryd.func25, Tryd.ntmps25
    go_wp2_with fail
    refine (checkCount_kind kd n w _ HGK.out HK.out).mono ?_
    rintro e w1 ⟨rfl, hw⟩
    obtain rfl := hw.symm
    go_wp2
    go_ret2
    exact ⟨rfl, rfl⟩
end Go.Proofs.YtjpdghpkbpdmeaaDoor
