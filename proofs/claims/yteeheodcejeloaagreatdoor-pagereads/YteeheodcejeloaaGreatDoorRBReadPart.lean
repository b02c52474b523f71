/-
  bitrun.readPart: a part of whatever kind.
  The reference's UnpackOf of numbers of up to 64 bits.
  bitrun.ReadRuns: what it answers.
  slices.Min and slices.Max of numbers.
  The reference's PackOf: the bytes of the numbers as one number.
  The reference's ReadRunsOf: what it answers.
-/
import Derived.Test.YteeheodcejeloaaGreatDoorRBPack
import Derived.Test.YteeheodcejeloaaGreatDoorRBRd
import Derived.Test.YteeheodcejeloaaGreatDoorRBBase
namespace Go.Proofs.YteeheodcejeloaaGreatDoor
open Go.RowKit
set_option linter.unusedVariables false
theorem cut_list (s : ByteArray) (k : Nat) : (s.extract k s.size).data.toList = s.data.toList.drop k := by
  rw [ByteArray.data_extract, Array.toList_extract]
  simp only [List.extract_eq_take_drop]
  exact List.take_of_length_le (by simp)
theorem cut_size (s : ByteArray) (k : Nat) : (s.extract k s.size).size ≤ s.size := by rw [ByteArray.size_extract]; omega
theorem retPart_map {r : Option (List Nat × Nat)} {ev : Value} {e : Ending} {w' : World} (h : RetPart r ev e w') : (r = none ∧ e = .returned (.tuple #[.slice none 0 0, .int .i64 0, ev])) ∨ ∃ p u a c, r = some (p, u) ∧ e = .returned (.tuple #[.slice a (List.length p) c, .int .i64 (u : Nat), .nilIface]) ∧ Lies w' a (i64s (p.map fun n : Nat => (n : Int))) := by
  cases r with
  | none => exact Or.inl ⟨rfl, h⟩
  | some x =>
    obtain ⟨p, u⟩ := x
    obtain ⟨a, c, he, hl⟩ := h
    exact Or.inr ⟨p, u, a, c, rfl, he, hl⟩
set_option maxRecDepth 100000 in
set_option maxHeartbeats 1600000 in
theorem readPart_any (s : ByteArray) (wd left : Nat) (w : World) (st : TypeId) (sp : Value) (hs : s.size ≤ 1000000) (hwd : wd ≤ 32) (hleft : left ≤ 20000) (hl0 : 0 < left) (hg : w.cell? ⟨1, 0, none⟩ = some (.iface st sp)) :
    Calls Tryz.prog 129 #[.string s, .int .i64 wd, .int .i64 left] w fun e w' => RetPart (Um.part s.data.toList wd left) (.iface st sp) e w' ∧ Below w.heap.size w w' := by
  have HG : Hid (w.cell? ⟨1, 0, none⟩ = some (.iface st sp)) := hg
  obtain ⟨hr1, hr2, hr3⟩ := Um.rdv_room s.data.toList 0 0 (by simp)
  have hr3 : (Um.rdv s.data.toList 0 0).2 ≤ s.size := by simpa using hr3
  have HP : Hid (Um.part s.data.toList wd left = if (Um.rdv s.data.toList 0 0).2 = 0 then none else (if (Um.rdv s.data.toList 0 0).1 % 2 = 0 then Um.same (s.data.toList.drop (Um.rdv s.data.toList 0 0).2) wd ((Um.rdv s.data.toList 0 0).1 / 2) left else Um.grps (s.data.toList.drop (Um.rdv s.data.toList 0 0).2) wd ((Um.rdv s.data.toList 0 0).1 / 2) left).map fun p => (p.1, (Um.rdv s.data.toList 0 0).2 + p.2)) := rfl
  clear hg
  go_enter Tryz.func129, Tryz.ntmps129
  go_wp2_with fail
  refine (readUvarint_any s w _ (by unfold maxLen; omega) HG.out).mono ?_
  generalize (Um.rdv s.data.toList 0 0).1 = h at hr1 HP
  generalize (Um.rdv s.data.toList 0 0).2 = k at hr2 hr3 HP
  rintro e w1 ⟨rfl, hb1⟩
  by_cases hk : k = 0
  · subst hk
    have HN := HP.out
    rw [if_pos rfl] at HN
    have HN2 : Hid (Um.part s.data.toList wd left = none) := HN
    clear HN
    have he : errOf (.iface st sp) 0 = .iface st sp := rfl
    rw [he]
    clear he
    go_wp2_with fail
    go_ret3
    refine ⟨?_, hb1⟩
    rw [HN2.out]
    rfl
  · have HN := HP.out
    rw [if_neg hk] at HN
    have he : errOf (.iface st sp) k = .nilIface := by unfold errOf; rw [if_neg hk]
    rw [he]
    have hg1 := (hb1.cell (World.block_lt_of_cell? w _ HG.out)).trans HG.out
    have HG1 : Hid (w1.cell? ⟨1, 0, none⟩ = some (.iface st sp)) := hg1
    clear hg1 he
    by_cases hpar : h % 2 = 0
    · have hd : (((h : Int) % 2) == 0) = true := by simp; omega
      rw [if_pos hpar] at HN
      have HN2 : Hid (Um.part s.data.toList wd left = (Um.same (s.data.toList.drop k) wd (h / 2) left).map fun p => (p.1, k + p.2)) := HN
      clear HN
      obtain ⟨m2, HM⟩ : ∃ m2, Hid (m2 = h / 2) := ⟨_, rfl⟩
      have hm2 : (h : Int) / 2 = (m2 : Int) := by rw [HM.out]; omega
      have hm3 : m2 < 18446744073709551616 := by rw [HM.out]; omega
      have HS : Hid ((s.extract k s.size).size ≤ 1000000) := Nat.le_trans (cut_size s k) hs
      go_wp2_with fail
      refine (readSame_any (s.extract k s.size) wd m2 left w1 st sp HS.out hwd hm3 hleft HG1.out).mono ?_
      rw [cut_list, HM.out]
      rintro e w2 ⟨hret, hb2⟩
      have hb12 := hb1.trans (hb2.mono hb1.size)
      rcases retPart_map hret with ⟨hn, rfl⟩ | ⟨p, u, a, c, hn, rfl, hl⟩
      · rw [hn] at HN2
        have HN3 : Hid (Um.part s.data.toList wd left = none) := HN2
        clear hn HN2 hret
        go_wp2_with fail
        go_ret3
        refine ⟨?_, hb12⟩
        rw [HN3.out]
        rfl
      · have hu : u ≤ s.size := by
          have := (Um.same_len hn).2
          rw [List.length_drop] at this
          simp at this
          omega
        rw [hn] at HN2
        have HN3 : Hid (Um.part s.data.toList wd left = some (p, k + u)) := HN2
        have HLs : Hid (Lies w2 a (i64s (p.map fun n : Nat => (n : Int)))) := hl
        clear hn HN2 hret hl
        go_wp2_with fail
        go_ret3
        refine ⟨?_, hb12⟩
        rw [HN3.out]
        exact ⟨a, c, by simp, HLs.out⟩
    · have hd : (((h : Int) % 2) == 0) = false := by simp; omega
      rw [if_neg hpar] at HN
      have HN2 : Hid (Um.part s.data.toList wd left = (Um.grps (s.data.toList.drop k) wd (h / 2) left).map fun p => (p.1, k + p.2)) := HN
      clear HN
      obtain ⟨m2, HM⟩ : ∃ m2, Hid (m2 = h / 2) := ⟨_, rfl⟩
      have hm2 : (h : Int) / 2 = (m2 : Int) := by rw [HM.out]; omega
      have hm3 : m2 < 18446744073709551616 := by rw [HM.out]; omega
      have HS : Hid ((s.extract k s.size).size ≤ 1000000) := Nat.le_trans (cut_size s k) hs
      go_wp2_with fail
      refine (readGroups_any (s.extract k s.size) wd m2 left w1 st sp HS.out hwd hm3 hleft HG1.out).mono ?_
      rw [cut_list, HM.out]
      rintro e w2 ⟨hret, hb2⟩
      have hb12 := hb1.trans (hb2.mono hb1.size)
      rcases retPart_map hret with ⟨hn, rfl⟩ | ⟨p, u, a, c, hn, rfl, hl⟩
      · rw [hn] at HN2
        have HN3 : Hid (Um.part s.data.toList wd left = none) := HN2
        clear hn HN2 hret
        go_wp2_with fail
        go_ret3
        refine ⟨?_, hb12⟩
        rw [HN3.out]
        rfl
      · have hu : u ≤ s.size := by
          have := (Um.grps_len hl0 hn).2
          rw [List.length_drop] at this
          simp at this
          omega
        rw [hn] at HN2
        have HN3 : Hid (Um.part s.data.toList wd left = some (p, k + u)) := HN2
        have HLs : Hid (Lies w2 a (i64s (p.map fun n : Nat => (n : Int)))) := hl
        clear hn HN2 hret hl
        go_wp2_with fail
        go_ret3
        refine ⟨?_, hb12⟩
        rw [HN3.out]
        exact ⟨a, c, by simp, HLs.out⟩
end Go.Proofs.YteeheodcejeloaaGreatDoor

namespace Go.Proofs.YteeheodcejeloaaGreatDoor
open Go.RowKit
theorem bit_addW {x b r k : Nat} (h : x + b / 2 ^ r % 2 * 2 ^ k < 18446744073709551616) : IntKind.u64.wrap ((x : Int) + IntKind.u64.wrap (((b : Int) / 2 ^ r).tmod 2 * 2 ^ k)) = ((x + b / 2 ^ r % 2 * 2 ^ k : Nat) : Int) := by
  have e0 : (b : Int) / 2 ^ r = ((b / 2 ^ r : Nat) : Int) := by simp
  have e1 : ((b : Int) / 2 ^ r).tmod 2 = ((b / 2 ^ r % 2 : Nat) : Int) := by
    rw [e0]
    generalize b / 2 ^ r = q
    rw [Int.tmod_eq_emod_of_nonneg (by omega)]; omega
  have e : ((b / 2 ^ r % 2 : Nat) : Int) * 2 ^ k = ((b / 2 ^ r % 2 * 2 ^ k : Nat) : Int) := by simp
  rw [e1, e, IntKind.wrap_u64, IntKind.wrap_u64]
  omega
set_option maxRecDepth 100000 in
set_option maxHeartbeats 1600000 in
theorem unpackOf_wide (s : ByteArray) (k n : Nat) (w : World) (hs : s.size ≤ 1000000) (hk : k ≤ 64) (hn : n ≤ 20008) :
    Calls Tryz.prog 86 #[.string s, .int .i64 k, .int .i64 n] w fun e w' => UnpOf s k n e w' ∧ Below w.heap.size w w' := by
  obtain ⟨i0, hi, hz0, hz1, hz2⟩ := info_parts Tryz.info89
  have hmul : k * n ≤ 64 * 20008 := Nat.mul_le_mul hk hn
  obtain ⟨T, HT⟩ : ∃ T, Hid (T = k * n) := ⟨_, rfl⟩
  rw [← HT.out] at hmul
  go_enter Tryz.func86, Tryz.ntmps86
  go_wp2
  go_loopw [8, 9, 10] (fun v at_ x wr => ∃ i m : Nat, i ≤ n ∧ x = .int .i64 i ∧ at_ = .int .i64 m ∧ m ≤ 8 * s.size ∧ Hid (m = k * i) ∧ wr.ownsRow w.heap.size 89 1 v i (u64s (Um.unp s.data.toList k i)) ∧ Below w.heap.size w wr) (fun _ _ x _ => n - (intOf x).toNat)
  case atStart => exact ⟨0, 0, Nat.zero_le _, rfl, rfl, Nat.zero_le _, rfl, World.ownsRow_nil w w.heap.size 89 1, Below.refl _ _⟩
  case round =>
    obtain ⟨i, m, hin, rfl, rfl, hm8, HM, hown, hb⟩ := hrel
    by_cases hlt : i < n
    · have HM1 : Hid (m + k = k * (i + 1)) := by show _ = _; rw [Nat.mul_add, Nat.mul_one, HM.out]
      have hmT : m + k ≤ T := by rw [HM1.out, HT.out]; exact Nat.mul_le_mul_left _ hlt
      go_wp2
      go_loop [9, 11, 12, 13] (fun at_ x y _ => ∃ j x' : Nat, j ≤ k ∧ m + j ≤ 8 * s.size ∧ y = .int .i64 j ∧ at_ = .int .i64 ((m + j : Nat) : Int) ∧ x = .int .u64 x' ∧ x' < 18446744073709551616 ∧ Hid (x' = Um.lev s.data.toList / 2 ^ m % 2 ^ j)) (fun _ _ y _ => k - (intOf y).toNat)
      case atStart => exact ⟨0, 0, Nat.zero_le _, by omega, rfl, by go_num, rfl, by omega, by show _ = _; simp [Nat.mod_one]⟩
      case round =>
        obtain ⟨j, x, hj, hj8, rfl, rfl, rfl, hx, HX⟩ := hrel
        by_cases hjk : j < k
        · by_cases hin8 : (m + j) / 8 < s.size
          · have hbit : s[(m + j) / 8].toNat / 2 ^ ((m + j) % 8) % 2 < 2 := Nat.mod_lt _ (by omega)
            have HB : Hid (Um.lev s.data.toList / 2 ^ m % 2 ^ (j + 1) = x + s[(m + j) / 8].toNat / 2 ^ ((m + j) % 8) % 2 * 2 ^ j) := by
              show _ = _
              have e : (s.data.toList)[(m + j) / 8]'(by simpa using hin8) = s[(m + j) / 8] := rfl
              rw [Um.mod_step, Nat.div_div_eq_div_mul, ← Nat.pow_add, Um.lev_bit _ _ (by simpa using hin8), e, HX.out]
            have hb8 : s[(m + j) / 8].toNat < 256 := s[(m + j) / 8].toNat_lt
            have HL : Hid (x + s[(m + j) / 8].toNat / 2 ^ ((m + j) % 8) % 2 * 2 ^ j < 18446744073709551616) := by
              show _ < _
              rw [← HB.out]
              exact Nat.lt_of_lt_of_le (Nat.mod_lt _ (Nat.two_pow_pos _)) (Nat.le_trans (Nat.pow_le_pow_right (n := 2) (by omega) (show j + 1 ≤ 64 by omega)) (by decide))
            go_wp2
            go_round
            case rel => exact ⟨j + 1, x + s[(m + j) / 8].toNat / 2 ^ ((m + j) % 8) % 2 * 2 ^ j, by omega, by omega, by go_num, by go_num, congrArg (Value.int .u64) (bit_addW HL.out), HL.out, HB.out.symm⟩
            case measure => simp [intOf]; omega
          · have HS : Hid (8 * s.size < k * n) := by show _ < _; rw [← HT.out]; omega
            go_wp2
            go_ret2
            exact ⟨Or.inr ⟨HS.out, rfl⟩, hb⟩
        · obtain rfl : j = k := by omega
          have HU : Hid (u64s (Um.unp s.data.toList j (i + 1)) = u64s (Um.unp s.data.toList j i) ++ [.int .u64 (x : Int)]) := by
            show _ = _
            rw [Um.unp_succ, ← HM.out, ← HX.out]
            simp [u64s]
          go_wp2_with (at_builtin; refine wpList_append_own _ rfl _ _ 148 rfl w.heap.size 89 i0 (.int .u64 0) 1 8 Tryz.underlying148 hi hz0 hz1 hz2 rfl (by decide) _ _ _ rfl (hown.alloc _) ⟨wr.heap.size, 0, none⟩ 1 1 [.int .u64 x] rfl rfl (cell_one_new _ _ _) (by intro u hu; simp at hu; subst hu; rfl) (by unfold maxLen; omega) (by omega) (by have := hb.size; simp; omega) ?_; intro v' w1 hown' hgrow _)
          have hb2 := below_app hb (Nat.le_refl _) hown hgrow
          rw [← HU.out] at hown'
          go_wp2
          go_roundw
          case rel => exact ⟨i + 1, m + j, by omega, by go_num, by go_num, hj8, HM1, hown', hb2⟩
          case measure => simp [intOf]; omega
    · obtain rfl : i = n := by omega
      have hle : k * i ≤ 8 * s.size := by rw [← HM.out]; exact hm8
      have HLE : Hid (k * i ≤ 8 * s.size) := hle
      clear hle
      obtain ⟨a', c', rfl, hl⟩ := lies_own hown
      rw [u64s_len, Um.unp_len] at hown
      rw [u64s_len, Um.unp_len]
      go_wp2
      go_ret2
      exact ⟨Or.inl ⟨HLE.out, a', c', rfl, hl, w.heap.size, hown⟩, hb⟩
end Go.Proofs.YteeheodcejeloaaGreatDoor

namespace Go.Proofs.YteeheodcejeloaaGreatDoor
open Go.RowKit
set_option linter.unusedVariables false
/-- Numbers as ints' cells. -/
def nvals (l : List Nat) : List Value := i64s (l.map fun n : Nat => (n : Int))
theorem nvals_len (l : List Nat) : (nvals l).length = l.length := by simp [nvals, i64s]
theorem nvals_app (a b : List Nat) : nvals (a ++ b) = nvals a ++ nvals b := by simp [nvals, i64s]
theorem nvals_one (l : List Nat) : ∀ u ∈ nvals l, u.oneCell' = true := by
  intro u hu
  obtain ⟨x, _, rfl⟩ := List.mem_map.1 hu
  rfl
theorem lies_src {w : World} {a : Option Addr} {cs : List Value} (h : Lies w a cs) : ∀ ad, a = some ad → ∀ j u, cs[j]? = some u → w.cell? (ad.add j) = some u := by
  intro ad had j u hu
  obtain ⟨hj, rfl⟩ := List.getElem?_eq_some_iff.1 hu
  obtain ⟨b, o, e, hc⟩ := h j hj
  obtain rfl := Option.some.inj (had.symm.trans e)
  rw [addr_add]; exact hc
theorem lies_none {w : World} {cs : List Value} (h : Lies w none cs) : cs.length = 0 := by
  by_cases h0 : 0 < cs.length
  · obtain ⟨b, o, e, _⟩ := h 0 h0
    cases e
  · omega
theorem own_below {w w' : World} {base e size n : Nat} {v : Value} {xs : List Value} (h : w.ownsRow base e size v n xs) (hb : Below w.heap.size w w') : w'.ownsRow base e size v n xs := by
  refine ⟨h.1, ?_⟩
  rcases h.2 with hn | ⟨g, cap, cur, rfl, hbg, hgg, rest⟩
  · exact .inl hn
  · exact .inr ⟨g, cap, cur, rfl, hbg, (hb.block g (Array.getElem?_eq_some_iff.1 hgg).1).trans hgg, rest⟩
/-- A slice's length. -/
def rrLen : Value → Nat | .slice _ k _ => k | _ => 0
/-- What the loop keeps. -/
structure RR (s : ByteArray) (wd n : Nat) (w : World) (l u : Value) (wr : World) (acc : List Nat) (at_ : Nat) : Prop where
  hl : l = .slice (some ⟨w.heap.size, 0, none⟩) acc.length n
  hu : u = .int .i64 at_
  le : acc.length ≤ n
  hs : at_ ≤ s.size
  so : Um.Sofar s.data.toList wd n acc at_
  own : wr.ownsRow w.heap.size 3 1 (.slice (some ⟨w.heap.size, 0, none⟩) acc.length n) acc.length (nvals acc)
  old : Below w.heap.size w wr
/-- What ReadRuns answers, with room, in new memory. -/
def RetRunC (N : Nat) (r : Option (List Nat × Nat)) (ev : Value) (e : Ending) (w' : World) : Prop :=
  match r with
  | none => e = .returned (.tuple #[.slice none 0 0, .int .i64 0, ev])
  | some (p, u) => ∃ a c, e = .returned (.tuple #[.slice a p.length c, .int .i64 u, .nilIface]) ∧ Lies w' a (i64s (p.map fun n : Nat => (n : Int))) ∧ p.length ≤ c ∧ ∀ q, a = some q → N ≤ q.block
theorem RetRunC.old {N : Nat} {r : Option (List Nat × Nat)} {ev : Value} {e : Ending} {w' : World} (h : RetRunC N r ev e w') : RetPart r ev e w' := by
  match r, h with
  | none, h => exact h
  | some (p, u), h =>
    obtain ⟨a, c, h1, h2, _⟩ := h
    exact ⟨a, c, h1, h2⟩
set_option maxRecDepth 100000 in
set_option maxHeartbeats 1600000 in
theorem readRuns_c (s : ByteArray) (wd n : Nat) (w : World) (st : TypeId) (sp : Value) (hs : s.size ≤ 1000000) (hwd : wd ≤ 32) (hn : n ≤ 20000) (hg : w.cell? ⟨1, 0, none⟩ = some (.iface st sp)) :
    Calls Tryz.prog 81 #[.string s, .int .i64 wd, .int .i64 n] w fun e w' => RetRunC w.heap.size (Um.runs s.data.toList wd n) (.iface st sp) e w' ∧ Below w.heap.size w w' := by
  have hd1 : decide (0 ≤ (wd : Int) ∧ (wd : Int) ≤ 32) = true := by simp; omega
  have hd2 : decide (0 ≤ (n : Int) ∧ (n : Int) ≤ 20000) = true := by simp; omega
  have HG : Hid (w.cell? ⟨1, 0, none⟩ = some (.iface st sp)) := hg
  obtain ⟨i0, hi, hz0, hz1, hz2⟩ := info_parts Tryz.info3
  obtain ⟨M, hM⟩ : ∃ M, M = madeCells (Value.int .i64 0).cells (((n : Nat) : Int).toNat * i0.size) := ⟨_, rfl⟩
  have hMs : M.size = n := by rw [hM, size_madeCells, hz1]; simp
  have hmk : ∀ W : World, (Instr.makeSlice 22 (.int .i64 0) (.int .i64 (n : Int))).run Tryz.prog W = .ok (.slice (some ⟨W.heap.size, 0, none⟩) 0 n) (W.alloc (.cells M 3)) := fun W => by
    have h := run_make (P := Tryz.prog) W 22 3 i0 (.int .i64 0) Tryz.underlying22 hi hz0 .i64 .i64 0 (n : Int) (by omega) (by omega) (by rw [hz2]; omega) (by omega)
    rw [← hM] at h
    simpa using h
  have HS : Hid ((w.alloc (.cells M 3)).ownsRow w.heap.size 3 1 (.slice (some ⟨w.heap.size, 0, none⟩) 0 n) 0 []) := World.ownsRow_made w M n (Nat.le_refl _) (by unfold maxLen; omega) (by omega)
  clear hg hM hMs
  go_enter Tryz.func81, Tryz.ntmps81
  go_wp2_with (first | (go_at_call 127; refine (isWidth_any _ _).mono ?_; rw [hd1]; rintro e w1 ⟨rfl, hw⟩; obtain rfl := hw.symm) | (go_at_call 128; refine (isCount_any _ _).mono ?_; rw [hd2]; rintro e w1 ⟨rfl, hw⟩; obtain rfl := hw.symm))
  clear hmk
  go_loopw [6, 7] (fun l u wr => ∃ (acc : List Nat) (at_ : Nat), Hid (RR s wd n w l u wr acc at_)) (fun l _ _ => n - rrLen l)
  case atStart => exact ⟨[], 0, ⟨rfl, rfl, Nat.zero_le _, Nat.zero_le _, Um.sofar_zero _ _ _, HS, (Below.refl _ _).alloc (Nat.le_refl _) _⟩⟩
  case round =>
    obtain ⟨acc, at_, HR⟩ := hrel
    obtain ⟨rfl, rfl, hle, has, hso, hown, hb⟩ := HR.out
    have HSo : Hid (Um.Sofar s.data.toList wd n acc at_) := hso
    clear hso
    by_cases hlt : acc.length < n
    · obtain ⟨m, HM⟩ : ∃ m, Hid (m = n - acc.length) := ⟨_, rfl⟩
      have hm : (n : Int) - (acc.length : Int) = (m : Int) := by rw [HM.out]; omega
      have hg1 := (hb.cell (World.block_lt_of_cell? w _ HG.out)).trans HG.out
      have HG1 : Hid (wr.cell? ⟨1, 0, none⟩ = some (.iface st sp)) := hg1
      have HSz : Hid ((s.extract at_ s.size).size ≤ 1000000) := Nat.le_trans (cut_size s at_) hs
      clear hg1
      go_wp2_with fail
      refine (readPart_any (s.extract at_ s.size) wd m wr st sp HSz.out hwd (by rw [HM.out]; omega) (by rw [HM.out]; omega) HG1.out).mono ?_
      rw [cut_list, HM.out]
      rintro e w2 ⟨hret, hb2⟩
      have hb12 := hb.trans (hb2.mono hb.size)
      rcases retPart_map hret with ⟨hpn, rfl⟩ | ⟨p, u, a, c, hpn, rfl, hl⟩
      · have HN : Hid (Um.runs s.data.toList wd n = none) := Um.sofar_none HSo.out hlt hpn
        clear hpn hret
        go_wp2_with fail
        go_ret3
        refine ⟨?_, hb12⟩
        rw [HN.out]
        rfl
      · have hpl := Um.part_len (by omega) hpn
        rw [List.length_drop] at hpl
        simp only at hpl
        have hsl : s.data.toList.length = s.size := by simp
        have HN : Hid (Um.Sofar s.data.toList wd n (acc ++ p) (at_ + u)) := Um.sofar_step HSo.out hlt hpn
        have hp1 : 0 < p.length := hpl.1.1
        have hp2 : acc.length + p.length ≤ n := by have := hpl.1.2; omega
        have hu2 : at_ + u ≤ s.size := by have := hpl.2; omega
        have hown2 : w2.ownsRow w.heap.size 3 1 (.slice (some ⟨w.heap.size, 0, none⟩) acc.length n) acc.length (nvals acc) := own_below hown hb2
        have HL2 : Hid (Lies w2 a (nvals p)) := hl
        clear hpn hret hpl hsl hl
        go_wp2_with (at_builtin; refine wpList_append_fits_any _ rfl _ _ 22 rfl w.heap.size 3 i0 1 Tryz.underlying22 hi hz1 w.heap.size acc.length n (nvals acc) rfl hown2 a p.length c (nvals p) rfl (by rw [nvals_len, Nat.mul_one]) (fun e => by subst e; have := lies_none HL2.out; rw [nvals_len] at this; omega) (lies_src HL2.out) (nvals_one p) hp2 ?_; intro w3 hown3 hgrow)
        have hb3 : Below w.heap.size w w3 := hb12.grown hgrow hb12.size (fun k hk => by simp at hk; omega)
        rw [← nvals_app] at hown3
        go_roundw
        case rel => exact ⟨acc ++ p, at_ + u, ⟨by simp, by go_num, by simp; omega, hu2, HN.out, by rw [List.length_append]; exact hown3, hb3⟩⟩
        case measure => simp [rrLen]; omega
    · have HN : Hid (Um.runs s.data.toList wd n = some (acc, at_)) := Um.sofar_end HSo.out (by omega)
      go_wp2_with fail
      go_ret3
      refine ⟨?_, hb⟩
      rw [HN.out]
      obtain ⟨a', c', hav, hl⟩ := lies_own hown
      exact ⟨some ⟨w.heap.size, 0, none⟩, n, rfl, by injection hav with h1 _ _; subst h1; exact hl, hle, fun q e => by injection e with e; subst e; exact Nat.le_refl _⟩
theorem readRuns_any (s : ByteArray) (wd n : Nat) (w : World) (st : TypeId) (sp : Value) (hs : s.size ≤ 1000000) (hwd : wd ≤ 32) (hn : n ≤ 20000) (hg : w.cell? ⟨1, 0, none⟩ = some (.iface st sp)) :
    Calls Tryz.prog 81 #[.string s, .int .i64 wd, .int .i64 n] w fun e w' => RetPart (Um.runs s.data.toList wd n) (.iface st sp) e w' ∧ Below w.heap.size w w' :=
  (readRuns_c s wd n w st sp hs hwd hn hg).mono fun _ _ h => ⟨h.1.old, h.2⟩
end Go.Proofs.YteeheodcejeloaaGreatDoor

namespace Go.Proofs.YteeheodcejeloaaGreatDoor
open Go.RowKit
def lows (xs : List Int) : Int := xs.foldl min (xs.getD 0 0)
def highs (xs : List Int) : Int := xs.foldl max (xs.getD 0 0)
def mins (x : Int) (xs : List Int) (i : Nat) : Int := (xs.take i).foldl min x
def maxs (x : Int) (xs : List Int) (i : Nat) : Int := (xs.take i).foldl max x
theorem mins_succ (x : Int) (xs : List Int) (i : Nat) (h : i < xs.length) : mins x xs (i + 1) = min (mins x xs i) xs[i] := by
  unfold mins; rw [List.take_succ_eq_append_getElem h, List.foldl_append]; rfl
theorem maxs_succ (x : Int) (xs : List Int) (i : Nat) (h : i < xs.length) : maxs x xs (i + 1) = max (maxs x xs i) xs[i] := by
  unfold maxs; rw [List.take_succ_eq_append_getElem h, List.foldl_append]; rfl
set_option maxRecDepth 100000 in
set_option maxHeartbeats 1600000 in
theorem min_any (a : Option Addr) (xs : List Int) (c : Nat) (w : World) (hl : Lies w a (i64s xs)) (h1 : 0 < xs.length) (hn : xs.length ≤ 20000) :
    Calls Tryz.prog 175 #[.slice a xs.length c] w fun e w' => e = .returned (.int .i64 (lows xs)) ∧ w' = w := by
  have HL : Hid _ := lies_ints hl
  obtain ⟨b, o, rfl, h0⟩ := lies_ints hl 0 h1
  rw [Nat.add_zero] at h0
  obtain ⟨x, hx⟩ : ∃ x, x = xs[0] := ⟨_, rfl⟩
  rw [← hx] at h0
  have HE : Hid (lows xs = mins x xs xs.length) := by
    show _ = _
    rw [hx]; simp [lows, mins, List.getD, h1]
  have HS : Hid (x = mins x xs 1) := by
    show _ = _
    rw [show 1 = 0 + 1 from rfl, mins_succ x xs 0 h1, ← hx]; simp [mins]
  clear hl hx
  go_enter Tryz.func175, Tryz.ntmps175
  go_wp2
  go_loop [3, 4] (fun m y => ∃ (i : Nat) (k : Int), i ≤ xs.length ∧ y = .int .i64 i ∧ m = .int .i64 k ∧ Hid (k = mins x xs i)) (fun _ y => xs.length - (intOf y).toNat)
  case atStart => exact ⟨1, x, by omega, rfl, rfl, HS⟩
  case round =>
    clear HS
    obtain ⟨i, k, hik, rfl, rfl, HK⟩ := hrel
    by_cases hlt : i < xs.length
    · obtain ⟨b', o', e', hc⟩ := HL.out i hlt
      obtain ⟨rfl, rfl⟩ : b = b' ∧ o = o' := by simpa using e'
      clear e'
      have HN : Hid (mins x xs (i + 1) = min k xs[i]) := by show _ = _; rw [mins_succ x xs i hlt, HK.out]
      generalize xs[i] = z at *
      by_cases hz : z < k
      · have HN2 : Hid (z = mins x xs (i + 1)) := by show _ = _; rw [HN.out]; omega
        go_wp2
        go_round
        case rel => exact ⟨i + 1, z, by omega, by go_num, rfl, HN2⟩
        case measure => simp [intOf]; omega
      · have HN2 : Hid (k = mins x xs (i + 1)) := by show _ = _; rw [HN.out]; omega
        go_wp2
        go_round
        case rel => exact ⟨i + 1, k, by omega, by go_num, rfl, HN2⟩
        case measure => simp [intOf]; omega
    · obtain rfl : i = xs.length := by omega
      go_wp2
      go_ret
      exact ⟨by rw [HE.out, ← HK.out]; rfl, rfl⟩
set_option maxRecDepth 100000 in
set_option maxHeartbeats 1600000 in
theorem max_any (a : Option Addr) (xs : List Int) (c : Nat) (w : World) (hl : Lies w a (i64s xs)) (h1 : 0 < xs.length) (hn : xs.length ≤ 20000) :
    Calls Tryz.prog 176 #[.slice a xs.length c] w fun e w' => e = .returned (.int .i64 (highs xs)) ∧ w' = w := by
  have HL : Hid _ := lies_ints hl
  obtain ⟨b, o, rfl, h0⟩ := lies_ints hl 0 h1
  rw [Nat.add_zero] at h0
  obtain ⟨x, hx⟩ : ∃ x, x = xs[0] := ⟨_, rfl⟩
  rw [← hx] at h0
  have HE : Hid (highs xs = maxs x xs xs.length) := by
    show _ = _
    rw [hx]; simp [highs, maxs, List.getD, h1]
  have HS : Hid (x = maxs x xs 1) := by
    show _ = _
    rw [show 1 = 0 + 1 from rfl, maxs_succ x xs 0 h1, ← hx]; simp [maxs]
  clear hl hx
  go_enter Tryz.func176, Tryz.ntmps176
  go_wp2
  go_loop [3, 4] (fun m y => ∃ (i : Nat) (k : Int), i ≤ xs.length ∧ y = .int .i64 i ∧ m = .int .i64 k ∧ Hid (k = maxs x xs i)) (fun _ y => xs.length - (intOf y).toNat)
  case atStart => exact ⟨1, x, by omega, rfl, rfl, HS⟩
  case round =>
    clear HS
    obtain ⟨i, k, hik, rfl, rfl, HK⟩ := hrel
    by_cases hlt : i < xs.length
    · obtain ⟨b', o', e', hc⟩ := HL.out i hlt
      obtain ⟨rfl, rfl⟩ : b = b' ∧ o = o' := by simpa using e'
      clear e'
      have HN : Hid (maxs x xs (i + 1) = max k xs[i]) := by show _ = _; rw [maxs_succ x xs i hlt, HK.out]
      generalize xs[i] = z at *
      by_cases hz : k < z
      · have HN2 : Hid (z = maxs x xs (i + 1)) := by show _ = _; rw [HN.out]; omega
        go_wp2
        go_round
        case rel => exact ⟨i + 1, z, by omega, by go_num, rfl, HN2⟩
        case measure => simp [intOf]; omega
      · have HN2 : Hid (k = maxs x xs (i + 1)) := by show _ = _; rw [HN.out]; omega
        go_wp2
        go_round
        case rel => exact ⟨i + 1, k, by omega, by go_num, rfl, HN2⟩
        case measure => simp [intOf]; omega
    · obtain rfl : i = xs.length := by omega
      go_wp2
      go_ret
      exact ⟨by rw [HE.out, ← HK.out]; rfl, rfl⟩
end Go.Proofs.YteeheodcejeloaaGreatDoor

namespace Go.Proofs.YteeheodcejeloaaGreatDoor
open Go.RowKit
theorem bit_shift {b k : Nat} (hb : b < 2) (hk : k < 8) : IntKind.i64.wrap ((b : Int) * 2 ^ k) = (b : Int) * 2 ^ k ∧ b * 2 ^ k < 256 := by
  have h8 : 2 ^ k ≤ 2 ^ 7 := Nat.pow_le_pow_right (by omega) (by omega)
  have hm : b * 2 ^ k ≤ 1 * 2 ^ 7 := Nat.mul_le_mul (by omega) h8
  have h7 : 2 ^ 7 = 128 := rfl
  have e : (b : Int) * 2 ^ k = ((b * 2 ^ k : Nat) : Int) := by simp
  exact ⟨by rw [e, IntKind.wrap_i64]; omega, by omega⟩
/-- What PackOf's loops keep. -/
def POuter (N T : Nat) (w1 : World) (s x : Value) (wr : World) : Prop := ∃ q : Nat, 8 * q < T + 8 ∧ x = .int .i64 ((8 * q : Nat) : Int) ∧ s = .string ⟨(Um.lit N q).toArray⟩ ∧ Below w1.heap.size w1 wr
def PInner (N T q : Nat) (c y : Value) : Prop := ∃ k c' : Nat, k ≤ 8 ∧ 8 * q + k ≤ T ∧ y = .int .i64 k ∧ c = .int .i64 c' ∧ c' = N / 2 ^ (8 * q) % 2 ^ k
set_option maxRecDepth 100000 in
set_option maxHeartbeats 1600000 in
theorem packOf_any (a : Option Addr) (c : Nat) (ns : List Nat) (wd : Nat) (w : World) (hn : ns.length ≤ 20000) (hwd : wd ≤ 64) (hns : ∀ x ∈ ns, x < 2 ^ wd) (h : Lies w a (u64s ns)) :
    Calls Tryz.prog 137 #[.slice a ns.length c, .int .i64 wd] w fun e w' => e = .returned (.string ⟨(Um.lit (Um.num wd ns) ((wd * ns.length + 7) / 8)).toArray⟩) ∧ Below w.heap.size w w' := by
  have HL : Hid (Lies w a (u64s ns)) := h
  have HNS : Hid (∀ x ∈ ns, x < 2 ^ wd) := hns
  have hmul : wd * ns.length ≤ 64 * 20000 := Nat.mul_le_mul hwd hn
  have hN := Um.num_lt wd ns hns
  clear h hns
  go_enter Tryz.func137, Tryz.ntmps137
  go_wp2_with fail
  refine (bitsOf_any a c ns wd w hn hwd HNS.out HL.out).mono ?_
  generalize hTe : wd * ns.length = T at hmul hN
  have HTe : Hid (wd * ns.length = T) := hTe
  generalize hNe : Um.num wd ns = N at hN
  have HNe : Hid (Um.num wd ns = N) := hNe
  clear hTe hNe
  rintro e w1 ⟨⟨ab, cb, rfl, hlb⟩, hb1⟩
  have HB : Hid (∀ j, j < T → ∃ b o, ab = some ⟨b, o, none⟩ ∧ w1.cell? ⟨b, o + j, none⟩ = some (.int .u8 ((N / 2 ^ j % 2 : Nat) : Int))) := fun j hj => by
    obtain ⟨b, o, e, hc⟩ := hlb j (by simp [cellsOf, Um.bitl_len, hj])
    refine ⟨b, o, e, ?_⟩
    rw [hc]
    simp only [cellsOf, List.getElem_map]
    rw [Um.bitl_get N T j hj, Um.bt_int (by omega) (by omega)]
  have HN : Hid (N < 2 ^ T) := hN
  clear hlb hN
  go_wp2_with fail
  go_loopw [6, 7] (POuter N T w1) (fun _ x _ => T + 8 - (intOf x).toNat)
  case atStart => exact ⟨0, by omega, rfl, rfl, Below.refl _ _⟩
  case round =>
    obtain ⟨q, hq, rfl, rfl, hb⟩ := hrel
    by_cases hlt : 8 * q < T
    · go_wp2_with fail
      go_loop [8, 9] (PInner N T q) (fun _ y => 8 - (intOf y).toNat)
      case atStart => exact ⟨0, 0, by omega, by omega, rfl, rfl, by show _ = _; simp [Nat.mod_one]⟩
      case round =>
        obtain ⟨k, cc, hk, hkT, rfl, rfl, hcc⟩ := hrel
        have HCC : Hid (cc = N / 2 ^ (8 * q) % 2 ^ k) := hcc
        clear hcc
        have hcl : cc < 256 := by rw [HCC.out]; exact Nat.lt_of_lt_of_le (Nat.mod_lt _ (Nat.two_pow_pos k)) (Nat.le_trans (Nat.pow_le_pow_right (n := 2) (by omega) hk) (by decide))
        by_cases hgo : k < 8 ∧ 8 * q + k < T
        · obtain ⟨hk8, hkt⟩ := hgo
          obtain ⟨b, o, rfl, hc⟩ := HB.out (8 * q + k) hkt
          have hc := (hb.cell (World.block_lt_of_cell? w1 _ hc)).trans hc
          have HS : Hid (N / 2 ^ (8 * q) % 2 ^ (k + 1) = cc + N / 2 ^ (8 * q + k) % 2 * 2 ^ k) := by
            show _ = _
            rw [HCC.out, Um.mod_step, Nat.div_div_eq_div_mul, ← Nat.pow_add]
          have hbit : N / 2 ^ (8 * q + k) % 2 < 2 := Nat.mod_lt _ (by omega)
          generalize N / 2 ^ (8 * q + k) % 2 = bit at hc HS hbit
          have hsh := (bit_shift hbit hk8).1
          have hshl := (bit_shift hbit hk8).2
          have hsum : ((cc : Int) + (bit : Int) * 2 ^ k) = ((cc + bit * 2 ^ k : Nat) : Int) := by simp
          have hwr : wrap64 ((cc : Int) + (bit : Int) * 2 ^ k) = (cc : Int) + (bit : Int) * 2 ^ k := by rw [hsum]; unfold wrap64; omega
          clear hsum
          go_wp2_with fail
          go_round
          case rel => exact ⟨k + 1, cc + bit * 2 ^ k, by omega, by omega, by go_num, by simp, HS.out.symm⟩
          case measure => simp [intOf]; omega
        · have HC : Hid (cc = Um.by_ N q) := by
            show _ = _
            rw [HCC.out]
            by_cases hk8 : k < 8
            · exact Um.by_end (by rw [show 8 * q + k = T by omega]; exact HN.out) hk
            · obtain rfl : k = 8 := by omega
              rfl
          have hcase : (k < 8 ∧ ¬ (8 * (q : Int) + (k : Int) < (T : Int))) ∨ k = 8 := by omega
          have hroom : (Um.lit N q).length ≤ 1000000 := by rw [Um.lit_len]; omega
          rcases hcase with ⟨hk8, hT8⟩ | rfl
          all_goals
            go_wp2_with (go_at_call 139; refine (byte_any _ _ (by omega) (by omega)).mono ?_; rintro e w' ⟨rfl, hb'⟩)
            go_roundw
            case rel => exact ⟨q + 1, by omega, by go_num, by rw [str_snoc, HC.out, ← Um.lit_succ], hb.trans (hb'.mono hb.size)⟩
            case measure => simp [intOf]; omega
    · go_wp2_with fail
      go_ret
      exact ⟨ret_str (by rw [HNe.out, HTe.out, show (T + 7) / 8 = q by omega]), hb1.trans (hb.mono hb1.size)⟩
end Go.Proofs.YteeheodcejeloaaGreatDoor

namespace Go.Proofs.YteeheodcejeloaaGreatDoor
open Go.RowKit
set_option linter.unusedVariables false
/-- What the reference reads: numbers and bytes, or none. -/
def RetOf (r : Option (List Nat × Nat)) (e : Ending) (w' : World) : Prop :=
  match r with
  | none => e = .returned (.tuple #[.slice none 0 0, .int .i64 (-1)])
  | some (p, u) => ∃ a c, e = .returned (.tuple #[.slice a p.length c, .int .i64 u]) ∧ Lies w' a (nvals p)
/-- The same, in new memory. -/
def RetOfC (N : Nat) (r : Option (List Nat × Nat)) (e : Ending) (w' : World) : Prop :=
  match r with
  | none => e = .returned (.tuple #[.slice none 0 0, .int .i64 (-1)])
  | some (p, u) => ∃ a c, e = .returned (.tuple #[.slice a p.length c, .int .i64 u]) ∧ Lies w' a (nvals p) ∧ ∀ q, a = some q → N ≤ q.block
theorem RetOfC.old {N : Nat} {r : Option (List Nat × Nat)} {e : Ending} {w' : World} (h : RetOfC N r e w') : RetOf r e w' := by
  match r, h with
  | none, h => exact h
  | some (p, u), h =>
    obtain ⟨a, c, h1, h2, _⟩ := h
    exact ⟨a, c, h1, h2⟩
theorem own_fresh {w : World} {base e k n : Nat} {v : Value} {xs : List Value} (h : w.ownsRow base e k v n xs) : ∀ a m c, v = .slice a m c → ∀ q, a = some q → base ≤ q.block := by
  intro a m c hv q hq
  rcases h.2 with ⟨rfl, rfl⟩ | ⟨g, cap, cur, rfl, hg, _⟩
  · injection hv with h1 _ _
    subst h1
    cases hq
  · injection hv with h1 _ _
    subst h1
    injection hq with hq
    subst hq
    exact hg
theorem part_at {l : List UInt8} {w left h k : Nat} (h1 : (Um.rdv l 0 0).1 = h) (h2 : (Um.rdv l 0 0).2 = k) : Um.part l w left = if k = 0 then none else (if h % 2 = 0 then Um.same (l.drop k) w (h / 2) left else Um.grps (l.drop k) w (h / 2) left).map fun p => (p.1, k + p.2) := by
  unfold Um.part
  rw [h1, h2]
theorem part_over {l : List UInt8} {w left h k : Nat} (h1 : (Um.rdv l 0 0).1 = h) (h2 : (Um.rdv l 0 0).2 = k) (hb : k = 0 ∨ left < h / 2 ∨ h / 2 = 0) : Um.part l w left = none := by
  rw [part_at h1 h2]
  by_cases hk : k = 0
  · rw [if_pos hk]
  · rw [if_neg hk]
    have e1 : Um.same (l.drop k) w (h / 2) left = none := by unfold Um.same; rw [if_neg]; intro hc; omega
    have e2 : Um.grps (l.drop k) w (h / 2) left = none := by
      unfold Um.grps; rw [if_neg]; intro hc
      by_cases hl : left = 0
      · subst hl; omega
      · omega
    rw [e1, e2]
    split <;> rfl
theorem own_ne {w : World} {B1 B2 e1 e2 s1 s2 n1 n2 : Nat} {v1 v2 : Value} {c1 c2 : List Value} (h1 : w.ownsRow B1 e1 s1 v1 n1 c1) (h2 : w.ownsRow B2 e2 s2 v2 n2 c2) (hne : e1 ≠ e2) : v1.ownBlock = none ∨ v1.ownBlock ≠ v2.ownBlock := by
  rcases h1.2 with ⟨rfl, _⟩ | ⟨g1, _, cur1, rfl, _, hg1, _⟩
  · exact Or.inl rfl
  · right
    rcases h2.2 with ⟨rfl, _⟩ | ⟨g2, _, cur2, rfl, _, hg2, _⟩
    · simp [Value.ownBlock]
    · intro he
      simp [Value.ownBlock] at he
      subst he
      rw [hg1] at hg2
      injection hg2 with hg2
      injection hg2 with _ h _
      exact hne h
/-- What the loop keeps. -/
structure RO (s : ByteArray) (wd n : Nat) (w : World) (l u : Value) (wr : World) (acc : List Nat) (at_ : Nat) : Prop where
  hu : u = .int .i64 at_
  le : acc.length ≤ n
  hs : at_ ≤ s.size
  so : Um.Sofar s.data.toList wd n acc at_
  own : wr.ownsRow w.heap.size 3 1 l acc.length (nvals acc)
  old : Below w.heap.size w wr
set_option maxRecDepth 100000 in
set_option maxHeartbeats 3200000 in
theorem readRunsOf_c (s : ByteArray) (wd n : Nat) (w : World) (hs : s.size ≤ 3000) (hwd : wd ≤ 32) (hn : n ≤ 20000) :
    Calls Tryz.prog 52 #[.string s, .int .i64 wd, .int .i64 n] w fun e w' => RetOfC w.heap.size (Um.runs s.data.toList wd n) e w' ∧ Below w.heap.size w w' := by
  obtain ⟨i0, hi, hz0, hz1, hz2⟩ := info_parts Tryz.info3
  go_enter Tryz.func52, Tryz.ntmps52
  go_wp2_with fail
  go_loopw [8, 9] (fun l u wr => ∃ (acc : List Nat) (at_ : Nat), Hid (RO s wd n w l u wr acc at_)) (fun l _ _ => n - rrLen l)
  case atStart => exact ⟨[], 0, ⟨rfl, Nat.zero_le _, Nat.zero_le _, Um.sofar_zero _ _ _, World.ownsRow_nil w w.heap.size 3 1, Below.refl _ _⟩⟩
  case round =>
    obtain ⟨acc, at_, HR⟩ := hrel
    obtain ⟨rfl, hle, has, hso, hown, hb⟩ := HR.out
    have HSo : Hid (Um.Sofar s.data.toList wd n acc at_) := hso
    obtain ⟨a', c', rfl, hl⟩ := lies_own hown
    rw [nvals_len] at hown
    have HOwn : Hid (wr.ownsRow w.heap.size 3 1 (.slice a' acc.length c') acc.length (nvals acc)) := hown
    have HL : Hid (Lies wr a' (nvals acc)) := hl
    rw [nvals_len]
    clear hso HR hown hl
    by_cases hlt : acc.length < n
    · obtain ⟨m, HM⟩ : ∃ m, Hid (m = n - acc.length) := ⟨_, rfl⟩
      have hm : (n : Int) - (acc.length : Int) = (m : Int) := by rw [HM.out]; omega
      have hm1 : 0 < m := by rw [HM.out]; omega
      have hmn : m ≤ 20000 := by rw [HM.out]; omega
      have hsz1 : (s.extract at_ s.size).size ≤ 3000 := Nat.le_trans (cut_size s at_) hs
      have HSz : Hid ((s.extract at_ s.size).size ≤ 3000) := hsz1
      obtain ⟨hr1, hr2, hr3⟩ := Um.rdv_room (s.data.toList.drop at_) 0 0 (by simp)
      rw [List.length_drop] at hr3
      have hsl : s.data.toList.length = s.size := by simp
      clear hsz1
      go_wp2_with fail
      refine (readSeven_any (s.extract at_ s.size) wr (by have := HSz.out; unfold maxLen; omega)).mono ?_
      rw [cut_list]
      generalize hh : (Um.rdv (s.data.toList.drop at_) 0 0).1 = h at hr1
      generalize hk : (Um.rdv (s.data.toList.drop at_) 0 0).2 = k at hr2 hr3
      have HH : Hid ((Um.rdv (s.data.toList.drop at_) 0 0).1 = h) := hh
      have HK : Hid ((Um.rdv (s.data.toList.drop at_) 0 0).2 = k) := hk
      clear hh hk
      rintro e w1 ⟨rfl, hw⟩
      obtain rfl := hw.symm
      have hks : at_ + k ≤ s.size := by omega
      clear hr3 hsl
      obtain ⟨c, HC⟩ : ∃ c, Hid (c = h / 2) := ⟨_, rfl⟩
      have hc : (h : Int) / 2 = (c : Int) := by rw [HC.out]; omega
      have hcl : c < 9223372036854775808 := by rw [HC.out]; omega
      by_cases hover : k = 0 ∨ m < c ∨ c = 0
      · have HN : Hid (Um.runs s.data.toList wd n = none) := Um.sofar_none HSo.out hlt (part_over HH.out HK.out (by rw [← HC.out, ← HM.out]; exact hover))
        have hcase : ((k : Int) == 0) = true ∨ (((k : Int) == 0) = false ∧ m < c) ∨ (((k : Int) == 0) = false ∧ ¬ m < c ∧ ((c : Int) == 0) = true) := by
          by_cases h1 : k = 0
          · left; simp; omega
          · by_cases h2 : m < c
            · right; left; exact ⟨by simp; omega, h2⟩
            · right; right; exact ⟨by simp; omega, h2, by simp; omega⟩
        clear hover
        rcases hcase with q1 | ⟨q1, q2⟩ | ⟨q1, q2, q3⟩
        all_goals
          go_wp2_with fail
          go_ret2
          refine ⟨?_, hb⟩
          rw [HN.out]
          rfl
      · have hk0 : k ≠ 0 := by omega
        have hcm : ¬ m < c := by omega
        have hc0 : c ≠ 0 := by omega
        have q1 : ((k : Int) == 0) = false := by simp; omega
        have q3 : ((c : Int) == 0) = false := by simp; omega
        have HPt := part_at (w := wd) (left := m) HH.out HK.out
        rw [if_neg hk0, ← HC.out, List.drop_drop] at HPt
        obtain ⟨a1, HA1⟩ : ∃ a1, Hid (a1 = at_ + k) := ⟨_, rfl⟩
        have ha1 : (at_ : Int) + (k : Int) = (a1 : Int) := by rw [HA1.out]; simp
        have ha1s : a1 ≤ s.size := by rw [HA1.out]; exact hks
        rw [← HA1.out] at HPt
        have HSz1 : Hid ((s.extract a1 s.size).size ≤ 3000) := Nat.le_trans (cut_size s a1) hs
        have HSe : Hid ((s.extract a1 s.size).size = s.size - a1) := by show _ = _; rw [ByteArray.size_extract]; omega
        have hsub : (s.size : Int) - (a1 : Int) = ((s.size - a1 : Nat) : Int) := by omega
        obtain ⟨r, HRr⟩ : ∃ r, Hid (r = s.size - a1) := ⟨_, rfl⟩
        rw [← HRr.out] at hsub
        have HLd : Hid ((s.data.toList.drop a1).length = r) := by show _ = _; rw [HRr.out]; simp
        clear hover
        by_cases hpar : h % 2 = 0
        · have hd : (((h : Int) % 2) == 0) = true := by simp; omega
          rw [if_pos hpar] at HPt
          obtain ⟨z, HZ⟩ : ∃ z, Hid (z = (wd + 7) / 8) := ⟨_, rfl⟩
          have hz4 : z ≤ 4 := by rw [HZ.out]; omega
          have hzi : ((wd : Int) + 7) / 8 = (z : Int) := by rw [HZ.out]; omega
          have hzt : ((wd : Int) + 7).tdiv 8 = (z : Int) := by rw [Int.tdiv_eq_ediv_of_nonneg (by omega), hzi]
          have HSm : Hid (Um.same (s.data.toList.drop a1) wd c m = if z ≤ r ∧ Um.lev ((s.data.toList.drop a1).take z) < 2 ^ wd then some (List.replicate c (Um.lev ((s.data.toList.drop a1).take z)), z) else none) := by
            show _ = _
            unfold Um.same
            rw [← HZ.out, HLd.out]
            by_cases hcc : z ≤ r ∧ Um.lev ((s.data.toList.drop a1).take z) < 2 ^ wd
            · rw [if_pos ⟨⟨by omega, by omega⟩, hcc⟩, if_pos hcc]
            · rw [if_neg (fun h => hcc h.2), if_neg hcc]
          have HPs : Hid (Um.part (s.data.toList.drop at_) wd m = (Um.same (s.data.toList.drop a1) wd c m).map fun p => (p.1, k + p.2)) := HPt
          clear HPt
          by_cases hzr : r < z
          · have HN : Hid (Um.runs s.data.toList wd n = none) := Um.sofar_none HSo.out hlt (by rw [← HM.out, HPs.out, HSm.out, if_neg (by omega)]; rfl)
            go_wp2_with fail
            go_ret2
            refine ⟨?_, hb⟩
            rw [HN.out]
            rfl
          · go_wp2_with fail
            refine (readLittle_any (s.extract a1 s.size) z wr (by omega) (by rw [HSe.out, ← HRr.out]; omega) HSz1.out).mono ?_
            rw [cut_list]
            have hxl : Um.lev ((s.data.toList.drop a1).take z) < 4294967296 := Nat.lt_of_lt_of_le (Um.lev_take_lt _ z (by rw [HLd.out]; omega)) (Nat.le_trans (Nat.pow_le_pow_right (n := 2) (by omega) (show 8 * z ≤ 32 by omega)) (by decide))
            generalize Um.lev ((s.data.toList.drop a1).take z) = x at hxl HSm
            rintro e w1 ⟨rfl, hw⟩
            obtain rfl := hw.symm
            have hmw := mask_wrap hwd
            have e2 : ((2 ^ wd : Nat) : Int) = (2 : Int) ^ wd := by simp
            by_cases hf : x < 2 ^ wd
            · have hdf : decide ((2 : Int) ^ wd ≤ (x : Int)) = false := by rw [decide_eq_false_iff_not, ← e2]; omega
              have hPn : Um.part (s.data.toList.drop at_) wd (n - acc.length) = some (List.replicate c x, k + z) := by rw [← HM.out, HPs.out, HSm.out, if_pos ⟨by omega, hf⟩]; rfl
              have HNx : Hid (Um.Sofar s.data.toList wd n (acc ++ List.replicate c x) (at_ + (k + z))) := Um.sofar_step HSo.out hlt hPn
              have hcn : acc.length + c ≤ n := by have := HM.out; omega
              clear e2 hPn hf
              go_wp2_with fail
              go_loopw [8, 16] (fun v y wq => ∃ i : Nat, i ≤ c ∧ y = .int .i64 i ∧ Hid (wq.ownsRow w.heap.size 3 1 v (acc.length + i) (nvals (acc ++ List.replicate i x))) ∧ Below w.heap.size w wq) (fun _ y _ => c - (intOf y).toNat)
              case atStart => exact ⟨0, Nat.zero_le _, rfl, by show World.ownsRow _ _ _ _ _ _ _; simpa using HOwn.out, hb⟩
              case round =>
                obtain ⟨i, hic, rfl, HO, hbq⟩ := hrel
                have hown := HO.out
                by_cases hil : i < c
                · have HT : Hid (nvals (acc ++ List.replicate (i + 1) x) = nvals (acc ++ List.replicate i x) ++ [.int .i64 (x : Int)]) := by
                    show _ = _
                    rw [List.replicate_succ', ← List.append_assoc, nvals_app]
                    rfl
                  go_wp2_with (at_builtin; refine wpList_append_own _ rfl _ _ 22 rfl w.heap.size 3 i0 (.int .i64 0) 1 8 Tryz.underlying22 hi hz0 hz1 hz2 rfl (by decide) _ _ _ rfl (hown.alloc _) ⟨_, 0, none⟩ 1 1 [.int .i64 x] rfl rfl (cell_one_new _ _ _) (by intro u hu; simp at hu; subst hu; rfl) (by unfold maxLen; omega) (by omega) (by have := hbq.size; simp; omega) ?_; intro v' wv hown' hgrow _)
                  have hb2 := below_app hbq (Nat.le_refl _) hown hgrow
                  rw [← HT.out] at hown'
                  go_roundw
                  case rel => exact ⟨i + 1, by omega, by go_num, hown', hb2⟩
                  case measure => simp [intOf]; omega
                · obtain rfl : i = c := by omega
                  have hlen : acc.length + i = (acc ++ List.replicate i x).length := by simp
                  rw [hlen] at hown
                  obtain ⟨a2, c2, rfl, _⟩ := lies_own hown
                  go_wp2_with fail
                  go_roundw
                  case rel => exact ⟨acc ++ List.replicate i x, at_ + (k + z), ⟨by have := HA1.out; go_num, by simp; omega, by have := HA1.out; have := HRr.out; omega, HNx.out, hown, hbq⟩⟩
                  case measure => simp [rrLen, nvals_len]; omega
            · have hdf : decide ((2 : Int) ^ wd ≤ (x : Int)) = true := by rw [decide_eq_true_iff, ← e2]; omega
              have HN : Hid (Um.runs s.data.toList wd n = none) := Um.sofar_none HSo.out hlt (by rw [← HM.out, HPs.out, HSm.out, if_neg (by omega)]; rfl)
              clear e2 hf
              go_wp2_with fail
              go_ret2
              refine ⟨?_, hb⟩
              rw [HN.out]
              rfl
        · have hd : (((h : Int) % 2) == 0) = false := by simp; omega
          rw [if_neg hpar] at HPt
          have HPs : Hid (Um.part (s.data.toList.drop at_) wd m = (Um.grps (s.data.toList.drop a1) wd c m).map fun p => (p.1, k + p.2)) := HPt
          clear HPt
          have hcb : c ≤ 20000 := by omega
          obtain ⟨y, HY⟩ : ∃ y, Hid (y = c * wd) := ⟨_, rfl⟩
          have hyi : (c : Int) * (wd : Int) = (y : Int) := by rw [HY.out]; simp
          have hyb : y ≤ 20000 * 32 := by rw [HY.out]; exact Nat.mul_le_mul hcb hwd
          obtain ⟨q, HQ⟩ : ∃ q, Hid (q = 8 * c) := ⟨_, rfl⟩
          have hqi : (8 : Int) * (c : Int) = (q : Int) := by rw [HQ.out]; simp
          have hqb : q ≤ 160000 := by rw [HQ.out]; omega
          have HGr : Hid (Um.grps (s.data.toList.drop a1) wd c m = if (q < m + 8 ∧ y ≤ r) ∧ (∀ x ∈ (Um.unp (s.data.toList.drop a1) wd q).drop m, x = 0) then some ((Um.unp (s.data.toList.drop a1) wd q).take m, y) else none) := by
            show _ = _
            unfold Um.grps
            rw [← HQ.out, ← HY.out, HLd.out]
            have e : c ≤ (m + 7) / 8 ↔ q < m + 8 := by rw [HQ.out]; omega
            by_cases hcc : (q < m + 8 ∧ y ≤ r) ∧ (∀ x ∈ (Um.unp (s.data.toList.drop a1) wd q).drop m, x = 0)
            · rw [if_pos ⟨⟨by omega, e.2 hcc.1.1⟩, hcc.1.2, hcc.2⟩, if_pos hcc]
            · rw [if_neg (fun h => hcc ⟨⟨e.1 h.1.2, h.2.1⟩, h.2.2⟩), if_neg hcc]
          by_cases hbad : ¬ q < m + 8 ∨ (q < m + 8 ∧ r < y)
          · have HN : Hid (Um.runs s.data.toList wd n = none) := Um.sofar_none HSo.out hlt (by rw [← HM.out, HPs.out, HGr.out, if_neg (by omega)]; rfl)
            have hcase : decide ((8 : Int) ≤ (q : Int) - (m : Int)) = true ∨ (decide ((8 : Int) ≤ (q : Int) - (m : Int)) = false ∧ r < y) := by
              by_cases hq : q < m + 8
              · right; exact ⟨by simp; omega, by omega⟩
              · left; simp; omega
            clear hbad
            rcases hcase with q5 | ⟨q5, q6⟩
            all_goals
              go_wp2_with fail
              go_ret2
              refine ⟨?_, hb⟩
              rw [HN.out]
              rfl
          · have q5 : decide ((8 : Int) ≤ (q : Int) - (m : Int)) = false := by simp; omega
            have q6 : ¬ r < y := by omega
            have hq8 : q < m + 8 := by omega
            have hq1 : 0 < q := by rw [HQ.out]; omega
            have HF : Hid (wd * q ≤ 8 * (s.extract a1 s.size).size) := by
              show _ ≤ _
              have : wd * q = 8 * y := by rw [HQ.out, HY.out, Nat.mul_left_comm, Nat.mul_comm wd]
              rw [HSe.out, ← HRr.out]
              omega
            clear hbad
            go_wp2_with fail
            refine (unpackOf_any (s.extract a1 s.size) wd q wr (by have := HSz1.out; omega) hwd (by omega)).mono ?_
            rintro e w2 ⟨⟨_, a2, c2, rfl, _, B2, hl2⟩ | ⟨hx, _⟩, hb2⟩
            rotate_left
            · exact absurd hx (by have := HF.out; omega)
            rw [cut_list] at hl2
            have HL2 : Hid (w2.ownsRow B2 89 1 (.slice a2 q c2) q (u64s (Um.unp (s.data.toList.drop a1) wd q))) := hl2
            have HO2 : Hid (w2.ownsRow w.heap.size 3 1 (.slice a' acc.length c') acc.length (nvals acc)) := own_below HOwn.out hb2
            have hbw := hb.trans (hb2.mono hb.size)
            have HUL : Hid (∀ x ∈ Um.unp (s.data.toList.drop a1) wd q, x < 2 ^ wd) := Um.unp_lt _ _ _
            have HUn : Hid ((Um.unp (s.data.toList.drop a1) wd q).length = q) := Um.unp_len _ _ _
            generalize Um.unp (s.data.toList.drop a1) wd q = us at HL2 HGr HUL HUn
            clear hl2
            go_wp2_with fail
            go_loopw [8, 19] (fun v y wq => ∃ i : Nat, i ≤ q ∧ y = .int .i64 i ∧ Hid (wq.ownsRow w.heap.size 3 1 v (acc.length + min i m) (nvals (acc ++ us.take (min i m)))) ∧ Hid (∀ j (h : j < us.length), m ≤ j → j < i → us[j] = 0) ∧ Hid (wq.ownsRow B2 89 1 (.slice a2 q c2) q (u64s us)) ∧ Below w.heap.size w wq) (fun _ y _ => q - (intOf y).toNat)
            case atStart => exact ⟨0, Nat.zero_le _, rfl, by show World.ownsRow _ _ _ _ _ _ _; simpa using HO2.out, fun j _ _ h => absurd h (Nat.not_lt_zero _), HL2, hbw⟩
            case round =>
              obtain ⟨i, hiq, rfl, HO, HZr, HUo, hbq⟩ := hrel
              have hown := HO.out
              by_cases hil : i < q
              · have hiu : i < us.length := by rw [HUn.out]; exact hil
                obtain ⟨ax, cx, hax, hlx⟩ := lies_own HUo.out
                injection hax with hax1 hax2 hax3
                subst hax1 hax3
                obtain ⟨b, o, hbo, hcc⟩ := hlx i (by rw [u64s_len]; exact hiu)
                subst hbo
                clear hlx hax2
                have hui : us[i] < 4294967296 := Nat.lt_of_lt_of_le (HUL.out _ (List.getElem_mem hiu)) (Nat.le_trans (Nat.pow_le_pow_right (n := 2) (by omega) hwd) (by decide))
                have hce : (u64s us)[i]'(by rw [u64s_len]; exact hiu) = .int .u64 ((us[i] : Nat) : Int) := by simp [u64s]
                rw [hce] at hcc
                by_cases him : i < m
                · have HT : Hid (nvals (acc ++ us.take (min (i + 1) m)) = nvals (acc ++ us.take (min i m)) ++ [.int .i64 ((us[i] : Nat) : Int)]) := by
                    show _ = _
                    rw [Nat.min_eq_left (by omega), Nat.min_eq_left (by omega), List.take_succ_eq_append_getElem hiu, ← List.append_assoc, nvals_app]
                    rfl
                  have hmin : min (i + 1) m = i + 1 := Nat.min_eq_left (by omega)
                  have hmin2 : min i m = i := Nat.min_eq_left (by omega)
                  have HZ2 : Hid (∀ j (h : j < us.length), m ≤ j → j < i + 1 → us[j] = 0) := fun j h h1 h2 => absurd h1 (by omega)
                  rw [hmin, hmin2] at HT
                  rw [hmin2] at hown
                  generalize us[i] = x at hcc hui HT
                  clear hce hmin hmin2
                  go_wp2_with (at_builtin; refine wpList_append_own _ rfl _ _ 22 rfl w.heap.size 3 i0 (.int .i64 0) 1 8 Tryz.underlying22 hi hz0 hz1 hz2 rfl (by decide) _ _ _ rfl (hown.alloc _) ⟨_, 0, none⟩ 1 1 [.int .i64 x] rfl rfl (cell_one_new _ _ _) (by intro u hu; simp at hu; subst hu; rfl) (by unfold maxLen; omega) (by omega) (by have := hbq.size; simp; omega) ?_; intro v' wv hown' hgrow _)
                  have hb2 := below_app hbq (Nat.le_refl _) hown hgrow
                  have hus := (HUo.out.alloc (.cells #[.int .i64 (x : Int)] 3)).kept hgrow (own_ne (HUo.out.alloc _) (hown.alloc (.cells #[.int .i64 (x : Int)] 3)) (by decide))
                  rw [← HT.out] at hown'
                  go_roundw
                  case rel => exact ⟨i + 1, by omega, by go_num, by rw [Nat.min_eq_left (show i + 1 ≤ m by omega)]; exact hown', HZ2, hus, hb2⟩
                  case measure => simp [intOf]; omega
                · have hmin : min (i + 1) m = min i m := by omega
                  by_cases hv : us[i] = 0
                  · have HZ2 : Hid (∀ j (h : j < us.length), m ≤ j → j < i + 1 → us[j] = 0) := fun j h h1 h2 => if e : j = i then (by subst e; exact hv) else HZr.out j h h1 (by omega)
                    have HO' := HO
                    rw [← hmin] at HO'
                    rw [hv] at hcc
                    clear hmin hce hv
                    go_wp2_with fail
                    go_roundw
                    case rel => exact ⟨i + 1, by omega, by go_num, HO', HZ2, HUo, hbq⟩
                    case measure => simp [intOf]; omega
                  · have hvb : (((us[i] : Nat) : Int) != 0) = true := by simp; omega
                    have HN : Hid (Um.runs s.data.toList wd n = none) := Um.sofar_none HSo.out hlt (by
                      rw [← HM.out, HPs.out, HGr.out, if_neg]
                      · rfl
                      · intro hcc
                        exact hv (hcc.2 _ (List.mem_drop_iff_getElem.2 ⟨i - m, by omega, by congr 1; omega⟩)))
                    clear hmin hce hv
                    go_wp2_with fail
                    go_ret2
                    refine ⟨?_, hbq⟩
                    rw [HN.out]
                    rfl
              · obtain rfl : i = q := by omega
                have hPn : Um.part (s.data.toList.drop at_) wd (n - acc.length) = some (us.take m, k + y) := by
                  rw [← HM.out, HPs.out, HGr.out, if_pos ⟨⟨hq8, by omega⟩, fun x hx => by
                    obtain ⟨j, hj, rfl⟩ := List.getElem_of_mem hx
                    rw [List.getElem_drop]
                    rw [List.length_drop] at hj
                    exact HZr.out (m + j) (by omega) (by omega) (by have := HUn.out; omega)⟩]
                  rfl
                have HNx : Hid (Um.Sofar s.data.toList wd n (acc ++ us.take m) (at_ + (k + y))) := Um.sofar_step HSo.out hlt hPn
                have htk : us.take (min i m) = us.take m := by
                  by_cases h : i ≤ m
                  · rw [Nat.min_eq_left h, List.take_of_length_le (by rw [HUn.out]; exact Nat.le_refl _), List.take_of_length_le (by rw [HUn.out]; exact h)]
                  · rw [Nat.min_eq_right (by omega)]
                have hlen : acc.length + min i m = (acc ++ us.take m).length := by simp [HUn.out]; omega
                rw [htk, hlen] at hown
                have hle2 : (acc ++ us.take m).length ≤ n := by rw [← hlen]; have := HM.out; omega
                have hlt2 : acc.length < (acc ++ us.take m).length := by rw [← hlen]; omega
                clear hPn htk hlen
                obtain ⟨a4, c4, rfl, _⟩ := lies_own hown
                go_wp2_with fail
                go_roundw
                case rel => exact ⟨acc ++ us.take m, at_ + (k + y), ⟨by have := HA1.out; go_num, hle2, by have := HA1.out; have := HRr.out; omega, HNx.out, hown, hbq⟩⟩
                case measure => simp only [rrLen, nvals_len]; omega
    · have HN : Hid (Um.runs s.data.toList wd n = some (acc, at_)) := Um.sofar_end HSo.out (by omega)
      go_wp2_with fail
      go_ret2
      refine ⟨?_, hb⟩
      rw [HN.out]
      exact ⟨a', c', rfl, HL.out, own_fresh HOwn.out _ _ _ rfl⟩
theorem readRunsOf_any (s : ByteArray) (wd n : Nat) (w : World) (hs : s.size ≤ 3000) (hwd : wd ≤ 32) (hn : n ≤ 20000) :
    Calls Tryz.prog 52 #[.string s, .int .i64 wd, .int .i64 n] w fun e w' => RetOf (Um.runs s.data.toList wd n) e w' ∧ Below w.heap.size w w' :=
  (readRunsOf_c s wd n w hs hwd hn).mono fun _ _ h => ⟨h.1.old, h.2⟩
end Go.Proofs.YteeheodcejeloaaGreatDoor
