/-
  What is packed is unpacked: the mathematics, without the program.
  bitrun.sameFrom: how many of one number follow.
  The reference's PackOf: the bytes of the numbers as one number.
-/
import Derived.Test.YtjchkhdmjbojjaaDoorKBUnpack
import Derived.Test.YtjchkhdmjbojjaaDoorKRefBits
import Derived.RegionTactic
namespace Go.Proofs.YtjchkhdmjbojjaaDoor
namespace Um
/-- The bytes of numbers, with whatever behind them, are these numbers. -/
theorem unp_packed (k : Nat) (ns : List Nat) (q : Nat) (beh : List UInt8) (hns : ∀ x ∈ ns, x < 2 ^ k) (hq : k * ns.length ≤ 8 * q) : unp (lit (num k ns) q ++ beh) k ns.length = ns := by
  apply List.ext_getElem
  · rw [unp_len]
  · intro i h1 h2
    rw [unp_len] at h1
    have hki : k * i + k ≤ 8 * q := by
      have : k * (i + 1) ≤ k * ns.length := Nat.mul_le_mul_left _ h1
      rw [Nat.mul_add, Nat.mul_one] at this
      omega
    rw [unp_get _ _ _ _ h1, ← lev_cut _ q (k * i) k (by rw [List.length_append, lit_len]; omega) hki]
    have ht : (lit (num k ns) q ++ beh).take q = lit (num k ns) q := by
      have := List.take_left (l₁ := lit (num k ns) q) (l₂ := beh)
      rwa [lit_len] at this
    have hN : num k ns < 2 ^ (8 * q) := Nat.lt_of_lt_of_le (num_lt k ns hns) (Nat.pow_le_pow_right (by omega) hq)
    rw [ht, lev_lit, Nat.mod_eq_of_lt hN, num_get k ns i h1 hns]
/-- .. and filled up with 0. -/
theorem unp_padded (k : Nat) (ns : List Nat) (q m : Nat) (beh : List UInt8) (hns : ∀ x ∈ ns, x < 2 ^ k) (hm : ns.length ≤ m) (hq : k * m ≤ 8 * q) : unp (lit (num k ns) q ++ beh) k m = ns ++ List.replicate (m - ns.length) 0 := by
  have hz : ∀ (l : List Nat) (j : Nat), num k (l ++ List.replicate j 0) = num k l := by
    intro l j
    induction j with
    | zero => simp
    | succ j ih => rw [List.replicate_succ', ← List.append_assoc, num_snoc, ih]; simp
  have hl : (ns ++ List.replicate (m - ns.length) 0).length = m := by simp; omega
  have h := unp_packed k (ns ++ List.replicate (m - ns.length) 0) q beh (fun x hx => by
    rcases List.mem_append.1 hx with h | h
    · exact hns x h
    · rw [(List.mem_replicate.1 h).2]; exact Nat.two_pow_pos k) (by rw [hl]; exact hq)
  rw [hz, hl] at h
  exact h
/-- A part of the second kind, read. -/
theorem grps_read (k : Nat) (ns : List Nat) (g left : Nat) (beh : List UInt8) (hns : ∀ x ∈ ns, x < 2 ^ k) (hg : g = (ns.length + 7) / 8) (h0 : 0 < ns.length) (hl : ns.length = left ∨ (ns.length < left ∧ ns.length = 8 * g)) :
    grps (lit (num k ns) (g * k) ++ beh) k g left = some (ns, g * k) := by
  have hu := unp_padded k ns (g * k) (8 * g) beh hns (by omega) (by rw [Nat.mul_left_comm, Nat.mul_comm k g]; exact Nat.le_refl _)
  unfold grps
  rw [hu, if_pos]
  · have ht : (ns ++ List.replicate (8 * g - ns.length) 0).take left = ns := by
      rcases hl with h | ⟨h, h2⟩
      · rw [← h]; exact List.take_left
      · rw [show 8 * g - ns.length = 0 by omega, List.replicate_zero, List.append_nil, List.take_of_length_le (by omega)]
    rw [ht]
  · refine ⟨⟨by omega, by omega⟩, by rw [List.length_append, lit_len]; omega, ?_⟩
    intro x hx
    rcases hl with h | ⟨h, h2⟩
    · rw [← h, List.drop_left] at hx
      exact (List.mem_replicate.1 hx).2
    · rw [show 8 * g - ns.length = 0 by omega] at hx
      simp at hx
      rw [List.drop_of_length_le (by omega)] at hx
      cases hx
/-- A part of the first kind, read. -/
theorem same_read (k x c left : Nat) (beh : List UInt8) (hx : x < 2 ^ k) (h0 : 0 < c) (hl : c ≤ left) : same (lit x ((k + 7) / 8) ++ beh) k c left = some (List.replicate c x, (k + 7) / 8) := by
  have ht : (lit x ((k + 7) / 8) ++ beh).take ((k + 7) / 8) = lit x ((k + 7) / 8) := by
    have := List.take_left (l₁ := lit x ((k + 7) / 8)) (l₂ := beh)
    rwa [lit_len] at this
  have hv : lev (lit x ((k + 7) / 8)) = x := by
    rw [lev_lit, Nat.mod_eq_of_lt]
    exact Nat.lt_of_lt_of_le hx (Nat.pow_le_pow_right (by omega) (by omega))
  unfold same
  rw [ht, hv, if_pos ⟨⟨h0, hl⟩, by rw [List.length_append, lit_len]; omega, hx⟩]
end Um
end Go.Proofs.YtjchkhdmjbojjaaDoor

namespace Go.Proofs.YtjchkhdmjbojjaaDoor
open Go.RowKit
set_option linter.unusedVariables false
theorem lead_drop {xs : List Int} {i m : Nat} (hi : i < xs.length) (him : i < m) (hm : m ≤ xs.length) (h1 : ∀ j (h : j < xs.length), i < j → j < m → xs[j] = xs[i]) (h2 : ∀ h : m < xs.length, xs[m] ≠ xs[i]) : Um.lead (xs.drop i) = m - i := by
  rw [List.drop_eq_getElem_cons hi]
  simp only [Um.lead]
  rw [Um.lead_of (k := m - i - 1) (x := xs[i])]
  · omega
  · intro j h hj
    rw [List.getElem_drop]
    exact h1 _ _ (by omega) (by omega)
  · rw [List.length_drop]; omega
  · intro h
    rw [List.getElem_drop]
    have e : i + 1 + (m - i - 1) = m := by omega
    have := h2 (by rw [List.length_drop] at h; omega)
    simpa only [e] using this
set_option maxRecDepth 100000 in
set_option maxHeartbeats 1600000 in
theorem sameFrom_any (a : Option Addr) (c : Nat) (xs : List Int) (i : Nat) (w : World) (hn : xs.length ≤ 20000) (hi : i < xs.length) (h : Lies w a (i64s xs)) :
    Calls Tryd.prog 67 #[.slice a xs.length c, .int .i64 i] w fun e w' => e = .returned (.int .i64 (Um.lead (xs.drop i) : Nat)) ∧ Below w.heap.size w w' := by
  have HL : Hid (∀ j (h : j < xs.length), ∃ b o, a = some ⟨b, o, none⟩ ∧ w.cell? ⟨b, o + j, none⟩ = some (.int .i64 xs[j])) := lies_ints h
  obtain ⟨b, o, rfl, hci⟩ := HL.out i hi
  clear h
  have HLb : Hid (∀ j (h : j < xs.length), w.cell? ⟨b, o + j, none⟩ = some (.int .i64 xs[j])) := fun j hj => by
    obtain ⟨b2, o2, e2, hc2⟩ := HL.out j hj
    obtain ⟨rfl, rfl⟩ : b = b2 ∧ o = o2 := by injection e2 with e2; injection e2 with x y; exact ⟨x, y⟩
    exact hc2
  have HCi : Hid (w.cell? ⟨b, o + i, none⟩ = some (.int .i64 xs[i])) := hci
  clear hci HL
  go_enter Tryd.func67, Tryd.ntmps67
  go_wp2
  go_loopw [5] (fun x wr => ∃ m : Nat, i < m ∧ m ≤ xs.length ∧ x = .int .i64 m ∧ Hid (∀ j (h : j < xs.length), i < j → j < m → xs[j] = xs[i]) ∧ Below w.heap.size w wr) (fun x _ => xs.length - (intOf x).toNat)
  case atStart => exact ⟨i + 1, by omega, by omega, by go_num, fun j _ h1 h2 => absurd h1 (by omega), Below.refl _ _⟩
  case round =>
    obtain ⟨m, him, hm, rfl, HP, hb⟩ := hrel
    have hci := (hb.cell (World.block_lt_of_cell? w _ HCi.out)).trans HCi.out
    by_cases hlt : m < xs.length
    · have hd := HLb.out m hlt
      have hcm := (hb.cell (World.block_lt_of_cell? w _ hd)).trans hd
      clear hd
      by_cases he : xs[m] = xs[i]
      · have HE : Hid (xs[m] = xs[i]) := he
        have hbe : (xs[m] == xs[i]) = true := by simpa using he
        clear he
        go_wp2
        go_region
        all_goals (try go_wp2)
        all_goals go_roundw
        all_goals first
          | (exact ⟨m + 1, by omega, by omega, by go_num, fun j h h1 h2 => if e : j = m then (by subst e; exact HE.out) else HP.out j h h1 (by omega), hb.drew⟩)
          | (simp [intOf]; omega)
      · have HE : Hid (Um.lead (xs.drop i) = m - i) := lead_drop hi him hm HP.out (fun _ => he)
        have hbe : (xs[m] == xs[i]) = false := by simpa using he
        clear he
        go_wp2
        go_region
        all_goals (try go_wp2)
        all_goals go_ret
        all_goals exact ⟨by rw [HE.out]; go_num, hb.drew⟩
    · have HE : Hid (Um.lead (xs.drop i) = m - i) := lead_drop hi him hm HP.out (fun h => absurd h hlt)
      go_wp2
      go_region
      all_goals (try go_wp2)
      all_goals go_ret
      all_goals exact ⟨by rw [HE.out]; go_num, hb.drew⟩
end Go.Proofs.YtjchkhdmjbojjaaDoor

namespace Go.Proofs.YtjchkhdmjbojjaaDoor
open Go.RowKit
theorem bit_shift {b k : Nat} (hb : b < 2) (hk : k < 8) : IntKind.i64.wrap ((b : Int) * 2 ^ k) = (b : Int) * 2 ^ k ∧ b * 2 ^ k < 256 := by
  have h8 : 2 ^ k ≤ 2 ^ 7 := Nat.pow_le_pow_right (by omega) (by omega)
  have hm : b * 2 ^ k ≤ 1 * 2 ^ 7 := Nat.mul_le_mul (by omega) h8
  have h7 : 2 ^ 7 = 128 := rfl
  have e : (b : Int) * 2 ^ k = ((b * 2 ^ k : Nat) : Int) := by simp
  exact ⟨by rw [e, IntKind.wrap_i64]; omega, by omega⟩
/-- What PackOf's loops keep. -/
def POuter (N T : Nat) (w1 : World) (s x : Value) (wr : World) : Prop := ∃ q : Nat, 8 * q < T + 8 ∧ x = .int .i64 ((8 * q : Nat) : Int) ∧ s = .string ⟨(Um.lit N q).toArray⟩ ∧ Below w1.heap.size w1 wr
def PInner (N T q : Nat) (c y : Value) : Prop := ∃ k c' : Nat, k ≤ 8 ∧ 8 * q + k ≤ T ∧ y = .int .i64 k ∧ c = .int .i64 c' ∧ c' = N / 2 ^ (8 * q) % 2 ^ k
set_option maxRecDepth 100000 in
set_option maxHeartbeats 1600000 in
theorem packOf_any (a : Option Addr) (c : Nat) (ns : List Nat) (wd : Nat) (w : World) (hn : ns.length ≤ 20000) (hwd : wd ≤ 64) (hns : ∀ x ∈ ns, x < 2 ^ wd) (h : Lies w a (u64s ns)) :
    Calls Tryd.prog 73 #[.slice a ns.length c, .int .i64 wd] w fun e w' => e = .returned (.string ⟨(Um.lit (Um.num wd ns) ((wd * ns.length + 7) / 8)).toArray⟩) ∧ Below w.heap.size w w' := by
  have HL : Hid (Lies w a (u64s ns)) := h
  have HNS : Hid (∀ x ∈ ns, x < 2 ^ wd) := hns
  have hmul : wd * ns.length ≤ 64 * 20000 := Nat.mul_le_mul hwd hn
  have hN := Um.num_lt wd ns hns
  clear h hns
  go_enter Tryd.func73, Tryd.ntmps73
  go_wp2_with fail
  refine (bitsOf_any a c ns wd w hn hwd HNS.out HL.out).mono ?_
  generalize hTe : wd * ns.length = T at hmul hN
  have HTe : Hid (wd * ns.length = T) := hTe
  generalize hNe : Um.num wd ns = N at hN
  have HNe : Hid (Um.num wd ns = N) := hNe
  clear hTe hNe
  rintro e w1 ⟨⟨ab, cb, rfl, hlb⟩, hb1⟩
  have HB : Hid (∀ j, j < T → ∃ b o, ab = some ⟨b, o, none⟩ ∧ w1.cell? ⟨b, o + j, none⟩ = some (.int .u8 ((N / 2 ^ j % 2 : Nat) : Int))) := fun j hj => by
    obtain ⟨b, o, e, hc⟩ := hlb j (by simp [cellsOf, Um.bitl_len, hj])
    refine ⟨b, o, e, ?_⟩
    rw [hc]
    simp only [cellsOf, List.getElem_map]
    rw [Um.bitl_get N T j hj, Um.bt_int (by omega) (by omega)]
  have HN : Hid (N < 2 ^ T) := hN
  clear hlb hN
  go_wp2_with fail
  go_loopw [6, 7] (POuter N T w1) (fun _ x _ => T + 8 - (intOf x).toNat)
  case atStart => exact ⟨0, by omega, rfl, rfl, Below.refl _ _⟩
  case round =>
    obtain ⟨q, hq, rfl, rfl, hb⟩ := hrel
    by_cases hlt : 8 * q < T
    · go_wp2_with fail
      go_loop [8, 9] (PInner N T q) (fun _ y => 8 - (intOf y).toNat)
      case atStart => exact ⟨0, 0, by omega, by omega, rfl, rfl, by show _ = _; simp [Nat.mod_one]⟩
      case round =>
        obtain ⟨k, cc, hk, hkT, rfl, rfl, hcc⟩ := hrel
        have HCC : Hid (cc = N / 2 ^ (8 * q) % 2 ^ k) := hcc
        clear hcc
        have hcl : cc < 256 := by rw [HCC.out]; exact Nat.lt_of_lt_of_le (Nat.mod_lt _ (Nat.two_pow_pos k)) (Nat.le_trans (Nat.pow_le_pow_right (n := 2) (by omega) hk) (by decide))
        by_cases hgo : k < 8 ∧ 8 * q + k < T
        · obtain ⟨hk8, hkt⟩ := hgo
          obtain ⟨b, o, rfl, hc⟩ := HB.out (8 * q + k) hkt
          have hc := (hb.cell (World.block_lt_of_cell? w1 _ hc)).trans hc
          have HS : Hid (N / 2 ^ (8 * q) % 2 ^ (k + 1) = cc + N / 2 ^ (8 * q + k) % 2 * 2 ^ k) := by
            show _ = _
            rw [HCC.out, Um.mod_step, Nat.div_div_eq_div_mul, ← Nat.pow_add]
          have hbit : N / 2 ^ (8 * q + k) % 2 < 2 := Nat.mod_lt _ (by omega)
          generalize N / 2 ^ (8 * q + k) % 2 = bit at hc HS hbit
          have hsh := (bit_shift hbit hk8).1
          have hshl := (bit_shift hbit hk8).2
          have hsum : ((cc : Int) + (bit : Int) * 2 ^ k) = ((cc + bit * 2 ^ k : Nat) : Int) := by simp
          have hwr : wrap64 ((cc : Int) + (bit : Int) * 2 ^ k) = (cc : Int) + (bit : Int) * 2 ^ k := by rw [hsum]; unfold wrap64; omega
          clear hsum
          go_wp2_with fail
          go_round
          case rel => exact ⟨k + 1, cc + bit * 2 ^ k, by omega, by omega, by go_num, by simp, HS.out.symm⟩
          case measure => simp [intOf]; omega
        · have HC : Hid (cc = Um.by_ N q) := by
            show _ = _
            rw [HCC.out]
            by_cases hk8 : k < 8
            · exact Um.by_end (by rw [show 8 * q + k = T by omega]; exact HN.out) hk
            · obtain rfl : k = 8 := by omega
              rfl
          have hcase : (k < 8 ∧ ¬ (8 * (q : Int) + (k : Int) < (T : Int))) ∨ k = 8 := by omega
          have hroom : (Um.lit N q).length ≤ 1000000 := by rw [Um.lit_len]; omega
          rcases hcase with ⟨hk8, hT8⟩ | rfl
          all_goals
            go_wp2_with (go_at_call 71; refine (byte_any _ _ (by omega) (by omega)).mono ?_; rintro e w' ⟨rfl, hb'⟩)
            go_roundw
            case rel => exact ⟨q + 1, by omega, by go_num, by rw [str_snoc, HC.out, ← Um.lit_succ], hb.trans (hb'.mono hb.size)⟩
            case measure => simp [intOf]; omega
    · go_wp2_with fail
      go_ret
      exact ⟨ret_str (by rw [HNe.out, HTe.out, show (T + 7) / 8 = q by omega]), hb1.trans (hb.mono hb1.size)⟩
end Go.Proofs.YtjchkhdmjbojjaaDoor
