/-
  bitrun.Pack: what it answers, for a right width and whatever numbers; out of its bounds; and the closed fact nine().
  What the law and the reference make of ints: ints, Wide, bitsOf, PackOf: what they answer.
-/
import Derived.Test.YtjchkhdmjbojjaaDoorLPack
import Derived.Test.YtjchkhdmjbojjaaDoorLBBits0
import Derived.Test.YtjchkhdmjbojjaaDoorLBMath
import Derived.Test.YtjchkhdmjbojjaaDoorLBBase
namespace Go.Proofs.YtjchkhdmjbojjaaDoor
open Go.RowKit
/-- 'string(b)' of a row of the call's own, with an address. -/
theorem own_conv_at {w : World} {base g n cap : Nat} {l : List UInt8} (hl : l.length = n) (h : w.ownsRow base 5 1 (.slice (some ⟨g, 0, none⟩) n cap) n (cellsOf l)) :
    (convert 76 9 (.slice (some ⟨g, 0, none⟩) n cap)).run Tryd.prog w = .ok (.string ⟨l.toArray⟩) w := by
  subst hl
  exact run_convert_bytes_back w 76 9 5 ⟨g, 0, none⟩ cap l Tryd.underlying76 Tryd.underlying5 Tryd.underlying9 (fun j hj => h.cells rfl j _ (by simp [cellsOf, hj]))
/-- Right numbers, without their sign. -/
def nats (xs : List Int) : List Nat := xs.map Int.toNat
theorem nats_len (xs : List Int) : (nats xs).length = xs.length := by simp [nats]
theorem nats_get (xs : List Int) (j : Nat) (h : j < xs.length) : (nats xs)[j]'(by rw [nats_len]; exact h) = xs[j].toNat := by simp [nats]
theorem nats_lt {k : Nat} {xs : List Int} (h : ∀ j (h : j < xs.length), Room k xs[j]) : ∀ x ∈ nats xs, x < 2 ^ k := by
  intro x hx
  obtain ⟨y, hy, rfl⟩ := List.mem_map.1 hx
  obtain ⟨j, hj, rfl⟩ := List.getElem_of_mem hy
  have h0 := h j hj
  unfold Room at h0
  have e : ((2 ^ k : Nat) : Int) = (2 : Int) ^ k := by simp
  rw [← e] at h0
  omega
/-- pack, of right ints. -/
theorem pack_ints (xs : List Int) (k size : Nat) (a : Option Addr) (c : Nat) (w : World) (hlen : xs.length ≤ 20000) (hk : k ≤ 32) (hr : ∀ j (h : j < xs.length), Room k xs[j])
    (hsz : (k * xs.length + 7) / 8 ≤ size) (hsz2 : size ≤ 1000000)
    (ha : ∀ j (h : j < xs.length), ∃ b o, a = some ⟨b, o, none⟩ ∧ w.cell? ⟨b, o + j, none⟩ = some (.int .i64 xs[j])) :
    Calls Tryd.prog 66 #[.slice a xs.length c, .int .i64 k, .int .i64 size] w fun e w' =>
      (e = .returned (.slice (some ⟨w.heap.size, 0, none⟩) size size) ∧ w'.ownsRow w.heap.size 5 1 (.slice (some ⟨w.heap.size, 0, none⟩) size size) size (cellsOf (Um.lit (Um.num k (nats xs)) size))) ∧ Below w.heap.size w w' := by
  have h := pack_any (nats xs) k size a c w (by rw [nats_len]; exact hlen) hk (nats_lt hr) (by rw [nats_len]; exact hsz) hsz2 (fun j hj => by
    rw [nats_len] at hj
    obtain ⟨b, o, e, hc⟩ := ha j hj
    refine ⟨b, o, e, ?_⟩
    rw [hc, nats_get xs j hj]
    have := (hr j hj).1
    rw [Int.toNat_of_nonneg this])
  rw [nats_len] at h
  exact h
/-- The bytes of right numbers. -/
def packed (k : Nat) (xs : List Int) : List UInt8 := Um.lit (Um.num k (nats xs)) ((k * xs.length + 7) / 8)
set_option maxHeartbeats 800000 in
set_option maxRecDepth 100000 in
theorem packF_any (a : Option Addr) (xs : List Int) (c k : Nat) (w : World) (st : TypeId) (sp : Value) (hn : xs.length ≤ 20000) (hk : k ≤ 32) (hg : w.cell? ⟨1, 0, none⟩ = some (.iface st sp))
    (hx : ∀ j (h : j < xs.length), -9223372036854775808 ≤ xs[j] ∧ xs[j] ≤ 9223372036854775807)
    (ha : ∀ j (h : j < xs.length), ∃ b o, a = some ⟨b, o, none⟩ ∧ w.cell? ⟨b, o + j, none⟩ = some (.int .i64 xs[j])) :
    Calls Tryd.prog 78 #[.slice a xs.length c, .int .i64 k] w fun e w' =>
      ((e = .returned (.tuple #[.string ⟨(packed k xs).toArray⟩, .nilIface]) ∧ ∀ j (h : j < xs.length), Room k xs[j]) ∨
       (∃ i p, ∃ hi : i < xs.length, e = .returned (.tuple #[.string ⟨#[]⟩, .iface 84 (.pointer (some ⟨p, 0, none⟩))]) ∧ (∀ j (h : j < xs.length), j < i → Room k xs[j]) ∧ ¬ Room k xs[i] ∧ w'.cell? ⟨p, 0, none⟩ = some (.int .i64 i) ∧ w'.cell? ⟨p, 1, none⟩ = some (.iface st sp))) ∧ Below w.heap.size w w' := by
  have HG : Hid (w.cell? ⟨1, 0, none⟩ = some (.iface st sp)) := hg
  have HX : Hid (∀ j (h : j < xs.length), -9223372036854775808 ≤ xs[j] ∧ xs[j] ≤ 9223372036854775807) := hx
  have HA : Hid (∀ j (h : j < xs.length), ∃ b o, a = some ⟨b, o, none⟩ ∧ w.cell? ⟨b, o + j, none⟩ = some (.int .i64 xs[j])) := ha
  have hmul : k * xs.length ≤ 32 * 20000 := Nat.mul_le_mul hk hn
  have hmi : (xs.length : Int) * (k : Int) = ((k * xs.length : Nat) : Int) := by rw [Nat.mul_comm]; simp
  clear hx ha hg
  go_enter Tryd.func78, Tryd.ntmps78
  go_wp2_with fail
  refine (check_any a xs c k w st sp hn hk HG.out HX.out HA.out).mono ?_
  rintro e w1 ⟨⟨rfl, HR⟩ | ⟨i, p, hi, rfl, h1, h2, h3, h4⟩, hb1⟩
  · have HR' : Hid (∀ j (h : j < xs.length), Room k xs[j]) := HR
    clear HR
    obtain ⟨size, HS⟩ : ∃ size, Hid (size = (k * xs.length + 7) / 8) := ⟨_, rfl⟩
    have hs2 : size ≤ 1000000 := by rw [HS.out]; omega
    go_wp2_with (go_at_call 65; refine (eights_any (k * xs.length) _ (by omega)).mono ?_; rw [← HS.out]; rintro e w2 ⟨rfl, hw⟩; obtain rfl := hw.symm)
    refine (pack_ints xs k size a c w1 hn hk HR'.out (by rw [HS.out]; exact Nat.le_refl _) hs2 (fun j h => by
      obtain ⟨b, o, e, hc⟩ := HA.out j h
      exact ⟨b, o, e, (hb1.cell (World.block_lt_of_cell? w _ hc)).trans hc⟩)).mono ?_
    rintro e w2 ⟨⟨rfl, hown⟩, hb2⟩
    have hcv := own_conv_at (Um.lit_len _ _) hown
    go_wp2_with fail
    go_ret2
    refine ⟨Or.inl ⟨?_, HR'.out⟩, hb1.trans (hb2.mono hb1.size)⟩
    unfold packed
    rw [← HS.out]
    rfl
  · go_wp2_with fail
    go_ret2
    exact ⟨Or.inr ⟨i, p, hi, rfl, h1, h2, h3, h4⟩, hb1⟩
set_option maxRecDepth 100000 in
theorem packF_bound (a : Option Addr) (n c : Nat) (k : Int) (w : World) (st : TypeId) (sp : Value) (hn : n ≤ maxLen) (hg : w.cell? ⟨3, 0, none⟩ = some (.iface st sp)) (hk : decide (0 ≤ k ∧ k ≤ 32) = false ∨ decide (0 ≤ k ∧ k ≤ 32) = true ∧ decide ((n : Int) ≤ 20000) = false) :
    Calls Tryd.prog 78 #[.slice a n c, .int .i64 k] w fun e w' => e = .returned (.tuple #[.string ⟨#[]⟩, .iface st sp]) ∧ w' = w := by
  have HG : Hid (w.cell? ⟨3, 0, none⟩ = some (.iface st sp)) := hg
  clear hg
  go_enter Tryd.func78, Tryd.ntmps78
  go_wp2_with (go_at_call 63; refine (check_bound a n c k w _ hn HG.out hk).mono ?_; rintro e w1 ⟨rfl, hw⟩; obtain rfl := hw.symm)
  go_ret2
  exact ⟨rfl, rfl⟩
theorem packed_nine : packed 2 [1, 2] = [9] := by decide +kernel
end Go.Proofs.YtjchkhdmjbojjaaDoor

namespace Go.Proofs.YtjchkhdmjbojjaaDoor
open Go.RowKit
theorem Tryd.info3 : (Tryd.prog.info? 3).map (fun i => (i.zero, i.size, i.bytes)) = some (some (.int .i64 0), 1, 8) := by kernel_rfl
theorem Tryd.info55 : (Tryd.prog.info? 55).map (fun i => (i.zero, i.size, i.bytes)) = some (some (.int .u64 0), 1, 8) := by kernel_rfl
/-- Where a slice's cells lie. -/
def Lies (w : World) (a : Option Addr) (cs : List Value) : Prop := ∀ j (h : j < cs.length), ∃ b o, a = some ⟨b, o, none⟩ ∧ w.cell? ⟨b, o + j, none⟩ = some cs[j]
theorem Lies.keep {w w' : World} {a : Option Addr} {cs : List Value} (h : Lies w a cs) (hb : Below w.heap.size w w') : Lies w' a cs := fun j hj => by
  obtain ⟨b, o, e, hc⟩ := h j hj
  exact ⟨b, o, e, (hb.cell (World.block_lt_of_cell? w _ hc)).trans hc⟩
theorem addr_add (b o j : Nat) : (⟨b, o, none⟩ : Addr).add j = ⟨b, o + j, none⟩ := by unfold Addr.add; split <;> simp_all
/-- What is owned lies somewhere. -/
theorem lies_own {w : World} {base e n : Nat} {v : Value} {cs : List Value} (h : w.ownsRow base e 1 v n cs) : ∃ a c, v = .slice a cs.length c ∧ Lies w a cs := by
  have hl := h.1
  rw [Nat.mul_one] at hl
  rcases h.2 with ⟨rfl, rfl⟩ | ⟨g, cap, cur, rfl, _, hg, _, _, _, htake⟩
  · refine ⟨none, 0, by rw [hl], fun j hj => absurd hj (by omega)⟩
  · refine ⟨some ⟨g, 0, none⟩, cap, by rw [hl], fun j hj => ⟨g, 0, rfl, ?_⟩⟩
    have := h.cells rfl j _ (List.getElem?_eq_getElem hj)
    rw [addr_add] at this
    exact this
/-- What is returned is a slice with these cells. -/
def RetSl (e : Ending) (w' : World) (n : Nat) (cs : List Value) : Prop := ∃ a c, e = .returned (.slice a n c) ∧ Lies w' a cs
def i64s (xs : List Int) : List Value := xs.map (Value.int .i64)
theorem i64s_len (xs : List Int) : (i64s xs).length = xs.length := by simp [i64s]
theorem lies_ints {w : World} {a : Option Addr} {xs : List Int} (h : Lies w a (i64s xs)) : ∀ j (h : j < xs.length), ∃ b o, a = some ⟨b, o, none⟩ ∧ w.cell? ⟨b, o + j, none⟩ = some (.int .i64 xs[j]) := fun j hj => by
  obtain ⟨b, o, e, hc⟩ := h j (by rw [i64s_len]; exact hj)
  exact ⟨b, o, e, by rw [hc]; simp [i64s]⟩
/-- Numbers without a sign, as cells. -/
def u64s (ns : List Nat) : List Value := ns.map fun n : Nat => .int .u64 (n : Int)
theorem u64s_len (ns : List Nat) : (u64s ns).length = ns.length := by simp [u64s]
set_option maxRecDepth 100000 in
set_option maxHeartbeats 800000 in
/-- Wide, of numbers that are not below 0. -/
theorem wide_any (a : Option Addr) (c : Nat) (xs : List Int) (w : World) (hn : xs.length ≤ 20000) (h : Lies w a (i64s xs)) (hx : ∀ j (h : j < xs.length), 0 ≤ xs[j] ∧ xs[j] ≤ 9223372036854775807) :
    Calls Tryd.prog 74 #[.slice a xs.length c] w fun e w' => RetSl e w' xs.length (u64s (nats xs)) ∧ Below w.heap.size w w' := by
  obtain ⟨i0, hi, hz0, hz1, hz2⟩ := info_parts Tryd.info55
  have HL : Hid (∀ j (h : j < xs.length), ∃ b o, a = some ⟨b, o, none⟩ ∧ w.cell? ⟨b, o + j, none⟩ = some (.int .i64 xs[j])) := lies_ints h
  have HX : Hid (∀ j (h : j < xs.length), 0 ≤ xs[j] ∧ xs[j] ≤ 9223372036854775807) := hx
  clear h hx
  go_enter Tryd.func74, Tryd.ntmps74
  go_wp2
  go_loopw [3, 4] (fun v x wr => ∃ i : Nat, i ≤ xs.length ∧ x = .int .i64 i ∧ wr.ownsRow w.heap.size 55 1 v i (u64s (nats (xs.take i))) ∧ Below w.heap.size w wr) (fun _ x _ => xs.length - (intOf x).toNat)
  case atStart => exact ⟨0, Nat.zero_le _, rfl, by simpa [u64s, nats] using World.ownsRow_nil w w.heap.size 55 1, Below.refl _ _⟩
  case round =>
    obtain ⟨i, hik, rfl, hown, hb⟩ := hrel
    by_cases hlt : i < xs.length
    · obtain ⟨b, o, rfl, hc⟩ := HL.out i hlt
      have hc := (hb.cell (World.block_lt_of_cell? w _ hc)).trans hc
      have hr := HX.out i hlt
      have HT : Hid (u64s (nats (xs.take (i + 1))) = u64s (nats (xs.take i)) ++ [.int .u64 xs[i]]) := by
        show _ = _
        rw [List.take_succ_eq_append_getElem hlt]
        unfold u64s nats
        rw [List.map_append, List.map_append, List.map_cons, List.map_nil, List.map_cons, List.map_nil, Int.toNat_of_nonneg hr.1]
      generalize xs[i] = x at hc hr HT
      go_wp2_with (at_builtin; refine wpList_append_own _ rfl _ _ 99 rfl w.heap.size 55 i0 (.int .u64 0) 1 8 Tryd.underlying99 hi hz0 hz1 hz2 rfl (by decide) _ _ _ rfl (hown.alloc _) ⟨wr.heap.size, 0, none⟩ 1 1 [.int .u64 x] rfl rfl (cell_one_new _ _ _) (by intro u hu; simp at hu; subst hu; rfl) (by unfold maxLen; omega) (by omega) (by have := hb.size; simp; omega) ?_; intro v' w1 hown' hgrow _)
      have hb2 := below_app hb (Nat.le_refl _) hown hgrow
      rw [← HT.out] at hown'
      go_wp2
      go_roundw
      case rel => exact ⟨i + 1, by omega, by go_num, hown', hb2⟩
      case measure => simp [intOf]; omega
    · obtain rfl : i = xs.length := by omega
      rw [List.take_length] at hown
      obtain ⟨a', c', rfl, hl⟩ := lies_own hown
      go_wp2
      go_ret
      exact ⟨⟨a', c', by rw [u64s_len, nats_len]; rfl, hl⟩, hb⟩
theorem own_bit_snoc {w : World} {base e N m : Nat} {v : Value} {n : Int} (hn : n = ((N / 2 ^ m % 2 : Nat) : Int)) (h : w.ownsRow base e 1 v (m + 1) (cellsOf (Um.bitl N m) ++ [.int .u8 n])) : w.ownsRow base e 1 v (m + 1) (cellsOf (Um.bitl N (m + 1))) := by
  rw [Um.bitl_succ, cells_snoc, Um.bt_int (by omega) (by omega), ← hn]; exact h
set_option maxRecDepth 100000 in
set_option maxHeartbeats 800000 in
/-- bitsOf, of right numbers: the bits of the one number. -/
theorem bitsOf_any (a : Option Addr) (c : Nat) (ns : List Nat) (wd : Nat) (w : World) (hn : ns.length ≤ 20000) (hwd : wd ≤ 64) (hns : ∀ x ∈ ns, x < 2 ^ wd) (h : Lies w a (u64s ns)) :
    Calls Tryd.prog 104 #[.slice a ns.length c, .int .i64 wd] w fun e w' => RetSl e w' (wd * ns.length) (cellsOf (Um.bitl (Um.num wd ns) (wd * ns.length))) ∧ Below w.heap.size w w' := by
  obtain ⟨i0, hi, hz0, hz1, hz2⟩ := info_parts Tryd.info5
  have HL : Hid (∀ j (h : j < ns.length), ∃ b o, a = some ⟨b, o, none⟩ ∧ w.cell? ⟨b, o + j, none⟩ = some (.int .u64 (ns[j] : Nat))) := fun j hj => by
    obtain ⟨b, o, e, hc⟩ := h j (by rw [u64s_len]; exact hj)
    exact ⟨b, o, e, by rw [hc]; simp [u64s]⟩
  have HNS : Hid (∀ x ∈ ns, x < 2 ^ wd) := hns
  have hmul : wd * ns.length ≤ 64 * 20000 := Nat.mul_le_mul hwd hn
  obtain ⟨T, HT⟩ : ∃ T, Hid (T = wd * ns.length) := ⟨_, rfl⟩
  rw [← HT.out] at hmul
  clear h hns
  have HG : Hid (∀ i, ∀ hi : i < ns.length, ∀ k, k < wd → Um.num wd ns / 2 ^ (wd * i + k) % 2 = ns[i] / 2 ^ k % 2) := fun i hi k hk => Um.bit_at wd ns i k hi hk HNS.out
  rw [← HT.out]
  generalize Um.num wd ns = N at HG
  go_enter Tryd.func104, Tryd.ntmps104
  go_wp2
  go_loopw [5, 6] (fun v x wr => ∃ i m : Nat, i ≤ ns.length ∧ x = .int .i64 i ∧ Hid (m = wd * i) ∧ wr.ownsRow w.heap.size 5 1 v m (cellsOf (Um.bitl N m)) ∧ Below w.heap.size w wr) (fun _ x _ => ns.length - (intOf x).toNat)
  case atStart => exact ⟨0, 0, Nat.zero_le _, rfl, rfl, World.ownsRow_nil w w.heap.size 5 1, Below.refl _ _⟩
  case round =>
    obtain ⟨i, m, hik, rfl, HM, hown, hb⟩ := hrel
    by_cases hlt : i < ns.length
    · obtain ⟨b, o, rfl, hc⟩ := HL.out i hlt
      have hc := (hb.cell (World.block_lt_of_cell? w _ hc)).trans hc
      have hx : ns[i] < 2 ^ wd := HNS.out _ (List.getElem_mem hlt)
      have hw2 : 2 ^ wd ≤ 18446744073709551616 := Nat.le_trans (Nat.pow_le_pow_right (by omega) hwd) (by decide)
      have hx4 : ns[i] < 18446744073709551616 := by omega
      have hG := HG.out i hlt
      rw [← HM.out] at hG
      have HG1 : Hid (∀ k, k < wd → N / 2 ^ (m + k) % 2 = ns[i] / 2 ^ k % 2) := hG
      have HM1 : Hid (m + wd = wd * (i + 1)) := by show _ = _; rw [Nat.mul_add, Nat.mul_one, HM.out]
      have hmT : m + wd ≤ T := by rw [HM1.out, HT.out]; exact Nat.mul_le_mul_left _ hlt
      clear hG hx hw2
      generalize ns[i] = x at hc hx4 HG1
      go_wp2
      clear hc
      go_loopw [5, 7, 8] (fun v n y wr => ∃ k n' : Nat, k ≤ wd ∧ y = .int .i64 k ∧ n = .int .u64 n' ∧ n' < 18446744073709551616 ∧ Hid (n' = x / 2 ^ k) ∧ wr.ownsRow w.heap.size 5 1 v (m + k) (cellsOf (Um.bitl N (m + k))) ∧ Below w.heap.size w wr) (fun _ _ y _ => wd - (intOf y).toNat)
      case atStart => exact ⟨0, x, Nat.zero_le _, rfl, rfl, hx4, by show _ = _; simp, hown, hb⟩
      case round =>
        clear hown hb
        obtain ⟨k, n, hk, rfl, rfl, hn4, HN, hown, hb⟩ := hrel
        by_cases hkl : k < wd
        · have HB : Hid (((n % 2 : Nat) : Int) = ((N / 2 ^ (m + k) % 2 : Nat) : Int)) := by show _ = _; rw [HG1.out k hkl, HN.out]
          go_wp2_with (at_builtin; refine wpList_append_own _ rfl _ _ 76 rfl w.heap.size 5 i0 (.int .u8 0) 1 1 Tryd.underlying76 hi hz0 hz1 hz2 rfl (by decide) _ _ _ rfl (hown.alloc _) ⟨_, 0, none⟩ 1 1 [.int .u8 ((n : Int) % 2)] rfl rfl (cell_one_new _ _ _) (by intro u hu; simp at hu; subst hu; rfl) (by unfold maxLen; omega) (by omega) (by have := hb.size; simp; omega) ?_; intro v' w1 hown' hgrow _)
          have hown2 := own_bit_snoc (by rw [← HB.out]; omega) hown'
          have hb2 := below_app hb (Nat.le_refl _) hown hgrow
          go_wp2
          go_roundw
          case rel => exact ⟨k + 1, n / 2, by omega, by go_num, by go_num, by omega, by show _ = _; rw [HN.out, Nat.pow_succ, Nat.div_div_eq_div_mul], hown2, hb2⟩
          case measure => simp [intOf]; omega
        · obtain rfl : k = wd := by omega
          go_wp2
          go_roundw
          case rel => exact ⟨i + 1, m + k, by omega, by go_num, HM1, hown, hb⟩
          case measure => simp [intOf]; omega
    · obtain rfl : i = ns.length := by omega
      have e : m = T := by rw [HM.out, HT.out]
      subst e
      obtain ⟨a', c', rfl, hl⟩ := lies_own hown
      have hle : (cellsOf (Um.bitl N m)).length = m := by simp [cellsOf, Um.bitl_len]
      rw [hle]
      go_wp2
      go_ret
      exact ⟨⟨a', c', rfl, hl⟩, hb⟩
end Go.Proofs.YtjchkhdmjbojjaaDoor
