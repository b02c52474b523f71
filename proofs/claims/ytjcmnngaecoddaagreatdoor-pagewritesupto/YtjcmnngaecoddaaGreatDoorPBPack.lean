/-
  bitrun.pack: the bytes of the numbers as one number, for whatever numbers have room; what is appended within a row's own room.
  bitrun.Pack: what it answers, for a right width and whatever numbers; out of its bounds; and the closed fact nine().
  What the law and the reference make of ints: ints, Wide, bitsOf, PackOf: what they answer.
  bitrun.unpack: the numbers that bytes are, so many bits each.
  Numbers as runs: the bytes that are written: the mathematics, without the program.
  The reference's PackOf: the bytes of the numbers as one number.
  slices.Min and slices.Max of numbers.
  bitrun.sameFrom: how many of one number follow.
-/
import Derived.Test.YtjcmnngaecoddaaGreatDoorPBFix
import Derived.OwnWalk
import Derived.Lib.AppendZeros
import Derived.Test.YtjcmnngaecoddaaGreatDoorPBMath
import Derived.Test.YtjcmnngaecoddaaGreatDoorPBBase
import Derived.RegionTactic
namespace Go.Proofs.YtjcmnngaecoddaaGreatDoor
open Go.RowKit
/-- 'append(b, make([]byte, k)...)' within the room of a row of the call's own. -/
theorem run_zeros_fit (w : World) (base ty g n k cap : Nat) (l : List UInt8) (hown : w.ownsRow base 5 1 (.slice (some ⟨g, 0, none⟩) n cap) n (cellsOf l)) (hroom : n + k ≤ cap) (hk : k < 281474976710656) :
    ∃ w', (Builtin.append_ #[80, 3] ty #[.slice (some ⟨g, 0, none⟩) n cap, .int .i64 k]).run Tryz.prog w = .ok (.slice (some ⟨g, 0, none⟩) (n + k) cap) w' ∧
      w'.ownsRow base 5 1 (.slice (some ⟨g, 0, none⟩) (n + k) cap) (n + k) (cellsOf (l ++ List.replicate k 0)) ∧ w.grownBy w' (some g) := by
  obtain ⟨i0, hi, hz0, hz1, hz2⟩ := info_parts Tryz.info5
  have hl : l.length = n := by have := hown.1; simpa [cellsOf] using this
  have hw : IntKind.i64.wrap (k : Int) = k := by rw [IntKind.wrap_i64]; omega
  have hneg : ¬ ((k : Int) < 0) := by omega
  have h48i : ¬ (281474976710656 < (k : Int)) := by omega
  by_cases hk0 : k = 0
  · subst hk0
    refine ⟨w, ?_, by simpa using hown, ⟨rfl, rfl, rfl, Nat.le_refl _, fun _ _ _ => rfl⟩⟩
    have hr : n ≤ cap := by omega
    have hw0 : IntKind.i64.wrap 0 = 0 := by decide
    simp [hw0, Builtin.append_, run_underlying Tryz.underlying80, run_underlying Tryz.underlying3, sizeOf, typeInfo, hi, hz2, asInt, asIntOf, hr, storeCells]
  · rcases hown.2 with ⟨h, _⟩ | ⟨g', cap', cur, h, hbg, hg, hnc, hcm, hcs, htake⟩
    · simp at h
    · simp only [Value.slice.injEq, Option.some.injEq, Addr.mk.injEq, and_true, true_and] at h
      obtain ⟨rfl, rfl⟩ := h
      have hzc : Builtin.zeroCells (Value.int .u8 0).cells k = (List.replicate k (Value.int .u8 0)).toArray := by
        apply Array.ext
        · simp [Builtin.zeroCells, Value.cells]
        · intro i h1 h2
          simp [Builtin.zeroCells, Value.cells, Nat.mod_one]
      have hst := run_storeCells_at Tryz.prog g n 5 (List.replicate k (Value.int .u8 0)) 0 cur w hg (by simp; omega) (by intro u hu; rw [List.mem_replicate] at hu; rw [hu.2]; rfl)
      simp only [Nat.add_zero] at hst
      refine ⟨w.setRow g (cur.toList.take n ++ List.replicate k (Value.int .u8 0) ++ cur.toList.drop (n + (List.replicate k (Value.int .u8 0)).length)).toArray, ?_, ⟨?_, .inr ⟨g, cap, _, rfl, hbg, setRow_heap w g cur _ 5 _ hg, hroom, hcm, ?_, ?_⟩⟩, ⟨rfl, rfl, rfl, by simp, fun k _ hk => setRow_other w g k _ (fun e => hk (by simp [e]))⟩⟩
      · simp [Builtin.append_, run_underlying Tryz.underlying80, run_underlying Tryz.underlying3, sizeOf, typeInfo, zeroValue, hi, hz0, hz1, hz2, asInt, asIntOf, hw, hneg, h48i, hk0, hroom, hzc, Addr.add_lit, hst]
      · simp [cellsOf, hl]
      · simp only [List.size_toArray, List.length_append, List.length_take, List.length_drop, Array.length_toList, List.length_replicate]
        omega
      · simp only [Nat.mul_one] at htake ⊢
        rw [htake]
        have e : cellsOf (l ++ List.replicate k 0) = cellsOf l ++ List.replicate k (Value.int .u8 0) := by simp [cellsOf]
        rw [e]
        have hlen : (cellsOf l ++ List.replicate k (Value.int .u8 0)).length = n + k := by simp [cellsOf, hl]
        rw [← hlen]
        exact List.take_left
theorem run_zeros_int (w : World) (base ty g n k cap : Nat) (m : Int) (N : Nat) (hm : m = ((k - n : Nat) : Int)) (hown : w.ownsRow base 5 1 (.slice (some ⟨g, 0, none⟩) n cap) n (cellsOf (Um.lit N n))) (hnk : n ≤ k) (hroom : k ≤ cap) (hk : k < 281474976710656) (hN : N < 2 ^ (8 * n)) :
    ∃ w', (Builtin.append_ #[80, 3] ty #[.slice (some ⟨g, 0, none⟩) n cap, .int .i64 m]).run Tryz.prog w = .ok (.slice (some ⟨g, 0, none⟩) k cap) w' ∧
      w'.ownsRow base 5 1 (.slice (some ⟨g, 0, none⟩) k cap) k (cellsOf (Um.lit N k)) ∧ w.grownBy w' (some g) := by
  subst hm
  have h := run_zeros_fit w base ty g n (k - n) cap (Um.lit N n) hown (by omega) (by omega)
  rw [← Um.lit_zeros N n (k - n) hN, show n + (k - n) = k by omega] at h
  exact h
theorem or64 (a b : Nat) (ha : a < 18446744073709551616) (hb : b < 18446744073709551616) : bits .or .u64 (a : Int) (b : Int) = ((a ||| b : Nat) : Int) := u64_or_nat a b ha hb
theorem or_shift {r x h : Nat} (hr : r < 2 ^ h) (hx : x < 4294967296) (hh : h < 8) : bits .or .u64 (r : Int) (IntKind.u64.wrap ((x : Int) * 2 ^ h)) = ((r + x * 2 ^ h : Nat) : Int) := by
  have h8 : 2 ^ h ≤ 2 ^ 8 := Nat.pow_le_pow_right (by omega) (by omega)
  have hm : x * 2 ^ h ≤ 4294967296 * 256 := Nat.mul_le_mul (by omega) (by simpa using h8)
  have e : (x : Int) * 2 ^ h = ((x * 2 ^ h : Nat) : Int) := by simp
  have e2 : IntKind.u64.wrap ((x : Int) * 2 ^ h) = ((x * 2 ^ h : Nat) : Int) := by
    rw [e, IntKind.wrap_u64]; omega
  rw [e2, or64 r _ (by have : 2 ^ 8 = 256 := rfl; omega) (by omega), Um.or_above hr]
theorem below_fit {B : Nat} {w wr w1 : World} {o : Obj} {g e n c : Nat} {xs : List Value} (hb : Below B w wr) (hB : B ≤ w.heap.size) (hown : wr.ownsRow B e 1 (.slice (some ⟨g, 0, none⟩) n c) n xs) (hg : (wr.alloc o).grownBy w1 (some g)) : Below B w w1 :=
  below_app hb hB hown hg
theorem own_lit_snoc {w : World} {base e N q : Nat} {v : Value} {n : Int} (hn : n = (Um.by_ N q : Nat)) (h : w.ownsRow base e 1 v (q + 1) (cellsOf (Um.lit N q) ++ [.int .u8 n])) : w.ownsRow base e 1 v (q + 1) (cellsOf (Um.lit N (q + 1))) := by
  have hlt := Um.by_lt N q
  rw [Um.lit_succ, cells_snoc, Um.bt_int (by omega) (by omega), ← hn]; exact h
set_option maxHeartbeats 1600000 in
set_option maxRecDepth 100000 in
theorem pack_any (ns : List Nat) (wd size : Nat) (a : Option Addr) (c : Nat) (w : World) (hlen : ns.length ≤ 20000) (hwd : wd ≤ 32) (hns : ∀ x ∈ ns, x < 2 ^ wd)
    (hsz : (wd * ns.length + 7) / 8 ≤ size) (hsz2 : size ≤ 1000000)
    (ha : ∀ j (h : j < ns.length), ∃ b o, a = some ⟨b, o, none⟩ ∧ w.cell? ⟨b, o + j, none⟩ = some (.int .i64 (ns[j] : Nat))) :
    Calls Tryz.prog 64 #[.slice a ns.length c, .int .i64 wd, .int .i64 size] w fun e w' =>
      (e = .returned (.slice (some ⟨w.heap.size, 0, none⟩) size size) ∧ w'.ownsRow w.heap.size 5 1 (.slice (some ⟨w.heap.size, 0, none⟩) size size) size (cellsOf (Um.lit (Um.num wd ns) size))) ∧ Below w.heap.size w w' := by
  obtain ⟨i0, hi, hz0, hz1, hz2⟩ := info_parts Tryz.info5
  obtain ⟨M, hM⟩ : ∃ M, M = madeCells (Value.int .u8 0).cells (((size : Nat) : Int).toNat * i0.size) := ⟨_, rfl⟩
  have hMs : M.size = size := by rw [hM, size_madeCells, hz1]; simp
  have hmk : ∀ W : World, (Instr.makeSlice 80 (.int .i64 0) (.int .i64 (size : Int))).run Tryz.prog W = .ok (.slice (some ⟨W.heap.size, 0, none⟩) 0 size) (W.alloc (.cells M 5)) := fun W => by
    have h := run_make (P := Tryz.prog) W 80 5 i0 (.int .u8 0) Tryz.underlying80 hi hz0 .i64 .i64 0 (size : Int) (by omega) (by omega) (by rw [hz2]; omega) (by omega)
    rw [← hM] at h
    simpa using h
  have HS : Hid ((w.alloc (.cells M 5)).ownsRow w.heap.size 5 1 (.slice (some ⟨w.heap.size, 0, none⟩) 0 size) 0 (cellsOf [])) := World.ownsRow_made w M size (Nat.le_refl _) (by unfold maxLen; omega) (by omega)
  have HA : Hid (∀ j (h : j < ns.length), ∃ b o, a = some ⟨b, o, none⟩ ∧ w.cell? ⟨b, o + j, none⟩ = some (.int .i64 (ns[j] : Nat))) := ha
  have HNS : Hid (∀ x ∈ ns, x < 2 ^ wd) := hns
  obtain ⟨T, HT⟩ : ∃ T, Hid (T = wd * ns.length) := ⟨_, rfl⟩
  rw [← HT.out] at hsz
  clear hM hMs ha hns
  go_enter Tryz.func64, Tryz.ntmps64
  go_wp2
  clear hmk
  go_loopw [7, 8, 9, 16] (fun b r h i wr => ∃ k q r' h' : Nat, k ≤ ns.length ∧ i = .int .i64 k ∧ b = .slice (some ⟨w.heap.size, 0, none⟩) q size ∧ r = .int .u64 r' ∧ h = .int .i64 h' ∧ h' < 8 ∧ Hid (8 * q + h' = wd * k) ∧ Hid (r' = Um.num wd (ns.take k) / 2 ^ (8 * q)) ∧
      Hid (wr.ownsRow w.heap.size 5 1 (.slice (some ⟨w.heap.size, 0, none⟩) q size) q (cellsOf (Um.lit (Um.num wd (ns.take k)) q))) ∧ Below w.heap.size w wr) (fun _ _ _ i _ => ns.length - (intOf i).toNat)
  case atStart => exact ⟨0, 0, 0, 0, Nat.zero_le _, rfl, rfl, rfl, rfl, by omega, rfl, by show _ = _; simp [Um.num], HS, (Below.refl _ _).alloc (Nat.le_refl _) _⟩
  case round =>
    obtain ⟨k, q, r, h, hk, rfl, rfl, rfl, rfl, hh, HB, HR, HO, hb⟩ := hrel
    by_cases hlt : k < ns.length
    · obtain ⟨b, o, rfl, hc⟩ := HA.out k hlt
      have hc := (hb.cell (World.block_lt_of_cell? w _ hc)).trans hc
      have hx : ns[k] < 2 ^ wd := HNS.out _ (List.getElem_mem hlt)
      have HN1 : Hid (Um.num wd (ns.take (k + 1)) = Um.num wd (ns.take k) + ns[k] * 2 ^ (wd * k)) := Um.num_take wd ns k hlt
      have HNL : Hid (Um.num wd (ns.take (k + 1)) < 2 ^ (wd * (k + 1))) := Um.num_take_lt wd ns (k + 1) HNS.out hlt
      have hN0 := Um.num_take_lt wd ns k HNS.out hk
      generalize ns[k] = x at hc hx HN1
      have hw2 : 2 ^ wd ≤ 4294967296 := Nat.le_trans (Nat.pow_le_pow_right (by omega) hwd) (by decide)
      have hx4 : x < 4294967296 := by omega
      have hkT : wd * (k + 1) ≤ T := by rw [HT.out]; exact Nat.mul_le_mul_left _ hlt
      have hrl : r < 2 ^ h := by
        rw [HR.out, show h = wd * k - 8 * q by have := HB.out; omega]
        exact Um.above_lt hN0 (by have := HB.out; omega)
      have hor := or_shift hrl hx4 hh
      have HR1 : Hid (r + x * 2 ^ h = Um.num wd (ns.take (k + 1)) / 2 ^ (8 * q)) := by
        show _ = _
        rw [HN1.out, Um.above_add _ _ _ _ (by have := HB.out; omega), ← HR.out, show wd * k - 8 * q = h by have := HB.out; omega]
      have HO1 : Hid (wr.ownsRow w.heap.size 5 1 (.slice (some ⟨w.heap.size, 0, none⟩) q size) q (cellsOf (Um.lit (Um.num wd (ns.take (k + 1))) q))) := by
        show World.ownsRow _ _ _ _ _ _ _
        rw [HN1.out, Um.lit_add _ _ _ _ (by have := HB.out; omega)]
        exact HO.out
      have h8 : 2 ^ h ≤ 256 := Nat.le_trans (Nat.pow_le_pow_right (n := 2) (by omega) (show h ≤ 8 by omega)) (by decide)
      have hm : x * 2 ^ h ≤ 4294967296 * 256 := Nat.mul_le_mul (by omega) h8
      have hr1 : r + x * 2 ^ h < 18446744073709551616 := by omega
      have HB1 : Hid (8 * q + (h + wd) = wd * (k + 1)) := by show _ = _; rw [Nat.mul_add, ← HB.out]; omega
      clear HN1 hN0 hrl h8 hm HO HR HB hx hw2
      generalize hN : Um.num wd (ns.take (k + 1)) = N at HNL HR1 HO1
      have HN : Hid (Um.num wd (ns.take (k + 1)) = N) := hN
      generalize hBe : wd * (k + 1) = B at HNL hkT HB1
      have HBe : Hid (wd * (k + 1) = B) := hBe
      clear hN hBe
      go_wp2
      clear hor hc
      go_loopw [7, 8, 9] (fun b r h wr => ∃ q r' h' : Nat, b = .slice (some ⟨w.heap.size, 0, none⟩) q size ∧ r = .int .u64 r' ∧ h = .int .i64 h' ∧ h' < 100 ∧ r' < 18446744073709551616 ∧ Hid (8 * q + h' = B) ∧ Hid (r' = N / 2 ^ (8 * q)) ∧
        Hid (wr.ownsRow w.heap.size 5 1 (.slice (some ⟨w.heap.size, 0, none⟩) q size) q (cellsOf (Um.lit N q))) ∧ Below w.heap.size w wr) (fun _ _ h _ => (intOf h).toNat)
      case atStart => exact ⟨q, r + x * 2 ^ h, h + wd, rfl, by simp, by go_num, by omega, hr1, HB1, HR1, HO1, hb⟩
      case round =>
        clear HR1 HO1 HB1 hb hh hr1
        obtain ⟨q, r, h, rfl, rfl, rfl, hh, hr1, HB1, HR, HO, hb⟩ := hrel
        have hq := HB1.out
        have hby : ((r : Int) % 256) = ((Um.by_ N q : Nat) : Int) := by rw [HR.out]; unfold Um.by_; simp
        by_cases h8 : 8 ≤ h
        · have hown := HO.out
          go_wp2_with (at_builtin; refine wpList_append_fits _ rfl _ _ 80 rfl w.heap.size 5 i0 1 Tryz.underlying80 hi hz1 w.heap.size q size _ rfl (hown.alloc _) ⟨_, 0, none⟩ 1 1 [.int .u8 ((Um.by_ N q : Nat) : Int)] rfl rfl (cell_one_new _ _ _) (by intro u hu; simp at hu; subst hu; rfl) (by omega) ?_; intro w1 hown' hgrow)
          have hown2 := own_lit_snoc rfl hown'
          have hb2 := below_fit hb (Nat.le_refl _) hown hgrow
          go_wp2
          go_roundw
          case rel => exact ⟨q + 1, r / 256, h - 8, rfl, by go_num, by go_num, by omega, by omega, by show _ = _; omega, by show _ = _; rw [HR.out, Um.div_step], hown2, hb2⟩
          case measure => simp [intOf]; omega
        · go_wp2
          go_roundw
          case rel => exact ⟨k + 1, q, r, h, by omega, by go_num, rfl, rfl, rfl, by omega, by rw [HBe.out]; exact HB1, by rw [HN.out]; exact HR, by rw [HN.out]; exact HO, hb⟩
          case measure => simp [intOf]; omega
    · obtain rfl : k = ns.length := by omega
      rw [List.take_length] at HR HO
      have hN0 := Um.num_lt wd ns HNS.out
      rw [← HT.out] at HB hN0
      have hq := HB.out
      generalize hNe : Um.num wd ns = N at HR HO hN0
      have HNe : Hid (Um.num wd ns = N) := hNe
      clear hNe
      by_cases h0 : 0 < h
      · have hown := HO.out
        have hby : ((r : Int) % 256) = ((Um.by_ N q : Nat) : Int) := by rw [HR.out]; unfold Um.by_; simp
        have hr1 : r < 18446744073709551616 := by
          have h1 : r < 2 ^ h := by rw [HR.out, show h = T - 8 * q by omega]; exact Um.above_lt hN0 (by omega)
          have h8 : 2 ^ h ≤ 256 := Nat.le_trans (Nat.pow_le_pow_right (n := 2) (by omega) (show h ≤ 8 by omega)) (by decide)
          omega
        have hN1 : N < 2 ^ (8 * (q + 1)) := Nat.lt_of_lt_of_le hN0 (Nat.pow_le_pow_right (by omega) (by omega))
        go_wp2_with (at_builtin; first | (refine wpList_append_fits _ rfl _ _ 80 rfl w.heap.size 5 i0 1 Tryz.underlying80 hi hz1 w.heap.size q size _ rfl (hown.alloc _) ⟨_, 0, none⟩ 1 1 [.int .u8 ((Um.by_ N q : Nat) : Int)] rfl rfl (cell_one_new _ _ _) (by intro u hu; simp at hu; subst hu; rfl) (by omega) ?_; intro w1 hown' hgrow; have hown2 := own_lit_snoc rfl hown'; have hb2 := below_fit hb (Nat.le_refl _) hown hgrow) | (obtain ⟨w2, hrun, hown3, hg3⟩ := run_zeros_int w1 w.heap.size 80 w.heap.size (q + 1) size size ((size : Int) - ((q : Int) + 1)) N (by omega) hown2 (by omega) (Nat.le_refl _) (by omega) hN1; refine Lib.wpList_append_run _ rfl _ _ 80 3 rfl _ _ rfl rfl _ _ hrun ?_))
        go_ret
        exact ⟨⟨rfl, by rw [HNe.out]; exact hown3⟩, hb2.grown hg3 hb2.size (fun k hk => (hown2.lt k hk).1)⟩
      · have hown := HO.out
        have hN1 : N < 2 ^ (8 * q) := Nat.lt_of_lt_of_le hN0 (Nat.pow_le_pow_right (by omega) (by omega))
        obtain rfl : h = 0 := by omega
        go_wp2_with (at_builtin; (obtain ⟨w2, hrun, hown3, hg3⟩ := run_zeros_int wr w.heap.size 80 w.heap.size q size size ((size : Int) - (q : Int)) N (by omega) hown (by omega) (Nat.le_refl _) (by omega) hN1; refine Lib.wpList_append_run _ rfl _ _ 80 3 rfl _ _ rfl rfl _ _ hrun ?_))
        go_ret
        exact ⟨⟨rfl, by rw [HNe.out]; exact hown3⟩, hb.grown hg3 hb.size (fun k hk => (hown.lt k hk).1)⟩
end Go.Proofs.YtjcmnngaecoddaaGreatDoor

namespace Go.Proofs.YtjcmnngaecoddaaGreatDoor
open Go.RowKit
/-- 'string(b)' of a row of the call's own, with an address. -/
theorem own_conv_at {w : World} {base g n cap : Nat} {l : List UInt8} (hl : l.length = n) (h : w.ownsRow base 5 1 (.slice (some ⟨g, 0, none⟩) n cap) n (cellsOf l)) :
    (convert 80 9 (.slice (some ⟨g, 0, none⟩) n cap)).run Tryz.prog w = .ok (.string ⟨l.toArray⟩) w := by
  subst hl
  exact run_convert_bytes_back w 80 9 5 ⟨g, 0, none⟩ cap l Tryz.underlying80 Tryz.underlying5 Tryz.underlying9 (fun j hj => h.cells rfl j _ (by simp [cellsOf, hj]))
/-- Right numbers, without their sign. -/
def nats (xs : List Int) : List Nat := xs.map Int.toNat
theorem nats_len (xs : List Int) : (nats xs).length = xs.length := by simp [nats]
theorem nats_get (xs : List Int) (j : Nat) (h : j < xs.length) : (nats xs)[j]'(by rw [nats_len]; exact h) = xs[j].toNat := by simp [nats]
theorem nats_lt {k : Nat} {xs : List Int} (h : ∀ j (h : j < xs.length), Room k xs[j]) : ∀ x ∈ nats xs, x < 2 ^ k := by
  intro x hx
  obtain ⟨y, hy, rfl⟩ := List.mem_map.1 hx
  obtain ⟨j, hj, rfl⟩ := List.getElem_of_mem hy
  have h0 := h j hj
  unfold Room at h0
  have e : ((2 ^ k : Nat) : Int) = (2 : Int) ^ k := by simp
  rw [← e] at h0
  omega
/-- pack, of right ints. -/
theorem pack_ints (xs : List Int) (k size : Nat) (a : Option Addr) (c : Nat) (w : World) (hlen : xs.length ≤ 20000) (hk : k ≤ 32) (hr : ∀ j (h : j < xs.length), Room k xs[j])
    (hsz : (k * xs.length + 7) / 8 ≤ size) (hsz2 : size ≤ 1000000)
    (ha : ∀ j (h : j < xs.length), ∃ b o, a = some ⟨b, o, none⟩ ∧ w.cell? ⟨b, o + j, none⟩ = some (.int .i64 xs[j])) :
    Calls Tryz.prog 64 #[.slice a xs.length c, .int .i64 k, .int .i64 size] w fun e w' =>
      (e = .returned (.slice (some ⟨w.heap.size, 0, none⟩) size size) ∧ w'.ownsRow w.heap.size 5 1 (.slice (some ⟨w.heap.size, 0, none⟩) size size) size (cellsOf (Um.lit (Um.num k (nats xs)) size))) ∧ Below w.heap.size w w' := by
  have h := pack_any (nats xs) k size a c w (by rw [nats_len]; exact hlen) hk (nats_lt hr) (by rw [nats_len]; exact hsz) hsz2 (fun j hj => by
    rw [nats_len] at hj
    obtain ⟨b, o, e, hc⟩ := ha j hj
    refine ⟨b, o, e, ?_⟩
    rw [hc, nats_get xs j hj]
    have := (hr j hj).1
    rw [Int.toNat_of_nonneg this])
  rw [nats_len] at h
  exact h
/-- The bytes of right numbers. -/
def packed (k : Nat) (xs : List Int) : List UInt8 := Um.lit (Um.num k (nats xs)) ((k * xs.length + 7) / 8)
set_option maxHeartbeats 800000 in
set_option maxRecDepth 100000 in
theorem packF_any (a : Option Addr) (xs : List Int) (c k : Nat) (w : World) (st : TypeId) (sp : Value) (hn : xs.length ≤ 20000) (hk : k ≤ 32) (hg : w.cell? ⟨0, 0, none⟩ = some (.iface st sp))
    (hx : ∀ j (h : j < xs.length), -9223372036854775808 ≤ xs[j] ∧ xs[j] ≤ 9223372036854775807)
    (ha : ∀ j (h : j < xs.length), ∃ b o, a = some ⟨b, o, none⟩ ∧ w.cell? ⟨b, o + j, none⟩ = some (.int .i64 xs[j])) :
    Calls Tryz.prog 121 #[.slice a xs.length c, .int .i64 k] w fun e w' =>
      ((e = .returned (.tuple #[.string ⟨(packed k xs).toArray⟩, .nilIface]) ∧ ∀ j (h : j < xs.length), Room k xs[j]) ∨
       (∃ i p, ∃ hi : i < xs.length, e = .returned (.tuple #[.string ⟨#[]⟩, .iface 82 (.pointer (some ⟨p, 0, none⟩))]) ∧ (∀ j (h : j < xs.length), j < i → Room k xs[j]) ∧ ¬ Room k xs[i] ∧ w'.cell? ⟨p, 0, none⟩ = some (.int .i64 i) ∧ w'.cell? ⟨p, 1, none⟩ = some (.iface st sp))) ∧ Below w.heap.size w w' := by
  have HG : Hid (w.cell? ⟨0, 0, none⟩ = some (.iface st sp)) := hg
  have HX : Hid (∀ j (h : j < xs.length), -9223372036854775808 ≤ xs[j] ∧ xs[j] ≤ 9223372036854775807) := hx
  have HA : Hid (∀ j (h : j < xs.length), ∃ b o, a = some ⟨b, o, none⟩ ∧ w.cell? ⟨b, o + j, none⟩ = some (.int .i64 xs[j])) := ha
  have hmul : k * xs.length ≤ 32 * 20000 := Nat.mul_le_mul hk hn
  have hmi : (xs.length : Int) * (k : Int) = ((k * xs.length : Nat) : Int) := by rw [Nat.mul_comm]; simp
  clear hx ha hg
  go_enter Tryz.func121, Tryz.ntmps121
  go_wp2_with fail
  refine (check_any a xs c k w st sp hn hk HG.out HX.out HA.out).mono ?_
  rintro e w1 ⟨⟨rfl, HR⟩ | ⟨i, p, hi, rfl, h1, h2, h3, h4⟩, hb1⟩
  · have HR' : Hid (∀ j (h : j < xs.length), Room k xs[j]) := HR
    clear HR
    obtain ⟨size, HS⟩ : ∃ size, Hid (size = (k * xs.length + 7) / 8) := ⟨_, rfl⟩
    have hs2 : size ≤ 1000000 := by rw [HS.out]; omega
    go_wp2_with (go_at_call 63; refine (eights_any (k * xs.length) _ (by omega)).mono ?_; rw [← HS.out]; rintro e w2 ⟨rfl, hw⟩; obtain rfl := hw.symm)
    refine (pack_ints xs k size a c w1 hn hk HR'.out (by rw [HS.out]; exact Nat.le_refl _) hs2 (fun j h => by
      obtain ⟨b, o, e, hc⟩ := HA.out j h
      exact ⟨b, o, e, (hb1.cell (World.block_lt_of_cell? w _ hc)).trans hc⟩)).mono ?_
    rintro e w2 ⟨⟨rfl, hown⟩, hb2⟩
    have hcv := own_conv_at (Um.lit_len _ _) hown
    go_wp2_with fail
    go_ret2
    refine ⟨Or.inl ⟨?_, HR'.out⟩, hb1.trans (hb2.mono hb1.size)⟩
    unfold packed
    rw [← HS.out]
    rfl
  · go_wp2_with fail
    go_ret2
    exact ⟨Or.inr ⟨i, p, hi, rfl, h1, h2, h3, h4⟩, hb1⟩
end Go.Proofs.YtjcmnngaecoddaaGreatDoor

namespace Go.Proofs.YtjcmnngaecoddaaGreatDoor
open Go.RowKit
theorem Tryz.info3 : (Tryz.prog.info? 3).map (fun i => (i.zero, i.size, i.bytes)) = some (some (.int .i64 0), 1, 8) := by kernel_rfl
theorem Tryz.info65 : (Tryz.prog.info? 65).map (fun i => (i.zero, i.size, i.bytes)) = some (some (.int .u64 0), 1, 8) := by kernel_rfl
/-- Where a slice's cells lie. -/
def Lies (w : World) (a : Option Addr) (cs : List Value) : Prop := ∀ j (h : j < cs.length), ∃ b o, a = some ⟨b, o, none⟩ ∧ w.cell? ⟨b, o + j, none⟩ = some cs[j]
theorem Lies.keep {w w' : World} {a : Option Addr} {cs : List Value} (h : Lies w a cs) (hb : Below w.heap.size w w') : Lies w' a cs := fun j hj => by
  obtain ⟨b, o, e, hc⟩ := h j hj
  exact ⟨b, o, e, (hb.cell (World.block_lt_of_cell? w _ hc)).trans hc⟩
theorem addr_add (b o j : Nat) : (⟨b, o, none⟩ : Addr).add j = ⟨b, o + j, none⟩ := by unfold Addr.add; split <;> simp_all
/-- What is owned lies somewhere. -/
theorem lies_own {w : World} {base e n : Nat} {v : Value} {cs : List Value} (h : w.ownsRow base e 1 v n cs) : ∃ a c, v = .slice a cs.length c ∧ Lies w a cs := by
  have hl := h.1
  rw [Nat.mul_one] at hl
  rcases h.2 with ⟨rfl, rfl⟩ | ⟨g, cap, cur, rfl, _, hg, _, _, _, htake⟩
  · refine ⟨none, 0, by rw [hl], fun j hj => absurd hj (by omega)⟩
  · refine ⟨some ⟨g, 0, none⟩, cap, by rw [hl], fun j hj => ⟨g, 0, rfl, ?_⟩⟩
    have := h.cells rfl j _ (List.getElem?_eq_getElem hj)
    rw [addr_add] at this
    exact this
/-- What is returned is a slice with these cells. -/
def RetSl (e : Ending) (w' : World) (n : Nat) (cs : List Value) : Prop := ∃ a c, e = .returned (.slice a n c) ∧ Lies w' a cs
def i64s (xs : List Int) : List Value := xs.map (Value.int .i64)
theorem i64s_len (xs : List Int) : (i64s xs).length = xs.length := by simp [i64s]
theorem lies_ints {w : World} {a : Option Addr} {xs : List Int} (h : Lies w a (i64s xs)) : ∀ j (h : j < xs.length), ∃ b o, a = some ⟨b, o, none⟩ ∧ w.cell? ⟨b, o + j, none⟩ = some (.int .i64 xs[j]) := fun j hj => by
  obtain ⟨b, o, e, hc⟩ := h j (by rw [i64s_len]; exact hj)
  exact ⟨b, o, e, by rw [hc]; simp [i64s]⟩
/-- Numbers without a sign, as cells. -/
def u64s (ns : List Nat) : List Value := ns.map fun n : Nat => .int .u64 (n : Int)
theorem u64s_len (ns : List Nat) : (u64s ns).length = ns.length := by simp [u64s]
set_option maxRecDepth 100000 in
set_option maxHeartbeats 800000 in
/-- Wide, of numbers that are not below 0. -/
theorem wide_any (a : Option Addr) (c : Nat) (xs : List Int) (w : World) (hn : xs.length ≤ 20000) (h : Lies w a (i64s xs)) (hx : ∀ j (h : j < xs.length), 0 ≤ xs[j] ∧ xs[j] ≤ 9223372036854775807) :
    Calls Tryz.prog 53 #[.slice a xs.length c] w fun e w' => RetSl e w' xs.length (u64s (nats xs)) ∧ Below w.heap.size w w' := by
  obtain ⟨i0, hi, hz0, hz1, hz2⟩ := info_parts Tryz.info65
  have HL : Hid (∀ j (h : j < xs.length), ∃ b o, a = some ⟨b, o, none⟩ ∧ w.cell? ⟨b, o + j, none⟩ = some (.int .i64 xs[j])) := lies_ints h
  have HX : Hid (∀ j (h : j < xs.length), 0 ≤ xs[j] ∧ xs[j] ≤ 9223372036854775807) := hx
  clear h hx
  go_enter Tryz.func53, Tryz.ntmps53
  go_wp2
  go_loopw [3, 4] (fun v x wr => ∃ i : Nat, i ≤ xs.length ∧ x = .int .i64 i ∧ wr.ownsRow w.heap.size 65 1 v i (u64s (nats (xs.take i))) ∧ Below w.heap.size w wr) (fun _ x _ => xs.length - (intOf x).toNat)
  case atStart => exact ⟨0, Nat.zero_le _, rfl, by simpa [u64s, nats] using World.ownsRow_nil w w.heap.size 65 1, Below.refl _ _⟩
  case round =>
    obtain ⟨i, hik, rfl, hown, hb⟩ := hrel
    by_cases hlt : i < xs.length
    · obtain ⟨b, o, rfl, hc⟩ := HL.out i hlt
      have hc := (hb.cell (World.block_lt_of_cell? w _ hc)).trans hc
      have hr := HX.out i hlt
      have HT : Hid (u64s (nats (xs.take (i + 1))) = u64s (nats (xs.take i)) ++ [.int .u64 xs[i]]) := by
        show _ = _
        rw [List.take_succ_eq_append_getElem hlt]
        unfold u64s nats
        rw [List.map_append, List.map_append, List.map_cons, List.map_nil, List.map_cons, List.map_nil, Int.toNat_of_nonneg hr.1]
      generalize xs[i] = x at hc hr HT
      go_wp2_with (at_builtin; refine wpList_append_own _ rfl _ _ 96 rfl w.heap.size 65 i0 (.int .u64 0) 1 8 Tryz.underlying96 hi hz0 hz1 hz2 rfl (by decide) _ _ _ rfl (hown.alloc _) ⟨wr.heap.size, 0, none⟩ 1 1 [.int .u64 x] rfl rfl (cell_one_new _ _ _) (by intro u hu; simp at hu; subst hu; rfl) (by unfold maxLen; omega) (by omega) (by have := hb.size; simp; omega) ?_; intro v' w1 hown' hgrow _)
      have hb2 := below_app hb (Nat.le_refl _) hown hgrow
      rw [← HT.out] at hown'
      go_wp2
      go_roundw
      case rel => exact ⟨i + 1, by omega, by go_num, hown', hb2⟩
      case measure => simp [intOf]; omega
    · obtain rfl : i = xs.length := by omega
      rw [List.take_length] at hown
      obtain ⟨a', c', rfl, hl⟩ := lies_own hown
      go_wp2
      go_ret
      exact ⟨⟨a', c', by rw [u64s_len, nats_len]; rfl, hl⟩, hb⟩
theorem own_bit_snoc {w : World} {base e N m : Nat} {v : Value} {n : Int} (hn : n = ((N / 2 ^ m % 2 : Nat) : Int)) (h : w.ownsRow base e 1 v (m + 1) (cellsOf (Um.bitl N m) ++ [.int .u8 n])) : w.ownsRow base e 1 v (m + 1) (cellsOf (Um.bitl N (m + 1))) := by
  rw [Um.bitl_succ, cells_snoc, Um.bt_int (by omega) (by omega), ← hn]; exact h
set_option maxRecDepth 100000 in
set_option maxHeartbeats 800000 in
/-- bitsOf, of right numbers: the bits of the one number. -/
theorem bitsOf_any (a : Option Addr) (c : Nat) (ns : List Nat) (wd : Nat) (w : World) (hn : ns.length ≤ 20000) (hwd : wd ≤ 64) (hns : ∀ x ∈ ns, x < 2 ^ wd) (h : Lies w a (u64s ns)) :
    Calls Tryz.prog 87 #[.slice a ns.length c, .int .i64 wd] w fun e w' => RetSl e w' (wd * ns.length) (cellsOf (Um.bitl (Um.num wd ns) (wd * ns.length))) ∧ Below w.heap.size w w' := by
  obtain ⟨i0, hi, hz0, hz1, hz2⟩ := info_parts Tryz.info5
  have HL : Hid (∀ j (h : j < ns.length), ∃ b o, a = some ⟨b, o, none⟩ ∧ w.cell? ⟨b, o + j, none⟩ = some (.int .u64 (ns[j] : Nat))) := fun j hj => by
    obtain ⟨b, o, e, hc⟩ := h j (by rw [u64s_len]; exact hj)
    exact ⟨b, o, e, by rw [hc]; simp [u64s]⟩
  have HNS : Hid (∀ x ∈ ns, x < 2 ^ wd) := hns
  have hmul : wd * ns.length ≤ 64 * 20000 := Nat.mul_le_mul hwd hn
  obtain ⟨T, HT⟩ : ∃ T, Hid (T = wd * ns.length) := ⟨_, rfl⟩
  rw [← HT.out] at hmul
  clear h hns
  have HG : Hid (∀ i, ∀ hi : i < ns.length, ∀ k, k < wd → Um.num wd ns / 2 ^ (wd * i + k) % 2 = ns[i] / 2 ^ k % 2) := fun i hi k hk => Um.bit_at wd ns i k hi hk HNS.out
  rw [← HT.out]
  generalize Um.num wd ns = N at HG
  go_enter Tryz.func87, Tryz.ntmps87
  go_wp2
  go_loopw [5, 6] (fun v x wr => ∃ i m : Nat, i ≤ ns.length ∧ x = .int .i64 i ∧ Hid (m = wd * i) ∧ wr.ownsRow w.heap.size 5 1 v m (cellsOf (Um.bitl N m)) ∧ Below w.heap.size w wr) (fun _ x _ => ns.length - (intOf x).toNat)
  case atStart => exact ⟨0, 0, Nat.zero_le _, rfl, rfl, World.ownsRow_nil w w.heap.size 5 1, Below.refl _ _⟩
  case round =>
    obtain ⟨i, m, hik, rfl, HM, hown, hb⟩ := hrel
    by_cases hlt : i < ns.length
    · obtain ⟨b, o, rfl, hc⟩ := HL.out i hlt
      have hc := (hb.cell (World.block_lt_of_cell? w _ hc)).trans hc
      have hx : ns[i] < 2 ^ wd := HNS.out _ (List.getElem_mem hlt)
      have hw2 : 2 ^ wd ≤ 18446744073709551616 := Nat.le_trans (Nat.pow_le_pow_right (by omega) hwd) (by decide)
      have hx4 : ns[i] < 18446744073709551616 := by omega
      have hG := HG.out i hlt
      rw [← HM.out] at hG
      have HG1 : Hid (∀ k, k < wd → N / 2 ^ (m + k) % 2 = ns[i] / 2 ^ k % 2) := hG
      have HM1 : Hid (m + wd = wd * (i + 1)) := by show _ = _; rw [Nat.mul_add, Nat.mul_one, HM.out]
      have hmT : m + wd ≤ T := by rw [HM1.out, HT.out]; exact Nat.mul_le_mul_left _ hlt
      clear hG hx hw2
      generalize ns[i] = x at hc hx4 HG1
      go_wp2
      clear hc
      go_loopw [5, 7, 8] (fun v n y wr => ∃ k n' : Nat, k ≤ wd ∧ y = .int .i64 k ∧ n = .int .u64 n' ∧ n' < 18446744073709551616 ∧ Hid (n' = x / 2 ^ k) ∧ wr.ownsRow w.heap.size 5 1 v (m + k) (cellsOf (Um.bitl N (m + k))) ∧ Below w.heap.size w wr) (fun _ _ y _ => wd - (intOf y).toNat)
      case atStart => exact ⟨0, x, Nat.zero_le _, rfl, rfl, hx4, by show _ = _; simp, hown, hb⟩
      case round =>
        clear hown hb
        obtain ⟨k, n, hk, rfl, rfl, hn4, HN, hown, hb⟩ := hrel
        by_cases hkl : k < wd
        · have HB : Hid (((n % 2 : Nat) : Int) = ((N / 2 ^ (m + k) % 2 : Nat) : Int)) := by show _ = _; rw [HG1.out k hkl, HN.out]
          go_wp2_with (at_builtin; refine wpList_append_own _ rfl _ _ 80 rfl w.heap.size 5 i0 (.int .u8 0) 1 1 Tryz.underlying80 hi hz0 hz1 hz2 rfl (by decide) _ _ _ rfl (hown.alloc _) ⟨_, 0, none⟩ 1 1 [.int .u8 ((n : Int) % 2)] rfl rfl (cell_one_new _ _ _) (by intro u hu; simp at hu; subst hu; rfl) (by unfold maxLen; omega) (by omega) (by have := hb.size; simp; omega) ?_; intro v' w1 hown' hgrow _)
          have hown2 := own_bit_snoc (by rw [← HB.out]; omega) hown'
          have hb2 := below_app hb (Nat.le_refl _) hown hgrow
          go_wp2
          go_roundw
          case rel => exact ⟨k + 1, n / 2, by omega, by go_num, by go_num, by omega, by show _ = _; rw [HN.out, Nat.pow_succ, Nat.div_div_eq_div_mul], hown2, hb2⟩
          case measure => simp [intOf]; omega
        · obtain rfl : k = wd := by omega
          go_wp2
          go_roundw
          case rel => exact ⟨i + 1, m + k, by omega, by go_num, HM1, hown, hb⟩
          case measure => simp [intOf]; omega
    · obtain rfl : i = ns.length := by omega
      have e : m = T := by rw [HM.out, HT.out]
      subst e
      obtain ⟨a', c', rfl, hl⟩ := lies_own hown
      have hle : (cellsOf (Um.bitl N m)).length = m := by simp [cellsOf, Um.bitl_len]
      rw [hle]
      go_wp2
      go_ret
      exact ⟨⟨a', c', rfl, hl⟩, hb⟩
end Go.Proofs.YtjcmnngaecoddaaGreatDoor

namespace Go.Proofs.YtjcmnngaecoddaaGreatDoor
open Go.RowKit
/-- What a loop that fills a row of its own keeps. -/
structure GRow (f : Nat → Value) (k g : Nat) (w wr : World) (i : Nat) : Prop where
  done : ∀ j, j < i → wr.cell? ⟨g, j, none⟩ = some (f j)
  any : ∀ j, j < k → ∃ v, wr.cell? ⟨g, j, none⟩ = some v
  froz : ∀ j, j < k → wr.frozen? ⟨g, j, none⟩ = false
  old : Below w.heap.size w wr
theorem GRow.start (f : Nat → Value) (k ty : Nat) (w : World) (M : Array Value) (hM : M.size = k) : GRow f k w.heap.size w (w.alloc (.cells M ty)) 0 := by
  refine ⟨fun j h => absurd h (Nat.not_lt_zero _), fun j hj => ?_, fun j _ => ?_, (Below.refl _ _).alloc (Nat.le_refl _) _⟩
  · rw [cell_of_row _ w.heap.size j M ty (0, 0) (heap_alloc_new w _)]
    exact ⟨_, Array.getElem?_eq_getElem (by omega)⟩
  · exact frozen_of_row _ w.heap.size j M ty (heap_alloc_new w _)
theorem GRow.next {f : Nat → Value} {k g : Nat} {w wr : World} {i : Nat} {v : Value} (h : GRow f k g w wr i) (hg : w.heap.size ≤ g) (hi : i < k) (hv : v = f i) : GRow f k g w (wr.setCell ⟨g, i, none⟩ v) (i + 1) := by
  subst hv
  obtain ⟨v, hv⟩ := h.any i hi
  have hother : ∀ j, j ≠ i → (wr.setCell ⟨g, i, none⟩ (f i)).cell? ⟨g, j, none⟩ = wr.cell? ⟨g, j, none⟩ := fun j hj =>
    World.cell?_setCell_other _ _ _ _ (fun e => hj (by injection e with _ e; exact e.symm))
  refine ⟨fun j hj => ?_, fun j hj => ?_, fun j hj => by simpa using h.froz j hj, h.old.setCell hg _⟩
  · by_cases e : j = i
    · subst e; exact World.cell?_setCell_same _ _ _ hv
    · rw [hother j e]; exact h.done j (by omega)
  · by_cases e : j = i
    · subst e; exact ⟨_, World.cell?_setCell_same _ _ _ hv⟩
    · rw [hother j e]; exact h.any j hj
structure UI (s : ByteArray) (wd i : Nat) (r h nx : Value) (q r' h' : Nat) : Prop where
  hr : r = .int .u64 r'
  hh : h = .int .i64 h'
  hn : nx = .int .i64 q
  hq : q ≤ s.size
  bal : wd * i + h' = 8 * q
  rest : r' = Um.lev (s.data.toList.take q) / 2 ^ (wd * i)
  small : h' < wd + 8
theorem UI.lt {s : ByteArray} {wd i : Nat} {r h nx : Value} {q r' h' : Nat} (u : UI s wd i r h nx q r' h') : r' < 2 ^ h' := by
  rw [u.rest, show h' = 8 * q - wd * i by have := u.bal; omega]
  exact Um.div_lt_pow (Um.lev_take_lt _ _ (by simpa using u.hq)) (by have := u.bal; omega)
end Go.Proofs.YtjcmnngaecoddaaGreatDoor

namespace Go.Proofs.YtjcmnngaecoddaaGreatDoor
namespace Um
/-- How many of the first number follow. -/
def lead : List Int → Nat
  | [] => 0
  | x :: l => 1 + (l.takeWhile (· == x)).length
theorem lead_pos {l : List Int} (h : 0 < l.length) : 0 < lead l := by
  cases l with
  | nil => simp at h
  | cons x l => simp [lead]; omega
theorem lead_le (l : List Int) : lead l ≤ l.length := by
  cases l with
  | nil => simp [lead]
  | cons x l =>
    have : (l.takeWhile (· == x)).length ≤ l.length := by
      have h := List.takeWhile_append_dropWhile (p := (· == x)) (l := l)
      have h2 := congrArg List.length h
      rw [List.length_append] at h2
      omega
    simp [lead]; omega
/-- The first k are the same, the next one is another one, or none: so many follow. -/
theorem lead_of {x : Int} : ∀ {l : List Int} {k : Nat}, (∀ j (h : j < l.length), j < k → l[j] = x) → k ≤ l.length → (∀ h : k < l.length, l[k] ≠ x) → (l.takeWhile (· == x)).length = k
  | [], k, _, h2, _ => by simp at h2; simp [h2]
  | y :: l, 0, _, _, h3 => by
    have := h3 (by simp)
    simp at this
    simp [this]
  | y :: l, k + 1, h1, h2, h3 => by
    have hy : y = x := h1 0 (by simp) (by omega)
    have ih := lead_of (x := x) (l := l) (k := k) (fun j h hj => h1 (j + 1) (by simpa using h) (by omega)) (by simpa using h2) (fun h => h3 (by simpa using h))
    simp [hy, ih]
/-- Open numbers as a part of the second kind. -/
def flush (w : Nat) (p : List Int) : List UInt8 := if p.length = 0 then [] else uv (2 * ((p.length + 7) / 8) + 1) ++ lit (num w (nats p)) ((p.length + 7) / 8 * w)
/-- What is written of open numbers and the rest. -/
def wr (w : Nat) : Nat → List Int → List Int → List UInt8
  | 0, p, _ => flush w p
  | f + 1, p, r => if r.length = 0 then flush w p
    else if lead r < 8 then wr w f (p ++ r.take 8) (r.drop 8)
    else flush w p ++ (uv (2 * lead r) ++ lit (r.headD 0).toNat ((w + 7) / 8)) ++ wr w f [] (r.drop (lead r))
theorem wr_fuel (w : Nat) : ∀ (f g : Nat) (p r : List Int), r.length ≤ f → r.length ≤ g → wr w f p r = wr w g p r := by
  intro f
  induction f with
  | zero =>
    intro g p r hf hg
    have h0 : r.length = 0 := by omega
    cases g with
    | zero => rfl
    | succ g => simp only [wr]; rw [if_pos h0]
  | succ f ih =>
    intro g p r hf hg
    cases g with
    | zero =>
      have h0 : r.length = 0 := by omega
      simp only [wr]; rw [if_pos h0]
    | succ g =>
      simp only [wr]
      split
      · rfl
      · rename_i h0
        have hp := lead_pos (l := r) (by omega)
        split
        · rw [ih g _ _ (by rw [List.length_drop]; omega) (by rw [List.length_drop]; omega)]
        · rw [ih g _ _ (by rw [List.length_drop]; omega) (by rw [List.length_drop]; omega)]
def wrs (w : Nat) (p r : List Int) : List UInt8 := wr w r.length p r
theorem wrs_nil (w : Nat) (p : List Int) : wrs w p [] = flush w p := rfl
theorem wrs_short (w : Nat) (p r : List Int) (h0 : 0 < r.length) (h : lead r < 8) : wrs w p r = wrs w (p ++ r.take 8) (r.drop 8) := by
  unfold wrs
  obtain ⟨m, hm⟩ : ∃ m, r.length = m + 1 := ⟨r.length - 1, by omega⟩
  rw [hm]
  simp only [wr]
  rw [if_neg (by omega), if_pos h]
  exact wr_fuel w _ _ _ _ (by rw [List.length_drop]; omega) (Nat.le_refl _)
theorem wrs_long (w : Nat) (p r : List Int) (h : ¬ lead r < 8) : wrs w p r = flush w p ++ (uv (2 * lead r) ++ lit (r.headD 0).toNat ((w + 7) / 8)) ++ wrs w [] (r.drop (lead r)) := by
  have hl := lead_le r
  unfold wrs
  obtain ⟨m, hm⟩ : ∃ m, r.length = m + 1 := ⟨r.length - 1, by omega⟩
  rw [hm]
  simp only [wr]
  rw [if_neg (by omega), if_neg h]
  rw [wr_fuel w m (r.drop (lead r)).length _ _ (by rw [List.length_drop]; omega) (Nat.le_refl _)]
end Um
end Go.Proofs.YtjcmnngaecoddaaGreatDoor

namespace Go.Proofs.YtjcmnngaecoddaaGreatDoor
open Go.RowKit
theorem bit_shift {b k : Nat} (hb : b < 2) (hk : k < 8) : IntKind.i64.wrap ((b : Int) * 2 ^ k) = (b : Int) * 2 ^ k ∧ b * 2 ^ k < 256 := by
  have h8 : 2 ^ k ≤ 2 ^ 7 := Nat.pow_le_pow_right (by omega) (by omega)
  have hm : b * 2 ^ k ≤ 1 * 2 ^ 7 := Nat.mul_le_mul (by omega) h8
  have h7 : 2 ^ 7 = 128 := rfl
  have e : (b : Int) * 2 ^ k = ((b * 2 ^ k : Nat) : Int) := by simp
  exact ⟨by rw [e, IntKind.wrap_i64]; omega, by omega⟩
/-- What PackOf's loops keep. -/
def POuter (N T : Nat) (w1 : World) (s x : Value) (wr : World) : Prop := ∃ q : Nat, 8 * q < T + 8 ∧ x = .int .i64 ((8 * q : Nat) : Int) ∧ s = .string ⟨(Um.lit N q).toArray⟩ ∧ Below w1.heap.size w1 wr
def PInner (N T q : Nat) (c y : Value) : Prop := ∃ k c' : Nat, k ≤ 8 ∧ 8 * q + k ≤ T ∧ y = .int .i64 k ∧ c = .int .i64 c' ∧ c' = N / 2 ^ (8 * q) % 2 ^ k
set_option maxRecDepth 100000 in
set_option maxHeartbeats 1600000 in
theorem packOf_any (a : Option Addr) (c : Nat) (ns : List Nat) (wd : Nat) (w : World) (hn : ns.length ≤ 20000) (hwd : wd ≤ 64) (hns : ∀ x ∈ ns, x < 2 ^ wd) (h : Lies w a (u64s ns)) :
    Calls Tryz.prog 52 #[.slice a ns.length c, .int .i64 wd] w fun e w' => e = .returned (.string ⟨(Um.lit (Um.num wd ns) ((wd * ns.length + 7) / 8)).toArray⟩) ∧ Below w.heap.size w w' := by
  have HL : Hid (Lies w a (u64s ns)) := h
  have HNS : Hid (∀ x ∈ ns, x < 2 ^ wd) := hns
  have hmul : wd * ns.length ≤ 64 * 20000 := Nat.mul_le_mul hwd hn
  have hN := Um.num_lt wd ns hns
  clear h hns
  go_enter Tryz.func52, Tryz.ntmps52
  go_wp2_with fail
  refine (bitsOf_any a c ns wd w hn hwd HNS.out HL.out).mono ?_
  generalize hTe : wd * ns.length = T at hmul hN
  have HTe : Hid (wd * ns.length = T) := hTe
  generalize hNe : Um.num wd ns = N at hN
  have HNe : Hid (Um.num wd ns = N) := hNe
  clear hTe hNe
  rintro e w1 ⟨⟨ab, cb, rfl, hlb⟩, hb1⟩
  have HB : Hid (∀ j, j < T → ∃ b o, ab = some ⟨b, o, none⟩ ∧ w1.cell? ⟨b, o + j, none⟩ = some (.int .u8 ((N / 2 ^ j % 2 : Nat) : Int))) := fun j hj => by
    obtain ⟨b, o, e, hc⟩ := hlb j (by simp [cellsOf, Um.bitl_len, hj])
    refine ⟨b, o, e, ?_⟩
    rw [hc]
    simp only [cellsOf, List.getElem_map]
    rw [Um.bitl_get N T j hj, Um.bt_int (by omega) (by omega)]
  have HN : Hid (N < 2 ^ T) := hN
  clear hlb hN
  go_wp2_with fail
  go_loopw [6, 7] (POuter N T w1) (fun _ x _ => T + 8 - (intOf x).toNat)
  case atStart => exact ⟨0, by omega, rfl, rfl, Below.refl _ _⟩
  case round =>
    obtain ⟨q, hq, rfl, rfl, hb⟩ := hrel
    by_cases hlt : 8 * q < T
    · go_wp2_with fail
      go_loop [8, 9] (PInner N T q) (fun _ y => 8 - (intOf y).toNat)
      case atStart => exact ⟨0, 0, by omega, by omega, rfl, rfl, by show _ = _; simp [Nat.mod_one]⟩
      case round =>
        obtain ⟨k, cc, hk, hkT, rfl, rfl, hcc⟩ := hrel
        have HCC : Hid (cc = N / 2 ^ (8 * q) % 2 ^ k) := hcc
        clear hcc
        have hcl : cc < 256 := by rw [HCC.out]; exact Nat.lt_of_lt_of_le (Nat.mod_lt _ (Nat.two_pow_pos k)) (Nat.le_trans (Nat.pow_le_pow_right (n := 2) (by omega) hk) (by decide))
        by_cases hgo : k < 8 ∧ 8 * q + k < T
        · obtain ⟨hk8, hkt⟩ := hgo
          obtain ⟨b, o, rfl, hc⟩ := HB.out (8 * q + k) hkt
          have hc := (hb.cell (World.block_lt_of_cell? w1 _ hc)).trans hc
          have HS : Hid (N / 2 ^ (8 * q) % 2 ^ (k + 1) = cc + N / 2 ^ (8 * q + k) % 2 * 2 ^ k) := by
            show _ = _
            rw [HCC.out, Um.mod_step, Nat.div_div_eq_div_mul, ← Nat.pow_add]
          have hbit : N / 2 ^ (8 * q + k) % 2 < 2 := Nat.mod_lt _ (by omega)
          generalize N / 2 ^ (8 * q + k) % 2 = bit at hc HS hbit
          have hsh := (bit_shift hbit hk8).1
          have hshl := (bit_shift hbit hk8).2
          have hsum : ((cc : Int) + (bit : Int) * 2 ^ k) = ((cc + bit * 2 ^ k : Nat) : Int) := by simp
          have hwr : wrap64 ((cc : Int) + (bit : Int) * 2 ^ k) = (cc : Int) + (bit : Int) * 2 ^ k := by rw [hsum]; unfold wrap64; omega
          clear hsum
          go_wp2_with fail
          go_round
          case rel => exact ⟨k + 1, cc + bit * 2 ^ k, by omega, by omega, by go_num, by simp, HS.out.symm⟩
          case measure => simp [intOf]; omega
        · have HC : Hid (cc = Um.by_ N q) := by
            show _ = _
            rw [HCC.out]
            by_cases hk8 : k < 8
            · exact Um.by_end (by rw [show 8 * q + k = T by omega]; exact HN.out) hk
            · obtain rfl : k = 8 := by omega
              rfl
          have hcase : (k < 8 ∧ ¬ (8 * (q : Int) + (k : Int) < (T : Int))) ∨ k = 8 := by omega
          have hroom : (Um.lit N q).length ≤ 1000000 := by rw [Um.lit_len]; omega
          rcases hcase with ⟨hk8, hT8⟩ | rfl
          all_goals
            go_wp2_with (go_at_call 28; refine (byte_any _ _ (by omega) (by omega)).mono ?_; rintro e w' ⟨rfl, hb'⟩)
            go_roundw
            case rel => exact ⟨q + 1, by omega, by go_num, by rw [str_snoc, HC.out, ← Um.lit_succ], hb.trans (hb'.mono hb.size)⟩
            case measure => simp [intOf]; omega
    · go_wp2_with fail
      go_ret
      exact ⟨ret_str (by rw [HNe.out, HTe.out, show (T + 7) / 8 = q by omega]), hb1.trans (hb.mono hb1.size)⟩
end Go.Proofs.YtjcmnngaecoddaaGreatDoor

namespace Go.Proofs.YtjcmnngaecoddaaGreatDoor
open Go.RowKit
def lows (xs : List Int) : Int := xs.foldl min (xs.getD 0 0)
def highs (xs : List Int) : Int := xs.foldl max (xs.getD 0 0)
def mins (x : Int) (xs : List Int) (i : Nat) : Int := (xs.take i).foldl min x
def maxs (x : Int) (xs : List Int) (i : Nat) : Int := (xs.take i).foldl max x
theorem mins_succ (x : Int) (xs : List Int) (i : Nat) (h : i < xs.length) : mins x xs (i + 1) = min (mins x xs i) xs[i] := by
  unfold mins; rw [List.take_succ_eq_append_getElem h, List.foldl_append]; rfl
theorem maxs_succ (x : Int) (xs : List Int) (i : Nat) (h : i < xs.length) : maxs x xs (i + 1) = max (maxs x xs i) xs[i] := by
  unfold maxs; rw [List.take_succ_eq_append_getElem h, List.foldl_append]; rfl
set_option maxRecDepth 100000 in
set_option maxHeartbeats 1600000 in
theorem min_any (a : Option Addr) (xs : List Int) (c : Nat) (w : World) (hl : Lies w a (i64s xs)) (h1 : 0 < xs.length) (hn : xs.length ≤ 20000) :
    Calls Tryz.prog 122 #[.slice a xs.length c] w fun e w' => e = .returned (.int .i64 (lows xs)) ∧ w' = w := by
  have HL : Hid _ := lies_ints hl
  obtain ⟨b, o, rfl, h0⟩ := lies_ints hl 0 h1
  rw [Nat.add_zero] at h0
  obtain ⟨x, hx⟩ : ∃ x, x = xs[0] := ⟨_, rfl⟩
  rw [← hx] at h0
  have HE : Hid (lows xs = mins x xs xs.length) := by
    show _ = _
    rw [hx]; simp [lows, mins, List.getD, h1]
  have HS : Hid (x = mins x xs 1) := by
    show _ = _
    rw [show 1 = 0 + 1 from rfl, mins_succ x xs 0 h1, ← hx]; simp [mins]
  clear hl hx
  go_enter Tryz.func122, Tryz.ntmps122
  go_wp2
  go_loop [3, 4] (fun m y => ∃ (i : Nat) (k : Int), i ≤ xs.length ∧ y = .int .i64 i ∧ m = .int .i64 k ∧ Hid (k = mins x xs i)) (fun _ y => xs.length - (intOf y).toNat)
  case atStart => exact ⟨1, x, by omega, rfl, rfl, HS⟩
  case round =>
    clear HS
    obtain ⟨i, k, hik, rfl, rfl, HK⟩ := hrel
    by_cases hlt : i < xs.length
    · obtain ⟨b', o', e', hc⟩ := HL.out i hlt
      obtain ⟨rfl, rfl⟩ : b = b' ∧ o = o' := by simpa using e'
      clear e'
      have HN : Hid (mins x xs (i + 1) = min k xs[i]) := by show _ = _; rw [mins_succ x xs i hlt, HK.out]
      generalize xs[i] = z at *
      by_cases hz : z < k
      · have HN2 : Hid (z = mins x xs (i + 1)) := by show _ = _; rw [HN.out]; omega
        go_wp2
        go_round
        case rel => exact ⟨i + 1, z, by omega, by go_num, rfl, HN2⟩
        case measure => simp [intOf]; omega
      · have HN2 : Hid (k = mins x xs (i + 1)) := by show _ = _; rw [HN.out]; omega
        go_wp2
        go_round
        case rel => exact ⟨i + 1, k, by omega, by go_num, rfl, HN2⟩
        case measure => simp [intOf]; omega
    · obtain rfl : i = xs.length := by omega
      go_wp2
      go_ret
      exact ⟨by rw [HE.out, ← HK.out]; rfl, rfl⟩
set_option maxRecDepth 100000 in
set_option maxHeartbeats 1600000 in
theorem max_any (a : Option Addr) (xs : List Int) (c : Nat) (w : World) (hl : Lies w a (i64s xs)) (h1 : 0 < xs.length) (hn : xs.length ≤ 20000) :
    Calls Tryz.prog 123 #[.slice a xs.length c] w fun e w' => e = .returned (.int .i64 (highs xs)) ∧ w' = w := by
  have HL : Hid _ := lies_ints hl
  obtain ⟨b, o, rfl, h0⟩ := lies_ints hl 0 h1
  rw [Nat.add_zero] at h0
  obtain ⟨x, hx⟩ : ∃ x, x = xs[0] := ⟨_, rfl⟩
  rw [← hx] at h0
  have HE : Hid (highs xs = maxs x xs xs.length) := by
    show _ = _
    rw [hx]; simp [highs, maxs, List.getD, h1]
  have HS : Hid (x = maxs x xs 1) := by
    show _ = _
    rw [show 1 = 0 + 1 from rfl, maxs_succ x xs 0 h1, ← hx]; simp [maxs]
  clear hl hx
  go_enter Tryz.func123, Tryz.ntmps123
  go_wp2
  go_loop [3, 4] (fun m y => ∃ (i : Nat) (k : Int), i ≤ xs.length ∧ y = .int .i64 i ∧ m = .int .i64 k ∧ Hid (k = maxs x xs i)) (fun _ y => xs.length - (intOf y).toNat)
  case atStart => exact ⟨1, x, by omega, rfl, rfl, HS⟩
  case round =>
    clear HS
    obtain ⟨i, k, hik, rfl, rfl, HK⟩ := hrel
    by_cases hlt : i < xs.length
    · obtain ⟨b', o', e', hc⟩ := HL.out i hlt
      obtain ⟨rfl, rfl⟩ : b = b' ∧ o = o' := by simpa using e'
      clear e'
      have HN : Hid (maxs x xs (i + 1) = max k xs[i]) := by show _ = _; rw [maxs_succ x xs i hlt, HK.out]
      generalize xs[i] = z at *
      by_cases hz : k < z
      · have HN2 : Hid (z = maxs x xs (i + 1)) := by show _ = _; rw [HN.out]; omega
        go_wp2
        go_round
        case rel => exact ⟨i + 1, z, by omega, by go_num, rfl, HN2⟩
        case measure => simp [intOf]; omega
      · have HN2 : Hid (k = maxs x xs (i + 1)) := by show _ = _; rw [HN.out]; omega
        go_wp2
        go_round
        case rel => exact ⟨i + 1, k, by omega, by go_num, rfl, HN2⟩
        case measure => simp [intOf]; omega
    · obtain rfl : i = xs.length := by omega
      go_wp2
      go_ret
      exact ⟨by rw [HE.out, ← HK.out]; rfl, rfl⟩
end Go.Proofs.YtjcmnngaecoddaaGreatDoor

namespace Go.Proofs.YtjcmnngaecoddaaGreatDoor
open Go.RowKit
set_option linter.unusedVariables false
theorem lead_drop {xs : List Int} {i m : Nat} (hi : i < xs.length) (him : i < m) (hm : m ≤ xs.length) (h1 : ∀ j (h : j < xs.length), i < j → j < m → xs[j] = xs[i]) (h2 : ∀ h : m < xs.length, xs[m] ≠ xs[i]) : Um.lead (xs.drop i) = m - i := by
  rw [List.drop_eq_getElem_cons hi]
  simp only [Um.lead]
  rw [Um.lead_of (k := m - i - 1) (x := xs[i])]
  · omega
  · intro j h hj
    rw [List.getElem_drop]
    exact h1 _ _ (by omega) (by omega)
  · rw [List.length_drop]; omega
  · intro h
    rw [List.getElem_drop]
    have e : i + 1 + (m - i - 1) = m := by omega
    have := h2 (by rw [List.length_drop] at h; omega)
    simpa only [e] using this
set_option maxRecDepth 100000 in
set_option maxHeartbeats 1600000 in
theorem sameFrom_any (a : Option Addr) (c : Nat) (xs : List Int) (i : Nat) (w : World) (hn : xs.length ≤ 20000) (hi : i < xs.length) (h : Lies w a (i64s xs)) :
    Calls Tryz.prog 65 #[.slice a xs.length c, .int .i64 i] w fun e w' => e = .returned (.int .i64 (Um.lead (xs.drop i) : Nat)) ∧ Below w.heap.size w w' := by
  have HL : Hid (∀ j (h : j < xs.length), ∃ b o, a = some ⟨b, o, none⟩ ∧ w.cell? ⟨b, o + j, none⟩ = some (.int .i64 xs[j])) := lies_ints h
  obtain ⟨b, o, rfl, hci⟩ := HL.out i hi
  clear h
  have HLb : Hid (∀ j (h : j < xs.length), w.cell? ⟨b, o + j, none⟩ = some (.int .i64 xs[j])) := fun j hj => by
    obtain ⟨b2, o2, e2, hc2⟩ := HL.out j hj
    obtain ⟨rfl, rfl⟩ : b = b2 ∧ o = o2 := by injection e2 with e2; injection e2 with x y; exact ⟨x, y⟩
    exact hc2
  have HCi : Hid (w.cell? ⟨b, o + i, none⟩ = some (.int .i64 xs[i])) := hci
  clear hci HL
  go_enter Tryz.func65, Tryz.ntmps65
  go_wp2
  go_loopw [5] (fun x wr => ∃ m : Nat, i < m ∧ m ≤ xs.length ∧ x = .int .i64 m ∧ Hid (∀ j (h : j < xs.length), i < j → j < m → xs[j] = xs[i]) ∧ Below w.heap.size w wr) (fun x _ => xs.length - (intOf x).toNat)
  case atStart => exact ⟨i + 1, by omega, by omega, by go_num, fun j _ h1 h2 => absurd h1 (by omega), Below.refl _ _⟩
  case round =>
    obtain ⟨m, him, hm, rfl, HP, hb⟩ := hrel
    have hci := (hb.cell (World.block_lt_of_cell? w _ HCi.out)).trans HCi.out
    by_cases hlt : m < xs.length
    · have hd := HLb.out m hlt
      have hcm := (hb.cell (World.block_lt_of_cell? w _ hd)).trans hd
      clear hd
      by_cases he : xs[m] = xs[i]
      · have HE : Hid (xs[m] = xs[i]) := he
        have hbe : (xs[m] == xs[i]) = true := by simpa using he
        clear he
        go_wp2
        go_region
        all_goals (try go_wp2)
        all_goals go_roundw
        all_goals first
          | (exact ⟨m + 1, by omega, by omega, by go_num, fun j h h1 h2 => if e : j = m then (by subst e; exact HE.out) else HP.out j h h1 (by omega), hb.drew⟩)
          | (simp [intOf]; omega)
      · have HE : Hid (Um.lead (xs.drop i) = m - i) := lead_drop hi him hm HP.out (fun _ => he)
        have hbe : (xs[m] == xs[i]) = false := by simpa using he
        clear he
        go_wp2
        go_region
        all_goals (try go_wp2)
        all_goals go_ret
        all_goals exact ⟨by rw [HE.out]; go_num, hb.drew⟩
    · have HE : Hid (Um.lead (xs.drop i) = m - i) := lead_drop hi him hm HP.out (fun h => absurd h hlt)
      go_wp2
      go_region
      all_goals (try go_wp2)
      all_goals go_ret
      all_goals exact ⟨by rw [HE.out]; go_num, hb.drew⟩
end Go.Proofs.YtjcmnngaecoddaaGreatDoor
