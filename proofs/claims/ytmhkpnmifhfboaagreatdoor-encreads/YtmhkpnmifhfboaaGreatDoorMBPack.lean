/-
  bitrun.pack: the bytes of the numbers as one number, for whatever numbers have room; what is appended within a row's own room.
  bitrun.Pack: what it answers, for a right width and whatever numbers; out of its bounds; and the closed fact nine().
  What the law and the reference make of ints: ints, Wide, bitsOf, PackOf: what they answer.
-/
import Derived.Test.YtmhkpnmifhfboaaGreatDoorMBBits0
import Derived.OwnWalk
import Derived.Lib.AppendZeros
import Derived.Test.YtmhkpnmifhfboaaGreatDoorMBMath
import Derived.Test.YtmhkpnmifhfboaaGreatDoorMBBase
namespace Go.Proofs.YtmhkpnmifhfboaaGreatDoor
open Go.RowKit
/-- 'append(b, make([]byte, k)...)' within the room of a row of the call's own. -/
theorem run_zeros_fit (w : World) (base ty g n k cap : Nat) (l : List UInt8) (hown : w.ownsRow base 5 1 (.slice (some ⟨g, 0, none⟩) n cap) n (cellsOf l)) (hroom : n + k ≤ cap) (hk : k < 281474976710656) :
    ∃ w', (Builtin.append_ #[95, 3] ty #[.slice (some ⟨g, 0, none⟩) n cap, .int .i64 k]).run Tryz.prog w = .ok (.slice (some ⟨g, 0, none⟩) (n + k) cap) w' ∧
      w'.ownsRow base 5 1 (.slice (some ⟨g, 0, none⟩) (n + k) cap) (n + k) (cellsOf (l ++ List.replicate k 0)) ∧ w.grownBy w' (some g) := by
  obtain ⟨i0, hi, hz0, hz1, hz2⟩ := info_parts Tryz.info5
  have hl : l.length = n := by have := hown.1; simpa [cellsOf] using this
  have hw : IntKind.i64.wrap (k : Int) = k := by rw [IntKind.wrap_i64]; omega
  have hneg : ¬ ((k : Int) < 0) := by omega
  have h48i : ¬ (281474976710656 < (k : Int)) := by omega
  by_cases hk0 : k = 0
  · subst hk0
    refine ⟨w, ?_, by simpa using hown, ⟨rfl, rfl, rfl, Nat.le_refl _, fun _ _ _ => rfl⟩⟩
    have hr : n ≤ cap := by omega
    have hw0 : IntKind.i64.wrap 0 = 0 := by decide
    simp [hw0, Builtin.append_, run_underlying Tryz.underlying95, run_underlying Tryz.underlying3, sizeOf, typeInfo, hi, hz2, asInt, asIntOf, hr, storeCells]
  · rcases hown.2 with ⟨h, _⟩ | ⟨g', cap', cur, h, hbg, hg, hnc, hcm, hcs, htake⟩
    · simp at h
    · simp only [Value.slice.injEq, Option.some.injEq, Addr.mk.injEq, and_true, true_and] at h
      obtain ⟨rfl, rfl⟩ := h
      have hzc : Builtin.zeroCells (Value.int .u8 0).cells k = (List.replicate k (Value.int .u8 0)).toArray := by
        apply Array.ext
        · simp [Builtin.zeroCells, Value.cells]
        · intro i h1 h2
          simp [Builtin.zeroCells, Value.cells, Nat.mod_one]
      have hst := run_storeCells_at Tryz.prog g n 5 (List.replicate k (Value.int .u8 0)) 0 cur w hg (by simp; omega) (by intro u hu; rw [List.mem_replicate] at hu; rw [hu.2]; rfl)
      simp only [Nat.add_zero] at hst
      refine ⟨w.setRow g (cur.toList.take n ++ List.replicate k (Value.int .u8 0) ++ cur.toList.drop (n + (List.replicate k (Value.int .u8 0)).length)).toArray, ?_, ⟨?_, .inr ⟨g, cap, _, rfl, hbg, setRow_heap w g cur _ 5 _ hg, hroom, hcm, ?_, ?_⟩⟩, ⟨rfl, rfl, rfl, by simp, fun k _ hk => setRow_other w g k _ (fun e => hk (by simp [e]))⟩⟩
      · simp [Builtin.append_, run_underlying Tryz.underlying95, run_underlying Tryz.underlying3, sizeOf, typeInfo, zeroValue, hi, hz0, hz1, hz2, asInt, asIntOf, hw, hneg, h48i, hk0, hroom, hzc, Addr.add_lit, hst]
      · simp [cellsOf, hl]
      · simp only [List.size_toArray, List.length_append, List.length_take, List.length_drop, Array.length_toList, List.length_replicate]
        omega
      · simp only [Nat.mul_one] at htake ⊢
        rw [htake]
        have e : cellsOf (l ++ List.replicate k 0) = cellsOf l ++ List.replicate k (Value.int .u8 0) := by simp [cellsOf]
        rw [e]
        have hlen : (cellsOf l ++ List.replicate k (Value.int .u8 0)).length = n + k := by simp [cellsOf, hl]
        rw [← hlen]
        exact List.take_left
theorem run_zeros_int (w : World) (base ty g n k cap : Nat) (m : Int) (N : Nat) (hm : m = ((k - n : Nat) : Int)) (hown : w.ownsRow base 5 1 (.slice (some ⟨g, 0, none⟩) n cap) n (cellsOf (Um.lit N n))) (hnk : n ≤ k) (hroom : k ≤ cap) (hk : k < 281474976710656) (hN : N < 2 ^ (8 * n)) :
    ∃ w', (Builtin.append_ #[95, 3] ty #[.slice (some ⟨g, 0, none⟩) n cap, .int .i64 m]).run Tryz.prog w = .ok (.slice (some ⟨g, 0, none⟩) k cap) w' ∧
      w'.ownsRow base 5 1 (.slice (some ⟨g, 0, none⟩) k cap) k (cellsOf (Um.lit N k)) ∧ w.grownBy w' (some g) := by
  subst hm
  have h := run_zeros_fit w base ty g n (k - n) cap (Um.lit N n) hown (by omega) (by omega)
  rw [← Um.lit_zeros N n (k - n) hN, show n + (k - n) = k by omega] at h
  exact h
theorem or64 (a b : Nat) (ha : a < 18446744073709551616) (hb : b < 18446744073709551616) : bits .or .u64 (a : Int) (b : Int) = ((a ||| b : Nat) : Int) := u64_or_nat a b ha hb
theorem or_shift {r x h : Nat} (hr : r < 2 ^ h) (hx : x < 4294967296) (hh : h < 8) : bits .or .u64 (r : Int) (IntKind.u64.wrap ((x : Int) * 2 ^ h)) = ((r + x * 2 ^ h : Nat) : Int) := by
  have h8 : 2 ^ h ≤ 2 ^ 8 := Nat.pow_le_pow_right (by omega) (by omega)
  have hm : x * 2 ^ h ≤ 4294967296 * 256 := Nat.mul_le_mul (by omega) (by simpa using h8)
  have e : (x : Int) * 2 ^ h = ((x * 2 ^ h : Nat) : Int) := by simp
  have e2 : IntKind.u64.wrap ((x : Int) * 2 ^ h) = ((x * 2 ^ h : Nat) : Int) := by
    rw [e, IntKind.wrap_u64]; omega
  rw [e2, or64 r _ (by have : 2 ^ 8 = 256 := rfl; omega) (by omega), Um.or_above hr]
theorem below_fit {B : Nat} {w wr w1 : World} {o : Obj} {g e n c : Nat} {xs : List Value} (hb : Below B w wr) (hB : B ≤ w.heap.size) (hown : wr.ownsRow B e 1 (.slice (some ⟨g, 0, none⟩) n c) n xs) (hg : (wr.alloc o).grownBy w1 (some g)) : Below B w w1 :=
  below_app hb hB hown hg
theorem own_lit_snoc {w : World} {base e N q : Nat} {v : Value} {n : Int} (hn : n = (Um.by_ N q : Nat)) (h : w.ownsRow base e 1 v (q + 1) (cellsOf (Um.lit N q) ++ [.int .u8 n])) : w.ownsRow base e 1 v (q + 1) (cellsOf (Um.lit N (q + 1))) := by
  have hlt := Um.by_lt N q
  rw [Um.lit_succ, cells_snoc, Um.bt_int (by omega) (by omega), ← hn]; exact h
set_option maxHeartbeats 1600000 in
set_option maxRecDepth 100000 in
theorem pack_any (ns : List Nat) (wd size : Nat) (a : Option Addr) (c : Nat) (w : World) (hlen : ns.length ≤ 20000) (hwd : wd ≤ 32) (hns : ∀ x ∈ ns, x < 2 ^ wd)
    (hsz : (wd * ns.length + 7) / 8 ≤ size) (hsz2 : size ≤ 1000000)
    (ha : ∀ j (h : j < ns.length), ∃ b o, a = some ⟨b, o, none⟩ ∧ w.cell? ⟨b, o + j, none⟩ = some (.int .i64 (ns[j] : Nat))) :
    Calls Tryz.prog 90 #[.slice a ns.length c, .int .i64 wd, .int .i64 size] w fun e w' =>
      (e = .returned (.slice (some ⟨w.heap.size, 0, none⟩) size size) ∧ w'.ownsRow w.heap.size 5 1 (.slice (some ⟨w.heap.size, 0, none⟩) size size) size (cellsOf (Um.lit (Um.num wd ns) size))) ∧ Below w.heap.size w w' := by
  obtain ⟨i0, hi, hz0, hz1, hz2⟩ := info_parts Tryz.info5
  obtain ⟨M, hM⟩ : ∃ M, M = madeCells (Value.int .u8 0).cells (((size : Nat) : Int).toNat * i0.size) := ⟨_, rfl⟩
  have hMs : M.size = size := by rw [hM, size_madeCells, hz1]; simp
  have hmk : ∀ W : World, (Instr.makeSlice 95 (.int .i64 0) (.int .i64 (size : Int))).run Tryz.prog W = .ok (.slice (some ⟨W.heap.size, 0, none⟩) 0 size) (W.alloc (.cells M 5)) := fun W => by
    have h := run_make (P := Tryz.prog) W 95 5 i0 (.int .u8 0) Tryz.underlying95 hi hz0 .i64 .i64 0 (size : Int) (by omega) (by omega) (by rw [hz2]; omega) (by omega)
    rw [← hM] at h
    simpa using h
  have HS : Hid ((w.alloc (.cells M 5)).ownsRow w.heap.size 5 1 (.slice (some ⟨w.heap.size, 0, none⟩) 0 size) 0 (cellsOf [])) := World.ownsRow_made w M size (Nat.le_refl _) (by unfold maxLen; omega) (by omega)
  have HA : Hid (∀ j (h : j < ns.length), ∃ b o, a = some ⟨b, o, none⟩ ∧ w.cell? ⟨b, o + j, none⟩ = some (.int .i64 (ns[j] : Nat))) := ha
  have HNS : Hid (∀ x ∈ ns, x < 2 ^ wd) := hns
  obtain ⟨T, HT⟩ : ∃ T, Hid (T = wd * ns.length) := ⟨_, rfl⟩
  rw [← HT.out] at hsz
  clear hM hMs ha hns
  go_enter Tryz.func90, Tryz.ntmps90
  go_wp2
  clear hmk
  go_loopw [7, 8, 9, 16] (fun b r h i wr => ∃ k q r' h' : Nat, k ≤ ns.length ∧ i = .int .i64 k ∧ b = .slice (some ⟨w.heap.size, 0, none⟩) q size ∧ r = .int .u64 r' ∧ h = .int .i64 h' ∧ h' < 8 ∧ Hid (8 * q + h' = wd * k) ∧ Hid (r' = Um.num wd (ns.take k) / 2 ^ (8 * q)) ∧
      Hid (wr.ownsRow w.heap.size 5 1 (.slice (some ⟨w.heap.size, 0, none⟩) q size) q (cellsOf (Um.lit (Um.num wd (ns.take k)) q))) ∧ Below w.heap.size w wr) (fun _ _ _ i _ => ns.length - (intOf i).toNat)
  case atStart => exact ⟨0, 0, 0, 0, Nat.zero_le _, rfl, rfl, rfl, rfl, by omega, rfl, by show _ = _; simp [Um.num], HS, (Below.refl _ _).alloc (Nat.le_refl _) _⟩
  case round =>
    obtain ⟨k, q, r, h, hk, rfl, rfl, rfl, rfl, hh, HB, HR, HO, hb⟩ := hrel
    by_cases hlt : k < ns.length
    · obtain ⟨b, o, rfl, hc⟩ := HA.out k hlt
      have hc := (hb.cell (World.block_lt_of_cell? w _ hc)).trans hc
      have hx : ns[k] < 2 ^ wd := HNS.out _ (List.getElem_mem hlt)
      have HN1 : Hid (Um.num wd (ns.take (k + 1)) = Um.num wd (ns.take k) + ns[k] * 2 ^ (wd * k)) := Um.num_take wd ns k hlt
      have HNL : Hid (Um.num wd (ns.take (k + 1)) < 2 ^ (wd * (k + 1))) := Um.num_take_lt wd ns (k + 1) HNS.out hlt
      have hN0 := Um.num_take_lt wd ns k HNS.out hk
      generalize ns[k] = x at hc hx HN1
      have hw2 : 2 ^ wd ≤ 4294967296 := Nat.le_trans (Nat.pow_le_pow_right (by omega) hwd) (by decide)
      have hx4 : x < 4294967296 := by omega
      have hkT : wd * (k + 1) ≤ T := by rw [HT.out]; exact Nat.mul_le_mul_left _ hlt
      have hrl : r < 2 ^ h := by
        rw [HR.out, show h = wd * k - 8 * q by have := HB.out; omega]
        exact Um.above_lt hN0 (by have := HB.out; omega)
      have hor := or_shift hrl hx4 hh
      have HR1 : Hid (r + x * 2 ^ h = Um.num wd (ns.take (k + 1)) / 2 ^ (8 * q)) := by
        show _ = _
        rw [HN1.out, Um.above_add _ _ _ _ (by have := HB.out; omega), ← HR.out, show wd * k - 8 * q = h by have := HB.out; omega]
      have HO1 : Hid (wr.ownsRow w.heap.size 5 1 (.slice (some ⟨w.heap.size, 0, none⟩) q size) q (cellsOf (Um.lit (Um.num wd (ns.take (k + 1))) q))) := by
        show World.ownsRow _ _ _ _ _ _ _
        rw [HN1.out, Um.lit_add _ _ _ _ (by have := HB.out; omega)]
        exact HO.out
      have h8 : 2 ^ h ≤ 256 := Nat.le_trans (Nat.pow_le_pow_right (n := 2) (by omega) (show h ≤ 8 by omega)) (by decide)
      have hm : x * 2 ^ h ≤ 4294967296 * 256 := Nat.mul_le_mul (by omega) h8
      have hr1 : r + x * 2 ^ h < 18446744073709551616 := by omega
      have HB1 : Hid (8 * q + (h + wd) = wd * (k + 1)) := by show _ = _; rw [Nat.mul_add, ← HB.out]; omega
      clear HN1 hN0 hrl h8 hm HO HR HB hx hw2
      generalize hN : Um.num wd (ns.take (k + 1)) = N at HNL HR1 HO1
      have HN : Hid (Um.num wd (ns.take (k + 1)) = N) := hN
      generalize hBe : wd * (k + 1) = B at HNL hkT HB1
      have HBe : Hid (wd * (k + 1) = B) := hBe
      clear hN hBe
      go_wp2
      clear hor hc
      go_loopw [7, 8, 9] (fun b r h wr => ∃ q r' h' : Nat, b = .slice (some ⟨w.heap.size, 0, none⟩) q size ∧ r = .int .u64 r' ∧ h = .int .i64 h' ∧ h' < 100 ∧ r' < 18446744073709551616 ∧ Hid (8 * q + h' = B) ∧ Hid (r' = N / 2 ^ (8 * q)) ∧
        Hid (wr.ownsRow w.heap.size 5 1 (.slice (some ⟨w.heap.size, 0, none⟩) q size) q (cellsOf (Um.lit N q))) ∧ Below w.heap.size w wr) (fun _ _ h _ => (intOf h).toNat)
      case atStart => exact ⟨q, r + x * 2 ^ h, h + wd, rfl, by simp, by go_num, by omega, hr1, HB1, HR1, HO1, hb⟩
      case round =>
        clear HR1 HO1 HB1 hb hh hr1
        obtain ⟨q, r, h, rfl, rfl, rfl, hh, hr1, HB1, HR, HO, hb⟩ := hrel
        have hq := HB1.out
        have hby : ((r : Int) % 256) = ((Um.by_ N q : Nat) : Int) := by rw [HR.out]; unfold Um.by_; simp
        by_cases h8 : 8 ≤ h
        · have hown := HO.out
          go_wp2_with (at_builtin; refine wpList_append_fits _ rfl _ _ 95 rfl w.heap.size 5 i0 1 Tryz.underlying95 hi hz1 w.heap.size q size _ rfl (hown.alloc _) ⟨_, 0, none⟩ 1 1 [.int .u8 ((Um.by_ N q : Nat) : Int)] rfl rfl (cell_one_new _ _ _) (by intro u hu; simp at hu; subst hu; rfl) (by omega) ?_; intro w1 hown' hgrow)
          have hown2 := own_lit_snoc rfl hown'
          have hb2 := below_fit hb (Nat.le_refl _) hown hgrow
          go_wp2
          go_roundw
          case rel => exact ⟨q + 1, r / 256, h - 8, rfl, by go_num, by go_num, by omega, by omega, by show _ = _; omega, by show _ = _; rw [HR.out, Um.div_step], hown2, hb2⟩
          case measure => simp [intOf]; omega
        · go_wp2
          go_roundw
          case rel => exact ⟨k + 1, q, r, h, by omega, by go_num, rfl, rfl, rfl, by omega, by rw [HBe.out]; exact HB1, by rw [HN.out]; exact HR, by rw [HN.out]; exact HO, hb⟩
          case measure => simp [intOf]; omega
    · obtain rfl : k = ns.length := by omega
      rw [List.take_length] at HR HO
      have hN0 := Um.num_lt wd ns HNS.out
      rw [← HT.out] at HB hN0
      have hq := HB.out
      generalize hNe : Um.num wd ns = N at HR HO hN0
      have HNe : Hid (Um.num wd ns = N) := hNe
      clear hNe
      by_cases h0 : 0 < h
      · have hown := HO.out
        have hby : ((r : Int) % 256) = ((Um.by_ N q : Nat) : Int) := by rw [HR.out]; unfold Um.by_; simp
        have hr1 : r < 18446744073709551616 := by
          have h1 : r < 2 ^ h := by rw [HR.out, show h = T - 8 * q by omega]; exact Um.above_lt hN0 (by omega)
          have h8 : 2 ^ h ≤ 256 := Nat.le_trans (Nat.pow_le_pow_right (n := 2) (by omega) (show h ≤ 8 by omega)) (by decide)
          omega
        have hN1 : N < 2 ^ (8 * (q + 1)) := Nat.lt_of_lt_of_le hN0 (Nat.pow_le_pow_right (by omega) (by omega))
        go_wp2_with (at_builtin; first | (refine wpList_append_fits _ rfl _ _ 95 rfl w.heap.size 5 i0 1 Tryz.underlying95 hi hz1 w.heap.size q size _ rfl (hown.alloc _) ⟨_, 0, none⟩ 1 1 [.int .u8 ((Um.by_ N q : Nat) : Int)] rfl rfl (cell_one_new _ _ _) (by intro u hu; simp at hu; subst hu; rfl) (by omega) ?_; intro w1 hown' hgrow; have hown2 := own_lit_snoc rfl hown'; have hb2 := below_fit hb (Nat.le_refl _) hown hgrow) | (obtain ⟨w2, hrun, hown3, hg3⟩ := run_zeros_int w1 w.heap.size 95 w.heap.size (q + 1) size size ((size : Int) - ((q : Int) + 1)) N (by omega) hown2 (by omega) (Nat.le_refl _) (by omega) hN1; refine Lib.wpList_append_run _ rfl _ _ 95 3 rfl _ _ rfl rfl _ _ hrun ?_))
        go_ret
        exact ⟨⟨rfl, by rw [HNe.out]; exact hown3⟩, hb2.grown hg3 hb2.size (fun k hk => (hown2.lt k hk).1)⟩
      · have hown := HO.out
        have hN1 : N < 2 ^ (8 * q) := Nat.lt_of_lt_of_le hN0 (Nat.pow_le_pow_right (by omega) (by omega))
        obtain rfl : h = 0 := by omega
        go_wp2_with (at_builtin; (obtain ⟨w2, hrun, hown3, hg3⟩ := run_zeros_int wr w.heap.size 95 w.heap.size q size size ((size : Int) - (q : Int)) N (by omega) hown (by omega) (Nat.le_refl _) (by omega) hN1; refine Lib.wpList_append_run _ rfl _ _ 95 3 rfl _ _ rfl rfl _ _ hrun ?_))
        go_ret
        exact ⟨⟨rfl, by rw [HNe.out]; exact hown3⟩, hb.grown hg3 hb.size (fun k hk => (hown.lt k hk).1)⟩
end Go.Proofs.YtmhkpnmifhfboaaGreatDoor

namespace Go.Proofs.YtmhkpnmifhfboaaGreatDoor
open Go.RowKit
/-- 'string(b)' of a row of the call's own, with an address. -/
theorem own_conv_at {w : World} {base g n cap : Nat} {l : List UInt8} (hl : l.length = n) (h : w.ownsRow base 5 1 (.slice (some ⟨g, 0, none⟩) n cap) n (cellsOf l)) :
    (convert 95 9 (.slice (some ⟨g, 0, none⟩) n cap)).run Tryz.prog w = .ok (.string ⟨l.toArray⟩) w := by
  subst hl
  exact run_convert_bytes_back w 95 9 5 ⟨g, 0, none⟩ cap l Tryz.underlying95 Tryz.underlying5 Tryz.underlying9 (fun j hj => h.cells rfl j _ (by simp [cellsOf, hj]))
/-- Right numbers, without their sign. -/
def nats (xs : List Int) : List Nat := xs.map Int.toNat
theorem nats_len (xs : List Int) : (nats xs).length = xs.length := by simp [nats]
theorem nats_get (xs : List Int) (j : Nat) (h : j < xs.length) : (nats xs)[j]'(by rw [nats_len]; exact h) = xs[j].toNat := by simp [nats]
theorem nats_lt {k : Nat} {xs : List Int} (h : ∀ j (h : j < xs.length), Room k xs[j]) : ∀ x ∈ nats xs, x < 2 ^ k := by
  intro x hx
  obtain ⟨y, hy, rfl⟩ := List.mem_map.1 hx
  obtain ⟨j, hj, rfl⟩ := List.getElem_of_mem hy
  have h0 := h j hj
  unfold Room at h0
  have e : ((2 ^ k : Nat) : Int) = (2 : Int) ^ k := by simp
  rw [← e] at h0
  omega
/-- pack, of right ints. -/
theorem pack_ints (xs : List Int) (k size : Nat) (a : Option Addr) (c : Nat) (w : World) (hlen : xs.length ≤ 20000) (hk : k ≤ 32) (hr : ∀ j (h : j < xs.length), Room k xs[j])
    (hsz : (k * xs.length + 7) / 8 ≤ size) (hsz2 : size ≤ 1000000)
    (ha : ∀ j (h : j < xs.length), ∃ b o, a = some ⟨b, o, none⟩ ∧ w.cell? ⟨b, o + j, none⟩ = some (.int .i64 xs[j])) :
    Calls Tryz.prog 90 #[.slice a xs.length c, .int .i64 k, .int .i64 size] w fun e w' =>
      (e = .returned (.slice (some ⟨w.heap.size, 0, none⟩) size size) ∧ w'.ownsRow w.heap.size 5 1 (.slice (some ⟨w.heap.size, 0, none⟩) size size) size (cellsOf (Um.lit (Um.num k (nats xs)) size))) ∧ Below w.heap.size w w' := by
  have h := pack_any (nats xs) k size a c w (by rw [nats_len]; exact hlen) hk (nats_lt hr) (by rw [nats_len]; exact hsz) hsz2 (fun j hj => by
    rw [nats_len] at hj
    obtain ⟨b, o, e, hc⟩ := ha j hj
    refine ⟨b, o, e, ?_⟩
    rw [hc, nats_get xs j hj]
    have := (hr j hj).1
    rw [Int.toNat_of_nonneg this])
  rw [nats_len] at h
  exact h
/-- The bytes of right numbers. -/
def packed (k : Nat) (xs : List Int) : List UInt8 := Um.lit (Um.num k (nats xs)) ((k * xs.length + 7) / 8)
set_option maxHeartbeats 800000 in
set_option maxRecDepth 100000 in
theorem packF_any (a : Option Addr) (xs : List Int) (c k : Nat) (w : World) (st : TypeId) (sp : Value) (hn : xs.length ≤ 20000) (hk : k ≤ 32) (hg : w.cell? ⟨0, 0, none⟩ = some (.iface st sp))
    (hx : ∀ j (h : j < xs.length), -9223372036854775808 ≤ xs[j] ∧ xs[j] ≤ 9223372036854775807)
    (ha : ∀ j (h : j < xs.length), ∃ b o, a = some ⟨b, o, none⟩ ∧ w.cell? ⟨b, o + j, none⟩ = some (.int .i64 xs[j])) :
    Calls Tryz.prog 57 #[.slice a xs.length c, .int .i64 k] w fun e w' =>
      ((e = .returned (.tuple #[.string ⟨(packed k xs).toArray⟩, .nilIface]) ∧ ∀ j (h : j < xs.length), Room k xs[j]) ∨
       (∃ i p, ∃ hi : i < xs.length, e = .returned (.tuple #[.string ⟨#[]⟩, .iface 68 (.pointer (some ⟨p, 0, none⟩))]) ∧ (∀ j (h : j < xs.length), j < i → Room k xs[j]) ∧ ¬ Room k xs[i] ∧ w'.cell? ⟨p, 0, none⟩ = some (.int .i64 i) ∧ w'.cell? ⟨p, 1, none⟩ = some (.iface st sp))) ∧ Below w.heap.size w w' := by
  have HG : Hid (w.cell? ⟨0, 0, none⟩ = some (.iface st sp)) := hg
  have HX : Hid (∀ j (h : j < xs.length), -9223372036854775808 ≤ xs[j] ∧ xs[j] ≤ 9223372036854775807) := hx
  have HA : Hid (∀ j (h : j < xs.length), ∃ b o, a = some ⟨b, o, none⟩ ∧ w.cell? ⟨b, o + j, none⟩ = some (.int .i64 xs[j])) := ha
  have hmul : k * xs.length ≤ 32 * 20000 := Nat.mul_le_mul hk hn
  have hmi : (xs.length : Int) * (k : Int) = ((k * xs.length : Nat) : Int) := by rw [Nat.mul_comm]; simp
  clear hx ha hg
  go_enter Tryz.func57, Tryz.ntmps57
  go_wp2_with fail
  refine (check_any a xs c k w st sp hn hk HG.out HX.out HA.out).mono ?_
  rintro e w1 ⟨⟨rfl, HR⟩ | ⟨i, p, hi, rfl, h1, h2, h3, h4⟩, hb1⟩
  · have HR' : Hid (∀ j (h : j < xs.length), Room k xs[j]) := HR
    clear HR
    obtain ⟨size, HS⟩ : ∃ size, Hid (size = (k * xs.length + 7) / 8) := ⟨_, rfl⟩
    have hs2 : size ≤ 1000000 := by rw [HS.out]; omega
    go_wp2_with (go_at_call 91; refine (eights_any (k * xs.length) _ (by omega)).mono ?_; rw [← HS.out]; rintro e w2 ⟨rfl, hw⟩; obtain rfl := hw.symm)
    refine (pack_ints xs k size a c w1 hn hk HR'.out (by rw [HS.out]; exact Nat.le_refl _) hs2 (fun j h => by
      obtain ⟨b, o, e, hc⟩ := HA.out j h
      exact ⟨b, o, e, (hb1.cell (World.block_lt_of_cell? w _ hc)).trans hc⟩)).mono ?_
    rintro e w2 ⟨⟨rfl, hown⟩, hb2⟩
    have hcv := own_conv_at (Um.lit_len _ _) hown
    go_wp2_with fail
    go_ret2
    refine ⟨Or.inl ⟨?_, HR'.out⟩, hb1.trans (hb2.mono hb1.size)⟩
    unfold packed
    rw [← HS.out]
    rfl
  · go_wp2_with fail
    go_ret2
    exact ⟨Or.inr ⟨i, p, hi, rfl, h1, h2, h3, h4⟩, hb1⟩
set_option maxRecDepth 100000 in
theorem packF_bound (a : Option Addr) (n c : Nat) (k : Int) (w : World) (st : TypeId) (sp : Value) (hn : n ≤ maxLen) (hg : w.cell? ⟨2, 0, none⟩ = some (.iface st sp)) (hk : decide (0 ≤ k ∧ k ≤ 32) = false ∨ decide (0 ≤ k ∧ k ≤ 32) = true ∧ decide ((n : Int) ≤ 20000) = false) :
    Calls Tryz.prog 57 #[.slice a n c, .int .i64 k] w fun e w' => e = .returned (.tuple #[.string ⟨#[]⟩, .iface st sp]) ∧ w' = w := by
  have HG : Hid (w.cell? ⟨2, 0, none⟩ = some (.iface st sp)) := hg
  clear hg
  go_enter Tryz.func57, Tryz.ntmps57
  go_wp2_with (go_at_call 89; refine (check_bound a n c k w _ hn HG.out hk).mono ?_; rintro e w1 ⟨rfl, hw⟩; obtain rfl := hw.symm)
  go_ret2
  exact ⟨rfl, rfl⟩
theorem packed_nine : packed 2 [1, 2] = [9] := by decide +kernel
end Go.Proofs.YtmhkpnmifhfboaaGreatDoor

namespace Go.Proofs.YtmhkpnmifhfboaaGreatDoor
open Go.RowKit
theorem Tryz.info3 : (Tryz.prog.info? 3).map (fun i => (i.zero, i.size, i.bytes)) = some (some (.int .i64 0), 1, 8) := by kernel_rfl
theorem Tryz.info78 : (Tryz.prog.info? 78).map (fun i => (i.zero, i.size, i.bytes)) = some (some (.int .u64 0), 1, 8) := by kernel_rfl
/-- Where a slice's cells lie. -/
def Lies (w : World) (a : Option Addr) (cs : List Value) : Prop := ∀ j (h : j < cs.length), ∃ b o, a = some ⟨b, o, none⟩ ∧ w.cell? ⟨b, o + j, none⟩ = some cs[j]
theorem Lies.keep {w w' : World} {a : Option Addr} {cs : List Value} (h : Lies w a cs) (hb : Below w.heap.size w w') : Lies w' a cs := fun j hj => by
  obtain ⟨b, o, e, hc⟩ := h j hj
  exact ⟨b, o, e, (hb.cell (World.block_lt_of_cell? w _ hc)).trans hc⟩
theorem addr_add (b o j : Nat) : (⟨b, o, none⟩ : Addr).add j = ⟨b, o + j, none⟩ := by unfold Addr.add; split <;> simp_all
/-- What is owned lies somewhere. -/
theorem lies_own {w : World} {base e n : Nat} {v : Value} {cs : List Value} (h : w.ownsRow base e 1 v n cs) : ∃ a c, v = .slice a cs.length c ∧ Lies w a cs := by
  have hl := h.1
  rw [Nat.mul_one] at hl
  rcases h.2 with ⟨rfl, rfl⟩ | ⟨g, cap, cur, rfl, _, hg, _, _, _, htake⟩
  · refine ⟨none, 0, by rw [hl], fun j hj => absurd hj (by omega)⟩
  · refine ⟨some ⟨g, 0, none⟩, cap, by rw [hl], fun j hj => ⟨g, 0, rfl, ?_⟩⟩
    have := h.cells rfl j _ (List.getElem?_eq_getElem hj)
    rw [addr_add] at this
    exact this
/-- What is returned is a slice with these cells. -/
def RetSl (e : Ending) (w' : World) (n : Nat) (cs : List Value) : Prop := ∃ a c, e = .returned (.slice a n c) ∧ Lies w' a cs
def i64s (xs : List Int) : List Value := xs.map (Value.int .i64)
theorem i64s_len (xs : List Int) : (i64s xs).length = xs.length := by simp [i64s]
theorem lies_ints {w : World} {a : Option Addr} {xs : List Int} (h : Lies w a (i64s xs)) : ∀ j (h : j < xs.length), ∃ b o, a = some ⟨b, o, none⟩ ∧ w.cell? ⟨b, o + j, none⟩ = some (.int .i64 xs[j]) := fun j hj => by
  obtain ⟨b, o, e, hc⟩ := h j (by rw [i64s_len]; exact hj)
  exact ⟨b, o, e, by rw [hc]; simp [i64s]⟩
/-- Numbers without a sign, as cells. -/
def u64s (ns : List Nat) : List Value := ns.map fun n : Nat => .int .u64 (n : Int)
theorem u64s_len (ns : List Nat) : (u64s ns).length = ns.length := by simp [u64s]
theorem own_bit_snoc {w : World} {base e N m : Nat} {v : Value} {n : Int} (hn : n = ((N / 2 ^ m % 2 : Nat) : Int)) (h : w.ownsRow base e 1 v (m + 1) (cellsOf (Um.bitl N m) ++ [.int .u8 n])) : w.ownsRow base e 1 v (m + 1) (cellsOf (Um.bitl N (m + 1))) := by
  rw [Um.bitl_succ, cells_snoc, Um.bt_int (by omega) (by omega), ← hn]; exact h
set_option maxRecDepth 100000 in
set_option maxHeartbeats 800000 in
/-- bitsOf, of right numbers: the bits of the one number. -/
theorem bitsOf_any (a : Option Addr) (c : Nat) (ns : List Nat) (wd : Nat) (w : World) (hn : ns.length ≤ 20000) (hwd : wd ≤ 64) (hns : ∀ x ∈ ns, x < 2 ^ wd) (h : Lies w a (u64s ns)) :
    Calls Tryz.prog 109 #[.slice a ns.length c, .int .i64 wd] w fun e w' => RetSl e w' (wd * ns.length) (cellsOf (Um.bitl (Um.num wd ns) (wd * ns.length))) ∧ Below w.heap.size w w' := by
  obtain ⟨i0, hi, hz0, hz1, hz2⟩ := info_parts Tryz.info5
  have HL : Hid (∀ j (h : j < ns.length), ∃ b o, a = some ⟨b, o, none⟩ ∧ w.cell? ⟨b, o + j, none⟩ = some (.int .u64 (ns[j] : Nat))) := fun j hj => by
    obtain ⟨b, o, e, hc⟩ := h j (by rw [u64s_len]; exact hj)
    exact ⟨b, o, e, by rw [hc]; simp [u64s]⟩
  have HNS : Hid (∀ x ∈ ns, x < 2 ^ wd) := hns
  have hmul : wd * ns.length ≤ 64 * 20000 := Nat.mul_le_mul hwd hn
  obtain ⟨T, HT⟩ : ∃ T, Hid (T = wd * ns.length) := ⟨_, rfl⟩
  rw [← HT.out] at hmul
  clear h hns
  have HG : Hid (∀ i, ∀ hi : i < ns.length, ∀ k, k < wd → Um.num wd ns / 2 ^ (wd * i + k) % 2 = ns[i] / 2 ^ k % 2) := fun i hi k hk => Um.bit_at wd ns i k hi hk HNS.out
  rw [← HT.out]
  generalize Um.num wd ns = N at HG
  go_enter Tryz.func109, Tryz.ntmps109
  go_wp2
  go_loopw [5, 6] (fun v x wr => ∃ i m : Nat, i ≤ ns.length ∧ x = .int .i64 i ∧ Hid (m = wd * i) ∧ wr.ownsRow w.heap.size 5 1 v m (cellsOf (Um.bitl N m)) ∧ Below w.heap.size w wr) (fun _ x _ => ns.length - (intOf x).toNat)
  case atStart => exact ⟨0, 0, Nat.zero_le _, rfl, rfl, World.ownsRow_nil w w.heap.size 5 1, Below.refl _ _⟩
  case round =>
    obtain ⟨i, m, hik, rfl, HM, hown, hb⟩ := hrel
    by_cases hlt : i < ns.length
    · obtain ⟨b, o, rfl, hc⟩ := HL.out i hlt
      have hc := (hb.cell (World.block_lt_of_cell? w _ hc)).trans hc
      have hx : ns[i] < 2 ^ wd := HNS.out _ (List.getElem_mem hlt)
      have hw2 : 2 ^ wd ≤ 18446744073709551616 := Nat.le_trans (Nat.pow_le_pow_right (by omega) hwd) (by decide)
      have hx4 : ns[i] < 18446744073709551616 := by omega
      have hG := HG.out i hlt
      rw [← HM.out] at hG
      have HG1 : Hid (∀ k, k < wd → N / 2 ^ (m + k) % 2 = ns[i] / 2 ^ k % 2) := hG
      have HM1 : Hid (m + wd = wd * (i + 1)) := by show _ = _; rw [Nat.mul_add, Nat.mul_one, HM.out]
      have hmT : m + wd ≤ T := by rw [HM1.out, HT.out]; exact Nat.mul_le_mul_left _ hlt
      clear hG hx hw2
      generalize ns[i] = x at hc hx4 HG1
      go_wp2
      clear hc
      go_loopw [5, 7, 8] (fun v n y wr => ∃ k n' : Nat, k ≤ wd ∧ y = .int .i64 k ∧ n = .int .u64 n' ∧ n' < 18446744073709551616 ∧ Hid (n' = x / 2 ^ k) ∧ wr.ownsRow w.heap.size 5 1 v (m + k) (cellsOf (Um.bitl N (m + k))) ∧ Below w.heap.size w wr) (fun _ _ y _ => wd - (intOf y).toNat)
      case atStart => exact ⟨0, x, Nat.zero_le _, rfl, rfl, hx4, by show _ = _; simp, hown, hb⟩
      case round =>
        clear hown hb
        obtain ⟨k, n, hk, rfl, rfl, hn4, HN, hown, hb⟩ := hrel
        by_cases hkl : k < wd
        · have HB : Hid (((n % 2 : Nat) : Int) = ((N / 2 ^ (m + k) % 2 : Nat) : Int)) := by show _ = _; rw [HG1.out k hkl, HN.out]
          go_wp2_with (at_builtin; refine wpList_append_own _ rfl _ _ 95 rfl w.heap.size 5 i0 (.int .u8 0) 1 1 Tryz.underlying95 hi hz0 hz1 hz2 rfl (by decide) _ _ _ rfl (hown.alloc _) ⟨_, 0, none⟩ 1 1 [.int .u8 ((n : Int) % 2)] rfl rfl (cell_one_new _ _ _) (by intro u hu; simp at hu; subst hu; rfl) (by unfold maxLen; omega) (by omega) (by have := hb.size; simp; omega) ?_; intro v' w1 hown' hgrow _)
          have hown2 := own_bit_snoc (by rw [← HB.out]; omega) hown'
          have hb2 := below_app hb (Nat.le_refl _) hown hgrow
          go_wp2
          go_roundw
          case rel => exact ⟨k + 1, n / 2, by omega, by go_num, by go_num, by omega, by show _ = _; rw [HN.out, Nat.pow_succ, Nat.div_div_eq_div_mul], hown2, hb2⟩
          case measure => simp [intOf]; omega
        · obtain rfl : k = wd := by omega
          go_wp2
          go_roundw
          case rel => exact ⟨i + 1, m + k, by omega, by go_num, HM1, hown, hb⟩
          case measure => simp [intOf]; omega
    · obtain rfl : i = ns.length := by omega
      have e : m = T := by rw [HM.out, HT.out]
      subst e
      obtain ⟨a', c', rfl, hl⟩ := lies_own hown
      have hle : (cellsOf (Um.bitl N m)).length = m := by simp [cellsOf, Um.bitl_len]
      rw [hle]
      go_wp2
      go_ret
      exact ⟨⟨a', c', rfl, hl⟩, hb⟩
end Go.Proofs.YtmhkpnmifhfboaaGreatDoor
