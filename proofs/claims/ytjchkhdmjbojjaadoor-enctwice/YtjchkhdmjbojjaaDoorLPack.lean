/-
  bitrun.pack: the bytes of the numbers as one number, for whatever numbers have room; what is appended within a row's own room.
-/
import Derived.Test.YtjchkhdmjbojjaaDoorLBBits0
import Derived.OwnWalk
import Derived.Lib.AppendZeros
namespace Go.Proofs.YtjchkhdmjbojjaaDoor
open Go.RowKit
/-- 'append(b, make([]byte, k)...)' within the room of a row of the call's own. -/
theorem run_zeros_fit (w : World) (base ty g n k cap : Nat) (l : List UInt8) (hown : w.ownsRow base 5 1 (.slice (some ⟨g, 0, none⟩) n cap) n (cellsOf l)) (hroom : n + k ≤ cap) (hk : k < 281474976710656) :
    ∃ w', (Builtin.append_ #[76, 3] ty #[.slice (some ⟨g, 0, none⟩) n cap, .int .i64 k]).run Tryd.prog w = .ok (.slice (some ⟨g, 0, none⟩) (n + k) cap) w' ∧
      w'.ownsRow base 5 1 (.slice (some ⟨g, 0, none⟩) (n + k) cap) (n + k) (cellsOf (l ++ List.replicate k 0)) ∧ w.grownBy w' (some g) := by
  obtain ⟨i0, hi, hz0, hz1, hz2⟩ := info_parts Tryd.info5
  have hl : l.length = n := by have := hown.1; simpa [cellsOf] using this
  have hw : IntKind.i64.wrap (k : Int) = k := by rw [IntKind.wrap_i64]; omega
  have hneg : ¬ ((k : Int) < 0) := by omega
  have h48i : ¬ (281474976710656 < (k : Int)) := by omega
  by_cases hk0 : k = 0
  · subst hk0
    refine ⟨w, ?_, by simpa using hown, ⟨rfl, rfl, rfl, Nat.le_refl _, fun _ _ _ => rfl⟩⟩
    have hr : n ≤ cap := by omega
    have hw0 : IntKind.i64.wrap 0 = 0 := by decide
    simp [hw0, Builtin.append_, run_underlying Tryd.underlying76, run_underlying Tryd.underlying3, sizeOf, typeInfo, hi, hz2, asInt, asIntOf, hr, storeCells]
  · rcases hown.2 with ⟨h, _⟩ | ⟨g', cap', cur, h, hbg, hg, hnc, hcm, hcs, htake⟩
    · simp at h
    · simp only [Value.slice.injEq, Option.some.injEq, Addr.mk.injEq, and_true, true_and] at h
      obtain ⟨rfl, rfl⟩ := h
      have hzc : Builtin.zeroCells (Value.int .u8 0).cells k = (List.replicate k (Value.int .u8 0)).toArray := by
        apply Array.ext
        · simp [Builtin.zeroCells, Value.cells]
        · intro i h1 h2
          simp [Builtin.zeroCells, Value.cells, Nat.mod_one]
      have hst := run_storeCells_at Tryd.prog g n 5 (List.replicate k (Value.int .u8 0)) 0 cur w hg (by simp; omega) (by intro u hu; rw [List.mem_replicate] at hu; rw [hu.2]; rfl)
      simp only [Nat.add_zero] at hst
      refine ⟨w.setRow g (cur.toList.take n ++ List.replicate k (Value.int .u8 0) ++ cur.toList.drop (n + (List.replicate k (Value.int .u8 0)).length)).toArray, ?_, ⟨?_, .inr ⟨g, cap, _, rfl, hbg, setRow_heap w g cur _ 5 _ hg, hroom, hcm, ?_, ?_⟩⟩, ⟨rfl, rfl, rfl, by simp, fun k _ hk => setRow_other w g k _ (fun e => hk (by simp [e]))⟩⟩
      · simp [Builtin.append_, run_underlying Tryd.underlying76, run_underlying Tryd.underlying3, sizeOf, typeInfo, zeroValue, hi, hz0, hz1, hz2, asInt, asIntOf, hw, hneg, h48i, hk0, hroom, hzc, Addr.add_lit, hst]
      · simp [cellsOf, hl]
      · simp only [List.size_toArray, List.length_append, List.length_take, List.length_drop, Array.length_toList, List.length_replicate]
        omega
      · simp only [Nat.mul_one] at htake ⊢
        rw [htake]
        have e : cellsOf (l ++ List.replicate k 0) = cellsOf l ++ List.replicate k (Value.int .u8 0) := by simp [cellsOf]
        rw [e]
        have hlen : (cellsOf l ++ List.replicate k (Value.int .u8 0)).length = n + k := by simp [cellsOf, hl]
        rw [← hlen]
        exact List.take_left
theorem run_zeros_int (w : World) (base ty g n k cap : Nat) (m : Int) (N : Nat) (hm : m = ((k - n : Nat) : Int)) (hown : w.ownsRow base 5 1 (.slice (some ⟨g, 0, none⟩) n cap) n (cellsOf (Um.lit N n))) (hnk : n ≤ k) (hroom : k ≤ cap) (hk : k < 281474976710656) (hN : N < 2 ^ (8 * n)) :
    ∃ w', (Builtin.append_ #[76, 3] ty #[.slice (some ⟨g, 0, none⟩) n cap, .int .i64 m]).run Tryd.prog w = .ok (.slice (some ⟨g, 0, none⟩) k cap) w' ∧
      w'.ownsRow base 5 1 (.slice (some ⟨g, 0, none⟩) k cap) k (cellsOf (Um.lit N k)) ∧ w.grownBy w' (some g) := by
  subst hm
  have h := run_zeros_fit w base ty g n (k - n) cap (Um.lit N n) hown (by omega) (by omega)
  rw [← Um.lit_zeros N n (k - n) hN, show n + (k - n) = k by omega] at h
  exact h
theorem or64 (a b : Nat) (ha : a < 18446744073709551616) (hb : b < 18446744073709551616) : bits .or .u64 (a : Int) (b : Int) = ((a ||| b : Nat) : Int) := u64_or_nat a b ha hb
theorem or_shift {r x h : Nat} (hr : r < 2 ^ h) (hx : x < 4294967296) (hh : h < 8) : bits .or .u64 (r : Int) (IntKind.u64.wrap ((x : Int) * 2 ^ h)) = ((r + x * 2 ^ h : Nat) : Int) := by
  have h8 : 2 ^ h ≤ 2 ^ 8 := Nat.pow_le_pow_right (by omega) (by omega)
  have hm : x * 2 ^ h ≤ 4294967296 * 256 := Nat.mul_le_mul (by omega) (by simpa using h8)
  have e : (x : Int) * 2 ^ h = ((x * 2 ^ h : Nat) : Int) := by simp
  have e2 : IntKind.u64.wrap ((x : Int) * 2 ^ h) = ((x * 2 ^ h : Nat) : Int) := by
    rw [e, IntKind.wrap_u64]; omega
  rw [e2, or64 r _ (by have : 2 ^ 8 = 256 := rfl; omega) (by omega), Um.or_above hr]
theorem below_fit {B : Nat} {w wr w1 : World} {o : Obj} {g e n c : Nat} {xs : List Value} (hb : Below B w wr) (hB : B ≤ w.heap.size) (hown : wr.ownsRow B e 1 (.slice (some ⟨g, 0, none⟩) n c) n xs) (hg : (wr.alloc o).grownBy w1 (some g)) : Below B w w1 :=
  below_app hb hB hown hg
theorem own_lit_snoc {w : World} {base e N q : Nat} {v : Value} {n : Int} (hn : n = (Um.by_ N q : Nat)) (h : w.ownsRow base e 1 v (q + 1) (cellsOf (Um.lit N q) ++ [.int .u8 n])) : w.ownsRow base e 1 v (q + 1) (cellsOf (Um.lit N (q + 1))) := by
  have hlt := Um.by_lt N q
  rw [Um.lit_succ, cells_snoc, Um.bt_int (by omega) (by omega), ← hn]; exact h
set_option maxHeartbeats 1600000 in
set_option maxRecDepth 100000 in
theorem pack_any (ns : List Nat) (wd size : Nat) (a : Option Addr) (c : Nat) (w : World) (hlen : ns.length ≤ 20000) (hwd : wd ≤ 32) (hns : ∀ x ∈ ns, x < 2 ^ wd)
    (hsz : (wd * ns.length + 7) / 8 ≤ size) (hsz2 : size ≤ 1000000)
    (ha : ∀ j (h : j < ns.length), ∃ b o, a = some ⟨b, o, none⟩ ∧ w.cell? ⟨b, o + j, none⟩ = some (.int .i64 (ns[j] : Nat))) :
    Calls Tryd.prog 66 #[.slice a ns.length c, .int .i64 wd, .int .i64 size] w fun e w' =>
      (e = .returned (.slice (some ⟨w.heap.size, 0, none⟩) size size) ∧ w'.ownsRow w.heap.size 5 1 (.slice (some ⟨w.heap.size, 0, none⟩) size size) size (cellsOf (Um.lit (Um.num wd ns) size))) ∧ Below w.heap.size w w' := by
  obtain ⟨i0, hi, hz0, hz1, hz2⟩ := info_parts Tryd.info5
  obtain ⟨M, hM⟩ : ∃ M, M = madeCells (Value.int .u8 0).cells (((size : Nat) : Int).toNat * i0.size) := ⟨_, rfl⟩
  have hMs : M.size = size := by rw [hM, size_madeCells, hz1]; simp
  have hmk : ∀ W : World, (Instr.makeSlice 76 (.int .i64 0) (.int .i64 (size : Int))).run Tryd.prog W = .ok (.slice (some ⟨W.heap.size, 0, none⟩) 0 size) (W.alloc (.cells M 5)) := fun W => by
    have h := run_make (P := Tryd.prog) W 76 5 i0 (.int .u8 0) Tryd.underlying76 hi hz0 .i64 .i64 0 (size : Int) (by omega) (by omega) (by rw [hz2]; omega) (by omega)
    rw [← hM] at h
    simpa using h
  have HS : Hid ((w.alloc (.cells M 5)).ownsRow w.heap.size 5 1 (.slice (some ⟨w.heap.size, 0, none⟩) 0 size) 0 (cellsOf [])) := World.ownsRow_made w M size (Nat.le_refl _) (by unfold maxLen; omega) (by omega)
  have HA : Hid (∀ j (h : j < ns.length), ∃ b o, a = some ⟨b, o, none⟩ ∧ w.cell? ⟨b, o + j, none⟩ = some (.int .i64 (ns[j] : Nat))) := ha
  have HNS : Hid (∀ x ∈ ns, x < 2 ^ wd) := hns
  obtain ⟨T, HT⟩ : ∃ T, Hid (T = wd * ns.length) := ⟨_, rfl⟩
  rw [← HT.out] at hsz
  clear hM hMs ha hns
  go_enter Tryd.func66, Tryd.ntmps66
  go_wp2
  clear hmk
  go_loopw [7, 8, 9, 16] (fun b r h i wr => ∃ k q r' h' : Nat, k ≤ ns.length ∧ i = .int .i64 k ∧ b = .slice (some ⟨w.heap.size, 0, none⟩) q size ∧ r = .int .u64 r' ∧ h = .int .i64 h' ∧ h' < 8 ∧ Hid (8 * q + h' = wd * k) ∧ Hid (r' = Um.num wd (ns.take k) / 2 ^ (8 * q)) ∧
      Hid (wr.ownsRow w.heap.size 5 1 (.slice (some ⟨w.heap.size, 0, none⟩) q size) q (cellsOf (Um.lit (Um.num wd (ns.take k)) q))) ∧ Below w.heap.size w wr) (fun _ _ _ i _ => ns.length - (intOf i).toNat)
  case atStart => exact ⟨0, 0, 0, 0, Nat.zero_le _, rfl, rfl, rfl, rfl, by omega, rfl, by show _ = _; simp [Um.num], HS, (Below.refl _ _).alloc (Nat.le_refl _) _⟩
  case round =>
    obtain ⟨k, q, r, h, hk, rfl, rfl, rfl, rfl, hh, HB, HR, HO, hb⟩ := hrel
    by_cases hlt : k < ns.length
    · obtain ⟨b, o, rfl, hc⟩ := HA.out k hlt
      have hc := (hb.cell (World.block_lt_of_cell? w _ hc)).trans hc
      have hx : ns[k] < 2 ^ wd := HNS.out _ (List.getElem_mem hlt)
      have HN1 : Hid (Um.num wd (ns.take (k + 1)) = Um.num wd (ns.take k) + ns[k] * 2 ^ (wd * k)) := Um.num_take wd ns k hlt
      have HNL : Hid (Um.num wd (ns.take (k + 1)) < 2 ^ (wd * (k + 1))) := Um.num_take_lt wd ns (k + 1) HNS.out hlt
      have hN0 := Um.num_take_lt wd ns k HNS.out hk
      generalize ns[k] = x at hc hx HN1
      have hw2 : 2 ^ wd ≤ 4294967296 := Nat.le_trans (Nat.pow_le_pow_right (by omega) hwd) (by decide)
      have hx4 : x < 4294967296 := by omega
      have hkT : wd * (k + 1) ≤ T := by rw [HT.out]; exact Nat.mul_le_mul_left _ hlt
      have hrl : r < 2 ^ h := by
        rw [HR.out, show h = wd * k - 8 * q by have := HB.out; omega]
        exact Um.above_lt hN0 (by have := HB.out; omega)
      have hor := or_shift hrl hx4 hh
      have HR1 : Hid (r + x * 2 ^ h = Um.num wd (ns.take (k + 1)) / 2 ^ (8 * q)) := by
        show _ = _
        rw [HN1.out, Um.above_add _ _ _ _ (by have := HB.out; omega), ← HR.out, show wd * k - 8 * q = h by have := HB.out; omega]
      have HO1 : Hid (wr.ownsRow w.heap.size 5 1 (.slice (some ⟨w.heap.size, 0, none⟩) q size) q (cellsOf (Um.lit (Um.num wd (ns.take (k + 1))) q))) := by
        show World.ownsRow _ _ _ _ _ _ _
        rw [HN1.out, Um.lit_add _ _ _ _ (by have := HB.out; omega)]
        exact HO.out
      have h8 : 2 ^ h ≤ 256 := Nat.le_trans (Nat.pow_le_pow_right (n := 2) (by omega) (show h ≤ 8 by omega)) (by decide)
      have hm : x * 2 ^ h ≤ 4294967296 * 256 := Nat.mul_le_mul (by omega) h8
      have hr1 : r + x * 2 ^ h < 18446744073709551616 := by omega
      have HB1 : Hid (8 * q + (h + wd) = wd * (k + 1)) := by show _ = _; rw [Nat.mul_add, ← HB.out]; omega
      clear HN1 hN0 hrl h8 hm HO HR HB hx hw2
      generalize hN : Um.num wd (ns.take (k + 1)) = N at HNL HR1 HO1
      have HN : Hid (Um.num wd (ns.take (k + 1)) = N) := hN
      generalize hBe : wd * (k + 1) = B at HNL hkT HB1
      have HBe : Hid (wd * (k + 1) = B) := hBe
      clear hN hBe
      go_wp2
      clear hor hc
      go_loopw [7, 8, 9] (fun b r h wr => ∃ q r' h' : Nat, b = .slice (some ⟨w.heap.size, 0, none⟩) q size ∧ r = .int .u64 r' ∧ h = .int .i64 h' ∧ h' < 100 ∧ r' < 18446744073709551616 ∧ Hid (8 * q + h' = B) ∧ Hid (r' = N / 2 ^ (8 * q)) ∧
        Hid (wr.ownsRow w.heap.size 5 1 (.slice (some ⟨w.heap.size, 0, none⟩) q size) q (cellsOf (Um.lit N q))) ∧ Below w.heap.size w wr) (fun _ _ h _ => (intOf h).toNat)
      case atStart => exact ⟨q, r + x * 2 ^ h, h + wd, rfl, by simp, by go_num, by omega, hr1, HB1, HR1, HO1, hb⟩
      case round =>
        clear HR1 HO1 HB1 hb hh hr1
        obtain ⟨q, r, h, rfl, rfl, rfl, hh, hr1, HB1, HR, HO, hb⟩ := hrel
        have hq := HB1.out
        have hby : ((r : Int) % 256) = ((Um.by_ N q : Nat) : Int) := by rw [HR.out]; unfold Um.by_; simp
        by_cases h8 : 8 ≤ h
        · have hown := HO.out
          go_wp2_with (at_builtin; refine wpList_append_fits _ rfl _ _ 76 rfl w.heap.size 5 i0 1 Tryd.underlying76 hi hz1 w.heap.size q size _ rfl (hown.alloc _) ⟨_, 0, none⟩ 1 1 [.int .u8 ((Um.by_ N q : Nat) : Int)] rfl rfl (cell_one_new _ _ _) (by intro u hu; simp at hu; subst hu; rfl) (by omega) ?_; intro w1 hown' hgrow)
          have hown2 := own_lit_snoc rfl hown'
          have hb2 := below_fit hb (Nat.le_refl _) hown hgrow
          go_wp2
          go_roundw
          case rel => exact ⟨q + 1, r / 256, h - 8, rfl, by go_num, by go_num, by omega, by omega, by show _ = _; omega, by show _ = _; rw [HR.out, Um.div_step], hown2, hb2⟩
          case measure => simp [intOf]; omega
        · go_wp2
          go_roundw
          case rel => exact ⟨k + 1, q, r, h, by omega, by go_num, rfl, rfl, rfl, by omega, by rw [HBe.out]; exact HB1, by rw [HN.out]; exact HR, by rw [HN.out]; exact HO, hb⟩
          case measure => simp [intOf]; omega
    · obtain rfl : k = ns.length := by omega
      rw [List.take_length] at HR HO
      have hN0 := Um.num_lt wd ns HNS.out
      rw [← HT.out] at HB hN0
      have hq := HB.out
      generalize hNe : Um.num wd ns = N at HR HO hN0
      have HNe : Hid (Um.num wd ns = N) := hNe
      clear hNe
      by_cases h0 : 0 < h
      · have hown := HO.out
        have hby : ((r : Int) % 256) = ((Um.by_ N q : Nat) : Int) := by rw [HR.out]; unfold Um.by_; simp
        have hr1 : r < 18446744073709551616 := by
          have h1 : r < 2 ^ h := by rw [HR.out, show h = T - 8 * q by omega]; exact Um.above_lt hN0 (by omega)
          have h8 : 2 ^ h ≤ 256 := Nat.le_trans (Nat.pow_le_pow_right (n := 2) (by omega) (show h ≤ 8 by omega)) (by decide)
          omega
        have hN1 : N < 2 ^ (8 * (q + 1)) := Nat.lt_of_lt_of_le hN0 (Nat.pow_le_pow_right (by omega) (by omega))
        go_wp2_with (at_builtin; first | (refine wpList_append_fits _ rfl _ _ 76 rfl w.heap.size 5 i0 1 Tryd.underlying76 hi hz1 w.heap.size q size _ rfl (hown.alloc _) ⟨_, 0, none⟩ 1 1 [.int .u8 ((Um.by_ N q : Nat) : Int)] rfl rfl (cell_one_new _ _ _) (by intro u hu; simp at hu; subst hu; rfl) (by omega) ?_; intro w1 hown' hgrow; have hown2 := own_lit_snoc rfl hown'; have hb2 := below_fit hb (Nat.le_refl _) hown hgrow) | (obtain ⟨w2, hrun, hown3, hg3⟩ := run_zeros_int w1 w.heap.size 76 w.heap.size (q + 1) size size ((size : Int) - ((q : Int) + 1)) N (by omega) hown2 (by omega) (Nat.le_refl _) (by omega) hN1; refine Lib.wpList_append_run _ rfl _ _ 76 3 rfl _ _ rfl rfl _ _ hrun ?_))
        go_ret
        exact ⟨⟨rfl, by rw [HNe.out]; exact hown3⟩, hb2.grown hg3 hb2.size (fun k hk => (hown2.lt k hk).1)⟩
      · have hown := HO.out
        have hN1 : N < 2 ^ (8 * q) := Nat.lt_of_lt_of_le hN0 (Nat.pow_le_pow_right (by omega) (by omega))
        obtain rfl : h = 0 := by omega
        go_wp2_with (at_builtin; (obtain ⟨w2, hrun, hown3, hg3⟩ := run_zeros_int wr w.heap.size 76 w.heap.size q size size ((size : Int) - (q : Int)) N (by omega) hown (by omega) (Nat.le_refl _) (by omega) hN1; refine Lib.wpList_append_run _ rfl _ _ 76 3 rfl _ _ rfl rfl _ _ hrun ?_))
        go_ret
        exact ⟨⟨rfl, by rw [HNe.out]; exact hown3⟩, hb.grown hg3 hb.size (fun k hk => (hown.lt k hk).1)⟩
end Go.Proofs.YtjchkhdmjbojjaaDoor
