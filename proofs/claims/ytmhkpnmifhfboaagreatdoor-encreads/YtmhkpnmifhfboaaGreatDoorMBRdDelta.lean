/-
  enc.ReadDelta: the numbers that bytes say by their differences; they are what writes the same bytes.
  What Delta writes is read: the bytes of numbers by their differences lead back to them.
  The reference's ReadPlainOf of numbers 0 and 1; ReadPlainOf at any kind.
  What numbers bytes are by their differences: steps of the reading, without the program.
-/
import Derived.Test.YtmhkpnmifhfboaaGreatDoorMRdSteps
import Derived.Test.YtmhkpnmifhfboaaGreatDoorMBRdBools
import Derived.Test.YtmhkpnmifhfboaaGreatDoorMBUnpack
import Derived.Test.YtmhkpnmifhfboaaGreatDoorMBUnlikeOf
import Derived.Test.YtmhkpnmifhfboaaGreatDoorMBUnpackF
namespace Go.Proofs.YtmhkpnmifhfboaaGreatDoor
open Go.RowKit
/-- Which numbers bytes are, by their differences. -/
def IsDl (kd : Int) (s : List UInt8) (n : Nat) (vs : List Vl) : Prop := ∃ xs, rdSteps s n = some xs ∧ xs.length = n ∧ vs = kvs kd xs ∧ (∀ x ∈ xs, -9223372036854775808 ≤ x ∧ x ≤ 9223372036854775807) ∧ (∀ j (h : j < vs.length), vs[j].Ok kd) ∧ deltaB vs = s
theorem bytes_back (s : ByteArray) (l : List UInt8) (h : (⟨l.toArray⟩ : ByteArray) = s) : l = s.data.toList := by
  subst h
  simp
theorem bytes_to (s : ByteArray) (l : List UInt8) (h : l = s.data.toList) : (⟨l.toArray⟩ : ByteArray) = s := by
  subst h
  rfl
set_option maxRecDepth 100000 in
set_option maxHeartbeats 1600000 in
theorem readDelta_any (kd : Int) (s : ByteArray) (n : Nat) (w : World) (st kt : TypeId) (sp kp : Value) (hg : w.cell? ⟨3, 0, none⟩ = some (.iface st sp)) (hgk : w.cell? ⟨1, 0, none⟩ = some (.iface kt kp)) (hs : s.size ≤ 1000000) (hn : n ≤ 20000) (hk : kd = 2 ∨ kd = 3) :
    Calls Tryz.prog 18 #[.int .i64 kd, .string s, .int .i64 n] w fun e w' => RetRd (IsDl kd s.data.toList n) n (.iface st sp) e w' ∧ Below w.heap.size w w' := by
  have HG : Hid _ := hg
  have HGK : Hid _ := hgk
  have HK : Hid (kd = 2 ∨ kd = 3) := hk
  have hd : decide (kd = 2 ∨ kd = 3) = true := by simp [hk]
  have hk1 : 1 ≤ kd ∧ kd ≤ 5 := by omega
  clear hg hgk hk
  go_enter Tryz.func18, Tryz.ntmps18
  go_wp2_with fail
  refine (checkCount_fine kd n w hk1.1 hk1.2 (by omega) (by omega)).mono ?_
  rintro e w1 ⟨rfl, hw⟩
  obtain rfl := hw.symm
  go_wp2_with fail
  refine (hasDelta_any kd _).mono ?_
  rw [hd]
  rintro e w2 ⟨rfl, hw⟩
  obtain rfl := hw.symm
  go_wp2_with fail
  refine (readSteps_any kd s n w st sp HG.out hs hn).mono ?_
  rintro e w1 ⟨⟨xs, a, c, ho, hxl, hin, rfl, hl⟩ | ⟨ho, rfl⟩, hb1⟩
  · have hgk1 := (hb1.cell (World.block_lt_of_cell? w _ HGK.out)).trans HGK.out
    have hg1 := (hb1.cell (World.block_lt_of_cell? w _ HG.out)).trans HG.out
    have HG1 : Hid _ := hg1
    have HL1 : Hid (LiesV w1 a (kvs kd xs)) := hl
    have hvl : (kvs kd xs).length = n := by rw [kvs_len, hxl]
    have HX1 : Hid (∀ j (h : j < (kvs kd xs).length), -9223372036854775808 ≤ (kvs kd xs)[j].n ∧ (kvs kd xs)[j].n ≤ 9223372036854775807) := fun j h => by
      simp only [kvs, List.getElem_map]
      exact hin _ (List.getElem_mem _)
    have HO : Hid (rdSteps s.data.toList n = some xs) := ho
    have HI : Hid (xs.length = n ∧ ∀ x ∈ xs, -9223372036854775808 ≤ x ∧ x ≤ 9223372036854775807) := ⟨hxl, hin⟩
    have HGK1 : Hid _ := hgk1
    clear hg1 hl hin ho hxl hgk1
    by_cases hok : ∀ j (h : j < (kvs kd xs).length), (kvs kd xs)[j].Ok kd
    · have hdr := delta_right a (kvs kd xs) c kd w1 kt kp HGK1.out (by omega) HK.out HL1.out hok HX1.out
      rw [hvl] at hdr
      have HOK : Hid _ := hok
      clear hok
      go_wp2_with fail
      refine hdr.mono ?_
      clear hdr
      rintro e w2 ⟨rfl, hb2⟩
      have hb12 := hb1.trans (hb2.mono hb1.size)
      have hg2 := (hb2.cell (World.block_lt_of_cell? w1 _ HG1.out)).trans HG1.out
      by_cases hq : (⟨(deltaB (kvs kd xs)).toArray⟩ : ByteArray) = s
      · have HI2 : Hid (IsDl kd s.data.toList n (kvs kd xs)) := ⟨xs, HO.out, HI.out.1, rfl, HI.out.2, HOK.out, bytes_back s _ hq⟩
        rw [hq]
        clear hq
        have HL2 : Hid _ := LiesV.keep HL1.out hb2
        go_wp2
        go_ret2
        exact ⟨Or.inl ⟨_, a, c, HI2.out, rfl, HL2.out⟩, hb12⟩
      · have HI2 : Hid (¬ ∃ vs, IsDl kd s.data.toList n vs) := fun ⟨vs, ys, h1, h2, h3, h4, h5, h6⟩ => by
          rw [HO.out] at h1
          injection h1 with h1
          subst h1 h3
          exact hq (bytes_to s _ h6)
        have hq2 : ((⟨(deltaB (kvs kd xs)).toArray⟩ : ByteArray).toList == s.toList) = false := by simp only [beq_eq_false_iff_ne, ne_eq]; exact fun h => hq (str_ext h)
        clear hq
        generalize (⟨(deltaB (kvs kd xs)).toArray⟩ : ByteArray) = t at *
        go_wp2
        go_quiet (fail)
        go_wp2
        go_ret2
        exact ⟨Or.inr ⟨HI2.out, rfl⟩, dN hb12 _⟩
    · have hdf : Calls Tryz.prog 40 #[.int .i64 kd, .slice a n c] w1 fun e w' => (∃ p, e = .returned (.tuple #[.string ⟨#[]⟩, .iface 68 (.pointer (some ⟨p, 0, none⟩))])) ∧ Below w1.heap.size w1 w' := by
        rw [← hvl]
        refine (delta_fault a (kvs kd xs) c kd w1 kt kp HGK1.out (by omega) hk1 HL1.out hok).mono ?_
        rintro e w2 ⟨⟨i, p, hi, rfl, _, _, _, _⟩, hb2⟩
        exact ⟨⟨p, rfl⟩, hb2⟩
      have HI2 : Hid (¬ ∃ vs, IsDl kd s.data.toList n vs) := fun ⟨vs, ys, h1, h2, h3, h4, h5, h6⟩ => by
        rw [HO.out] at h1
        injection h1 with h1
        subst h1 h3
        exact hok h5
      clear hok
      go_wp2_with fail
      refine hdf.mono ?_
      clear hdf
      rintro e w2 ⟨⟨p, rfl⟩, hb2⟩
      have hb12 := hb1.trans (hb2.mono hb1.size)
      have hg2 := (hb2.cell (World.block_lt_of_cell? w1 _ HG1.out)).trans HG1.out
      go_wp2
      go_quiet (fail)
      go_wp2
      go_ret2
      exact ⟨Or.inr ⟨HI2.out, rfl⟩, dN hb12 _⟩
  · have HI2 : Hid (¬ ∃ vs, IsDl kd s.data.toList n vs) := fun ⟨vs, ys, h1, _⟩ => by
      rw [ho] at h1
      cases h1
    clear ho
    go_wp2
    go_ret2
    exact ⟨Or.inr ⟨HI2.out, rfl⟩, hb1⟩
set_option maxRecDepth 100000 in
/-- ReadDelta at a kind that has none. -/
theorem readDelta_kind (kd : Int) (s : ByteArray) (n : Nat) (w : World) (kt : TypeId) (kp : Value) (hgk : w.cell? ⟨1, 0, none⟩ = some (.iface kt kp)) (hn : n ≤ 20000) (hk1 : 1 ≤ kd ∧ kd ≤ 5) (hk : ¬ (kd = 2 ∨ kd = 3)) :
    Calls Tryz.prog 18 #[.int .i64 kd, .string s, .int .i64 n] w fun e w' => e = .returned (.tuple #[.slice none 0 0, .iface kt kp]) ∧ Below w.heap.size w w' := by
  have HGK : Hid _ := hgk
  have hd : decide (kd = 2 ∨ kd = 3) = false := by simp only [decide_eq_false_iff_not]; exact hk
  clear hk
  go_enter Tryz.func18, Tryz.ntmps18
  go_wp2_with fail
  refine (checkCount_fine kd n w hk1.1 hk1.2 (by omega) (by omega)).mono ?_
  rintro e w1 ⟨rfl, hw⟩
  obtain rfl := hw.symm
  go_wp2_with fail
  refine (hasDelta_any kd _).mono ?_
  rw [hd]
  rintro e w2 ⟨rfl, hw⟩
  obtain rfl := hw.symm
  go_wp2
  go_quiet (fail)
  go_wp2
  go_ret2
  exact ⟨rfl, dN (Below.refl _ _) _⟩
set_option maxRecDepth 100000 in
/-- ReadDelta at a kind or a count that is none. -/
theorem readDelta_none (kd : Int) (s : ByteArray) (n : Int) (w : World) (kt bt : TypeId) (kp bp : Value) (hgk : w.cell? ⟨1, 0, none⟩ = some (.iface kt kp)) (hgb : w.cell? ⟨2, 0, none⟩ = some (.iface bt bp)) (h : ¬ ((1 ≤ kd ∧ kd ≤ 5) ∧ 0 ≤ n ∧ n ≤ 20000)) :
    Calls Tryz.prog 18 #[.int .i64 kd, .string s, .int .i64 n] w fun e w' => e = .returned (.tuple #[.slice none 0 0, if 1 ≤ kd ∧ kd ≤ 5 then .iface bt bp else .iface kt kp]) ∧ w' = w := by
  have HGK : Hid _ := hgk
  have HGB : Hid _ := hgb
  have HN : Hid (¬ ((1 ≤ kd ∧ kd ≤ 5) ∧ 0 ≤ n ∧ n ≤ 20000)) := h
  clear hgk hgb h
  by_cases hk : 1 ≤ kd ∧ kd ≤ 5
  · rw [if_pos hk]
    have HK : Hid (1 ≤ kd ∧ kd ≤ 5) := hk
    clear hk
    go_enter Tryz.func18, Tryz.ntmps18
    go_wp2_with fail
    refine (checkCount_bound kd n w _ HGB.out HK.out.1 HK.out.2 (fun h => HN.out ⟨HK.out, h⟩)).mono ?_
    rintro e w1 ⟨rfl, hw⟩
    obtain rfl := hw.symm
    go_wp2
    go_ret2
    exact ⟨rfl, rfl⟩
  · rw [if_neg hk]
    have HK : Hid (¬ (1 ≤ kd ∧ kd ≤ 5)) := hk
    clear hk
    go_enter Tryz.func18, Tryz.ntmps18
    go_wp2_with fail
    refine (checkCount_kind kd n w _ HGK.out HK.out).mono ?_
    rintro e w1 ⟨rfl, hw⟩
    obtain rfl := hw.symm
    go_wp2
    go_ret2
    exact ⟨rfl, rfl⟩
end Go.Proofs.YtmhkpnmifhfboaaGreatDoor

namespace Go.Proofs.YtmhkpnmifhfboaaGreatDoor
open Go.RowKit
theorem bt_nat (x : Nat) (h : x < 256) : (Um.bt (x : Int)).toNat = x := by
  unfold Um.bt
  simp
  omega
theorem rdBk_blk (ds : List Int) (r : List UInt8) (h0 : 0 < ds.length) (hx : ∀ d ∈ ds, -9223372036854775808 ≤ d ∧ d ≤ 9223372036854775807) : rdBk (blkB ds ++ r) ds.length = some (ds, (blkB ds).length) := by
  have hlo := hx _ (lows_in h0)
  obtain ⟨ha1, ha2⟩ := abv_lt hx h0
  have hv := Um.rdv_whole (zig (lows ds)) (Um.bt (wdt ds : Nat) :: Um.lit (Um.num (wdt ds) (abv ds)) ((ds.length * wdt ds + 7) / 8) ++ r) (zig_lt hlo.1 hlo.2)
  have he : blkB ds ++ r = Um.uv (zig (lows ds)) ++ (Um.bt (wdt ds : Nat) :: Um.lit (Um.num (wdt ds) (abv ds)) ((ds.length * wdt ds + 7) / 8) ++ r) := by
    unfold blkB
    rw [List.append_assoc]
  have hp : 0 < (Um.uv (zig (lows ds))).length := Um.uv_pos _
  have hgd : ((blkB ds ++ r).getD (Um.uv (zig (lows ds))).length 0).toNat = wdt ds := by
    rw [he, List.getD_eq_getElem?_getD, List.getElem?_append_right (Nat.le_refl _), Nat.sub_self]
    exact bt_nat _ (by omega)
  have hl : (blkB ds).length = (Um.uv (zig (lows ds))).length + 1 + (ds.length * wdt ds + 7) / 8 := by
    unfold blkB
    rw [List.length_append, List.length_cons, Um.lit_len]
    omega
  have hdr : ((blkB ds ++ r).drop ((Um.uv (zig (lows ds))).length + 1)).take ((ds.length * wdt ds + 7) / 8) = Um.lit (Um.num (wdt ds) (abv ds)) ((ds.length * wdt ds + 7) / 8) := by
    rw [he, ← List.drop_drop, List.drop_left]
    simp only [List.cons_append, List.drop_succ_cons, List.drop_zero]
    exact List.take_left' (Um.lit_len _ _)
  unfold rdBk
  simp only
  rw [show Um.rdv (blkB ds ++ r) 0 0 = (zig (lows ds), (Um.uv (zig (lows ds))).length) by rw [he]; exact hv]
  simp only
  rw [hgd, if_pos ⟨hp, by rw [List.length_append, hl]; omega, ha2, by rw [List.length_append, hl]; omega⟩, hdr, hl, unz_zig]
  have hu : unw (Um.lit (Um.num (wdt ds) (abv ds)) ((ds.length * wdt ds + 7) / 8)) (wdt ds) ds.length = abv ds := by
    have h := Um.unp_packed (wdt ds) (abv ds) ((ds.length * wdt ds + 7) / 8) [] ha1 (by rw [abv_len, Nat.mul_comm]; omega)
    rw [List.append_nil, abv_len] at h
    exact h
  have hb : bkd (lows ds) (Um.lit (Um.num (wdt ds) (abv ds)) ((ds.length * wdt ds + 7) / 8)) (wdt ds) ds.length = ds := by
    unfold bkd
    rw [hu]
    unfold abv
    rw [List.map_map]
    refine (List.map_congr_left (fun d hd => ?_)).trans (List.map_id _)
    have h1 := lows_le hd
    have h2 := hx d hd
    simp only [Function.comp_apply, id_eq]
    unfold wrap64
    omega
  rw [hb]
/-- Differences by blocks. -/
def blks : Nat → List Int → List UInt8
  | 0, _ => []
  | m + 1, es => blkB (es.take 32) ++ blks m (es.drop 32)
theorem stepsB_blks : ∀ (m : Nat) (ds : List Int), stepsB ds m = blks m ds
  | 0, _ => rfl
  | m + 1, ds => by
    have ih := stepsB_blks m (ds.drop 32)
    unfold blks
    rw [← ih]
    unfold stepsB
    rw [List.range_succ_eq_map, List.flatMap_cons, List.flatMap_map]
    congr 1
    refine congrArg (fun f => (List.range m).flatMap f) (funext fun j => ?_)
    unfold stepB
    rw [List.drop_drop]
    congr 3
    omega
theorem rdSt_blks (s : List UInt8) : ∀ (m : Nat) (es : List Int) (f u : Nat) (x : Int), s.drop u = blks m es → es.length ≤ 32 * m → 32 * m < es.length + 32 → es.length ≤ f → (∀ d ∈ es, -9223372036854775808 ≤ d ∧ d ≤ 9223372036854775807) → rdSt s f u x es.length = some (accD x es)
  | 0, es, f, u, x, _, h1, _, _, _ => by
    obtain rfl : es = [] := List.eq_nil_of_length_eq_zero (by omega)
    exact rdSt_zero s f u x
  | m + 1, es, f, u, x, hs, h1, h2, hf, hx => by
    obtain ⟨f, rfl⟩ : ∃ g, f = g + 1 := ⟨f - 1, by omega⟩
    have htl : (es.take 32).length = min 32 es.length := List.length_take
    have hb := rdBk_blk (es.take 32) (blks m (es.drop 32)) (by omega) (fun d hd => hx d (List.mem_of_mem_take hd))
    rw [htl] at hb
    have hs2 : s.drop u = blkB (es.take 32) ++ blks m (es.drop 32) := hs
    have hb2 : rdBk (s.drop u) (min 32 es.length) = some (es.take 32, (blkB (es.take 32)).length) := by rw [hs2]; exact hb
    have ih := rdSt_blks s m (es.drop 32) f (u + (blkB (es.take 32)).length) (lastOf x (es.take 32)) (by rw [← List.drop_drop, hs2, List.drop_left]) (by rw [List.length_drop]; omega) (by rw [List.length_drop]; omega) (by rw [List.length_drop]; omega) (fun d hd => hx d (List.mem_of_mem_drop hd))
    rw [rdSt_some (by omega) hb2]
    rw [show es.length - min 32 es.length = (es.drop 32).length by rw [List.length_drop]; omega, ih]
    show some (accD x (es.take 32) ++ accD (lastOf x (es.take 32)) (es.drop 32)) = _
    rw [← accD_app, List.take_append_drop]
theorem accD_difs : ∀ (xs : List Int) (x : Int), (∀ y ∈ x :: xs, -9223372036854775808 ≤ y ∧ y ≤ 9223372036854775807) → accD x ((List.range xs.length).map fun j => wrap64 ((x :: xs).getD (j + 1) 0 - (x :: xs).getD j 0)) = xs
  | [], x, _ => rfl
  | y :: xs, x, h => by
    have hx := h x (by simp)
    have hy := h y (by simp)
    rw [List.length_cons, List.range_succ_eq_map, List.map_cons, List.map_map]
    unfold accD
    have e : wrap64 (x + wrap64 ((x :: y :: xs).getD (0 + 1) 0 - (x :: y :: xs).getD 0 0)) = y := by
      simp only [List.getD_cons_succ, List.getD_cons_zero, Nat.zero_add]
      unfold wrap64
      omega
    rw [e]
    congr 1
    exact accD_difs xs y (fun z hz => h z (by simp only [List.mem_cons] at hz ⊢; exact Or.inr hz))
/-- What Delta writes of right values is read as them. -/
theorem isDl_delta {kd : Int} {vs : List Vl} (hk : kd = 2 ∨ kd = 3) (hr : Right kd vs) : IsDl kd (deltaB vs) vs.length vs := by
  have hkv : vs = kvs kd (vs.map (·.n)) := by
    unfold kvs
    rw [List.map_map]
    refine ((List.map_congr_left (fun v hv => ?_)).trans (List.map_id _)).symm
    have ho := (hr.2 v hv).1
    unfold Vl.Ok OkV at ho
    obtain ⟨k, n, s⟩ := v
    simp only [Function.comp_apply, id_eq] at ho ⊢
    have h0 : s = ⟨#[]⟩ := by
      have hz : s.size = 0 := by omega
      exact ByteArray.ext (Array.eq_empty_of_size_eq_zero hz)
    rw [ho.1, h0]
  have hin : ∀ x ∈ vs.map (·.n), -9223372036854775808 ≤ x ∧ x ≤ 9223372036854775807 := fun x hx => by
    obtain ⟨v, hv, rfl⟩ := List.mem_map.1 hx
    exact (hr.2 v hv).2.2.1
  refine ⟨vs.map (·.n), ?_, by simp, hkv, hin, fun j h => (hr.2 _ (List.getElem_mem h)).1, rfl⟩
  unfold rdSteps
  by_cases h0 : vs.length = 0
  · rw [if_pos h0, List.eq_nil_of_length_eq_zero h0]; rfl
  · rw [if_neg h0]
    obtain ⟨v, us, rfl⟩ : ∃ v us, vs = v :: us := by
      cases vs with
      | nil => exact absurd rfl h0
      | cons v us => exact ⟨v, us, rfl⟩
    have hv := hin v.n (by simp)
    have hd : deltaB (v :: us) = Um.uv (zig v.n) ++ blks ((us.length + 31) / 32) (difs (v :: us)) := by
      rw [← stepsB_blks]
      unfold deltaB
      rw [if_neg h0]
      simp [vns]
    have hvr := Um.rdv_whole (zig v.n) (blks ((us.length + 31) / 32) (difs (v :: us))) (zig_lt hv.1 hv.2)
    have hlen : (difs (v :: us)).length = us.length := by rw [difs_len]; simp
    simp only
    rw [hd, hvr]
    simp only
    rw [if_pos (Um.uv_pos _), unz_zig, List.length_cons, Nat.add_sub_cancel]
    have hm := rdSt_blks (Um.uv (zig v.n) ++ blks ((us.length + 31) / 32) (difs (v :: us))) ((us.length + 31) / 32) (difs (v :: us)) (us.length + 1) (Um.uv (zig v.n)).length v.n List.drop_left (by omega) (by omega) (by omega) difs_ok
    rw [hlen] at hm
    rw [hm]
    have ha := accD_difs (us.map (·.n)) v.n (fun y hy => hin y (by simpa using hy))
    have hdf : difs (v :: us) = (List.range (us.map (·.n)).length).map fun j => wrap64 ((v.n :: us.map (·.n)).getD (j + 1) 0 - (v.n :: us.map (·.n)).getD j 0) := by
      unfold difs dif vns
      simp
    rw [hdf, ha]
    rfl
end Go.Proofs.YtmhkpnmifhfboaaGreatDoor

namespace Go.Proofs.YtmhkpnmifhfboaaGreatDoor
open Go.RowKit
theorem bvs_bit (l : List UInt8) (n i : Nat) : (Um.unp l 1 n).getD i 0 < 2 := by
  by_cases h : i < (Um.unp l 1 n).length
  · have := Um.unp_lt l 1 n (Um.unp l 1 n)[i] (List.getElem_mem h)
    simpa [List.getD, h] using this
  · simp [List.getD, h]
/-- The first so many of them. -/
def bvp (l : List UInt8) (n i : Nat) : List Vl := (List.range i).map fun i => ⟨1, ((Um.unp l 1 n).getD i 0 : Nat), ⟨#[]⟩⟩
theorem bvp_len (l : List UInt8) (n i : Nat) : (bvp l n i).length = i := by simp [bvp]
theorem bvp_snoc (l : List UInt8) (n i : Nat) : bvp l n (i + 1) = bvp l n i ++ [⟨1, ((Um.unp l 1 n).getD i 0 : Nat), ⟨#[]⟩⟩] := by
  unfold bvp
  rw [List.range_succ, List.map_append]
  rfl
theorem bvp_right (l : List UInt8) (n : Nat) : Right 1 (bvp l n n) := by
  refine ⟨by omega, fun v hm => ?_⟩
  obtain ⟨i, _, rfl⟩ := List.mem_map.1 hm
  have := bvs_bit l n i
  refine ⟨?_, ⟨by simp, by simp only; omega, Nat.zero_le _⟩⟩
  show OkV 1 1 (((Um.unp l 1 n).getD i 0 : Nat) : Int) 0
  unfold OkV
  omega
set_option maxRecDepth 100000 in
set_option maxHeartbeats 1600000 in
theorem plOf_bools (s : ByteArray) (n : Nat) (w : World) (hs : s.size ≤ 1000) (hn : n ≤ 20000) :
    Calls Tryz.prog 22 #[.int .i64 1, .string s, .int .i64 n] w fun e w' => RetOk (IsPl 1 s.data.toList n) e w' ∧ Below w.heap.size w w' := by
  obtain ⟨iv, hvi, hv0, hv1, hv2⟩ := info_parts Tryz.infoV
  have HLen : Hid (s.data.toList.length = s.size) := Array.length_toList
  have h1 := unpackOf_any s 1 n w (by omega) (by omega) (by omega)
  go_enter Tryz.func22, Tryz.ntmps22
  go_wp2_with fail
  refine h1.mono ?_
  clear h1
  rintro e w1 ⟨⟨hfit, a1, c1, rfl, hl1, _⟩ | ⟨hfit, rfl⟩, hb1⟩
  rotate_left
  · have HNo : Hid (¬ ∃ vs, IsPl 1 s.data.toList n vs) := notPl_bools (Or.inl (by rw [HLen.out]; omega))
    clear hfit
    go_wp2
    go_ret2
    exact ⟨Or.inr ⟨HNo.out, _, _, _, rfl⟩, hb1⟩
  have HL : Hid (∀ j, j < n → ∃ b o, a1 = some ⟨b, o, none⟩ ∧ w1.cell? ⟨b, o + j, none⟩ = some (.int .u64 (((Um.unp s.data.toList 1 n).getD j 0 : Nat) : Int))) := fun j hj => by
    obtain ⟨b, o, e, hc⟩ := hl1 j (by rw [u64s_len, Um.unp_len]; exact hj)
    refine ⟨b, o, e, ?_⟩
    rw [hc]
    have hj2 : j < (Um.unp s.data.toList 1 n).length := by rw [Um.unp_len]; exact hj
    simp [u64s, List.getD, hj2]
  clear hl1 hfit
  go_wp2_with fail
  go_loopw [8, 11] (fun o x wr => ∃ (i : Nat), i ≤ n ∧ x = .int .i64 i ∧ Hid (VOw w1 o wr (bvp s.data.toList n i))) (fun _ x _ => n - (intOf x).toNat)
  case atStart => exact ⟨0, Nat.zero_le _, rfl, VOw.start w1⟩
  case round =>
    obtain ⟨i, hik, rfl, HV⟩ := hrel
    have hb := HV.out.old
    have hbb := hb1.trans (hb.mono hb1.size)
    by_cases hlt : i < n
    · obtain ⟨b, o, rfl, hc0⟩ := HL.out i hlt
      have hc := (hb.cell (World.block_lt_of_cell? w1 _ hc0)).trans hc0
      have HVS := bvp_snoc s.data.toList n i
      have hbit := bvs_bit s.data.toList n i
      generalize (Um.unp s.data.toList 1 n).getD i 0 = x at *
      have HVS2 : Hid _ := HVS
      have hwx : IntKind.i64.wrap (x : Int) = (x : Int) := by rw [IntKind.wrap_i64]; omega
      have HTL : Hid ((bvp s.data.toList n i).length = i) := bvp_len _ _ _
      clear hc0 HVS
      go_wp2_with (at_builtin; refine wpList_append_own _ rfl _ _ 26 rfl w1.heap.size 40 iv (.agg #[.int .i64 0, .int .i64 0, .string ⟨#[]⟩]) 3 32 Tryz.underlying26 hvi hv0 hv1 hv2 rfl (by decide) _ _ (vcells (bvp s.data.toList n i)) rfl (HV.out.row.alloc _) ⟨_, 0, none⟩ 1 1 [.int .i64 1, .int .i64 (x : Int), .string ⟨#[]⟩] rfl rfl three_cells (by intro u hu; simp at hu; rcases hu with rfl | rfl | rfl <;> rfl) (by have := HTL.out; unfold maxLen; omega) (by have := HTL.out; omega) (by have := HV.out.old.size; simp at this ⊢; omega) ?_; intro v1 w2 hown1 hgrow1 _; have HV2 : Hid (VOw w1 v1 w2 (bvp s.data.toList n i ++ [⟨1, (x : Int), ⟨#[]⟩⟩])) := HV.out.push (v := ⟨1, (x : Int), ⟨#[]⟩⟩) hown1 hgrow1)
      go_roundw
      case rel => exact ⟨i + 1, by omega, by go_num, by rw [HVS2.out]; exact HV2⟩
      case measure => simp [intOf]; omega
    · obtain rfl : i = n := by omega
      obtain ⟨a2, c2, rfl, hl2⟩ := liesV_own HV.out.row
      have HL2 : Hid (LiesV wr a2 (bvp s.data.toList i i)) := hl2
      clear hl2
      have hpl := plainOf_any a2 (bvp s.data.toList i i) c2 1 wr (by rw [bvp_len]; exact hn) HL2.out (bvp_right _ _)
      obtain ⟨pb, HPB⟩ : ∃ pb, Hid (pb = plainB 1 (bvp s.data.toList i i)) := ⟨_, rfl⟩
      rw [← HPB.out] at hpl
      go_wp2_with fail
      refine hpl.mono ?_
      clear hpl
      rintro e w3 ⟨rfl, hb3⟩
      have HL3 : Hid (LiesV w3 a2 (bvp s.data.toList i i)) := LiesV.keep HL2.out hb3
      have hb13 := hbb.trans (hb3.mono hbb.size)
      by_cases hq : (⟨pb.toArray⟩ : ByteArray) = s
      · have HY : Hid (IsPl 1 s.data.toList i (bvp s.data.toList i i)) := ⟨bvp_len _ _ _, bvp_right _ _, by rw [← HPB.out]; exact bytes_back s _ hq⟩
        rw [hq]
        clear hq
        go_wp2
        go_ret2
        exact ⟨Or.inl ⟨_, a2, c2, HY.out, rfl, HL3.out⟩, hb13⟩
      · have HNo : Hid (¬ ∃ vs, IsPl 1 s.data.toList i vs) := fun ⟨vs, hI⟩ => hq (bytes_to s _ (by
          rw [HPB.out]
          by_cases hc : s.data.toList.length = (i + 7) / 8 ∧ Um.lev s.data.toList < 2 ^ i
          · exact (isPl_bools hc.1 hc.2).2.2
          · refine absurd ⟨vs, hI⟩ (notPl_bools ?_)
            by_cases h : s.data.toList.length = (i + 7) / 8
            · exact Or.inr fun h2 => hc ⟨h, h2⟩
            · exact Or.inl h))
        have hq2 : ((⟨pb.toArray⟩ : ByteArray).toList == s.toList) = false := by simp only [beq_eq_false_iff_ne, ne_eq]; exact fun h => hq (str_ext h)
        clear hq
        generalize (⟨pb.toArray⟩ : ByteArray) = t at *
        go_wp2
        go_ret2
        exact ⟨Or.inr ⟨HNo.out, _, _, _, rfl⟩, hb13⟩
theorem plOf_any (kd : Int) (s : ByteArray) (n : Nat) (w : World) (hs : s.size ≤ 1000) (hn : n ≤ 20000) (hk1 : 1 ≤ kd) (hk5 : kd ≤ 5) :
    Calls Tryz.prog 22 #[.int .i64 kd, .string s, .int .i64 n] w fun e w' => RetOk (IsPl kd s.data.toList n) e w' ∧ Below w.heap.size w w' := by
  by_cases h1 : kd = 1
  · subst h1
    exact plOf_bools s n w hs hn
  · by_cases h4 : kd = 4
    · subst h4
      exact plOf_texts s n w hs hn
    · exact plOf_nums kd s n w hs hn (by omega)
end Go.Proofs.YtmhkpnmifhfboaaGreatDoor

namespace Go.Proofs.YtmhkpnmifhfboaaGreatDoor
open Go.RowKit
theorem unw_cut (l : List UInt8) (wd p z : Nat) (hz : z ≤ l.length) (h : wd * p ≤ 8 * z) : unw (l.take z) wd p = Um.unp l wd p := by
  unfold unw Um.unp
  refine List.map_congr_left fun i hi => ?_
  have hi := List.mem_range.1 hi
  refine Um.lev_cut l z _ wd hz ?_
  have h2 : wd * (i + 1) ≤ wd * p := Nat.mul_le_mul_left _ hi
  rw [Nat.mul_add, Nat.mul_one] at h2
  omega
theorem last_acc : ∀ (ds : List Int) (xs : List Int) (x : Int), xs.getLast? = some x → (xs ++ accD x ds).getLast? = some (lastOf x ds)
  | [], xs, x, h => by simpa [accD, lastOf] using h
  | d :: ds, xs, x, h => by
    have ih := last_acc ds (xs ++ [wrap64 (x + d)]) (wrap64 (x + d)) (by simp)
    rw [List.append_assoc] at ih
    exact ih
theorem last_get {xs : List Int} {x : Int} (h : xs.getLast? = some x) : ∃ hp : xs.length - 1 < xs.length, xs[xs.length - 1] = x := by
  rw [List.getLast?_eq_getElem?] at h
  obtain ⟨hp, e⟩ := List.getElem?_eq_some_iff.1 h
  exact ⟨hp, e⟩
theorem wrap_three (y ls u : Int) : IntKind.i64.wrap (IntKind.i64.wrap (y + ls) + IntKind.i64.wrap u) = wrap64 (y + wrap64 (ls + wrap64 u)) := by
  simp only [IntKind.wrap_i64]
  unfold wrap64
  omega
/-- Where the reference's reader stands. -/
def RAt (s : ByteArray) (n : Nat) (xs : List Int) (r : ByteArray) : Prop :=
  (xs = [] ∧ r = s) ∨ ∃ lx uz f, xs.getLast? = some lx ∧ r.data.toList = s.data.toList.drop uz ∧ SAt s.data.toList n xs lx uz f
theorem RAt.congr {s : ByteArray} {n : Nat} {xs : List Int} {r r' : ByteArray} (h : RAt s n xs r) (he : r'.data.toList = r.data.toList) : RAt s n xs r' := by
  have e : r' = r := by rw [← ba_mk r', he, ba_mk]
  rw [e]
  exact h
theorem RAt.bad0 {s : ByteArray} {n : Nat} {xs : List Int} {r : ByteArray} {m : Nat} (h : RAt s n xs r) (hl : xs.length < n) (hp : Um.rdv r.data.toList 0 0 = (m, 0)) : rdSteps s.data.toList n = none := by
  rcases h with ⟨rfl, rfl⟩ | ⟨lx, uz, f, h1, h2, h3⟩
  · unfold rdSteps
    have h0 : n ≠ 0 := by intro h; subst h; simp at hl
    rw [if_neg h0]
    simp [hp]
  · refine h3.bad hl ?_
    unfold rdBk
    rw [← h2, hp]
    simp
theorem RAt.first {s : ByteArray} {n : Nat} {r : ByteArray} {m i : Nat} (h : RAt s n [] r) (hl : 0 < n) (hi : 0 < i) (hp : Um.rdv r.data.toList 0 0 = (m, i)) (hm : m < 18446744073709551616) : RAt s n [unz m] (r.extract i r.size) := by
  rcases h with ⟨_, rfl⟩ | ⟨lx, uz, f, h1, h2, h3⟩
  · refine Or.inr ⟨unz m, i, n, by simp, drop_ext r i, ?_, by simp, fun x hx => ?_⟩
    · have h0 : n ≠ 0 := by omega
      unfold rdSteps
      rw [if_neg h0]
      simp only [hp]
      rw [if_pos hi]
      rfl
    · rw [List.mem_singleton.1 hx]; exact unz_in hm
  · simp at h1
/-- What a block says: nothing, where it is none. -/
theorem RAt.bad {s : ByteArray} {n : Nat} {xs : List Int} {r : ByteArray} {m i p : Nat} (h : RAt s n xs r) (hl : xs.length < n) (hx : 0 < xs.length) (hpn : p = min 32 (n - xs.length)) (hp : Um.rdv r.data.toList 0 0 = (m, i))
    (hb : ¬ (i < r.size ∧ (r.data.toList.getD i 0).toNat ≤ 64 ∧ i + 1 + (p * (r.data.toList.getD i 0).toNat + 7) / 8 ≤ r.size)) : rdSteps s.data.toList n = none := by
  rcases h with ⟨rfl, rfl⟩ | ⟨lx, uz, f, h1, h2, h3⟩
  · simp at hx
  · refine h3.bad hl ?_
    rw [← h2, ← hpn]
    unfold rdBk
    rw [hp]
    simp only
    have hz : r.data.toList.length = r.size := Array.length_toList
    rw [hz, if_neg (fun h => hb h.2)]
theorem RAt.some {s : ByteArray} {n : Nat} {xs : List Int} {r : ByteArray} {m i p wd : Nat} (h : RAt s n xs r) (hl : xs.length < n) (hx : 0 < xs.length) (hpn : p = min 32 (n - xs.length)) (hp : Um.rdv r.data.toList 0 0 = (m, i)) (hi : 0 < i)
    (hw : (r.data.toList.getD i 0).toNat = wd) (hb : i < r.size ∧ wd ≤ 64 ∧ i + 1 + (p * wd + 7) / 8 ≤ r.size) :
    ∃ lx, xs.getLast? = Option.some lx ∧ RAt s n (xs ++ accD lx ((Um.unp (r.data.toList.drop (i + 1)) wd p).map fun x : Nat => wrap64 (unz m + wrap64 (x : Int)))) (r.extract (i + 1 + (p * wd + 7) / 8) r.size) := by
  rcases h with ⟨rfl, rfl⟩ | ⟨lx, uz, f, h1, h2, h3⟩
  · simp at hx
  · have hz : r.data.toList.length = r.size := Array.length_toList
    have hk : rdBk (s.data.toList.drop uz) (min 32 (n - xs.length)) = Option.some ((Um.unp (r.data.toList.drop (i + 1)) wd p).map (fun x : Nat => wrap64 (unz m + wrap64 (x : Int))), i + 1 + (p * wd + 7) / 8) := by
      rw [← h2, ← hpn]
      unfold rdBk
      rw [hp]
      simp only
      rw [hz, hw, if_pos ⟨hi, hb⟩]
      unfold bkd
      rw [unw_cut _ _ _ _ (by rw [List.length_drop, hz]; omega) (by rw [Nat.mul_comm]; omega)]
    refine ⟨lx, h1, Or.inr ⟨_, _, _, last_acc _ _ _ h1, ?_, h3.next hl hk⟩⟩
    rw [drop_ext, h2, List.drop_drop]
theorem RAt.fin {s : ByteArray} {n : Nat} {xs : List Int} {r : ByteArray} (h : RAt s n xs r) (hl : xs.length = n) : rdSteps s.data.toList n = Option.some xs ∧ ∀ x ∈ xs, -9223372036854775808 ≤ x ∧ x ≤ 9223372036854775807 := by
  rcases h with ⟨rfl, rfl⟩ | ⟨lx, uz, f, h1, h2, h3⟩
  · subst hl
    exact ⟨by simp [rdSteps], fun x hx => by simp at hx⟩
  · exact ⟨h3.fin hl, h3.ins⟩
end Go.Proofs.YtmhkpnmifhfboaaGreatDoor
